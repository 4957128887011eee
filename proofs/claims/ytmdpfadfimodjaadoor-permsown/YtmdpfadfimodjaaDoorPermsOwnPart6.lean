/-
  Texts joined: PartV, OwnP, OwnQ, ORow, OrbR, OwnA, ShufE, PermsOwn, PartY, OddW.
-/
import Derived.Test.YtmdpfadfimodjaaDoorPermsOwnPart5
import Derived.Shelf.Abstract
import Derived.Lib.AppendZeros
import Derived.Lib.AppendZerosOnto
import Derived.Deep.RegionHeld3
import Derived.Deep.RegionWith
import Derived.ProofKit
import Derived.LaidMore
import Derived.LaidSub
import Derived.OpenShut
import Derived.Stop.Joined
import Derived.Lib.LaidTab
import Derived.SizedLaws
import Derived.Lib.SmallJoins

/-
  parts.Unlike (P22).
-/
namespace Go.Proofs.YtmdpfadfimodjaaDoor
open Go.RowKit

theorem and_tab : ((List.range 41).all fun c => (List.range 6).all fun t => decide ((bits .and .i64 (c : Int) ((2 ^ t : Nat) : Int) != 0) = c.testBit t)) = true := by decide +kernel
theorem and_at {c p : Nat} (hc : c ≤ 40) : (bits .and .i64 (c : Int) ((pwr p : Nat) : Int) != 0) = c.testBit (tz6 p) := by
  have h1 := List.all_eq_true.1 and_tab c (List.mem_range.2 (by omega))
  exact of_decide_eq_true (List.all_eq_true.1 h1 (tz6 p) (List.mem_range.2 (tz6_lt p)))

/-- What comes back: a refusal where one is even, else the unlike numbers. -/
def RetUnlO (w : World) (ns : List Nat) (e : Ending) (w' : World) : Prop :=
  (¬ (∀ x ∈ ns, x % 2 = 1) ∧ e = .returned (.tuple #[.slice none 0 0, .int .i64 3]) ∧ Below w.heap.size w w') ∨ ((∀ x ∈ ns, x % 2 = 1) ∧ RetOwnE w (ofN (unl (fun d => ns.count d) 40)) 0 e w')
def RetUnl (w : World) (ns : List Nat) (e : Ending) (w' : World) : Prop :=
  (¬ (∀ x ∈ ns, x % 2 = 1) ∧ e = .returned (.tuple #[.slice none 0 0, .int .i64 3]) ∧ Below w.heap.size w w') ∨ ((∀ x ∈ ns, x % 2 = 1) ∧ RetInts w (ofN (unl (fun d => ns.count d) 40)) 0 e w')

set_option maxHeartbeats 800000 in
theorem unlike_bad (A : Option Addr) (n c : Nat) (xs : List Int) (w : World) (h : Ints w A n xs) (hm : n ≤ 9223372036854775807) (he : partErr xs ≠ 0) :
    Calls Tryd.prog 23 #[.slice A n c] w fun e w' => e = .returned (.tuple #[.slice none 0 0, .int .i64 (partErr xs)]) ∧ w = w' := by
  generalize hq : partErr xs = er at *
  have he' : (er != 0) = true := by simpa using he
  have HQ := hid hq
  clear hq
  go_enter Tryd.func23, Tryd.ntmps23
  go_wp2_with fail
  refine (pcheck_any A n c xs _ h hm).mono ?_
  rintro e w' ⟨rfl, rfl⟩
  rw [HQ.out]
  go_wp2
  go_ret2
  exact ⟨rfl, rfl⟩

theorem length_unl (c : Nat → Nat) (k : Nat) : (unl c k).length ≤ k := by
  induction k with
  | zero => simp [unl]
  | succ k ih =>
    rw [unl]
    split
    · simp
      exact ih
    · omega

set_option maxHeartbeats 3000000 in
set_option maxRecDepth 100000 in
theorem unlike_own (A : Option Addr) (n c : Nat) (ns : List Nat) (w : World) (h : Ints w A n (ofN ns)) (hp : IsPart (ofN ns)) (ht : Tab64 w) :
    Calls Tryd.prog 23 #[.slice A n c] w (RetUnlO w ns) := by
  have hlen : ns.length = n := by rw [← h.len, length_ofN]
  have hn : n ≤ 40 := by rw [← hlen]; exact part_lenN hp
  have HL := hid hlen
  have HP := hid hp
  have HI := hid h
  have HT := hid ht
  have HX : Hid (∀ k, k < n → 0 < ns.getD k 0 ∧ ns.getD k 0 ≤ 40) := fun k hk => part_mem hp (getD_memN (by omega))
  have HC : Hid (0 < n → ∃ b o, A = some ⟨b, o, none⟩ ∧ b < w.heap.size ∧ ∀ k, k < n → w.cell? ⟨b, o + k, none⟩ = some (.int .i64 ((ns.getD k 0 : Nat) : Int))) := by
    intro h0
    obtain ⟨b, o, e, hb, hc⟩ := h.row h0
    exact ⟨b, o, e, hb, fun k hk => by rw [hc k hk, getD_ofN]⟩
  clear h hp ht hlen
  go_enter Tryd.func23, Tryd.ntmps23
  go_wp2_with fail
  refine (pcheck_any A n c (ofN ns) _ HI.out (by omega)).mono ?_
  rintro e w' ⟨rfl, rfl⟩
  rw [partErr_ok HP.out]
  go_wp2_with fail
  go_loopg [19] n (fun g s wr => ∃ k : Nat, k ≤ n ∧ n - k ≤ g ∧ s = .int .i64 (k : Int) ∧ wr.rowIs w.heap.size 45 41 (fun j => .int .i64 (((ns.take k).count j : Nat) : Int)) ∧ Below w.heap.size w wr ∧ ∀ x ∈ ns.take k, x % 2 = 1)
  case atStart => exact ⟨0, Nat.zero_le _, by omega, rfl, zeros_start w, (Below.refl _ _).alloc (Nat.le_refl _) _, fun x hx => by simp at hx⟩
  case round =>
    obtain ⟨k, hk, hg, rfl, hrow, hbel, hod⟩ := hrel
    have HR := hid hrow
    have HB := hid hbel
    have HOD := hid hod
    clear hrow hbel hod
    by_cases hlt : k < n
    · obtain ⟨b, o, hA, hb, hc⟩ := HC.out (by omega)
      have g1 : wr.cell? ⟨b, o + k, none⟩ = some (.int .i64 ((ns.getD k 0 : Nat) : Int)) := (HB.out.cell (p := ⟨b, o + k, none⟩) hb).trans (hc k hlt)
      have hx := HX.out k hlt
      subst hA
      clear hc
      have hrem : IntKind.i64.wrap (((ns.getD k 0 : Nat) : Int).tmod 2) = ((ns.getD k 0 % 2 : Nat) : Int) := by
        rw [show ((ns.getD k 0 : Nat) : Int).tmod 2 = ((ns.getD k 0 % 2 : Nat) : Int) from rfl, IntWalk.i64_in _ (by omega)]
      have HMEM : Hid (ns.getD k 0 ∈ ns) := getD_memN (by rw [HL.out]; exact hlt)
      have HSN : Hid (∀ j, (ns.take (k + 1)).count j = (ns.take k).count j + (if ns.getD k 0 = j then 1 else 0)) := fun j => by
        rw [take_snocN (by rw [HL.out]; exact hlt), List.count_append, List.count_singleton]
        simp only [beq_iff_eq]
      have HTS : Hid (∀ x ∈ ns.take (k + 1), x ∈ ns.take k ∨ x = ns.getD k 0) := fun x hx => by
        rw [take_snocN (by rw [HL.out]; exact hlt)] at hx
        simpa using hx
      have hcb : (ns.take k).count (ns.getD k 0) ≤ 40 := Nat.le_trans List.count_le_length (by rw [List.length_take]; omega)
      clear HX
      generalize ns.getD k 0 = x at *
      have hx41 : x < 41 := by omega
      have hxi : (x : Int) < 41 := by omega
      rcases Nat.mod_two_eq_zero_or_one x with h2 | h2
      · have HNO : Hid (¬ (∀ x ∈ ns, x % 2 = 1)) := fun h => by
          have := h x HMEM.out
          omega
        rw [h2] at hrem
        go_wp2
        go_ret2
        exact Or.inl ⟨HNO.out, rfl, HB.out⟩
      · rw [h2] at hrem
        have g3 : wr.cell? ⟨w.heap.size, x, none⟩ = some (.int .i64 (((ns.take k).count x : Nat) : Int)) := HR.out.cell hx41
        have f3 : wr.frozen? ⟨w.heap.size, x, none⟩ = false := HR.out.frozen x
        have HUP : Hid (∀ j, (if j = x then Value.int .i64 ((((ns.take k).count x : Nat) : Int) + 1) else .int .i64 (((ns.take k).count j : Nat) : Int)) = .int .i64 (((ns.take (k + 1)).count j : Nat) : Int)) := by
          intro j
          rw [HSN.out j]
          by_cases e : j = x
          · subst e
            rw [if_pos rfl, if_pos rfl]
            rfl
          · rw [if_neg e, if_neg (fun h => e h.symm)]
            rfl
        have HOD2 : Hid (∀ y ∈ ns.take (k + 1), y % 2 = 1) := fun y hy => by
          rcases HTS.out y hy with h3 | h3
          · exact HOD.out y h3
          · rw [h3]
            exact h2
        clear HSN HTS
        generalize (ns.take k).count x = C at *
        go_wp2
        go_roundg (n - (k + 1))
        case measure => omega
        case rel => exact ⟨k + 1, by omega, by omega, by go_num, (HR.out.set x (.int .i64 ((C : Int) + 1))).congr (fun j _ => HUP.out j), HB.out.setCell (Nat.le_refl _) _, HOD2.out⟩
    · have hkn : n = k := by omega
      subst hkn
      have HTK : Hid (ns.take n = ns) := List.take_of_length_le (by rw [HL.out]; exact Nat.le_refl _)
      rw [HTK.out] at HR HOD
      have HCB : Hid (∀ d, ns.count d ≤ 40) := fun d => Nat.le_trans List.count_le_length (by rw [HL.out]; exact hn)
      have hlast := HR.out.lt
      obtain ⟨w1, hw1⟩ : ∃ w1, w1 = wr := ⟨_, rfl⟩
      rw [← hw1] at HR HB hlast
      rw [← hw1]
      clear hw1 hk hg hlt
      obtain ⟨cc, hcq⟩ : ∃ cc : Nat → Nat, cc = fun d => ns.count d := ⟨_, rfl⟩
      have HCQ := hid hcq
      have HCB2 : Hid (∀ d, cc d ≤ 40) := fun d => by rw [HCQ.out]; exact HCB.out d
      have HR2 : Hid (w1.rowIs w.heap.size 45 41 (fun j => .int .i64 ((cc j : Nat) : Int))) := by rw [HCQ.out]; exact HR.out
      clear hcq HR HCB
      have HDL := hid (length_unl cc 40)
      go_wp2_with fail
      go_loopg [8, 9] 40 (fun g v t wr => ∃ (p : Nat) (acc : List Nat), p ≤ 40 ∧ p ≤ g ∧ t = .int .i64 (p : Int) ∧ OwnInts wr (w.heap.size + 1) v (ofN acc) ∧ acc ++ unl cc p = unl cc 40 ∧ Below (w.heap.size + 1) w1 wr)
      case atStart => exact ⟨40, [], by omega, by omega, rfl, OwnInts.nil _ _, rfl, Below.refl _ _⟩
      case round =>
        obtain ⟨p, acc, hp40, hpg, rfl, hown, hacc, hbel⟩ := hrel
        have HO := hid hown
        have HA := hid hacc
        have HB1 := hid hbel
        clear hown hacc hbel
        by_cases hp1 : 1 ≤ p
        · have hpi : (1 : Int) ≤ (p : Int) := by omega
          obtain ⟨q, hq⟩ : ∃ q, p = q + 1 := ⟨p - 1, by omega⟩
          have HQ := hid hq
          have HDQ : Hid (unl cc p = if bitOf cc p then p :: unl cc q else unl cc q) := by rw [hq]; exact rfl
          clear hq
          have HLN : Hid (acc.length ≤ 40) := by
            have e := congrArg List.length HA.out
            rw [List.length_append] at e
            have := HDL.out
            exact show acc.length ≤ 40 by omega
          obtain ⟨_, _, ho40, _⟩ := od_at (show 0 < p by omega) hp40
          go_wp2_with fail
          refine (split_any p _ (HT.out.keep (HB.out.trans (HB1.out.mono (by omega)))) (by omega) hp40).mono ?_
          rintro e w5 ⟨rfl, hb5⟩
          have HSZ1 : Hid (w.heap.size + 1 ≤ wr.heap.size) := Nat.le_trans hlast HB1.out.size
          have HO5 := hid (HO.out.keep hb5)
          have HB5 := hid (HB1.out.trans (hb5.mono HSZ1.out))
          clear hb5 HO HB1
          have g3 : w5.cell? ⟨w.heap.size, odp p, none⟩ = some (.int .i64 ((cc (odp p) : Nat) : Int)) := (HB5.out.cell (p := ⟨w.heap.size, odp p, none⟩) (Nat.lt_succ_self _)).trans (HR2.out.cell (by omega))
          have hoi : ((odp p : Nat) : Int) < 41 := by omega
          have hon : odp p < 41 := by omega
          have hand : (bits .and .i64 ((cc (odp p) : Nat) : Int) ((pwr p : Nat) : Int) != 0) = bitOf cc p := and_at (HCB2.out _)
          generalize hbb : bitOf cc p = bb at *
          generalize odp p = D at *
          generalize pwr p = P at *
          generalize cc D = C at *
          have HSZ : Hid (w.heap.size + 1 ≤ w5.heap.size) := Nat.le_trans hlast HB5.out.size
          clear hbb
          cases bb
          · go_wp2
            go_roundg q
            case measure => have := HQ.out; omega
            case rel =>
              have hq2 := HQ.out
              refine ⟨q, acc, by omega, by omega, ?_, HO5.out, ?_, HB5.out⟩
              · first | rfl | (rw [hq2]; go_num)
              · have := HA.out
                rw [HDQ.out] at this
                exact this
          · have HLL : Hid ((ofN acc).length ≤ 1000000000000) := by
              have := HLN.out
              rw [length_ofN]
              exact show acc.length ≤ 1000000000000 by omega
            have HRP : Hid (ofN acc ++ [(p : Int)] = ofN (acc ++ [p])) := by rw [ofN_append acc [p]]; exact rfl
            generalize ofN acc = zs at *
            go_wp2_with (at_builtin; refine wpList_app1 _ rfl (.tmp 47) (.tmp 49) rfl (w.heap.size + 1) _ zs (p : Int) rfl rfl HO5.out HLL.out HSZ.out ?_)
            intro v' w3 hown3 _ hbel3
            have HO3 := hid hown3
            have HB3 := hid (HB5.out.trans hbel3)
            clear hown3 hbel3 HO5 HB5
            go_wp2
            go_roundg q
            case measure => have := HQ.out; omega
            case rel =>
              have hq2 := HQ.out
              refine ⟨q, acc ++ [p], by omega, by omega, ?_, by rw [← HRP.out]; exact HO3.out, ?_, HB3.out⟩
              · first | rfl | (rw [hq2]; go_num)
              · have := HA.out
                rw [HDQ.out] at this
                rw [List.append_assoc]
                exact this
        · have hp0 : p = 0 := by omega
          subst hp0
          have HE := HA.out
          rw [unl, List.append_nil] at HE
          have HBF := hid (HB.out.trans (HB1.out.mono (by omega)))
          go_wp2
          go_ret2
          exact Or.inr ⟨HOD.out, _, rfl, by rw [← HCQ.out, ← HE]; exact HO.out.mono (Nat.le_succ _), HBF.out⟩
theorem unlike_any (A : Option Addr) (n c : Nat) (ns : List Nat) (w : World) (h : Ints w A n (ofN ns)) (hp : IsPart (ofN ns)) (ht : Tab64 w) :
    Calls Tryd.prog 23 #[.slice A n c] w (RetUnl w ns) := by
  refine (unlike_own A n c ns w h hp ht).mono ?_
  rintro e w' (h1 | ⟨h1, v, rfl, ho, hbel⟩)
  · exact .inl h1
  · obtain ⟨A', c', rfl, hI, hc⟩ := ho.ints
    exact .inr ⟨h1, _, _, _, rfl, hbel, hI, hc⟩

end Go.Proofs.YtmdpfadfimodjaaDoor

/-
  What the functions from one list to one list hand out, whatever comes in: memory of the call's own, no number below nought.
-/
namespace Go.Proofs.YtmdpfadfimodjaaDoor
open Go.RowKit

def RetKeepE (w : World) (er : Int) (e : Ending) (w' : World) : Prop := ∃ v ys, e = .returned (.tuple #[v, .int .i64 er]) ∧ OwnInts w' w.heap.size v ys ∧ Below w.heap.size w w' ∧ ys.length ≤ 1000000 ∧ ∀ y ∈ ys, 0 ≤ y
def RetKeep (w : World) (e : Ending) (w' : World) : Prop := ∃ er, RetKeepE w er e w'

theorem keepE_err {w w' : World} {e : Ending} {er : Int} (h : e = .returned (.tuple #[.slice none 0 0, .int .i64 er])) (hb : Below w.heap.size w w') : RetKeepE w er e w' :=
  ⟨_, [], h, OwnInts.nil _ _, hb, Nat.zero_le _, fun _ h => by cases h⟩
theorem keepE_own {w w' : World} {e : Ending} {er : Int} {ys : List Int} (h : RetOwnE w ys er e w') (hl : ys.length ≤ 1000000) (hy : ∀ y ∈ ys, 0 ≤ y) : RetKeepE w er e w' := by
  obtain ⟨v, he, ho, hb⟩ := h
  exact ⟨v, ys, he, ho, hb, hl, hy⟩
theorem perm_nonneg {p : List Int} (h : IsPerm p) : ∀ y ∈ p, 0 ≤ y := fun _ hy => (h.range hy).1
theorem cast_nonneg {ns : List Nat} : ∀ y ∈ ns.map (fun n : Nat => (n : Int)), 0 ≤ y := fun y hy => by
  obtain ⟨n, _, rfl⟩ := List.mem_map.1 hy
  exact Int.natCast_nonneg n

theorem inverse_keep (A : Option Addr) (n c : Nat) (p : List Int) (w : World) (hA : Ints w A n p) (hn : n ≤ 9223372036854775807) :
    Calls Tryd.prog 10 #[.slice A n c] w (RetKeep w) := by
  by_cases he : permErr p = 0
  · have hp := (permErr_ok.1 he)
    refine (inverse_own A n c p w hA he).mono ?_
    rintro e w' ⟨q, hq, h⟩
    exact ⟨0, keepE_own h (by rw [hq.1]; omega) (perm_nonneg (hq.isPerm hp.2))⟩
  · refine (inverse_err A n c p w hA he hn).mono ?_
    rintro e w' ⟨h, hb⟩
    exact ⟨_, keepE_err h hb⟩
theorem cycles_keep (A : Option Addr) (n c : Nat) (p : List Int) (w : World) (hA : Ints w A n p) (hn : n ≤ 9223372036854775807) :
    Calls Tryd.prog 11 #[.slice A n c] w (RetKeep w) := by
  by_cases he : permErr p = 0
  · have hp := (permErr_ok.1 he)
    refine (cycles_own A n c p w hA he).mono ?_
    rintro e w' ⟨q, hq, h⟩
    refine ⟨0, keepE_own h (by rw [hq.1.length_eq]; have := length_cycL_le p p.length; omega) fun y hy => ?_⟩
    have := hq.1.mem_iff.1 hy
    unfold cycL at this
    obtain ⟨s, _, rfl⟩ := List.mem_map.1 this
    exact Int.natCast_nonneg _
  · refine (cycles_err A n c p w hA he hn).mono ?_
    rintro e w' ⟨h, hb⟩
    exact ⟨_, keepE_err h hb⟩
theorem code_keep (A : Option Addr) (n c : Nat) (p : List Int) (w : World) (hA : Ints w A n p) (hc : n ≤ c) (hn : n ≤ 9223372036854775807) :
    Calls Tryd.prog 12 #[.slice A n c] w (RetKeep w) := by
  by_cases he : permErr p = 0
  · have hp := (permErr_ok.1 he)
    refine (code_own A n c p w hA he hc).mono ?_
    intro e w' h
    refine ⟨0, keepE_own h (by rw [length_codeL]; omega) fun y hy => ?_⟩
    obtain ⟨i, hi, rfl⟩ := mem_getD hy
    rw [length_codeL] at hi
    rw [getD_codeL p i hi]
    exact Int.natCast_nonneg _
  · refine (code_err A n c p w hA he hn).mono ?_
    rintro e w' ⟨h, hb⟩
    exact ⟨_, keepE_err h hb⟩
theorem next_keep (A : Option Addr) (n c : Nat) (p : List Int) (w : World) (hA : Ints w A n p) (hn : n ≤ 9223372036854775807) :
    Calls Tryd.prog 13 #[.slice A n c] w (RetKeep w) := by
  by_cases he : permErr p = 0
  · have hp := (permErr_ok.1 he)
    have hr := rk_lt p
    rw [hA.len] at hr
    by_cases hl : rk p + 1 < fact n
    · refine (next_mine A n c p w hA he hl).mono ?_
      rintro e w' ⟨g, c', q, h, _, ho, hb, hq, _⟩
      exact ⟨0, _, q, h, ho, hb, by rw [hq.length_eq]; omega, fun y hy => perm_nonneg hp.2 y (hq.mem_iff.1 hy)⟩
    · refine (next_last A n c p w hA he (by omega)).mono ?_
      rintro e w' ⟨h, hb⟩
      exact ⟨_, keepE_err h hb⟩
  · refine (next_err A n c p w hA he hn).mono ?_
    rintro e w' ⟨h, hb⟩
    exact ⟨_, keepE_err h hb⟩
theorem lots_keep (A : Option Addr) (n c : Nat) (p : List Int) (w : World) (hA : Ints w A n p) (hn : n ≤ 9223372036854775807) :
    Calls Tryd.prog 14 #[.slice A n c] w (RetKeep w) := by
  refine (shLots_any A n c p w hA hn).mono ?_
  intro e w' h
  by_cases he : permErr p = 0
  · have h2 := lotsErr_ok.1 (lotsErr_lotsX he)
    refine ⟨_, keepE_own h (by omega) fun y hy => ?_⟩
    obtain ⟨i, hi, rfl⟩ := mem_getD hy
    exact (h2.2 i hi).1
  · rw [lotsX_bad he] at h
    exact ⟨_, keepE_own h (Nat.zero_le _) fun _ h => by cases h⟩
theorem deal_keep (A : Option Addr) (n c : Nat) (p : List Int) (w : World) (hA : Ints w A n p) :
    Calls Tryd.prog 15 #[.slice A n c] w (RetKeep w) := by
  refine (shDeal_any A n c p w hA).mono ?_
  intro e w' h
  by_cases he : lotsErr p = 0
  · have h2 := permErr_ok.1 (permErr_dealX he)
    exact ⟨_, keepE_own h (by omega) (perm_nonneg h2.2)⟩
  · rw [dealX_bad he] at h
    exact ⟨_, keepE_own h (Nat.zero_le _) fun _ h => by cases h⟩

theorem line_short {f : Nat → Nat → Bool} {n : Nat} : ∀ {c : List Nat}, Line f n c → ∀ i, c.head? = some i → i + c.length ≤ n
  | [], _, _, h => by cases h
  | i :: c, h, k, hk => by
    obtain rfl : i = k := by simpa using hk
    have h1 := h.head
    match c, h with
    | [], _ => simp; omega
    | j :: d, h =>
      have h2 := h.two.1
      have h3 := line_short h.tail j rfl
      simp only [List.length_cons] at h3 ⊢
      omega
theorem goes_short {f : Nat → Nat → Bool} {n : Nat} {ys : List Int} (h : Goes f n ys) : ys.length ≤ n ∧ ∀ y ∈ ys, 0 ≤ y := by
  obtain ⟨c, rfl, hc⟩ := h
  refine ⟨?_, cast_nonneg⟩
  rw [List.length_map]
  match c, hc.1 with
  | [], _ => exact Nat.zero_le _
  | i :: d, hl => have := line_short hl i rfl; omega

theorem up_keep (A : Option Addr) (n c : Nat) (p : List Int) (w : World) (hA : Ints w A n p) (hn : n ≤ 9223372036854775807) :
    Calls Tryd.prog 16 #[.slice A n c] w (RetKeep w) := by
  by_cases hl : n ≤ 30
  · refine (up_own A n c p w hA hl).mono ?_
    rintro e w' ⟨v, ys, h, ho, hb, hg⟩
    have := goes_short hg
    exact ⟨0, v, ys, h, ho, hb, by omega, this.2⟩
  · refine (up_large A n c w (by omega) hn).mono ?_
    rintro e w' ⟨h, hb⟩
    exact ⟨_, keepE_err h hb⟩
theorem down_keep (A : Option Addr) (n c : Nat) (p : List Int) (w : World) (hA : Ints w A n p) (hn : n ≤ 9223372036854775807) :
    Calls Tryd.prog 17 #[.slice A n c] w (RetKeep w) := by
  by_cases hl : n ≤ 30
  · refine (down_own A n c p w hA hl).mono ?_
    rintro e w' ⟨v, ys, h, ho, hb, hg⟩
    have := goes_short hg
    exact ⟨0, v, ys, h, ho, hb, by omega, this.2⟩
  · refine (down_large A n c w (by omega) hn).mono ?_
    rintro e w' ⟨h, hb⟩
    exact ⟨_, keepE_err h hb⟩
theorem split_keep (A : Option Addr) (n c : Nat) (p : List Int) (w : World) (hA : Ints w A n p) (hn : n ≤ 9223372036854775807) :
    Calls Tryd.prog 18 #[.slice A n c] w (RetKeep w) := by
  by_cases hl : n ≤ 30
  · refine (lsplit_own A n c p w hA hl).mono ?_
    intro e w' h
    exact ⟨0, keepE_own h (by rw [length_pilesI, hA.len]; omega) cast_nonneg⟩
  · refine (lsplit_large A n c w (by omega) hn).mono ?_
    rintro e w' ⟨h, rfl⟩
    exact ⟨_, keepE_err h (Below.refl _ _)⟩
theorem bof_keep (A : Option Addr) (n c : Nat) (p : List Int) (w : World) (hA : Ints w A n p) (hn : n ≤ 9223372036854775807) :
    Calls Tryd.prog 19 #[.slice A n c] w (RetKeep w) := by
  by_cases hl : n ≤ 10
  · refine (bof_own A n c p w hA hl).mono ?_
    intro e w' h
    refine ⟨0, keepE_own h (by rw [length_ofL, hA.len]; omega) fun y hy => ?_⟩
    unfold ofL at hy
    obtain ⟨s, _, rfl⟩ := List.mem_map.1 hy
    exact Int.natCast_nonneg _
  · refine (bof_large A n c w (by omega) hn).mono ?_
    rintro e w' ⟨h, rfl⟩
    exact ⟨_, keepE_err h (Below.refl _ _)⟩
theorem bnext_keep (A : Option Addr) (n c : Nat) (p : List Int) (w : World) (hA : Ints w A n p) (hn : n ≤ 9223372036854775807) :
    Calls Tryd.prog 20 #[.slice A n c] w (RetKeep w) := by
  by_cases he : heapErr p = 0
  · obtain ⟨hl, hr⟩ := heapErr_zero he
    rw [hA.len] at hl
    by_cases hneg : ltg p n < 0
    · refine (bnext_none A n c p w hA hl hr hneg).mono ?_
      rintro e w' ⟨h, rfl⟩
      exact ⟨_, keepE_err h (Below.refl _ _)⟩
    · obtain ⟨L, hL⟩ := Int.eq_ofNat_of_zero_le (show 0 ≤ ltg p n by omega)
      have hLn := (ltg_some hL).1
      have hLp : L < p.length := by rw [hA.len]; exact hLn
      refine (bnext_mine A n c L p w hA hl hr hL).mono ?_
      rintro e w' ⟨g, c', h, _, hb, ho⟩
      refine ⟨0, _, _, h, ho, hb, by rw [length_nextL hLp, hA.len]; omega, fun y hy => ?_⟩
      obtain ⟨i, hi, rfl⟩ := mem_getD hy
      rw [length_nextL hLp] at hi
      rw [getD_nextL hLp]
      have h1 := (hr i hi).1
      have h2 := (hr L hLp).1
      split
      · exact h1
      · split <;> omega
  · refine (bnext_bad A n c p w hA hn he).mono ?_
    rintro e w' ⟨h, rfl⟩
    exact ⟨_, keepE_err h (Below.refl _ _)⟩
theorem turned_keep (A : Option Addr) (n c : Nat) (p : List Int) (w : World) (hA : Ints w A n p) (hn : n ≤ 9223372036854775807) :
    Calls Tryd.prog 21 #[.slice A n c] w (RetKeep w) := by
  by_cases he : partErr p = 0
  · have hp := isPart_of he
    refine (turned_own A n c p w hA hp).mono ?_
    intro e w' h
    refine ⟨0, keepE_own h ?_ fun y hy => ?_⟩
    · rw [length_conj]
      by_cases h0 : 0 < p.length
      · have := hp.le (j := 0) h0
        omega
      · obtain rfl : p = [] := List.eq_nil_of_length_eq_zero (by omega)
        simp
    · unfold conj at hy
      obtain ⟨s, _, rfl⟩ := List.mem_map.1 hy
      exact Int.natCast_nonneg _
  · refine (turned_bad A n c p w hA hn he).mono ?_
    rintro e w' ⟨h, rfl⟩
    exact ⟨_, keepE_err h (Below.refl _ _)⟩
theorem odd_keep (A : Option Addr) (n c : Nat) (p : List Int) (w : World) (hA : Ints w A n p) (hn : n ≤ 9223372036854775807) (ht : Tab64 w) :
    Calls Tryd.prog 22 #[.slice A n c] w (RetKeep w) := by
  by_cases he : partErr p = 0
  · have hp := isPart_of he
    obtain ⟨ns, rfl⟩ := ofN_of hp
    have hl := part_lenN hp
    refine (odd_own A n c ns w hA hp ht).mono ?_
    rintro e w' (⟨_, h, hb⟩ | ⟨_, h⟩)
    · exact ⟨_, keepE_err h hb⟩
    · have hb : ∀ d, cO ns d ≤ 1280 := fun d => by have := cO_le ns d; omega
      have := length_down (c := cO ns) (B := 1280) hb 40
      exact ⟨0, keepE_own h (by rw [length_ofN]; omega) cast_nonneg⟩
  · refine (odd_bad A n c p w hA hn he).mono ?_
    rintro e w' ⟨h, rfl⟩
    exact ⟨_, keepE_err h (Below.refl _ _)⟩
theorem unlike_keep (A : Option Addr) (n c : Nat) (p : List Int) (w : World) (hA : Ints w A n p) (hn : n ≤ 9223372036854775807) (ht : Tab64 w) :
    Calls Tryd.prog 23 #[.slice A n c] w (RetKeep w) := by
  by_cases he : partErr p = 0
  · have hp := isPart_of he
    obtain ⟨ns, rfl⟩ := ofN_of hp
    refine (unlike_own A n c ns w hA hp ht).mono ?_
    rintro e w' (⟨_, h, hb⟩ | ⟨_, h⟩)
    · exact ⟨_, keepE_err h hb⟩
    · have := length_unl (fun d => ns.count d) 40
      exact ⟨0, keepE_own h (by rw [length_ofN]; omega) cast_nonneg⟩
  · refine (unlike_bad A n c p w hA hn he).mono ?_
    rintro e w' ⟨h, rfl⟩
    exact ⟨_, keepE_err h (Below.refl _ _)⟩

theorem times_keep (A : Option Addr) (n c : Nat) (B : Option Addr) (m d : Nat) (a b : List Int) (w : World) (hA : Ints w A n a) (hB : Ints w B m b) (hn : n ≤ 9223372036854775807) (hm : m ≤ 9223372036854775807) :
    Calls Tryd.prog 8 #[.slice A n c, .slice B m d] w (RetKeepE w (timesErr a b)) := by
  by_cases ha : permErr a = 0
  · by_cases hb : permErr b = 0
    · by_cases hl : a.length = b.length
      · have he : timesErr a b = 0 := by unfold timesErr; rw [if_pos ha, if_pos hb, if_pos hl]
        have hnm : m = n := by rw [← hA.len, ← hB.len, hl]
        subst hnm
        rw [he]
        have hp := permErr_ok.1 ha
        have hq := permErr_ok.1 hb
        refine (times_own A m c B d a b w hA hB ha hb).mono ?_
        intro e w' h
        have hi := isPerm_times hp.2 hq.2 hl
        exact keepE_own h (by rw [length_times]; omega) (perm_nonneg hi)
      · have he : timesErr a b = 1 := by unfold timesErr; rw [if_pos ha, if_pos hb, if_neg hl]
        rw [he]
        exact (times_err3 A n c B m d a b w hA hB ha hb (by rw [← hA.len, ← hB.len]; exact hl)).mono fun e w' h => keepE_err h.1 h.2
    · have he : timesErr a b = permErr b := by unfold timesErr; rw [if_pos ha, if_neg hb]
      rw [he]
      exact (times_err2 A n c B m d a b w hA hB ha hb hm).mono fun e w' h => keepE_err h.1 h.2
  · have he : timesErr a b = permErr a := by unfold timesErr; rw [if_neg ha]
    rw [he]
    exact (times_err1 A n c _ a w hA ha hn).mono fun e w' h => keepE_err h.1 h.2

end Go.Proofs.YtmdpfadfimodjaaDoor

/-
  slices.Equal of two rows, however great; the block of the fourteen functions from a list to a list.
-/
namespace Go.Proofs.YtmdpfadfimodjaaDoor
open Go.RowKit

set_option maxHeartbeats 400000 in
theorem equal_big (A1 : Option Addr) (n c : Nat) (A2 : Option Addr) (m d : Nat) (xs ys : List Int) (w : World) (h1 : Ints w A1 n xs) (h2 : Ints w A2 m ys) (hn : n ≤ 17592186044416) (hm : m ≤ 17592186044416) :
    Calls Tryd.prog 24 #[.slice A1 n c, .slice A2 m d] w fun e w' => e = .returned (.bool (decide (xs = ys))) ∧ ∃ q, w' = w.drewN q := by
  by_cases hnm : n = m
  · subst hnm
    go_enter Tryd.func24, Tryd.ntmps24
    go_wp2
    go_loopg [13] n (fun g s13 wr => ∃ k q : Nat, k ≤ n ∧ n - k ≤ g ∧ s13 = .int .i64 k ∧ wr = w.drewN q ∧ ∀ j, j < k → xs.getD j 0 = ys.getD j 0)
    case atStart => exact ⟨0, 0, Nat.zero_le _, by omega, rfl, rfl, fun j hj => absurd hj (Nat.not_lt_zero _)⟩
    case round =>
      obtain ⟨k, q, hk, hg, rfl, rfl, heq⟩ := hrel
      have HE := hid heq
      clear heq
      by_cases hlt : k < n
      · obtain ⟨b1, o1, rfl, _, hc1⟩ := h1.row (by omega)
        obtain ⟨b2, o2, rfl, _, hc2⟩ := h2.row (by omega)
        have g1 := hc1 k hlt
        have g2 := hc2 k hlt
        clear hc1 hc2
        generalize hxk : xs.getD k 0 = x at g1
        generalize hyk : ys.getD k 0 = y at g2
        have HX := hid hxk
        have HY := hid hyk
        clear hxk hyk
        by_cases hxy : x = y
        · subst hxy
          go_wp2_with fail
          go_region
          go_wp2
          go_roundg (n - (k + 1))
          case measure => omega
          case rel =>
            refine ⟨k + 1, q + 1, by omega, by omega, by go_num, rfl, fun j hj => ?_⟩
            by_cases e : j = k
            · subst e
              rw [HX.out, HY.out]
            · exact HE.out j (by omega)
        · go_wp2_with fail
          go_region
          go_wp2
          go_ret
          have hd : decide (xs = ys) = false := decide_eq_false (fun e => by subst e; exact hxy (HX.out.symm.trans HY.out))
          rw [hd]
          exact ⟨rfl, q + 1, rfl⟩
      · have hkn : k = n := by omega
        subst hkn
        go_wp2
        go_ret
        rw [decide_eq_true (getD_take_eq h1.len h2.len HE.out)]
        exact ⟨rfl, q, rfl⟩
  · have hnm' : ¬ (n : Int) = (m : Int) := by omega
    go_enter Tryd.func24, Tryd.ntmps24
    go_wp2
    go_ret
    have hd : decide (xs = ys) = false := decide_eq_false (fun e => by subst e; exact hnm (h1.len.symm.trans h2.len))
    rw [hd]
    exact ⟨rfl, 0, rfl⟩

theorem equal_same (A1 : Option Addr) (n c : Nat) (A2 : Option Addr) (d : Nat) (xs : List Int) (w : World) (h1 : Ints w A1 n xs) (h2 : Ints w A2 n xs) (hn : n ≤ 17592186044416) :
    Calls Tryd.prog 24 #[.slice A1 n c, .slice A2 n d] w fun e w' => e = .returned (.bool true) ∧ Below w.heap.size w w' := by
  refine (equal_big A1 n c A2 n d xs xs w h1 h2 hn hn).mono ?_
  rintro e w' ⟨rfl, q, rfl⟩
  exact ⟨by rw [decide_eq_true rfl], below_drewN (Below.refl _ _) q⟩

theorem run_callFunc_enter {P : Program} {f : FuncId} {fn : Func} (args : Array Value) (W : World) (hf : P.funcs[f]? = some fn) (hn : (fn.name == "runtime.NumGoroutine") = false) (hb : fn.body.isNone = false) :
    (callFunc f args).run P W = .ok (.enter f args) W := by
  have hn' : ¬ fn.name = "runtime.NumGoroutine" := by simpa using hn
  have hb' : ¬ fn.body = none := by intro e; rw [e] at hb; cases hb
  simp [callFunc, go_sem, hf, hn', hb']

def funs : Array Value := #[.func (.func 10) #[] #[], .func (.func 11) #[] #[], .func (.func 12) #[] #[], .func (.func 13) #[] #[], .func (.func 14) #[] #[], .func (.func 15) #[] #[], .func (.func 16) #[] #[], .func (.func 17) #[] #[], .func (.func 18) #[] #[], .func (.func 19) #[] #[], .func (.func 20) #[] #[], .func (.func 21) #[] #[], .func (.func 22) #[] #[], .func (.func 23) #[] #[]]
theorem funs_at (w : World) (t j : Nat) (v : Value) (hv : funs[j]? = some v) : (w.alloc (.cells funs t)).cell? ⟨w.heap.size, j, none⟩ = some v := by
  rw [cell_of_row (w.alloc _) w.heap.size j _ t (0, 0) (heap_alloc_new w _)]
  exact hv

theorem keep_all (A : Option Addr) (n c : Nat) (xs : List Int) (w : World) (h : Ints w A n xs) (hc : n ≤ c) (hn : n ≤ 9223372036854775807) (ht : Tab64 w) :
    ∀ i, i < 14 → ∃ k, funs[i]? = some (.func (.func k) #[] #[]) ∧ ∀ W, Below w.heap.size w W →
      (callFunc k #[.slice A n c]).run Tryd.prog W = .ok (.enter k #[.slice A n c]) W ∧ Calls Tryd.prog k #[.slice A n c] W (RetKeep W)
  | 0, _ => ⟨10, rfl, fun W hb => ⟨run_callFunc_enter _ W Tryd.func10 (by kernel_rfl) (by kernel_rfl), inverse_keep A n c xs W (h.keep hb) hn⟩⟩
  | 1, _ => ⟨11, rfl, fun W hb => ⟨run_callFunc_enter _ W Tryd.func11 (by kernel_rfl) (by kernel_rfl), cycles_keep A n c xs W (h.keep hb) hn⟩⟩
  | 2, _ => ⟨12, rfl, fun W hb => ⟨run_callFunc_enter _ W Tryd.func12 (by kernel_rfl) (by kernel_rfl), code_keep A n c xs W (h.keep hb) hc hn⟩⟩
  | 3, _ => ⟨13, rfl, fun W hb => ⟨run_callFunc_enter _ W Tryd.func13 (by kernel_rfl) (by kernel_rfl), next_keep A n c xs W (h.keep hb) hn⟩⟩
  | 4, _ => ⟨14, rfl, fun W hb => ⟨run_callFunc_enter _ W Tryd.func14 (by kernel_rfl) (by kernel_rfl), lots_keep A n c xs W (h.keep hb) hn⟩⟩
  | 5, _ => ⟨15, rfl, fun W hb => ⟨run_callFunc_enter _ W Tryd.func15 (by kernel_rfl) (by kernel_rfl), deal_keep A n c xs W (h.keep hb) ⟩⟩
  | 6, _ => ⟨16, rfl, fun W hb => ⟨run_callFunc_enter _ W Tryd.func16 (by kernel_rfl) (by kernel_rfl), up_keep A n c xs W (h.keep hb) hn⟩⟩
  | 7, _ => ⟨17, rfl, fun W hb => ⟨run_callFunc_enter _ W Tryd.func17 (by kernel_rfl) (by kernel_rfl), down_keep A n c xs W (h.keep hb) hn⟩⟩
  | 8, _ => ⟨18, rfl, fun W hb => ⟨run_callFunc_enter _ W Tryd.func18 (by kernel_rfl) (by kernel_rfl), split_keep A n c xs W (h.keep hb) hn⟩⟩
  | 9, _ => ⟨19, rfl, fun W hb => ⟨run_callFunc_enter _ W Tryd.func19 (by kernel_rfl) (by kernel_rfl), bof_keep A n c xs W (h.keep hb) hn⟩⟩
  | 10, _ => ⟨20, rfl, fun W hb => ⟨run_callFunc_enter _ W Tryd.func20 (by kernel_rfl) (by kernel_rfl), bnext_keep A n c xs W (h.keep hb) hn⟩⟩
  | 11, _ => ⟨21, rfl, fun W hb => ⟨run_callFunc_enter _ W Tryd.func21 (by kernel_rfl) (by kernel_rfl), turned_keep A n c xs W (h.keep hb) hn⟩⟩
  | 12, _ => ⟨22, rfl, fun W hb => ⟨run_callFunc_enter _ W Tryd.func22 (by kernel_rfl) (by kernel_rfl), odd_keep A n c xs W (h.keep hb) hn (ht.keep hb)⟩⟩
  | 13, _ => ⟨23, rfl, fun W hb => ⟨run_callFunc_enter _ W Tryd.func23 (by kernel_rfl) (by kernel_rfl), unlike_keep A n c xs W (h.keep hb) hn (ht.keep hb)⟩⟩
  | i + 14, hi => absurd hi (by omega)

end Go.Proofs.YtmdpfadfimodjaaDoor

/-
  Rows of rows whose outer block the call made, the rows only read; appends.
-/
namespace Go.Proofs.YtmdpfadfimodjaaDoor
open Go.RowKit

/-! ### Rows whose outer block the call made, the rows only read -/
def ORows (w : World) (base : Nat) (v : Value) (T : List (List Int)) : Prop :=
  ∃ vals : List Value, vals.length = T.length ∧ w.ownsRow base 22 1 v T.length vals ∧ ∀ j, j < T.length → ∃ Aj nj cj, vals.getD j (.slice none 0 0) = .slice Aj nj cj ∧ Ints w Aj nj (T.getD j []) ∧ Cap nj cj ∧ (Aj = none → cj = 0)
theorem ORows.keep {w w' : World} {base : Nat} {v : Value} {T : List (List Int)} (h : ORows w base v T) (hb : Below w.heap.size w w') : ORows w' base v T := by
  obtain ⟨vals, hl, ho, hr⟩ := h
  refine ⟨vals, hl, own_keep ho hb, fun j hj => ?_⟩
  obtain ⟨Aj, nj, cj, h1, h2, h3⟩ := hr j hj
  exact ⟨Aj, nj, cj, h1, h2.keep hb, h3⟩
theorem ORows.mono {w : World} {base base' : Nat} {v : Value} {T : List (List Int)} (h : ORows w base v T) (hb : base' ≤ base) : ORows w base' v T := by
  obtain ⟨vals, hl, ho, hr⟩ := h
  exact ⟨vals, hl, own_mono ho hb, hr⟩
theorem ORows.rrows {w : World} {base : Nat} {v : Value} {T : List (List Int)} (h : ORows w base v T) : ∃ A c, v = .slice A T.length c ∧ RRows w A T.length T ∧ Cap T.length c ∧ (A = none → c = 0) := by
  obtain ⟨vals, hl, ho, hr⟩ := h
  rcases ho.2 with ⟨rfl, h0⟩ | ⟨g, cap, cur, rfl, hb, hh, hn, hm, _⟩
  · have : T = [] := List.eq_nil_of_length_eq_zero h0
    subst this
    exact ⟨none, 0, rfl, RRows.nil _ _, ⟨Nat.le_refl _, by omega⟩, fun _ => rfl⟩
  · refine ⟨some ⟨g, 0, none⟩, cap, rfl, ⟨rfl, fun _ => ⟨g, 0, rfl, (Array.getElem?_eq_some_iff.1 hh).1, fun j hj => ?_⟩⟩, ⟨hn, by unfold maxLen at hm; exact hm⟩, fun e => by cases e⟩
    obtain ⟨Aj, nj, cj, h1, h2, h3, h4⟩ := hr j hj
    refine ⟨Aj, nj, cj, ?_, h2, h3, h4⟩
    rw [Nat.zero_add, World.ownsRow.cellAt ho j (by omega), getD_vals (by rw [hl]; exact hj), h1]

end Go.Proofs.YtmdpfadfimodjaaDoor

/-
  Rows of rows, all of it the call's own: what comes of an append, and of other memory that turns.
-/
namespace Go.Proofs.YtmdpfadfimodjaaDoor
open Go.RowKit

theorem BRows.nil (w : World) (base : Nat) : BRows w base (.slice none 0 0) [] := ⟨[], rfl, World.ownsRow_nil w base 22 1, fun _ hj => absurd hj (Nat.not_lt_zero _)⟩
theorem BRows.keep {w w' : World} {base : Nat} {v : Value} {T : List (List Int)} (h : BRows w base v T) (hb : Below w.heap.size w w') : BRows w' base v T := by
  obtain ⟨vals, hl, ho, hv⟩ := h
  exact ⟨vals, hl, own_keep ho hb, fun j hj => (hv j hj).keep hb⟩
theorem BRows.drewN {w : World} {base : Nat} {v : Value} {T : List (List Int)} (h : BRows w base v T) (n : Nat) : BRows (w.drewN n) base v T := h
theorem BRows.rows2 {w : World} {base : Nat} {v : Value} {T : List (List Int)} (h : BRows w base v T) : Rows2 w base v T := by
  obtain ⟨vals, hl, ho, hv⟩ := h
  exact ⟨vals, hl, ho, fun j hj => (hv j hj).mono (Nat.zero_le _)⟩
theorem BRows.form {w : World} {base : Nat} {v : Value} {T : List (List Int)} (h : BRows w base v T) : ∃ A c, v = .slice A T.length c ∧ Cap T.length c := h.rows2.form
/-- What lies at place j. -/
theorem BRows.at {w : World} {base : Nat} {v : Value} {T : List (List Int)} (h : BRows w base v T) {j : Nat} (hj : j < T.length) :
    ∃ g cap u, v = .slice (some ⟨g, 0, none⟩) T.length cap ∧ base ≤ g ∧ g < w.heap.size ∧ w.cell? ⟨g, j, none⟩ = some u ∧ w.frozen? ⟨g, j, none⟩ = false ∧ OwnInts w base u (T.getD j []) := by
  obtain ⟨vals, hl, ho, hv⟩ := h
  have ho' := ho
  rcases ho'.2 with ⟨_, h0⟩ | ⟨g, cap, cur, rfl, hb, hh, _⟩
  · omega
  · refine ⟨g, cap, vals.getD j (.slice none 0 0), by rw [hl], hb, (Array.getElem?_eq_some_iff.1 hh).1, ?_, World.ownsRow.frozenAt ho j, hv j hj⟩
    rw [World.ownsRow.cellAt ho j (by omega), List.getD_eq_getElem?_getD, List.getElem?_eq_getElem (by omega)]
    rfl
/-- As rows that are only read. -/
theorem BRows.orows {w : World} {base : Nat} {v : Value} {T : List (List Int)} (h : BRows w base v T) : ORows w base v T := by
  obtain ⟨vals, hl, ho, hv⟩ := h
  rw [hl] at ho
  refine ⟨vals, hl, ho, fun j hj => ?_⟩
  have hw := hv j hj
  obtain ⟨A, c, e, hI, hc⟩ := hw.ints
  refine ⟨A, _, c, e, hI, hc, fun e0 => ?_⟩
  rcases hw.2 with ⟨e1, _⟩ | ⟨g, cap, cur, e1, _⟩
  · rw [e1] at e
    injection e with _ _ e3
    exact e3.symm
  · rw [e1, e0] at e
    injection e with e2
    cases e2
theorem BRows.rrows {w : World} {base : Nat} {v : Value} {T : List (List Int)} (h : BRows w base v T) : ∃ A c, v = .slice A T.length c ∧ RRows w A T.length T ∧ Cap T.length c ∧ (A = none → c = 0) := h.orows.rrows
theorem BRows.lt {w : World} {base : Nat} {v : Value} {T : List (List Int)} (h : BRows w base v T) : ∀ k, v.ownBlock = some k → base ≤ k ∧ k < w.heap.size := h.rows2.lt

theorem own_other {w w' : World} {base base2 n m e e2 s1 s2 : Nat} {v u : Value} {xs ys : List Value} (h : w.ownsRow base e s1 v n xs) (ho : w.ownsRow base2 e2 s2 u m ys) (hne : e ≠ e2) (hg : w.grownBy w' u.ownBlock) : w'.ownsRow base e s1 v n xs := by
  refine World.ownsRow.kept h hg ?_
  rcases h.2 with ⟨rfl, _⟩ | ⟨g, cap, cur, rfl, _, hh, _⟩
  · exact .inl rfl
  · right
    rcases ho.2 with ⟨rfl, _⟩ | ⟨g2, cap2, cur2, rfl, _, hh2, _⟩
    · simp [Value.ownBlock]
    · simp only [Value.ownBlock, ne_eq, Option.some.injEq]
      intro e9
      rw [e9, hh2] at hh
      injection hh with hh
      injection hh with _ hh
      exact absurd hh.symm hne

/-- A block of numbers, not of rows, has turned. -/
theorem BRows.inner {w w' : World} {base base2 m : Nat} {v u : Value} {T : List (List Int)} {ys : List Value} (h : BRows w base v T) (ho : w.ownsRow base2 22 1 u m ys) (ha : ApartV u v) (hg : w.grownBy w' u.ownBlock) : BRows w' base v T := by
  obtain ⟨vals, hl, hv, he⟩ := h
  refine ⟨vals, hl, World.ownsRow.kept hv hg ?_, fun j hj => (he j hj).other ho hg⟩
  rcases e : v.ownBlock with _ | k
  · exact .inl rfl
  · right
    intro e2
    exact ha k e2.symm e

/-- '[][]int{y}'. -/
theorem BRows.one {w : World} {base : Nat} {y : Value} {ys : List Int} (hy : OwnInts w base y ys) (hb : base ≤ w.heap.size) : BRows (w.alloc (.cells #[y] 22)) base (.slice (some ⟨w.heap.size, 0, none⟩) 1 1) [ys] := by
  refine ⟨[y], rfl, own_mono (World.ownsRow_lit w #[y] 1 (Nat.le_refl _) (by unfold maxLen; omega) rfl) hb, fun j hj => ?_⟩
  have : j = 0 := by simp at hj; omega
  subst this
  exact hy.keep (below_alloc w _)

end Go.Proofs.YtmdpfadfimodjaaDoor

/-
  castkeep.spoil at int: all that a list has is another number; slices.Grow, Concat at rows, by their values.
-/
namespace Go.Proofs.YtmdpfadfimodjaaDoor
open Go.RowKit

/-- Blocks of ints are still as great blocks of ints. -/
def Shaped (w w' : World) : Prop := ∀ (g : Nat) (cur : Array Value), w.heap[g]? = some (Obj.cells cur 3 (0, 0)) → ∃ cur' : Array Value, w'.heap[g]? = some (Obj.cells cur' 3 (0, 0)) ∧ cur'.size = cur.size
theorem Shaped.refl (w : World) : Shaped w w := fun _ cur h => ⟨cur, h, rfl⟩
theorem Shaped.set {w w' : World} (h : Shaped w w') (b i : Nat) (u : Value) : Shaped w (w'.setCell ⟨b, i, none⟩ u) := fun g cur hg => by
  obtain ⟨c1, h1, h2⟩ := h g cur hg
  by_cases e : g = b
  · subst e
    exact ⟨c1.setIfInBounds i u, by simp [World.setCell, Array.getElem?_modify, h1], by simpa using h2⟩
  · refine ⟨c1, ?_, h2⟩
    simp only [World.setCell, Array.getElem?_modify]
    rw [if_neg (fun h => e h.symm)]
    exact h1
/-- A list that may be spoilt: its memory is the call's own. -/
def SpOK (w : World) (base : Nat) (v : Value) : Prop := ∃ vs : List Value, w.ownsRow base 3 1 v vs.length vs
theorem OwnInts.sp {w : World} {base : Nat} {v : Value} {xs : List Int} (h : OwnInts w base v xs) : SpOK w base v := ⟨xs.map (Value.int .i64), by rw [List.length_map]; exact h⟩
theorem SpOK.shaped {w w' : World} {base : Nat} {v : Value} (h : SpOK w base v) (hs : Shaped w w') : SpOK w' base v := by
  obtain ⟨vs, h⟩ := h
  rcases h.2 with ⟨rfl, h0⟩ | ⟨g, cap, cur, e, hb, hh, hn, hm, hz, ht⟩
  · exact ⟨[], World.ownsRow_nil _ _ _ _⟩
  · obtain ⟨c1, h1, h2⟩ := hs g cur hh
    have hl : (c1.toList.take vs.length).length = vs.length := by rw [List.length_take]; simp; omega
    exact ⟨c1.toList.take vs.length, by rw [hl]; exact ⟨by rw [hl, Nat.mul_one], .inr ⟨g, cap, c1, e, hb, h1, hn, hm, by omega, by rw [Nat.mul_one]⟩⟩⟩
def RetSpoilt (w : World) (v : Value) (e : Ending) (w' : World) : Prop := e = .returned (.tuple #[]) ∧ w.grownBy w' v.ownBlock ∧ Shaped w w'

theorem own_setAny {w : World} {base g n cap ty : Nat} {vs : List Value} (h : w.ownsRow base ty 1 (.slice (some ⟨g, 0, none⟩) n cap) n vs) (i : Nat) (u : Value) : (w.setCell ⟨g, i, none⟩ u).ownsRow base ty 1 (.slice (some ⟨g, 0, none⟩) n cap) n (vs.set i u) :=
  (World.ownsRow.stored h i u).1
theorem cell_spare {w : World} {base g n cap ty : Nat} {vs : List Value} (h : w.ownsRow base ty 1 (.slice (some ⟨g, 0, none⟩) n cap) n vs) {i : Nat} (hi : i < cap) : ∃ u, w.cell? ⟨g, i, none⟩ = some u := by
  rcases h.2 with ⟨e, _⟩ | ⟨g', cap', cur, e, hb, hh, hn, hm, hs, ht⟩
  · cases e
  · injection e with e1 e2 e3
    injection e1 with e1
    injection e1 with e1 _
    subst e1
    subst e3
    have hi' : i < cur.size := by omega
    exact ⟨cur[i], by simp [World.cell?, hh, hi']⟩

set_option maxRecDepth 100000 in
set_option maxHeartbeats 800000 in
theorem spoil_own (base : Nat) (v : Value) (x : Int) (w : World) (h : SpOK w base v) :
    Calls Tryd.prog 9 #[v, .int .i64 x] w (RetSpoilt w v) := by
  obtain ⟨vs, h⟩ := h
  rcases h.2 with ⟨rfl, h0⟩ | ⟨g, cap, cur, rfl, hb, hh, hn, hm, hs, ht⟩
  · go_enter Tryd.func9, Tryd.ntmps9
    go_wp2_with fail
    go_loopg [11] 0 (fun g s wr => s = .int .i64 0 ∧ w = wr)
    case atStart => exact ⟨rfl, rfl⟩
    case round =>
      obtain ⟨rfl, rfl⟩ := hrel
      go_wp2
      go_end0
      exact ⟨rfl, one_refl _ _, Shaped.refl _⟩
  · have hc9 : cap ≤ 9223372036854775807 := by unfold maxLen at hm; omega
    have H := hid h
    clear h hh ht hs
    go_enter Tryd.func9, Tryd.ntmps9
    go_wp2_with fail
    go_loopg [11] cap (fun gg s wr => ∃ (i : Nat) (ys : List Value), i ≤ cap ∧ cap - i ≤ gg ∧ s = .int .i64 i ∧ wr.ownsRow base 3 1 (.slice (some ⟨g, 0, none⟩) vs.length cap) vs.length ys ∧ w.grownBy wr (some g) ∧ Shaped w wr)
    case atStart => exact ⟨0, vs, Nat.zero_le _, by omega, rfl, H.out, one_refl _ _, Shaped.refl _⟩
    case round =>
      obtain ⟨i, ys, hi, hg, rfl, hown, hgr, hsh⟩ := hrel
      have HO := hid hown
      have HG := hid hgr
      have HSH := hid hsh
      clear hown hgr hsh
      by_cases hlt : i < cap
      · obtain ⟨u, hu⟩ := cell_spare HO.out hlt
        have hf := World.ownsRow.frozenAt HO.out i
        have HN := hid (own_setAny HO.out i (.int .i64 x))
        have HG2 := hid (one_set HG.out i (.int .i64 x))
        have HS2 := hid (HSH.out.set g i (.int .i64 x))
        go_wp2
        go_roundg (cap - (i + 1))
        case measure => omega
        case rel => exact ⟨i + 1, _, by omega, by omega, by go_num, HN.out, HG2.out, HS2.out⟩
      · have hic : i = cap := by omega
        subst hic
        go_wp2
        go_end0
        exact ⟨rfl, HG.out, HSH.out⟩

/-! ### Lists of rows by their values -/
structure VRow (w : World) (A : Option Addr) (n c : Nat) (vals : List Value) : Prop where
  len : vals.length = n
  row : 0 < n → ∃ b off, A = some ⟨b, off, none⟩ ∧ b < w.heap.size ∧ ∀ j, j < n → w.cell? ⟨b, off + j, none⟩ = some (vals.getD j (.slice none 0 0))
  one : ∀ v, v ∈ vals → v.oneCell' = true
  nil : A = none → c = 0
theorem VRow.keep {w w' : World} {A : Option Addr} {n c : Nat} {vals : List Value} (h : VRow w A n c vals) (hb : Below w.heap.size w w') : VRow w' A n c vals := by
  refine ⟨h.len, fun hn => ?_, h.one, h.nil⟩
  obtain ⟨b, off, e, hl, hc⟩ := h.row hn
  exact ⟨b, off, e, Nat.lt_of_lt_of_le hl hb.size, fun j hj => (hb.cell (p := ⟨b, off + j, none⟩) hl).trans (hc j hj)⟩
/-- The call's own list of these rows. -/
def VOwn (w : World) (base : Nat) (v : Value) (vals : List Value) : Prop := w.ownsRow base 22 1 v vals.length vals

/-- Block g holds some lists of rows. -/
def Parts (w : World) (g : Nat) (Ps : List (List Value)) : Prop := g < w.heap.size ∧ ∀ j, j < Ps.length → ∃ A n c, w.cell? ⟨g, j, none⟩ = some (.slice A n c) ∧ VRow w A n c (Ps.getD j [])
theorem Parts.keep {w w' : World} {g : Nat} {Ps : List (List Value)} (h : Parts w g Ps) (hb : Below w.heap.size w w') : Parts w' g Ps :=
  ⟨Nat.lt_of_lt_of_le h.1 hb.size, fun j hj => by
    obtain ⟨A, n, c, h1, h2⟩ := h.2 j hj
    exact ⟨A, n, c, (hb.cell (p := ⟨g, j, none⟩) h.1).trans h1, h2.keep hb⟩⟩

theorem take_snocV {Ps : List (List Value)} {j : Nat} (hj : j < Ps.length) : (Ps.take (j + 1)).flatten = (Ps.take j).flatten ++ Ps.getD j [] := by
  rw [List.take_succ_eq_append_getElem hj, List.flatten_append, List.getD_eq_getElem?_getD, List.getElem?_eq_getElem hj]
  simp
theorem take_leV (Ps : List (List Value)) (j : Nat) : (Ps.take j).flatten.length ≤ Ps.flatten.length := by
  have : Ps.flatten = (Ps.take j).flatten ++ (Ps.drop j).flatten := by rw [← List.flatten_append, List.take_append_drop]
  rw [this, List.length_append]
  omega

end Go.Proofs.YtmdpfadfimodjaaDoor

/-
  castkeep.deals, castkeep.lotsOf.
-/
namespace Go.Proofs.YtmdpfadfimodjaaDoor
open Go.RowKit

set_option maxHeartbeats 1000000 in
theorem deals_any (w : World) : Calls Tryd.prog 6 #[] w fun e w' => e = .returned (.bool true) ∧ Below w.heap.size w w' := by
  have HC := hid (shDeal_any _ 3 3 [0, 0, 1] _ (ints_lit w #[.int .i64 0, .int .i64 0, .int .i64 1] 3 3 [0, 0, 1] rfl rfl))
  rw [show lotsErr [0, 0, 1] = 0 by decide, show dealX [0, 0, 1] = [1, 2, 0] by decide] at HC
  have HB := hid (below_alloc w (.cells #[.int .i64 0, .int .i64 0, .int .i64 1] 3))
  go_enter Tryd.func6, Tryd.ntmps6
  go_wp2_with fail
  refine HC.out.mono ?_
  rintro e w1 ⟨v, rfl, ho, hb⟩
  have HB1 := hid (below_step HB.out (Nat.le_refl _) hb)
  obtain ⟨A1, c1, rfl, hI1, -⟩ := ho.ints
  have HI1 := hid (hI1.keep (below_alloc w1 (.cells #[.int .i64 1, .int .i64 2, .int .i64 0] 3)))
  have HI2 := hid (ints_lit w1 #[.int .i64 1, .int .i64 2, .int .i64 0] 3 3 [1, 2, 0] rfl rfl)
  have HB2 := hid (below_step HB1.out (Nat.le_refl _) (below_alloc w1 (.cells #[.int .i64 1, .int .i64 2, .int .i64 0] 3)))
  clear ho hb hI1 HC HB HB1
  go_wp2_with fail
  refine (equal_bel _ _ c1 _ 3 3 _ _ _ HI1.out HI2.out (by simp) (by omega)).mono ?_
  rintro e w3 ⟨rfl, hb⟩
  have HB3 := hid (below_step HB2.out (Nat.le_refl _) hb)
  clear hb HB2 HI1 HI2
  rw [show decide (([1, 2, 0] : List Int) = [1, 2, 0]) = true by decide]
  go_wp2
  go_ret
  exact ⟨rfl, HB3.out⟩

theorem run_minTen {P : Program} (x m : Nat) (hm : m = min x 10) (ts : Array TypeId) (t : TypeId) (W : World) :
    (Builtin.min_ ts t #[.int .i64 (x : Int), .int .i64 10]).run P W = .ok (.int .i64 (m : Int)) W := by
  have e : (if (10 : Int) < (x : Int) then (10 : Int) else (x : Int)) = (m : Int) := by
    subst hm
    split <;> omega
  simp only [Builtin.min_, Builtin.min2, List.foldlM_cons, List.foldlM_nil, pure_bind]
  simp only [e]
  rfl

theorem take_lotsOf {xs : List Int} {m k : Nat} (hk : k < m) (hm : m ≤ xs.length) : (lotsOf (xs.take m)).take (k + 1) = (lotsOf (xs.take m)).take k ++ [xs.getD k 0 % ((k : Int) + 1)] := by
  rw [take_snoc (by rw [length_lotsOf, List.length_take]; omega), getD_lotsOf (by rw [List.length_take]; omega)]
  congr 3
  rw [List.getD_eq_getElem?_getD, List.getD_eq_getElem?_getD, List.getElem?_take, if_pos hk]

theorem lotsErr_lotsOf {xs : List Int} {m : Nat} (hm : m ≤ 10) : lotsErr (lotsOf (xs.take m)) = 0 := lotsErr_good (by rw [length_lotsOf, List.length_take]; omega) (isLots_lotsOf _)
theorem permErr_dealt_lotsOf {xs : List Int} {m : Nat} (hm : m ≤ 10) : permErr (dealt (lotsOf (xs.take m))) = 0 :=
  permErr_ok.2 ⟨by rw [length_dealt, length_lotsOf, List.length_take]; omega, isPerm_dealt (isLots_lotsOf _)⟩

end Go.Proofs.YtmdpfadfimodjaaDoor

/-
  castkeep.PermsOwn: whatever the two lists (as great as a machine can hold): true.
-/
namespace Go.Proofs.YtmdpfadfimodjaaDoor
open Go.RowKit

theorem keep_facts {W w' : World} {er : Int} {e : Ending} (h : RetKeepE W er e w') :
    ∃ A n c ys, e = .returned (.tuple #[.slice A n c, .int .i64 er]) ∧ OwnInts w' W.heap.size (.slice A n c) ys ∧ Below W.heap.size W w' ∧ Ints w' A n ys ∧ n ≤ 1000000 ∧ ¬ (-7 : Int) ∈ ys := by
  obtain ⟨v, ys, he, ho, hb, hl, hy⟩ := h
  obtain ⟨A, c, e1, hI, _⟩ := ho.ints
  subst e1
  exact ⟨A, _, c, ys, he, ho, hb, hI, hl, fun hm => absurd (hy _ hm) (by omega)⟩

set_option maxRecDepth 100000 in
set_option maxHeartbeats 4000000 in
theorem permsOwn_any (A : Option Addr) (n c : Nat) (xs : List Int) (B : Option Addr) (m d : Nat) (ys : List Int) (w : World)
    (hx : Ints w A n xs) (hc : n ≤ c) (hn : n ≤ 17592186044416) (hy : Ints w B m ys) (hm : m ≤ 17592186044416) (ht : Tab64 w) :
    Calls Tryd.prog 3 #[.slice A n c, .slice B m d] w fun e w' => e = .returned (.bool true) ∧ Below w.heap.size w w' := by
  have HX := hid hx
  have HY := hid hy
  have HT := hid ht
  clear hx hy ht
  go_enter Tryd.func3, Tryd.ntmps3
  go_wp2_with fail
  refine (perms_any _).mono ?_
  rintro e w1 ⟨rfl, hb1⟩
  have HB1 := hid hb1
  clear hb1
  go_wp2_with fail
  refine (ranks_any _).mono ?_
  rintro e w2 ⟨rfl, hb2⟩
  have HB2 := hid (below_step HB1.out (Nat.le_refl _) hb2)
  clear hb2 HB1
  go_wp2_with fail
  refine (deals_any _).mono ?_
  rintro e w3 ⟨rfl, hb3⟩
  have HB3 := hid (below_step HB2.out (Nat.le_refl _) hb3)
  clear hb3 HB2
  go_wp2_with fail
  refine (clone_big A n c xs _ (HX.out.keep HB3.out) hn).mono ?_
  rintro e w4 ⟨v4, rfl, ho4, hb4⟩
  obtain ⟨A4, c4, e4, hI4, _⟩ := ho4.ints
  rw [HX.out.len] at e4 hI4
  subst e4
  have HI4 := hid hI4
  have HB4 := hid (below_step HB3.out (Nat.le_refl _) hb4)
  clear ho4 hI4 hb4 HB3
  go_wp2_with fail
  refine (clone_big B m d ys _ (HY.out.keep HB4.out) hm).mono ?_
  rintro e w5 ⟨v5, rfl, ho5, hb5⟩
  obtain ⟨A5, c5, e5, hJ5, _⟩ := ho5.ints
  rw [HY.out.len] at e5 hJ5
  subst e5
  have HI5 := hid (HI4.out.keep hb5)
  have HJ5 := hid hJ5
  have HB5 := hid (below_step HB4.out (Nat.le_refl _) hb5)
  clear ho5 hJ5 hb5 HB4 HI4
  have HTM := times_keep A n c B m d xs ys w5 (HX.out.keep HB5.out) (HY.out.keep HB5.out) (by omega) (by omega)
  obtain ⟨E, hE⟩ : ∃ E, timesErr xs ys = E := ⟨_, rfl⟩
  rw [hE] at HTM
  have HER := hid hE
  clear hE
  go_wp2_with fail
  refine HTM.mono ?_
  rintro e w6 h6
  obtain ⟨A6, n6, c6, z6, rfl, ho6, hb6, _, _, _⟩ := keep_facts h6
  have HO6 := hid ho6
  have HB6 := hid hb6
  clear HTM h6 ho6 hb6
  go_wp2_with fail
  refine (spoil_own w5.heap.size (.slice A6 n6 c6) (-7) w6 HO6.out.sp).mono ?_
  rintro e w7 ⟨rfl, hgr7, _⟩
  have HB7 := hid (below_own HB6.out HO6.out (Nat.le_refl _) (Nat.le_refl _) hgr7)
  clear hgr7 HO6 HB6
  have HC7 := hid (below_step HB5.out (Nat.le_refl _) HB7.out)
  have HBA := hid (below_alloc w7 (.cells funs 29))
  have HB8 := hid (below_step HC7.out (Nat.le_refl _) HBA.out)
  have HI8 := hid ((HI5.out.keep HB7.out).keep HBA.out)
  have HJ8 := hid ((HJ5.out.keep HB7.out).keep HBA.out)
  have HX8 := hid (HX.out.keep HB8.out)
  have HY8 := hid (HY.out.keep HB8.out)
  have HT8 := hid (HT.out.keep HB8.out)
  have HZ8 : Hid (w7.heap.size < (w7.alloc (.cells funs 29)).heap.size) := by
    show w7.heap.size < (w7.alloc (.cells funs 29)).heap.size
    simp
  have HF8 := hid (funs_at w7 29)
  obtain ⟨w8, hw8⟩ : ∃ w8, w8 = w7.alloc (.cells funs 29) := ⟨_, rfl⟩
  rw [← hw8] at HB8 HI8 HJ8 HX8 HY8 HT8 HZ8 HF8
  unfold funs at hw8
  have HW9 := hid hw8
  have HK8 := hid (keep_all A n c xs w8 HX8.out hc (by omega) HT8.out)
  clear hw8 HBA HC7 HB7 HI5 HJ5 HB5
  go_wp2_with fail
  rw [← HW9.out]
  clear HW9
  go_loopg [41] 14 (fun g iv wr => ∃ i : Nat, i ≤ 14 ∧ 14 - i ≤ g ∧ iv = .int .i64 (i : Int) ∧ Below w8.heap.size w8 wr)
  case atStart => exact ⟨0, Nat.zero_le _, by omega, rfl, Below.refl _ _⟩
  case round =>
    obtain ⟨i, hi, hg, rfl, hbel⟩ := hrel
    have HB := hid hbel
    clear hbel
    by_cases hlt : i < 14
    · obtain ⟨k, hk1, hk2⟩ := HK8.out i hlt
      have g1 : wr.cell? ⟨w7.heap.size, i, none⟩ = some (.func (.func k) #[] #[]) := (HB.out.cell (p := ⟨w7.heap.size, i, none⟩) HZ8.out).trans (HF8.out i _ hk1)
      have HCL := hid hk2
      clear hk1 hk2
      go_wp2_with fail
      rw [(HCL.out wr HB.out).1, Oper.upon_enter]
      refine (HCL.out wr HB.out).2.mono ?_
      rintro e wa ⟨er, hr⟩
      obtain ⟨Aa, na, ca, za, rfl, hoa, hba, _, _, _⟩ := keep_facts hr
      have HOA := hid hoa
      have HBA := hid hba
      clear hr hoa hba
      go_wp2_with fail
      refine (spoil_own wr.heap.size (.slice Aa na ca) (-7) wa HOA.out.sp).mono ?_
      rintro e wb ⟨rfl, hgb, _⟩
      have HBB := hid (below_step HB.out (Nat.le_refl _) (below_own HBA.out HOA.out (Nat.le_refl _) (Nat.le_refl _) hgb))
      clear hgb HOA HBA
      go_wp2_with fail
      refine (equal_same A n c A4 c4 xs wb (HX8.out.keep HBB.out) (HI8.out.keep HBB.out) hn).mono ?_
      rintro e wc ⟨rfl, hbc⟩
      have HBC := hid (below_step HBB.out (Nat.le_refl _) hbc)
      clear hbc HBB
      go_wp2_with fail
      rw [(HCL.out wc HBC.out).1, Oper.upon_enter]
      refine (HCL.out wc HBC.out).2.mono ?_
      rintro e wd ⟨er2, hr⟩
      obtain ⟨Ad, nd, cd, zd, rfl, _, hbd, hid4, hnd, h7⟩ := keep_facts hr
      have HID := hid hid4
      have HBD := hid (below_step HBC.out (Nat.le_refl _) hbd)
      have H7 := hid h7
      clear hr hbd hid4 h7 HBC
      go_wp2_with fail
      refine (contains_no Ad nd cd zd (-7) wd HID.out hnd H7.out).mono ?_
      rintro e we ⟨rfl, rfl⟩
      go_wp2
      go_roundg (14 - (i + 1))
      case measure => omega
      case rel => exact ⟨i + 1, by omega, by omega, by go_num, HBD.out⟩
    · have hi14 : i = 14 := by omega
      subst hi14
      obtain ⟨wz, hwz⟩ : ∃ wz, wz = wr := ⟨wr, rfl⟩
      rw [← hwz] at HB
      rw [← hwz]
      clear hwz
      have HBZ := hid (below_step HB8.out (Nat.le_refl _) HB.out)
      have HIZ := hid (HI8.out.keep HB.out)
      have HJZ := hid (HJ8.out.keep HB.out)
      clear HI8 HJ8 HX8 HY8 HT8 HF8 HK8 HB HB8
      have HTM := times_keep A n c B m d xs ys wz (HX.out.keep HBZ.out) (HY.out.keep HBZ.out) (by omega) (by omega)
      rw [HER.out] at HTM
      go_wp2_with fail
      refine HTM.mono ?_
      rintro e wa hr
      obtain ⟨Aa, na, ca, za, rfl, _, hba, hia, hna, h7⟩ := keep_facts hr
      have HIA := hid (HIZ.out.keep hba)
      have HJA := hid (HJZ.out.keep hba)
      have HZA := hid hia
      have HBA := hid (below_step HBZ.out (Nat.le_refl _) hba)
      have H7 := hid h7
      have hee : (E == E) = true := by simp
      clear HTM hr hba hia h7 HIZ HJZ HBZ
      go_wp2_with fail
      refine (equal_same A n c A4 c4 xs wa (HX.out.keep HBA.out) HIA.out hn).mono ?_
      rintro e wb ⟨rfl, hbb⟩
      have HJB := hid (HJA.out.keep hbb)
      have HZB := hid (HZA.out.keep hbb)
      have HBB := hid (below_step HBA.out (Nat.le_refl _) hbb)
      clear hbb HJA HZA HIA HBA
      go_wp2_with fail
      refine (equal_same B m d A5 c5 ys wb (HY.out.keep HBB.out) HJB.out hm).mono ?_
      rintro e wc ⟨rfl, hbc⟩
      have HZC := hid (HZB.out.keep hbc)
      have HBC := hid (below_step HBB.out (Nat.le_refl _) hbc)
      clear hbc HJB HZB HBB
      go_wp2_with fail
      refine (contains_no Aa na ca za (-7) wc HZC.out hna H7.out).mono ?_
      rintro e wd ⟨rfl, rfl⟩
      go_wp2
      go_ret
      exact ⟨rfl, HBC.out⟩

end Go.Proofs.YtmdpfadfimodjaaDoor

/-
  From the rows' condition (two tables read as Go lays them) to the table's cells; a world in which they lie so.
-/
namespace Go.Proofs.YtmdpfadfimodjaaDoor
open Go.ChangeShapes Go.WideShapes Go.ChangeAt Go.RowKit

abbrev laidT2 : List (String × DataW Unit) := [("math/bits.deBruijn32tab", Rows.laid_math_bits_deBruijn32tab), ("math/bits.deBruijn64tab", Rows.laid_math_bits_deBruijn64tab)]
theorem gTab64 : Tryd.prog.globalNamed "math/bits.deBruijn64tab" = some 1 := by kernel_rfl
theorem tTab64 : (Tryd.prog.globals[1]?).map (·.type) = some 79 := by kernel_rfl
def keep64 (x : String × DataW Unit) : Bool := x.1 == "math/bits.deBruijn64tab"
theorem laidT2_eq : laidT2.filter keep64 = [("math/bits.deBruijn64tab", Lib.tabData .u8 tz64Tab)] := rfl

theorem tab64_of_laid {W : World} (h : laidMetH Tryd.prog laidT2 W) : Tab64 W := by
  have h0 := laidMetH.filter keep64 h
  rw [laidT2_eq, MakeChecks.laidMetH_plain _ _ _ (by kernel_rfl)] at h0
  have h1 := Lib.tabIs_of_head gTab64 tTab64 Tryd.underlying79 Tryd.underlying5 (by kernel_rfl) (by kernel_rfl) h0
  exact fun i hi => h1.cell gTab64 i (show i < tz64Tab.length from hi)

theorem door_met2 (os : Os) (args : Array Value) : laidMetH Tryd.prog laidT2 ((World.doorLaid Tryd.prog 400 os).forCall (fun _ _ => 0) ⟨#[], args, []⟩).memory :=
  laidMetH_of_parts3 (fuel := 8) (laidMet_of_run' 8 (by kernel_rfl) (by kernel_rfl)) (by kernel_rfl) (by kernel_rfl)

end Go.Proofs.YtmdpfadfimodjaaDoor

/-
  A slice of ints inside a struct that came in, opened.
-/
namespace Go.Proofs.YtmdpfadfimodjaaDoor
open Go.RowKit Go.ChangeShapes Go.WideShapes Go.Deep

theorem bytesIntO : Tryd.prog.bytesOf 3 = 8 := by kernel_rfl
theorem lits_lengthO {H : Type} (k : IntKind) (zs : List Int) : (lits (H := H) k zs).length = zs.length := by simp [lits]
theorem ints_of_trod {H : Type} {enc : TypeId × Value → H} {W : World} {fuel : Nat} {v : Value} {y : DataW H × List MemPlace} (h : DataW.trod enc Tryd.prog W 0 (fun _ => true) true fuel 22 [v] = some y) :
    ∃ A n c xs, v = .slice A n c ∧ Ints W A n xs ∧ Cap n c ∧ ((∀ b ∈ y.1.weights Tryd.prog 22, b ≤ reachBytes) → n ≤ 17592186044416) := by
  rcases open_ints Tryd.underlying22 Tryd.underlying3 (by kernel_rfl) h with ⟨hcs, _⟩ | ⟨x, l, c, zs, hcs, _, hl, hm, hz, hd, hcell, hwz⟩
  · simp only [List.cons.injEq, and_true] at hcs
    exact ⟨none, 0, 0, [], hcs, Ints.nil _ _, ⟨Nat.le_refl _, by omega⟩, fun _ => by omega⟩
  · simp only [List.cons.injEq, and_true] at hcs
    have hr : IsRow .i64 W (some x) l c zs := .inr ⟨_, rfl, hl, hm, by simpa using hz, hcell, hwz⟩
    obtain ⟨h1, h2, h3⟩ := hr.ints
    refine ⟨some x, l, c, zs.take l, hcs, h1, ⟨h2, by unfold maxLen at h3; exact h3⟩, fun hb => ?_⟩
    have hzl : zs.length = c := by simpa using hz
    have hw := hb (c * 8) (by
      rw [hd]
      simp only [DataW.weights, Tryd.underlying22, lits_lengthO, bytesIntO, List.length_take, List.length_drop, List.mem_cons]
      left
      congr 1
      omega)
    have : reachBytes = 140737488351232 := rfl
    omega
end Go.Proofs.YtmdpfadfimodjaaDoor
