/-
  parts.Unlike (P22).
-/
import Derived.Test.YteegddpoekphoaaDoorPartU
namespace Go.Proofs.YteegddpoekphoaaDoor
open Go.RowKit

theorem and_tab : ((List.range 41).all fun c => (List.range 6).all fun t => decide ((bits .and .i64 (c : Int) ((2 ^ t : Nat) : Int) != 0) = c.testBit t)) = true := by decide +kernel
theorem and_at {c p : Nat} (hc : c ≤ 40) : (bits .and .i64 (c : Int) ((pwr p : Nat) : Int) != 0) = c.testBit (tz6 p) := by
  have h1 := List.all_eq_true.1 and_tab c (List.mem_range.2 (by omega))
  exact of_decide_eq_true (List.all_eq_true.1 h1 (tz6 p) (List.mem_range.2 (tz6_lt p)))

/-- What comes back: a refusal where one is even, else the unlike numbers. -/
def RetUnl (w : World) (ns : List Nat) (e : Ending) (w' : World) : Prop :=
  (¬ (∀ x ∈ ns, x % 2 = 1) ∧ e = .returned (.tuple #[.slice none 0 0, .int .i64 3]) ∧ Below w.heap.size w w') ∨ ((∀ x ∈ ns, x % 2 = 1) ∧ RetInts w (ofN (unl (fun d => ns.count d) 40)) 0 e w')

set_option maxHeartbeats 800000 in
theorem unlike_bad (A : Option Addr) (n c : Nat) (xs : List Int) (w : World) (h : Ints w A n xs) (hm : n ≤ 9223372036854775807) (he : partErr xs ≠ 0) :
    Calls Tryd.prog 8 #[.slice A n c] w fun e w' => e = .returned (.tuple #[.slice none 0 0, .int .i64 (partErr xs)]) ∧ w = w' := by
  generalize hq : partErr xs = er at *
  have he' : (er != 0) = true := by simpa using he
  have HQ := hid hq
  clear hq
  go_enter Tryd.func8, Tryd.ntmps8
  go_wp2_with fail
  refine (pcheck_any A n c xs _ h hm).mono ?_
  rintro e w' ⟨rfl, rfl⟩
  rw [HQ.out]
  go_wp2
  go_ret2
  exact ⟨rfl, rfl⟩

theorem length_unl (c : Nat → Nat) (k : Nat) : (unl c k).length ≤ k := by
  induction k with
  | zero => simp [unl]
  | succ k ih =>
    rw [unl]
    split
    · simp
      exact ih
    · omega

set_option maxHeartbeats 3000000 in
set_option maxRecDepth 100000 in
theorem unlike_any (A : Option Addr) (n c : Nat) (ns : List Nat) (w : World) (h : Ints w A n (ofN ns)) (hp : IsPart (ofN ns)) (ht : Tab64 w) :
    Calls Tryd.prog 8 #[.slice A n c] w (RetUnl w ns) := by
  have hlen : ns.length = n := by rw [← h.len, length_ofN]
  have hn : n ≤ 40 := by rw [← hlen]; exact part_lenN hp
  have HL := hid hlen
  have HP := hid hp
  have HI := hid h
  have HT := hid ht
  have HX : Hid (∀ k, k < n → 0 < ns.getD k 0 ∧ ns.getD k 0 ≤ 40) := fun k hk => part_mem hp (getD_memN (by omega))
  have HC : Hid (0 < n → ∃ b o, A = some ⟨b, o, none⟩ ∧ b < w.heap.size ∧ ∀ k, k < n → w.cell? ⟨b, o + k, none⟩ = some (.int .i64 ((ns.getD k 0 : Nat) : Int))) := by
    intro h0
    obtain ⟨b, o, e, hb, hc⟩ := h.row h0
    exact ⟨b, o, e, hb, fun k hk => by rw [hc k hk, getD_ofN]⟩
  clear h hp ht hlen
  go_enter Tryd.func8, Tryd.ntmps8
  go_wp2_with fail
  refine (pcheck_any A n c (ofN ns) _ HI.out (by omega)).mono ?_
  rintro e w' ⟨rfl, rfl⟩
  rw [partErr_ok HP.out]
  go_wp2_with fail
  go_loopg [19] n (fun g s wr => ∃ k : Nat, k ≤ n ∧ n - k ≤ g ∧ s = .int .i64 (k : Int) ∧ wr.rowIs w.heap.size 40 41 (fun j => .int .i64 (((ns.take k).count j : Nat) : Int)) ∧ Below w.heap.size w wr ∧ ∀ x ∈ ns.take k, x % 2 = 1)
  case atStart => exact ⟨0, Nat.zero_le _, by omega, rfl, zeros_start w, (Below.refl _ _).alloc (Nat.le_refl _) _, fun x hx => by simp at hx⟩
  case round =>
    obtain ⟨k, hk, hg, rfl, hrow, hbel, hod⟩ := hrel
    have HR := hid hrow
    have HB := hid hbel
    have HOD := hid hod
    clear hrow hbel hod
    by_cases hlt : k < n
    · obtain ⟨b, o, hA, hb, hc⟩ := HC.out (by omega)
      have g1 : wr.cell? ⟨b, o + k, none⟩ = some (.int .i64 ((ns.getD k 0 : Nat) : Int)) := (HB.out.cell (p := ⟨b, o + k, none⟩) hb).trans (hc k hlt)
      have hx := HX.out k hlt
      subst hA
      clear hc
      have hrem : IntKind.i64.wrap (((ns.getD k 0 : Nat) : Int).tmod 2) = ((ns.getD k 0 % 2 : Nat) : Int) := by
        rw [show ((ns.getD k 0 : Nat) : Int).tmod 2 = ((ns.getD k 0 % 2 : Nat) : Int) from rfl, IntWalk.i64_in _ (by omega)]
      have HMEM : Hid (ns.getD k 0 ∈ ns) := getD_memN (by rw [HL.out]; exact hlt)
      have HSN : Hid (∀ j, (ns.take (k + 1)).count j = (ns.take k).count j + (if ns.getD k 0 = j then 1 else 0)) := fun j => by
        rw [take_snocN (by rw [HL.out]; exact hlt), List.count_append, List.count_singleton]
        simp only [beq_iff_eq]
      have HTS : Hid (∀ x ∈ ns.take (k + 1), x ∈ ns.take k ∨ x = ns.getD k 0) := fun x hx => by
        rw [take_snocN (by rw [HL.out]; exact hlt)] at hx
        simpa using hx
      have hcb : (ns.take k).count (ns.getD k 0) ≤ 40 := Nat.le_trans List.count_le_length (by rw [List.length_take]; omega)
      clear HX
      generalize ns.getD k 0 = x at *
      have hx41 : x < 41 := by omega
      have hxi : (x : Int) < 41 := by omega
      rcases Nat.mod_two_eq_zero_or_one x with h2 | h2
      · have HNO : Hid (¬ (∀ x ∈ ns, x % 2 = 1)) := fun h => by
          have := h x HMEM.out
          omega
        rw [h2] at hrem
        go_wp2
        go_ret2
        exact Or.inl ⟨HNO.out, rfl, HB.out⟩
      · rw [h2] at hrem
        have g3 : wr.cell? ⟨w.heap.size, x, none⟩ = some (.int .i64 (((ns.take k).count x : Nat) : Int)) := HR.out.cell hx41
        have f3 : wr.frozen? ⟨w.heap.size, x, none⟩ = false := HR.out.frozen x
        have HUP : Hid (∀ j, (if j = x then Value.int .i64 ((((ns.take k).count x : Nat) : Int) + 1) else .int .i64 (((ns.take k).count j : Nat) : Int)) = .int .i64 (((ns.take (k + 1)).count j : Nat) : Int)) := by
          intro j
          rw [HSN.out j]
          by_cases e : j = x
          · subst e
            rw [if_pos rfl, if_pos rfl]
            rfl
          · rw [if_neg e, if_neg (fun h => e h.symm)]
            rfl
        have HOD2 : Hid (∀ y ∈ ns.take (k + 1), y % 2 = 1) := fun y hy => by
          rcases HTS.out y hy with h3 | h3
          · exact HOD.out y h3
          · rw [h3]
            exact h2
        clear HSN HTS
        generalize (ns.take k).count x = C at *
        go_wp2
        go_roundg (n - (k + 1))
        case measure => omega
        case rel => exact ⟨k + 1, by omega, by omega, by go_num, (HR.out.set x (.int .i64 ((C : Int) + 1))).congr (fun j _ => HUP.out j), HB.out.setCell (Nat.le_refl _) _, HOD2.out⟩
    · have hkn : n = k := by omega
      subst hkn
      have HTK : Hid (ns.take n = ns) := List.take_of_length_le (by rw [HL.out]; exact Nat.le_refl _)
      rw [HTK.out] at HR HOD
      have HCB : Hid (∀ d, ns.count d ≤ 40) := fun d => Nat.le_trans List.count_le_length (by rw [HL.out]; exact hn)
      have hlast := HR.out.lt
      obtain ⟨w1, hw1⟩ : ∃ w1, w1 = wr := ⟨_, rfl⟩
      rw [← hw1] at HR HB hlast
      rw [← hw1]
      clear hw1 hk hg hlt
      obtain ⟨cc, hcq⟩ : ∃ cc : Nat → Nat, cc = fun d => ns.count d := ⟨_, rfl⟩
      have HCQ := hid hcq
      have HCB2 : Hid (∀ d, cc d ≤ 40) := fun d => by rw [HCQ.out]; exact HCB.out d
      have HR2 : Hid (w1.rowIs w.heap.size 40 41 (fun j => .int .i64 ((cc j : Nat) : Int))) := by rw [HCQ.out]; exact HR.out
      clear hcq HR HCB
      have HDL := hid (length_unl cc 40)
      go_wp2_with fail
      go_loopg [8, 9] 40 (fun g v t wr => ∃ (p : Nat) (acc : List Nat), p ≤ 40 ∧ p ≤ g ∧ t = .int .i64 (p : Int) ∧ OwnInts wr (w.heap.size + 1) v (ofN acc) ∧ acc ++ unl cc p = unl cc 40 ∧ Below (w.heap.size + 1) w1 wr)
      case atStart => exact ⟨40, [], by omega, by omega, rfl, OwnInts.nil _ _, rfl, Below.refl _ _⟩
      case round =>
        obtain ⟨p, acc, hp40, hpg, rfl, hown, hacc, hbel⟩ := hrel
        have HO := hid hown
        have HA := hid hacc
        have HB1 := hid hbel
        clear hown hacc hbel
        by_cases hp1 : 1 ≤ p
        · have hpi : (1 : Int) ≤ (p : Int) := by omega
          obtain ⟨q, hq⟩ : ∃ q, p = q + 1 := ⟨p - 1, by omega⟩
          have HQ := hid hq
          have HDQ : Hid (unl cc p = if bitOf cc p then p :: unl cc q else unl cc q) := by rw [hq]; exact rfl
          clear hq
          have HLN : Hid (acc.length ≤ 40) := by
            have e := congrArg List.length HA.out
            rw [List.length_append] at e
            have := HDL.out
            exact show acc.length ≤ 40 by omega
          obtain ⟨_, _, ho40, _⟩ := od_at (show 0 < p by omega) hp40
          go_wp2_with fail
          refine (split_any p _ (HT.out.keep (HB.out.trans (HB1.out.mono (by omega)))) (by omega) hp40).mono ?_
          rintro e w5 ⟨rfl, hb5⟩
          have HSZ1 : Hid (w.heap.size + 1 ≤ wr.heap.size) := Nat.le_trans hlast HB1.out.size
          have HO5 := hid (HO.out.keep hb5)
          have HB5 := hid (HB1.out.trans (hb5.mono HSZ1.out))
          clear hb5 HO HB1
          have g3 : w5.cell? ⟨w.heap.size, odp p, none⟩ = some (.int .i64 ((cc (odp p) : Nat) : Int)) := (HB5.out.cell (p := ⟨w.heap.size, odp p, none⟩) (Nat.lt_succ_self _)).trans (HR2.out.cell (by omega))
          have hoi : ((odp p : Nat) : Int) < 41 := by omega
          have hon : odp p < 41 := by omega
          have hand : (bits .and .i64 ((cc (odp p) : Nat) : Int) ((pwr p : Nat) : Int) != 0) = bitOf cc p := and_at (HCB2.out _)
          generalize hbb : bitOf cc p = bb at *
          generalize odp p = D at *
          generalize pwr p = P at *
          generalize cc D = C at *
          have HSZ : Hid (w.heap.size + 1 ≤ w5.heap.size) := Nat.le_trans hlast HB5.out.size
          clear hbb
          cases bb
          · go_wp2
            go_roundg q
            case measure => have := HQ.out; omega
            case rel =>
              have hq2 := HQ.out
              refine ⟨q, acc, by omega, by omega, ?_, HO5.out, ?_, HB5.out⟩
              · first | rfl | (rw [hq2]; go_num)
              · have := HA.out
                rw [HDQ.out] at this
                exact this
          · have HLL : Hid ((ofN acc).length ≤ 1000000000000) := by
              have := HLN.out
              rw [length_ofN]
              exact show acc.length ≤ 1000000000000 by omega
            have HRP : Hid (ofN acc ++ [(p : Int)] = ofN (acc ++ [p])) := by rw [ofN_append acc [p]]; exact rfl
            generalize ofN acc = zs at *
            go_wp2_with (at_builtin; refine wpList_app1 _ rfl (.tmp 47) (.tmp 49) rfl (w.heap.size + 1) _ zs (p : Int) rfl rfl HO5.out HLL.out HSZ.out ?_)
            intro v' w3 hown3 _ hbel3
            have HO3 := hid hown3
            have HB3 := hid (HB5.out.trans hbel3)
            clear hown3 hbel3 HO5 HB5
            go_wp2
            go_roundg q
            case measure => have := HQ.out; omega
            case rel =>
              have hq2 := HQ.out
              refine ⟨q, acc ++ [p], by omega, by omega, ?_, by rw [← HRP.out]; exact HO3.out, ?_, HB3.out⟩
              · first | rfl | (rw [hq2]; go_num)
              · have := HA.out
                rw [HDQ.out] at this
                rw [List.append_assoc]
                exact this
        · have hp0 : p = 0 := by omega
          subst hp0
          have HE := HA.out
          rw [unl, List.append_nil] at HE
          obtain ⟨A2, c2, rfl, hI2, hcap⟩ := HO.out.ints
          rw [length_ofN] at hI2 hcap ⊢
          have HI2 := hid hI2
          have HCP := hid hcap
          have HBF := hid (HB.out.trans (HB1.out.mono (by omega)))
          clear hI2 hcap
          go_wp2
          go_ret2
          exact Or.inr ⟨HOD.out, _, _, _, rfl, HBF.out, by rw [← HCQ.out, ← HE]; exact HI2.out, HCP.out⟩

end Go.Proofs.YteegddpoekphoaaDoor
