/-
  parts.Odd (P21).
-/
import Derived.Test.YteegddpoekphoaaDoorPartT
import Derived.Test.YteegddpoekphoaaDoorPartC
import Derived.Deep.OwnRows
namespace Go.Proofs.YteegddpoekphoaaDoor
open Go.RowKit

/-- Natural numbers as ints. -/
def ofN (ns : List Nat) : List Int := ns.map (fun n : Nat => (n : Int))
theorem length_ofN (ns : List Nat) : (ofN ns).length = ns.length := by simp [ofN]
theorem ofN_append (a b : List Nat) : ofN (a ++ b) = ofN a ++ ofN b := by simp [ofN]
theorem getD_ofN (ns : List Nat) (j : Nat) : (ofN ns).getD j 0 = ((ns.getD j 0 : Nat) : Int) := by
  simp only [ofN, List.getD_eq_getElem?_getD, List.getElem?_map]
  rcases ns[j]? with _ | x <;> rfl
theorem sum_ofN (ns : List Nat) : (ofN ns).sum = ((ns.sum : Nat) : Int) := by
  induction ns with
  | nil => rfl
  | cons x m ih =>
    show (x : Int) + (ofN m).sum = _
    rw [ih, List.sum_cons]
    omega
theorem take_snocN {m : List Nat} {k : Nat} (hk : k < m.length) : m.take (k + 1) = m.take k ++ [m.getD k 0] := by
  rw [List.take_add_one, List.getD_eq_getElem?_getD, List.getElem?_eq_getElem hk]
  rfl
theorem getD_memN {m : List Nat} {k : Nat} (hk : k < m.length) : m.getD k 0 ∈ m := by
  rw [List.getD_eq_getElem?_getD, List.getElem?_eq_getElem hk]
  exact List.getElem_mem hk
theorem mem_getDN {m : List Nat} {x : Nat} (h : x ∈ m) : ∃ k, k < m.length ∧ m.getD k 0 = x := by
  obtain ⟨k, hk, e⟩ := List.getElem_of_mem h
  refine ⟨k, hk, ?_⟩
  rw [List.getD_eq_getElem?_getD, List.getElem?_eq_getElem hk]
  exact e
/-- A right sum is of natural numbers. -/
theorem ofN_of {xs : List Int} (h : IsPart xs) : ∃ ns, xs = ofN ns := by
  refine ⟨xs.map Int.toNat, ?_⟩
  rw [ofN, List.map_map]
  conv => lhs; rw [← List.map_id xs]
  refine List.map_congr_left fun x hx => ?_
  obtain ⟨k, hk, e⟩ := List.getElem_of_mem hx
  have := h.ge hk
  rw [List.getD_eq_getElem?_getD, List.getElem?_eq_getElem hk, e] at this
  simp at this ⊢
  omega
theorem part_mem {ns : List Nat} (h : IsPart (ofN ns)) {x : Nat} (hx : x ∈ ns) : 0 < x ∧ x ≤ 40 := by
  obtain ⟨k, hk, rfl⟩ := mem_getDN hx
  have h1 := h.ge (j := k) (by rw [length_ofN]; exact hk)
  have h2 := h.le (j := k) (by rw [length_ofN]; exact hk)
  rw [getD_ofN] at h1 h2
  omega
theorem part_falls {ns : List Nat} (h : IsPart (ofN ns)) : ns.Pairwise (· ≥ ·) := by
  rw [List.pairwise_iff_getElem]
  intro i j hi hj hij
  have := h.mono (Nat.le_of_lt hij) (by rw [length_ofN]; exact hj)
  rw [getD_ofN, getD_ofN, List.getD_eq_getElem?_getD, List.getD_eq_getElem?_getD, List.getElem?_eq_getElem hi, List.getElem?_eq_getElem hj] at this
  simpa using this
theorem part_sumN {ns : List Nat} (h : IsPart (ofN ns)) : ns.sum ≤ 40 := by
  have := h.sum_le
  rw [sum_ofN] at this
  omega
theorem part_lenN {ns : List Nat} (h : IsPart (ofN ns)) : ns.length ≤ 40 := by
  have := h.length_le
  rwa [length_ofN] at this
theorem part_mkN {ns : List Nat} (h0 : ∀ x ∈ ns, 0 < x) (hf : ns.Pairwise (· ≥ ·)) (hs : ns.sum ≤ 40) : IsPart (ofN ns) := by
  refine isPart_mk (fun j hj => ?_) (fun j hj => ?_) (by rw [sum_ofN]; omega)
  · rw [length_ofN] at hj
    have := h0 _ (getD_memN hj)
    rw [getD_ofN]
    omega
  · rw [length_ofN] at hj
    have := List.pairwise_iff_getElem.1 hf j (j + 1) (by omega) hj (by omega)
    rw [getD_ofN, getD_ofN, List.getD_eq_getElem?_getD, List.getD_eq_getElem?_getD, List.getElem?_eq_getElem hj, List.getElem?_eq_getElem (show j < ns.length by omega)]
    simp
    omega

theorem cO_le (m : List Nat) (d : Nat) : cO m d ≤ 32 * m.length := by
  induction m with
  | nil => simp [cO]
  | cons x m ih =>
    rw [cO_cons, List.length_cons]
    have := pwr_le x
    split <;> omega
theorem cO_snoc (m : List Nat) (x d : Nat) : cO (m ++ [x]) d = cO m d + (if odp x = d then pwr x else 0) := by rw [cO_append, cO_cons, cO_nil]; omega
theorem length_down {c : Nat → Nat} {B : Nat} (h : ∀ x, c x ≤ B) (k : Nat) : (down c k).length ≤ k * B := by
  induction k with
  | zero => simp [down]
  | succ k ih =>
    rw [down, List.length_append, List.length_replicate, Nat.add_mul]
    have := h (k + 1)
    omega

theorem zeros_start (w : World) : (w.alloc (Obj.cells #[Value.int .i64 0, Value.int .i64 0, Value.int .i64 0, Value.int .i64 0, Value.int .i64 0, Value.int .i64 0, Value.int .i64 0, Value.int .i64 0, Value.int .i64 0, Value.int .i64 0, Value.int .i64 0, Value.int .i64 0, Value.int .i64 0, Value.int .i64 0, Value.int .i64 0, Value.int .i64 0, Value.int .i64 0, Value.int .i64 0, Value.int .i64 0, Value.int .i64 0, Value.int .i64 0, Value.int .i64 0, Value.int .i64 0, Value.int .i64 0, Value.int .i64 0, Value.int .i64 0, Value.int .i64 0, Value.int .i64 0, Value.int .i64 0, Value.int .i64 0, Value.int .i64 0, Value.int .i64 0, Value.int .i64 0, Value.int .i64 0, Value.int .i64 0, Value.int .i64 0, Value.int .i64 0, Value.int .i64 0, Value.int .i64 0, Value.int .i64 0, Value.int .i64 0] 40)).rowIs w.heap.size 40 41 (fun _ => .int .i64 0) := by
  refine World.rowIs_alloc w _ _ _ fun i hi => ?_
  have hi' : i < 41 := by simpa using hi
  clear hi
  iterate 41
    rcases i with _ | i
    · rfl
  omega

/-- No number beside its like. -/
def NoTwin (ns : List Nat) (k : Nat) : Prop := ∀ j, 0 < j → j < k → ns.getD j 0 ≠ ns.getD (j - 1) 0
theorem falls_gt {ns : List Nat} (hf : ns.Pairwise (· ≥ ·)) (h : NoTwin ns ns.length) : ns.Pairwise (· > ·) := by
  rw [List.pairwise_iff_getElem] at hf ⊢
  intro i j hi hj hij
  have h1 := hf (j - 1) j (by omega) hj (by omega)
  have h2 := h j (by omega) hj
  rw [List.getD_eq_getElem?_getD, List.getD_eq_getElem?_getD, List.getElem?_eq_getElem hj, List.getElem?_eq_getElem (show j - 1 < ns.length by omega)] at h2
  simp only [Option.getD_some] at h2
  rcases Nat.lt_or_ge i (j - 1) with h3 | h3
  · have := hf i (j - 1) hi (by omega) h3
    omega
  · have e : i = j - 1 := by omega
    subst e
    omega

/-- What comes back: a refusal where two are alike, else the odd numbers. -/
def RetOdd (w : World) (ns : List Nat) (e : Ending) (w' : World) : Prop :=
  (¬ NoTwin ns ns.length ∧ e = .returned (.tuple #[.slice none 0 0, .int .i64 3]) ∧ Below w.heap.size w w') ∨ (NoTwin ns ns.length ∧ RetInts w (ofN (down (cO ns) 40)) 0 e w')

set_option maxHeartbeats 800000 in
theorem odd_bad (A : Option Addr) (n c : Nat) (xs : List Int) (w : World) (h : Ints w A n xs) (hm : n ≤ 9223372036854775807) (he : partErr xs ≠ 0) :
    Calls Tryd.prog 7 #[.slice A n c] w fun e w' => e = .returned (.tuple #[.slice none 0 0, .int .i64 (partErr xs)]) ∧ w = w' := by
  generalize hq : partErr xs = er at *
  have he' : (er != 0) = true := by simpa using he
  have HQ := hid hq
  clear hq
  go_enter Tryd.func7, Tryd.ntmps7
  go_wp2_with fail
  refine (pcheck_any A n c xs _ h hm).mono ?_
  rintro e w' ⟨rfl, rfl⟩
  rw [HQ.out]
  go_wp2
  go_ret2
  exact ⟨rfl, rfl⟩

set_option maxHeartbeats 3000000 in
set_option maxRecDepth 100000 in
theorem odd_any (A : Option Addr) (n c : Nat) (ns : List Nat) (w : World) (h : Ints w A n (ofN ns)) (hp : IsPart (ofN ns)) (ht : Tab64 w) :
    Calls Tryd.prog 7 #[.slice A n c] w (RetOdd w ns) := by
  have hlen : ns.length = n := by rw [← h.len, length_ofN]
  have hn : n ≤ 40 := by rw [← hlen]; exact part_lenN hp
  have HL := hid hlen
  have HP := hid hp
  have HI := hid h
  have HT := hid ht
  have HX : Hid (∀ k, k < n → 0 < ns.getD k 0 ∧ ns.getD k 0 ≤ 40) := fun k hk => part_mem hp (getD_memN (by omega))
  have HC : Hid (0 < n → ∃ b o, A = some ⟨b, o, none⟩ ∧ b < w.heap.size ∧ ∀ k, k < n → w.cell? ⟨b, o + k, none⟩ = some (.int .i64 ((ns.getD k 0 : Nat) : Int))) := by
    intro h0
    obtain ⟨b, o, e, hb, hc⟩ := h.row h0
    exact ⟨b, o, e, hb, fun k hk => by rw [hc k hk, getD_ofN]⟩
  clear h hp ht hlen
  go_enter Tryd.func7, Tryd.ntmps7
  go_wp2_with fail
  refine (pcheck_any A n c (ofN ns) _ HI.out (by omega)).mono ?_
  rintro e w' ⟨rfl, rfl⟩
  rw [partErr_ok HP.out]
  go_wp2_with fail
  go_loopg [19] n (fun g s wr => ∃ k : Nat, k ≤ n ∧ n - k ≤ g ∧ s = .int .i64 (k : Int) ∧ wr.rowIs w.heap.size 40 41 (fun j => .int .i64 ((cO (ns.take k) j : Nat) : Int)) ∧ Below w.heap.size w wr ∧ NoTwin ns k)
  case atStart => exact ⟨0, Nat.zero_le _, by omega, rfl, zeros_start w, (Below.refl _ _).alloc (Nat.le_refl _) _, fun j h0 h1 => by omega⟩
  case round =>
    obtain ⟨k, hk, hg, rfl, hrow, hbel, htw⟩ := hrel
    have HR := hid hrow
    have HB := hid hbel
    have HTW := hid htw
    clear hrow hbel htw
    by_cases hlt : k < n
    · obtain ⟨b, o, hA, hb, hc⟩ := HC.out (by omega)
      have g1 : wr.cell? ⟨b, o + k, none⟩ = some (.int .i64 ((ns.getD k 0 : Nat) : Int)) := (HB.out.cell (p := ⟨b, o + k, none⟩) hb).trans (hc k hlt)
      have HCC := hid hc
      have hx := HX.out k hlt
      subst hA
      clear hc
      have HSN : Hid (∀ j, cO (ns.take (k + 1)) j = cO (ns.take k) j + (if odp (ns.getD k 0) = j then pwr (ns.getD k 0) else 0)) := fun j => by rw [take_snocN (by rw [HL.out]; exact hlt), cO_snoc]
      obtain ⟨_, _, ho40, _⟩ := od_at hx.1 hx.2
      have hpw := pwr_le (ns.getD k 0)
      have hcb := cO_le (ns.take k) (odp (ns.getD k 0))
      rw [List.length_take, HL.out] at hcb
      have hcb2 : cO (ns.take k) (odp (ns.getD k 0)) ≤ 1280 := by omega
      clear hcb
      by_cases h0 : k = 0
      · subst h0
        rw [Nat.add_zero] at g1
        have HNE : Hid (NoTwin ns (0 + 1)) := fun j h1 h2 => by omega
        clear HX HCC
        generalize ns.getD 0 0 = x at *
        go_wp2_with fail
        refine (split_any x _ (HT.out.keep HB.out) hx.1 hx.2).mono ?_
        rintro e w5 ⟨rfl, hb5⟩
        have HB5 := hid (below_step HB.out (Nat.le_refl _) hb5)
        have HR5 := hid (HR.out.of_block (hb5.block w.heap.size HR.out.lt))
        clear hb5 g1
        have g3 : w5.cell? ⟨w.heap.size, odp x, none⟩ = some (.int .i64 ((cO (ns.take 0) (odp x) : Nat) : Int)) := HR5.out.cell (by omega)
        have f3 : w5.frozen? ⟨w.heap.size, odp x, none⟩ = false := HR5.out.frozen (odp x)
        have ho41 : odp x < 41 := by omega
        have hoi : ((odp x : Nat) : Int) < 41 := by omega
        have HUP : Hid (∀ j, (if j = odp x then Value.int .i64 (((cO (ns.take 0) (odp x) : Nat) : Int) + ((pwr x : Nat) : Int)) else .int .i64 ((cO (ns.take 0) j : Nat) : Int)) = .int .i64 ((cO (ns.take (0 + 1)) j : Nat) : Int)) := by
          intro j
          rw [HSN.out j]
          by_cases e : j = odp x
          · subst e
            rw [if_pos rfl, if_pos rfl]
            rfl
          · rw [if_neg e, if_neg (fun h => e h.symm)]
            rfl
        clear HSN
        generalize cO (ns.take 0) (odp x) = C at *
        generalize odp x = D at *
        generalize pwr x = P at *
        go_wp2
        go_roundg (n - (0 + 1))
        case measure => omega
        case rel => exact ⟨0 + 1, by omega, by omega, by go_num, (HR5.out.set D (.int .i64 ((C : Int) + (P : Int)))).congr (fun j _ => HUP.out j), HB5.out.setCell (Nat.le_refl _) _, HNE.out⟩
      · obtain ⟨m, hkm⟩ : ∃ m, k = m + 1 := ⟨k - 1, by omega⟩
        have g2 : wr.cell? ⟨b, o + m, none⟩ = some (.int .i64 ((ns.getD m 0 : Nat) : Int)) := (HB.out.cell (p := ⟨b, o + m, none⟩) hb).trans (HCC.out m (by omega))
        have HKM := hid hkm
        have hd : decide (0 < k) = true := by simp; omega
        have hwr : IntKind.i64.wrap ((k : Int) - 1) = (m : Int) := by rw [IntWalk.i64_in _ (by omega)]; omega
        have hmn : m < n := by omega
        have hmN : (m : Int) < (n : Int) := by omega
        clear hkm
        by_cases heq : ns.getD k 0 = ns.getD m 0
        · have HNT : Hid (¬ NoTwin ns ns.length) := fun h => h k (by omega) (by rw [HL.out]; exact hlt) (by have e := HKM.out; rw [show k - 1 = m by omega]; exact heq)
          have heb : (((ns.getD k 0 : Nat) : Int) == ((ns.getD m 0 : Nat) : Int)) = true := by rw [heq]; exact beq_self_eq_true _
          clear heq HSN HX HCC
          generalize ns.getD k 0 = x at *
          generalize ns.getD m 0 = y at *
          go_wp2
          go_ret2
          exact Or.inl ⟨HNT.out, rfl, HB.out⟩
        · have HNE : Hid (NoTwin ns (k + 1)) := fun j h1 h2 => by
            by_cases e : j = k
            · rw [e, show k - 1 = m by have := HKM.out; omega]
              exact heq
            · exact HTW.out j h1 (by omega)
          have heb : (((ns.getD k 0 : Nat) : Int) == ((ns.getD m 0 : Nat) : Int)) = false := beq_eq_false_iff_ne.2 (fun e => heq (Int.ofNat_inj.1 e))
          clear heq HX HCC
          generalize ns.getD m 0 = y at *
          generalize ns.getD k 0 = x at *
          go_wp2_with fail
          refine (split_any x _ (HT.out.keep HB.out) hx.1 hx.2).mono ?_
          rintro e w5 ⟨rfl, hb5⟩
          have HB5 := hid (below_step HB.out (Nat.le_refl _) hb5)
          have HR5 := hid (HR.out.of_block (hb5.block w.heap.size HR.out.lt))
          clear hb5 g1
          have g3 : w5.cell? ⟨w.heap.size, odp x, none⟩ = some (.int .i64 ((cO (ns.take k) (odp x) : Nat) : Int)) := HR5.out.cell (by omega)
          have f3 : w5.frozen? ⟨w.heap.size, odp x, none⟩ = false := HR5.out.frozen (odp x)
          have ho41 : odp x < 41 := by omega
          have hoi : ((odp x : Nat) : Int) < 41 := by omega
          have HUP : Hid (∀ j, (if j = odp x then Value.int .i64 (((cO (ns.take k) (odp x) : Nat) : Int) + ((pwr x : Nat) : Int)) else .int .i64 ((cO (ns.take k) j : Nat) : Int)) = .int .i64 ((cO (ns.take (k + 1)) j : Nat) : Int)) := by
            intro j
            rw [HSN.out j]
            by_cases e : j = odp x
            · subst e
              rw [if_pos rfl, if_pos rfl]
              rfl
            · rw [if_neg e, if_neg (fun h => e h.symm)]
              rfl
          clear HSN
          generalize cO (ns.take k) (odp x) = C at *
          generalize odp x = D at *
          generalize pwr x = P at *
          go_wp2
          go_roundg (n - (k + 1))
          case measure => omega
          case rel => exact ⟨k + 1, by omega, by omega, by go_num, (HR5.out.set D (.int .i64 ((C : Int) + (P : Int)))).congr (fun j _ => HUP.out j), HB5.out.setCell (Nat.le_refl _) _, HNE.out⟩
    · have hkn : n = k := by omega
      subst hkn
      have HTK : Hid (ns.take n = ns) := List.take_of_length_le (by rw [HL.out]; exact Nat.le_refl _)
      rw [HTK.out] at HR
      have HTN : Hid (NoTwin ns ns.length) := by rw [HL.out]; exact HTW.out
      have HCB : Hid (∀ d, cO ns d ≤ 1280) := fun d => by
        have h1 := cO_le ns d
        have h2 := HL.out
        omega
      have HDL := hid (length_down (c := cO ns) (B := 1280) HCB.out 40)
      have hlast := HR.out.lt
      obtain ⟨w1, hw1⟩ : ∃ w1, w1 = wr := ⟨_, rfl⟩
      rw [← hw1] at HR HB hlast
      rw [← hw1]
      clear hw1 HTW hk hg hlt
      generalize hcq : cO ns = cc at *
      have HCQ := hid hcq
      clear hcq
      go_wp2_with fail
      go_loopg [10, 11] 40 (fun g v t wr => ∃ (p : Nat) (acc : List Nat), p ≤ 40 ∧ p ≤ g ∧ t = .int .i64 (p : Int) ∧ OwnInts wr (w.heap.size + 1) v (ofN acc) ∧ acc ++ down cc p = down cc 40 ∧ Below (w.heap.size + 1) w1 wr)
      case atStart => exact ⟨40, [], by omega, by omega, rfl, OwnInts.nil _ _, rfl, Below.refl _ _⟩
      case round =>
        obtain ⟨p, acc, hp40, hpg, rfl, hown, hacc, hbel⟩ := hrel
        have HO := hid hown
        have HA := hid hacc
        have HB1 := hid hbel
        clear hown hacc hbel
        by_cases hp1 : 1 ≤ p
        · have hpi : (1 : Int) ≤ (p : Int) := by omega
          have hp41 : (p : Int) < 41 := by omega
          have hpn : p < 41 := by omega
          obtain ⟨q, hq⟩ : ∃ q, p = q + 1 := ⟨p - 1, by omega⟩
          have HQ := hid hq
          have HDQ : Hid (down cc p = List.replicate (cc p) p ++ down cc q) := by rw [hq]; exact rfl
          clear hq
          have g1 : wr.cell? ⟨w.heap.size, p, none⟩ = some (.int .i64 ((cc p : Nat) : Int)) := (HB1.out.cell (p := ⟨w.heap.size, p, none⟩) (Nat.lt_succ_self _)).trans (HR.out.cell hpn)
          have hcb := HCB.out p
          have HLN : Hid (acc.length + cc p ≤ 51200) := by
            have e := congrArg List.length HA.out
            rw [HDQ.out] at e
            simp only [List.length_append, List.length_replicate] at e
            have := HDL.out
            exact show acc.length + cc p ≤ 51200 by omega
          generalize cc p = C at *
          go_wp2_with fail
          obtain ⟨w8, hw8⟩ : ∃ w8, w8 = wr := ⟨_, rfl⟩
          rw [← hw8] at HO HB1
          rw [← hw8]
          clear hw8 g1
          go_loopg [10, 54] C (fun g v t wq => ∃ j : Nat, j ≤ C ∧ C - j ≤ g ∧ t = .int .i64 (j : Int) ∧ OwnInts wq (w.heap.size + 1) v (ofN (acc ++ List.replicate j p)) ∧ Below (w.heap.size + 1) w1 wq)
          case atStart => exact ⟨0, Nat.zero_le _, by omega, rfl, by simpa using HO.out, HB1.out⟩
          case round =>
            obtain ⟨j, hj, hg2, rfl, ho2, hb2⟩ := hrel
            have HO2 := hid ho2
            have HB2 := hid hb2
            clear ho2 hb2 HO HB1
            by_cases hlt2 : j < C
            · have HLL : Hid ((ofN (acc ++ List.replicate j p)).length ≤ 1000000000000) := by
                have := HLN.out
                rw [length_ofN, List.length_append, List.length_replicate]
                exact show acc.length + j ≤ 1000000000000 by omega
              have HSZ : Hid (w.heap.size + 1 ≤ wr.heap.size) := Nat.le_trans hlast HB2.out.size
              have HRP : Hid (ofN (acc ++ List.replicate j p) ++ [(p : Int)] = ofN (acc ++ List.replicate (j + 1) p)) := by
                have e : acc ++ List.replicate (j + 1) p = acc ++ List.replicate j p ++ [p] := by rw [List.replicate_succ', List.append_assoc]
                rw [e, ofN_append (acc ++ List.replicate j p) [p]]
                exact rfl
              generalize ofN (acc ++ List.replicate j p) = zs at *
              go_wp2_with (at_builtin; refine wpList_app1 _ rfl (.tmp 56) (.tmp 58) rfl (w.heap.size + 1) _ zs (p : Int) rfl rfl HO2.out HLL.out HSZ.out ?_)
              intro v' w3 hown3 _ hbel3
              have HO3 := hid hown3
              have HB3 := hid (HB2.out.trans hbel3)
              clear hown3 hbel3 HO2 HB2
              go_wp2
              go_roundg (C - (j + 1))
              case measure => omega
              case rel => exact ⟨j + 1, by omega, by omega, by go_num, by rw [← HRP.out]; exact HO3.out, HB3.out⟩
            · have hjc : C = j := by omega
              subst hjc
              go_wp2
              go_roundg q
              case measure => have := HQ.out; omega
              case rel =>
                have hq2 := HQ.out
                refine ⟨q, acc ++ List.replicate C p, by omega, by omega, ?_, HO2.out, ?_, HB2.out⟩
                · first | rfl | (rw [hq2]; go_num)
                · rw [List.append_assoc, ← HDQ.out]
                  exact HA.out
        · have hp0 : p = 0 := by omega
          subst hp0
          have HE := HA.out
          rw [down, List.append_nil] at HE
          obtain ⟨A2, c2, rfl, hI2, hcap⟩ := HO.out.ints
          rw [length_ofN] at hI2 hcap ⊢
          have HI2 := hid hI2
          have HCP := hid hcap
          have HBF := hid (HB.out.trans (HB1.out.mono (by omega)))
          clear hI2 hcap
          go_wp2
          go_ret2
          exact Or.inr ⟨HTN.out, _, _, _, rfl, HBF.out, by rw [HCQ.out, ← HE]; exact HI2.out, HCP.out⟩

end Go.Proofs.YteegddpoekphoaaDoor
