/-
  The verifier's castref.CyclesOf and castref.OrderOf.
-/
import Derived.Test.YtheogajhclhlhaaSortO
import Derived.Test.YtheogajhclhlhaaRefA
import Derived.Test.YtheogajhclhlhaaCycT
namespace Go.Proofs.Ytheogajhclhlhaa
open Go.RowKit

/-- The least of the first m numbers met from i on. -/
def lw (p : List Int) (i : Nat) : Nat → Nat
  | 0 => i
  | m + 1 => min (lw p i m) (it p m i)
theorem lw_le (p : List Int) (i : Nat) : ∀ m k, k < m → lw p i m ≤ it p k i
  | m + 1, k, hk => by
    simp only [lw]
    by_cases h : k = m
    · subst h
      exact Nat.min_le_right _ _
    · exact Nat.le_trans (Nat.min_le_left _ _) (lw_le p i m k (by omega))
theorem lw_mem (p : List Int) (i : Nat) : ∀ m, ∃ k, lw p i m = it p k i
  | 0 => ⟨0, rfl⟩
  | m + 1 => by
    simp only [lw]
    rcases Nat.le_total (lw p i m) (it p m i) with h | h
    · rw [Nat.min_eq_left h]
      exact lw_mem p i m
    · rw [Nat.min_eq_right h]
      exact ⟨m, rfl⟩
theorem lw_per {p : List Int} (h : IsPerm p) {i : Nat} (hi : i < p.length) : lw p i (per p i) = lo p i := by
  apply Nat.le_antisymm
  · obtain ⟨k, e⟩ := lo_mem p i
    rw [e, it_mod h hi k]
    exact lw_le p i _ _ (Nat.mod_lt _ (by have := (per_spec h hi).1; omega))
  · obtain ⟨k, e⟩ := lw_mem p i (per p i)
    rw [e]
    exact lo_le h hi k

theorem run_min2 {P : Program} (x y : Nat) (ts : Array TypeId) (t : TypeId) (W : World) :
    (Builtin.min_ ts t #[.int .i64 (x : Int), .int .i64 (y : Int)]).run P W = .ok (.int .i64 ((min x y : Nat) : Int)) W := by
  have e : (if (y : Int) < x then (y : Int) else x) = ((min x y : Nat) : Int) := by split <;> omega
  simp only [Builtin.min_, Builtin.min2, List.foldlM_cons, List.foldlM_nil, pure_bind]
  simp only [e]
  rfl

theorem sorted_reverse {ys : List Int} (h : SortedTo climbs ys ys.length) : SortedTo falls ys.reverse ys.reverse.length := by
  intro u v huv hv
  rw [List.length_reverse] at hv
  have e : ∀ j, j < ys.length → ys.reverse.getD j 0 = ys.getD (ys.length - 1 - j) 0 := fun j hj => by
    rw [List.getD_eq_getElem?_getD, List.getElem?_reverse hj, List.getD_eq_getElem?_getD]
  rw [e u (by omega), e v hv]
  exact h _ _ (by omega) (by omega)

def RetOwnCyc (w : World) (p : List Int) (e : Ending) (w' : World) : Prop := ∃ ys, IsCycles p ys ∧ RetOwn w ys e w'

set_option maxHeartbeats 1600000 in
theorem cyclesOf_any (A : Option Addr) (n c : Nat) (p : List Int) (w : World) (h : Ints w A n p) (hp : IsPerm p) (hn : n ≤ 10) :
    Calls Try.prog 20 #[.slice A n c] w (RetOwnCyc w p) := by
  have HP := hid hp
  have HL := hid h.len
  clear hp
  go_enter Try.func20, Try.ntmps20
  go_wp2
  go_loopg [3, 10] n (fun g v s wr => ∃ k : Nat, k ≤ n ∧ n - k ≤ g ∧ s = .int .i64 k ∧ OwnInts wr w.heap.size v (cycL p k) ∧ Below w.heap.size w wr)
  case atStart => exact ⟨0, Nat.zero_le _, by omega, rfl, OwnInts.nil _ _, Below.refl _ _⟩
  case round =>
    obtain ⟨k, hk, hg, rfl, hown, hbel⟩ := hrel
    have HO := hid hown
    have HB := hid hbel
    clear hown hbel
    by_cases hlt : k < n
    · obtain ⟨b, o, rfl, hb, hc⟩ := h.row (by omega)
      have HC := hid hc
      have hkl : k < p.length := by rw [HL.out]; exact hlt
      have HPS := hid (per_spec HP.out hkl)
      have hstep : ∀ m, p.getD (it p m k) 0 = ((it p (m + 1) k : Nat) : Int) := fun m => by
        have := HP.out.range (getD_mem (it_lt HP.out hkl m))
        show _ = ((nx p (it p m k) : Nat) : Int)
        unfold nx
        omega
      have g0 : wr.cell? ⟨b, o + k, none⟩ = some (.int .i64 ((it p 1 k : Nat) : Int)) := by
        have e := hstep 0
        rw [← e]
        exact (HB.out.cell (p := ⟨b, o + k, none⟩) hb).trans (HC.out k hlt)
      have HST := hid hstep
      clear hc h hkl hstep
      have hp1 := HPS.out.1
      have hpn := HPS.out.2.1
      rw [HL.out] at hpn
      have HLW : Hid (lw p k 1 = k) := by simp [lw, it, Hid]
      have hkk := HLW.out
      clear hkk
      go_wp2
      go_loopg [5, 6, 7] (per p k) (fun g s5 s6 s7 wq => ∃ m : Nat, 1 ≤ m ∧ m ≤ per p k ∧ per p k - m ≤ g ∧ s5 = .int .i64 m ∧ s6 = .int .i64 (lw p k m : Nat) ∧ s7 = .int .i64 (it p m k : Nat) ∧ wr = wq)
      case atStart => exact ⟨1, Nat.le_refl _, hp1, by omega, rfl, by rw [HLW.out], rfl, rfl⟩
      case round =>
        obtain ⟨m, hm1, hm, hgm, rfl, rfl, rfl, rfl⟩ := hrel
        have hkl : k < p.length := by rw [HL.out]; exact hlt
        have hi := it_lt HP.out hkl m
        rw [HL.out] at hi
        by_cases hmp : m < per p k
        · have hne := HPS.out.2.2.2 m hm1 hmp
          have hne' : (((it p m k : Nat) : Int) != (k : Int)) = true := by simp; omega
          have g1 : wr.cell? ⟨b, o + it p m k, none⟩ = some (.int .i64 ((it p (m + 1) k : Nat) : Int)) := by
            rw [← HST.out m]
            exact (HB.out.cell (p := ⟨b, o + it p m k, none⟩) hb).trans (HC.out _ hi)
          have hmin := run_min2 (P := Try.prog) (lw p k m) (it p m k)
          have HW : Hid (min (lw p k m) (it p m k) = lw p k (m + 1)) := rfl
          rw [HW.out] at hmin
          clear hne hkl
          go_wp2
          go_roundg (per p k - (m + 1))
          case measure => omega
          case rel => exact ⟨m + 1, by omega, by omega, by omega, by go_num, rfl, rfl, rfl⟩
        · have hme : m = per p k := by omega
          subst hme
          have hback := HPS.out.2.2.1
          have hlo := lw_per HP.out hkl
          rw [hback, hlo]
          have e1 : (((k : Nat) : Int) != (k : Int)) = false := by simp
          have HLC : Hid ((cycL p k).length ≤ 10) := Nat.le_trans (length_cycL_le p k) (by omega)
          clear hback hlo hi hkl
          by_cases hl : lo p k = k
          · have e2 : (((lo p k : Nat) : Int) == (k : Int)) = true := by simp; omega
            have HLO := hid hl
            clear hl
            go_wp2_with (at_builtin; refine wpList_app1 _ rfl (.tmp 33) (.tmp 35) rfl w.heap.size _ (cycL p k) (per p k : Nat) rfl rfl HO.out (Nat.le_trans HLC.out (by omega)) HB.out.size ?_)
            intro v' w1 hown1 hgrow1 hbel1
            have HO1 := hid hown1
            have HB1 := hid (HB.out.trans hbel1)
            clear hown1 hbel1 hgrow1
            go_wp2
            go_roundg (n - (k + 1))
            case measure => omega
            case rel => exact ⟨k + 1, by omega, by omega, by go_num, by rw [cycL_yes HLO.out]; exact HO1.out, HB1.out⟩
          · have e2 : (((lo p k : Nat) : Int) == (k : Int)) = false := by simp; omega
            have HLO := hid hl
            clear hl
            go_wp2
            go_roundg (n - (k + 1))
            case measure => omega
            case rel => exact ⟨k + 1, by omega, by omega, by go_num, by rw [cycL_no HLO.out]; exact HO.out, HB.out⟩
    · have hkn : k = n := by omega
      subst hkn
      have hl10 := Nat.le_trans (length_cycL_le p k) hn
      go_wp2_with fail
      refine (sort_any w.heap.size _ _ _ HO.out (by omega)).mono ?_
      rintro e w3 ⟨rfl, ys, hown3, hperm, hsort, hgrow⟩
      have HB3 := hid (HB.out.grown hgrow HB.out.size (fun k hk => (World.ownsRow.lt HO.out k hk).1))
      have HO3 := hid hown3
      have HPM := hid hperm
      have HSO := hid hsort
      have hl3 : ys.length ≤ 10 := by rw [hperm.length_eq]; exact hl10
      clear hown3 hperm hsort hgrow
      go_wp2_with fail
      refine (reverse_any w.heap.size _ _ _ HO3.out (by omega)).mono ?_
      rintro e w4 ⟨rfl, hown4, hgrow⟩
      have HB4 := hid (HB3.out.grown hgrow HB3.out.size (fun k hk => (World.ownsRow.lt HO3.out k hk).1))
      have HO4 := hid hown4
      clear hown4 hgrow
      go_wp2
      go_ret
      exact ⟨ys.reverse, ⟨(List.reverse_perm ys).trans (by rw [HL.out]; exact HPM.out), sorted_reverse HSO.out⟩, _, rfl, HO4.out, HB4.out⟩

/-! ### OrderOf -/

/-- p, m times. -/
def pw (p : List Int) (m : Nat) : List Int := (List.range p.length).map (fun i => ((it p m i : Nat) : Int))
theorem length_pw (p : List Int) (m : Nat) : (pw p m).length = p.length := by simp [pw]
theorem getD_pw {p : List Int} {i : Nat} (h : i < p.length) (m : Nat) : (pw p m).getD i 0 = ((it p m i : Nat) : Int) := by simp [pw, List.getD_eq_getElem?_getD, h]
theorem pw_one {p : List Int} (h : IsPerm p) : pw p 1 = p := by
  apply ext_getD (length_pw p 1)
  intro i hi
  rw [length_pw] at hi
  rw [getD_pw hi]
  have := h.range (getD_mem hi)
  show ((nx p i : Nat) : Int) = _
  unfold nx
  omega
theorem pw_succ {p : List Int} (h : IsPerm p) (m : Nat) : times p (pw p m) = pw p (m + 1) := by
  apply ext_getD (by rw [length_times, length_pw, length_pw])
  intro i hi
  rw [length_times, length_pw] at hi
  rw [getD_times (by rw [length_pw]; exact hi), getD_pw hi, getD_pw hi, Int.toNat_natCast]
  have := h.range (getD_mem (it_lt h hi m))
  show _ = ((nx p (it p m i) : Nat) : Int)
  unfold nx
  omega
theorem isPerm_pw {p : List Int} (h : IsPerm p) : ∀ m, 1 ≤ m → IsPerm (pw p m)
  | 1, _ => by rw [pw_one h]; exact h
  | m + 2, _ => by
    rw [← pw_succ h]
    exact isPerm_times h (isPerm_pw h (m + 1) (by omega)) (by rw [length_pw])
theorem pw_range {p : List Int} (h : IsPerm p) (m : Nat) {x : Int} (hx : x ∈ pw p m) : 0 ≤ x ∧ x < p.length := by
  obtain ⟨i, hi, rfl⟩ := List.mem_map.1 hx
  have := it_lt h (List.mem_range.1 hi) m
  omega

theorem sortedTo_of_sortedB {xs : List Int} (h : sortedB xs = true) : SortedTo climbs xs xs.length := by
  have h' := sortedB_true.1 h
  intro u v huv hv
  induction v with
  | zero => omega
  | succ v ih =>
    by_cases e : u = v
    · subst e
      exact h' u hv
    · have h1 := ih (by omega) (by omega)
      have h2 := h' v hv
      unfold climbs at *
      omega
theorem climbs_anti (a b : Int) (h : climbs a b) (h' : climbs b a) : a = b := by unfold climbs at *; omega
theorem sorted_perm {p : List Int} (hp : IsPerm p) (h : sortedB p = true) : p = iota p.length :=
  sorted_unique climbs_anti (pairwise_of_sortedTo (sortedTo_of_sortedB h)) (pairwise_iota _) hp

theorem it_dvd {p : List Int} (h : IsPerm p) {i : Nat} (hi : i < p.length) (m : Nat) : it p m i = i ↔ per p i ∣ m := by
  have hs := per_spec h hi
  rw [it_mod h hi]
  constructor
  · intro e
    apply Nat.dvd_of_mod_eq_zero
    apply Classical.byContradiction
    intro hne
    exact hs.2.2.2 (m % per p i) (by omega) (Nat.mod_lt _ (by omega)) e
  · intro hd
    rw [Nat.mod_eq_zero_of_dvd hd]
    rfl

theorem foldl_lcm_dvd (l : List Int) (a m : Nat) : l.foldl (fun a x => Nat.lcm a x.toNat) a ∣ m ↔ a ∣ m ∧ ∀ x, x ∈ l → x.toNat ∣ m := by
  induction l generalizing a with
  | nil => simp
  | cons y t ih =>
    rw [List.foldl_cons, ih]
    constructor
    · rintro ⟨h1, h2⟩
      refine ⟨Nat.dvd_trans (Nat.dvd_lcm_left _ _) h1, fun x hx => ?_⟩
      rcases List.mem_cons.1 hx with rfl | hx
      · exact Nat.dvd_trans (Nat.dvd_lcm_right _ _) h1
      · exact h2 x hx
    · rintro ⟨h1, h2⟩
      exact ⟨Nat.lcm_dvd h1 (h2 y (by simp)), fun x hx => h2 x (by simp [hx])⟩
theorem ordL_dvd (l : List Int) (m : Nat) : ordL l ∣ m ↔ ∀ x, x ∈ l → x.toNat ∣ m := by
  unfold ordL
  rw [foldl_lcm_dvd]
  simp

/-- p done m times lets each go to itself just where its order divides m. -/
theorem pw_sorted {p : List Int} (h : IsPerm p) {m : Nat} (hm : 1 ≤ m) : sortedB (pw p m) = true ↔ ordL (cycL p p.length) ∣ m := by
  rw [ordL_dvd]
  constructor
  · intro hs x hx
    obtain ⟨i, hi, rfl⟩ := List.mem_map.1 hx
    have hi' := List.mem_range.1 (List.mem_filter.1 hi).1
    rw [Int.toNat_natCast]
    rw [← it_dvd h hi']
    have e := sorted_perm (isPerm_pw h m hm) hs
    have e2 := congrArg (fun l : List Int => l.getD i 0) e
    simp only [length_pw] at e2
    rw [getD_pw hi', getD_iota hi'] at e2
    omega
  · intro hd
    have e : pw p m = iota p.length := by
      apply ext_getD (by rw [length_pw, length_iota])
      intro i hi
      rw [length_pw] at hi
      rw [getD_pw hi, getD_iota hi]
      have hl := lo_eq h hi rfl
      have hmem : ((per p (lo p i) : Nat) : Int) ∈ cycL p p.length := List.mem_map.2 ⟨lo p i, List.mem_filter.2 ⟨List.mem_range.2 hl.1, by simp [hl.2.1]⟩, rfl⟩
      have h1 := hd _ hmem
      rw [Int.toNat_natCast] at h1
      obtain ⟨_, _, k, _, ek⟩ := hl
      have h2 := per_it h (lo_lt h hi) k
      rw [ek] at h2
      rw [← h2] at h1
      rw [(it_dvd h hi m).2 h1]
    rw [e]
    exact sorted_iota _

theorem ordL_bound {p : List Int} (h : IsPerm p) (hl : p.length ≤ 10) : 1 ≤ ordL (cycL p p.length) ∧ ordL (cycL p p.length) ≤ 10000000000 := by
  have hb := ordL_take_bound (l := cycL p p.length) (fun x hx => by have := mem_cycL h hx; omega) (cycL p p.length).length (Nat.le_refl _)
  rw [List.take_of_length_le (Nat.le_refl _)] at hb
  refine ⟨hb.1, Nat.le_trans hb.2 ?_⟩
  have : 10 ^ (cycL p p.length).length ≤ 10 ^ 10 := Nat.pow_le_pow_right (by omega) (Nat.le_trans (length_cycL_le p p.length) hl)
  simpa using this

set_option maxHeartbeats 1600000 in
theorem orderOf_any (A : Option Addr) (n c : Nat) (p : List Int) (w : World) (h : Ints w A n p) (hp : IsPerm p) (hn : n ≤ 10) :
    Calls Try.prog 21 #[.slice A n c] w fun e w' => e = .returned (.int .i64 (ordL (cycL p n) : Nat)) ∧ Below w.heap.size w w' := by
  have HP := hid hp
  have HL := hid h.len
  have HLE : Hid (p.length ≤ 10) := by rw [HL.out]; exact hn
  have hob := ordL_bound hp HLE.out
  have HS : Hid (∀ m, 1 ≤ m → (sortedB (pw p m) = true ↔ ordL (cycL p p.length) ∣ m)) := fun m hm => pw_sorted HP.out hm
  rw [HL.out] at hob HS
  clear hp
  generalize ordL (cycL p n) = N at hob HS ⊢
  go_enter Try.func21, Try.ntmps21
  go_wp2_with fail
  refine (clone_any A n c p _ h (by omega)).mono ?_
  rintro e w1 ⟨v, rfl, hown, hb1⟩
  obtain ⟨A1, c1, rfl, hI1, _⟩ := hown.ints
  rw [HL.out] at hI1 ⊢
  have hA1 := h.keep hb1
  have HI1 := hid hI1
  have HA1 := hid hA1
  have HB1 := hid hb1
  clear h hown hb1 hI1 hA1
  go_wp2_with fail
  go_loopg [3, 4] N (fun g s v wr => ∃ (m : Nat) (B : Option Addr) (d : Nat), 1 ≤ m ∧ m ≤ N ∧ N - m ≤ g ∧ s = .int .i64 m ∧ v = .slice B n d ∧ Ints wr B n (pw p m) ∧ Ints wr A n p ∧ Below w.heap.size w wr)
  case atStart => exact ⟨1, A1, c1, Nat.le_refl _, hob.1, by omega, rfl, rfl, by rw [pw_one HP.out]; exact HI1.out, HA1.out, HB1.out⟩
  case round =>
    obtain ⟨m, B, d, hm1, hmN, hg, rfl, rfl, hI, hA, hb⟩ := hrel
    have HI := hid hI
    have HA := hid hA
    have HB := hid hb
    clear hI hA hb HI1 HA1 HB1
    by_cases hlt : m < N
    · have hns : sortedB (pw p m) = false := by
        rw [Bool.eq_false_iff]
        intro e
        have := Nat.le_of_dvd (by omega) ((HS.out m hm1).1 e)
        omega
      go_wp2_with fail
      refine (isSorted_bel B n d (pw p m) _ HI.out (by omega)).mono ?_
      rintro e w2 ⟨rfl, hb2⟩
      rw [hns]
      have HI2 := hid (HI.out.keep hb2)
      have HA2 := hid (HA.out.keep hb2)
      have HB2 := hid (below_step HB.out (Nat.le_refl _) hb2)
      clear hb2 hns HI HA HB
      go_wp2_with fail
      refine (after_any A n c B n d p (pw p m) _ HA2.out HI2.out (fun x hx => by have := pw_range HP.out m hx; rw [HL.out] at this; exact this) (by omega) (by omega)).mono ?_
      rintro e w3 ⟨v3, rfl, hown3, hb3⟩
      obtain ⟨A3, c3, rfl, hI3, _⟩ := hown3.ints
      rw [length_times, length_pw, HL.out] at hI3 ⊢
      rw [pw_succ HP.out] at hI3
      have HI3 := hid hI3
      have HA3 := hid (HA2.out.keep hb3)
      have HB3 := hid (below_step HB2.out (Nat.le_refl _) hb3)
      clear hI3 hown3 hb3 HI2 HA2 HB2
      go_wp2
      go_roundg (N - (m + 1))
      case measure => omega
      case rel => exact ⟨m + 1, A3, c3, by omega, by omega, by omega, by go_num, rfl, HI3.out, HA3.out, HB3.out⟩
    · have hmN' : m = N := by omega
      subst hmN'
      have hns : sortedB (pw p m) = true := (HS.out m hm1).2 (Nat.dvd_refl _)
      go_wp2_with fail
      refine (isSorted_bel B n d (pw p m) _ HI.out (by omega)).mono ?_
      rintro e w2 ⟨rfl, hb2⟩
      rw [hns]
      have HB2 := hid (below_step HB.out (Nat.le_refl _) hb2)
      clear hb2 hns
      go_wp2
      go_ret
      exact ⟨rfl, HB2.out⟩

end Go.Proofs.Ytheogajhclhlhaa
