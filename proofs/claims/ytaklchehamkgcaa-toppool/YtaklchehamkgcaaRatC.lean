/-
  ratio.lowest, castref.Common, castref.RatioOf.
-/
import Derived.Test.YtaklchehamkgcaaRatB
namespace Go.Proofs.Ytaklchehamkgcaa
open Go.RowKit

/-- What is said of a call that hands out a ratio and an error. -/
def RetR (w : World) (P Q er : Int) (e : Ending) (w' : World) : Prop := e = .returned (.tuple #[.agg #[.int .i64 P, .int .i64 Q], .int .i64 er]) ∧ Below w.heap.size w w'
def outP (r : Rat) : Int := if RFits r then r.num else 0
def outQ (r : Rat) : Int := if RFits r then (r.den : Int) else 0
def outE (r : Rat) : Int := if RFits r then 0 else 2

theorem out_fits {r : Rat} (h : RFits r) : outP r = r.num ∧ outQ r = (r.den : Int) ∧ outE r = 0 := ⟨if_pos h, if_pos h, if_pos h⟩
theorem out_not {r : Rat} (h : ¬ RFits r) : outP r = 0 ∧ outQ r = 0 ∧ outE r = 2 := ⟨if_neg h, if_neg h, if_neg h⟩

theorem low_facts {p q : Int} (h0 : q ≠ 0) (D : Int) (hD : D = if q < 0 then -((Int.gcd p q : Nat) : Int) else ((Int.gcd p q : Nat) : Int)) :
    D ≠ 0 ∧ p.tdiv D = (Rat.divInt p q).num ∧ q.tdiv D = ((Rat.divInt p q).den : Int) := by
  subst hD
  refine ⟨?_, low_num p q h0, low_den p q h0⟩
  have hG : 1 ≤ Int.gcd p q := Int.gcd_pos_of_ne_zero_right _ h0
  split <;> omega

theorem below_set2 {w : World} {b B : Nat} {v v' : Value} (hB : B ≤ b) : Below B w ((w.setCell ⟨b, 0, none⟩ v).setCell ⟨b, 1, none⟩ v') :=
  ((Below.refl B w).setCell hB _).setCell hB _

set_option maxHeartbeats 800000 in
theorem lowest_neg_n (p q n d : Int) (w : World) (hp : Wide p) (hq : Wide q) (hs : q < 0) (h1 : -((Int.gcd p q : Nat) : Int) ≠ 0) (h2 : p.tdiv (-((Int.gcd p q : Nat) : Int)) = n) (h3 : q.tdiv (-((Int.gcd p q : Nat) : Int)) = d)
    (hn1 : -4000000000000000000 ≤ n) (hn2 : n ≤ 4000000000000000000) (hd1 : 1 ≤ d) (hd2 : d ≤ 4000000000000000000) (hc : n < -1000000000 ∨ 1000000000 < n) :
    Calls Try.prog 55 #[.int .i64 p, .int .i64 q] w (RetR w 0 0 2) := by
  have HB0 : Hid (Below w.heap.size w (w.alloc (.cells #[.int .i64 0, .int .i64 0] 56))) := below_alloc w _
  have HR0 := hid (RatAt.new w 56 0 0)
  have hgq : Int.gcd p q ≤ q.natAbs := Int.gcd_le_natAbs_right _ (by omega)
  have hWq := hq
  unfold Wide at hWq
  obtain ⟨hq1, hq2⟩ := hWq
  have hgb : ((Int.gcd p q : Nat) : Int) ≤ 4000000000000000000 := by omega
  have hsd : decide (q < 0) = true := by simp; omega
  go_enter Try.func55, Try.ntmps55
  go_wp2_with fail
  refine (divisor_any _ _ _ hp hq).mono ?_
  rintro e w1 ⟨rfl, k, rfl⟩
  generalize Int.gcd p q = G at *
  clear hgq
  go_wp2_with fail
  go_region
  have HB1 : Hid (Below w.heap.size w (((w.alloc (.cells #[.int .i64 0, .int .i64 0] 56)).drewN (k + 1)).alloc (.cells #[.int .i64 n, .int .i64 d] 56))) :=
    below_step (below_drewN HB0.out _) (Nat.le_refl _) (below_alloc _ _)
  have HR1 := hid ((HR0.out.keep (below_drewN (Below.refl _ _) (k + 1))).keep_alloc (.cells #[.int .i64 n, .int .i64 d] 56))
  have HS : Hid (w.heap.size < (((w.alloc (.cells #[.int .i64 0, .int .i64 0] 56)).drewN (k + 1)).alloc (.cells #[.int .i64 n, .int .i64 d] 56)).heap.size) := HR1.out.lt
  go_wp2_with fail
  refine (rinR_no _ _ hc).mono ?_
  rintro e w' ⟨rfl, rfl⟩
  have g0 := HR1.out.p0
  have g1 := HR1.out.p1
  have f0 := HR1.out.f0
  have f1 := HR1.out.f1
  go_wp2
  (try simp only [Exit.inBlock, Exit.then])
  refine bodyPost_ret (v := .tuple #[.agg #[.int .i64 0, .int .i64 0], .int .i64 2]) ?_ rfl ⟨rfl, ((below_drewN HB0.out _).trans (below_set2 (Nat.le_refl _))).alloc (by simp) _⟩
  rw [results_cell_tmp rfl]
  go_simp

set_option maxHeartbeats 800000 in
theorem lowest_neg_d (p q n d : Int) (w : World) (hp : Wide p) (hq : Wide q) (hs : q < 0) (h1 : -((Int.gcd p q : Nat) : Int) ≠ 0) (h2 : p.tdiv (-((Int.gcd p q : Nat) : Int)) = n) (h3 : q.tdiv (-((Int.gcd p q : Nat) : Int)) = d)
    (hn1 : -4000000000000000000 ≤ n) (hn2 : n ≤ 4000000000000000000) (hd1 : 1 ≤ d) (hd2 : d ≤ 4000000000000000000) (hc1 : -1000000000 ≤ n) (hc2 : n ≤ 1000000000) (hc : 1000000000 < d) :
    Calls Try.prog 55 #[.int .i64 p, .int .i64 q] w (RetR w 0 0 2) := by
  have HB0 : Hid (Below w.heap.size w (w.alloc (.cells #[.int .i64 0, .int .i64 0] 56))) := below_alloc w _
  have HR0 := hid (RatAt.new w 56 0 0)
  have hgq : Int.gcd p q ≤ q.natAbs := Int.gcd_le_natAbs_right _ (by omega)
  have hWq := hq
  unfold Wide at hWq
  obtain ⟨hq1, hq2⟩ := hWq
  have hgb : ((Int.gcd p q : Nat) : Int) ≤ 4000000000000000000 := by omega
  have hsd : decide (q < 0) = true := by simp; omega
  go_enter Try.func55, Try.ntmps55
  go_wp2_with fail
  refine (divisor_any _ _ _ hp hq).mono ?_
  rintro e w1 ⟨rfl, k, rfl⟩
  generalize Int.gcd p q = G at *
  clear hgq
  go_wp2_with fail
  go_region
  have HB1 : Hid (Below w.heap.size w (((w.alloc (.cells #[.int .i64 0, .int .i64 0] 56)).drewN (k + 1)).alloc (.cells #[.int .i64 n, .int .i64 d] 56))) :=
    below_step (below_drewN HB0.out _) (Nat.le_refl _) (below_alloc _ _)
  have HR1 := hid ((HR0.out.keep (below_drewN (Below.refl _ _) (k + 1))).keep_alloc (.cells #[.int .i64 n, .int .i64 d] 56))
  have HS : Hid (w.heap.size < (((w.alloc (.cells #[.int .i64 0, .int .i64 0] 56)).drewN (k + 1)).alloc (.cells #[.int .i64 n, .int .i64 d] 56)).heap.size) := HR1.out.lt
  go_wp2_with fail
  refine (rinR_yes _ _ hc1 hc2).mono ?_
  rintro e w' ⟨rfl, rfl⟩
  go_wp2_with fail
  refine (rinR_no _ _ (.inr hc)).mono ?_
  rintro e w' ⟨rfl, rfl⟩
  have g0 := HR1.out.p0
  have g1 := HR1.out.p1
  have f0 := HR1.out.f0
  have f1 := HR1.out.f1
  go_wp2
  (try simp only [Exit.inBlock, Exit.then])
  refine bodyPost_ret (v := .tuple #[.agg #[.int .i64 0, .int .i64 0], .int .i64 2]) ?_ rfl ⟨rfl, ((below_drewN HB0.out _).trans (below_set2 (Nat.le_refl _))).alloc (by simp) _⟩
  rw [results_cell_tmp rfl]
  go_simp

set_option maxHeartbeats 800000 in
theorem lowest_neg_ok (p q n d : Int) (w : World) (hp : Wide p) (hq : Wide q) (hs : q < 0) (h1 : -((Int.gcd p q : Nat) : Int) ≠ 0) (h2 : p.tdiv (-((Int.gcd p q : Nat) : Int)) = n) (h3 : q.tdiv (-((Int.gcd p q : Nat) : Int)) = d)
    (hn1 : -4000000000000000000 ≤ n) (hn2 : n ≤ 4000000000000000000) (hd1 : 1 ≤ d) (hd2 : d ≤ 4000000000000000000) (hc1 : -1000000000 ≤ n) (hc2 : n ≤ 1000000000) (hc : d ≤ 1000000000) :
    Calls Try.prog 55 #[.int .i64 p, .int .i64 q] w (RetR w n d 0) := by
  have HB0 : Hid (Below w.heap.size w (w.alloc (.cells #[.int .i64 0, .int .i64 0] 56))) := below_alloc w _
  have HR0 := hid (RatAt.new w 56 0 0)
  have hgq : Int.gcd p q ≤ q.natAbs := Int.gcd_le_natAbs_right _ (by omega)
  have hWq := hq
  unfold Wide at hWq
  obtain ⟨hq1, hq2⟩ := hWq
  have hgb : ((Int.gcd p q : Nat) : Int) ≤ 4000000000000000000 := by omega
  have hsd : decide (q < 0) = true := by simp; omega
  go_enter Try.func55, Try.ntmps55
  go_wp2_with fail
  refine (divisor_any _ _ _ hp hq).mono ?_
  rintro e w1 ⟨rfl, k, rfl⟩
  generalize Int.gcd p q = G at *
  clear hgq
  go_wp2_with fail
  go_region
  have HB1 : Hid (Below w.heap.size w (((w.alloc (.cells #[.int .i64 0, .int .i64 0] 56)).drewN (k + 1)).alloc (.cells #[.int .i64 n, .int .i64 d] 56))) :=
    below_step (below_drewN HB0.out _) (Nat.le_refl _) (below_alloc _ _)
  have HR1 := hid ((HR0.out.keep (below_drewN (Below.refl _ _) (k + 1))).keep_alloc (.cells #[.int .i64 n, .int .i64 d] 56))
  have HS : Hid (w.heap.size < (((w.alloc (.cells #[.int .i64 0, .int .i64 0] 56)).drewN (k + 1)).alloc (.cells #[.int .i64 n, .int .i64 d] 56)).heap.size) := HR1.out.lt
  go_wp2_with fail
  refine (rinR_yes _ _ hc1 hc2).mono ?_
  rintro e w' ⟨rfl, rfl⟩
  go_wp2_with fail
  refine (rinR_yes _ _ (by omega) hc).mono ?_
  rintro e w' ⟨rfl, rfl⟩
  have g0 := HR1.out.p0
  have g1 := HR1.out.p1
  have f0 := HR1.out.f0
  have f1 := HR1.out.f1
  go_wp2
  (try simp only [Exit.inBlock, Exit.then])
  refine bodyPost_ret (v := .tuple #[.agg #[.int .i64 n, .int .i64 d], .int .i64 0]) ?_ rfl ⟨rfl, ((below_drewN HB0.out _).trans (below_set2 (Nat.le_refl _))).alloc (by simp) _⟩
  rw [results_cell_tmp rfl]
  go_simp

set_option maxHeartbeats 800000 in
theorem lowest_pos_n (p q n d : Int) (w : World) (hp : Wide p) (hq : Wide q) (hs : 0 < q) (h1 : ((Int.gcd p q : Nat) : Int) ≠ 0) (h2 : p.tdiv (((Int.gcd p q : Nat) : Int)) = n) (h3 : q.tdiv (((Int.gcd p q : Nat) : Int)) = d)
    (hn1 : -4000000000000000000 ≤ n) (hn2 : n ≤ 4000000000000000000) (hd1 : 1 ≤ d) (hd2 : d ≤ 4000000000000000000) (hc : n < -1000000000 ∨ 1000000000 < n) :
    Calls Try.prog 55 #[.int .i64 p, .int .i64 q] w (RetR w 0 0 2) := by
  have HB0 : Hid (Below w.heap.size w (w.alloc (.cells #[.int .i64 0, .int .i64 0] 56))) := below_alloc w _
  have HR0 := hid (RatAt.new w 56 0 0)
  have hgq : Int.gcd p q ≤ q.natAbs := Int.gcd_le_natAbs_right _ (by omega)
  have hWq := hq
  unfold Wide at hWq
  obtain ⟨hq1, hq2⟩ := hWq
  have hgb : ((Int.gcd p q : Nat) : Int) ≤ 4000000000000000000 := by omega
  have hsd : decide (q < 0) = false := by simp; omega
  go_enter Try.func55, Try.ntmps55
  go_wp2_with fail
  refine (divisor_any _ _ _ hp hq).mono ?_
  rintro e w1 ⟨rfl, k, rfl⟩
  generalize Int.gcd p q = G at *
  clear hgq
  go_wp2_with fail
  go_region
  have HB1 : Hid (Below w.heap.size w (((w.alloc (.cells #[.int .i64 0, .int .i64 0] 56)).drewN (k + 1)).alloc (.cells #[.int .i64 n, .int .i64 d] 56))) :=
    below_step (below_drewN HB0.out _) (Nat.le_refl _) (below_alloc _ _)
  have HR1 := hid ((HR0.out.keep (below_drewN (Below.refl _ _) (k + 1))).keep_alloc (.cells #[.int .i64 n, .int .i64 d] 56))
  have HS : Hid (w.heap.size < (((w.alloc (.cells #[.int .i64 0, .int .i64 0] 56)).drewN (k + 1)).alloc (.cells #[.int .i64 n, .int .i64 d] 56)).heap.size) := HR1.out.lt
  go_wp2_with fail
  refine (rinR_no _ _ hc).mono ?_
  rintro e w' ⟨rfl, rfl⟩
  have g0 := HR1.out.p0
  have g1 := HR1.out.p1
  have f0 := HR1.out.f0
  have f1 := HR1.out.f1
  go_wp2
  (try simp only [Exit.inBlock, Exit.then])
  refine bodyPost_ret (v := .tuple #[.agg #[.int .i64 0, .int .i64 0], .int .i64 2]) ?_ rfl ⟨rfl, ((below_drewN HB0.out _).trans (below_set2 (Nat.le_refl _))).alloc (by simp) _⟩
  rw [results_cell_tmp rfl]
  go_simp

set_option maxHeartbeats 800000 in
theorem lowest_pos_d (p q n d : Int) (w : World) (hp : Wide p) (hq : Wide q) (hs : 0 < q) (h1 : ((Int.gcd p q : Nat) : Int) ≠ 0) (h2 : p.tdiv (((Int.gcd p q : Nat) : Int)) = n) (h3 : q.tdiv (((Int.gcd p q : Nat) : Int)) = d)
    (hn1 : -4000000000000000000 ≤ n) (hn2 : n ≤ 4000000000000000000) (hd1 : 1 ≤ d) (hd2 : d ≤ 4000000000000000000) (hc1 : -1000000000 ≤ n) (hc2 : n ≤ 1000000000) (hc : 1000000000 < d) :
    Calls Try.prog 55 #[.int .i64 p, .int .i64 q] w (RetR w 0 0 2) := by
  have HB0 : Hid (Below w.heap.size w (w.alloc (.cells #[.int .i64 0, .int .i64 0] 56))) := below_alloc w _
  have HR0 := hid (RatAt.new w 56 0 0)
  have hgq : Int.gcd p q ≤ q.natAbs := Int.gcd_le_natAbs_right _ (by omega)
  have hWq := hq
  unfold Wide at hWq
  obtain ⟨hq1, hq2⟩ := hWq
  have hgb : ((Int.gcd p q : Nat) : Int) ≤ 4000000000000000000 := by omega
  have hsd : decide (q < 0) = false := by simp; omega
  go_enter Try.func55, Try.ntmps55
  go_wp2_with fail
  refine (divisor_any _ _ _ hp hq).mono ?_
  rintro e w1 ⟨rfl, k, rfl⟩
  generalize Int.gcd p q = G at *
  clear hgq
  go_wp2_with fail
  go_region
  have HB1 : Hid (Below w.heap.size w (((w.alloc (.cells #[.int .i64 0, .int .i64 0] 56)).drewN (k + 1)).alloc (.cells #[.int .i64 n, .int .i64 d] 56))) :=
    below_step (below_drewN HB0.out _) (Nat.le_refl _) (below_alloc _ _)
  have HR1 := hid ((HR0.out.keep (below_drewN (Below.refl _ _) (k + 1))).keep_alloc (.cells #[.int .i64 n, .int .i64 d] 56))
  have HS : Hid (w.heap.size < (((w.alloc (.cells #[.int .i64 0, .int .i64 0] 56)).drewN (k + 1)).alloc (.cells #[.int .i64 n, .int .i64 d] 56)).heap.size) := HR1.out.lt
  go_wp2_with fail
  refine (rinR_yes _ _ hc1 hc2).mono ?_
  rintro e w' ⟨rfl, rfl⟩
  go_wp2_with fail
  refine (rinR_no _ _ (.inr hc)).mono ?_
  rintro e w' ⟨rfl, rfl⟩
  have g0 := HR1.out.p0
  have g1 := HR1.out.p1
  have f0 := HR1.out.f0
  have f1 := HR1.out.f1
  go_wp2
  (try simp only [Exit.inBlock, Exit.then])
  refine bodyPost_ret (v := .tuple #[.agg #[.int .i64 0, .int .i64 0], .int .i64 2]) ?_ rfl ⟨rfl, ((below_drewN HB0.out _).trans (below_set2 (Nat.le_refl _))).alloc (by simp) _⟩
  rw [results_cell_tmp rfl]
  go_simp

set_option maxHeartbeats 800000 in
theorem lowest_pos_ok (p q n d : Int) (w : World) (hp : Wide p) (hq : Wide q) (hs : 0 < q) (h1 : ((Int.gcd p q : Nat) : Int) ≠ 0) (h2 : p.tdiv (((Int.gcd p q : Nat) : Int)) = n) (h3 : q.tdiv (((Int.gcd p q : Nat) : Int)) = d)
    (hn1 : -4000000000000000000 ≤ n) (hn2 : n ≤ 4000000000000000000) (hd1 : 1 ≤ d) (hd2 : d ≤ 4000000000000000000) (hc1 : -1000000000 ≤ n) (hc2 : n ≤ 1000000000) (hc : d ≤ 1000000000) :
    Calls Try.prog 55 #[.int .i64 p, .int .i64 q] w (RetR w n d 0) := by
  have HB0 : Hid (Below w.heap.size w (w.alloc (.cells #[.int .i64 0, .int .i64 0] 56))) := below_alloc w _
  have HR0 := hid (RatAt.new w 56 0 0)
  have hgq : Int.gcd p q ≤ q.natAbs := Int.gcd_le_natAbs_right _ (by omega)
  have hWq := hq
  unfold Wide at hWq
  obtain ⟨hq1, hq2⟩ := hWq
  have hgb : ((Int.gcd p q : Nat) : Int) ≤ 4000000000000000000 := by omega
  have hsd : decide (q < 0) = false := by simp; omega
  go_enter Try.func55, Try.ntmps55
  go_wp2_with fail
  refine (divisor_any _ _ _ hp hq).mono ?_
  rintro e w1 ⟨rfl, k, rfl⟩
  generalize Int.gcd p q = G at *
  clear hgq
  go_wp2_with fail
  go_region
  have HB1 : Hid (Below w.heap.size w (((w.alloc (.cells #[.int .i64 0, .int .i64 0] 56)).drewN (k + 1)).alloc (.cells #[.int .i64 n, .int .i64 d] 56))) :=
    below_step (below_drewN HB0.out _) (Nat.le_refl _) (below_alloc _ _)
  have HR1 := hid ((HR0.out.keep (below_drewN (Below.refl _ _) (k + 1))).keep_alloc (.cells #[.int .i64 n, .int .i64 d] 56))
  have HS : Hid (w.heap.size < (((w.alloc (.cells #[.int .i64 0, .int .i64 0] 56)).drewN (k + 1)).alloc (.cells #[.int .i64 n, .int .i64 d] 56)).heap.size) := HR1.out.lt
  go_wp2_with fail
  refine (rinR_yes _ _ hc1 hc2).mono ?_
  rintro e w' ⟨rfl, rfl⟩
  go_wp2_with fail
  refine (rinR_yes _ _ (by omega) hc).mono ?_
  rintro e w' ⟨rfl, rfl⟩
  have g0 := HR1.out.p0
  have g1 := HR1.out.p1
  have f0 := HR1.out.f0
  have f1 := HR1.out.f1
  go_wp2
  (try simp only [Exit.inBlock, Exit.then])
  refine bodyPost_ret (v := .tuple #[.agg #[.int .i64 n, .int .i64 d], .int .i64 0]) ?_ rfl ⟨rfl, ((below_drewN HB0.out _).trans (below_set2 (Nat.le_refl _))).alloc (by simp) _⟩
  rw [results_cell_tmp rfl]
  go_simp

theorem lowest_any (p q : Int) (w : World) (hp : Wide p) (hq : Wide q) (h0 : q ≠ 0) :
    Calls Try.prog 55 #[.int .i64 p, .int .i64 q] w (RetR w (outP (Rat.divInt p q)) (outQ (Rat.divInt p q)) (outE (Rat.divInt p q))) := by
  have HN := num_le p q h0
  have HD := den_le p q h0
  have HP := Rat.den_pos (Rat.divInt p q)
  have hp' := hp
  have hq' := hq
  unfold Wide at hp' hq'
  have key : (RFits (Rat.divInt p q) ∧ outP (Rat.divInt p q) = (Rat.divInt p q).num ∧ outQ (Rat.divInt p q) = ((Rat.divInt p q).den : Int) ∧ outE (Rat.divInt p q) = 0)
      ∨ (¬ RFits (Rat.divInt p q) ∧ outP (Rat.divInt p q) = 0 ∧ outQ (Rat.divInt p q) = 0 ∧ outE (Rat.divInt p q) = 2) := by
    by_cases h : RFits (Rat.divInt p q)
    · exact .inl ⟨h, out_fits h⟩
    · exact .inr ⟨h, out_not h⟩
  have hn1 : -4000000000000000000 ≤ (Rat.divInt p q).num := by omega
  have hn2 : (Rat.divInt p q).num ≤ 4000000000000000000 := by omega
  have hd1 : 1 ≤ ((Rat.divInt p q).den : Int) := by omega
  have hd2 : ((Rat.divInt p q).den : Int) ≤ 4000000000000000000 := by omega
  by_cases hs : q < 0
  · obtain ⟨a1, a2, a3⟩ := low_facts (p := p) h0 (-((Int.gcd p q : Nat) : Int)) (by rw [if_pos hs])
    rcases key with ⟨hf, e1, e2, e3⟩ | ⟨hf, e1, e2, e3⟩
    · rw [e1, e2, e3]
      exact lowest_neg_ok p q _ _ w hp hq hs a1 a2 a3 hn1 hn2 hd1 hd2 hf.1 hf.2.1 hf.2.2
    · rw [e1, e2, e3]
      unfold RFits at hf
      by_cases hc : (Rat.divInt p q).num < -1000000000 ∨ 1000000000 < (Rat.divInt p q).num
      · exact lowest_neg_n p q _ _ w hp hq hs a1 a2 a3 hn1 hn2 hd1 hd2 hc
      · exact lowest_neg_d p q _ _ w hp hq hs a1 a2 a3 hn1 hn2 hd1 hd2 (by omega) (by omega) (by omega)
  · have hs' : 0 < q := by omega
    obtain ⟨a1, a2, a3⟩ := low_facts (p := p) h0 (((Int.gcd p q : Nat) : Int)) (by rw [if_neg hs])
    rcases key with ⟨hf, e1, e2, e3⟩ | ⟨hf, e1, e2, e3⟩
    · rw [e1, e2, e3]
      exact lowest_pos_ok p q _ _ w hp hq hs' a1 a2 a3 hn1 hn2 hd1 hd2 hf.1 hf.2.1 hf.2.2
    · rw [e1, e2, e3]
      unfold RFits at hf
      by_cases hc : (Rat.divInt p q).num < -1000000000 ∨ 1000000000 < (Rat.divInt p q).num
      · exact lowest_pos_n p q _ _ w hp hq hs' a1 a2 a3 hn1 hn2 hd1 hd2 hc
      · exact lowest_pos_d p q _ _ w hp hq hs' a1 a2 a3 hn1 hn2 hd1 hd2 (by omega) (by omega) (by omega)
end Go.Proofs.Ytaklchehamkgcaa
