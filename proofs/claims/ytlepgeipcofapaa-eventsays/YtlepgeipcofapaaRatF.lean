/-
  castref.RatioOf, Plus, Times, Whole.
-/
import Derived.Test.YtlepgeipcofapaaRatE
namespace Go.Proofs.Ytlepgeipcofapaa
open Go.RowKit

set_option maxHeartbeats 800000 in
theorem ratioOf_neg_d (p q n d : Int) (w : World) (hp : Wide p) (hq : Wide q) (hs : q < 0) (h1 : -((Int.gcd p q : Nat) : Int) ≠ 0) (h2 : p.tdiv (-((Int.gcd p q : Nat) : Int)) = n) (h3 : q.tdiv (-((Int.gcd p q : Nat) : Int)) = d)
    (hn1 : -4000000000000000000 ≤ n) (hn2 : n ≤ 4000000000000000000) (hd1 : 1 ≤ d) (hd2 : d ≤ 4000000000000000000) (hc : 1000000000 < d) :
    Calls Try.prog 29 #[.int .i64 p, .int .i64 q] w (RetR w 0 0 2) := by
  have HB0 : Hid (Below w.heap.size w (w.alloc (.cells #[.int .i64 0, .int .i64 0] 26))) := below_alloc w _
  have HR0 := hid (RatAt.new w 26 0 0)
  have hgq : Int.gcd p q ≤ q.natAbs := Int.gcd_le_natAbs_right _ (by omega)
  have hWq := hq
  unfold Wide at hWq
  obtain ⟨hq1, hq2⟩ := hWq
  have hgb : ((Int.gcd p q : Nat) : Int) ≤ 4000000000000000000 := by omega
  have hsd : decide (q < 0) = true := by simp; omega
  go_enter Try.func29, Try.ntmps29
  go_wp2_with fail
  refine (common_any _ _ _ hp hq).mono ?_
  rintro e w1 ⟨rfl, rfl⟩
  generalize Int.gcd p q = G at *
  clear hgq
  go_wp2_with fail
  go_region
  have HB1 : Hid (Below w.heap.size w ((w.alloc (.cells #[.int .i64 0, .int .i64 0] 26)).drewN 1)) := below_drewN HB0.out _
  have hr1 := HR0.out.keep (below_drewN (Below.refl _ _) 1)
  have g0 := hr1.p0
  have g1 := hr1.p1
  have f0 := hr1.f0
  have f1 := hr1.f1
  clear hr1
  go_wp2
  (try simp only [Exit.inBlock, Exit.then])
  refine bodyPost_ret (v := .tuple #[.agg #[.int .i64 0, .int .i64 0], .int .i64 2]) ?_ rfl ⟨rfl, (below_alloc w _).drew⟩
  rw [results_cell_tmp rfl]
  go_simp

set_option maxHeartbeats 800000 in
theorem ratioOf_neg_np (p q n d : Int) (w : World) (hp : Wide p) (hq : Wide q) (hs : q < 0) (h1 : -((Int.gcd p q : Nat) : Int) ≠ 0) (h2 : p.tdiv (-((Int.gcd p q : Nat) : Int)) = n) (h3 : q.tdiv (-((Int.gcd p q : Nat) : Int)) = d)
    (hn1 : -4000000000000000000 ≤ n) (hn2 : n ≤ 4000000000000000000) (hd1 : 1 ≤ d) (hd2 : d ≤ 4000000000000000000) (hc : d ≤ 1000000000) (hn : 1000000000 < n) :
    Calls Try.prog 29 #[.int .i64 p, .int .i64 q] w (RetR w 0 0 2) := by
  have HB0 : Hid (Below w.heap.size w (w.alloc (.cells #[.int .i64 0, .int .i64 0] 26))) := below_alloc w _
  have HR0 := hid (RatAt.new w 26 0 0)
  have hgq : Int.gcd p q ≤ q.natAbs := Int.gcd_le_natAbs_right _ (by omega)
  have hWq := hq
  unfold Wide at hWq
  obtain ⟨hq1, hq2⟩ := hWq
  have hgb : ((Int.gcd p q : Nat) : Int) ≤ 4000000000000000000 := by omega
  have hsd : decide (q < 0) = true := by simp; omega
  have e0 : decide (1000000000 < d) = false := by simp; omega
  have e1 : decide (1000000000 < n) = true := by simp; omega
  go_enter Try.func29, Try.ntmps29
  go_wp2_with fail
  refine (common_any _ _ _ hp hq).mono ?_
  rintro e w1 ⟨rfl, rfl⟩
  generalize Int.gcd p q = G at *
  clear hgq
  go_wp2_with fail
  go_region
  have HB1 : Hid (Below w.heap.size w ((w.alloc (.cells #[.int .i64 0, .int .i64 0] 26)).drewN 1)) := below_drewN HB0.out _
  have hr1 := HR0.out.keep (below_drewN (Below.refl _ _) 1)
  have g0 := hr1.p0
  have g1 := hr1.p1
  have f0 := hr1.f0
  have f1 := hr1.f1
  clear hr1
  go_wp2
  (try simp only [Exit.inBlock, Exit.then])
  refine bodyPost_ret (v := .tuple #[.agg #[.int .i64 0, .int .i64 0], .int .i64 2]) ?_ rfl ⟨rfl, (below_alloc w _).drew⟩
  rw [results_cell_tmp rfl]
  go_simp

set_option maxHeartbeats 800000 in
theorem ratioOf_neg_nn (p q n d : Int) (w : World) (hp : Wide p) (hq : Wide q) (hs : q < 0) (h1 : -((Int.gcd p q : Nat) : Int) ≠ 0) (h2 : p.tdiv (-((Int.gcd p q : Nat) : Int)) = n) (h3 : q.tdiv (-((Int.gcd p q : Nat) : Int)) = d)
    (hn1 : -4000000000000000000 ≤ n) (hn2 : n ≤ 4000000000000000000) (hd1 : 1 ≤ d) (hd2 : d ≤ 4000000000000000000) (hc : d ≤ 1000000000) (hn : n < -1000000000) :
    Calls Try.prog 29 #[.int .i64 p, .int .i64 q] w (RetR w 0 0 2) := by
  have HB0 : Hid (Below w.heap.size w (w.alloc (.cells #[.int .i64 0, .int .i64 0] 26))) := below_alloc w _
  have HR0 := hid (RatAt.new w 26 0 0)
  have hgq : Int.gcd p q ≤ q.natAbs := Int.gcd_le_natAbs_right _ (by omega)
  have hWq := hq
  unfold Wide at hWq
  obtain ⟨hq1, hq2⟩ := hWq
  have hgb : ((Int.gcd p q : Nat) : Int) ≤ 4000000000000000000 := by omega
  have hsd : decide (q < 0) = true := by simp; omega
  have e0 : decide (1000000000 < d) = false := by simp; omega
  have e1 : decide (1000000000 < -n) = true := by simp; omega
  go_enter Try.func29, Try.ntmps29
  go_wp2_with fail
  refine (common_any _ _ _ hp hq).mono ?_
  rintro e w1 ⟨rfl, rfl⟩
  generalize Int.gcd p q = G at *
  clear hgq
  go_wp2_with fail
  go_region
  have HB1 : Hid (Below w.heap.size w ((w.alloc (.cells #[.int .i64 0, .int .i64 0] 26)).drewN 1)) := below_drewN HB0.out _
  have hr1 := HR0.out.keep (below_drewN (Below.refl _ _) 1)
  have g0 := hr1.p0
  have g1 := hr1.p1
  have f0 := hr1.f0
  have f1 := hr1.f1
  clear hr1
  go_wp2
  (try simp only [Exit.inBlock, Exit.then])
  refine bodyPost_ret (v := .tuple #[.agg #[.int .i64 0, .int .i64 0], .int .i64 2]) ?_ rfl ⟨rfl, (below_alloc w _).drew⟩
  rw [results_cell_tmp rfl]
  go_simp

set_option maxHeartbeats 800000 in
theorem ratioOf_neg_okp (p q n d : Int) (w : World) (hp : Wide p) (hq : Wide q) (hs : q < 0) (h1 : -((Int.gcd p q : Nat) : Int) ≠ 0) (h2 : p.tdiv (-((Int.gcd p q : Nat) : Int)) = n) (h3 : q.tdiv (-((Int.gcd p q : Nat) : Int)) = d)
    (hn1 : -4000000000000000000 ≤ n) (hn2 : n ≤ 4000000000000000000) (hd1 : 1 ≤ d) (hd2 : d ≤ 4000000000000000000) (hc : d ≤ 1000000000) (hn : 0 ≤ n) (hn' : n ≤ 1000000000) :
    Calls Try.prog 29 #[.int .i64 p, .int .i64 q] w (RetR w n d 0) := by
  have HB0 : Hid (Below w.heap.size w (w.alloc (.cells #[.int .i64 0, .int .i64 0] 26))) := below_alloc w _
  have HR0 := hid (RatAt.new w 26 0 0)
  have hgq : Int.gcd p q ≤ q.natAbs := Int.gcd_le_natAbs_right _ (by omega)
  have hWq := hq
  unfold Wide at hWq
  obtain ⟨hq1, hq2⟩ := hWq
  have hgb : ((Int.gcd p q : Nat) : Int) ≤ 4000000000000000000 := by omega
  have hsd : decide (q < 0) = true := by simp; omega
  have e0 : decide (1000000000 < d) = false := by simp; omega
  have e1 : decide (1000000000 < n) = false := by simp; omega
  go_enter Try.func29, Try.ntmps29
  go_wp2_with fail
  refine (common_any _ _ _ hp hq).mono ?_
  rintro e w1 ⟨rfl, rfl⟩
  generalize Int.gcd p q = G at *
  clear hgq
  go_wp2_with fail
  go_region
  have HB1 : Hid (Below w.heap.size w ((w.alloc (.cells #[.int .i64 0, .int .i64 0] 26)).drewN 1)) := below_drewN HB0.out _
  have hr1 := HR0.out.keep (below_drewN (Below.refl _ _) 1)
  have g0 := hr1.p0
  have g1 := hr1.p1
  have f0 := hr1.f0
  have f1 := hr1.f1
  clear hr1
  go_wp2
  (try simp only [Exit.inBlock, Exit.then])
  refine bodyPost_ret (v := .tuple #[.agg #[.int .i64 n, .int .i64 d], .int .i64 0]) ?_ rfl ⟨rfl, (below_alloc w _).drew⟩
  rw [results_cell_tmp rfl]
  go_simp

set_option maxHeartbeats 800000 in
theorem ratioOf_neg_okn (p q n d : Int) (w : World) (hp : Wide p) (hq : Wide q) (hs : q < 0) (h1 : -((Int.gcd p q : Nat) : Int) ≠ 0) (h2 : p.tdiv (-((Int.gcd p q : Nat) : Int)) = n) (h3 : q.tdiv (-((Int.gcd p q : Nat) : Int)) = d)
    (hn1 : -4000000000000000000 ≤ n) (hn2 : n ≤ 4000000000000000000) (hd1 : 1 ≤ d) (hd2 : d ≤ 4000000000000000000) (hc : d ≤ 1000000000) (hn : n < 0) (hn' : -1000000000 ≤ n) :
    Calls Try.prog 29 #[.int .i64 p, .int .i64 q] w (RetR w n d 0) := by
  have HB0 : Hid (Below w.heap.size w (w.alloc (.cells #[.int .i64 0, .int .i64 0] 26))) := below_alloc w _
  have HR0 := hid (RatAt.new w 26 0 0)
  have hgq : Int.gcd p q ≤ q.natAbs := Int.gcd_le_natAbs_right _ (by omega)
  have hWq := hq
  unfold Wide at hWq
  obtain ⟨hq1, hq2⟩ := hWq
  have hgb : ((Int.gcd p q : Nat) : Int) ≤ 4000000000000000000 := by omega
  have hsd : decide (q < 0) = true := by simp; omega
  have e0 : decide (1000000000 < d) = false := by simp; omega
  have e1 : decide (1000000000 < -n) = false := by simp; omega
  go_enter Try.func29, Try.ntmps29
  go_wp2_with fail
  refine (common_any _ _ _ hp hq).mono ?_
  rintro e w1 ⟨rfl, rfl⟩
  generalize Int.gcd p q = G at *
  clear hgq
  go_wp2_with fail
  go_region
  have HB1 : Hid (Below w.heap.size w ((w.alloc (.cells #[.int .i64 0, .int .i64 0] 26)).drewN 1)) := below_drewN HB0.out _
  have hr1 := HR0.out.keep (below_drewN (Below.refl _ _) 1)
  have g0 := hr1.p0
  have g1 := hr1.p1
  have f0 := hr1.f0
  have f1 := hr1.f1
  clear hr1
  go_wp2
  (try simp only [Exit.inBlock, Exit.then])
  refine bodyPost_ret (v := .tuple #[.agg #[.int .i64 n, .int .i64 d], .int .i64 0]) ?_ rfl ⟨rfl, (below_alloc w _).drew⟩
  rw [results_cell_tmp rfl]
  go_simp

set_option maxHeartbeats 800000 in
theorem ratioOf_pos_d (p q n d : Int) (w : World) (hp : Wide p) (hq : Wide q) (hs : 0 < q) (h1 : ((Int.gcd p q : Nat) : Int) ≠ 0) (h2 : p.tdiv (((Int.gcd p q : Nat) : Int)) = n) (h3 : q.tdiv (((Int.gcd p q : Nat) : Int)) = d)
    (hn1 : -4000000000000000000 ≤ n) (hn2 : n ≤ 4000000000000000000) (hd1 : 1 ≤ d) (hd2 : d ≤ 4000000000000000000) (hc : 1000000000 < d) :
    Calls Try.prog 29 #[.int .i64 p, .int .i64 q] w (RetR w 0 0 2) := by
  have HB0 : Hid (Below w.heap.size w (w.alloc (.cells #[.int .i64 0, .int .i64 0] 26))) := below_alloc w _
  have HR0 := hid (RatAt.new w 26 0 0)
  have hgq : Int.gcd p q ≤ q.natAbs := Int.gcd_le_natAbs_right _ (by omega)
  have hWq := hq
  unfold Wide at hWq
  obtain ⟨hq1, hq2⟩ := hWq
  have hgb : ((Int.gcd p q : Nat) : Int) ≤ 4000000000000000000 := by omega
  have hsd : decide (q < 0) = false := by simp; omega
  go_enter Try.func29, Try.ntmps29
  go_wp2_with fail
  refine (common_any _ _ _ hp hq).mono ?_
  rintro e w1 ⟨rfl, rfl⟩
  generalize Int.gcd p q = G at *
  clear hgq
  go_wp2_with fail
  go_region
  have HB1 : Hid (Below w.heap.size w ((w.alloc (.cells #[.int .i64 0, .int .i64 0] 26)).drewN 1)) := below_drewN HB0.out _
  have hr1 := HR0.out.keep (below_drewN (Below.refl _ _) 1)
  have g0 := hr1.p0
  have g1 := hr1.p1
  have f0 := hr1.f0
  have f1 := hr1.f1
  clear hr1
  go_wp2
  (try simp only [Exit.inBlock, Exit.then])
  refine bodyPost_ret (v := .tuple #[.agg #[.int .i64 0, .int .i64 0], .int .i64 2]) ?_ rfl ⟨rfl, (below_alloc w _).drew⟩
  rw [results_cell_tmp rfl]
  go_simp

set_option maxHeartbeats 800000 in
theorem ratioOf_pos_np (p q n d : Int) (w : World) (hp : Wide p) (hq : Wide q) (hs : 0 < q) (h1 : ((Int.gcd p q : Nat) : Int) ≠ 0) (h2 : p.tdiv (((Int.gcd p q : Nat) : Int)) = n) (h3 : q.tdiv (((Int.gcd p q : Nat) : Int)) = d)
    (hn1 : -4000000000000000000 ≤ n) (hn2 : n ≤ 4000000000000000000) (hd1 : 1 ≤ d) (hd2 : d ≤ 4000000000000000000) (hc : d ≤ 1000000000) (hn : 1000000000 < n) :
    Calls Try.prog 29 #[.int .i64 p, .int .i64 q] w (RetR w 0 0 2) := by
  have HB0 : Hid (Below w.heap.size w (w.alloc (.cells #[.int .i64 0, .int .i64 0] 26))) := below_alloc w _
  have HR0 := hid (RatAt.new w 26 0 0)
  have hgq : Int.gcd p q ≤ q.natAbs := Int.gcd_le_natAbs_right _ (by omega)
  have hWq := hq
  unfold Wide at hWq
  obtain ⟨hq1, hq2⟩ := hWq
  have hgb : ((Int.gcd p q : Nat) : Int) ≤ 4000000000000000000 := by omega
  have hsd : decide (q < 0) = false := by simp; omega
  have e0 : decide (1000000000 < d) = false := by simp; omega
  have e1 : decide (1000000000 < n) = true := by simp; omega
  go_enter Try.func29, Try.ntmps29
  go_wp2_with fail
  refine (common_any _ _ _ hp hq).mono ?_
  rintro e w1 ⟨rfl, rfl⟩
  generalize Int.gcd p q = G at *
  clear hgq
  go_wp2_with fail
  go_region
  have HB1 : Hid (Below w.heap.size w ((w.alloc (.cells #[.int .i64 0, .int .i64 0] 26)).drewN 1)) := below_drewN HB0.out _
  have hr1 := HR0.out.keep (below_drewN (Below.refl _ _) 1)
  have g0 := hr1.p0
  have g1 := hr1.p1
  have f0 := hr1.f0
  have f1 := hr1.f1
  clear hr1
  go_wp2
  (try simp only [Exit.inBlock, Exit.then])
  refine bodyPost_ret (v := .tuple #[.agg #[.int .i64 0, .int .i64 0], .int .i64 2]) ?_ rfl ⟨rfl, (below_alloc w _).drew⟩
  rw [results_cell_tmp rfl]
  go_simp

set_option maxHeartbeats 800000 in
theorem ratioOf_pos_nn (p q n d : Int) (w : World) (hp : Wide p) (hq : Wide q) (hs : 0 < q) (h1 : ((Int.gcd p q : Nat) : Int) ≠ 0) (h2 : p.tdiv (((Int.gcd p q : Nat) : Int)) = n) (h3 : q.tdiv (((Int.gcd p q : Nat) : Int)) = d)
    (hn1 : -4000000000000000000 ≤ n) (hn2 : n ≤ 4000000000000000000) (hd1 : 1 ≤ d) (hd2 : d ≤ 4000000000000000000) (hc : d ≤ 1000000000) (hn : n < -1000000000) :
    Calls Try.prog 29 #[.int .i64 p, .int .i64 q] w (RetR w 0 0 2) := by
  have HB0 : Hid (Below w.heap.size w (w.alloc (.cells #[.int .i64 0, .int .i64 0] 26))) := below_alloc w _
  have HR0 := hid (RatAt.new w 26 0 0)
  have hgq : Int.gcd p q ≤ q.natAbs := Int.gcd_le_natAbs_right _ (by omega)
  have hWq := hq
  unfold Wide at hWq
  obtain ⟨hq1, hq2⟩ := hWq
  have hgb : ((Int.gcd p q : Nat) : Int) ≤ 4000000000000000000 := by omega
  have hsd : decide (q < 0) = false := by simp; omega
  have e0 : decide (1000000000 < d) = false := by simp; omega
  have e1 : decide (1000000000 < -n) = true := by simp; omega
  go_enter Try.func29, Try.ntmps29
  go_wp2_with fail
  refine (common_any _ _ _ hp hq).mono ?_
  rintro e w1 ⟨rfl, rfl⟩
  generalize Int.gcd p q = G at *
  clear hgq
  go_wp2_with fail
  go_region
  have HB1 : Hid (Below w.heap.size w ((w.alloc (.cells #[.int .i64 0, .int .i64 0] 26)).drewN 1)) := below_drewN HB0.out _
  have hr1 := HR0.out.keep (below_drewN (Below.refl _ _) 1)
  have g0 := hr1.p0
  have g1 := hr1.p1
  have f0 := hr1.f0
  have f1 := hr1.f1
  clear hr1
  go_wp2
  (try simp only [Exit.inBlock, Exit.then])
  refine bodyPost_ret (v := .tuple #[.agg #[.int .i64 0, .int .i64 0], .int .i64 2]) ?_ rfl ⟨rfl, (below_alloc w _).drew⟩
  rw [results_cell_tmp rfl]
  go_simp

set_option maxHeartbeats 800000 in
theorem ratioOf_pos_okp (p q n d : Int) (w : World) (hp : Wide p) (hq : Wide q) (hs : 0 < q) (h1 : ((Int.gcd p q : Nat) : Int) ≠ 0) (h2 : p.tdiv (((Int.gcd p q : Nat) : Int)) = n) (h3 : q.tdiv (((Int.gcd p q : Nat) : Int)) = d)
    (hn1 : -4000000000000000000 ≤ n) (hn2 : n ≤ 4000000000000000000) (hd1 : 1 ≤ d) (hd2 : d ≤ 4000000000000000000) (hc : d ≤ 1000000000) (hn : 0 ≤ n) (hn' : n ≤ 1000000000) :
    Calls Try.prog 29 #[.int .i64 p, .int .i64 q] w (RetR w n d 0) := by
  have HB0 : Hid (Below w.heap.size w (w.alloc (.cells #[.int .i64 0, .int .i64 0] 26))) := below_alloc w _
  have HR0 := hid (RatAt.new w 26 0 0)
  have hgq : Int.gcd p q ≤ q.natAbs := Int.gcd_le_natAbs_right _ (by omega)
  have hWq := hq
  unfold Wide at hWq
  obtain ⟨hq1, hq2⟩ := hWq
  have hgb : ((Int.gcd p q : Nat) : Int) ≤ 4000000000000000000 := by omega
  have hsd : decide (q < 0) = false := by simp; omega
  have e0 : decide (1000000000 < d) = false := by simp; omega
  have e1 : decide (1000000000 < n) = false := by simp; omega
  go_enter Try.func29, Try.ntmps29
  go_wp2_with fail
  refine (common_any _ _ _ hp hq).mono ?_
  rintro e w1 ⟨rfl, rfl⟩
  generalize Int.gcd p q = G at *
  clear hgq
  go_wp2_with fail
  go_region
  have HB1 : Hid (Below w.heap.size w ((w.alloc (.cells #[.int .i64 0, .int .i64 0] 26)).drewN 1)) := below_drewN HB0.out _
  have hr1 := HR0.out.keep (below_drewN (Below.refl _ _) 1)
  have g0 := hr1.p0
  have g1 := hr1.p1
  have f0 := hr1.f0
  have f1 := hr1.f1
  clear hr1
  go_wp2
  (try simp only [Exit.inBlock, Exit.then])
  refine bodyPost_ret (v := .tuple #[.agg #[.int .i64 n, .int .i64 d], .int .i64 0]) ?_ rfl ⟨rfl, (below_alloc w _).drew⟩
  rw [results_cell_tmp rfl]
  go_simp

set_option maxHeartbeats 800000 in
theorem ratioOf_pos_okn (p q n d : Int) (w : World) (hp : Wide p) (hq : Wide q) (hs : 0 < q) (h1 : ((Int.gcd p q : Nat) : Int) ≠ 0) (h2 : p.tdiv (((Int.gcd p q : Nat) : Int)) = n) (h3 : q.tdiv (((Int.gcd p q : Nat) : Int)) = d)
    (hn1 : -4000000000000000000 ≤ n) (hn2 : n ≤ 4000000000000000000) (hd1 : 1 ≤ d) (hd2 : d ≤ 4000000000000000000) (hc : d ≤ 1000000000) (hn : n < 0) (hn' : -1000000000 ≤ n) :
    Calls Try.prog 29 #[.int .i64 p, .int .i64 q] w (RetR w n d 0) := by
  have HB0 : Hid (Below w.heap.size w (w.alloc (.cells #[.int .i64 0, .int .i64 0] 26))) := below_alloc w _
  have HR0 := hid (RatAt.new w 26 0 0)
  have hgq : Int.gcd p q ≤ q.natAbs := Int.gcd_le_natAbs_right _ (by omega)
  have hWq := hq
  unfold Wide at hWq
  obtain ⟨hq1, hq2⟩ := hWq
  have hgb : ((Int.gcd p q : Nat) : Int) ≤ 4000000000000000000 := by omega
  have hsd : decide (q < 0) = false := by simp; omega
  have e0 : decide (1000000000 < d) = false := by simp; omega
  have e1 : decide (1000000000 < -n) = false := by simp; omega
  go_enter Try.func29, Try.ntmps29
  go_wp2_with fail
  refine (common_any _ _ _ hp hq).mono ?_
  rintro e w1 ⟨rfl, rfl⟩
  generalize Int.gcd p q = G at *
  clear hgq
  go_wp2_with fail
  go_region
  have HB1 : Hid (Below w.heap.size w ((w.alloc (.cells #[.int .i64 0, .int .i64 0] 26)).drewN 1)) := below_drewN HB0.out _
  have hr1 := HR0.out.keep (below_drewN (Below.refl _ _) 1)
  have g0 := hr1.p0
  have g1 := hr1.p1
  have f0 := hr1.f0
  have f1 := hr1.f1
  clear hr1
  go_wp2
  (try simp only [Exit.inBlock, Exit.then])
  refine bodyPost_ret (v := .tuple #[.agg #[.int .i64 n, .int .i64 d], .int .i64 0]) ?_ rfl ⟨rfl, (below_alloc w _).drew⟩
  rw [results_cell_tmp rfl]
  go_simp

theorem ratioOf_any (p q : Int) (w : World) (hp : Wide p) (hq : Wide q) (h0 : q ≠ 0) :
    Calls Try.prog 29 #[.int .i64 p, .int .i64 q] w (RetR w (outP (Rat.divInt p q)) (outQ (Rat.divInt p q)) (outE (Rat.divInt p q))) := by
  have HN := num_le p q h0
  have HD := den_le p q h0
  have HP := Rat.den_pos (Rat.divInt p q)
  have hp' := hp
  have hq' := hq
  unfold Wide at hp' hq'
  have key : (RFits (Rat.divInt p q) ∧ outP (Rat.divInt p q) = (Rat.divInt p q).num ∧ outQ (Rat.divInt p q) = ((Rat.divInt p q).den : Int) ∧ outE (Rat.divInt p q) = 0)
      ∨ (¬ RFits (Rat.divInt p q) ∧ outP (Rat.divInt p q) = 0 ∧ outQ (Rat.divInt p q) = 0 ∧ outE (Rat.divInt p q) = 2) := by
    by_cases h : RFits (Rat.divInt p q)
    · exact .inl ⟨h, out_fits h⟩
    · exact .inr ⟨h, out_not h⟩
  have hn1 : -4000000000000000000 ≤ (Rat.divInt p q).num := by omega
  have hn2 : (Rat.divInt p q).num ≤ 4000000000000000000 := by omega
  have hd1 : 1 ≤ ((Rat.divInt p q).den : Int) := by omega
  have hd2 : ((Rat.divInt p q).den : Int) ≤ 4000000000000000000 := by omega
  by_cases hs : q < 0
  · obtain ⟨a1, a2, a3⟩ := low_facts (p := p) h0 (-((Int.gcd p q : Nat) : Int)) (by rw [if_pos hs])
    rcases key with ⟨hf, e1, e2, e3⟩ | ⟨hf, e1, e2, e3⟩
    · rw [e1, e2, e3]
      obtain ⟨b1, b2, b3⟩ := hf
      rcases Int.lt_or_le (Rat.divInt p q).num 0 with hc | hc
      · exact ratioOf_neg_okn p q _ _ w hp hq hs a1 a2 a3 hn1 hn2 hd1 hd2 b3 hc b1
      · exact ratioOf_neg_okp p q _ _ w hp hq hs a1 a2 a3 hn1 hn2 hd1 hd2 b3 hc b2
    · rw [e1, e2, e3]
      unfold RFits at hf
      rcases Int.lt_or_le 1000000000 ((Rat.divInt p q).den : Int) with hc | hc
      · exact ratioOf_neg_d p q _ _ w hp hq hs a1 a2 a3 hn1 hn2 hd1 hd2 hc
      · rcases Int.lt_or_le (Rat.divInt p q).num 0 with hd | hd
        · exact ratioOf_neg_nn p q _ _ w hp hq hs a1 a2 a3 hn1 hn2 hd1 hd2 hc (by omega)
        · exact ratioOf_neg_np p q _ _ w hp hq hs a1 a2 a3 hn1 hn2 hd1 hd2 hc (by omega)
  · have hs' : 0 < q := by omega
    obtain ⟨a1, a2, a3⟩ := low_facts (p := p) h0 (((Int.gcd p q : Nat) : Int)) (by rw [if_neg hs])
    rcases key with ⟨hf, e1, e2, e3⟩ | ⟨hf, e1, e2, e3⟩
    · rw [e1, e2, e3]
      obtain ⟨b1, b2, b3⟩ := hf
      rcases Int.lt_or_le (Rat.divInt p q).num 0 with hc | hc
      · exact ratioOf_pos_okn p q _ _ w hp hq hs' a1 a2 a3 hn1 hn2 hd1 hd2 b3 hc b1
      · exact ratioOf_pos_okp p q _ _ w hp hq hs' a1 a2 a3 hn1 hn2 hd1 hd2 b3 hc b2
    · rw [e1, e2, e3]
      unfold RFits at hf
      rcases Int.lt_or_le 1000000000 ((Rat.divInt p q).den : Int) with hc | hc
      · exact ratioOf_pos_d p q _ _ w hp hq hs' a1 a2 a3 hn1 hn2 hd1 hd2 hc
      · rcases Int.lt_or_le (Rat.divInt p q).num 0 with hd | hd
        · exact ratioOf_pos_nn p q _ _ w hp hq hs' a1 a2 a3 hn1 hn2 hd1 hd2 hc (by omega)
        · exact ratioOf_pos_np p q _ _ w hp hq hs' a1 a2 a3 hn1 hn2 hd1 hd2 hc (by omega)

set_option maxHeartbeats 800000 in
theorem whole_any (p q : Int) (w : World) (hp : Wide p) (hq : Wide q) (h0 : q ≠ 0) :
    Calls Try.prog 14 #[.int .i64 p, .int .i64 q] w fun e w' => e = .returned (.agg #[.int .i64 (outP (Rat.divInt p q)), .int .i64 (outQ (Rat.divInt p q))]) ∧ Below w.heap.size w w' := by
  have HB0 : Hid (Below w.heap.size w (w.alloc (.cells #[.int .i64 0, .int .i64 0] 26))) := below_alloc w _
  have HZ : Hid (RatAt (w.alloc (.cells #[.int .i64 0, .int .i64 0] 26)) w.heap.size 0 0) := RatAt.new w _ 0 0
  have HL := hid (ratioOf_any p q (w.alloc (.cells #[.int .i64 0, .int .i64 0] 26)) hp hq h0)
  generalize Rat.divInt p q = r at *
  generalize outP r = n at *
  generalize outQ r = d at *
  generalize outE r = er at *
  go_enter Try.func14, Try.ntmps14
  go_wp2_with fail
  refine HL.out.mono ?_
  rintro e w2 ⟨rfl, hb⟩
  have HZ2 := hid (HZ.out.keep hb)
  have HB2 := hid (below_step HB0.out (Nat.le_refl _) hb)
  clear hb HB0 HZ HL
  have g0 := HZ2.out.p0
  have g1 := HZ2.out.p1
  have f0 := HZ2.out.f0
  have f1 := HZ2.out.f1
  have hlt : w.heap.size < w2.heap.size := HZ2.out.lt
  go_wp2
  (try simp only [Exit.inBlock, Exit.then])
  refine bodyPost_ret (v := .agg #[.int .i64 n, .int .i64 d]) ?_ rfl ⟨rfl, (HB2.out.trans (below_set2 (Nat.le_refl _))).alloc (by simp; omega) _⟩
  rw [results]
  go_simp
end Go.Proofs.Ytlepgeipcofapaa
