/-
  package event: occurring, Chance, Given, Apart.
-/
import Derived.Test.YtlepgeipcofapaaDoorEvA
import Derived.Test.YtlepgeipcofapaaDoorRatH
namespace Go.Proofs.YtlepgeipcofapaaDoor
open Go.RowKit

/-- How often an event is. -/
def chR (ws : List Int) (a : Nat) : Rat := Rat.divInt (wgt ws a) (totW ws)
/-- How often it is when the other one is. -/
def gvR (ws : List Int) (a b : Nat) : Rat := Rat.divInt (wgt ws (a &&& b)) (wgt ws b)
/-- Are they apart? -/
def apB (ws : List Int) (a b : Nat) : Bool := wgt ws (a &&& b) * totW ws == wgt ws a * wgt ws b
theorem chR_bd {ws : List Int} (h : Space ws) (a : Nat) : RB (chR ws a) 1200 1200 := by
  have := h.bd a
  have := h.totW
  exact RB.make (by omega) (by omega) (by omega)
theorem gvR_bd {ws : List Int} (h : Space ws) (a : Nat) {b : Nat} (hb : b < 2 ^ ws.length) (h0 : b ≠ 0) : RB (gvR ws a b) 1200 1200 := by
  have := h.bd (a &&& b)
  have := h.bd b
  have := wgt_pos h.w hb h0
  exact RB.make (by omega) (by omega) (by omega)

/-- One set, written out behind a box. -/
theorem sets1 (w : World) (o : Obj) (a : Nat) (ha : a < 65536) : Sets ((w.alloc o).alloc (.cells #[.int .u16 (a : Int)] 30)) (some ⟨w.heap.size + 1, 0, none⟩) 1 [a] := by
  have h := sets_lit (w.alloc o) #[.int .u16 (a : Int)] 30 1 [a] rfl rfl (by simpa using ha)
  rwa [show (w.alloc o).heap.size = w.heap.size + 1 by simp] at h
theorem sets2 (w : World) (o : Obj) (a b : Nat) (ha : a < 65536) (hb : b < 65536) : Sets ((w.alloc o).alloc (.cells #[.int .u16 (a : Int), .int .u16 (b : Int)] 30)) (some ⟨w.heap.size + 1, 0, none⟩) 2 [a, b] := by
  have h := sets_lit (w.alloc o) #[.int .u16 (a : Int), .int .u16 (b : Int)] 30 2 [a, b] rfl rfl (by simp; omega)
  rwa [show (w.alloc o).heap.size = w.heap.size + 1 by simp] at h
theorem rat_first (w : World) (o2 : Obj) (t : TypeId) (P Q : Int) : RatAt ((w.alloc (.cells #[.int .i64 P, .int .i64 Q] t)).alloc o2) w.heap.size P Q := (RatAt.new w t P Q).keep_alloc o2

set_option maxHeartbeats 800000 in
theorem evChance_bad (A : Option Addr) (n c : Nat) (ws : List Int) (a : Nat) (w : World) (hI : Ints w A n ws) (ha : a < 65536) (h : casesErr ws [a] ≠ 0) :
    Calls Tryd.prog 8 #[.slice A n c, .int .u16 (a : Int)] w (RetR w 0 0 (casesErr ws [a])) := by
  have HB0 : Hid (Below w.heap.size w ((w.alloc (.cells #[.int .i64 0, .int .i64 0] 32)).alloc (.cells #[.int .u16 (a : Int)] 30))) := two_alloc w _ _
  have HZ : Hid (RatAt ((w.alloc (.cells #[.int .i64 0, .int .i64 0] 32)).alloc (.cells #[.int .u16 (a : Int)] 30)) w.heap.size 0 0) := rat_first w _ _ 0 0
  have HC := hid (evCheck_any A n c _ 1 1 ws [a] _ (hI.keep HB0.out) (sets1 w (.cells #[.int .i64 0, .int .i64 0] 32) a ha) (by omega))
  have hne : (casesErr ws [a] != 0) = true := by simpa using h
  clear h hI ha
  generalize casesErr ws [a] = er at *
  have hz := HZ.out
  have g0 := hz.p0
  have g1 := hz.p1
  have f0 := hz.f0
  have f1 := hz.f1
  clear hz HZ
  go_enter Tryd.func8, Tryd.ntmps8
  go_wp2_with fail
  refine HC.out.mono ?_
  rintro e w' ⟨rfl, hw⟩
  rw [hw] at HB0 g0 g1 f0 f1
  clear hw HC
  go_wp2
  (try simp only [Exit.inBlock, Exit.then])
  refine bodyPost_ret (v := .tuple #[.agg #[.int .i64 0, .int .i64 0], .int .i64 er]) ?_ rfl ⟨rfl, HB0.out.trans (below_set2 (by omega))⟩
  rw [results_cell_tmp rfl]
  go_simp

set_option maxHeartbeats 800000 in
theorem evChance_ok (A : Option Addr) (n c : Nat) (ws : List Int) (a : Nat) (w : World) (hI : Ints w A n ws) (hS : Space ws) (ha : a < 2 ^ n) :
    Calls Tryd.prog 8 #[.slice A n c, .int .u16 (a : Int)] w (RetR w (chR ws a).num ((chR ws a).den : Int) 0) := by
  have hn : n ≤ 12 := by have := hS.hi; have := hI.len; omega
  have ha2 : a < 65536 := by have := hS.pow; rw [hI.len] at this; omega
  have HB0 : Hid (Below w.heap.size w ((w.alloc (.cells #[.int .i64 0, .int .i64 0] 32)).alloc (.cells #[.int .u16 (a : Int)] 30))) := two_alloc w _ _
  have HZ : Hid (RatAt ((w.alloc (.cells #[.int .i64 0, .int .i64 0] 32)).alloc (.cells #[.int .u16 (a : Int)] 30)) w.heap.size 0 0) := rat_first w _ _ 0 0
  have hc := evCheck_any A n c _ 1 1 ws [a] _ (hI.keep HB0.out) (sets1 w (.cells #[.int .i64 0, .int .i64 0] 32) a ha2) (by omega)
  rw [casesErr_space hS (by rw [hI.len]; simpa using ha)] at hc
  have HC := hid hc
  have HW1 := hid (weigh_ok A n c ws a _ (hI.keep HB0.out) hS ha2)
  have hw2 := weigh_ok A n c ws (2 ^ n - 1) _ (hI.keep HB0.out) hS (by have := hS.pow; rw [hI.len] at this; omega)
  have hf := wgt_full ws
  rw [hI.len] at hf
  rw [hf] at hw2
  have HW2 := hid hw2
  have HM := hid (rmake_ok (wgt ws a) (totW ws) ((w.alloc (.cells #[.int .i64 0, .int .i64 0] 32)).alloc (.cells #[.int .u16 (a : Int)] 30)) (by have := hS.bd a; omega) (by have := hS.bd a; omega) (by have := hS.totW; omega) (by have := hS.totW; omega) (by have := hS.totW; omega))
  have HR : Hid ((chR ws a).num = (Rat.divInt (wgt ws a) (totW ws)).num ∧ (chR ws a).den = (Rat.divInt (wgt ws a) (totW ws)).den) := ⟨rfl, rfl⟩
  rw [HR.out.1, HR.out.2]
  clear HR hw2 hf hc hI hS ha ha2
  generalize (Rat.divInt (wgt ws a) (totW ws)).num = P at *
  generalize ((Rat.divInt (wgt ws a) (totW ws)).den : Int) = Q at *
  generalize wgt ws a = x at *
  generalize totW ws = y at *
  go_enter Tryd.func8, Tryd.ntmps8
  go_wp2_with fail
  refine HC.out.mono ?_
  rintro e w' ⟨rfl, rfl⟩
  go_wp2_with fail
  refine HW1.out.mono ?_
  rintro e w' ⟨rfl, rfl⟩
  go_wp2_with fail
  refine (every_ok A n c _ (by omega)).mono ?_
  rintro e w' ⟨rfl, rfl⟩
  go_wp2_with fail
  refine HW2.out.mono ?_
  rintro e w' ⟨rfl, rfl⟩
  go_wp2_with fail
  refine HM.out.mono ?_
  rintro e w1 ⟨rfl, hb⟩
  have hz := HZ.out.keep hb
  have g0 := hz.p0
  have g1 := hz.p1
  have f0 := hz.f0
  have f1 := hz.f1
  have HB1 := hid (below_step HB0.out (by simp) hb)
  clear hz hb HB0 HZ HC HW1 HW2 HM
  go_wp2
  (try simp only [Exit.inBlock, Exit.then])
  refine bodyPost_ret (v := .tuple #[.agg #[.int .i64 P, .int .i64 Q], .int .i64 0]) ?_ rfl ⟨rfl, HB1.out.trans (below_set2 (by omega))⟩
  rw [results_cell_tmp rfl]
  go_simp

theorem prod_bd {x y : Int} (h1 : 0 ≤ x ∧ x ≤ 1200) (h2 : 0 ≤ y ∧ y ≤ 1200) : 0 ≤ x * y ∧ x * y ≤ 1440000 := by
  refine ⟨Int.mul_nonneg h1.1 h2.1, ?_⟩
  exact Int.mul_le_mul (c := 1200) (d := 1200) h1.2 h2.2 h2.1 (by omega)

end Go.Proofs.YtlepgeipcofapaaDoor
