/-
  castkeep.oddsLive.
-/
import Derived.Test.YthdjbmogdlodcaaOddC
import Derived.Test.YthdjbmogdlodcaaRatI
namespace Go.Proofs.Ythdjbmogdlodcaa
open Go.RowKit

theorem liveD : GoodD [(1, 2), (4, 1)] := ⟨by simp, by simp, by simp⟩
theorem liveM : (mean [(1, 2), (4, 1)]).num = 2 ∧ ((mean [(1, 2), (4, 1)]).den : Int) = 1 := by decide +kernel
theorem liveV : (var [(1, 2), (4, 1)]).num = 2 ∧ ((var [(1, 2), (4, 1)]).den : Int) = 1 := by decide +kernel
/-- Two slices that are written out. -/
theorem two_lits (w : World) (cs ds : Array Value) (t n m : Nat) (xs ys : List Int) (h : cs = (xs.map (Value.int .i64)).toArray) (hn : xs.length = n) (k : ds = (ys.map (Value.int .i64)).toArray) (hm : ys.length = m) :
    Ints ((w.alloc (.cells cs t)).alloc (.cells ds t)) (some ⟨w.heap.size, 0, none⟩) n xs ∧ Ints ((w.alloc (.cells cs t)).alloc (.cells ds t)) (some ⟨w.heap.size + 1, 0, none⟩) m ys := by
  refine ⟨(ints_lit w cs t n xs h hn).keep (below_alloc _ _), ?_⟩
  have h := ints_lit (w.alloc (.cells cs t)) ds t m ys k hm
  rwa [show (w.alloc (.cells cs t)).heap.size = w.heap.size + 1 by simp] at h

set_option maxHeartbeats 1600000 in
set_option maxRecDepth 100000 in
theorem oddsLive_any (w : World) : Calls Try.prog 20 #[] w fun e w' => e = .returned (.bool true) ∧ Below w.heap.size w w' := by
  have HM : Hid (∀ W : World, Calls Try.prog 10 #[.agg #[.slice (some ⟨W.heap.size, 0, none⟩) 2 2, .slice (some ⟨W.heap.size + 1, 0, none⟩) 2 2]] ((W.alloc (.cells #[.int .i64 1, .int .i64 4] 3)).alloc (.cells #[.int .i64 2, .int .i64 1] 3)) (RetR ((W.alloc (.cells #[.int .i64 1, .int .i64 4] 3)).alloc (.cells #[.int .i64 2, .int .i64 1] 3)) 2 1 0)) := fun W => by
    obtain ⟨a, b⟩ := two_lits W #[.int .i64 1, .int .i64 4] #[.int .i64 2, .int .i64 1] 3 2 2 [1, 4] [2, 1] rfl rfl rfl rfl
    have k := omean_ok _ 2 2 _ 2 2 [(1, 2), (4, 1)] _ a b liveD
    rw [liveM.1, liveM.2] at k
    exact k
  have HS : Hid (∀ W : World, Calls Try.prog 11 #[.agg #[.slice (some ⟨W.heap.size + 1, 0, none⟩) 2 2, .slice (some ⟨W.heap.size + 2, 0, none⟩) 2 2]] (((W.alloc (.cells #[.int .i64 2, .int .i64 1] 26)).alloc (.cells #[.int .i64 1, .int .i64 4] 3)).alloc (.cells #[.int .i64 2, .int .i64 1] 3)) (RetR (((W.alloc (.cells #[.int .i64 2, .int .i64 1] 26)).alloc (.cells #[.int .i64 1, .int .i64 4] 3)).alloc (.cells #[.int .i64 2, .int .i64 1] 3)) 2 1 0)) := fun W => by
    obtain ⟨a, b⟩ := two_lits (W.alloc (.cells #[.int .i64 2, .int .i64 1] 26)) #[.int .i64 1, .int .i64 4] #[.int .i64 2, .int .i64 1] 3 2 2 [1, 4] [2, 1] rfl rfl rfl rfl
    have k := ospread_ok _ 2 2 _ 2 2 [(1, 2), (4, 1)] _ a b liveD
    rw [liveV.1, liveV.2] at k
    simpa using k
  have HB0 := hid (two_alloc w (.cells #[.int .i64 1, .int .i64 4] 3) (.cells #[.int .i64 2, .int .i64 1] 3))
  go_enter Try.func20, Try.ntmps20
  go_wp2_with fail
  refine (HM.out _).mono ?_
  rintro e w1 ⟨rfl, hb⟩
  have HB1 := hid (below_step HB0.out (Nat.le_refl _) hb)
  clear hb HB0 HM
  have HR1 := hid (((RatAt.new w1 26 2 1).keep_alloc (.cells #[.int .i64 1, .int .i64 4] 3)).keep_alloc (.cells #[.int .i64 2, .int .i64 1] 3))
  have HB2 := hid (below_step HB1.out (Nat.le_refl _) (three_alloc w1 (.cells #[.int .i64 2, .int .i64 1] 26) (.cells #[.int .i64 1, .int .i64 4] 3) (.cells #[.int .i64 2, .int .i64 1] 3)))
  go_wp2_with fail
  refine (HS.out _).mono ?_
  rintro e w2 ⟨rfl, hb⟩
  have HB3 := hid (below_step HB2.out (Nat.le_refl _) hb)
  have HR2 := hid (HR1.out.keep hb)
  clear hb HB1 HB2 HS HR1
  have HR3 := hid ((HR2.out.keep_alloc (.cells #[.int .i64 2, .int .i64 1] 26)))
  have HS3 := hid (RatAt.new w2 26 2 1)
  have HB4 := hid (below_step HB3.out (Nat.le_refl _) (below_alloc w2 (.cells #[.int .i64 2, .int .i64 1] 26)))
  clear HB3 HR2
  go_wp2_with fail
  refine (good_bel1 _ _ _ _ 2 [0, 0] rfl rfl (by omega)).mono ?_
  rintro e w3 ⟨rfl, hb⟩
  rw [show allOK [0, 0] = true by decide]
  have g0 := (HR3.out.keep hb).p0
  have g1 := (HR3.out.keep hb).p1
  have g2 := (HS3.out.keep hb).p0
  have g3 := (HS3.out.keep hb).p1
  have HB5 := hid (below_step HB4.out (Nat.le_refl _) hb)
  clear hb HB4 HR3 HS3
  go_wp2
  go_ret
  exact ⟨rfl, HB5.out⟩
end Go.Proofs.Ythdjbmogdlodcaa
