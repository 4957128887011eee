/-
  Rings: the group that one turn makes; castkeep.turns.
-/
import Derived.Test.YtbcjfiobggggjaaOrbC
import Derived.Test.YtbcjfiobggggjaaGood
import Derived.Test.YtbcjfiobggggjaaGen
namespace Go.Proofs.Ytbcjfiobggggjaa
open Go.RowKit

/-- One order, some times. -/
def powr (n : Nat) (g : List Int) : Nat → List Int
  | 0 => iota n
  | i + 1 => times g (powr n g i)
theorem gen_powr {n : Nat} {g : List Int} : ∀ i, Gen n [g] (powr n g i)
  | 0 => .one
  | i + 1 => .step (by simp) (gen_powr i)

/-- A list that is the group of one order, by looking at it. -/
def isGrp (n : Nat) (g : List Int) (T : List (List Int)) : Bool :=
  decide (T.Pairwise (fun a b => rk a < rk b)) && T.all (fun p => decide (times g p ∈ T) && (List.range T.length).any (fun i => decide (powr n g i = p))) && decide (iota n ∈ T)
theorem groupOf_isGrp {n : Nat} {g : List Int} {T : List (List Int)} (h : isGrp n g T = true) : GroupOf n [g] T := by
  unfold isGrp at h
  simp only [Bool.and_eq_true, decide_eq_true_eq, List.all_eq_true] at h
  obtain ⟨⟨h1, h2⟩, h3⟩ := h
  refine ⟨h1, fun p => ⟨fun hp => ?_, fun hp => ?_⟩⟩
  · obtain ⟨i, _, e⟩ := List.any_eq_true.1 (h2 p hp).2
    rw [← of_decide_eq_true e]
    exact gen_powr i
  · refine Gen.sub (G := fun p => p ∈ T) h3 (fun g' p hg hp => ?_) hp
    rw [List.mem_singleton.1 hg]
    exact (h2 p hp).1

/-- A ring's turns. -/
def rots (n : Nat) : List (List Int) := (List.range n).map (fun i => (List.range n).map (fun j => (((i + j) % n : Nat) : Int)))
/-- A turn by one. -/
def ring (n : Nat) : List Int := (List.range n).map (fun j => (((j + 1) % n : Nat) : Int))

theorem rots_grp : isGrp 2 (ring 2) (rots 2) = true ∧ isGrp 3 (ring 3) (rots 3) = true ∧ isGrp 5 (ring 5) (rots 5) = true := by decide +kernel
theorem group_three : GroupOf 3 [[1, 2, 0]] [[0, 1, 2], [1, 2, 0], [2, 0, 1]] := groupOf_isGrp rots_grp.2.1
theorem col_three : colN [[0, 1, 2], [1, 2, 0], [2, 0, 1]] 2 = 4 := by decide +kernel
theorem orbE_three : orbE 3 [[1, 2, 0]] = 0 := by decide +kernel

theorem rrows_lit1 {w : World} {A : Option Addr} {n c : Nat} {xs : List Int} (h : Ints w A n xs) (hc : Cap n c) (h0 : A = none → c = 0) : RRows (w.alloc (.cells #[.slice A n c] 23)) (some ⟨w.heap.size, 0, none⟩) 1 [xs] := by
  refine ⟨rfl, fun _ => ⟨w.heap.size, 0, rfl, by simp, fun j hj => ?_⟩⟩
  have : j = 0 := by omega
  subst this
  exact ⟨A, n, c, by simp, h.keep (below_alloc w _), hc, h0⟩

/-- '[][]int{{1, 2, 0}}'. -/
theorem rrows_three (w : World) : RRows ((w.alloc (.cells #[.int .i64 1, .int .i64 2, .int .i64 0] 3)).alloc (.cells #[.slice (some ⟨w.heap.size, 0, none⟩) 3 3] 23)) (some ⟨w.heap.size + 1, 0, none⟩) 1 [[1, 2, 0]] := by
  have h := rrows_lit1 (w := w.alloc (.cells #[.int .i64 1, .int .i64 2, .int .i64 0] 3)) (A := some ⟨w.heap.size, 0, none⟩) (n := 3) (c := 3) (xs := [1, 2, 0]) (ints_lit w _ _ 3 [1, 2, 0] rfl rfl) ⟨Nat.le_refl _, by omega⟩ (fun e => by cases e)
  rwa [show (w.alloc (.cells #[.int .i64 1, .int .i64 2, .int .i64 0] 3)).heap.size = w.heap.size + 1 by simp] at h
theorem below_three (w : World) : Below w.heap.size w ((w.alloc (.cells #[.int .i64 1, .int .i64 2, .int .i64 0] 3)).alloc (.cells #[.slice (some ⟨w.heap.size, 0, none⟩) 3 3] 23)) := (below_alloc w _).alloc (by simp) _

set_option maxRecDepth 100000 in
set_option maxHeartbeats 800000 in
theorem turns_any (w : World) : Calls Try.prog 19 #[] w fun e w' => e = .returned (.bool true) ∧ Below w.heap.size w w' := by
  have HC := fun W => hid (colours_ok (some ⟨W.heap.size + 1, 0, none⟩) 1 1 [[1, 2, 0]] 3 2 _ (rrows_three W) orbE_three (by omega))
  have HGR := fun W => hid (group_ok (some ⟨W.heap.size + 1, 0, none⟩) 1 1 [[1, 2, 0]] 3 _ (rrows_three W) orbE_three)
  go_enter Try.func19, Try.ntmps19
  go_wp2_with fail
  refine (HC _).out.mono ?_
  rintro e w1 ⟨T, hG, rfl, hb1⟩
  have hT := hG.unique group_three
  subst hT
  rw [col_three]
  have HB1 := hid (below_step (below_three w) (Nat.le_refl _) hb1)
  clear hG hb1
  go_wp2_with fail
  refine (HGR _).out.mono ?_
  rintro e w2 ⟨v, T, rfl, hG, hr, hb2⟩
  have hT := hG.unique group_three
  subst hT
  obtain ⟨A2, c2, e2, _⟩ := hr.form
  subst e2
  have HB2 := hid (below_step HB1.out (Nat.le_refl _) (below_step (below_three w1) (Nat.le_refl _) hb2))
  clear hG hb2 hr HB1 HC HGR
  go_wp2_with fail
  have hgd := fun t => good_bel w2 #[.int .i64 0, .int .i64 0] t 2 [0, 0] rfl rfl (by omega)
  rw [show allOK [0, 0] = true by decide] at hgd
  refine (hgd _).mono ?_
  rintro e w3 ⟨rfl, hb3⟩
  have HB3 := hid (below_step HB2.out (Nat.le_refl _) hb3)
  clear hb3 HB2 hgd
  go_wp2
  go_ret
  exact ⟨rfl, HB3.out⟩

end Go.Proofs.Ytbcjfiobggggjaa
