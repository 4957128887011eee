/-
  A ratio in a block; ratio.Check, checkBoth, lowest.
-/
import Derived.Test.YtaklchehamkgcaaRatA
import Derived.Test.YtaklchehamkgcaaLit
import Derived.Deep.OwnRows
namespace Go.Proofs.Ytaklchehamkgcaa
open Go.RowKit

/-- Block b holds P by Q. -/
structure RatAt (w : World) (b : Nat) (P Q : Int) : Prop where
  p0 : w.cell? ⟨b, 0, none⟩ = some (.int .i64 P)
  p1 : w.cell? ⟨b, 1, none⟩ = some (.int .i64 Q)
  f0 : w.frozen? ⟨b, 0, none⟩ = false
  f1 : w.frozen? ⟨b, 1, none⟩ = false
  lt : b < w.heap.size

theorem rat_row {w : World} {b : Nat} {x y : Value} : (w.alloc (.cells #[x, y] b)).rowIs w.heap.size b 2 (fun j => if j = 0 then x else y) := by
  refine ⟨#[x, y], heap_alloc_new w _, rfl, fun i hi => ?_⟩
  match i, hi with
  | 0, _ => rfl
  | 1, _ => rfl
theorem RatAt.new (w : World) (t : TypeId) (P Q : Int) : RatAt (w.alloc (.cells #[.int .i64 P, .int .i64 Q] t)) w.heap.size P Q := by
  have hr := rat_row (w := w) (b := t) (x := .int .i64 P) (y := .int .i64 Q)
  exact ⟨(hr.cell (i := 0) (by omega)).trans rfl, (hr.cell (i := 1) (by omega)).trans rfl, hr.frozen 0, hr.frozen 1, hr.lt⟩
theorem RatAt.keep {w w' : World} {b : Nat} {P Q : Int} (h : RatAt w b P Q) (hb : Below w.heap.size w w') : RatAt w' b P Q := by
  have e := hb.block b h.lt
  exact ⟨(hb.cell (p := ⟨b, 0, none⟩) h.lt).trans h.p0, (hb.cell (p := ⟨b, 1, none⟩) h.lt).trans h.p1, (World.frozen?_of_block (a := ⟨b, 0, none⟩) e).trans h.f0, (World.frozen?_of_block (a := ⟨b, 1, none⟩) e).trans h.f1, Nat.lt_of_lt_of_le h.lt hb.size⟩
theorem RatAt.keep_alloc {w : World} {b : Nat} {P Q : Int} (h : RatAt w b P Q) (o : Obj) : RatAt (w.alloc o) b P Q := h.keep (below_alloc w o)

/-- What is said of a call that hands out an error. -/
def RetE (w : World) (er : Int) (e : Ending) (w' : World) : Prop := e = .returned (.int .i64 er) ∧ Below w.heap.size w w'

set_option maxHeartbeats 800000 in
theorem rcheck_any (P Q : Int) (w : World) : Calls Try.prog 63 #[.agg #[.int .i64 P, .int .i64 Q]] w (RetE w (ratioErr P Q)) := by
  have HB0 : Hid (Below w.heap.size w (w.alloc (.cells #[.int .i64 P, .int .i64 Q] 56))) := below_alloc w _
  by_cases h1 : P < -1000000000 ∨ 1000000000 < P
  · have HE : Hid (ratioErr P Q = 1) := by
      show _ = _
      unfold ratioErr
      rw [if_pos (by omega)]
    go_enter Try.func63, Try.ntmps63
    go_wp2_with fail
    refine (rinR_no _ _ h1).mono ?_
    rintro e w' ⟨rfl, rfl⟩
    go_wp2
    go_ret
    exact ⟨by rw [HE.out]; rfl, HB0.out⟩
  · by_cases h2 : Q < -1000000000 ∨ 1000000000 < Q
    · have HE : Hid (ratioErr P Q = 1) := by
        show _ = _
        unfold ratioErr
        rw [if_pos (by omega)]
      go_enter Try.func63, Try.ntmps63
      go_wp2_with fail
      refine (rinR_yes _ _ (by omega) (by omega)).mono ?_
      rintro e w' ⟨rfl, rfl⟩
      go_wp2_with fail
      refine (rinR_no _ _ h2).mono ?_
      rintro e w' ⟨rfl, rfl⟩
      go_wp2
      go_ret
      exact ⟨by rw [HE.out]; rfl, HB0.out⟩
    · by_cases h3 : Q < 1
      · have HE : Hid (ratioErr P Q = 1) := by
          show _ = _
          unfold ratioErr
          rw [if_pos (by omega)]
        go_enter Try.func63, Try.ntmps63
        go_wp2_with fail
        refine (rinR_yes _ _ (by omega) (by omega)).mono ?_
        rintro e w' ⟨rfl, rfl⟩
        go_wp2_with fail
        refine (rinR_yes _ _ (by omega) (by omega)).mono ?_
        rintro e w' ⟨rfl, rfl⟩
        go_wp2
        go_ret
        exact ⟨by rw [HE.out]; rfl, HB0.out⟩
      · have hG : 1 ≤ Int.gcd P Q := Int.gcd_pos_of_ne_zero_right _ (by omega)
        have HE : Hid (ratioErr P Q = if Int.gcd P Q = 1 then 0 else 3) := by
          show _ = _
          unfold ratioErr
          rw [if_neg (by omega)]
        have h4 : 1 ≤ Q := by omega
        have hW1 : Wide P := ⟨by omega, by omega⟩
        have hW2 : Wide Q := ⟨by omega, by omega⟩
        have H4 := hid h4
        by_cases h5 : Int.gcd P Q = 1
        · have HE1 := HE.out
          rw [if_pos h5] at HE1
          have HE2 := hid HE1
          have HG5 := hid h5
          clear HE HE1
          go_enter Try.func63, Try.ntmps63
          go_wp2_with fail
          refine (rinR_yes _ _ (by omega) (by omega)).mono ?_
          rintro e w' ⟨rfl, rfl⟩
          go_wp2_with fail
          refine (rinR_yes _ _ (by omega) (by omega)).mono ?_
          rintro e w' ⟨rfl, rfl⟩
          go_wp2_with fail
          refine (divisor_any _ _ _ hW1 hW2).mono ?_
          rintro e w' ⟨rfl, q, rfl⟩
          rw [HG5.out]
          go_wp2
          go_ret
          exact ⟨by rw [HE2.out]; rfl, below_drewN HB0.out q⟩
        · have HE1 := HE.out
          rw [if_neg h5] at HE1
          have HE2 := hid HE1
          have h6 : (1 : Int) < ((Int.gcd P Q : Nat) : Int) := by omega
          clear HE HE1
          go_enter Try.func63, Try.ntmps63
          go_wp2_with fail
          refine (rinR_yes _ _ (by omega) (by omega)).mono ?_
          rintro e w' ⟨rfl, rfl⟩
          go_wp2_with fail
          refine (rinR_yes _ _ (by omega) (by omega)).mono ?_
          rintro e w' ⟨rfl, rfl⟩
          go_wp2_with fail
          refine (divisor_any _ _ _ hW1 hW2).mono ?_
          rintro e w' ⟨rfl, q, rfl⟩
          go_wp2
          go_ret
          exact ⟨by rw [HE2.out]; rfl, below_drewN HB0.out q⟩

/-- The first error of two. -/
def bothErr (P Q P' Q' : Int) : Int := if ratioErr P Q ≠ 0 then ratioErr P Q else ratioErr P' Q'

set_option maxHeartbeats 800000 in
theorem checkBoth_any (P Q P' Q' : Int) (w : World) : Calls Try.prog 54 #[.agg #[.int .i64 P, .int .i64 Q], .agg #[.int .i64 P', .int .i64 Q']] w (RetE w (bothErr P Q P' Q')) := by
  have HB0 : Hid (Below w.heap.size w ((w.alloc (.cells #[.int .i64 P, .int .i64 Q] 56)).alloc (.cells #[.int .i64 P', .int .i64 Q'] 56))) := below_step (below_alloc w _) (Nat.le_refl _) (below_alloc _ _)
  have HR : Hid (RatAt ((w.alloc (.cells #[.int .i64 P, .int .i64 Q] 56)).alloc (.cells #[.int .i64 P', .int .i64 Q'] 56)) (w.heap.size + 1) P' Q') := by
    have h := RatAt.new (w.alloc (.cells #[.int .i64 P, .int .i64 Q] 56)) 56 P' Q'
    rwa [show (w.alloc (.cells #[.int .i64 P, .int .i64 Q] 56)).heap.size = w.heap.size + 1 by simp] at h
  by_cases h : ratioErr P Q = 0
  · have HE : Hid (bothErr P Q P' Q' = ratioErr P' Q') := if_neg (by simpa using h)
    have H0 := hid h
    clear h
    go_enter Try.func54, Try.ntmps54
    go_wp2_with fail
    refine (rcheck_any _ _ _).mono ?_
    rintro e w1 ⟨rfl, hb⟩
    rw [H0.out]
    have hr := HR.out.keep hb
    have g0 := hr.p0
    have g1 := hr.p1
    have HB1 := hid (below_step HB0.out (by simp) hb)
    clear hr hb HB0 HR
    go_wp2_with fail
    refine (rcheck_any _ _ _).mono ?_
    rintro e w2 ⟨rfl, hb⟩
    have HB2 := hid (below_step HB1.out (by first | exact HB1.out.size | simp) hb)
    go_wp2
    go_ret
    exact ⟨by rw [HE.out]; rfl, HB2.out⟩
  · have HE : Hid (bothErr P Q P' Q' = ratioErr P Q) := if_pos h
    have hne : (ratioErr P Q != 0) = true := by simpa using h
    clear h
    go_enter Try.func54, Try.ntmps54
    go_wp2_with fail
    refine (rcheck_any _ _ _).mono ?_
    rintro e w1 ⟨rfl, hb⟩
    have HB1 := hid (below_step HB0.out (by simp) hb)
    clear hb HB0 HR
    generalize ratioErr P Q = er at *
    go_wp2
    go_ret
    exact ⟨by rw [HE.out]; rfl, HB1.out⟩
end Go.Proofs.Ytaklchehamkgcaa
