/-
  Two ratios in blocks that follow one another, both stored anew.
-/
import Derived.Test.YthdjbmogdlodcaaRatB
namespace Go.Proofs.Ythdjbmogdlodcaa
open Go.RowKit

theorem RatAt.drewN {w : World} {b : Nat} {P Q : Int} (h : RatAt w b P Q) (k : Nat) : RatAt (w.drewN k) b P Q := ⟨h.p0, h.p1, h.f0, h.f1, h.lt⟩
theorem RatAt.put {w : World} {b : Nat} {P Q : Int} (h : RatAt w b P Q) (P' Q' : Int) : RatAt ((w.setCell ⟨b, 0, none⟩ (.int .i64 P')).setCell ⟨b, 1, none⟩ (.int .i64 Q')) b P' Q' := by
  refine ⟨?_, ?_, ?_, ?_, by simpa [World.setCell] using h.lt⟩
  · rw [World.cell?_setCell_other _ ⟨b, 1, none⟩ ⟨b, 0, none⟩ _ (fun e => by cases e)]
    exact World.cell?_setCell_same w ⟨b, 0, none⟩ _ (by rw [h.p0])
  · refine World.cell?_setCell_same _ ⟨b, 1, none⟩ _ (u := .int .i64 Q) ?_
    rw [World.cell?_setCell_other w ⟨b, 0, none⟩ ⟨b, 1, none⟩ _ (fun e => by cases e), h.p1]
  · rw [World.frozen?_setCell, World.frozen?_setCell]
    exact h.f0
  · rw [World.frozen?_setCell, World.frozen?_setCell]
    exact h.f1
theorem RatAt.far {w : World} {b : Nat} {P Q : Int} (h : RatAt w b P Q) (b' j : Nat) (v : Value) (hne : b' ≠ b) : RatAt (w.setCell ⟨b', j, none⟩ v) b P Q := by
  refine ⟨?_, ?_, ?_, ?_, by simpa [World.setCell] using h.lt⟩
  · rw [World.cell?_setCell_other w ⟨b', j, none⟩ ⟨b, 0, none⟩ _ (fun e => hne (by cases e; rfl))]
    exact h.p0
  · rw [World.cell?_setCell_other w ⟨b', j, none⟩ ⟨b, 1, none⟩ _ (fun e => hne (by cases e; rfl))]
    exact h.p1
  · rw [World.frozen?_setCell]
    exact h.f0
  · rw [World.frozen?_setCell]
    exact h.f1
theorem RatAt.put2 {w : World} {b b' : Nat} {P Q P2 Q2 : Int} (h : RatAt w b P Q) (_ : RatAt w b' P2 Q2) (x y z u : Int) (hne : b ≠ b') :
    RatAt ((((w.setCell ⟨b, 0, none⟩ (.int .i64 x)).setCell ⟨b, 1, none⟩ (.int .i64 y)).setCell ⟨b', 0, none⟩ (.int .i64 z)).setCell ⟨b', 1, none⟩ (.int .i64 u)) b x y :=
  ((h.put x y).far b' 0 _ hne.symm).far b' 1 _ hne.symm
theorem RatAt.put2b {w : World} {b b' : Nat} {P Q P2 Q2 : Int} (h : RatAt w b' P2 Q2) (_ : RatAt w b P Q) (x y z u : Int) (hne : b ≠ b') :
    RatAt ((((w.setCell ⟨b, 0, none⟩ (.int .i64 x)).setCell ⟨b, 1, none⟩ (.int .i64 y)).setCell ⟨b', 0, none⟩ (.int .i64 z)).setCell ⟨b', 1, none⟩ (.int .i64 u)) b' z u :=
  ((h.far b 0 _ hne).far b 1 _ hne).put z u
end Go.Proofs.Ythdjbmogdlodcaa
