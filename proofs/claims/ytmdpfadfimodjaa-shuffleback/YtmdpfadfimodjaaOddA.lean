/-
  A distribution in a block; odds.Check.
-/
import Derived.Test.YtmdpfadfimodjaaOddM
import Derived.Test.YtmdpfadfimodjaaRatB
namespace Go.Proofs.Ytmdpfadfimodjaa
open Go.RowKit

/-- Block b holds two slices. -/
structure OddsAt (w : World) (b : Nat) (A : Option Addr) (n c : Nat) (B : Option Addr) (m d : Nat) : Prop where
  p0 : w.cell? ⟨b, 0, none⟩ = some (.slice A n c)
  p1 : w.cell? ⟨b, 1, none⟩ = some (.slice B m d)
  f0 : w.frozen? ⟨b, 0, none⟩ = false
  f1 : w.frozen? ⟨b, 1, none⟩ = false
  lt : b < w.heap.size
theorem OddsAt.new (w : World) (t : TypeId) (A : Option Addr) (n c : Nat) (B : Option Addr) (m d : Nat) : OddsAt (w.alloc (.cells #[.slice A n c, .slice B m d] t)) w.heap.size A n c B m d := by
  have hr := rat_row (w := w) (b := t) (x := .slice A n c) (y := .slice B m d)
  exact ⟨(hr.cell (i := 0) (by omega)).trans rfl, (hr.cell (i := 1) (by omega)).trans rfl, hr.frozen 0, hr.frozen 1, hr.lt⟩
theorem OddsAt.keep {w w' : World} {b : Nat} {A : Option Addr} {n c : Nat} {B : Option Addr} {m d : Nat} (h : OddsAt w b A n c B m d) (hb : Below w.heap.size w w') : OddsAt w' b A n c B m d := by
  have e := hb.block b h.lt
  exact ⟨(hb.cell (p := ⟨b, 0, none⟩) h.lt).trans h.p0, (hb.cell (p := ⟨b, 1, none⟩) h.lt).trans h.p1, (World.frozen?_of_block (a := ⟨b, 0, none⟩) e).trans h.f0, (World.frozen?_of_block (a := ⟨b, 1, none⟩) e).trans h.f1, Nat.lt_of_lt_of_le h.lt hb.size⟩
theorem OddsAt.keep_alloc {w : World} {b : Nat} {A : Option Addr} {n c : Nat} {B : Option Addr} {m d : Nat} (h : OddsAt w b A n c B m d) (o : Obj) : OddsAt (w.alloc o) b A n c B m d := h.keep (below_alloc w o)

end Go.Proofs.Ytmdpfadfimodjaa
