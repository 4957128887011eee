/-
  castkeep.good of a row written out behind a ratio that was just kept.
-/
import Derived.Test.YtlepgeipcofapaaRatH
import Derived.Test.YtlepgeipcofapaaGen
namespace Go.Proofs.Ytlepgeipcofapaa
open Go.RowKit

theorem good_bel1 (w : World) (o : Obj) (cs : Array Value) (t n : Nat) (l : List Int) (h : cs = (l.map (Value.int .i64)).toArray) (hn : l.length = n) (hs : n ≤ 1000000) :
    Calls Try.prog 18 #[.slice (some ⟨w.heap.size + 1, 0, none⟩) n n] ((w.alloc o).alloc (.cells cs t)) fun e w' => e = .returned (.bool (allOK l)) ∧ Below (w.alloc o).heap.size (w.alloc o) w' := by
  have e : (w.alloc o).heap.size = w.heap.size + 1 := by simp
  have k := good_bel (w.alloc o) cs t n l h hn hs
  rw [e] at k ⊢
  exact k
end Go.Proofs.Ytlepgeipcofapaa
