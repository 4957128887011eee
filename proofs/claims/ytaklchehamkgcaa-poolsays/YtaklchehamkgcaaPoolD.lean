/-
  A map that counts sets: 'MapAt w B j g'. The walk's bits. Two greatest numbers.
-/
import Derived.Test.YtaklchehamkgcaaPoolN
import Derived.Test.YtaklchehamkgcaaPoolB
import Derived.Test.YtaklchehamkgcaaLit
import Derived.Maps.OwnSet
import Derived.Maps.AppendAt
import Derived.Maps.OwnOps
import Derived.Laws.BitsAllLaws
import Derived.Laws.BitsLemmas
namespace Go.Proofs.Ytaklchehamkgcaa
open Go.RowKit Go.Maps Go.WideMaps

theorem lawU : Keyed Try.prog 39 := int_keyed Try.underlying39
theorem zeroU (w : World) : (zeroValue 3).run Try.prog w = .ok (.int .i64 0) w := by kernel_rfl
theorem keyOf_U {s : Nat} (h : s < 65536) : keyOf Try.prog 39 (.int .u16 (s : Int)) = some (.int .u16 (s : Int)) := keyOf_int_mk Try.underlying39 (WalkArith.wf_u16 (by omega))

/-- The map in the block B has, at the set s, the number g s. -/
def MapAt (w : World) (B j : Nat) (g : Nat → Nat) : Prop := ∃ D : DataW Unit, w.ownsMap Try.prog 39 (plainElem Try.prog 3) B j D ∧ ∀ s : Nat, s < 65536 → D.atKey (.int .u16 (s : Int)) (.lit (.int .i64 0)) = .lit (.int .i64 ((g s : Nat) : Int))
theorem MapAt.made (w : World) (f : Nat → Nat) : MapAt (w.alloc (.map #[] 0)) w.heap.size 0 (cnP f 0) := ⟨.map [], World.ownsMap_made _ _ _ _, fun _ _ => rfl⟩
theorem MapAt.keep {w w' : World} {B j : Nat} {g : Nat → Nat} (h : MapAt w B j g) (hb : Below w.heap.size w w') : MapAt w' B j g := by
  obtain ⟨D, h1, h2⟩ := h
  exact ⟨D, h1.kept (row := none) ⟨hb.os, hb.tape, hb.output, hb.size, fun i hi _ => hb.block i hi⟩ (by simp), h2⟩
theorem MapAt.lt {w : World} {B j : Nat} {g : Nat → Nat} (h : MapAt w B j g) : B < w.heap.size := by
  obtain ⟨D, h1, _⟩ := h
  exact h1.lt
theorem MapAt.look {w : World} {B j : Nat} {g : Nat → Nat} (h : MapAt w B j g) {s : Nat} (hs : s < 65536) : (Instr.lookup 38 (.map (some B)) (.int .u16 (s : Int)) false).run Try.prog w = .ok (.int .i64 ((g s : Nat) : Int)) w := by
  obtain ⟨D, h1, h2⟩ := h
  obtain ⟨c, hrun, hat, _⟩ := h1.lookup_int lawU Try.underlying38 Try.underlying3 (zeroU w) (keyOf_U hs)
  rw [h2 s hs] at hat
  injection hat with hat
  injection hat with _ hat
  rw [hrun, ← hat]

/-- 'seen[s]++' at the store. -/
theorem wpList_seen {ops : Array Oper} {rest : List Oper} {o : Oper} {a : Act} {Q : Exit → Act → World → Prop} (w : World) (hg : o.guard = none) (m x v : Operand) (hop : o.op = Op.mapUpdate 38 m x v)
    (B j : Nat) (g : Nat → Nat) (hm : a.eval m = .map (some B)) (h : MapAt w B j g) (hj : j < 1000000) (s : Nat) (hs : s < 65536) (hb : g s < 1000000) (hx : a.eval x = .int .u16 (s : Int)) (hv : a.eval v = .int .i64 (((g s : Nat) : Int) + 1))
    (hK : ∀ w', MapAt w' B (j + 1) (fun t => g t + if s = t then 1 else 0) → w.grownBy w' (some B) → wpList Try.prog ops Q rest (a.put o.dst undef) w') :
    wpList Try.prog ops Q (o :: rest) a w := by
  obtain ⟨D, h1, h2⟩ := h
  refine wpList_mapUpdate_own w hg m x v 38 hop 39 3 lawU Try.underlying38 _ B j D hm h1 (by unfold maxLen; omega) _ _ _ hx hv (keyOf_U hs) _ [] (plainElem_int Try.underlying3 (WalkArith.wf_i64 (by omega))) ?_
  intro w' hown hgrow
  refine hK w' ⟨_, hown, fun t ht => ?_⟩ hgrow
  by_cases e : s = t
  · subst e
    rw [atKey_put_same h1.isMap (lawU.key (keyOf_U hs))]
    simp
  · rw [atKey_put_other (by
      intro h
      injection h with _ h
      omega), h2 t ht]
    simp [e]

theorem shr_oneP {s k : Nat} (hs : s < 65536) : bits .and .u16 ((s : Int) / 2 ^ k) 1 = ((s / 2 ^ k % 2 : Nat) : Int) := by
  have h1 : s / 2 ^ k ≤ s := Nat.div_le_self _ _
  have h2 := u16_and_nat (s / 2 ^ k) 1 (by omega) (by omega)
  rw [nat_mask1] at h2
  rw [pow_int, ← Int.natCast_ediv]
  exact h2
theorem wrap_powP {e : Nat} (h : e < 16) : IntKind.u16.wrap ((2 : Int) ^ e) = ((2 ^ e : Nat) : Int) := by
  have h1 : 2 ^ e < 2 ^ 16 := Nat.pow_lt_pow_right (by omega) h
  rw [IntKind.wrap_u16, pow_int]
  generalize 2 ^ e = z at *
  omega
theorem run_maxNN {P : Program} (x y m : Nat) (hm : m = max x y) (ts : Array TypeId) (t : TypeId) (W : World) :
    (Builtin.max_ ts t #[.int .i64 (x : Int), .int .i64 (y : Int)]).run P W = .ok (.int .i64 (m : Int)) W := by
  have e : (if (y : Int) > (x : Int) then (y : Int) else (x : Int)) = (m : Int) := by
    subst hm
    split <;> omega
  simp only [Builtin.max_, Builtin.max2, List.foldlM_cons, List.foldlM_nil, pure_bind]
  simp only [e]
  rfl
theorem chosen_row (n k x : Nat) (A : Option Addr) (c : Nat) (w : World) (h : Ints w A n (ptL n x)) (hk : 1 ≤ k ∧ k ≤ 12) (hn : n ≤ 30) :
    Calls Try.prog 8 #[.int .i64 (k : Int), .slice A n c] w (RetOwnE w (upL (pN k (ptL n x) n)) 0) := by
  have e := ptL_ok (k := k) (n := n) x hk hn
  have := poChosen_any (k : Int) A n c (ptL n x) w h
  rw [poolX_ok e, e, ptL_len] at this
  exact this

end Go.Proofs.Ytaklchehamkgcaa
