/-
  slices.Clone at []int: the same numbers in new memory.
-/
import Derived.Test.YtaklchehamkgcaaGen
import Derived.Lib.SliceRun
namespace Go.Proofs.Ytaklchehamkgcaa
open Go.RowKit

theorem cells_of_ints {w : World} {ad : Addr} {n : Nat} {xs : List Int} (h : Ints w (some ad) n xs) : ∀ j u, (xs.map (Value.int .i64))[j]? = some u → w.cell? (ad.add j) = some u := by
  intro j u hu
  have hj : j < xs.length := by
    rcases Nat.lt_or_ge j xs.length with hlt | hge
    · exact hlt
    · rw [List.getElem?_eq_none (by simpa using hge)] at hu
      cases hu
  obtain ⟨b, o, e, _, hc⟩ := h.row (by rw [← h.len]; omega)
  injection e with e
  subst e
  have ha : (⟨b, o, none⟩ : Addr).add j = ⟨b, o + j, none⟩ := by unfold Addr.add; split <;> simp_all
  rw [ha, hc j (by rw [← h.len]; exact hj)]
  rw [List.getElem?_map, List.getElem?_eq_getElem hj] at hu
  rw [List.getD_eq_getElem?_getD, List.getElem?_eq_getElem hj]
  exact hu

/-- 'out = append(out, xs...)', out the call's own, xs not nil. -/
theorem wpList_appNB {ops : Array Oper} {rest : List Oper} {o : Oper} {a : Act} {Q : Exit → Act → World → Prop} (W : World) (hgd : o.guard = none) (s x : Operand)
    (ho : o.op = .call { callee := .builtin .append, args := #[s, x], argTypes := #[22, 22] })
    (base : Nat) (v : Value) (xs : List Int) (hs : a.eval s = v) (ad : Addr) (n c : Nat) (ys : List Int) (hx : a.eval x = .slice (some ad) n c) (hown : OwnInts W base v xs) (hI : Ints W (some ad) n ys)
    (hlen : xs.length + n ≤ 17592186044416) (hbase : base ≤ W.heap.size)
    (h : ∀ v' w', OwnInts w' base v' (xs ++ ys) → W.grownBy w' v.ownBlock → Below base W w' → wpList Try.prog ops Q rest (a.put o.dst v') w') :
    wpList Try.prog ops Q (o :: rest) a W := by
  obtain ⟨i0, hi, hz0, hz1, hz2⟩ := info_parts infoInt
  refine wpList_append_own _ hgd s x 22 ho base 3 i0 (.int .i64 0) 1 8 Try.underlying22 hi hz0 hz1 hz2 rfl (by decide) v xs.length (xs.map (Value.int .i64)) hs hown
    ad n c (ys.map (Value.int .i64)) hx (by rw [List.length_map, hI.len, Nat.mul_one]) (cells_of_ints hI) (by intro u hu; obtain ⟨y, _, rfl⟩ := List.mem_map.1 hu; rfl) (by unfold maxLen; omega) (by omega) hbase ?_
  intro v' w' h1 h2 _
  refine h v' w' ?_ h2 ?_
  · unfold OwnInts
    rw [List.length_append, List.map_append, hI.len]
    exact h1
  · refine ⟨h2.os, h2.tape, h2.output, h2.size, fun k hk => h2.block k (by omega) (fun e => ?_)⟩
    have := World.ownsRow.lt hown k e.symm
    omega

theorem wpList_appN {ops : Array Oper} {rest : List Oper} {o : Oper} {a : Act} {Q : Exit → Act → World → Prop} (W : World) (hgd : o.guard = none) (s x : Operand)
    (ho : o.op = .call { callee := .builtin .append, args := #[s, x], argTypes := #[22, 22] })
    (base : Nat) (v : Value) (xs : List Int) (hs : a.eval s = v) (ad : Addr) (n c : Nat) (ys : List Int) (hx : a.eval x = .slice (some ad) n c) (hown : OwnInts W base v xs) (hI : Ints W (some ad) n ys)
    (hlen : xs.length + n ≤ 1000000000000) (hbase : base ≤ W.heap.size)
    (h : ∀ v' w', OwnInts w' base v' (xs ++ ys) → W.grownBy w' v.ownBlock → Below base W w' → wpList Try.prog ops Q rest (a.put o.dst v') w') :
    wpList Try.prog ops Q (o :: rest) a W := wpList_appNB W hgd s x ho base v xs hs ad n c ys hx hown hI (Nat.le_trans hlen (by omega)) hbase h

set_option maxHeartbeats 800000 in
theorem clone_big (A : Option Addr) (n c : Nat) (xs : List Int) (w : World) (h : Ints w A n xs) (hn : n ≤ 17592186044416) :
    Calls Try.prog 23 #[.slice A n c] w (RetOwn w xs) := by
  rcases A with _ | ad
  · have hn0 : n = 0 := by
      rcases Nat.eq_zero_or_pos n with h0 | h0
      · exact h0
      · obtain ⟨b, o, e, _⟩ := h.row h0
        cases e
    subst hn0
    have hxs : xs = [] := List.eq_nil_of_length_eq_zero h.len
    subst hxs
    have heq := fun W => Lib.run_eql_slice_nil (P := Try.prog) W 22 3 none 0 c 0 0 Try.underlying22
    simp only [Option.isNone_none] at heq
    go_enter Try.func23, Try.ntmps23
    go_wp2
    go_ret
    exact ⟨_, rfl, OwnInts.nil _ _, Below.refl _ _⟩
  · have heq := fun W => Lib.run_eql_slice_nil (P := Try.prog) W 22 3 (some ad) n c 0 0 Try.underlying22
    simp only [Option.isNone_some] at heq
    go_enter Try.func23, Try.ntmps23
    go_wp2_with (at_builtin; refine wpList_appNB _ rfl (.tmp 5) (.tmp 6) rfl w.heap.size _ [] rfl ad n c xs rfl (World.ownsRow_made w #[] 0 (Nat.le_refl _) (Nat.zero_le _) rfl) (h.keep (below_alloc _ _)) (by simp; omega) (by simp) ?_)
    intro v' w1 hown1 _ hbel1
    have HO1 := hid hown1
    have HB1 := hid ((below_alloc w _).trans hbel1)
    clear hown1 hbel1 heq
    go_wp2
    go_ret
    exact ⟨_, rfl, HO1.out, HB1.out⟩

theorem clone_any (A : Option Addr) (n c : Nat) (xs : List Int) (w : World) (h : Ints w A n xs) (hn : n ≤ 1000000) :
    Calls Try.prog 23 #[.slice A n c] w (RetOwn w xs) := clone_big A n c xs w h (by omega)

theorem below_own {B base : Nat} {a b c : World} {v : Value} {xs : List Int} (h : Below B a b) (ho : OwnInts b base v xs) (hB : B ≤ base) (hBa : B ≤ a.heap.size) (k : b.grownBy c v.ownBlock) : Below B a c :=
  h.trans ⟨k.os, k.tape, k.output, k.size, fun i hi => k.block i (Nat.lt_of_lt_of_le hi (Nat.le_trans hBa h.size)) (fun e => by have := World.ownsRow.lt ho i e.symm; omega)⟩

end Go.Proofs.Ytaklchehamkgcaa
