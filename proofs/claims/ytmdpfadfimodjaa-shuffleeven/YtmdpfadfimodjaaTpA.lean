/-
  Bytes that are read, and bytes that the call itself has made: slices of them, appends. Nothing of the program is proved here.
-/
import Derived.Test.YtmdpfadfimodjaaTpM
import Derived.Test.YtmdpfadfimodjaaArr
import Derived.Test.YtmdpfadfimodjaaGen
import Derived.Test.YtmdpfadfimodjaaRst
import Derived.Laws.AppendOwnNone
import Derived.Laws.OwnMore
namespace Go.Proofs.Ytmdpfadfimodjaa
open Go.RowKit

theorem infoByte : (Try.prog.info? 5).map (fun i => (i.zero, i.size, i.bytes)) = some (some (.int .u8 0), 1, 1) := by kernel_rfl
def encB (n : Nat) : Value := .int .u8 (n : Int)

/-- The slice value '.slice A n c' holds the bytes xs in the world w. -/
structure Byts (w : World) (A : Option Addr) (n : Nat) (xs : List Nat) : Prop where
  len : xs.length = n
  lt : ∀ x ∈ xs, x < 256
  row : 0 < n → ∃ b off, A = some ⟨b, off, none⟩ ∧ b < w.heap.size ∧ ∀ j, j < n → w.cell? ⟨b, off + j, none⟩ = some (.int .u8 ((xs.getD j 0 : Nat) : Int))
theorem Byts.nil (w : World) (A : Option Addr) : Byts w A 0 [] := ⟨rfl, fun _ h => (List.not_mem_nil h).elim, fun h => absurd h (by omega)⟩
theorem Byts.keep {w w' : World} {A : Option Addr} {n : Nat} {xs : List Nat} (h : Byts w A n xs) (hb : Below w.heap.size w w') : Byts w' A n xs := by
  refine ⟨h.len, h.lt, fun hn => ?_⟩
  obtain ⟨b, off, e, hlt, hc⟩ := h.row hn
  exact ⟨b, off, e, Nat.lt_of_lt_of_le hlt hb.size, fun j hj => (hb.cell (p := ⟨b, off + j, none⟩) hlt).trans (hc j hj)⟩
theorem Byts.get {w : World} {A : Option Addr} {n : Nat} {xs : List Nat} (h : Byts w A n xs) {j : Nat} (hj : j < n) : xs.getD j 0 < 256 := by
  have hl := h.len
  have hj' : j < xs.length := by omega
  rw [List.getD_eq_getElem?_getD, List.getElem?_eq_getElem hj']
  exact h.lt _ (List.getElem_mem hj')
theorem byts_lit (w : World) (cs : Array Value) (t n : Nat) (xs : List Nat) (h : cs = (xs.map encB).toArray) (hn : xs.length = n) (hx : ∀ x ∈ xs, x < 256) : Byts (w.alloc (.cells cs t)) (some ⟨w.heap.size, 0, none⟩) n xs := by
  subst h
  subst hn
  refine ⟨rfl, hx, fun _ => ⟨w.heap.size, 0, rfl, by simp, fun j hj => ?_⟩⟩
  rw [cell_of_row (w.alloc _) w.heap.size (0 + j) _ t (0, 0) (heap_alloc_new w _)]
  simp [List.getD_eq_getElem?_getD, List.getElem?_eq_getElem hj, encB]
theorem lit_u8 {a : Int} (h : (Lit.int .u8 a).wf = true) : ∃ s : Nat, a = s ∧ s < 256 := by
  simp only [Lit.wf, Bool.and_eq_true, decide_eq_true_eq] at h
  have h1 : (0 : Int) ≤ a := h.1
  have h2 : a ≤ 255 := h.2
  exact ⟨a.toNat, by omega, by omega⟩
/-- A row of bytes that came in. -/
theorem IsRow.byts {w : World} {a : Option Addr} {len cap : Nat} {zs : List Int} (h : IsRow .u8 w a len cap zs) : Byts w a len ((zs.take len).map Int.toNat) ∧ len ≤ cap ∧ cap ≤ maxLen := by
  rcases h with ⟨rfl, rfl, rfl, rfl⟩ | ⟨⟨b, off, sp⟩, rfl, hl, hm, hz, hcell, hwf⟩
  · exact ⟨Byts.nil _ _, Nat.le_refl _, Nat.zero_le _⟩
  · have hlt : ∀ j, j < len → ∃ s : Nat, zs.getD j 0 = s ∧ s < 256 := fun j hj => by
      have hj' : j < zs.length := by omega
      refine lit_u8 (hwf _ ?_)
      rw [List.getD_eq_getElem?_getD, List.getElem?_eq_getElem hj']
      exact List.getElem_mem hj'
    refine ⟨⟨by rw [List.length_map, List.length_take]; omega, ?_, fun hp => ?_⟩, hl, hm⟩
    · intro x hx
      rw [List.mem_map] at hx
      obtain ⟨y, hy, rfl⟩ := hx
      obtain ⟨s, rfl, hs⟩ := lit_u8 (hwf y (List.mem_of_mem_take hy))
      simpa using hs
    · have h0 := hcell 0 (by omega)
      have hsp : sp = none := by simpa [Addr.add] using World.cell?_spot h0
      subst hsp
      refine ⟨b, off, rfl, by have := block_lt_of_cell h0; simpa [Addr.add] using this, fun j hj => ?_⟩
      have hj' : j < zs.length := by omega
      have h1 := hcell j hj'
      obtain ⟨s, e, hs⟩ := hlt j hj
      have e2 : ((zs.take len).map Int.toNat).getD j 0 = s := by
        have hjt : j < (zs.take len).length := by rw [List.length_take]; omega
        rw [List.getD_eq_getElem?_getD, List.getElem?_eq_getElem (by rw [List.length_map]; exact hjt)]
        rw [List.getD_eq_getElem?_getD, List.getElem?_eq_getElem hj'] at e
        simp only [Option.getD_some] at e
        simp [e]
      have ha : (⟨b, off, none⟩ : Addr).add j = ⟨b, off + j, none⟩ := by unfold Addr.add; split <;> simp_all
      rw [ha] at h1
      rw [e2, ← e]
      exact h1
theorem Byts.take {w : World} {A : Option Addr} {n m : Nat} {xs : List Nat} (h : Byts w A n xs) (hm : m ≤ n) : Byts w A m (xs.take m) := by
  refine ⟨by rw [List.length_take, h.len]; omega, fun x hx => h.lt x (List.mem_of_mem_take hx), fun hp => ?_⟩
  obtain ⟨b, o, e, hb, hc⟩ := h.row (by omega)
  refine ⟨b, o, e, hb, fun j hj => ?_⟩
  rw [hc j (by omega)]
  simp [List.getD_eq_getElem?_getD, hj]
theorem Byts.drop {w : World} {A : Option Addr} {n c l : Nat} {xs : List Nat} (h : Byts w A n xs) (hl : l ≤ n) (hc : n ≤ c) : Byts w (subA A c l) (n - l) (xs.drop l) := by
  refine ⟨by rw [List.length_drop, h.len], fun x hx => h.lt x (List.mem_of_mem_drop hx), fun hp => ?_⟩
  obtain ⟨b, o, rfl, hb, hcell⟩ := h.row (by omega)
  refine ⟨b, o + l, ?_, hb, fun j hj => ?_⟩
  · unfold subA
    rw [if_neg (by omega)]
    simp only [Option.map_some, Addr.add]
    by_cases h0 : l = 0
    · subst h0
      rfl
    · rw [if_neg h0]
  · rw [show o + l + j = o + (l + j) by omega, hcell (l + j) (by omega)]
    simp [List.getD_eq_getElem?_getD]
theorem Byts.bin {w : World} {A : Option Addr} {n : Nat} {xs : List Nat} (h : Byts w A n xs) (hx : ∀ j, j < n → xs.getD j 0 ≤ 1) : Bin xs := fun x hm => by
  obtain ⟨j, hj, rfl⟩ := List.getElem_of_mem hm
  have := hx j (by rw [← h.len]; exact hj)
  rw [List.getD_eq_getElem?_getD, List.getElem?_eq_getElem hj] at this
  exact this

set_option maxRecDepth 100000 in
theorem sizeByte : ∀ w, (Go.sizeOf 5).run Try.prog w = .ok 1 w := by
  exact fun _ => by kernel_rfl
theorem run_fromB (A : Option Addr) (n c l : Nat) (L : Int) (hL : L = (l : Int)) (hl : l ≤ n) (W : World) :
    (Instr.slice 23 (.slice A n c) (some (.int .i64 L)) none none).run Try.prog W = .ok (.slice (subA A c l) (n - l) (c - l)) W := by
  subst hL
  have ht' : Try.prog.underlying 23 = some (.slice (Try.prog.elem 23)) := by simp [Program.elem, Try.underlying23]
  have he : Try.prog.elem 23 = 5 := by simp [Program.elem, Try.underlying23]
  rw [run_slice_l W _ _ _ _ ht' .i64 _ (by omega) (by omega), he, sizeByte]
  simp [Result.andThen, sliced, subA]
theorem run_midB (A : Option Addr) (n c l h : Nat) (L H : Int) (hL : L = (l : Int)) (hH : H = (h : Int)) (hl : l ≤ h) (hh : h ≤ c) (W : World) :
    (Instr.slice 23 (.slice A n c) (some (.int .i64 L)) (some (.int .i64 H)) none).run Try.prog W = .ok (.slice (subA A c l) (h - l) (c - l)) W := by
  subst hL
  subst hH
  have ht' : Try.prog.underlying 23 = some (.slice (Try.prog.elem 23)) := by simp [Program.elem, Try.underlying23]
  have he : Try.prog.elem 23 = 5 := by simp [Program.elem, Try.underlying23]
  rw [run_slice_lh W _ _ _ _ ht' .i64 .i64 _ _ (by omega) (by omega) (by omega), he, sizeByte]
  simp [Result.andThen, sliced, subA]
theorem map_add0 (A : Option Addr) : A.map (·.add 0) = A := by
  cases A with
  | none => rfl
  | some a => simp [Addr.add]
theorem run_toB (A : Option Addr) (n c h : Nat) (H : Int) (hH : H = (h : Int)) (hh : h ≤ c) (W : World) :
    (Instr.slice 23 (.slice A n c) none (some (.int .i64 H)) none).run Try.prog W = .ok (.slice A h c) W := by
  subst hH
  have ht' : Try.prog.underlying 23 = some (.slice (Try.prog.elem 23)) := by simp [Program.elem, Try.underlying23]
  have he : Try.prog.elem 23 = 5 := by simp [Program.elem, Try.underlying23]
  rw [run_slice_h W _ _ _ _ ht' .i64 _ (by omega) (by omega), he, sizeByte]
  simp [Result.andThen, sliced, map_add0]
theorem run_toI (A : Option Addr) (n c h : Nat) (H : Int) (hH : H = (h : Int)) (hh : h ≤ c) (W : World) :
    (Instr.slice 22 (.slice A n c) none (some (.int .i64 H)) none).run Try.prog W = .ok (.slice A h c) W := by
  subst hH
  have ht' : Try.prog.underlying 22 = some (.slice (Try.prog.elem 22)) := by simp [Program.elem, Try.underlying22]
  have he : Try.prog.elem 22 = 3 := by simp [Program.elem, Try.underlying22]
  rw [run_slice_h W _ _ _ _ ht' .i64 _ (by omega) (by omega), he, sizeInt]
  simp [Result.andThen, sliced, map_add0]

/-- v is a slice of bytes of the call's own (its block from 'base' on), and holds xs. -/
def OwnByts (w : World) (base : Nat) (v : Value) (xs : List Nat) : Prop := w.ownsRow base 5 1 v xs.length (xs.map encB)
theorem OwnByts.nil (w : World) (base : Nat) : OwnByts w base (.slice none 0 0) [] := World.ownsRow_nil w base 5 1
theorem OwnByts.drewN {w : World} {base : Nat} {v : Value} {xs : List Nat} (h : OwnByts w base v xs) (k : Nat) : OwnByts (w.drewN k) base v xs := h
theorem OwnByts.keep {w w' : World} {base : Nat} {v : Value} {xs : List Nat} (h : OwnByts w base v xs) (hb : Below w.heap.size w w') : OwnByts w' base v xs := by
  refine ⟨h.1, ?_⟩
  rcases h.2 with h0 | ⟨g, cap, cur, hv, hg, hh, r⟩
  · exact .inl h0
  · exact .inr ⟨g, cap, cur, hv, hg, (hb.block g (Array.getElem?_eq_some_iff.1 hh).1).trans hh, r⟩
theorem OwnByts.mono {w : World} {base base' : Nat} {v : Value} {xs : List Nat} (h : OwnByts w base v xs) (hb : base' ≤ base) : OwnByts w base' v xs := by
  refine ⟨h.1, ?_⟩
  rcases h.2 with h0 | ⟨g, cap, cur, hv, hg, r⟩
  · exact .inl h0
  · exact .inr ⟨g, cap, cur, hv, Nat.le_trans hb hg, r⟩
/-- The slice as one that is only read. -/
theorem OwnByts.byts {w : World} {base : Nat} {v : Value} {xs : List Nat} (h : OwnByts w base v xs) (hx : ∀ x ∈ xs, x < 256) : ∃ A c, v = .slice A xs.length c ∧ Byts w A xs.length xs ∧ Cap xs.length c ∧ (A = none → c = 0) := by
  rcases h.2 with ⟨rfl, h0⟩ | ⟨g, cap, cur, rfl, hb, hg, hc1, hc2, _⟩
  · have : xs = [] := List.eq_nil_of_length_eq_zero h0
    subst this
    exact ⟨none, 0, rfl, Byts.nil _ _, ⟨Nat.le_refl _, by omega⟩, fun _ => rfl⟩
  · refine ⟨_, _, rfl, ⟨rfl, hx, fun _ => ⟨g, 0, rfl, (Array.getElem?_eq_some_iff.1 hg).1, fun j hj => ?_⟩⟩, ⟨hc1, by unfold maxLen at hc2; exact hc2⟩, fun e => by cases e⟩
    rw [Nat.zero_add, World.ownsRow.cellAt h j (by omega)]
    simp [List.getD_eq_getElem?_getD, List.getElem?_eq_getElem hj, encB]
theorem cells_of_byts {w : World} {ad : Addr} {n : Nat} {ys : List Nat} (h : Byts w (some ad) n ys) : ∀ j u, (ys.map encB)[j]? = some u → w.cell? (ad.add j) = some u := by
  intro j u hj
  rw [List.getElem?_map] at hj
  have hjl : j < ys.length := by
    rcases Nat.lt_or_ge j ys.length with h1 | h1
    · exact h1
    · rw [List.getElem?_eq_none h1] at hj; cases hj
  rw [List.getElem?_eq_getElem hjl] at hj
  simp only [Option.map_some, Option.some.injEq] at hj
  obtain ⟨b, off, e, hb, hc⟩ := h.row (by have := h.len; omega)
  injection e with e
  subst e
  have ha : (⟨b, off, none⟩ : Addr).add j = ⟨b, off + j, none⟩ := by unfold Addr.add; split <;> simp_all
  rw [ha, hc j (by have := h.len; omega), ← hj]
  simp [List.getD_eq_getElem?_getD, List.getElem?_eq_getElem hjl, encB]
theorem cell_oneT (W : World) (y : Int) : ∀ j u, [Value.int .u8 y][j]? = some u → (W.alloc (.cells #[.int .u8 y] 5)).cell? ((⟨W.heap.size, 0, none⟩ : Addr).add j) = some u := by
  intro j u hj
  match j, hj with
  | 0, hj => simp at hj; subst hj; simp [Addr.add]
/-- 'out = append(out, y)', out nil or the call's own: the world has laid y in a block of its own first. -/
theorem wpList_appT {ops : Array Oper} {rest : List Oper} {o : Oper} {a : Act} {Q : Exit → Act → World → Prop} (W : World) (yv : Int) (hgd : o.guard = none) (s x : Operand)
    (ho : o.op = .call { callee := .builtin .append, args := #[s, x], argTypes := #[23, 23] })
    (base : Nat) (v : Value) (xs : List Nat) (y : Nat) (hy : yv = (y : Int)) (hs : a.eval s = v) (hx : a.eval x = .slice (some ⟨W.heap.size, 0, none⟩) 1 1) (hown : OwnByts W base v xs)
    (hlen : xs.length ≤ 1000000000000) (hbase : base ≤ W.heap.size)
    (h : ∀ v' w', OwnByts w' base v' (xs ++ [y]) → Below base W w' → W.grownBy w' v.ownBlock → wpList Try.prog ops Q rest (a.put o.dst v') w') :
    wpList Try.prog ops Q (o :: rest) a (W.alloc (.cells #[.int .u8 yv] 5)) := by
  subst hy
  obtain ⟨i0, hi, hz0, hz1, hz2⟩ := info_parts infoByte
  refine wpList_append_own _ hgd s x 23 ho base 5 i0 (.int .u8 0) 1 1 Try.underlying23 hi hz0 hz1 hz2 rfl (by decide) v xs.length (xs.map encB) hs (World.ownsRow.alloc hown _)
    ⟨W.heap.size, 0, none⟩ 1 1 [.int .u8 (y : Int)] hx rfl (cell_oneT W _) (by intro u hu; simp at hu; subst hu; rfl) (by unfold maxLen; omega) (by omega) (by simp; omega) ?_
  intro v' w' h1 h2 _
  have hg : W.grownBy w' v.ownBlock := ⟨h2.os, h2.tape, h2.output, Nat.le_trans (by simp) h2.size, fun k hk hne => (h2.block k (by simp; omega) hne).trans (Below.heap_alloc W _ k hk)⟩
  refine h v' w' ?_ ?_ hg
  · unfold OwnByts
    simpa [encB] using h1
  · refine ⟨hg.os, hg.tape, hg.output, hg.size, fun k hk => hg.block k (by omega) (fun e => ?_)⟩
    have := World.ownsRow.lt hown k e.symm
    omega
/-- A row that may be nil, onto what the call made. -/
theorem wpList_appTs {ops : Array Oper} {rest : List Oper} {o : Oper} {a : Act} {Q : Exit → Act → World → Prop} (W : World) (hgd : o.guard = none) (s x : Operand)
    (ho : o.op = .call { callee := .builtin .append, args := #[s, x], argTypes := #[23, 23] })
    (base : Nat) (v : Value) (xs : List Nat) (hs : a.eval s = v) (A : Option Addr) (n c : Nat) (ys : List Nat) (hx : a.eval x = .slice A n c) (hown : OwnByts W base v xs) (hI : Byts W A n ys) (hcap : A = none → c = 0)
    (hlen : xs.length + n ≤ 1000000000000) (hbase : base ≤ W.heap.size)
    (h : ∀ v' w', OwnByts w' base v' (xs ++ ys) → Below base W w' → wpList Try.prog ops Q rest (a.put o.dst v') w') :
    wpList Try.prog ops Q (o :: rest) a W := by
  obtain ⟨i0, hi, hz0, hz1, hz2⟩ := info_parts infoByte
  rcases A with _ | ad
  · have hn0 : n = 0 := by
      rcases Nat.eq_zero_or_pos n with h0 | h0
      · exact h0
      · obtain ⟨b, o', e, _⟩ := hI.row h0
        cases e
    subst hn0
    have hc0 := hcap rfl
    subst hc0
    have hy0 : ys = [] := List.eq_nil_of_length_eq_zero hI.len
    subst hy0
    refine wpList_append_own_none hgd s x 23 ho base 5 i0 1 Try.underlying23 hi _ xs.length _ hs hown hx ?_
    refine h _ _ ?_ (Below.refl _ _)
    rw [List.append_nil]
    exact hown
  · refine wpList_append_own _ hgd s x 23 ho base 5 i0 (.int .u8 0) 1 1 Try.underlying23 hi hz0 hz1 hz2 rfl (by decide) v xs.length (xs.map encB) hs hown
      ad n c (ys.map encB) hx (by rw [List.length_map, hI.len, Nat.mul_one]) (cells_of_byts hI) (by intro u hu; obtain ⟨y, _, rfl⟩ := List.mem_map.1 hu; rfl) (by unfold maxLen; omega) (by omega) hbase ?_
    intro v' w' h1 h2 _
    refine h v' w' ?_ ?_
    · unfold OwnByts
      rw [List.length_append, List.map_append, hI.len]
      exact h1
    · refine ⟨h2.os, h2.tape, h2.output, h2.size, fun k hk => h2.block k (by omega) (fun e => ?_)⟩
      have := World.ownsRow.lt hown k e.symm
      omega
end Go.Proofs.Ytmdpfadfimodjaa
