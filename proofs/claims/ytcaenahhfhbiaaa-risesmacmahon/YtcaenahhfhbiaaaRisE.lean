/-
  MacMahon's two tallies, reckoned; two rows of thirty-two numbers that are told apart or are the same.
-/
import Derived.Test.YtcaenahhfhbiaaaRisD
import Derived.Test.YtcaenahhfhbiaaaRankM
import Derived.Test.YtcaenahhfhbiaaaRowW
import Derived.ChangeKeysEq
namespace Go.Proofs.Ytcaenahhfhbiaaa
open Go.RowKit

/-- Of the first j orders of k numbers: how many have which number. -/
def talS (f : List Int → Nat) (l : List Int) (p : List Int) : List Int := l.set (f p) (l.getD (f p) 0 + 1)
def tal (f : List Int → Nat) (k : Nat) : Nat → List Int
  | 0 => List.replicate 32 0
  | j + 1 => talS f (tal f k j) (atL k j)
theorem length_tal (f : List Int → Nat) (k : Nat) : ∀ j, (tal f k j).length = 32
  | 0 => rfl
  | j + 1 => by rw [tal, talS, List.length_set, length_tal f k j]
theorem tal_bd (f : List Int → Nat) (k : Nat) : ∀ j v, 0 ≤ (tal f k j).getD v 0 ∧ (tal f k j).getD v 0 ≤ (j : Int)
  | 0, v => by
    have e : (List.replicate 32 (0 : Int)).getD v 0 = 0 := by
      simp only [List.getD_eq_getElem?_getD, List.getElem?_replicate]
      split <;> rfl
    show 0 ≤ (List.replicate 32 (0 : Int)).getD v 0 ∧ _
    rw [tal, e]
    omega
  | j + 1, v => by
    have h1 := tal_bd f k j v
    have h2 := tal_bd f k j (f (atL k j))
    rw [tal, talS, getD_set]
    split <;> omega
theorem mac_all {k : Nat} (hk : k < 7) : tal majN k (fact k) = tal inv k (fact k) ∧ (tal inv k (fact k)).getD 0 0 = 1 :=
  (by decide +kernel : ∀ k : Fin 7, tal majN k.val (fact k.val) = tal inv k.val (fact k.val) ∧ (tal inv k.val (fact k.val)).getD 0 0 = 1) ⟨k, hk⟩
theorem majK_half (p : List Int) : ∀ k, 2 * majK p k ≤ k * (k - 1)
  | 0 => Nat.le_refl _
  | k + 1 => by
    have h := majK_half p k
    rw [majK]
    have h3 : (k + 1) * (k + 1 - 1) = k * (k - 1) + 2 * k := by
      rcases k with _ | m
      · rfl
      · show (m + 1 + 1) * (m + 1) = (m + 1) * m + 2 * (m + 1)
        rw [Nat.mul_comm (m + 1) m, ← Nat.add_mul]
    split <;> omega
theorem six_half {k : Nat} (h : k ≤ 6) : k * (k - 1) ≤ 30 := Nat.mul_le_mul h (show k - 1 ≤ 5 by omega)
theorem majN_15 {p : List Int} (h : p.length ≤ 6) : majN p ≤ 15 := by
  have h1 := majK_half p p.length
  have h2 := six_half h
  unfold majN
  omega
theorem inv_15 {p : List Int} (hd : p.Nodup) (h : p.length ≤ 6) : inv p ≤ 15 := by
  have h1 := inv_rev hd
  have h2 := six_half h
  omega

/-! ### Rows -/
def cell32 (l : List Int) (v : Nat) : Value := .int .i64 (l.getD v 0)
theorem cell32_set (f : List Int → Nat) (l p : List Int) (hl : l.length = 32) (hf : f p < 32) (v : Nat) : (if v = f p then Value.int .i64 (l.getD (f p) 0 + 1) else cell32 l v) = cell32 (talS f l p) v := by
  unfold cell32 talS
  rw [getD_set]
  by_cases e : v = f p
  · rw [if_pos e, if_pos ⟨e, by omega⟩]
  · rw [if_neg e, if_neg (fun h => e h.1)]
def cells32 (l : List Int) : Array Value := (l.map (Value.int .i64)).toArray
theorem at_cells32 (l : List Int) (i : Nat) : (cells32 l)[i]? = (l.map (Value.int .i64))[i]? := by
  unfold cells32
  exact List.getElem?_toArray ..
theorem size_cells32 (l : List Int) : (cells32 l).size = l.length := by simp [cells32]
theorem row_keep {w w' : World} {b t n : Nat} {f : Nat → Value} (h : w.rowIs b t n f) (hb : Below w.heap.size w w') : w'.rowIs b t n f := by
  have hl := h.lt
  obtain ⟨c, h1, h2⟩ := h
  exact ⟨c, by rw [hb.block b hl]; exact h1, h2⟩
theorem row_off {w : World} {b t n a j : Nat} {f : Nat → Value} (h : w.rowIs b t n f) (hne : b ≠ a) (v : Value) : (w.setCell ⟨a, j, none⟩ v).rowIs b t n f := by
  obtain ⟨c, h1, h2⟩ := h
  exact ⟨c, by rw [Below.heap_setCell w ⟨a, j, none⟩ v b hne]; exact h1, h2⟩
theorem ints_off {w : World} {a b n : Nat} {xs : List Int} (h : Ints w (some ⟨b, 0, none⟩) n xs) (hne : 0 < n → b ≠ a) (j : Nat) (v : Value) : Ints (w.setCell ⟨a, j, none⟩ v) (some ⟨b, 0, none⟩) n xs := by
  refine ⟨h.len, fun hp => ?_⟩
  obtain ⟨b', o', e, hb, hc⟩ := h.row hp
  injection e with e
  injection e with e1 e2
  subst e1
  subst e2
  refine ⟨b, 0, rfl, by simpa [World.setCell] using hb, fun t ht => ?_⟩
  rw [← hc t ht]
  exact World.cell?_of_block (a := ⟨b, 0 + t, none⟩) (Below.heap_setCell w ⟨a, j, none⟩ v b (hne hp))
theorem row_32 {w : World} {b : Nat} {l : List Int} (hl : l.length = 32) (h : w.rowIs b 42 32 (cell32 l)) : w.heap[b]? = some (.cells (cells32 l) 42 (0, 0)) := by
  obtain ⟨c, h1, h2, h3⟩ := h
  have e : c = cells32 l := by
    apply Array.ext_getElem?
    intro i
    rw [at_cells32, List.getElem?_map]
    rcases Nat.lt_or_ge i 32 with hi | hi
    · rw [h3 i hi, List.getElem?_eq_getElem (by omega)]
      unfold cell32
      rw [List.getD_eq_getElem?_getD, List.getElem?_eq_getElem (by omega)]
      rfl
    · rw [Array.getElem?_eq_none (by omega), List.getElem?_eq_none (by omega)]
      rfl
  rw [h1, e]
theorem zero_32 (w : World) (c : Array Value) (h : c = (List.replicate 32 (Value.int .i64 0)).toArray) : (w.alloc (.cells c 42)).rowIs w.heap.size 42 32 (cell32 (List.replicate 32 0)) := by
  subst h
  refine World.rowIs_alloc w _ _ _ fun i hi => ?_
  have hi' : i < 32 := by simpa using hi
  clear hi
  iterate 32
    rcases i with _ | i
    · rfl
  omega
theorem eqItems_same (l : List Int) (W : World) : ∀ is : List Nat, (∀ i, i ∈ is → i < l.length) → (Op.eqItems 9999 3 (Try.prog.cellsOf 3) (cells32 l) (cells32 l) is).run Try.prog W = .ok true W
  | [], _ => by simp [Op.eqItems]
  | i :: is, h => by
    have hi := h i List.mem_cons_self
    have hc : Try.prog.cellsOf 3 = 1 := by kernel_rfl
    have hx : (cells32 l)[i]? = some (.int .i64 (l.getD i 0)) := by
      rw [at_cells32, List.getElem?_map, List.getD_eq_getElem?_getD, List.getElem?_eq_getElem hi]
      rfl
    have hp : (Go.part 3 (cells32 l) (i * Try.prog.cellsOf 3)).run Try.prog W = .ok (.int .i64 (l.getD i 0)) W := by
      rw [hc, Nat.mul_one]
      simp [Go.part, isAgg, run_underlying Try.underlying3, hx]
    have ih := eqItems_same l W is (fun j hj => h j (List.mem_cons_of_mem _ hj))
    simp only [Op.eqItems, Sem.run_bind, hp, Result.andThen_ok, run_equalIn_int W 9998 3 .i64 .i64 _ _ Try.underlying3]
    simpa using ih
theorem run_same32 (l : List Int) (hl : l.length = 32) (W : World) : (Op.equalIn 10000 42 (.agg (cells32 l)) (.agg (cells32 l))).run Try.prog W = .ok true W := by
  obtain ⟨i, hi⟩ : ∃ i, Try.prog.info? 3 = some i := Option.isSome_iff_exists.1 (by kernel_rfl)
  rw [show (10000 : Nat) = 9999 + 1 from rfl, run_equalIn_array W 9999 (cells32 l) (cells32 l) Try.underlying42 hi]
  exact eqItems_same l W _ (fun i hi => by rw [hl]; exact List.mem_range.1 hi)

end Go.Proofs.Ytcaenahhfhbiaaa
