/-
  slices.Grow and Concat at []byte; slices.Min at []int.
-/
import Derived.Test.YtmdpfadfimodjaaTpA
import Derived.Test.YtmdpfadfimodjaaTabD
namespace Go.Proofs.Ytmdpfadfimodjaa
open Go.RowKit

/-- Rows of bytes that are only read. -/
structure BytRows (w : World) (A : Option Addr) (n : Nat) (T : List (List Nat)) : Prop where
  len : T.length = n
  row : 0 < n → ∃ b off, A = some ⟨b, off, none⟩ ∧ b < w.heap.size ∧ ∀ j, j < n → ∃ Aj nj cj, w.cell? ⟨b, off + j, none⟩ = some (.slice Aj nj cj) ∧ Byts w Aj nj (T.getD j []) ∧ Cap nj cj ∧ (Aj = none → cj = 0)
theorem BytRows.keep {w w' : World} {A : Option Addr} {n : Nat} {T : List (List Nat)} (h : BytRows w A n T) (hb : Below w.heap.size w w') : BytRows w' A n T := by
  refine ⟨h.len, fun hn => ?_⟩
  obtain ⟨b, off, e, hlt, hc⟩ := h.row hn
  refine ⟨b, off, e, Nat.lt_of_lt_of_le hlt hb.size, fun j hj => ?_⟩
  obtain ⟨Aj, nj, cj, h1, h2, h3, h4⟩ := hc j hj
  exact ⟨Aj, nj, cj, (hb.cell (p := ⟨b, off + j, none⟩) hlt).trans h1, h2.keep hb, h3, h4⟩
/-- Two slices, written out. -/
theorem bytRows_two (w : World) (A1 : Option Addr) (n1 c1 : Nat) (x1 : List Nat) (A2 : Option Addr) (n2 c2 : Nat) (x2 : List Nat) (t : TypeId) (h1 : Byts w A1 n1 x1) (h2 : Byts w A2 n2 x2) (k1 : Cap n1 c1) (k2 : Cap n2 c2) (z1 : A1 = none → c1 = 0) (z2 : A2 = none → c2 = 0) :
    BytRows (w.alloc (.cells #[.slice A1 n1 c1, .slice A2 n2 c2] t)) (some ⟨w.heap.size, 0, none⟩) 2 [x1, x2] := by
  have hb := below_alloc w (.cells #[.slice A1 n1 c1, .slice A2 n2 c2] t)
  refine ⟨rfl, fun _ => ⟨w.heap.size, 0, rfl, by simp, fun j hj => ?_⟩⟩
  match j, hj with
  | 0, _ => exact ⟨A1, n1, c1, by rw [cell_of_row (w.alloc _) w.heap.size 0 _ t (0, 0) (heap_alloc_new w _)]; rfl, h1.keep hb, k1, z1⟩
  | 1, _ => exact ⟨A2, n2, c2, by rw [cell_of_row (w.alloc _) w.heap.size (0 + 1) _ t (0, 0) (heap_alloc_new w _)]; rfl, h2.keep hb, k2, z2⟩
theorem rRows_two (w : World) (A1 : Option Addr) (n1 c1 : Nat) (x1 : List Int) (A2 : Option Addr) (n2 c2 : Nat) (x2 : List Int) (t : TypeId) (h1 : Ints w A1 n1 x1) (h2 : Ints w A2 n2 x2) (k1 : Cap n1 c1) (k2 : Cap n2 c2) (z1 : A1 = none → c1 = 0) (z2 : A2 = none → c2 = 0) :
    RRows (w.alloc (.cells #[.slice A1 n1 c1, .slice A2 n2 c2] t)) (some ⟨w.heap.size, 0, none⟩) 2 [x1, x2] := by
  have hb := below_alloc w (.cells #[.slice A1 n1 c1, .slice A2 n2 c2] t)
  refine ⟨rfl, fun _ => ⟨w.heap.size, 0, rfl, by simp, fun j hj => ?_⟩⟩
  match j, hj with
  | 0, _ => exact ⟨A1, n1, c1, by rw [cell_of_row (w.alloc _) w.heap.size 0 _ t (0, 0) (heap_alloc_new w _)]; rfl, h1.keep hb, k1, z1⟩
  | 1, _ => exact ⟨A2, n2, c2, by rw [cell_of_row (w.alloc _) w.heap.size (0 + 1) _ t (0, 0) (heap_alloc_new w _)]; rfl, h2.keep hb, k2, z2⟩
/-- A slice of the call's own, as one that is read, with what its capacity tells. -/
theorem OwnInts.ints0 {w : World} {base : Nat} {v : Value} {xs : List Int} (h : OwnInts w base v xs) : ∃ A c, v = .slice A xs.length c ∧ Ints w A xs.length xs ∧ Cap xs.length c ∧ (A = none → c = 0) := by
  rcases h.2 with ⟨rfl, h0⟩ | ⟨g, cap, cur, rfl, hb, hg, hc1, hc2, _⟩
  · have : xs = [] := List.eq_nil_of_length_eq_zero h0
    subst this
    exact ⟨none, 0, rfl, Ints.nil _ _, ⟨Nat.le_refl _, by omega⟩, fun _ => rfl⟩
  · exact ⟨_, _, rfl, ⟨rfl, fun _ => ⟨g, 0, rfl, (Array.getElem?_eq_some_iff.1 hg).1, fun j hj => by rw [Nat.zero_add]; exact OwnInts.cell h hj⟩⟩, ⟨hc1, by unfold maxLen at hc2; exact hc2⟩, fun e => by cases e⟩

theorem flatB_take {T : List (List Nat)} {i : Nat} (h : i < T.length) : (T.take (i + 1)).flatten = (T.take i).flatten ++ T.getD i [] := by
  rw [List.take_succ_eq_append_getElem h, List.flatten_append, List.getD_eq_getElem?_getD, List.getElem?_eq_getElem h]
  simp
theorem flatB_take_le (T : List (List Nat)) (i : Nat) : (T.take i).flatten.length ≤ T.flatten.length := by
  have h : (T.take i).flatten ++ (T.drop i).flatten = T.flatten := by rw [← List.flatten_append, List.take_append_drop]
  rw [← h, List.length_append]
  omega

def MinIs (xs : List Int) (w : World) (e : Ending) (w' : World) : Prop := ∃ m : Int, e = .returned (.int .i64 m) ∧ m ∈ xs ∧ (∀ y ∈ xs, m ≤ y) ∧ w = w'

set_option maxHeartbeats 400000 in
theorem min_any (A : Option Addr) (n c : Nat) (xs : List Int) (w : World) (h : Ints w A n xs) (h0 : 0 < n) (hn : n ≤ 1000000) :
    Calls Try.prog 26 #[.slice A n c] w (MinIs xs w) := by
  have HL := hid h.len
  obtain ⟨b, o, rfl, hb, hc⟩ := h.row h0
  have HC := hid hc
  have g0 := hc 0 h0
  rw [Nat.add_zero] at g0
  have HM0 := hid (getD_mem (show 0 < xs.length by rw [HL.out]; exact h0))
  clear h hc
  generalize hy0 : xs.getD 0 0 = y0 at g0 HM0
  have HY := hid hy0
  clear hy0
  go_enter Try.func26, Try.ntmps26
  go_wp2
  go_loopg [3, 4] n (fun gh s t wr => ∃ (k : Nat) (m : Int), 1 ≤ k ∧ k ≤ n ∧ n - k ≤ gh ∧ m ∈ xs ∧ (∀ j, j < k → m ≤ xs.getD j 0) ∧ s = .int .i64 m ∧ t = .int .i64 (k : Int) ∧ w = wr)
  case atStart =>
    refine ⟨1, y0, by omega, by omega, by omega, HM0.out, fun j hj => ?_, rfl, rfl, rfl⟩
    have : j = 0 := by omega
    subst this
    rw [HY.out]
    exact Int.le_refl _
  case round =>
    clear g0
    obtain ⟨k, m, hk1, hk, hg, hmem, hall, rfl, rfl, rfl⟩ := hrel
    have HA := hid (And.intro hmem hall)
    clear hmem hall
    by_cases hlt : k < n
    · have g1 := HC.out k hlt
      have HMK := hid (getD_mem (show k < xs.length by rw [HL.out]; exact hlt))
      generalize hx : xs.getD k 0 = x at g1 HMK
      have HX := hid hx
      clear hx
      by_cases hmx : x < m
      · go_wp2
        go_roundg (n - (k + 1))
        case measure => omega
        case rel =>
          refine ⟨k + 1, x, by omega, by omega, by omega, HMK.out, fun j hj => ?_, rfl, by go_num, rfl⟩
          by_cases e : j = k
          · subst e
            rw [HX.out]
            exact Int.le_refl _
          · have := HA.out.2 j (by omega)
            omega
      · go_wp2
        go_roundg (n - (k + 1))
        case measure => omega
        case rel =>
          refine ⟨k + 1, m, by omega, by omega, by omega, HA.out.1, fun j hj => ?_, rfl, by go_num, rfl⟩
          by_cases e : j = k
          · subst e
            rw [HX.out]
            omega
          · exact HA.out.2 j (by omega)
    · have hkn : k = n := by omega
      subst hkn
      go_wp2
      go_ret
      refine ⟨m, rfl, HA.out.1, fun y hy => ?_, rfl⟩
      obtain ⟨i, hi, rfl⟩ := mem_getD hy
      exact HA.out.2 i (by rw [HL.out] at hi; exact hi)
end Go.Proofs.Ytmdpfadfimodjaa
