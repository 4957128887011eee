/-
  Balanced strings joined and cut, as plain mathematics; strings.Count of one byte.
-/
import Derived.Test.YtmpipgpbmppbjaaNestM
import Derived.Test.YtmpipgpbmppbjaaLayD
namespace Go.Proofs.Ytmpipgpbmppbjaa
open Go.RowKit

theorem perr_app : ∀ (l m : List UInt8) (h j : Nat), perr l h = 0 → perr (l ++ m) (h + j) = perr m j
  | [], m, h, j, e => by
    have := perr_len [] h e
    have h0 : h = 0 := by simpa using this.1
    subst h0
    rw [List.nil_append, Nat.zero_add]
  | x :: l, m, h, j, e => by
    rw [List.cons_append]
    rcases perr_first e with ⟨rfl, e1⟩ | ⟨rfl, hh, e1⟩
    · rw [perr_open, show h + j + 1 = h + 1 + j by omega]
      exact perr_app l m (h + 1) j e1
    · rw [perr_close _ _ (by omega), show h + j - 1 = h - 1 + j by omega]
      exact perr_app l m (h - 1) j e1
/-- Begun too low, it goes below. -/
theorem perr_below : ∀ (l : List UInt8) (h j : Nat), perr l h = 0 → j < h → perr l j = 3
  | [], h, j, e, hj => by
    have := perr_len [] h e
    simp at this
    omega
  | x :: l, h, j, e, hj => by
    rcases perr_first e with ⟨rfl, e1⟩ | ⟨rfl, hh, e1⟩
    · rw [perr_open]
      exact perr_below l (h + 1) (j + 1) e1 (by omega)
    · by_cases h0 : j = 0
      · subst h0
        rfl
      · rw [perr_close _ _ (by omega)]
        exact perr_below l (h - 1) (j - 1) e1 (by omega)
/-- The height behind some of it. -/
theorem perr_cut : ∀ (l : List UInt8) (h k : Nat), perr l h = 0 → ∃ H, h + (l.take k).count 40 = H + (l.take k).count 41 ∧ perr (l.drop k) H = 0
  | l, h, 0, e => ⟨h, by simp, e⟩
  | [], h, k + 1, e => ⟨h, by simp, by simpa using e⟩
  | x :: l, h, k + 1, e => by
    rcases perr_first e with ⟨rfl, e1⟩ | ⟨rfl, hh, e1⟩
    · obtain ⟨H, h1, h2⟩ := perr_cut l (h + 1) k e1
      refine ⟨H, ?_, by simpa using h2⟩
      rw [List.take_succ_cons, List.count_cons, List.count_cons]
      simp
      omega
    · obtain ⟨H, h1, h2⟩ := perr_cut l (h - 1) k e1
      refine ⟨H, ?_, by simpa using h2⟩
      rw [List.take_succ_cons, List.count_cons, List.count_cons]
      simp
      omega
theorem count_len (l : List UInt8) (k : Nat) (x : UInt8) : (l.take k).count x ≤ l.length := Nat.le_trans List.count_le_length (by rw [List.length_take]; omega)

theorem strCount_one (s : ByteArray) (c : UInt8) (w : World) :
    Calls Try.prog 21 #[.string s, .string ⟨#[c]⟩] w fun e w' => e = .returned (.int .i64 (Lib.countByte s.data.toList c)) ∧ w' = w :=
  Go.Proofs.Any.strings_Count_one laysn138.ton138 s c w
theorem strCount_two (s : ByteArray) (w : World) (m : Int) (hs : s.size ≤ 1000000) (hm : w.cell? ⟨0, 0, none⟩ = some (.int .i64 m)) :
    Calls Try.prog 21 #[.string s, .string ⟨#[40, 41]⟩] w fun e w' => e = .returned (.int .i64 (Lib.countB s ⟨#[40, 41]⟩)) ∧ w' = w :=
  Go.Proofs.Any.strings_Count laysn138.ton138 s ⟨#[40, 41]⟩ m w (by omega) hm (by decide)
end Go.Proofs.Ytmpipgpbmppbjaa
