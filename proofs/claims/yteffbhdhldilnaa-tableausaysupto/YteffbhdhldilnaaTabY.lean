/-
  tableau.Of and tableau.Back, whatever comes in: one contract each.
-/
import Derived.Test.YteffbhdhldilnaaTabJ
import Derived.Test.YteffbhdhldilnaaTabQ
import Derived.Test.YteffbhdhldilnaaTabV
import Derived.Test.YteffbhdhldilnaaAll
namespace Go.Proofs.Yteffbhdhldilnaa
open Go.RowKit

def RetOfAny (w : World) (xs : List Int) (e : Ending) (w' : World) : Prop :=
  ∃ A n c A' n' c' TP TQ, e = .returned (.tuple #[.agg #[.slice A n c, .slice A' n' c'], .int .i64 (permErr xs)]) ∧ RRows w' A n TP ∧ RRows w' A' n' TQ ∧ n ≤ 10 ∧ n' ≤ 10 ∧ (permErr xs ≠ 0 → n = 0 ∧ n' = 0) ∧ (permErr xs = 0 → TP = PT xs ∧ TQ = QT xs) ∧ Below w.heap.size w w'
theorem tabOf_any (A : Option Addr) (n c : Nat) (xs : List Int) (w : World) (h : Ints w A n xs) (hm : n ≤ 9223372036854775807) :
    Calls Try.prog 9 #[.slice A n c] w (RetOfAny w xs) := by
  by_cases he : permErr xs = 0
  · refine (tabOf_ok A n c xs w h he).mono ?_
    rintro e w' ⟨B, m, d, B', m', d', rfl, h1, h2, _, _, hb⟩
    have hp := permErr_ok.1 he
    have tP := isTab_PT hp.2 hp.1
    have tQ := isTab_QT (hp.2.nodup_iff.2 (nodup_iota _)) hp.1
    exact ⟨B, m, d, B', m', d', _, _, by rw [he], h1, h2, by rw [← h1.len]; exact tP.len, by rw [← h2.len]; exact tQ.len, fun h9 => absurd he h9, fun _ => ⟨rfl, rfl⟩, hb⟩
  · refine (tabOf_bad A n c xs w h hm he).mono ?_
    rintro e w' ⟨rfl, hb⟩
    exact ⟨none, 0, 0, none, 0, 0, [], [], rfl, RRows.nil _ _, RRows.nil _ _, by omega, by omega, fun _ => ⟨rfl, rfl⟩, fun h9 => absurd h9 he, hb⟩

/-- Nothing is wrong with a pair. -/
theorem backE_zero {P Q : List (List Int)} (h : backE P Q = 0) : tabErr P = 0 ∧ tabErr Q = 0 ∧ P.map List.length = Q.map List.length := by
  unfold backE at h
  split at h
  · rename_i h1
    exact absurd h h1
  · rename_i h1
    split at h
    · rename_i h2
      exact absurd h h2
    · rename_i h2
      split at h
      · rename_i h3
        exact ⟨by omega, by omega, h3⟩
      · cases h

def RetBackAny (w : World) (P Q : List (List Int)) (e : Ending) (w' : World) : Prop :=
  ∃ A n c zs, e = .returned (.tuple #[.slice A n c, .int .i64 (backE P Q)]) ∧ Ints w' A n zs ∧ n ≤ 10 ∧ (backE P Q ≠ 0 → n = 0) ∧ (backE P Q = 0 → permErr zs = 0 ∧ PT zs = P ∧ QT zs = Q) ∧ Below w.heap.size w w'
theorem tback_any (A : Option Addr) (n c : Nat) (A' : Option Addr) (n' c' : Nat) (P Q : List (List Int)) (w : World) (h1 : RRows w A n P) (h2 : RRows w A' n' Q) (hn : n ≤ 9223372036854775807) (hn' : n' ≤ 9223372036854775807) (hL : ∀ j, (P.getD j []).length ≤ 4611686018427387904) (hL' : ∀ j, (Q.getD j []).length ≤ 4611686018427387904) :
    Calls Try.prog 10 #[.agg #[.slice A n c, .slice A' n' c']] w (RetBackAny w P Q) := by
  by_cases he : backE P Q = 0
  · obtain ⟨e1, e2, e3⟩ := backE_zero he
    have tP := tab_of_err e1
    have tQ := tab_of_err e2
    refine (tback_ok A n c A' n' c' P Q w h1 h2 tP tQ e3).mono ?_
    rintro e w' ⟨g, G, hG, rfl, hI, hb⟩
    obtain ⟨k1, k2, k3, k4⟩ := back_of_tab tP tQ e3 hG
    exact ⟨_, _, _, _, by rw [he], hI, tQ.flat, fun h9 => absurd he h9, fun _ => ⟨permErr_of k3 (by rw [k4]; exact tQ.flat), k1, k2⟩, hb⟩
  · refine (tback_bad A n c A' n' c' P Q w h1 h2 hn hn' hL hL' he).mono ?_
    rintro e w' ⟨rfl, hb⟩
    exact ⟨none, 0, 0, [], rfl, Ints.nil _ _, by omega, fun _ => rfl, fun h9 => absurd h9 he, hb⟩

end Go.Proofs.Yteffbhdhldilnaa
