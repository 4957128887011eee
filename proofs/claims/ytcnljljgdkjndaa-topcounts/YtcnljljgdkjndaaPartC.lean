/-
  parts.Turned: the sum turned (P20).
-/
import Derived.Test.YtcnljljgdkjndaaPartA
namespace Go.Proofs.Ytcnljljgdkjndaa
open Go.RowKit

/-- How many numbers are greater than i. -/
def above (xs : List Int) (i : Nat) : Nat := xs.countP (fun x => decide ((i : Int) < x))
/-- P20. -/
def conj (xs : List Int) : List Int := (List.range (xs.getD 0 0).toNat).map (fun i => ((above xs i : Nat) : Int))

theorem above_le (xs : List Int) (i : Nat) : above xs i ≤ xs.length := List.countP_le_length
theorem above_snoc {xs : List Int} {k : Nat} (hk : k < xs.length) (i : Nat) : above (xs.take (k + 1)) i = above (xs.take k) i + (if (i : Int) < xs.getD k 0 then 1 else 0) := by
  unfold above
  rw [take_snoc hk, List.countP_append]
  congr 1
  simp [List.countP_cons]
theorem length_conj (xs : List Int) : (conj xs).length = (xs.getD 0 0).toNat := by simp [conj]
theorem getD_conj {xs : List Int} {i : Nat} (h : i < (xs.getD 0 0).toNat) : (conj xs).getD i 0 = ((above xs i : Nat) : Int) := by
  rw [conj, List.getD_eq_getElem?_getD, List.getElem?_map, List.getElem?_range h]
  rfl

/-- What Turned has reckoned: of k numbers all, of the next one i. -/
def turnCell (xs : List Int) (k i j : Nat) : Value := .int .i64 ((above (xs.take k) j + (if j < i then 1 else 0) : Nat) : Int)
theorem turnCell_zero (xs : List Int) (j : Nat) : turnCell xs 0 0 j = .int .i64 0 := by simp [turnCell, above]
theorem turnCell_step (xs : List Int) (k i j : Nat) : (if j = i then Value.int .i64 (((above (xs.take k) i : Nat) : Int) + 1) else turnCell xs k i j) = turnCell xs k (i + 1) j := by
  unfold turnCell
  by_cases h : j = i
  · subst h
    rw [if_pos rfl, if_pos (by omega)]
    rfl
  · rw [if_neg h]
    by_cases h2 : j < i
    · rw [if_pos h2, if_pos (by omega)]
    · rw [if_neg h2, if_neg (by omega)]
theorem turnCell_next {xs : List Int} {k X : Nat} (hk : k < xs.length) (hx : xs.getD k 0 = (X : Int)) (j : Nat) : turnCell xs k X j = turnCell xs (k + 1) 0 j := by
  unfold turnCell
  rw [above_snoc hk, hx]
  simp only [Nat.not_lt_zero, if_false, Nat.add_zero]
  by_cases h : j < X
  · rw [if_pos h, if_pos (by omega)]
  · rw [if_neg h, if_neg (by omega)]

set_option maxHeartbeats 800000 in
theorem turned_bad (A : Option Addr) (n c : Nat) (xs : List Int) (w : World) (h : Ints w A n xs) (hm : n ≤ 9223372036854775807) (he : partErr xs ≠ 0) :
    Calls Try.prog 53 #[.slice A n c] w fun e w' => e = .returned (.tuple #[.slice none 0 0, .int .i64 (partErr xs)]) ∧ w = w' := by
  generalize hq : partErr xs = er at *
  have he' : (er != 0) = true := by simpa using he
  have HQ := hid hq
  clear hq
  go_enter Try.func53, Try.ntmps53
  go_wp2_with fail
  refine (pcheck_any A n c xs _ h hm).mono ?_
  rintro e w' ⟨rfl, rfl⟩
  rw [HQ.out]
  go_wp2
  go_ret2
  exact ⟨rfl, rfl⟩

set_option maxHeartbeats 1600000 in
theorem turned_ok (A : Option Addr) (n c : Nat) (xs : List Int) (w : World) (h : Ints w A n xs) (hp : IsPart xs) :
    Calls Try.prog 53 #[.slice A n c] w (RetInts w (conj xs) 0) := by
  have hn : n ≤ 40 := by rw [← h.len]; exact hp.length_le
  rcases Nat.eq_zero_or_pos n with h0 | h0
  · subst h0
    have hx : xs = [] := List.eq_nil_of_length_eq_zero h.len
    subst hx
    go_enter Try.func53, Try.ntmps53
    go_wp2_with fail
    refine (pcheck_any A 0 c [] _ h (by omega)).mono ?_
    rintro e w' ⟨rfl, rfl⟩
    rw [show partErr [] = 0 by rfl]
    go_wp2
    go_ret2
    exact ⟨none, 0, 0, rfl, Below.refl _ _, Ints.nil _ _, by unfold Cap; omega⟩
  · obtain ⟨b, o, rfl, hb, hc⟩ := h.row h0
    have hlen := h.len
    have HL := hid hlen
    have HP := hid hp
    have HI := hid h
    obtain ⟨L, hL⟩ := Int.eq_ofNat_of_zero_le (show 0 ≤ xs.getD 0 0 by have := hp.ge (j := 0) (by omega); omega)
    have hL1 : L ≤ 40 := by have := hp.le (j := 0) (by omega); omega
    have g0 : w.cell? ⟨b, o, none⟩ = some (.int .i64 (L : Int)) := by have := hc 0 h0; rwa [hL, Nat.add_zero] at this
    have HX : Hid (∀ k, k < n → ∃ X : Nat, xs.getD k 0 = (X : Int) ∧ X ≤ L ∧ w.cell? ⟨b, o + k, none⟩ = some (.int .i64 (X : Int))) := by
      intro k hk
      have h1 := hp.ge (j := k) (by omega)
      have h2 := hp.mono (Nat.zero_le k) (by omega)
      obtain ⟨X, hX⟩ := Int.eq_ofNat_of_zero_le (show 0 ≤ xs.getD k 0 by omega)
      exact ⟨X, hX, by omega, by rw [hc k hk, hX]⟩
    have HLL := hid hL
    clear hc hp h hL hlen
    have hmk := fun W => run_make_row' (P := Try.prog) 44 3 (.int .i64 0) 8 Try.underlying44 infoInt rfl .i64 .i64 L (by omega) (by omega) W
    have hne : ((n : Int) == 0) = false := by simp; omega
    go_enter Try.func53, Try.ntmps53
    go_wp2_with fail
    refine (pcheck_any _ n c xs _ HI.out (by omega)).mono ?_
    rintro e w' ⟨rfl, rfl⟩
    rw [partErr_ok HP.out]
    go_wp2_with fail
    go_loopg [23] n (fun g s wr => ∃ k : Nat, k ≤ n ∧ n - k ≤ g ∧ s = .int .i64 k ∧ wr.rowIs w.heap.size 3 L (turnCell xs k 0) ∧ Below w.heap.size w wr)
    case atStart => exact ⟨0, Nat.zero_le _, by omega, rfl, (World.rowIs_made w _ L _).congr (fun j _ => by rw [turnCell_zero]), (Below.refl _ _).alloc (Nat.le_refl _) _⟩
    case round =>
      obtain ⟨k, hk, hg, rfl, hrow, hbel⟩ := hrel
      have HR := hid hrow
      have HB := hid hbel
      clear hrow hbel hmk
      by_cases hlt : k < n
      · obtain ⟨X, hX, hXL, gX⟩ := HX.out k hlt
        have gk : wr.cell? ⟨b, o + k, none⟩ = some (.int .i64 (X : Int)) := (HB.out.cell (p := ⟨b, o + k, none⟩) hb).trans gX
        have HXX := hid hX
        clear hX gX
        go_wp2
        obtain ⟨w8, hw8⟩ : ∃ w8, w8 = wr := ⟨_, rfl⟩
        rw [← hw8] at HR HB
        rw [← hw8]
        clear hw8 gk
        go_loopg [28] X (fun g s wr => ∃ i : Nat, i ≤ X ∧ X - i ≤ g ∧ s = .int .i64 i ∧ wr.rowIs w.heap.size 3 L (turnCell xs k i) ∧ Below w.heap.size w wr)
        case atStart => exact ⟨0, Nat.zero_le _, by omega, rfl, HR.out, HB.out⟩
        case round =>
          obtain ⟨i, hi, hg2, rfl, hrow, hbel⟩ := hrel
          have HR2 := hid hrow
          have HB2 := hid hbel
          clear hrow hbel HR HB
          by_cases hlt2 : i < X
          · have hiL : i < L := by omega
            have g1 : wr.cell? ⟨w.heap.size, i, none⟩ = some (.int .i64 ((above (xs.take k) i : Nat) : Int)) := by
              have := HR2.out.cell hiL
              rw [this]
              unfold turnCell
              rw [if_neg (by omega), Nat.add_zero]
            have f1 : wr.frozen? ⟨w.heap.size, i, none⟩ = false := HR2.out.frozen i
            have hab := above_le (xs.take k) i
            have hab2 : above (xs.take k) i ≤ 40 := by rw [List.length_take] at hab; omega
            have HST := hid (fun j => turnCell_step xs k i j)
            clear hab
            generalize above (xs.take k) i = a at *
            go_wp2
            go_roundg (X - (i + 1))
            case measure => omega
            case rel => exact ⟨i + 1, by omega, by omega, by go_num, (HR2.out.set i (.int .i64 ((a : Int) + 1))).congr (fun j _ => HST.out j), HB2.out.setCell (Nat.le_refl _) _⟩
          · have hiX : i = X := by omega
            subst hiX
            go_wp2
            go_roundg (n - (k + 1))
            case measure => omega
            case rel => exact ⟨k + 1, by omega, by omega, by go_num, HR2.out.congr (fun j _ => turnCell_next (by rw [HL.out]; exact hlt) HXX.out j), HB2.out⟩
      · have hkn : k = n := by omega
        subst hkn
        go_wp2
        go_ret2
        refine ⟨_, _, _, rfl, HB.out, ints_of_row HR.out (by rw [length_conj, HLL.out]; rfl) (fun j hj => ?_), by unfold Cap; omega⟩
        rw [getD_conj (by rw [HLL.out]; exact hj)]
        unfold turnCell
        rw [List.take_of_length_le (by rw [HL.out]; exact Nat.le_refl _), if_neg (by omega), Nat.add_zero]

end Go.Proofs.Ytcnljljgdkjndaa
