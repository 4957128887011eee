/-
  blocks.Check, blocks.lastToGrow; the verifier's castref.HeapsErr.
-/
import Derived.Test.YtigfhpffghajaaaBlkM
import Derived.Test.YtigfhpffghajaaaGen
namespace Go.Proofs.Ytigfhpffghajaaa
open Go.RowKit

set_option maxHeartbeats 400000 in
theorem bcheck_large (A : Option Addr) (n c : Nat) (w : World) (hn : 10 < n) (hm : n ≤ 9223372036854775807) :
    Calls Try.prog 16 #[.slice A n c] w fun e w' => e = .returned (.int .i64 2) ∧ w = w' := by
  go_enter Try.func16, Try.ntmps16
  go_wp2
  go_ret
  exact ⟨rfl, rfl⟩

set_option maxHeartbeats 800000 in
theorem bcheck_small (A : Option Addr) (n c : Nat) (xs : List Int) (w : World) (h : Ints w A n xs) (hn : n ≤ 10) :
    Calls Try.prog 16 #[.slice A n c] w fun e w' => e = .returned (.int .i64 (heapErr xs)) ∧ w = w' := by
  have h10 : decide (10 < (n : Int)) = false := by simp; omega
  have HL := hid h.len
  go_enter Try.func16, Try.ntmps16
  go_wp2
  go_loopg [3, 11] n (fun g u s wr => ∃ k : Nat, k ≤ n ∧ n - k ≤ g ∧ u = .int .i64 ((bk (xs.take k) : Nat) : Int) ∧ s = .int .i64 k ∧ w = wr ∧ RgsTo xs k)
  case atStart => exact ⟨0, Nat.zero_le _, by omega, rfl, rfl, rfl, fun j hj => absurd hj (Nat.not_lt_zero _)⟩
  case round =>
    obtain ⟨k, hk, hg, rfl, rfl, rfl, hr⟩ := hrel
    have HR := hid hr
    clear hr
    by_cases hlt : k < n
    · obtain ⟨b, o, rfl, hb, hc⟩ := h.row (by omega)
      have g1 := hc k hlt
      have hbl := bk_le xs k
      have HN := hid (bk_take (g := xs) (k := k) (by rw [HL.out]; exact hlt))
      have HNO : Hid (¬ (0 ≤ xs.getD k 0 ∧ xs.getD k 0 ≤ ((bk (xs.take k) : Nat) : Int)) → heapErr xs = 3) := fun hb => heapErr_form (by rw [HL.out]; exact hn) (fun hh => hb (hh k (by rw [HL.out]; exact hlt)))
      have HY : Hid (0 ≤ xs.getD k 0 → xs.getD k 0 ≤ ((bk (xs.take k) : Nat) : Int) → RgsTo xs (k + 1)) := fun h1 h2 => HR.out.succ h1 h2
      clear hc h HR
      generalize xs.getD k 0 = x at g1 HN HNO HY
      generalize hB : bk (xs.take k) = B at *
      have HB := hid hB
      clear hB
      by_cases h1 : x < 0
      · go_wp2
        go_ret
        exact ⟨ret_int (HNO.out (by omega)).symm, rfl⟩
      · by_cases h2 : (B : Int) < x
        · go_wp2
          go_ret
          exact ⟨ret_int (HNO.out (by omega)).symm, rfl⟩
        · by_cases h3 : x = (B : Int)
          · have h3' : (x == (B : Int)) = true := by simpa using h3
            have HN2 : Hid (bk (xs.take (k + 1)) = B + 1) := by rw [HN.out, if_pos h3]; exact rfl
            have HY2 := hid (HY.out (by omega) (by omega))
            clear h3 HN HY
            go_wp2
            go_roundg (n - (k + 1))
            case measure => omega
            case rel => exact ⟨k + 1, by omega, by omega, by rw [HN2.out]; go_num, by go_num, rfl, HY2.out⟩
          · have h3' : (x == (B : Int)) = false := by simpa using h3
            go_wp2
            go_roundg (n - (k + 1))
            case measure => omega
            case rel => exact ⟨k + 1, by omega, by omega, by rw [HN.out, if_neg h3], by go_num, rfl, HY.out (by omega) (by omega)⟩
    · have hkn : k = n := by omega
      subst hkn
      go_wp2
      go_ret
      exact ⟨ret_int (heapErr_ok (by rw [HL.out]; exact hn) (by unfold Rgs; rw [HL.out]; exact HR.out)).symm, rfl⟩

theorem bcheck_any (A : Option Addr) (n c : Nat) (xs : List Int) (w : World) (h : Ints w A n xs) (hm : n ≤ 9223372036854775807) :
    Calls Try.prog 16 #[.slice A n c] w fun e w' => e = .returned (.int .i64 (heapErr xs)) ∧ w = w' := by
  by_cases hn : 10 < n
  · refine (bcheck_large A n c w hn hm).mono ?_
    rintro e w' ⟨rfl, rfl⟩
    rw [heapErr_large (by rw [h.len]; exact hn)]
    exact ⟨rfl, rfl⟩
  · exact bcheck_small A n c xs w h (by omega)

set_option maxHeartbeats 800000 in
theorem lastToGrow_any (A : Option Addr) (n c : Nat) (xs : List Int) (w : World) (h : Ints w A n xs) (hn : n ≤ 10) (hr : Rgs xs) :
    Calls Try.prog 28 #[.slice A n c] w fun e w' => e = .returned (.int .i64 (ltg xs n)) ∧ w = w' := by
  have HL := hid h.len
  have HR := hid hr
  clear hr
  go_enter Try.func28, Try.ntmps28
  go_wp2
  go_loopg [3, 4, 9] n (fun g v u s wr => ∃ k : Nat, k ≤ n ∧ n - k ≤ g ∧ v = .int .i64 (ltg xs k) ∧ u = .int .i64 ((bk (xs.take k) : Nat) : Int) ∧ s = .int .i64 k ∧ w = wr)
  case atStart => exact ⟨0, Nat.zero_le _, by omega, rfl, rfl, rfl, rfl⟩
  case round =>
    obtain ⟨k, hk, hg, rfl, rfl, rfl, rfl⟩ := hrel
    by_cases hlt : k < n
    · obtain ⟨b, o, rfl, hb, hc⟩ := h.row (by omega)
      have g1 := hc k hlt
      have hbl := bk_le xs k
      have HN := hid (bk_take (g := xs) (k := k) (by rw [HL.out]; exact hlt))
      have hx := HR.out k (by rw [HL.out]; exact hlt)
      have HY := hid (@ltg_yes xs k)
      have HNO := hid (@ltg_no xs k)
      have hbd := ltg_bd xs k
      clear hc h
      generalize xs.getD k 0 = x at *
      generalize hB : bk (xs.take k) = B at *
      have HB := hid hB
      clear hB
      generalize hT : ltg xs k = T at *
      have HT := hid hT
      clear hT
      by_cases h2 : x < (B : Int)
      · go_wp2
        go_roundg (n - (k + 1))
        case measure => omega
        case rel => exact ⟨k + 1, by omega, by omega, by rw [HY.out h2], by rw [HN.out, if_neg (by omega)], by go_num, rfl⟩
      · go_wp2
        go_roundg (n - (k + 1))
        case measure => omega
        case rel => exact ⟨k + 1, by omega, by omega, by rw [HNO.out h2], by rw [HN.out, if_pos (by omega)]; go_num, by go_num, rfl⟩
    · have hkn : k = n := by omega
      subst hkn
      go_wp2
      go_ret
      exact ⟨rfl, rfl⟩

set_option maxHeartbeats 400000 in
theorem heapsErr_large (A : Option Addr) (n c : Nat) (w : World) (hn : 10 < n) (hm : n ≤ 9223372036854775807) :
    Calls Try.prog 15 #[.slice A n c] w fun e w' => e = .returned (.int .i64 2) ∧ w = w' := by
  go_enter Try.func15, Try.ntmps15
  go_wp2
  go_ret
  exact ⟨rfl, rfl⟩

set_option maxHeartbeats 1600000 in
theorem heapsErr_small (A : Option Addr) (n c : Nat) (xs : List Int) (w : World) (h : Ints w A n xs) (hn : n ≤ 10) (hnc : n ≤ c) (hbd : ∀ y ∈ xs, y ≤ 9223372036854775807) :
    Calls Try.prog 15 #[.slice A n c] w fun e w' => e = .returned (.int .i64 (heapErr xs)) ∧ w = w' := by
  have h10 : decide (10 < (n : Int)) = false := by simp; omega
  have HL := hid h.len
  have HI := hid h
  have HBD := hid hbd
  clear hbd
  go_enter Try.func15, Try.ntmps15
  go_wp2
  go_loopg [10] n (fun g s wr => ∃ k : Nat, k ≤ n ∧ n - k ≤ g ∧ s = .int .i64 k ∧ w = wr ∧ RgsTo xs k)
  case atStart => exact ⟨0, Nat.zero_le _, by omega, rfl, rfl, fun j hj => absurd hj (Nat.not_lt_zero _)⟩
  case round =>
    obtain ⟨k, hk, hg, rfl, rfl, hr⟩ := hrel
    have HR := hid hr
    clear hr
    by_cases hlt : k < n
    · obtain ⟨b, o, rfl, hb, hc⟩ := h.row (by omega)
      have g1 := hc k hlt
      have HM := hid (mem_rgs (g := xs) (k := k) (by rw [HL.out]; exact hk) HR.out)
      have HNO : Hid (¬ (0 ≤ xs.getD k 0 ∧ xs.getD k 0 ≤ ((bk (xs.take k) : Nat) : Int)) → heapErr xs = 3) := fun hb => heapErr_form (by rw [HL.out]; exact hn) (fun hh => hb (hh k (by rw [HL.out]; exact hlt)))
      have HY : Hid (0 ≤ xs.getD k 0 → xs.getD k 0 ≤ ((bk (xs.take k) : Nat) : Int) → RgsTo xs (k + 1)) := fun h1 h2 => HR.out.succ h1 h2
      have hxm := HBD.out _ (getD_mem (show k < xs.length by rw [HL.out]; exact hlt))
      clear hc h HR
      generalize xs.getD k 0 = x at g1 HNO HY hxm
      generalize hB : bk (xs.take k) = B at *
      have HB := hid hB
      clear hB
      by_cases h1 : x < 0
      · go_wp2
        go_ret
        exact ⟨ret_int (HNO.out (by omega)).symm, rfl⟩
      · by_cases h2 : 0 < x
        · have hx0 : 0 ≤ x - 1 := by omega
          by_cases h3 : x - 1 ∈ xs.take k
          · have hd : decide (x - 1 ∈ xs.take k) = true := decide_eq_true h3
            have hx := (HM.out (x - 1)).1 h3
            clear h3
            go_wp2_with (go_at_call 33; refine (contains_any _ k _ (xs.take k) (x - 1) _ (HI.out.take (by omega)) (by omega)).mono ?_; rintro e w' ⟨rfl, rfl⟩)
            go_roundg (n - (k + 1))
            case measure => omega
            case rel => exact ⟨k + 1, by omega, by omega, by go_num, rfl, HY.out (by omega) (by omega)⟩
          · have hd : decide (x - 1 ∈ xs.take k) = false := decide_eq_false h3
            have HX := hid (fun hh => h3 ((HM.out (x - 1)).2 hh))
            clear h3
            go_wp2_with (go_at_call 33; refine (contains_any _ k _ (xs.take k) (x - 1) _ (HI.out.take (by omega)) (by omega)).mono ?_; rintro e w' ⟨rfl, rfl⟩)
            go_ret
            exact ⟨ret_int (HNO.out (fun hh => HX.out (by omega))).symm, rfl⟩
        · go_wp2
          go_roundg (n - (k + 1))
          case measure => omega
          case rel => exact ⟨k + 1, by omega, by omega, by go_num, rfl, HY.out (by omega) (by omega)⟩
    · have hkn : k = n := by omega
      subst hkn
      go_wp2
      go_ret
      exact ⟨ret_int (heapErr_ok (by rw [HL.out]; exact hn) (by unfold Rgs; rw [HL.out]; exact HR.out)).symm, rfl⟩

theorem heapsErr_any (A : Option Addr) (n c : Nat) (xs : List Int) (w : World) (h : Ints w A n xs) (hm : n ≤ 9223372036854775807) (hnc : n ≤ c) (hbd : ∀ y ∈ xs, y ≤ 9223372036854775807) :
    Calls Try.prog 15 #[.slice A n c] w fun e w' => e = .returned (.int .i64 (heapErr xs)) ∧ w = w' := by
  by_cases hn : 10 < n
  · refine (heapsErr_large A n c w hn hm).mono ?_
    rintro e w' ⟨rfl, rfl⟩
    rw [heapErr_large (by rw [h.len]; exact hn)]
    exact ⟨rfl, rfl⟩
  · exact heapsErr_small A n c xs w h (by omega) hnc hbd

end Go.Proofs.Ytigfhpffghajaaa
