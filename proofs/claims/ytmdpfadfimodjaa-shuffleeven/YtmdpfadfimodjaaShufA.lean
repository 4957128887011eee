/-
  shuffle.Check, castref.LotsErr, shuffle.Deal.
-/
import Derived.Test.YtmdpfadfimodjaaShufM
import Derived.Test.YtmdpfadfimodjaaArr
import Derived.Test.YtmdpfadfimodjaaLit
namespace Go.Proofs.Ytmdpfadfimodjaa
open Go.RowKit

theorem not_lots {xs : List Int} {k : Nat} (hk : k < xs.length) (h : xs.getD k 0 < 0 ∨ (k : Int) < xs.getD k 0) : ¬ IsLots xs := fun hl => by
  have := hl k hk
  omega

set_option maxHeartbeats 400000 in
theorem shCheck_large (A : Option Addr) (n c : Nat) (w : World) (hn : 10 < n) :
    Calls Try.prog 12 #[.slice A n c] w fun e w' => e = .returned (.int .i64 2) ∧ w = w' := by
  have hI : (n : Int) > 10 := by omega
  go_enter Try.func12, Try.ntmps12
  go_wp2
  go_ret
  exact ⟨rfl, rfl⟩

set_option maxHeartbeats 400000 in
theorem shCheck_small (A : Option Addr) (n c : Nat) (xs : List Int) (w : World) (h : Ints w A n xs) (hn : n ≤ 10) :
    Calls Try.prog 12 #[.slice A n c] w fun e w' => e = .returned (.int .i64 (lotsErr xs)) ∧ w = w' := by
  go_enter Try.func12, Try.ntmps12
  go_wp2
  go_loopg [10] n (fun g s wr => ∃ k : Nat, k ≤ n ∧ n - k ≤ g ∧ s = .int .i64 k ∧ wr = w ∧ ∀ j, j < k → 0 ≤ xs.getD j 0 ∧ xs.getD j 0 ≤ j)
  case atStart => exact ⟨0, Nat.zero_le _, by omega, rfl, rfl, fun j hj => absurd hj (Nat.not_lt_zero _)⟩
  case round =>
    obtain ⟨k, hk, hg, rfl, rfl, hall⟩ := hrel
    have HA := hid hall
    clear hall
    have HL := hid h.len
    by_cases hlt : k < n
    · obtain ⟨b, o, rfl, hb, hc⟩ := h.row (by omega)
      have g1 := hc k hlt
      have HBAD := hid (fun hx => lotsErr_bad (l := xs) (by rw [HL.out]; exact hn) (not_lots (by rw [HL.out]; exact hlt) hx))
      clear hc h
      generalize hxk : xs.getD k 0 = x at g1 HBAD
      have HX := hid hxk
      clear hxk
      by_cases h0 : x < 0
      · go_wp2
        go_ret
        rw [HBAD.out (Or.inl h0)]
        exact ⟨rfl, rfl⟩
      · obtain ⟨m, rfl⟩ := Int.eq_ofNat_of_zero_le (show 0 ≤ x by omega)
        clear h0
        by_cases h1 : k < m
        · go_wp2
          go_ret
          rw [HBAD.out (Or.inr (by omega))]
          exact ⟨rfl, rfl⟩
        · go_wp2
          go_roundg (n - (k + 1))
          case measure => omega
          case rel =>
            refine ⟨k + 1, by omega, by omega, by go_num, rfl, fun j hj => ?_⟩
            by_cases e : j = k
            · subst e
              rw [HX.out]
              omega
            · exact HA.out j (by omega)
    · have hkn : k = n := by omega
      subst hkn
      go_wp2
      go_ret
      rw [lotsErr_good (by rw [HL.out]; exact hn) (fun j hj => HA.out j (by rw [HL.out] at hj; exact hj))]
      exact ⟨rfl, rfl⟩

/-- shuffle.Check, whatever comes in. -/
theorem shCheck_any (A : Option Addr) (n c : Nat) (xs : List Int) (w : World) (h : Ints w A n xs) :
    Calls Try.prog 12 #[.slice A n c] w fun e w' => e = .returned (.int .i64 (lotsErr xs)) ∧ w = w' := by
  by_cases hn : 10 < n
  · rw [lotsErr_large (by rw [h.len]; exact hn)]
    exact shCheck_large A n c w hn
  · exact shCheck_small A n c xs w h (by omega)

/-! ### Deal -/

/-- A block of ints known whole, as a slice of the call's own. -/
theorem Arr.own {w : World} {base g n : Nat} {xs : List Int} (h : Arr w g xs) (hb : base ≤ g) (hl : xs.length = n) (hn : n ≤ 1000000) : OwnInts w base (.slice (some ⟨g, 0, none⟩) n n) xs := by
  subst hl
  exact own_of_rowIs h rfl (fun j _ => rfl) hb (by unfold maxLen; omega)

/-- One step of Deal in a row that is made beforehand. -/
theorem deal_step {p : List Int} {n m : Nat} (hp : p.length < n) (hm : m ≤ p.length) :
    ((p ++ List.replicate (n - p.length) (0 : Int)).set p.length ((p ++ List.replicate (n - p.length) (0 : Int)).getD m 0)).set m (p.length : Int) = dealStep p (m : Int) ++ List.replicate (n - (p.length + 1)) (0 : Int) := by
  refine ext_getD (by simp [length_dealStep]; omega) fun j hj => ?_
  simp only [List.length_set, List.length_append, List.length_replicate] at hj
  have hX : ∀ i, (p ++ List.replicate (n - p.length) (0 : Int)).getD i 0 = if i < p.length then p.getD i 0 else 0 := by
    intro i
    by_cases hi : i < p.length
    · rw [if_pos hi]; simp [List.getD_eq_getElem?_getD, hi, List.getElem?_append_left]
    · rw [if_neg hi, List.getD_eq_getElem?_getD, List.getElem?_append_right (by omega)]
      rw [List.getElem?_replicate]
      split <;> rfl
  have hY : (dealStep p (m : Int) ++ List.replicate (n - (p.length + 1)) (0 : Int)).getD j 0 = if j < p.length + 1 then (dealStep p (m : Int)).getD j 0 else 0 := by
    by_cases hi : j < p.length + 1
    · rw [if_pos hi, List.getD_eq_getElem?_getD, List.getD_eq_getElem?_getD, List.getElem?_append_left (by rw [length_dealStep]; exact hi)]
    · rw [if_neg hi, List.getD_eq_getElem?_getD, List.getElem?_append_right (by rw [length_dealStep]; omega), List.getElem?_replicate]
      split <;> rfl
  rw [hY, getD_set, getD_set, hX, hX]
  simp only [List.length_set, List.length_append, List.length_replicate]
  by_cases e : j = m
  · rw [if_pos ⟨e, by omega⟩, if_pos (by omega), getD_dealStep hm (by omega), if_pos e]
  · rw [if_neg (fun h => e h.1)]
    by_cases e2 : j = p.length
    · rw [if_pos ⟨e2, by omega⟩, if_pos (by omega), getD_dealStep hm (by omega), if_neg e, if_pos e2]
      rw [if_pos (by omega)]
    · rw [if_neg (fun h => e2 h.1)]
      by_cases e3 : j < p.length
      · rw [if_pos e3, if_pos (by omega), getD_dealStep hm (by omega), if_neg e, if_neg e2]
      · rw [if_neg e3, if_neg (by omega)]

theorem shDeal_bad (A : Option Addr) (n c : Nat) (xs : List Int) (w : World) (h : Ints w A n xs) (he : lotsErr xs ≠ 0) :
    Calls Try.prog 8 #[.slice A n c] w (RetOwnE w [] (lotsErr xs)) := by
  have HC := hid (shCheck_any A n c xs w h)
  have hz : (lotsErr xs != 0) = true := by simpa using he
  clear h he
  generalize lotsErr xs = E at *
  go_enter Try.func8, Try.ntmps8
  go_wp2_with fail
  refine HC.out.mono ?_
  rintro e w' ⟨rfl, rfl⟩
  go_wp2
  go_ret2
  exact ⟨_, rfl, OwnInts.nil _ _, Below.refl _ _⟩

set_option maxHeartbeats 1000000 in
theorem shDeal_good (A : Option Addr) (n c : Nat) (l : List Int) (w : World) (h : Ints w A n l) (he : lotsErr l = 0) :
    Calls Try.prog 8 #[.slice A n c] w (RetOwnE w (dealt l) 0) := by
  obtain ⟨hn, hl⟩ := lotsErr_ok.1 he
  rw [h.len] at hn
  have HL := hid h.len
  have HC := hid (shCheck_any A n c l w h)
  rw [he] at HC
  have HI := hid h
  have HLT := hid hl
  have hmk := fun W => run_make_row' (P := Try.prog) 22 3 (.int .i64 0) 8 Try.underlying22 infoInt rfl .i64 .i64 n (by omega) (by omega) W
  clear h he hl
  go_enter Try.func8, Try.ntmps8
  go_wp2_with fail
  refine HC.out.mono ?_
  rintro e w' ⟨rfl, rfl⟩
  clear HC
  go_wp2_with fail
  go_loopg [18] n (fun g s wr => ∃ k : Nat, k ≤ n ∧ n - k ≤ g ∧ s = .int .i64 k ∧ Arr wr w.heap.size (dealt (l.take k) ++ List.replicate (n - k) (0 : Int)) ∧ Below w.heap.size w wr)
  case atStart => exact ⟨0, Nat.zero_le _, by omega, rfl, Arr.made w n, below_alloc _ _⟩
  case round =>
    obtain ⟨k, hk, hg, rfl, harr, hbel⟩ := hrel
    have HR := hid harr
    have HB := hid hbel
    clear harr hbel
    have HD : Hid ((dealt (l.take k)).length = k) := by rw [length_dealt, List.length_take, HL.out]; exact Nat.min_eq_left hk
    by_cases hlt : k < n
    · obtain ⟨b, o, rfl, hb, hc⟩ := HI.out.row (by omega)
      have g1 : wr.cell? ⟨b, o + k, none⟩ = some (.int .i64 (l.getD k 0)) := (HB.out.cell (p := ⟨b, o + k, none⟩) hb).trans (hc k hlt)
      have hx := HLT.out k (by rw [HL.out]; exact hlt)
      have HX : Hid (dealt (l.take (k + 1)) = dealStep (dealt (l.take k)) (l.getD k 0)) := by rw [take_snoc (by rw [HL.out]; exact hlt), dealt_snoc]; exact rfl
      clear hc
      generalize l.getD k 0 = x at g1 hx HX
      obtain ⟨m, rfl⟩ := Int.eq_ofNat_of_zero_le hx.1
      have hm : m ≤ k := by omega
      clear hx
      have HS : Hid (((dealt (l.take k) ++ List.replicate (n - k) (0 : Int)).set k ((dealt (l.take k) ++ List.replicate (n - k) (0 : Int)).getD m 0)).set m (k : Int) = dealt (l.take (k + 1)) ++ List.replicate (n - (k + 1)) (0 : Int)) := by
        rw [HX.out]
        have := deal_step (p := dealt (l.take k)) (n := n) (m := m) (by rw [HD.out]; exact hlt) (by rw [HD.out]; exact hm)
        rw [HD.out] at this
        exact this
      have HXL : Hid ((dealt (l.take k) ++ List.replicate (n - k) (0 : Int)).length = n) := by
        rw [List.length_append, HD.out, List.length_replicate]; exact Nat.add_sub_cancel' hk
      generalize dealt (l.take k) ++ List.replicate (n - k) (0 : Int) = X at HR HS HXL
      have g2 := HR.out.cell (j := m) (by rw [HXL.out]; omega)
      have g3 := HR.out.cell (j := k) (by rw [HXL.out]; exact hlt)
      have f2 := HR.out.frozen m
      have f3 := HR.out.frozen k
      generalize X.getD m 0 = y at g2 HS
      generalize X.getD k 0 = z at g3
      have g4 := (HR.out.set k y).cell (j := m) (by rw [List.length_set, HXL.out]; omega)
      generalize (X.set k y).getD m 0 = z2 at g4
      have f4 := (HR.out.set k y).frozen m
      go_wp2
      go_roundg (n - (k + 1))
      case measure => omega
      case rel => exact ⟨k + 1, by omega, by omega, by go_num, by rw [← HS.out]; exact (HR.out.set k y).set m k, (HB.out.setCell (Nat.le_refl _) _).setCell (Nat.le_refl _) _⟩
    · have hkn : k = n := by omega
      subst hkn
      have HT : Hid (dealt (l.take k) ++ List.replicate (k - k) (0 : Int) = dealt l) := by
        rw [Nat.sub_self, List.replicate_zero, List.append_nil, List.take_of_length_le (by rw [HL.out]; exact Nat.le_refl _)]; exact rfl
      rw [HT.out] at HR
      have HDL : Hid ((dealt l).length = k) := by rw [length_dealt]; exact HL.out
      go_wp2
      go_ret2
      exact ⟨_, rfl, HR.out.own (Nat.le_refl _) HDL.out (by omega), HB.out⟩

/-- shuffle.Deal, whatever comes in. -/
theorem shDeal_any (A : Option Addr) (n c : Nat) (xs : List Int) (w : World) (h : Ints w A n xs) :
    Calls Try.prog 8 #[.slice A n c] w (RetOwnE w (dealX xs) (lotsErr xs)) := by
  by_cases he : lotsErr xs = 0
  · rw [dealX_ok he, he]
    exact shDeal_good A n c xs w h he
  · rw [dealX_bad he]
    exact shDeal_bad A n c xs w h he

end Go.Proofs.Ytmdpfadfimodjaa
