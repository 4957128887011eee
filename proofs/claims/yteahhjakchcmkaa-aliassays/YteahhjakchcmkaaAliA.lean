/-
  Slices of columns that are read; alias.Check, sum, due, upTo, Draw (P71, P74), castref.WeightsErr.
-/
import Derived.Test.YteahhjakchcmkaaAliM
import Derived.Test.YteahhjakchcmkaaArr
import Derived.Test.YteahhjakchcmkaaOwn
namespace Go.Proofs.Yteahhjakchcmkaa
open Go.RowKit

/-- The slice value '.slice A n c' holds the columns cs in the world w. -/
structure Cols (w : World) (A : Option Addr) (n : Nat) (cs : List (Int × Int)) : Prop where
  len : cs.length = n
  row : 0 < n → ∃ b off, A = some ⟨b, off, none⟩ ∧ b < w.heap.size ∧ ∀ j, j < n → w.cell? ⟨b, off + j * 2, none⟩ = some (.int .i64 (cut cs j)) ∧ w.cell? ⟨b, off + j * 2 + 1, none⟩ = some (.int .i64 (oth cs j))
theorem Cols.nil (w : World) (A : Option Addr) : Cols w A 0 [] := ⟨rfl, fun h => absurd h (by omega)⟩
theorem Cols.keep {w w' : World} {A : Option Addr} {n : Nat} {cs : List (Int × Int)} (h : Cols w A n cs) (hb : Below w.heap.size w w') : Cols w' A n cs := by
  refine ⟨h.len, fun hn => ?_⟩
  obtain ⟨b, off, e, hlt, hc⟩ := h.row hn
  exact ⟨b, off, e, Nat.lt_of_lt_of_le hlt hb.size, fun j hj => ⟨(hb.cell (p := ⟨b, off + j * 2, none⟩) hlt).trans (hc j hj).1, (hb.cell (p := ⟨b, off + j * 2 + 1, none⟩) hlt).trans (hc j hj).2⟩⟩
theorem Cols.drewN {w : World} {A : Option Addr} {n : Nat} {cs : List (Int × Int)} (h : Cols w A n cs) (k : Nat) : Cols (w.drewN k) A n cs := h.keep (below_drewN (Below.refl _ _) k)

set_option maxHeartbeats 1600000 in
theorem asum_any (A : Option Addr) (n c : Nat) (ws : List Int) (w : World) (hI : Ints w A n ws) (hw : ∀ j, j < ws.length → 0 ≤ ws.getD j 0 ∧ ws.getD j 0 ≤ 100) (hn : n ≤ 12) :
    Calls Try.prog 15 #[.slice A n c] w fun e w' => e = .returned (.int .i64 ws.sum) ∧ w = w' := by
  have HL := hid hI.len
  have HS := hid hw
  clear hw
  go_enter Try.func15, Try.ntmps15
  go_wp2
  go_loopg [3, 5, 8] n (fun g u _ z wr => ∃ k : Nat, k ≤ n ∧ n - k ≤ g ∧ u = .int .i64 ((ws.take k).sum) ∧ z = .int .i64 (k : Int) ∧ w = wr)
  case atStart => exact ⟨0, by omega, by omega, rfl, rfl, rfl⟩
  case round =>
    obtain ⟨k, hk, hg, rfl, rfl, rfl⟩ := hrel
    by_cases hlt : k < n
    · obtain ⟨b, o, rfl, hb, hc⟩ := hI.row (by omega)
      have g1 := hc k hlt
      have hkl : k < ws.length := by rw [HL.out]; exact hlt
      have HM : Hid ((ws.take (k + 1)).sum = (ws.take k).sum + ws.getD k 0) := by rw [Hid, take_snoc hkl, List.sum_append]; simp
      have h3 := sum_take_bd HS.out (n := k) (by omega)
      have h4 := HS.out k hkl
      have hkI : (k : Int) < (n : Int) := by omega
      clear hc hI hkl
      generalize (ws.take k).sum = x at *
      generalize ws.getD k 0 = y at *
      go_wp2
      go_roundg (n - (k + 1))
      case measure => omega
      case rel => exact ⟨k + 1, by omega, by omega, by rw [HM.out], by go_num, rfl⟩
    · obtain rfl : k = n := by omega
      have HE : Hid (ws.take k = ws) := by rw [← HL.out]; exact List.take_length
      go_wp2
      go_ret
      exact ⟨by rw [HE.out]; rfl, rfl⟩

set_option maxHeartbeats 1600000 in
theorem aCheck_any (A : Option Addr) (n c : Nat) (ws : List Int) (w : World) (hI : Ints w A n ws) :
    Calls Try.prog 10 #[.slice A n c] w fun e w' => e = .returned (.int .i64 (alErr ws)) ∧ w = w' := by
  have hl := hI.len
  have HI := hid hI
  clear hI
  by_cases h1 : n < 1
  · have HE : Hid (alErr ws = 2) := alErr_large (by omega)
    obtain rfl : n = 0 := by omega
    clear hl
    go_enter Try.func10, Try.ntmps10
    go_wp2
    go_ret
    exact ⟨by rw [HE.out]; rfl, rfl⟩
  · by_cases h2 : 12 < n
    · have HE : Hid (alErr ws = 2) := alErr_large (by omega)
      clear hl
      go_enter Try.func10, Try.ntmps10
      go_wp2
      go_ret
      exact ⟨by rw [HE.out]; rfl, rfl⟩
    · have HN : Hid (¬ (ws.length < 1 ∨ 12 < ws.length)) := by rw [Hid]; omega
      have HL := hid hl
      clear hl
      go_enter Try.func10, Try.ntmps10
      go_wp2
      go_loopg [4, 15] n (fun g _ s wr => ∃ k : Nat, k ≤ n ∧ n - k ≤ g ∧ s = .int .i64 k ∧ w = wr ∧ ∀ j, j < k → alIn (ws.getD j 0) = true)
      case atStart => exact ⟨0, Nat.zero_le _, by omega, rfl, rfl, fun j hj => absurd hj (Nat.not_lt_zero _)⟩
      case round =>
        obtain ⟨k, hk, hg, rfl, rfl, hall⟩ := hrel
        have HA := hid hall
        clear hall
        by_cases hlt : k < n
        · obtain ⟨b, o, rfl, hb, hc⟩ := HI.out.row (by omega)
          have g1 := hc k hlt
          have HR : Hid (alIn (ws.getD k 0) = false → alErr ws = 1) := fun h => alErr_arg HN.out (j := k) (by rw [HL.out]; exact hlt) h
          have HY : Hid (alIn (ws.getD k 0) = true → ∀ j, j < k + 1 → alIn (ws.getD j 0) = true) := fun h j hj => by
            by_cases e : j = k
            · subst e; exact h
            · exact HA.out j (by omega)
          clear hc HA
          generalize ws.getD k 0 = x at *
          by_cases c1 : x < 0
          · have HX := hid (HR.out (decide_eq_false (by omega)))
            go_wp2
            go_ret
            exact ⟨by rw [HX.out]; rfl, rfl⟩
          · by_cases c2 : 100 < x
            · have HX := hid (HR.out (decide_eq_false (by omega)))
              go_wp2
              go_ret
              exact ⟨by rw [HX.out]; rfl, rfl⟩
            · have HX := hid (HY.out (decide_eq_true (by omega)))
              go_wp2
              go_roundg (n - (k + 1))
              case measure => omega
              case rel => exact ⟨k + 1, by omega, by omega, by go_num, rfl, HX.out⟩
        · obtain rfl : k = n := by omega
          have HAW : Hid (ws.all alIn = true) := all_alIn (by rw [HL.out]; exact HA.out)
          have HB : Hid (∀ j, j < ws.length → 0 ≤ ws.getD j 0 ∧ ws.getD j 0 ≤ 100) := fun j hj => of_decide_eq_true (HA.out j (by rw [← HL.out]; exact hj))
          clear HA
          by_cases h0 : ws.sum = 0
          · have HX : Hid (alErr ws = 5) := alErr_zero HN.out HAW.out h0
            have H0 := hid h0
            clear h0
            go_wp2_with fail
            refine (asum_any _ _ _ ws _ HI.out HB.out (by omega)).mono ?_
            rintro e w' ⟨rfl, rfl⟩
            rw [H0.out]
            go_wp2
            go_ret
            exact ⟨by rw [HX.out]; rfl, rfl⟩
          · have HX : Hid (alErr ws = 0) := alErr_ok HN.out HAW.out h0
            have hne : (ws.sum == 0) = false := by simpa using h0
            clear h0
            go_wp2_with fail
            refine (asum_any _ _ _ ws _ HI.out HB.out (by omega)).mono ?_
            rintro e w' ⟨rfl, rfl⟩
            generalize ws.sum = s at *
            go_wp2
            go_ret
            exact ⟨by rw [HX.out]; rfl, rfl⟩

/-- The sum of weights that are let in, else nothing. -/
def alTot (ws : List Int) : Int := if alErr ws = 0 then ws.sum else 0
theorem alTot_ok {ws : List Int} (h : alErr ws = 0) : alTot ws = ws.sum := if_pos h
theorem alTot_bad {ws : List Int} {e : Int} (h : alErr ws = e) (he : e ≠ 0) : alTot ws = 0 := if_neg (by rw [h]; exact he)
def RetWE (ws : List Int) (w : World) (e : Ending) (w' : World) : Prop := e = .returned (.tuple #[.int .i64 (alTot ws), .int .i64 (alErr ws)]) ∧ w = w'
set_option maxHeartbeats 1600000 in
theorem weightsErr_any (A : Option Addr) (n c : Nat) (ws : List Int) (w : World) (hI : Ints w A n ws) :
    Calls Try.prog 9 #[.slice A n c] w (RetWE ws w) := by
  have hl := hI.len
  have HI := hid hI
  clear hI
  by_cases h1 : n < 1
  · have HE : Hid (alErr ws = 2) := alErr_large (by omega)
    obtain rfl : n = 0 := by omega
    clear hl
    go_enter Try.func9, Try.ntmps9
    go_wp2
    go_ret2
    exact ⟨by rw [alTot_bad HE.out (by decide), HE.out]; rfl, rfl⟩
  · have hz : ((n : Int) == 0) = false := by rw [beq_eq_false_iff_ne]; omega
    by_cases h2 : 12 < n
    · have HE : Hid (alErr ws = 2) := alErr_large (by omega)
      clear hl
      go_enter Try.func9, Try.ntmps9
      go_wp2
      go_ret2
      exact ⟨by rw [alTot_bad HE.out (by decide), HE.out]; rfl, rfl⟩
    · have HN : Hid (¬ (ws.length < 1 ∨ 12 < ws.length)) := by rw [Hid]; omega
      have HL := hid hl
      clear hl
      go_enter Try.func9, Try.ntmps9
      go_wp2
      go_loopg [4, 6, 17] n (fun g u _ s wr => ∃ k : Nat, k ≤ n ∧ n - k ≤ g ∧ u = .int .i64 ((ws.take k).sum) ∧ s = .int .i64 k ∧ w = wr ∧ ∀ j, j < k → alIn (ws.getD j 0) = true)
      case atStart => exact ⟨0, Nat.zero_le _, by omega, rfl, rfl, rfl, fun j hj => absurd hj (Nat.not_lt_zero _)⟩
      case round =>
        obtain ⟨k, hk, hg, rfl, rfl, rfl, hall⟩ := hrel
        have HA := hid hall
        clear hall
        by_cases hlt : k < n
        · obtain ⟨b, o, rfl, hb, hc⟩ := HI.out.row (by omega)
          have g1 := hc k hlt
          have hkl : k < ws.length := by rw [HL.out]; exact hlt
          have HR : Hid (alIn (ws.getD k 0) = false → alErr ws = 1) := fun h => alErr_arg HN.out (j := k) hkl h
          have HY : Hid (alIn (ws.getD k 0) = true → ∀ j, j < k + 1 → alIn (ws.getD j 0) = true) := fun h j hj => by
            by_cases e : j = k
            · subst e; exact h
            · exact HA.out j (by omega)
          have HM : Hid ((ws.take (k + 1)).sum = (ws.take k).sum + ws.getD k 0) := by rw [Hid, take_snoc hkl, List.sum_append]; simp
          have h3 := sum_take_part (fun j hj => of_decide_eq_true (HA.out j hj)) (Nat.le_of_lt hkl)
          clear hc HA hkl
          generalize (ws.take k).sum = y at *
          generalize ws.getD k 0 = x at *
          by_cases c1 : x < 0
          · have HX := hid (HR.out (decide_eq_false (by omega)))
            go_wp2
            go_ret2
            exact ⟨by rw [alTot_bad HX.out (by decide), HX.out]; rfl, rfl⟩
          · by_cases c2 : 100 < x
            · have HX := hid (HR.out (decide_eq_false (by omega)))
              go_wp2
              go_ret2
              exact ⟨by rw [alTot_bad HX.out (by decide), HX.out]; rfl, rfl⟩
            · have HX := hid (HY.out (decide_eq_true (by omega)))
              go_wp2
              go_roundg (n - (k + 1))
              case measure => omega
              case rel => exact ⟨k + 1, by omega, by omega, by rw [HM.out], by go_num, rfl, HX.out⟩
        · obtain rfl : k = n := by omega
          have HAW : Hid (ws.all alIn = true) := all_alIn (by rw [HL.out]; exact HA.out)
          have HE : Hid (ws.take k = ws) := by rw [← HL.out]; exact List.take_length
          rw [HE.out]
          clear HA
          by_cases h0 : ws.sum = 0
          · have HX : Hid (alErr ws = 5) := alErr_zero HN.out HAW.out h0
            rw [h0]
            clear h0
            go_wp2
            go_ret2
            exact ⟨by rw [alTot_bad HX.out (by decide), HX.out]; rfl, rfl⟩
          · have HX : Hid (alErr ws = 0) := alErr_ok HN.out HAW.out h0
            have hne : (ws.sum == 0) = false := by simpa using h0
            have HT : Hid (alTot ws = ws.sum) := alTot_ok HX.out
            clear h0
            generalize ws.sum = s at *
            go_wp2
            go_ret2
            exact ⟨by rw [HT.out, HX.out]; rfl, rfl⟩

/-- What a draw hands out: P74. -/
def pick2 (x y a z : Int) : Int := if x < y then a else z
def RetDr (x er : Int) (w : World) (e : Ending) (w' : World) : Prop := e = .returned (.tuple #[.int .i64 x, .int .i64 er]) ∧ w = w'

set_option maxHeartbeats 1600000 in
theorem aDraw_ok (A : Option Addr) (n c at_ : Nat) (x : Int) (cs : List (Int × Int)) (w : World) (hC : Cols w A n cs) (hn : n ≤ 12) (ha : at_ < n) :
    Calls Try.prog 8 #[.slice A n c, .int .i64 (at_ : Int), .int .i64 x] w (RetDr (pick2 x (cut cs at_) at_ (oth cs at_)) 0 w) := by
  obtain ⟨b, off, rfl, hb, hc⟩ := hC.row (by omega)
  obtain ⟨g1, g2⟩ := hc at_ ha
  have haI : (at_ : Int) < (n : Int) := by omega
  have hn0 : 0 < n := by omega
  clear hc hC
  generalize cut cs at_ = y at *
  generalize oth cs at_ = z at *
  by_cases h : x < y
  · have HP : Hid (pick2 x y at_ z = at_) := if_pos h
    go_enter Try.func8, Try.ntmps8
    go_wp2
    go_ret2
    exact ⟨by rw [HP.out]; rfl, rfl⟩
  · have HP : Hid (pick2 x y at_ z = z) := if_neg h
    go_enter Try.func8, Try.ntmps8
    go_wp2
    go_ret2
    exact ⟨by rw [HP.out]; rfl, rfl⟩
theorem aDraw_large (A : Option Addr) (n c : Nat) (a x : Int) (w : World) (hn : n < 1 ∨ 12 < n) :
    Calls Try.prog 8 #[.slice A n c, .int .i64 a, .int .i64 x] w (RetDr 0 2 w) := by
  rcases hn with hn | hn
  · go_enter Try.func8, Try.ntmps8
    go_wp2
    go_ret2
    exact ⟨rfl, rfl⟩
  · go_enter Try.func8, Try.ntmps8
    go_wp2
    go_ret2
    exact ⟨rfl, rfl⟩
theorem aDraw_arg (A : Option Addr) (n c : Nat) (a x : Int) (w : World) (h1 : 1 ≤ n) (h2 : n ≤ 12) (ha : a < 0 ∨ (n : Int) ≤ a) :
    Calls Try.prog 8 #[.slice A n c, .int .i64 a, .int .i64 x] w (RetDr 0 1 w) := by
  rcases ha with ha | ha
  · go_enter Try.func8, Try.ntmps8
    go_wp2
    go_ret2
    exact ⟨rfl, rfl⟩
  · have h3 : ¬ a < 0 := by omega
    go_enter Try.func8, Try.ntmps8
    go_wp2
    go_ret2
    exact ⟨rfl, rfl⟩
end Go.Proofs.Yteahhjakchcmkaa
