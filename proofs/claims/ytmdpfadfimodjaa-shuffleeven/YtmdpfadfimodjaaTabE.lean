/-
  slices.EqualFunc at rows of rows, castkeep.sameRows, castref.SamePair.
-/
import Derived.Test.YtmdpfadfimodjaaGrid
import Derived.Test.YtmdpfadfimodjaaGen
namespace Go.Proofs.Ytmdpfadfimodjaa
open Go.RowKit

/-- Row by row alike. -/
def sameBy (p : List Int → List Int → Bool) : List (List Int) → List (List Int) → Bool
  | [], [] => true
  | a :: T, b :: U => p a b && sameBy p T U
  | _, _ => false
theorem sameBy_len {p : List Int → List Int → Bool} : ∀ {T U : List (List Int)}, T.length ≠ U.length → sameBy p T U = false
  | [], [], h => absurd rfl h
  | [], _ :: _, _ => rfl
  | _ :: _, [], _ => rfl
  | a :: T, b :: U, h => by
    rw [sameBy, sameBy_len (T := T) (U := U) (fun e => h (by simp [e])), Bool.and_false]
theorem sameBy_not {p : List Int → List Int → Bool} : ∀ {T U : List (List Int)} {j : Nat}, j < T.length → p (T.getD j []) (U.getD j []) = false → sameBy p T U = false
  | [], _, _, h, _ => absurd h (Nat.not_lt_zero _)
  | _ :: _, [], _, _, _ => rfl
  | a :: T, b :: U, 0, _, h => by
    have h' : p a b = false := h
    rw [sameBy, h', Bool.false_and]
  | a :: T, b :: U, j + 1, hj, h => by
    rw [sameBy, sameBy_not (T := T) (U := U) (j := j) (by simpa using hj) (by simpa using h), Bool.and_false]
theorem sameBy_all {p : List Int → List Int → Bool} : ∀ {T U : List (List Int)}, T.length = U.length → (∀ j, j < T.length → p (T.getD j []) (U.getD j []) = true) → sameBy p T U = true
  | [], [], _, _ => rfl
  | [], _ :: _, h, _ => by simp at h
  | _ :: _, [], h, _ => by simp at h
  | a :: T, b :: U, h, hall => by
    have h0 : p a b = true := hall 0 (by simp)
    rw [sameBy, h0, Bool.true_and]
    exact sameBy_all (by simpa using h) (fun j hj => by simpa using hall (j + 1) (by simpa using hj))
theorem sameBy_eq : ∀ (T U : List (List Int)), sameBy (fun a b => decide (a = b)) T U = decide (T = U)
  | [], [] => rfl
  | [], _ :: _ => rfl
  | _ :: _, [] => rfl
  | a :: T, b :: U => by
    rw [sameBy, sameBy_eq T U]
    by_cases h1 : a = b
    · by_cases h2 : T = U
      · simp [h1, h2]
      · simp [h1, h2]
    · simp [h1]

/-- What a function that compares two rows does. -/
def CmpBy (F : Nat) (p : List Int → List Int → Bool) (L : Nat) : Prop := ∀ (A1 : Option Addr) (n c : Nat) (A2 : Option Addr) (m d : Nat) (xs ys : List Int) (w : World), Ints w A1 n xs → Ints w A2 m ys → Cap n c → Cap m d → n ≤ L → m ≤ L →
  Calls Try.prog F #[.slice A1 n c, .slice A2 m d] w fun e w' => e = .returned (.bool (p xs ys)) ∧ Below w.heap.size w w'

theorem RRows.at {w : World} {A : Option Addr} {n : Nat} {T : List (List Int)} (h : RRows w A n T) {j : Nat} (hj : j < n) : ∃ b off Aj nj cj, A = some ⟨b, off, none⟩ ∧ w.cell? ⟨b, off + j, none⟩ = some (.slice Aj nj cj) ∧ Ints w Aj nj (T.getD j []) ∧ Cap nj cj := by
  obtain ⟨b, off, e, _, hc⟩ := h.row (by omega)
  obtain ⟨Aj, nj, cj, h1, h2, h3, _⟩ := hc j hj
  exact ⟨b, off, Aj, nj, cj, e, h1, h2, h3⟩
theorem RRows.at0 {w : World} {A : Option Addr} {n : Nat} {T : List (List Int)} (h : RRows w A n T) {j : Nat} (hj : j < n) : ∃ b off Aj nj cj, A = some ⟨b, off, none⟩ ∧ w.cell? ⟨b, off + j, none⟩ = some (.slice Aj nj cj) ∧ Ints w Aj nj (T.getD j []) ∧ Cap nj cj ∧ (Aj = none → cj = 0) := by
  obtain ⟨b, off, e, _, hc⟩ := h.row (by omega)
  obtain ⟨Aj, nj, cj, h1, h2, h3, h4⟩ := hc j hj
  exact ⟨b, off, Aj, nj, cj, e, h1, h2, h3, h4⟩

theorem cmpEqual : CmpBy 22 (fun a b => decide (a = b)) 1000000 := fun A1 n c A2 m d xs ys w h1 h2 _ _ hn hm => equal_bel A1 n c A2 m d xs ys w h1 h2 hn hm

set_option maxRecDepth 100000 in
set_option maxHeartbeats 1600000 in
theorem equalFunc_eq (A1 : Option Addr) (n c : Nat) (A2 : Option Addr) (m d : Nat) (T U : List (List Int)) (w : World) (h1 : RRows w A1 n T) (h2 : RRows w A2 m U) (hn : n ≤ 9223372036854775807) (hm : m ≤ 9223372036854775807)
    (hT : ∀ j, (T.getD j []).length ≤ 1000000) (hU : ∀ j, (U.getD j []).length ≤ 1000000) :
    Calls Try.prog 56 #[.slice A1 n c, .slice A2 m d, .func (.func 22) #[] #[]] w fun e w' => e = .returned (.bool (sameBy (fun a b => decide (a = b)) T U)) ∧ Below w.heap.size w w' := by
  obtain ⟨p, hp⟩ : ∃ p : List Int → List Int → Bool, p = (fun a b => decide (a = b)) := ⟨_, rfl⟩
  obtain ⟨L, hL⟩ : ∃ L : Nat, L = 1000000 := ⟨_, rfl⟩
  have HF : Hid (CmpBy 22 p L) := by rw [hp, hL]; exact cmpEqual
  rw [← hp]
  rw [← hL] at hT hU
  have H1 := hid h1
  have H2 := hid h2
  have HL1 := hid h1.len
  have HL2 := hid h2.len
  have HT := hid hT
  have HU := hid hU
  clear h1 h2 hT hU hp hL
  by_cases hnm : n = m
  · subst hnm
    go_enter Try.func56, Try.ntmps56
    go_wp2
    go_loopg [17] n (fun g t wr => ∃ i : Nat, i ≤ n ∧ n - i ≤ g ∧ t = .int .i64 (i : Int) ∧ Below w.heap.size w wr ∧ ∀ j, j < i → p (T.getD j []) (U.getD j []) = true)
    case atStart => exact ⟨0, Nat.zero_le _, by omega, rfl, Below.refl _ _, fun j hj => absurd hj (Nat.not_lt_zero _)⟩
    case round =>
      obtain ⟨i, hi, hg, rfl, hbel, hall⟩ := hrel
      have HB := hid hbel
      have HA := hid hall
      clear hbel hall
      by_cases hlt : i < n
      · obtain ⟨b1, o1, Aj, nj, cj, rfl, g1, hI1, hc1⟩ := (H1.out.keep HB.out).at hlt
        obtain ⟨b2, o2, Ak, nk, ck, rfl, g2, hI2, hc2⟩ := (H2.out.keep HB.out).at hlt
        have HI1 := hid hI1
        have HI2 := hid hI2
        have HC1 := hid hc1
        have HC2 := hid hc2
        clear hI1 hI2 hc1 hc2
        go_wp2_with fail
        refine (HF.out Aj nj cj Ak nk ck _ _ _ HI1.out HI2.out HC1.out HC2.out (by rw [← HI1.out.len]; exact HT.out i) (by rw [← HI2.out.len]; exact HU.out i)).mono ?_
        rintro e w2 ⟨rfl, hb2⟩
        have HB2 := hid (below_step HB.out (Nat.le_refl _) hb2)
        clear hb2 g1 g2
        rcases hq : p (T.getD i []) (U.getD i []) with _ | _
        · have HQ := hid hq
          clear hq
          go_wp2
          go_ret
          refine ⟨?_, HB2.out⟩
          rw [sameBy_not (by rw [HL1.out]; exact hlt) HQ.out]
          rfl
        · have HQ := hid hq
          clear hq
          go_wp2
          go_roundg (n - (i + 1))
          case measure => omega
          case rel =>
            refine ⟨i + 1, by omega, by omega, by go_num, HB2.out, fun j hj => ?_⟩
            by_cases e : j = i
            · rw [e]; exact HQ.out
            · exact HA.out j (by omega)
      · have hin : i = n := by omega
        subst hin
        go_wp2
        go_ret
        refine ⟨?_, HB.out⟩
        rw [sameBy_all (by rw [HL1.out, HL2.out]) (by rw [HL1.out]; exact HA.out)]
        rfl
  · have hne : ((n : Int) != (m : Int)) = true := by simp; omega
    go_enter Try.func56, Try.ntmps56
    go_wp2
    go_ret
    refine ⟨?_, Below.refl _ _⟩
    rw [sameBy_len (by rw [HL1.out, HL2.out]; exact hnm)]
    rfl

def sameLenB (a b : List Int) : Bool := decide (a.length = b.length)
theorem cmpLen : CmpBy 57 sameLenB 9223372036854775807 := by
  intro A1 n c A2 m d xs ys w h1 h2 h3 h4 hn hm
  have e : sameLenB xs ys = decide (n = m) := by unfold sameLenB; rw [h1.len, h2.len]
  rw [e]
  clear e h1 h2
  by_cases hnm : n = m
  · subst hnm
    rw [decide_eq_true rfl]
    go_enter Try.func57, Try.ntmps57
    go_wp2
    go_ret
    exact ⟨rfl, Below.refl _ _⟩
  · have hne : ((n : Int) == (m : Int)) = false := by simp; omega
    rw [decide_eq_false hnm]
    go_enter Try.func57, Try.ntmps57
    go_wp2
    go_ret
    exact ⟨rfl, Below.refl _ _⟩

set_option maxRecDepth 100000 in
set_option maxHeartbeats 1600000 in
theorem equalFunc_len (A1 : Option Addr) (n c : Nat) (A2 : Option Addr) (m d : Nat) (T U : List (List Int)) (w : World) (h1 : RRows w A1 n T) (h2 : RRows w A2 m U) (hn : n ≤ 9223372036854775807) (hm : m ≤ 9223372036854775807)
    (hT : ∀ j, (T.getD j []).length ≤ 9223372036854775807) (hU : ∀ j, (U.getD j []).length ≤ 9223372036854775807) :
    Calls Try.prog 56 #[.slice A1 n c, .slice A2 m d, .func (.func 57) #[] #[]] w fun e w' => e = .returned (.bool (sameBy sameLenB T U)) ∧ Below w.heap.size w w' := by
  obtain ⟨p, hp⟩ : ∃ p : List Int → List Int → Bool, p = sameLenB := ⟨_, rfl⟩
  obtain ⟨L, hL⟩ : ∃ L : Nat, L = 9223372036854775807 := ⟨_, rfl⟩
  have HF : Hid (CmpBy 57 p L) := by rw [hp, hL]; exact cmpLen
  rw [← hp]
  rw [← hL] at hT hU
  have H1 := hid h1
  have H2 := hid h2
  have HL1 := hid h1.len
  have HL2 := hid h2.len
  have HT := hid hT
  have HU := hid hU
  clear h1 h2 hT hU hp hL
  by_cases hnm : n = m
  · subst hnm
    go_enter Try.func56, Try.ntmps56
    go_wp2
    go_loopg [17] n (fun g t wr => ∃ i : Nat, i ≤ n ∧ n - i ≤ g ∧ t = .int .i64 (i : Int) ∧ Below w.heap.size w wr ∧ ∀ j, j < i → p (T.getD j []) (U.getD j []) = true)
    case atStart => exact ⟨0, Nat.zero_le _, by omega, rfl, Below.refl _ _, fun j hj => absurd hj (Nat.not_lt_zero _)⟩
    case round =>
      obtain ⟨i, hi, hg, rfl, hbel, hall⟩ := hrel
      have HB := hid hbel
      have HA := hid hall
      clear hbel hall
      by_cases hlt : i < n
      · obtain ⟨b1, o1, Aj, nj, cj, rfl, g1, hI1, hc1⟩ := (H1.out.keep HB.out).at hlt
        obtain ⟨b2, o2, Ak, nk, ck, rfl, g2, hI2, hc2⟩ := (H2.out.keep HB.out).at hlt
        have HI1 := hid hI1
        have HI2 := hid hI2
        have HC1 := hid hc1
        have HC2 := hid hc2
        clear hI1 hI2 hc1 hc2
        go_wp2_with fail
        refine (HF.out Aj nj cj Ak nk ck _ _ _ HI1.out HI2.out HC1.out HC2.out (by rw [← HI1.out.len]; exact HT.out i) (by rw [← HI2.out.len]; exact HU.out i)).mono ?_
        rintro e w2 ⟨rfl, hb2⟩
        have HB2 := hid (below_step HB.out (Nat.le_refl _) hb2)
        clear hb2 g1 g2
        rcases hq : p (T.getD i []) (U.getD i []) with _ | _
        · have HQ := hid hq
          clear hq
          go_wp2
          go_ret
          refine ⟨?_, HB2.out⟩
          rw [sameBy_not (by rw [HL1.out]; exact hlt) HQ.out]
          rfl
        · have HQ := hid hq
          clear hq
          go_wp2
          go_roundg (n - (i + 1))
          case measure => omega
          case rel =>
            refine ⟨i + 1, by omega, by omega, by go_num, HB2.out, fun j hj => ?_⟩
            by_cases e : j = i
            · rw [e]; exact HQ.out
            · exact HA.out j (by omega)
      · have hin : i = n := by omega
        subst hin
        go_wp2
        go_ret
        refine ⟨?_, HB.out⟩
        rw [sameBy_all (by rw [HL1.out, HL2.out]) (by rw [HL1.out]; exact HA.out)]
        rfl
  · have hne : ((n : Int) != (m : Int)) = true := by simp; omega
    go_enter Try.func56, Try.ntmps56
    go_wp2
    go_ret
    refine ⟨?_, Below.refl _ _⟩
    rw [sameBy_len (by rw [HL1.out, HL2.out]; exact hnm)]
    rfl

end Go.Proofs.Ytmdpfadfimodjaa
