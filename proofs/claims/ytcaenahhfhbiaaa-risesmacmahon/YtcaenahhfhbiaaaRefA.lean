/-
  The verifier's castref.After, castref.Crossed.
-/
import Derived.Test.YtcaenahhfhbiaaaSgnSwap
import Derived.Test.YtcaenahhfhbiaaaRefE
namespace Go.Proofs.Ytcaenahhfhbiaaa
open Go.RowKit

/-! ### After -/

theorem times_take_snoc {a b : List Int} {k : Nat} (hk : k < b.length) : times a (b.take (k + 1)) = times a (b.take k) ++ [a.getD (b.getD k 0).toNat 0] := by
  rw [take_snoc hk]
  simp [times]

/-! ### Crossed -/

theorem inv_snoc (l : List Int) (x : Int) : inv (l ++ [x]) = inv l + l.countP (fun y => decide (x < y)) := by
  induction l with
  | nil => rfl
  | cons a t ih =>
    simp only [List.cons_append, inv, ih, List.countP_append, List.countP_cons, List.countP_nil]
    omega
/-- The pairs counted after m rounds of the inner loop at place k. -/
def crossUpto (p : List Int) (k m : Nat) : Nat := inv (p.take k) + (p.take m).countP (fun y => decide (p.getD k 0 < y))
theorem crossUpto_yes {p : List Int} {k m : Nat} (h : m < p.length) (hlt : p.getD k 0 < p.getD m 0) : crossUpto p k (m + 1) = crossUpto p k m + 1 := by
  unfold crossUpto
  rw [take_snoc h, List.countP_append]
  simp only [List.countP_cons, List.countP_nil, hlt, decide_true, if_true]
  omega
theorem crossUpto_no {p : List Int} {k m : Nat} (h : m < p.length) (hlt : ¬ p.getD k 0 < p.getD m 0) : crossUpto p k (m + 1) = crossUpto p k m := by
  unfold crossUpto
  rw [take_snoc h, List.countP_append]
  simp only [List.countP_cons, List.countP_nil, hlt, decide_false, Nat.zero_add]
  simp
theorem crossUpto_end {p : List Int} {k : Nat} (h : k < p.length) : crossUpto p k k = inv (p.take (k + 1)) := by
  unfold crossUpto
  rw [take_snoc h, inv_snoc]
theorem crossUpto_le (p : List Int) (k m : Nat) : crossUpto p k m ≤ inv (p.take k) + m := by
  unfold crossUpto
  have h1 := List.countP_le_length (p := fun y => decide (p.getD k 0 < y)) (l := p.take m)
  have h2 : (p.take m).length ≤ m := List.length_take_le _ _
  omega
theorem inv_le (l : List Int) : inv l ≤ l.length * l.length := by
  induction l with
  | nil => simp [inv]
  | cons a t ih =>
    simp only [inv, List.length_cons]
    have h1 := List.countP_le_length (p := fun y => decide (y < a)) (l := t)
    have : (t.length + 1) * (t.length + 1) = t.length * t.length + t.length + t.length + 1 := by rw [Nat.add_mul, Nat.mul_add]; omega
    omega

set_option maxHeartbeats 1600000 in
theorem crossed_any (A : Option Addr) (n c : Nat) (p : List Int) (w : World) (h : Ints w A n p) (hn : n ≤ 10) :
    Calls Try.prog 15 #[.slice A n c] w fun e w' => e = .returned (.int .i64 (inv p : Nat)) ∧ ∃ q, w' = w.drewN q := by
  have HL := hid h.len
  go_enter Try.func15, Try.ntmps15
  go_wp2
  go_loopg [3, 8] n (fun g u s wr => ∃ k q : Nat, k ≤ n ∧ n - k ≤ g ∧ s = .int .i64 k ∧ u = .int .i64 (inv (p.take k) : Nat) ∧ wr = w.drewN q)
  case atStart => exact ⟨0, 0, Nat.zero_le _, by omega, rfl, rfl, rfl⟩
  case round =>
    obtain ⟨k, q, hk, hg, rfl, rfl, hq⟩ := hrel
    have HQ := hid hq
    clear hq
    have hib : inv (p.take k) ≤ 100 := by
      have h1 := inv_le (p.take k)
      have h2 : (p.take k).length ≤ 10 := Nat.le_trans (List.length_take_le _ _) (by omega)
      have h3 : (p.take k).length * (p.take k).length ≤ 10 * 10 := Nat.mul_le_mul h2 h2
      omega
    by_cases hlt : k < n
    · obtain ⟨b, o, rfl, hb, hc⟩ := h.row (by omega)
      have HC := hid hc
      clear hc h
      have HZ : Hid (crossUpto p k 0 = inv (p.take k)) := by unfold crossUpto; simp [Hid]
      go_wp2
      go_loopg [3, 12] k (fun g u s wr => ∃ m q : Nat, m ≤ k ∧ k - m ≤ g ∧ s = .int .i64 m ∧ u = .int .i64 (crossUpto p k m : Nat) ∧ wr = w.drewN q)
      case atStart => exact ⟨0, q, Nat.zero_le _, by omega, rfl, by rw [HZ.out], HQ.out⟩
      case round =>
        obtain ⟨m, q', hm, hgm, rfl, rfl, hq'⟩ := hrel
        have HQ' := hid hq'
        clear hq'
        have hcb := crossUpto_le p k m
        by_cases hml : m < k
        · have hmn : m < n := by omega
          have g1 : wr.cell? ⟨b, o + m, none⟩ = some (.int .i64 (p.getD m 0)) := by rw [HQ'.out]; exact HC.out m hmn
          have g2 : wr.cell? ⟨b, o + k, none⟩ = some (.int .i64 (p.getD k 0)) := by rw [HQ'.out]; exact HC.out k hlt
          have HY := hid (crossUpto_yes (p := p) (k := k) (m := m) (by rw [HL.out]; exact hmn))
          have HN := hid (crossUpto_no (p := p) (k := k) (m := m) (by rw [HL.out]; exact hmn))
          have hmN : (m : Int) < (n : Int) := by omega
          have hkN : (k : Int) < (n : Int) := by omega
          generalize p.getD m 0 = x at g1 HY HN
          generalize p.getD k 0 = y at g2 HY HN
          by_cases hyx : y < x
          · have hd : decide (y < x) = true := by simpa using hyx
            have HYX := hid (HY.out hyx)
            go_wp2_with fail
            go_region
            go_wp2
            go_roundg (k - (m + 1))
            case measure => omega
            case rel => exact ⟨m + 1, q' + 1, by omega, by omega, by go_num, by rw [HYX.out]; go_num, by rw [HQ'.out]; rfl⟩
          · have hd : decide (y < x) = false := by simpa using hyx
            have HYX := hid (HN.out hyx)
            go_wp2_with fail
            go_region
            go_wp2
            go_roundg (k - (m + 1))
            case measure => omega
            case rel => exact ⟨m + 1, q' + 1, by omega, by omega, by go_num, by rw [HYX.out], by rw [HQ'.out]; rfl⟩
        · have hmk : m = k := by omega
          subst hmk
          have HE := hid (crossUpto_end (p := p) (show m < p.length by rw [HL.out]; exact hlt))
          rw [HE.out]
          go_wp2
          go_roundg (n - (m + 1))
          case measure => omega
          case rel => exact ⟨m + 1, q', by omega, by omega, by go_num, rfl, HQ'.out⟩
    · have hkn : k = n := by omega
      subst hkn
      have HT : Hid (p.take k = p) := List.take_of_length_le (by rw [HL.out]; exact Nat.le_refl _)
      rw [HT.out]
      go_wp2
      go_ret
      exact ⟨rfl, q, HQ.out⟩

end Go.Proofs.Ytcaenahhfhbiaaa
