/-
  perm.Sign: the parity of the inversions.
-/
import Derived.Test.YtcaenahhfhbiaaaSgn
import Derived.Test.YtcaenahhfhbiaaaOrder
namespace Go.Proofs.Ytcaenahhfhbiaaa
open Go.RowKit

theorem take_drop_snoc {p : List Int} {a m : Nat} (h : a + m < p.length) : (p.drop a).take (m + 1) = (p.drop a).take m ++ [p.getD (a + m) 0] := by
  rw [take_snoc (by rw [List.length_drop]; omega)]
  congr 1
  simp [List.getD_eq_getElem?_getD]

/-- The pairs counted after m rounds of the inner loop. -/
def cntUpto (p : List Int) (k m : Nat) : Nat := invUpto p k + ((p.drop (k + 1)).take m).countP (fun y => decide (y < p.getD k 0))
theorem cntUpto_yes {p : List Int} {k m : Nat} (h : k + 1 + m < p.length) (hlt : p.getD (k + 1 + m) 0 < p.getD k 0) : sg (cntUpto p k (m + 1)) = - sg (cntUpto p k m) := by
  unfold cntUpto
  rw [take_drop_snoc h, List.countP_append, ← Nat.add_assoc]
  simp only [List.countP_cons, List.countP_nil, hlt, decide_true, if_true, Nat.zero_add]
  exact sg_succ _
theorem cntUpto_no {p : List Int} {k m : Nat} (h : k + 1 + m < p.length) (hlt : ¬ p.getD (k + 1 + m) 0 < p.getD k 0) : cntUpto p k (m + 1) = cntUpto p k m := by
  unfold cntUpto
  rw [take_drop_snoc h, List.countP_append]
  simp only [List.countP_cons, List.countP_nil, hlt, decide_false, Nat.zero_add]
  simp
theorem cntUpto_end {p : List Int} {k m : Nat} (h : k + 1 + m = p.length) : cntUpto p k m = invUpto p (k + 1) := by
  unfold cntUpto
  rw [List.take_of_length_le (by rw [List.length_drop]; omega)]
  rfl

set_option maxHeartbeats 1600000 in
theorem sign_ok (A : Option Addr) (n c : Nat) (p : List Int) (w : World) (hA : Ints w A n p) (hp : permErr p = 0) (hc : n ≤ c) (hc2 : c ≤ 9223372036854775807) :
    Calls Try.prog 26 #[.slice A n c] w (RetOrder w (sgn p) 0) := by
  have hn10 : n ≤ 10 := by rw [← hA.len]; exact (permErr_ok.1 hp).1
  go_enter Try.func26, Try.ntmps26
  go_wp2_with fail
  refine (check_any A n c p _ hA (by omega)).mono ?_
  rintro e w1 ⟨rfl, hb1⟩
  have hA1 := hA.keep hb1
  have HB1 := hid hb1
  have HL := hid hA.len
  clear hA hb1
  go_wp2_with fail
  go_loopg [5, 17] n (fun g u s wr => ∃ k : Nat, k ≤ n ∧ n - k ≤ g ∧ s = .int .i64 k ∧ u = .int .i64 (sg (invUpto p k)) ∧ w1 = wr)
  case atStart => exact ⟨0, Nat.zero_le _, by omega, rfl, rfl, rfl⟩
  case round =>
    obtain ⟨k, hk, hg, rfl, rfl, rfl⟩ := hrel
    by_cases hlt : k < n
    · obtain ⟨b, o, rfl, hb, hcell⟩ := hA1.row (by omega)
      have g1 := hcell k hlt
      have HC := hid hcell
      have HS0 : Hid (cntUpto p k 0 = invUpto p k) := by unfold cntUpto; simp [Hid]
      generalize hx : p.getD k 0 = x at g1
      have HX := hid hx
      clear hcell hx
      by_cases hck : c = k + 1
      · subst hck
        go_wp2
        go_loopg [5, 27] 0 (fun g u s wr => s = .int .i64 0 ∧ u = .int .i64 (sg (invUpto p k)) ∧ w1 = wr)
        case atStart => exact ⟨rfl, rfl, rfl⟩
        case round =>
          obtain ⟨rfl, rfl, rfl⟩ := hrel
          have HE : Hid (invUpto p k = invUpto p (k + 1)) := by
            have := cntUpto_end (p := p) (k := k) (m := 0) (by rw [HL.out]; omega)
            rw [HS0.out] at this
            exact this
          go_wp2
          go_roundg (n - (k + 1))
          case measure => omega
          case rel => exact ⟨k + 1, by omega, by omega, by go_num, by rw [HE.out], rfl⟩
      · go_wp2
        go_loopg [5, 27] (n - (k + 1)) (fun g u s wr => ∃ m : Nat, m ≤ n - (k + 1) ∧ n - (k + 1) - m ≤ g ∧ s = .int .i64 m ∧ u = .int .i64 (sg (cntUpto p k m)) ∧ w1 = wr)
        case atStart => exact ⟨0, Nat.zero_le _, by omega, rfl, by rw [HS0.out], rfl⟩
        case round =>
          obtain ⟨m, hm, hgm, rfl, rfl, rfl⟩ := hrel
          by_cases hmlt : m < n - (k + 1)
          · have g2 := HC.out (k + 1 + m) (by omega)
            have hbd := sg_bd (cntUpto p k m)
            have HYES := hid (cntUpto_yes (p := p) (k := k) (m := m) (by rw [HL.out]; omega))
            have HNO := hid (cntUpto_no (p := p) (k := k) (m := m) (by rw [HL.out]; omega))
            rw [HX.out] at HYES HNO
            rw [show o + (k + 1 + m) = o + (k + 1) + m by omega] at g2
            generalize p.getD (k + 1 + m) 0 = y at g2 HYES HNO
            have HNO2 : Hid (¬ y < x → sg (cntUpto p k (m + 1)) = sg (cntUpto p k m)) := fun h => by rw [HNO.out h]
            clear HNO
            generalize sg (cntUpto p k m) = s at HYES HNO2 hbd ⊢
            by_cases hyx : y < x
            · go_wp2
              go_roundg (n - (k + 1) - (m + 1))
              case measure => omega
              case rel => exact ⟨m + 1, by omega, by omega, by go_num, by rw [HYES.out hyx], rfl⟩
            · go_wp2
              go_roundg (n - (k + 1) - (m + 1))
              case measure => omega
              case rel => exact ⟨m + 1, by omega, by omega, by go_num, by rw [HNO2.out hyx], rfl⟩
          · have hme : m = n - (k + 1) := by omega
            have HE := hid (cntUpto_end (p := p) (k := k) (m := m) (by rw [HL.out]; omega))
            rw [HE.out]
            have HM := hid hme
            clear hme
            go_wp2
            go_roundg (n - (k + 1))
            case measure => omega
            case rel => exact ⟨k + 1, by omega, by omega, by go_num, rfl, rfl⟩
    · have hkn : k = n := by omega
      subst hkn
      have HE : Hid (sg (invUpto p k) = sgn p) := by unfold sgn; rw [inv_all, HL.out]; exact rfl
      rw [HE.out]
      go_wp2
      go_ret2
      exact ⟨rfl, HB1.out⟩

end Go.Proofs.Ytcaenahhfhbiaaa
