/-
  castref.TurnedOf: the sum turned, as P20 says it; castlaw.alike.
-/
import Derived.Test.YteegddpoekphoaaDoorPartD
import Derived.Test.YteegddpoekphoaaDoorClone
namespace Go.Proofs.YteegddpoekphoaaDoor
open Go.RowKit

theorem alike_bel (A1 : Option Addr) (n c : Nat) (A2 : Option Addr) (m d : Nat) (xs ys : List Int) (w : World) (h1 : Ints w A1 n xs) (h2 : Ints w A2 m ys) (hn : n ≤ 1000000) (hm : m ≤ 1000000) :
    Calls Tryd.prog 12 #[.slice A1 n c, .slice A2 m d] w fun e w' => e = .returned (.bool (decide (xs = ys))) ∧ Below w.heap.size w w' := by
  have H1 := hid h1
  have H2 := hid h2
  clear h1 h2
  go_enter Tryd.func12, Tryd.ntmps12
  go_wp2_with fail
  refine (equal_bel A1 n c A2 m d xs ys _ H1.out H2.out hn hm).mono ?_
  rintro e w1 ⟨rfl, hb⟩
  have HB := hid hb
  clear hb
  go_wp2
  go_ret
  exact ⟨rfl, HB.out⟩

set_option maxHeartbeats 1600000 in
theorem turnedOf_any (A : Option Addr) (n c : Nat) (xs : List Int) (w : World) (h : Ints w A n xs) (hp : IsPart xs) :
    Calls Tryd.prog 13 #[.slice A n c] w (RetOwn w (conj xs)) := by
  have hlen := h.len
  have hn : n ≤ 40 := by rw [← hlen]; exact hp.length_le
  have HL := hid hlen
  have HP := hid hp
  obtain ⟨L, hL⟩ : ∃ L, L = (xs.getD 0 0).toNat := ⟨_, rfl⟩
  have HLC : Hid ((conj xs).length = L) := by rw [length_conj, hL]; exact rfl
  have hL40 : L ≤ 40 := by
    rcases Nat.eq_zero_or_pos n with h0 | h0
    · have : xs = [] := List.eq_nil_of_length_eq_zero (by omega)
      rw [hL, this]
      simp
    · have := hp.le (j := 0) (by omega)
      omega
  have HEND : Hid (above xs L = 0) := by
    rcases Nat.eq_zero_or_pos n with h0 | h0
    · have h1 := above_le xs L
      exact show above xs L = 0 by omega
    · have h1 := (above_iff hp (i := L) (j := 0) (by omega)).2
      have h2 := hp.ge (j := 0) (by omega)
      exact show above xs L = 0 by
        rcases Nat.eq_zero_or_pos (above xs L) with h3 | h3
        · exact h3
        · have := h1 h3
          omega
  have HAB : Hid (∀ i, i < L → 0 < above xs i ∧ (conj xs).getD i 0 = ((above xs i : Nat) : Int)) := fun i hi => by
    have h0 : 0 < xs.length := by
      rcases Nat.eq_zero_or_pos xs.length with h0 | h0
      · have : xs = [] := List.eq_nil_of_length_eq_zero h0
        rw [hL, this] at hi
        simp at hi
      · exact h0
    exact ⟨(above_iff hp h0).1 (by omega), getD_conj (by omega)⟩
  clear hp hlen hL
  go_enter Tryd.func13, Tryd.ntmps13
  go_wp2
  go_loopg [3, 4] (L + 1) (fun g v t wr => ∃ i : Nat, i ≤ L ∧ L - i < g ∧ t = .int .i64 ((i : Int) + 1) ∧ OwnInts wr w.heap.size v ((conj xs).take i) ∧ Below w.heap.size w wr)
  case atStart => exact ⟨0, Nat.zero_le _, by omega, rfl, OwnInts.nil _ _, Below.refl _ _⟩
  case round =>
    obtain ⟨i, hi, hg, rfl, hown, hbel⟩ := hrel
    have HO := hid hown
    have HB := hid hbel
    have hIw := h.keep hbel
    have HIw := hid hIw
    clear hown hbel hIw
    go_wp2_with fail
    obtain ⟨w8, hw8⟩ : ∃ w8, w8 = wr := ⟨_, rfl⟩
    rw [← hw8] at HO HB HIw
    rw [← hw8]
    clear hw8
    go_loopg [5, 12] n (fun g s t wq => ∃ j : Nat, j ≤ n ∧ n - j ≤ g ∧ s = .int .i64 ((above (xs.take j) i : Nat) : Int) ∧ t = .int .i64 (j : Int) ∧ w8 = wq)
    case atStart => exact ⟨0, Nat.zero_le _, by omega, by simp [above], rfl, rfl⟩
    case round =>
      obtain ⟨j, hj, hg2, rfl, rfl, rfl⟩ := hrel
      have hab := above_le (xs.take j) i
      rw [List.length_take] at hab
      have hab40 : above (xs.take j) i ≤ 40 := by omega
      clear hab
      by_cases hlt : j < n
      · obtain ⟨b, o, hA, hb, hc⟩ := HIw.out.row (by omega)
        have g1 := hc j hlt
        have HSN := hid (above_snoc (xs := xs) (k := j) (by rw [HL.out]; exact hlt) i)
        subst hA
        clear hc h
        generalize xs.getD j 0 = x at *
        generalize above (xs.take j) i = a at *
        by_cases hx : (i : Int) < x
        · have hx2 : (i : Int) + 1 ≤ x := by omega
          rw [if_pos hx] at HSN
          go_wp2
          go_roundg (n - (j + 1))
          case measure => omega
          case rel => exact ⟨j + 1, by omega, by omega, by rw [HSN.out]; rfl, by go_num, rfl⟩
        · have hx2 : ¬ (i : Int) + 1 ≤ x := by omega
          rw [if_neg hx] at HSN
          go_wp2
          go_roundg (n - (j + 1))
          case measure => omega
          case rel => exact ⟨j + 1, by omega, by omega, by rw [HSN.out]; rfl, by go_num, rfl⟩
      · have HTK : Hid (xs.take j = xs) := List.take_of_length_le (by rw [HL.out]; omega)
        rw [HTK.out] at hab40 ⊢
        by_cases hiL : i < L
        · have hap := (HAB.out i hiL).1
          have HCV := hid (HAB.out i hiL).2
          have HTS : Hid ((conj xs).take (i + 1) = (conj xs).take i ++ [((above xs i : Nat) : Int)]) := by rw [take_snoc (by rw [HLC.out]; exact hiL), HCV.out]; exact rfl
          have HLN : Hid (((conj xs).take i).length ≤ 1000000000000) := by
            rw [List.length_take, HLC.out]
            exact show min i L ≤ 1000000000000 by omega
          have hne : (((above xs i : Nat) : Int) == 0) = false := by simp; omega
          clear hap
          generalize above xs i = a at *
          generalize (conj xs).take i = zs at *
          go_wp2_with (at_builtin; refine wpList_app1 _ rfl (.tmp 25) (.tmp 27) rfl w.heap.size _ zs (a : Int) rfl rfl HO.out HLN.out HB.out.size ?_)
          intro v' w3 hown3 _ hbel3
          have HO3 := hid hown3
          have HB3 := hid (HB.out.trans hbel3)
          clear hown3 hbel3 HO HB
          go_wp2
          go_roundg (L - i)
          case measure => omega
          case rel => exact ⟨i + 1, by omega, by omega, by go_num, by rw [HTS.out]; exact HO3.out, HB3.out⟩
        · have hie : L = i := by omega
          subst hie
          rw [HEND.out]
          have HTL : Hid ((conj xs).take L = conj xs) := List.take_of_length_le (by rw [HLC.out]; exact Nat.le_refl _)
          rw [HTL.out] at HO
          go_wp2
          go_ret
          exact ⟨_, rfl, HO.out, HB.out⟩

end Go.Proofs.YteegddpoekphoaaDoor
