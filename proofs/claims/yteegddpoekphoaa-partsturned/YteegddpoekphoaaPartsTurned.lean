/-
  castkeep.PartsTurned.
-/
import Derived.Test.YteegddpoekphoaaPartE
import Derived.Test.YteegddpoekphoaaPartH
import Derived.Test.YteegddpoekphoaaPartD
namespace Go.Proofs.Yteegddpoekphoaa
open Go.RowKit

set_option maxHeartbeats 2000000 in
set_option maxRecDepth 100000 in
theorem partsTurned_any (A : Option Addr) (n c : Nat) (xs : List Int) (w : World) (h : Ints w A n xs) (hc : n ≤ c) :
    Calls Try.prog 3 #[.slice A n c] w fun e w' => e = .returned (.bool true) ∧ Below w.heap.size w w' := by
  have HB0 := hid (Below.refl w.heap.size w)
  have HA0 : Hid (All w [(A, n, xs)]) := ⟨h, trivial⟩
  clear h
  go_enter Try.func3, Try.ntmps3
  go_wp2_with fail
  refine (partsLive_any _).mono ?_
  rintro e w1 ⟨rfl, hb⟩
  have HB1 := hid (below_step HB0.out (Nat.le_refl _) hb)
  have HA1 : Hid (All w1 [(A, n, xs)]) := HA0.out.keep hb
  clear HA0 HB0
  clear hb
  go_wp2_with fail
  refine (sumOf_bel A n c xs _ HA1.out.1 hc).mono ?_
  rintro e w2 ⟨A1, n1, c1, ys, rfl, hI, hp, hn1, hb⟩
  have hl1 := hI.len
  have HL := hid hl1
  clear hl1
  have HP := hid (hp)
  have HB2 := hid (below_step HB1.out (Nat.le_refl _) hb)
  have HA2 : Hid (All w2 [(A1, n1, ys), (A, n, xs)]) := ⟨hI, HA1.out.keep hb⟩
  clear HA1 HB1
  clear hb hI
  clear hp
  go_wp2_with fail
  refine (turned_ok A1 n1 c1 ys _ HA2.out.1 HP.out).mono ?_
  rintro e w3 ⟨A2, n2, c2, rfl, hb, hI, _⟩
  have hl2 := hI.len
  have HL2 := hid hl2
  clear hl2
  have HB3 := hid (below_step HB2.out (Nat.le_refl _) hb)
  have HA3 : Hid (All w3 [(A2, n2, (conj ys)), (A1, n1, ys), (A, n, xs)]) := ⟨hI, HA2.out.keep hb⟩
  clear HA2 HB2
  clear hb hI
  go_wp2_with fail
  refine (turned_ok A2 n2 c2 (conj ys) _ HA3.out.1 (isPart_conj HP.out)).mono ?_
  rintro e w4 ⟨A3, n3, c3, rfl, hb, hI, _⟩
  rw [conj_conj HP.out] at hI
  have hl3 : ys.length = n3 := hI.len
  rw [HL.out] at hl3
  subst hl3
  have HB4 := hid (below_step HB3.out (Nat.le_refl _) hb)
  have HA4 : Hid (All w4 [(A3, n1, ys), (A2, n2, (conj ys)), (A1, n1, ys), (A, n, xs)]) := ⟨hI, HA3.out.keep hb⟩
  clear HA3 HB3
  clear hb hI
  have hn2 : n2 ≤ 40 := by rw [← HL2.out]; exact (isPart_conj HP.out).length_le
  go_wp2_with fail
  go_loopg [8, 30] n1 (fun g s t wr => ∃ (k : Nat) (S : Int), k ≤ n1 ∧ n1 - k ≤ g ∧ s = .int .i64 S ∧ t = .int .i64 (k : Int) ∧ S = ((ys).take k).sum ∧ 0 ≤ S ∧ S ≤ 40 ∧ w4 = wr)
  case atStart => exact ⟨0, 0, Nat.zero_le _, by omega, rfl, rfl, by simp, by omega, by omega, rfl⟩
  case round =>
    obtain ⟨k, S, hk, hg, rfl, rfl, hS, hS0, hS1, rfl⟩ := hrel
    have HS := hid hS
    clear hS
    by_cases hlt : k < n1
    · have hI : Ints w4 A1 n1 (ys) := HA4.out.2.2.1
      obtain ⟨b, o, rfl, hb, hcell⟩ := hI.row (by omega)
      have g1 := hcell k hlt
      have HT : Hid (((ys).take (k + 1)).sum = S + (ys).getD k 0) := by rw [HS.out]; exact sum_take_snoc (by rw [HL.out]; exact hlt)
      have hb2 := part_sums HP.out (k := k + 1) (by rw [HL.out]; exact hlt)
      rw [HT.out] at hb2
      clear hcell hb hI
      generalize (ys).getD k 0 = x at *
      go_wp2
      go_roundg (n1 - (k + 1))
      case measure => omega
      case rel => exact ⟨k + 1, S + x, by omega, by omega, by go_num, by go_num, HT.out.symm, by omega, by omega, rfl⟩
    · have hkn : n1 = k := by omega
      subst hkn
      have hSA : S = (ys).sum := by rw [HS.out, List.take_of_length_le (by rw [HL.out]; omega)]
      have HSA := hid hSA
      clear hSA hlt HS hg hk
      go_wp2_with fail
      go_loopg [9, 40] n2 (fun g s t wr => ∃ (k : Nat) (S' : Int), k ≤ n2 ∧ n2 - k ≤ g ∧ s = .int .i64 S' ∧ t = .int .i64 (k : Int) ∧ S' = ((conj ys).take k).sum ∧ 0 ≤ S' ∧ S' ≤ 40 ∧ w4 = wr)
      case atStart => exact ⟨0, 0, Nat.zero_le _, by omega, rfl, rfl, by simp, by omega, by omega, rfl⟩
      case round =>
        obtain ⟨k, S', hk, hg, rfl, rfl, hS, hT0, hT1, rfl⟩ := hrel
        have HS := hid hS
        clear hS
        by_cases hlt : k < n2
        · have hI : Ints w4 A2 n2 (conj ys) := HA4.out.2.1
          obtain ⟨b, o, rfl, hb, hcell⟩ := hI.row (by omega)
          have g1 := hcell k hlt
          have HT : Hid (((conj ys).take (k + 1)).sum = S' + (conj ys).getD k 0) := by rw [HS.out]; exact sum_take_snoc (by rw [HL2.out]; exact hlt)
          have hb2 := part_sums (isPart_conj HP.out) (k := k + 1) (by rw [HL2.out]; exact hlt)
          rw [HT.out] at hb2
          clear hcell hb hI
          generalize (conj ys).getD k 0 = x at *
          go_wp2
          go_roundg (n2 - (k + 1))
          case measure => omega
          case rel => exact ⟨k + 1, S' + x, by omega, by omega, by go_num, by go_num, HT.out.symm, by omega, by omega, rfl⟩
        · have hkn : n2 = k := by omega
          subst hkn
          have hSB : S' = (conj ys).sum := by rw [HS.out, List.take_of_length_le (by rw [HL2.out]; omega)]
          have HSB := hid hSB
          clear hSB hlt HS hg hk
          have hab : S = S' := by rw [HSA.out, HSB.out, sum_conj HP.out]
          subst hab
          clear HSA HSB
          go_wp2_with fail
          refine (good_bel w4 _ _ 2 [0, 0] rfl rfl (by omega)).mono ?_
          rintro e w_good1 ⟨rfl, hb⟩
          have HB5 := hid (below_step HB4.out (Nat.le_refl _) hb)
          have HA5 : Hid (All w_good1 [(A3, n1, ys), (A2, n2, (conj ys)), (A1, n1, ys), (A, n, xs)]) := HA4.out.keep hb
          clear HA4 HB4
          clear hb
          rw [show allOK [0, 0] = true by decide]
          go_wp2_with fail
          refine (equal_bel A1 n1 c1 A3 n1 c3 ys ys _ HA5.out.2.2.1 HA5.out.1 (by omega) (by omega)).mono ?_
          rintro e w7 ⟨rfl, hb⟩
          have HB6 := hid (below_step HB5.out (Nat.le_refl _) hb)
          have HA6 : Hid (All w7 [(A3, n1, ys), (A2, n2, (conj ys)), (A1, n1, ys), (A, n, xs)]) := HA5.out.keep hb
          clear HA5 HB5
          clear hb
          rw [show decide (ys = ys) = true by simp]
          have hd0 : (conj ys).length = (ys.getD 0 0).toNat := length_conj ys
          rw [HL2.out] at hd0
          have HH := hid (head_conj HP.out)
          by_cases h0 : n1 = 0
          · subst h0
            have hy : ys = [] := List.eq_nil_of_length_eq_zero HL.out
            have h2 : n2 = 0 := by rw [hd0, hy]; rfl
            subst h2
            clear hd0 hy
            go_wp2
            go_ret
            exact ⟨rfl, HB6.out⟩
          · have hne : ((n1 : Int) == 0) = false := by simp; omega
            have hpos : (0 : Int) < (n1 : Int) := by omega
            have hge := HP.out.ge (j := 0) (by rw [HL.out]; omega)
            have hv : ys.getD 0 0 = (n2 : Int) := by omega
            have hn20 : 0 < n2 := by omega
            have hIl : Ints w7 A1 n1 ys := HA6.out.2.2.1
            have hIt : Ints w7 A2 n2 (conj ys) := HA6.out.2.1
            obtain ⟨b1, o1, rfl, _, hc1⟩ := hIl.row (by omega)
            obtain ⟨b2, o2, rfl, _, hc2⟩ := hIt.row (by omega)
            have g1 := hc1 0 (by omega)
            have g2 := hc2 0 (by omega)
            rw [Nat.add_zero] at g1 g2
            rw [hv] at g1
            rw [HH.out, HL.out] at g2
            have hl0 : (0 : Int) < (n2 : Int) := by omega
            have hp0 : 0 < n1 := by omega
            clear hc1 hc2 hIl hIt hd0 hv hge
            go_wp2
            go_ret
            exact ⟨rfl, HB6.out⟩

end Go.Proofs.Yteegddpoekphoaa
