/-
  castlaw.BlocksSay, by where its numbers stand.
-/
import Derived.Test.YtigfhpffghajaaaBlkB
import Derived.Test.YtigfhpffghajaaaBlkC
import Derived.Test.YtigfhpffghajaaaBlkD
import Derived.Test.YtigfhpffghajaaaBlkE
import Derived.Test.YtigfhpffghajaaaBlkF
import Derived.Test.YtigfhpffghajaaaBlkG
import Derived.Test.YtigfhpffghajaaaAlk
namespace Go.Proofs.Ytigfhpffghajaaa
open Go.RowKit

set_option maxHeartbeats 8000000 in
set_option maxRecDepth 100000 in
theorem blocksSay_k0_L_bad (A0 : Option Addr) (n0 c0 : Nat) (x0 : List Int) (A3 : Option Addr) (n3 c3 : Nat) (x3 : List Int) (N : Nat) (K : Int) (w : World) (h0 : Ints w A0 n0 x0) (h3 : Ints w A3 n3 x3) (hc0 : n0 ≤ c0) (_hc3 : n3 ≤ c3) (_hm0 : c0 ≤ 9223372036854775807) (_hm3 : c3 ≤ 9223372036854775807) (hbd : ∀ y ∈ x0, y ≤ 9223372036854775807) (hN : N ≤ 10) (hK : K < 0) (hl : 10 < n3) (he : heapErr x0 ≠ 0) :
    Calls Try.prog 3 #[.slice A0 n0 c0, .int .i64 (N : Int), .int .i64 K, .slice A3 n3 c3] w fun e w' => e = .returned (.bool true) ∧ Below w.heap.size w w' := by
  have HB0 := hid (Below.refl w.heap.size w)
  have HA0 : Hid (All w [(A0, n0, x0), (A3, n3, x3)]) := ⟨h0, h3, trivial⟩
  have HBD := hid hbd
  have HL0 : Hid (x0.length = n0) := h0.len
  have HL3 : Hid (x3.length = n3) := h3.len
  clear h0 h3 hbd
  generalize hq : heapErr x0 = er at *
  have HQ := hid hq
  have HE : Hid (heapErr x0 ≠ 0) := by rw [HQ.out]; exact he
  have hne : (er != 0) = true := by simpa using he
  have hss : (er != er) = false := by simp
  have hee : (er == er) = true := by simp
  clear hq he
  go_enter Try.func3, Try.ntmps3
  go_wp2_with fail
  refine (bcount_bad (N : Int) K _ (.inr (by omega))).mono ?_
  rintro e w' ⟨rfl, rfl⟩
  have hbl := bell_le hN
  go_wp2_with fail
  refine (ball_ok N _ hN).mono ?_
  rintro e w2 ⟨rfl, hb⟩
  have HB1 := hid (below_step HB0.out (Nat.le_refl _) hb)
  have HA1 : Hid (All w2 [(A0, n0, x0), (A3, n3, x3)]) := HA0.out.keep hb
  clear HA0 HB0
  clear hb
  go_wp2_with fail
  refine (bnext_bad A0 n0 c0 x0 _ HA1.out.1 (by omega) HE.out).mono ?_
  rintro e w' ⟨rfl, rfl⟩
  rw [HQ.out]
  have hlI : 10 < (n3 : Int) := by omega
  go_wp2_with fail
  refine (bof_large A3 n3 c3 _ hl (by omega)).mono ?_
  rintro e w' ⟨rfl, rfl⟩
  have hNn : ¬ (N : Int) < 0 := by omega
  have hNN : ¬ 10 < (N : Int) := by omega
  go_wp2_with fail
  refine (allHeaps_any N _ hN).mono ?_
  rintro e w5 ⟨rfl, hb⟩
  have HB2 := hid (below_step HB1.out (Nat.le_refl _) hb)
  have HA2 : Hid (All w5 [(A0, n0, x0), (A3, n3, x3)]) := HA1.out.keep hb
  clear HA1 HB1
  clear hb
  have hcc : (((bell N : Nat) : Int) != ((bell N : Nat) : Int)) = false := by simp
  generalize bell N = be at *
  go_wp2_with fail
  refine (heapsErr_any A0 n0 c0 x0 _ HA2.out.1 (by omega) hc0 HBD.out).mono ?_
  rintro e w' ⟨rfl, rfl⟩
  rw [HQ.out]
  go_wp2_with fail
  refine (bcheck_any A0 n0 c0 x0 _ HA2.out.1 (by omega)).mono ?_
  rintro e w' ⟨rfl, rfl⟩
  rw [HQ.out]
  go_wp2
  go_ret
  exact ⟨rfl, HB2.out⟩

set_option maxHeartbeats 8000000 in
set_option maxRecDepth 100000 in
theorem blocksSay_k0_L_none (A0 : Option Addr) (n0 c0 : Nat) (x0 : List Int) (A3 : Option Addr) (n3 c3 : Nat) (x3 : List Int) (N : Nat) (K : Int) (w : World) (h0 : Ints w A0 n0 x0) (h3 : Ints w A3 n3 x3) (hc0 : n0 ≤ c0) (_hc3 : n3 ≤ c3) (_hm0 : c0 ≤ 9223372036854775807) (_hm3 : c3 ≤ 9223372036854775807) (hbd : ∀ y ∈ x0, y ≤ 9223372036854775807) (hN : N ≤ 10) (hK : K < 0) (hl : 10 < n3) (hg : n0 ≤ 10) (hr : Rgs x0) (hx : ltg x0 n0 < 0) :
    Calls Try.prog 3 #[.slice A0 n0 c0, .int .i64 (N : Int), .int .i64 K, .slice A3 n3 c3] w fun e w' => e = .returned (.bool true) ∧ Below w.heap.size w w' := by
  have HB0 := hid (Below.refl w.heap.size w)
  have HA0 : Hid (All w [(A0, n0, x0), (A3, n3, x3)]) := ⟨h0, h3, trivial⟩
  have HBD := hid hbd
  have HL0 : Hid (x0.length = n0) := h0.len
  have HL3 : Hid (x3.length = n3) := h3.len
  clear h0 h3 hbd
  have HR := hid hr
  have HX := hid hx
  have HQ : Hid (heapErr x0 = 0) := heapErr_ok (by rw [HL0.out]; exact hg) HR.out
  clear hr hx
  go_enter Try.func3, Try.ntmps3
  go_wp2_with fail
  refine (bcount_bad (N : Int) K _ (.inr (by omega))).mono ?_
  rintro e w' ⟨rfl, rfl⟩
  have hbl := bell_le hN
  go_wp2_with fail
  refine (ball_ok N _ hN).mono ?_
  rintro e w2 ⟨rfl, hb⟩
  have HB1 := hid (below_step HB0.out (Nat.le_refl _) hb)
  have HA1 : Hid (All w2 [(A0, n0, x0), (A3, n3, x3)]) := HA0.out.keep hb
  clear HA0 HB0
  clear hb
  go_wp2_with fail
  refine (bnext_none A0 n0 c0 x0 _ HA1.out.1 hg HR.out HX.out).mono ?_
  rintro e w' ⟨rfl, rfl⟩
  have hlI : 10 < (n3 : Int) := by omega
  go_wp2_with fail
  refine (bof_large A3 n3 c3 _ hl (by omega)).mono ?_
  rintro e w' ⟨rfl, rfl⟩
  have hNn : ¬ (N : Int) < 0 := by omega
  have hNN : ¬ 10 < (N : Int) := by omega
  go_wp2_with fail
  refine (allHeaps_any N _ hN).mono ?_
  rintro e w5 ⟨rfl, hb⟩
  have HB2 := hid (below_step HB1.out (Nat.le_refl _) hb)
  have HA2 : Hid (All w5 [(A0, n0, x0), (A3, n3, x3)]) := HA1.out.keep hb
  clear HA1 HB1
  clear hb
  have hcc : (((bell N : Nat) : Int) != ((bell N : Nat) : Int)) = false := by simp
  generalize bell N = be at *
  go_wp2_with fail
  refine (heapsErr_any A0 n0 c0 x0 _ HA2.out.1 (by omega) hc0 HBD.out).mono ?_
  rintro e w' ⟨rfl, rfl⟩
  rw [HQ.out]
  go_wp2_with fail
  refine (bcheck_any A0 n0 c0 x0 _ HA2.out.1 (by omega)).mono ?_
  rintro e w' ⟨rfl, rfl⟩
  rw [HQ.out]
  go_wp2_with fail
  refine (heapsNext_any A0 n0 c0 x0 _ (HA2.out.1) hg hc0 HR.out).mono ?_
  rintro e w9 (⟨_, rfl, hb⟩ | ⟨L', A9, c9, hL', _, _, _⟩)
  rotate_left
  · have := HX.out
    omega
  have HB3 := hid (below_step HB2.out (Nat.le_refl _) hb)
  have HA3 : Hid (All w9 [(A0, n0, x0), (A3, n3, x3)]) := HA2.out.keep hb
  clear HA2 HB2
  clear hb
  go_wp2
  go_ret
  exact ⟨rfl, HB3.out⟩

set_option maxHeartbeats 8000000 in
set_option maxRecDepth 100000 in
theorem blocksSay_k0_L_nx (A0 : Option Addr) (n0 c0 : Nat) (x0 : List Int) (A3 : Option Addr) (n3 c3 : Nat) (x3 : List Int) (N : Nat) (K : Int) (L : Nat) (w : World) (h0 : Ints w A0 n0 x0) (h3 : Ints w A3 n3 x3) (hc0 : n0 ≤ c0) (_hc3 : n3 ≤ c3) (_hm0 : c0 ≤ 9223372036854775807) (_hm3 : c3 ≤ 9223372036854775807) (hbd : ∀ y ∈ x0, y ≤ 9223372036854775807) (hN : N ≤ 10) (hK : K < 0) (hl : 10 < n3) (hg : n0 ≤ 10) (hr : Rgs x0) (hx : ltg x0 n0 = (L : Int)) :
    Calls Try.prog 3 #[.slice A0 n0 c0, .int .i64 (N : Int), .int .i64 K, .slice A3 n3 c3] w fun e w' => e = .returned (.bool true) ∧ Below w.heap.size w w' := by
  have HB0 := hid (Below.refl w.heap.size w)
  have HA0 : Hid (All w [(A0, n0, x0), (A3, n3, x3)]) := ⟨h0, h3, trivial⟩
  have HBD := hid hbd
  have HL0 : Hid (x0.length = n0) := h0.len
  have HL3 : Hid (x3.length = n3) := h3.len
  clear h0 h3 hbd
  have HR := hid hr
  have HX := hid hx
  have HQ : Hid (heapErr x0 = 0) := heapErr_ok (by rw [HL0.out]; exact hg) HR.out
  clear hr hx
  go_enter Try.func3, Try.ntmps3
  go_wp2_with fail
  refine (bcount_bad (N : Int) K _ (.inr (by omega))).mono ?_
  rintro e w' ⟨rfl, rfl⟩
  have hbl := bell_le hN
  go_wp2_with fail
  refine (ball_ok N _ hN).mono ?_
  rintro e w2 ⟨rfl, hb⟩
  have HB1 := hid (below_step HB0.out (Nat.le_refl _) hb)
  have HA1 : Hid (All w2 [(A0, n0, x0), (A3, n3, x3)]) := HA0.out.keep hb
  clear HA0 HB0
  clear hb
  go_wp2_with fail
  refine (bnext_ok A0 n0 c0 L x0 _ HA1.out.1 hg HR.out HX.out).mono ?_
  rintro e w3 ⟨A5, n5, c5, rfl, hb, hI, hcap⟩
  have hn5 : n0 = n5 := by rw [← hI.len, length_nextL (by rw [HL0.out]; exact (ltg_some HX.out).1)]; exact HL0.out.symm
  subst hn5
  have HB2 := hid (below_step HB1.out (Nat.le_refl _) hb)
  have HA2 : Hid (All w3 [(A5, n0, (nextL x0 L)), (A0, n0, x0), (A3, n3, x3)]) := ⟨hI, HA1.out.keep hb⟩
  clear HA1 HB1
  clear hb hI hcap
  have hlI : 10 < (n3 : Int) := by omega
  go_wp2_with fail
  refine (bof_large A3 n3 c3 _ hl (by omega)).mono ?_
  rintro e w' ⟨rfl, rfl⟩
  have hNn : ¬ (N : Int) < 0 := by omega
  have hNN : ¬ 10 < (N : Int) := by omega
  go_wp2_with fail
  refine (allHeaps_any N _ hN).mono ?_
  rintro e w5 ⟨rfl, hb⟩
  have HB3 := hid (below_step HB2.out (Nat.le_refl _) hb)
  have HA3 : Hid (All w5 [(A5, n0, (nextL x0 L)), (A0, n0, x0), (A3, n3, x3)]) := HA2.out.keep hb
  clear HA2 HB2
  clear hb
  have hcc : (((bell N : Nat) : Int) != ((bell N : Nat) : Int)) = false := by simp
  generalize bell N = be at *
  go_wp2_with fail
  refine (heapsErr_any A0 n0 c0 x0 _ HA3.out.2.1 (by omega) hc0 HBD.out).mono ?_
  rintro e w' ⟨rfl, rfl⟩
  rw [HQ.out]
  go_wp2_with fail
  refine (bcheck_any A0 n0 c0 x0 _ HA3.out.2.1 (by omega)).mono ?_
  rintro e w' ⟨rfl, rfl⟩
  rw [HQ.out]
  go_wp2_with fail
  refine (heapsNext_any A0 n0 c0 x0 _ (HA3.out.2.1) hg hc0 HR.out).mono ?_
  rintro e w9 (⟨hno, _, _⟩ | ⟨L', A9, c9, hL', rfl, hI, hb⟩)
  · have := HX.out
    omega
  have hLL : L = L' := by have := HX.out; omega
  subst hLL
  have HB4 := hid (below_step HB3.out (Nat.le_refl _) hb)
  have HA4 : Hid (All w9 [(A9, n0, (nextL x0 L)), (A5, n0, (nextL x0 L)), (A0, n0, x0), (A3, n3, x3)]) := ⟨hI, HA3.out.keep hb⟩
  clear HA3 HB3
  clear hb hI hL'
  go_wp2_with fail
  refine (alike_bel A5 n0 c5 A9 n0 c9 (nextL x0 L) (nextL x0 L) _ HA4.out.2.1 HA4.out.1 (by omega) (by omega)).mono ?_
  rintro e w10 ⟨rfl, hb⟩
  have HB5 := hid (below_step HB4.out (Nat.le_refl _) hb)
  have HA5 : Hid (All w10 [(A9, n0, (nextL x0 L)), (A5, n0, (nextL x0 L)), (A0, n0, x0), (A3, n3, x3)]) := HA4.out.keep hb
  clear HA4 HB4
  clear hb
  rw [decide_eq_true (rfl : nextL x0 L = nextL x0 L)]
  go_wp2
  go_ret
  exact ⟨rfl, HB5.out⟩

set_option maxHeartbeats 8000000 in
set_option maxRecDepth 100000 in
theorem blocksSay_k0_S_bad (A0 : Option Addr) (n0 c0 : Nat) (x0 : List Int) (A3 : Option Addr) (n3 c3 : Nat) (x3 : List Int) (N : Nat) (K : Int) (w : World) (h0 : Ints w A0 n0 x0) (h3 : Ints w A3 n3 x3) (hc0 : n0 ≤ c0) (_hc3 : n3 ≤ c3) (_hm0 : c0 ≤ 9223372036854775807) (_hm3 : c3 ≤ 9223372036854775807) (hbd : ∀ y ∈ x0, y ≤ 9223372036854775807) (hN : N ≤ 10) (hK : K < 0) (hl : n3 ≤ 10) (he : heapErr x0 ≠ 0) :
    Calls Try.prog 3 #[.slice A0 n0 c0, .int .i64 (N : Int), .int .i64 K, .slice A3 n3 c3] w fun e w' => e = .returned (.bool true) ∧ Below w.heap.size w w' := by
  have HB0 := hid (Below.refl w.heap.size w)
  have HA0 : Hid (All w [(A0, n0, x0), (A3, n3, x3)]) := ⟨h0, h3, trivial⟩
  have HBD := hid hbd
  have HL0 : Hid (x0.length = n0) := h0.len
  have HL3 : Hid (x3.length = n3) := h3.len
  clear h0 h3 hbd
  generalize hq : heapErr x0 = er at *
  have HQ := hid hq
  have HE : Hid (heapErr x0 ≠ 0) := by rw [HQ.out]; exact he
  have hne : (er != 0) = true := by simpa using he
  have hss : (er != er) = false := by simp
  have hee : (er == er) = true := by simp
  clear hq he
  go_enter Try.func3, Try.ntmps3
  go_wp2_with fail
  refine (bcount_bad (N : Int) K _ (.inr (by omega))).mono ?_
  rintro e w' ⟨rfl, rfl⟩
  have hbl := bell_le hN
  go_wp2_with fail
  refine (ball_ok N _ hN).mono ?_
  rintro e w2 ⟨rfl, hb⟩
  have HB1 := hid (below_step HB0.out (Nat.le_refl _) hb)
  have HA1 : Hid (All w2 [(A0, n0, x0), (A3, n3, x3)]) := HA0.out.keep hb
  clear HA0 HB0
  clear hb
  go_wp2_with fail
  refine (bnext_bad A0 n0 c0 x0 _ HA1.out.1 (by omega) HE.out).mono ?_
  rintro e w' ⟨rfl, rfl⟩
  rw [HQ.out]
  have hlI : ¬ 10 < (n3 : Int) := by omega
  go_wp2_with fail
  refine (bof_ok A3 n3 c3 x3 _ HA1.out.2.1 hl).mono ?_
  rintro e w4 ⟨A6, n6, c6, rfl, hb, hI, hcap⟩
  have hn6 : n3 = n6 := by rw [← hI.len, length_ofL]; exact HL3.out.symm
  subst hn6
  have hoc := hcap.1
  have HB2 := hid (below_step HB1.out (Nat.le_refl _) hb)
  have HA2 : Hid (All w4 [(A6, n3, (ofL x3)), (A0, n0, x0), (A3, n3, x3)]) := ⟨hI, HA1.out.keep hb⟩
  clear HA1 HB1
  clear hb hI hcap
  have hnn : ((n3 : Int) != (n3 : Int)) = false := by simp
  have hNn : ¬ (N : Int) < 0 := by omega
  have hNN : ¬ 10 < (N : Int) := by omega
  go_wp2_with fail
  refine (allHeaps_any N _ hN).mono ?_
  rintro e w5 ⟨rfl, hb⟩
  have HB3 := hid (below_step HB2.out (Nat.le_refl _) hb)
  have HA3 : Hid (All w5 [(A6, n3, (ofL x3)), (A0, n0, x0), (A3, n3, x3)]) := HA2.out.keep hb
  clear HA2 HB2
  clear hb
  have hcc : (((bell N : Nat) : Int) != ((bell N : Nat) : Int)) = false := by simp
  generalize bell N = be at *
  have HOB : Hid (∀ y ∈ ofL x3, y ≤ 9223372036854775807) := fun y hy => by have := ofL_bd hy; rw [HL3.out] at this; omega
  have HOE : Hid (heapErr (ofL x3) = 0) := heapErr_ok (by rw [length_ofL, HL3.out]; exact hl) (rgs_ofL x3)
  go_wp2_with fail
  refine (heapsErr_any A6 n3 c6 (ofL x3) _ HA3.out.1 (by omega) hoc HOB.out).mono ?_
  rintro e w' ⟨rfl, rfl⟩
  rw [HOE.out]
  have HOI : Hid (Ints w5 A6 n3 (ofL x3)) := HA3.out.1
  have HLI : Hid (Ints w5 A3 n3 x3) := HA3.out.2.2.1
  go_wp2_with fail
  go_loopg [17, 18, 119] n3 (fun gh _ _ s wr => ∃ i q : Nat, i ≤ n3 ∧ n3 - i ≤ gh ∧ s = .int .i64 (i : Int) ∧ wr = w5.drewN q)
  case atStart => exact ⟨0, 0, by omega, by omega, rfl, rfl⟩
  case round =>
    obtain ⟨i, q, hi, hgh, rfl, rfl⟩ := hrel
    by_cases hlt : i < n3
    · have hltI : (i : Int) < (n3 : Int) := by omega
      go_wp2_with fail
      go_loopg [18, 123] i (fun gh _ s wr => ∃ j q : Nat, j ≤ i ∧ i - j ≤ gh ∧ s = .int .i64 (j : Int) ∧ wr = w5.drewN q)
      case atStart => exact ⟨0, _, by omega, by omega, rfl, rfl⟩
      case round =>
        obtain ⟨j, q2, hj, hgh2, rfl, hwr⟩ := hrel
        have HW := hid hwr
        clear hwr
        by_cases hjt : j < i
        · have hjtI : (j : Int) < (i : Int) := by omega
          have hjn : (j : Int) < (n3 : Int) := by omega
          have hA3 : Ints wr A3 n3 x3 := by rw [HW.out]; exact HLI.out.drewN q2
          replace hA3 := hA3.row (by omega)
          obtain ⟨b3, o3, rfl, _, hc3⟩ := hA3
          have hA6 : Ints wr A6 n3 (ofL x3) := by rw [HW.out]; exact HOI.out.drewN q2
          replace hA6 := hA6.row (by omega)
          obtain ⟨b6, o6, rfl, _, hc6⟩ := hA6
          have g1 := hc3 i hlt
          have g2 := hc3 j (by omega)
          have g3 := hc6 i hlt
          have g4 := hc6 j (by omega)
          have HAL := hid (ofL_alike (l := x3) (x := i) (y := j) (by rw [HL3.out]; exact hlt) (by rw [HL3.out]; omega))
          clear hc3 hc6
          generalize x3.getD i 0 = y1 at *
          generalize x3.getD j 0 = y2 at *
          generalize (ofL x3).getD i 0 = z1 at *
          generalize (ofL x3).getD j 0 = z2 at *
          by_cases he : y1 = y2
          · have e1 : (y1 == y2) = true := by simpa using he
            have e2 : (z1 == z2) = true := by simpa using HAL.out.2 he
            clear he
            go_wp2_with fail
            go_quiet (fail)
            go_wp2
            go_roundg (i - (j + 1))
            case measure => omega
            case rel => exact ⟨j + 1, _, by omega, by omega, by go_num, by rw [HW.out, World.drewN_drewN]⟩
          · have e1 : (y1 == y2) = false := by simpa using he
            have e2 : (z1 == z2) = false := by simpa using fun e => he (HAL.out.1 e)
            clear he
            go_wp2_with fail
            go_quiet (fail)
            go_wp2
            go_roundg (i - (j + 1))
            case measure => omega
            case rel => exact ⟨j + 1, _, by omega, by omega, by go_num, by rw [HW.out, World.drewN_drewN]⟩
        · have hjtI : ¬ (j : Int) < (i : Int) := by omega
          go_wp2
          go_roundg (n3 - (i + 1))
          case measure => omega
          case rel => exact ⟨i + 1, _, by omega, by omega, by go_num, HW.out⟩
    · have hltI : ¬ (i : Int) < (n3 : Int) := by omega
      have hb : Below w5.heap.size w5 (w5.drewN q) := below_drewN (Below.refl _ _) q
      clear HOI HLI
      have HB4 := hid (below_step HB3.out (Nat.le_refl _) hb)
      have HA4 : Hid (All (w5.drewN q) [(A6, n3, (ofL x3)), (A0, n0, x0), (A3, n3, x3)]) := HA3.out.keep hb
      clear HA3 HB3
      clear hb
      generalize w5.drewN q = wL at *
      go_wp2_with fail
      refine (heapsErr_any A0 n0 c0 x0 _ HA4.out.2.1 (by omega) hc0 HBD.out).mono ?_
      rintro e w' ⟨rfl, rfl⟩
      rw [HQ.out]
      go_wp2_with fail
      refine (bcheck_any A0 n0 c0 x0 _ HA4.out.2.1 (by omega)).mono ?_
      rintro e w' ⟨rfl, rfl⟩
      rw [HQ.out]
      go_wp2
      go_ret
      exact ⟨rfl, HB4.out⟩

set_option maxHeartbeats 8000000 in
set_option maxRecDepth 100000 in
theorem blocksSay_k0_S_none (A0 : Option Addr) (n0 c0 : Nat) (x0 : List Int) (A3 : Option Addr) (n3 c3 : Nat) (x3 : List Int) (N : Nat) (K : Int) (w : World) (h0 : Ints w A0 n0 x0) (h3 : Ints w A3 n3 x3) (hc0 : n0 ≤ c0) (_hc3 : n3 ≤ c3) (_hm0 : c0 ≤ 9223372036854775807) (_hm3 : c3 ≤ 9223372036854775807) (hbd : ∀ y ∈ x0, y ≤ 9223372036854775807) (hN : N ≤ 10) (hK : K < 0) (hl : n3 ≤ 10) (hg : n0 ≤ 10) (hr : Rgs x0) (hx : ltg x0 n0 < 0) :
    Calls Try.prog 3 #[.slice A0 n0 c0, .int .i64 (N : Int), .int .i64 K, .slice A3 n3 c3] w fun e w' => e = .returned (.bool true) ∧ Below w.heap.size w w' := by
  have HB0 := hid (Below.refl w.heap.size w)
  have HA0 : Hid (All w [(A0, n0, x0), (A3, n3, x3)]) := ⟨h0, h3, trivial⟩
  have HBD := hid hbd
  have HL0 : Hid (x0.length = n0) := h0.len
  have HL3 : Hid (x3.length = n3) := h3.len
  clear h0 h3 hbd
  have HR := hid hr
  have HX := hid hx
  have HQ : Hid (heapErr x0 = 0) := heapErr_ok (by rw [HL0.out]; exact hg) HR.out
  clear hr hx
  go_enter Try.func3, Try.ntmps3
  go_wp2_with fail
  refine (bcount_bad (N : Int) K _ (.inr (by omega))).mono ?_
  rintro e w' ⟨rfl, rfl⟩
  have hbl := bell_le hN
  go_wp2_with fail
  refine (ball_ok N _ hN).mono ?_
  rintro e w2 ⟨rfl, hb⟩
  have HB1 := hid (below_step HB0.out (Nat.le_refl _) hb)
  have HA1 : Hid (All w2 [(A0, n0, x0), (A3, n3, x3)]) := HA0.out.keep hb
  clear HA0 HB0
  clear hb
  go_wp2_with fail
  refine (bnext_none A0 n0 c0 x0 _ HA1.out.1 hg HR.out HX.out).mono ?_
  rintro e w' ⟨rfl, rfl⟩
  have hlI : ¬ 10 < (n3 : Int) := by omega
  go_wp2_with fail
  refine (bof_ok A3 n3 c3 x3 _ HA1.out.2.1 hl).mono ?_
  rintro e w4 ⟨A6, n6, c6, rfl, hb, hI, hcap⟩
  have hn6 : n3 = n6 := by rw [← hI.len, length_ofL]; exact HL3.out.symm
  subst hn6
  have hoc := hcap.1
  have HB2 := hid (below_step HB1.out (Nat.le_refl _) hb)
  have HA2 : Hid (All w4 [(A6, n3, (ofL x3)), (A0, n0, x0), (A3, n3, x3)]) := ⟨hI, HA1.out.keep hb⟩
  clear HA1 HB1
  clear hb hI hcap
  have hnn : ((n3 : Int) != (n3 : Int)) = false := by simp
  have hNn : ¬ (N : Int) < 0 := by omega
  have hNN : ¬ 10 < (N : Int) := by omega
  go_wp2_with fail
  refine (allHeaps_any N _ hN).mono ?_
  rintro e w5 ⟨rfl, hb⟩
  have HB3 := hid (below_step HB2.out (Nat.le_refl _) hb)
  have HA3 : Hid (All w5 [(A6, n3, (ofL x3)), (A0, n0, x0), (A3, n3, x3)]) := HA2.out.keep hb
  clear HA2 HB2
  clear hb
  have hcc : (((bell N : Nat) : Int) != ((bell N : Nat) : Int)) = false := by simp
  generalize bell N = be at *
  have HOB : Hid (∀ y ∈ ofL x3, y ≤ 9223372036854775807) := fun y hy => by have := ofL_bd hy; rw [HL3.out] at this; omega
  have HOE : Hid (heapErr (ofL x3) = 0) := heapErr_ok (by rw [length_ofL, HL3.out]; exact hl) (rgs_ofL x3)
  go_wp2_with fail
  refine (heapsErr_any A6 n3 c6 (ofL x3) _ HA3.out.1 (by omega) hoc HOB.out).mono ?_
  rintro e w' ⟨rfl, rfl⟩
  rw [HOE.out]
  have HOI : Hid (Ints w5 A6 n3 (ofL x3)) := HA3.out.1
  have HLI : Hid (Ints w5 A3 n3 x3) := HA3.out.2.2.1
  go_wp2_with fail
  go_loopg [17, 18, 119] n3 (fun gh _ _ s wr => ∃ i q : Nat, i ≤ n3 ∧ n3 - i ≤ gh ∧ s = .int .i64 (i : Int) ∧ wr = w5.drewN q)
  case atStart => exact ⟨0, 0, by omega, by omega, rfl, rfl⟩
  case round =>
    obtain ⟨i, q, hi, hgh, rfl, rfl⟩ := hrel
    by_cases hlt : i < n3
    · have hltI : (i : Int) < (n3 : Int) := by omega
      go_wp2_with fail
      go_loopg [18, 123] i (fun gh _ s wr => ∃ j q : Nat, j ≤ i ∧ i - j ≤ gh ∧ s = .int .i64 (j : Int) ∧ wr = w5.drewN q)
      case atStart => exact ⟨0, _, by omega, by omega, rfl, rfl⟩
      case round =>
        obtain ⟨j, q2, hj, hgh2, rfl, hwr⟩ := hrel
        have HW := hid hwr
        clear hwr
        by_cases hjt : j < i
        · have hjtI : (j : Int) < (i : Int) := by omega
          have hjn : (j : Int) < (n3 : Int) := by omega
          have hA3 : Ints wr A3 n3 x3 := by rw [HW.out]; exact HLI.out.drewN q2
          replace hA3 := hA3.row (by omega)
          obtain ⟨b3, o3, rfl, _, hc3⟩ := hA3
          have hA6 : Ints wr A6 n3 (ofL x3) := by rw [HW.out]; exact HOI.out.drewN q2
          replace hA6 := hA6.row (by omega)
          obtain ⟨b6, o6, rfl, _, hc6⟩ := hA6
          have g1 := hc3 i hlt
          have g2 := hc3 j (by omega)
          have g3 := hc6 i hlt
          have g4 := hc6 j (by omega)
          have HAL := hid (ofL_alike (l := x3) (x := i) (y := j) (by rw [HL3.out]; exact hlt) (by rw [HL3.out]; omega))
          clear hc3 hc6
          generalize x3.getD i 0 = y1 at *
          generalize x3.getD j 0 = y2 at *
          generalize (ofL x3).getD i 0 = z1 at *
          generalize (ofL x3).getD j 0 = z2 at *
          by_cases he : y1 = y2
          · have e1 : (y1 == y2) = true := by simpa using he
            have e2 : (z1 == z2) = true := by simpa using HAL.out.2 he
            clear he
            go_wp2_with fail
            go_quiet (fail)
            go_wp2
            go_roundg (i - (j + 1))
            case measure => omega
            case rel => exact ⟨j + 1, _, by omega, by omega, by go_num, by rw [HW.out, World.drewN_drewN]⟩
          · have e1 : (y1 == y2) = false := by simpa using he
            have e2 : (z1 == z2) = false := by simpa using fun e => he (HAL.out.1 e)
            clear he
            go_wp2_with fail
            go_quiet (fail)
            go_wp2
            go_roundg (i - (j + 1))
            case measure => omega
            case rel => exact ⟨j + 1, _, by omega, by omega, by go_num, by rw [HW.out, World.drewN_drewN]⟩
        · have hjtI : ¬ (j : Int) < (i : Int) := by omega
          go_wp2
          go_roundg (n3 - (i + 1))
          case measure => omega
          case rel => exact ⟨i + 1, _, by omega, by omega, by go_num, HW.out⟩
    · have hltI : ¬ (i : Int) < (n3 : Int) := by omega
      have hb : Below w5.heap.size w5 (w5.drewN q) := below_drewN (Below.refl _ _) q
      clear HOI HLI
      have HB4 := hid (below_step HB3.out (Nat.le_refl _) hb)
      have HA4 : Hid (All (w5.drewN q) [(A6, n3, (ofL x3)), (A0, n0, x0), (A3, n3, x3)]) := HA3.out.keep hb
      clear HA3 HB3
      clear hb
      generalize w5.drewN q = wL at *
      go_wp2_with fail
      refine (heapsErr_any A0 n0 c0 x0 _ HA4.out.2.1 (by omega) hc0 HBD.out).mono ?_
      rintro e w' ⟨rfl, rfl⟩
      rw [HQ.out]
      go_wp2_with fail
      refine (bcheck_any A0 n0 c0 x0 _ HA4.out.2.1 (by omega)).mono ?_
      rintro e w' ⟨rfl, rfl⟩
      rw [HQ.out]
      go_wp2_with fail
      refine (heapsNext_any A0 n0 c0 x0 _ (HA4.out.2.1) hg hc0 HR.out).mono ?_
      rintro e w9 (⟨_, rfl, hb⟩ | ⟨L', A9, c9, hL', _, _, _⟩)
      rotate_left
      · have := HX.out
        omega
      have HB5 := hid (below_step HB4.out (Nat.le_refl _) hb)
      have HA5 : Hid (All w9 [(A6, n3, (ofL x3)), (A0, n0, x0), (A3, n3, x3)]) := HA4.out.keep hb
      clear HA4 HB4
      clear hb
      go_wp2
      go_ret
      exact ⟨rfl, HB5.out⟩

set_option maxHeartbeats 8000000 in
set_option maxRecDepth 100000 in
theorem blocksSay_k0_S_nx (A0 : Option Addr) (n0 c0 : Nat) (x0 : List Int) (A3 : Option Addr) (n3 c3 : Nat) (x3 : List Int) (N : Nat) (K : Int) (L : Nat) (w : World) (h0 : Ints w A0 n0 x0) (h3 : Ints w A3 n3 x3) (hc0 : n0 ≤ c0) (_hc3 : n3 ≤ c3) (_hm0 : c0 ≤ 9223372036854775807) (_hm3 : c3 ≤ 9223372036854775807) (hbd : ∀ y ∈ x0, y ≤ 9223372036854775807) (hN : N ≤ 10) (hK : K < 0) (hl : n3 ≤ 10) (hg : n0 ≤ 10) (hr : Rgs x0) (hx : ltg x0 n0 = (L : Int)) :
    Calls Try.prog 3 #[.slice A0 n0 c0, .int .i64 (N : Int), .int .i64 K, .slice A3 n3 c3] w fun e w' => e = .returned (.bool true) ∧ Below w.heap.size w w' := by
  have HB0 := hid (Below.refl w.heap.size w)
  have HA0 : Hid (All w [(A0, n0, x0), (A3, n3, x3)]) := ⟨h0, h3, trivial⟩
  have HBD := hid hbd
  have HL0 : Hid (x0.length = n0) := h0.len
  have HL3 : Hid (x3.length = n3) := h3.len
  clear h0 h3 hbd
  have HR := hid hr
  have HX := hid hx
  have HQ : Hid (heapErr x0 = 0) := heapErr_ok (by rw [HL0.out]; exact hg) HR.out
  clear hr hx
  go_enter Try.func3, Try.ntmps3
  go_wp2_with fail
  refine (bcount_bad (N : Int) K _ (.inr (by omega))).mono ?_
  rintro e w' ⟨rfl, rfl⟩
  have hbl := bell_le hN
  go_wp2_with fail
  refine (ball_ok N _ hN).mono ?_
  rintro e w2 ⟨rfl, hb⟩
  have HB1 := hid (below_step HB0.out (Nat.le_refl _) hb)
  have HA1 : Hid (All w2 [(A0, n0, x0), (A3, n3, x3)]) := HA0.out.keep hb
  clear HA0 HB0
  clear hb
  go_wp2_with fail
  refine (bnext_ok A0 n0 c0 L x0 _ HA1.out.1 hg HR.out HX.out).mono ?_
  rintro e w3 ⟨A5, n5, c5, rfl, hb, hI, hcap⟩
  have hn5 : n0 = n5 := by rw [← hI.len, length_nextL (by rw [HL0.out]; exact (ltg_some HX.out).1)]; exact HL0.out.symm
  subst hn5
  have HB2 := hid (below_step HB1.out (Nat.le_refl _) hb)
  have HA2 : Hid (All w3 [(A5, n0, (nextL x0 L)), (A0, n0, x0), (A3, n3, x3)]) := ⟨hI, HA1.out.keep hb⟩
  clear HA1 HB1
  clear hb hI hcap
  have hlI : ¬ 10 < (n3 : Int) := by omega
  go_wp2_with fail
  refine (bof_ok A3 n3 c3 x3 _ HA2.out.2.2.1 hl).mono ?_
  rintro e w4 ⟨A6, n6, c6, rfl, hb, hI, hcap⟩
  have hn6 : n3 = n6 := by rw [← hI.len, length_ofL]; exact HL3.out.symm
  subst hn6
  have hoc := hcap.1
  have HB3 := hid (below_step HB2.out (Nat.le_refl _) hb)
  have HA3 : Hid (All w4 [(A6, n3, (ofL x3)), (A5, n0, (nextL x0 L)), (A0, n0, x0), (A3, n3, x3)]) := ⟨hI, HA2.out.keep hb⟩
  clear HA2 HB2
  clear hb hI hcap
  have hnn : ((n3 : Int) != (n3 : Int)) = false := by simp
  have hNn : ¬ (N : Int) < 0 := by omega
  have hNN : ¬ 10 < (N : Int) := by omega
  go_wp2_with fail
  refine (allHeaps_any N _ hN).mono ?_
  rintro e w5 ⟨rfl, hb⟩
  have HB4 := hid (below_step HB3.out (Nat.le_refl _) hb)
  have HA4 : Hid (All w5 [(A6, n3, (ofL x3)), (A5, n0, (nextL x0 L)), (A0, n0, x0), (A3, n3, x3)]) := HA3.out.keep hb
  clear HA3 HB3
  clear hb
  have hcc : (((bell N : Nat) : Int) != ((bell N : Nat) : Int)) = false := by simp
  generalize bell N = be at *
  have HOB : Hid (∀ y ∈ ofL x3, y ≤ 9223372036854775807) := fun y hy => by have := ofL_bd hy; rw [HL3.out] at this; omega
  have HOE : Hid (heapErr (ofL x3) = 0) := heapErr_ok (by rw [length_ofL, HL3.out]; exact hl) (rgs_ofL x3)
  go_wp2_with fail
  refine (heapsErr_any A6 n3 c6 (ofL x3) _ HA4.out.1 (by omega) hoc HOB.out).mono ?_
  rintro e w' ⟨rfl, rfl⟩
  rw [HOE.out]
  have HOI : Hid (Ints w5 A6 n3 (ofL x3)) := HA4.out.1
  have HLI : Hid (Ints w5 A3 n3 x3) := HA4.out.2.2.2.1
  go_wp2_with fail
  go_loopg [17, 18, 119] n3 (fun gh _ _ s wr => ∃ i q : Nat, i ≤ n3 ∧ n3 - i ≤ gh ∧ s = .int .i64 (i : Int) ∧ wr = w5.drewN q)
  case atStart => exact ⟨0, 0, by omega, by omega, rfl, rfl⟩
  case round =>
    obtain ⟨i, q, hi, hgh, rfl, rfl⟩ := hrel
    by_cases hlt : i < n3
    · have hltI : (i : Int) < (n3 : Int) := by omega
      go_wp2_with fail
      go_loopg [18, 123] i (fun gh _ s wr => ∃ j q : Nat, j ≤ i ∧ i - j ≤ gh ∧ s = .int .i64 (j : Int) ∧ wr = w5.drewN q)
      case atStart => exact ⟨0, _, by omega, by omega, rfl, rfl⟩
      case round =>
        obtain ⟨j, q2, hj, hgh2, rfl, hwr⟩ := hrel
        have HW := hid hwr
        clear hwr
        by_cases hjt : j < i
        · have hjtI : (j : Int) < (i : Int) := by omega
          have hjn : (j : Int) < (n3 : Int) := by omega
          have hA3 : Ints wr A3 n3 x3 := by rw [HW.out]; exact HLI.out.drewN q2
          replace hA3 := hA3.row (by omega)
          obtain ⟨b3, o3, rfl, _, hc3⟩ := hA3
          have hA6 : Ints wr A6 n3 (ofL x3) := by rw [HW.out]; exact HOI.out.drewN q2
          replace hA6 := hA6.row (by omega)
          obtain ⟨b6, o6, rfl, _, hc6⟩ := hA6
          have g1 := hc3 i hlt
          have g2 := hc3 j (by omega)
          have g3 := hc6 i hlt
          have g4 := hc6 j (by omega)
          have HAL := hid (ofL_alike (l := x3) (x := i) (y := j) (by rw [HL3.out]; exact hlt) (by rw [HL3.out]; omega))
          clear hc3 hc6
          generalize x3.getD i 0 = y1 at *
          generalize x3.getD j 0 = y2 at *
          generalize (ofL x3).getD i 0 = z1 at *
          generalize (ofL x3).getD j 0 = z2 at *
          by_cases he : y1 = y2
          · have e1 : (y1 == y2) = true := by simpa using he
            have e2 : (z1 == z2) = true := by simpa using HAL.out.2 he
            clear he
            go_wp2_with fail
            go_quiet (fail)
            go_wp2
            go_roundg (i - (j + 1))
            case measure => omega
            case rel => exact ⟨j + 1, _, by omega, by omega, by go_num, by rw [HW.out, World.drewN_drewN]⟩
          · have e1 : (y1 == y2) = false := by simpa using he
            have e2 : (z1 == z2) = false := by simpa using fun e => he (HAL.out.1 e)
            clear he
            go_wp2_with fail
            go_quiet (fail)
            go_wp2
            go_roundg (i - (j + 1))
            case measure => omega
            case rel => exact ⟨j + 1, _, by omega, by omega, by go_num, by rw [HW.out, World.drewN_drewN]⟩
        · have hjtI : ¬ (j : Int) < (i : Int) := by omega
          go_wp2
          go_roundg (n3 - (i + 1))
          case measure => omega
          case rel => exact ⟨i + 1, _, by omega, by omega, by go_num, HW.out⟩
    · have hltI : ¬ (i : Int) < (n3 : Int) := by omega
      have hb : Below w5.heap.size w5 (w5.drewN q) := below_drewN (Below.refl _ _) q
      clear HOI HLI
      have HB5 := hid (below_step HB4.out (Nat.le_refl _) hb)
      have HA5 : Hid (All (w5.drewN q) [(A6, n3, (ofL x3)), (A5, n0, (nextL x0 L)), (A0, n0, x0), (A3, n3, x3)]) := HA4.out.keep hb
      clear HA4 HB4
      clear hb
      generalize w5.drewN q = wL at *
      go_wp2_with fail
      refine (heapsErr_any A0 n0 c0 x0 _ HA5.out.2.2.1 (by omega) hc0 HBD.out).mono ?_
      rintro e w' ⟨rfl, rfl⟩
      rw [HQ.out]
      go_wp2_with fail
      refine (bcheck_any A0 n0 c0 x0 _ HA5.out.2.2.1 (by omega)).mono ?_
      rintro e w' ⟨rfl, rfl⟩
      rw [HQ.out]
      go_wp2_with fail
      refine (heapsNext_any A0 n0 c0 x0 _ (HA5.out.2.2.1) hg hc0 HR.out).mono ?_
      rintro e w9 (⟨hno, _, _⟩ | ⟨L', A9, c9, hL', rfl, hI, hb⟩)
      · have := HX.out
        omega
      have hLL : L = L' := by have := HX.out; omega
      subst hLL
      have HB6 := hid (below_step HB5.out (Nat.le_refl _) hb)
      have HA6 : Hid (All w9 [(A9, n0, (nextL x0 L)), (A6, n3, (ofL x3)), (A5, n0, (nextL x0 L)), (A0, n0, x0), (A3, n3, x3)]) := ⟨hI, HA5.out.keep hb⟩
      clear HA5 HB5
      clear hb hI hL'
      go_wp2_with fail
      refine (alike_bel A5 n0 c5 A9 n0 c9 (nextL x0 L) (nextL x0 L) _ HA6.out.2.2.1 HA6.out.1 (by omega) (by omega)).mono ?_
      rintro e w10 ⟨rfl, hb⟩
      have HB7 := hid (below_step HB6.out (Nat.le_refl _) hb)
      have HA7 : Hid (All w10 [(A9, n0, (nextL x0 L)), (A6, n3, (ofL x3)), (A5, n0, (nextL x0 L)), (A0, n0, x0), (A3, n3, x3)]) := HA6.out.keep hb
      clear HA6 HB6
      clear hb
      rw [decide_eq_true (rfl : nextL x0 L = nextL x0 L)]
      go_wp2
      go_ret
      exact ⟨rfl, HB7.out⟩

end Go.Proofs.Ytigfhpffghajaaa
