/-
  castlaw.PartsSay, the first number beyond the limits.
-/
import Derived.Test.YteegddpoekphoaaDoorPartTa
import Derived.Test.YteegddpoekphoaaDoorPartTb
import Derived.Test.YteegddpoekphoaaDoorPartTc
import Derived.Test.YteegddpoekphoaaDoorPartZ
import Derived.Test.YteegddpoekphoaaDoorPartV
import Derived.Test.YteegddpoekphoaaDoorPartB
namespace Go.Proofs.YteegddpoekphoaaDoor
open Go.RowKit

set_option maxHeartbeats 4000000 in
set_option maxRecDepth 100000 in
theorem partsSay_n0_bad (A : Option Addr) (n c : Nat) (xs : List Int) (N M : Int) (w : World) (h : Ints w A n xs) (ht : Tab64 w) (h1 : N < 0) (hm : n ≤ 9223372036854775807) (he : partErr xs ≠ 0) :
    Calls Tryd.prog 3 #[.slice A n c, .int .i64 N, .int .i64 M] w fun e w' => e = .returned (.bool true) ∧ Below w.heap.size w w' := by
  have HB0 := hid (Below.refl w.heap.size w)
  have HA0 : Hid (All w [(A, n, xs)]) := ⟨h, trivial⟩
  have HT0 := hid ht
  clear ht
  generalize hq : partErr xs = er at *
  have HQ := hid hq
  have HE : Hid (partErr xs ≠ 0) := by rw [HQ.out]; exact he
  have hne : (er != 0) = true := by simpa using he
  have hss : (er != er) = false := by simp
  clear hq he h
  go_enter Tryd.func3, Tryd.ntmps3
  go_wp2_with fail
  refine (count_off N M _ (by omega)).mono ?_
  rintro e w' ⟨rfl, rfl⟩
  go_wp2_with fail
  refine (turned_bad A n c xs _ HA0.out.1 hm HE.out).mono ?_
  rintro e w' ⟨rfl, rfl⟩
  rw [HQ.out]
  go_wp2_with fail
  refine (odd_bad A n c xs _ HA0.out.1 hm HE.out).mono ?_
  rintro e w' ⟨rfl, rfl⟩
  rw [HQ.out]
  go_wp2_with fail
  refine (unlike_bad A n c xs _ HA0.out.1 hm HE.out).mono ?_
  rintro e w' ⟨rfl, rfl⟩
  rw [HQ.out]
  go_wp2_with fail
  refine (sumErr_any A n c xs _ HA0.out.1 (by omega)).mono ?_
  rintro e w' ⟨rfl, rfl⟩
  rw [HQ.out]
  go_wp2_with fail
  refine (pcheck_any A n c xs _ HA0.out.1 (by omega)).mono ?_
  rintro e w' ⟨rfl, rfl⟩
  rw [HQ.out]
  go_wp2
  go_ret
  exact ⟨rfl, HB0.out⟩

set_option maxHeartbeats 4000000 in
set_option maxRecDepth 100000 in
theorem partsSay_n0_te (A : Option Addr) (n c : Nat) (ns : List Nat) (N M : Int) (w : World) (h : Ints w A n (ofN ns)) (ht : Tab64 w) (h1 : N < 0) (hp : IsPart (ofN ns)) (htw : ¬ NoTwin ns ns.length) (hev : ¬ ∀ x ∈ ns, x % 2 = 1) :
    Calls Tryd.prog 3 #[.slice A n c, .int .i64 N, .int .i64 M] w fun e w' => e = .returned (.bool true) ∧ Below w.heap.size w w' := by
  have HB0 := hid (Below.refl w.heap.size w)
  have HA0 : Hid (All w [(A, n, (ofN ns))]) := ⟨h, trivial⟩
  have HT0 := hid ht
  clear ht
  have hn40 : n ≤ 40 := by rw [← h.len, length_ofN]; exact part_lenN hp
  have HL : Hid (ns.length = n) := by rw [← length_ofN]; exact h.len
  have HP := hid hp
  have HTW := hid htw
  have HEV := hid hev
  clear hp htw hev h
  go_enter Tryd.func3, Tryd.ntmps3
  go_wp2_with fail
  refine (count_off N M _ (by omega)).mono ?_
  rintro e w' ⟨rfl, rfl⟩
  go_wp2_with fail
  refine (turned_ok A n c (ofN ns) _ HA0.out.1 HP.out).mono ?_
  rintro e w2 ⟨A2, n2, c2, rfl, hb, hI, _⟩
  have hn2 : n2 ≤ 40 := by rw [← hI.len]; exact (isPart_conj HP.out).length_le
  have HB1 := hid (below_step HB0.out (Nat.le_refl _) hb)
  have HA1 : Hid (All w2 [(A2, n2, (conj (ofN ns))), (A, n, (ofN ns))]) := ⟨hI, HA0.out.keep hb⟩
  clear HA0 HB0
  have HT1 := hid (HT0.out.keep hb)
  clear HT0
  clear hb hI
  go_wp2_with fail
  refine (odd_any A n c ns _ (HA1.out.2.1) HP.out HT1.out).mono ?_
  rintro e w3 (⟨_, rfl, hb⟩ | ⟨hno, _⟩)
  rotate_left
  · exact absurd hno HTW.out
  have HB2 := hid (below_step HB1.out (Nat.le_refl _) hb)
  have HA2 : Hid (All w3 [(A2, n2, (conj (ofN ns))), (A, n, (ofN ns))]) := HA1.out.keep hb
  clear HA1 HB1
  have HT2 := hid (HT1.out.keep hb)
  clear HT1
  clear hb
  go_wp2_with fail
  refine (unlike_any A n c ns _ (HA2.out.2.1) HP.out HT2.out).mono ?_
  rintro e w4 (⟨_, rfl, hb⟩ | ⟨hno, _⟩)
  rotate_left
  · exact absurd hno HEV.out
  have HB3 := hid (below_step HB2.out (Nat.le_refl _) hb)
  have HA3 : Hid (All w4 [(A2, n2, (conj (ofN ns))), (A, n, (ofN ns))]) := HA2.out.keep hb
  clear HA2 HB2
  have HT3 := hid (HT2.out.keep hb)
  clear HT2
  clear hb
  go_wp2_with fail
  refine (sumErr_any A n c (ofN ns) _ HA3.out.2.1 (by omega)).mono ?_
  rintro e w' ⟨rfl, rfl⟩
  rw [partErr_ok HP.out]
  go_wp2_with fail
  refine (pcheck_any A n c (ofN ns) _ HA3.out.2.1 (by omega)).mono ?_
  rintro e w' ⟨rfl, rfl⟩
  rw [partErr_ok HP.out]
  have HTU := hid (isPart_conj HP.out)
  go_wp2_with fail
  refine (turnedOf_any A n c (ofN ns) _ (HA3.out.2.1) HP.out).mono ?_
  rintro e w6 ⟨v6, rfl, ho6, hb⟩
  obtain ⟨A6, c6, rfl, hI, _⟩ := ho6.ints
  clear ho6
  have hl6 : (conj (ofN ns)).length ≤ 40 := HTU.out.length_le
  have HB4 := hid (below_step HB3.out (Nat.le_refl _) hb)
  have HA4 : Hid (All w6 [(A6, (conj (ofN ns)).length, (conj (ofN ns))), (A2, n2, (conj (ofN ns))), (A, n, (ofN ns))]) := ⟨hI, HA3.out.keep hb⟩
  clear HA3 HB3
  have HT4 := hid (HT3.out.keep hb)
  clear HT3
  clear hb hI
  generalize hL6 : (conj (ofN ns)).length = n6 at *
  clear hL6
  go_wp2_with fail
  refine (alike_bel A2 n2 c2 A6 n6 c6 (conj (ofN ns)) (conj (ofN ns)) _ HA4.out.2.1 HA4.out.1 (by omega) (by omega)).mono ?_
  rintro e w7 ⟨rfl, hb⟩
  have HB5 := hid (below_step HB4.out (Nat.le_refl _) hb)
  have HA5 : Hid (All w7 [(A6, n6, (conj (ofN ns))), (A2, n2, (conj (ofN ns))), (A, n, (ofN ns))]) := HA4.out.keep hb
  clear HA4 HB4
  have HT5 := hid (HT4.out.keep hb)
  clear HT4
  clear hb
  rw [show decide (conj (ofN ns) = conj (ofN ns)) = true by simp]
  go_wp2_with fail
  refine (clone_bel A n c (ofN ns) _ (HA5.out.2.2.1) (by omega)).mono ?_
  rintro e w8 ⟨A8, c8, rfl, ho8, hb8⟩
  have HB8 := hid hb8
  have HO8 := hid ho8
  clear hb8 ho8
  go_wp2_with fail
  refine (compact_bel w7 w8 _ (ofN ns) HB8.out HO8.out).mono ?_
  rintro e w9 ⟨A9, m9, c9, rfl, hle9, hiff9, hb⟩
  rw [length_ofN, HL.out] at hle9 hiff9
  rw [noTwinI_ofN] at hiff9
  have hm9 : m9 < n := by
    rcases Nat.lt_or_ge m9 n with h9 | h9
    · exact h9
    · exact absurd (hiff9.1 (by omega)) HTW.out
  have hm9i : (m9 : Int) < (n : Int) := by omega
  clear hiff9 hle9
  have HB6 := hid (below_step HB5.out (Nat.le_refl _) hb)
  have HA6 : Hid (All w9 [(A6, n6, (conj (ofN ns))), (A2, n2, (conj (ofN ns))), (A, n, (ofN ns))]) := HA5.out.keep hb
  clear HA5 HB5
  have HT6 := hid (HT5.out.keep hb)
  clear HT5
  clear hb
  go_wp2_with fail
  refine (containsFunc_evS A n c ns _ HA6.out.2.2.1 (by omega) (fun x hx => (part_mem HP.out hx).2)).mono ?_
  rintro e w' ⟨rfl, rfl⟩
  rw [show hasEven ns = true by rw [← Bool.not_eq_false]; exact fun h => HEV.out (hasEven_false.1 h)]
  go_wp2
  go_ret
  exact ⟨rfl, HB6.out⟩

set_option maxHeartbeats 4000000 in
set_option maxRecDepth 100000 in
theorem partsSay_n0_to (A : Option Addr) (n c : Nat) (ns : List Nat) (N M : Int) (w : World) (h : Ints w A n (ofN ns)) (ht : Tab64 w) (h1 : N < 0) (hp : IsPart (ofN ns)) (htw : ¬ NoTwin ns ns.length) (hev : ∀ x ∈ ns, x % 2 = 1) :
    Calls Tryd.prog 3 #[.slice A n c, .int .i64 N, .int .i64 M] w fun e w' => e = .returned (.bool true) ∧ Below w.heap.size w w' := by
  have HB0 := hid (Below.refl w.heap.size w)
  have HA0 : Hid (All w [(A, n, (ofN ns))]) := ⟨h, trivial⟩
  have HT0 := hid ht
  clear ht
  have hn40 : n ≤ 40 := by rw [← h.len, length_ofN]; exact part_lenN hp
  have HL : Hid (ns.length = n) := by rw [← length_ofN]; exact h.len
  have HP := hid hp
  have HTW := hid htw
  have HEV := hid hev
  clear hp htw hev h
  go_enter Tryd.func3, Tryd.ntmps3
  go_wp2_with fail
  refine (count_off N M _ (by omega)).mono ?_
  rintro e w' ⟨rfl, rfl⟩
  go_wp2_with fail
  refine (turned_ok A n c (ofN ns) _ HA0.out.1 HP.out).mono ?_
  rintro e w2 ⟨A2, n2, c2, rfl, hb, hI, _⟩
  have hn2 : n2 ≤ 40 := by rw [← hI.len]; exact (isPart_conj HP.out).length_le
  have HB1 := hid (below_step HB0.out (Nat.le_refl _) hb)
  have HA1 : Hid (All w2 [(A2, n2, (conj (ofN ns))), (A, n, (ofN ns))]) := ⟨hI, HA0.out.keep hb⟩
  clear HA0 HB0
  have HT1 := hid (HT0.out.keep hb)
  clear HT0
  clear hb hI
  go_wp2_with fail
  refine (odd_any A n c ns _ (HA1.out.2.1) HP.out HT1.out).mono ?_
  rintro e w3 (⟨_, rfl, hb⟩ | ⟨hno, _⟩)
  rotate_left
  · exact absurd hno HTW.out
  have HB2 := hid (below_step HB1.out (Nat.le_refl _) hb)
  have HA2 : Hid (All w3 [(A2, n2, (conj (ofN ns))), (A, n, (ofN ns))]) := HA1.out.keep hb
  clear HA1 HB1
  have HT2 := hid (HT1.out.keep hb)
  clear HT1
  clear hb
  go_wp2_with fail
  refine (unlike_any A n c ns _ (HA2.out.2.1) HP.out HT2.out).mono ?_
  rintro e w4 (⟨hno, _⟩ | ⟨_, A4, n4, c4, rfl, hb, hI, _⟩)
  · exact absurd HEV.out hno
  have HBT := hid (back_there HP.out HEV.out)
  have hn4 : n4 ≤ 40 := by rw [← hI.len, length_ofN]; exact part_lenN HBT.out.1
  have HB3 := hid (below_step HB2.out (Nat.le_refl _) hb)
  have HA3 : Hid (All w4 [(A4, n4, (ofN (unl (fun d => ns.count d) 40))), (A2, n2, (conj (ofN ns))), (A, n, (ofN ns))]) := ⟨hI, HA2.out.keep hb⟩
  clear HA2 HB2
  have HT3 := hid (HT2.out.keep hb)
  clear HT2
  clear hb hI HBT
  go_wp2_with fail
  refine (sumErr_any A n c (ofN ns) _ HA3.out.2.2.1 (by omega)).mono ?_
  rintro e w' ⟨rfl, rfl⟩
  rw [partErr_ok HP.out]
  go_wp2_with fail
  refine (pcheck_any A n c (ofN ns) _ HA3.out.2.2.1 (by omega)).mono ?_
  rintro e w' ⟨rfl, rfl⟩
  rw [partErr_ok HP.out]
  have HTU := hid (isPart_conj HP.out)
  go_wp2_with fail
  refine (turnedOf_any A n c (ofN ns) _ (HA3.out.2.2.1) HP.out).mono ?_
  rintro e w6 ⟨v6, rfl, ho6, hb⟩
  obtain ⟨A6, c6, rfl, hI, _⟩ := ho6.ints
  clear ho6
  have hl6 : (conj (ofN ns)).length ≤ 40 := HTU.out.length_le
  have HB4 := hid (below_step HB3.out (Nat.le_refl _) hb)
  have HA4 : Hid (All w6 [(A6, (conj (ofN ns)).length, (conj (ofN ns))), (A4, n4, (ofN (unl (fun d => ns.count d) 40))), (A2, n2, (conj (ofN ns))), (A, n, (ofN ns))]) := ⟨hI, HA3.out.keep hb⟩
  clear HA3 HB3
  have HT4 := hid (HT3.out.keep hb)
  clear HT3
  clear hb hI
  generalize hL6 : (conj (ofN ns)).length = n6 at *
  clear hL6
  go_wp2_with fail
  refine (alike_bel A2 n2 c2 A6 n6 c6 (conj (ofN ns)) (conj (ofN ns)) _ HA4.out.2.2.1 HA4.out.1 (by omega) (by omega)).mono ?_
  rintro e w7 ⟨rfl, hb⟩
  have HB5 := hid (below_step HB4.out (Nat.le_refl _) hb)
  have HA5 : Hid (All w7 [(A6, n6, (conj (ofN ns))), (A4, n4, (ofN (unl (fun d => ns.count d) 40))), (A2, n2, (conj (ofN ns))), (A, n, (ofN ns))]) := HA4.out.keep hb
  clear HA4 HB4
  have HT5 := hid (HT4.out.keep hb)
  clear HT4
  clear hb
  rw [show decide (conj (ofN ns) = conj (ofN ns)) = true by simp]
  go_wp2_with fail
  refine (clone_bel A n c (ofN ns) _ (HA5.out.2.2.2.1) (by omega)).mono ?_
  rintro e w8 ⟨A8, c8, rfl, ho8, hb8⟩
  have HB8 := hid hb8
  have HO8 := hid ho8
  clear hb8 ho8
  go_wp2_with fail
  refine (compact_bel w7 w8 _ (ofN ns) HB8.out HO8.out).mono ?_
  rintro e w9 ⟨A9, m9, c9, rfl, hle9, hiff9, hb⟩
  rw [length_ofN, HL.out] at hle9 hiff9
  rw [noTwinI_ofN] at hiff9
  have hm9 : m9 < n := by
    rcases Nat.lt_or_ge m9 n with h9 | h9
    · exact h9
    · exact absurd (hiff9.1 (by omega)) HTW.out
  have hm9i : (m9 : Int) < (n : Int) := by omega
  clear hiff9 hle9
  have HB6 := hid (below_step HB5.out (Nat.le_refl _) hb)
  have HA6 : Hid (All w9 [(A6, n6, (conj (ofN ns))), (A4, n4, (ofN (unl (fun d => ns.count d) 40))), (A2, n2, (conj (ofN ns))), (A, n, (ofN ns))]) := HA5.out.keep hb
  clear HA5 HB5
  have HT6 := hid (HT5.out.keep hb)
  clear HT5
  clear hb
  go_wp2_with fail
  refine (containsFunc_evS A n c ns _ HA6.out.2.2.2.1 (by omega) (fun x hx => (part_mem HP.out hx).2)).mono ?_
  rintro e w' ⟨rfl, rfl⟩
  rw [hasEven_false.2 HEV.out]
  have HUQ : Hid (unl (cO ns) 40 = unl (fun d => ns.count d) 40) := unl_congr 40 (fun x _ _ => cO_odd HEV.out _)
  go_wp2_with fail
  refine (doubled_any A n c ns _ (HA6.out.2.2.2.1) HP.out).mono ?_
  rintro e w12 ⟨v12, rfl, ho12, hb⟩
  rw [HUQ.out] at ho12
  obtain ⟨A12, c12, rfl, hI, _⟩ := ho12.ints
  clear ho12
  have hl12 : (ofN (unl (fun d => ns.count d) 40)).length ≤ 40 := by rw [length_ofN]; exact length_unl _ 40
  have HB7 := hid (below_step HB6.out (Nat.le_refl _) hb)
  have HA7 : Hid (All w12 [(A12, (ofN (unl (fun d => ns.count d) 40)).length, (ofN (unl (fun d => ns.count d) 40))), (A6, n6, (conj (ofN ns))), (A4, n4, (ofN (unl (fun d => ns.count d) 40))), (A2, n2, (conj (ofN ns))), (A, n, (ofN ns))]) := ⟨hI, HA6.out.keep hb⟩
  clear HA6 HB6
  have HT7 := hid (HT6.out.keep hb)
  clear HT6
  clear hb hI
  generalize hL12 : (ofN (unl (fun d => ns.count d) 40)).length = n12 at *
  clear hL12
  go_wp2_with fail
  refine (alike_bel A4 n4 c4 A12 n12 c12 (ofN (unl (fun d => ns.count d) 40)) (ofN (unl (fun d => ns.count d) 40)) _ HA7.out.2.2.1 HA7.out.1 (by omega) (by omega)).mono ?_
  rintro e w13 ⟨rfl, hb⟩
  have HB8 := hid (below_step HB7.out (Nat.le_refl _) hb)
  have HA8 : Hid (All w13 [(A12, n12, (ofN (unl (fun d => ns.count d) 40))), (A6, n6, (conj (ofN ns))), (A4, n4, (ofN (unl (fun d => ns.count d) 40))), (A2, n2, (conj (ofN ns))), (A, n, (ofN ns))]) := HA7.out.keep hb
  clear HA7 HB7
  have HT8 := hid (HT7.out.keep hb)
  clear HT7
  clear hb
  rw [show decide (ofN (unl (fun d => ns.count d) 40) = ofN (unl (fun d => ns.count d) 40)) = true by simp]
  go_wp2
  go_ret
  exact ⟨rfl, HB8.out⟩

set_option maxHeartbeats 4000000 in
set_option maxRecDepth 100000 in
theorem partsSay_n0_oe (A : Option Addr) (n c : Nat) (ns : List Nat) (N M : Int) (w : World) (h : Ints w A n (ofN ns)) (ht : Tab64 w) (h1 : N < 0) (hp : IsPart (ofN ns)) (htw : NoTwin ns ns.length) (hev : ¬ ∀ x ∈ ns, x % 2 = 1) :
    Calls Tryd.prog 3 #[.slice A n c, .int .i64 N, .int .i64 M] w fun e w' => e = .returned (.bool true) ∧ Below w.heap.size w w' := by
  have HB0 := hid (Below.refl w.heap.size w)
  have HA0 : Hid (All w [(A, n, (ofN ns))]) := ⟨h, trivial⟩
  have HT0 := hid ht
  clear ht
  have hn40 : n ≤ 40 := by rw [← h.len, length_ofN]; exact part_lenN hp
  have HL : Hid (ns.length = n) := by rw [← length_ofN]; exact h.len
  have HP := hid hp
  have HTW := hid htw
  have HEV := hid hev
  clear hp htw hev h
  go_enter Tryd.func3, Tryd.ntmps3
  go_wp2_with fail
  refine (count_off N M _ (by omega)).mono ?_
  rintro e w' ⟨rfl, rfl⟩
  go_wp2_with fail
  refine (turned_ok A n c (ofN ns) _ HA0.out.1 HP.out).mono ?_
  rintro e w2 ⟨A2, n2, c2, rfl, hb, hI, _⟩
  have hn2 : n2 ≤ 40 := by rw [← hI.len]; exact (isPart_conj HP.out).length_le
  have HB1 := hid (below_step HB0.out (Nat.le_refl _) hb)
  have HA1 : Hid (All w2 [(A2, n2, (conj (ofN ns))), (A, n, (ofN ns))]) := ⟨hI, HA0.out.keep hb⟩
  clear HA0 HB0
  have HT1 := hid (HT0.out.keep hb)
  clear HT0
  clear hb hI
  go_wp2_with fail
  refine (odd_any A n c ns _ (HA1.out.2.1) HP.out HT1.out).mono ?_
  rintro e w3 (⟨hno, _⟩ | ⟨_, A3, n3, c3, rfl, hb, hI, _⟩)
  · exact absurd HTW.out hno
  have HTB := hid (there_back HP.out HTW.out)
  have hn3 : n3 ≤ 40 := by rw [← hI.len, length_ofN]; exact part_lenN HTB.out.1
  have HB2 := hid (below_step HB1.out (Nat.le_refl _) hb)
  have HA2 : Hid (All w3 [(A3, n3, (ofN (down (cO ns) 40))), (A2, n2, (conj (ofN ns))), (A, n, (ofN ns))]) := ⟨hI, HA1.out.keep hb⟩
  clear HA1 HB1
  have HT2 := hid (HT1.out.keep hb)
  clear HT1
  clear hb hI HTB
  go_wp2_with fail
  refine (unlike_any A n c ns _ (HA2.out.2.2.1) HP.out HT2.out).mono ?_
  rintro e w4 (⟨_, rfl, hb⟩ | ⟨hno, _⟩)
  rotate_left
  · exact absurd hno HEV.out
  have HB3 := hid (below_step HB2.out (Nat.le_refl _) hb)
  have HA3 : Hid (All w4 [(A3, n3, (ofN (down (cO ns) 40))), (A2, n2, (conj (ofN ns))), (A, n, (ofN ns))]) := HA2.out.keep hb
  clear HA2 HB2
  have HT3 := hid (HT2.out.keep hb)
  clear HT2
  clear hb
  go_wp2_with fail
  refine (sumErr_any A n c (ofN ns) _ HA3.out.2.2.1 (by omega)).mono ?_
  rintro e w' ⟨rfl, rfl⟩
  rw [partErr_ok HP.out]
  go_wp2_with fail
  refine (pcheck_any A n c (ofN ns) _ HA3.out.2.2.1 (by omega)).mono ?_
  rintro e w' ⟨rfl, rfl⟩
  rw [partErr_ok HP.out]
  have HTU := hid (isPart_conj HP.out)
  go_wp2_with fail
  refine (turnedOf_any A n c (ofN ns) _ (HA3.out.2.2.1) HP.out).mono ?_
  rintro e w6 ⟨v6, rfl, ho6, hb⟩
  obtain ⟨A6, c6, rfl, hI, _⟩ := ho6.ints
  clear ho6
  have hl6 : (conj (ofN ns)).length ≤ 40 := HTU.out.length_le
  have HB4 := hid (below_step HB3.out (Nat.le_refl _) hb)
  have HA4 : Hid (All w6 [(A6, (conj (ofN ns)).length, (conj (ofN ns))), (A3, n3, (ofN (down (cO ns) 40))), (A2, n2, (conj (ofN ns))), (A, n, (ofN ns))]) := ⟨hI, HA3.out.keep hb⟩
  clear HA3 HB3
  have HT4 := hid (HT3.out.keep hb)
  clear HT3
  clear hb hI
  generalize hL6 : (conj (ofN ns)).length = n6 at *
  clear hL6
  go_wp2_with fail
  refine (alike_bel A2 n2 c2 A6 n6 c6 (conj (ofN ns)) (conj (ofN ns)) _ HA4.out.2.2.1 HA4.out.1 (by omega) (by omega)).mono ?_
  rintro e w7 ⟨rfl, hb⟩
  have HB5 := hid (below_step HB4.out (Nat.le_refl _) hb)
  have HA5 : Hid (All w7 [(A6, n6, (conj (ofN ns))), (A3, n3, (ofN (down (cO ns) 40))), (A2, n2, (conj (ofN ns))), (A, n, (ofN ns))]) := HA4.out.keep hb
  clear HA4 HB4
  have HT5 := hid (HT4.out.keep hb)
  clear HT4
  clear hb
  rw [show decide (conj (ofN ns) = conj (ofN ns)) = true by simp]
  go_wp2_with fail
  refine (clone_bel A n c (ofN ns) _ (HA5.out.2.2.2.1) (by omega)).mono ?_
  rintro e w8 ⟨A8, c8, rfl, ho8, hb8⟩
  have HB8 := hid hb8
  have HO8 := hid ho8
  clear hb8 ho8
  go_wp2_with fail
  refine (compact_bel w7 w8 _ (ofN ns) HB8.out HO8.out).mono ?_
  rintro e w9 ⟨A9, m9, c9, rfl, hle9, hiff9, hb⟩
  rw [length_ofN, HL.out] at hle9 hiff9
  rw [noTwinI_ofN] at hiff9
  have hm9 : m9 = n := hiff9.2 HTW.out
  have hm9i : ¬ (m9 : Int) < (n : Int) := by omega
  clear hm9
  clear hiff9 hle9
  have HB6 := hid (below_step HB5.out (Nat.le_refl _) hb)
  have HA6 : Hid (All w9 [(A6, n6, (conj (ofN ns))), (A3, n3, (ofN (down (cO ns) 40))), (A2, n2, (conj (ofN ns))), (A, n, (ofN ns))]) := HA5.out.keep hb
  clear HA5 HB5
  have HT6 := hid (HT5.out.keep hb)
  clear HT5
  clear hb
  go_wp2_with fail
  refine (halved_any A n c ns _ (HA6.out.2.2.2.1) HP.out).mono ?_
  rintro e w10 ⟨v10, rfl, ho10, hb⟩
  obtain ⟨A10, c10, rfl, hI, _⟩ := ho10.ints
  clear ho10
  have hl10 : (ofN (down (cO ns) 40)).length ≤ 40 := by rw [length_ofN]; exact part_lenN (there_back HP.out HTW.out).1
  have HB7 := hid (below_step HB6.out (Nat.le_refl _) hb)
  have HA7 : Hid (All w10 [(A10, (ofN (down (cO ns) 40)).length, (ofN (down (cO ns) 40))), (A6, n6, (conj (ofN ns))), (A3, n3, (ofN (down (cO ns) 40))), (A2, n2, (conj (ofN ns))), (A, n, (ofN ns))]) := ⟨hI, HA6.out.keep hb⟩
  clear HA6 HB6
  have HT7 := hid (HT6.out.keep hb)
  clear HT6
  clear hb hI
  generalize hL10 : (ofN (down (cO ns) 40)).length = n10 at *
  clear hL10
  go_wp2_with fail
  refine (alike_bel A3 n3 c3 A10 n10 c10 (ofN (down (cO ns) 40)) (ofN (down (cO ns) 40)) _ HA7.out.2.2.1 HA7.out.1 (by omega) (by omega)).mono ?_
  rintro e w11 ⟨rfl, hb⟩
  have HB8 := hid (below_step HB7.out (Nat.le_refl _) hb)
  have HA8 : Hid (All w11 [(A10, n10, (ofN (down (cO ns) 40))), (A6, n6, (conj (ofN ns))), (A3, n3, (ofN (down (cO ns) 40))), (A2, n2, (conj (ofN ns))), (A, n, (ofN ns))]) := HA7.out.keep hb
  clear HA7 HB7
  have HT8 := hid (HT7.out.keep hb)
  clear HT7
  clear hb
  rw [show decide (ofN (down (cO ns) 40) = ofN (down (cO ns) 40)) = true by simp]
  go_wp2_with fail
  refine (containsFunc_evS A n c ns _ HA8.out.2.2.2.2.1 (by omega) (fun x hx => (part_mem HP.out hx).2)).mono ?_
  rintro e w' ⟨rfl, rfl⟩
  rw [show hasEven ns = true by rw [← Bool.not_eq_false]; exact fun h => HEV.out (hasEven_false.1 h)]
  go_wp2
  go_ret
  exact ⟨rfl, HB8.out⟩

set_option maxHeartbeats 4000000 in
set_option maxRecDepth 100000 in
theorem partsSay_n0_oo (A : Option Addr) (n c : Nat) (ns : List Nat) (N M : Int) (w : World) (h : Ints w A n (ofN ns)) (ht : Tab64 w) (h1 : N < 0) (hp : IsPart (ofN ns)) (htw : NoTwin ns ns.length) (hev : ∀ x ∈ ns, x % 2 = 1) :
    Calls Tryd.prog 3 #[.slice A n c, .int .i64 N, .int .i64 M] w fun e w' => e = .returned (.bool true) ∧ Below w.heap.size w w' := by
  have HB0 := hid (Below.refl w.heap.size w)
  have HA0 : Hid (All w [(A, n, (ofN ns))]) := ⟨h, trivial⟩
  have HT0 := hid ht
  clear ht
  have hn40 : n ≤ 40 := by rw [← h.len, length_ofN]; exact part_lenN hp
  have HL : Hid (ns.length = n) := by rw [← length_ofN]; exact h.len
  have HP := hid hp
  have HTW := hid htw
  have HEV := hid hev
  clear hp htw hev h
  go_enter Tryd.func3, Tryd.ntmps3
  go_wp2_with fail
  refine (count_off N M _ (by omega)).mono ?_
  rintro e w' ⟨rfl, rfl⟩
  go_wp2_with fail
  refine (turned_ok A n c (ofN ns) _ HA0.out.1 HP.out).mono ?_
  rintro e w2 ⟨A2, n2, c2, rfl, hb, hI, _⟩
  have hn2 : n2 ≤ 40 := by rw [← hI.len]; exact (isPart_conj HP.out).length_le
  have HB1 := hid (below_step HB0.out (Nat.le_refl _) hb)
  have HA1 : Hid (All w2 [(A2, n2, (conj (ofN ns))), (A, n, (ofN ns))]) := ⟨hI, HA0.out.keep hb⟩
  clear HA0 HB0
  have HT1 := hid (HT0.out.keep hb)
  clear HT0
  clear hb hI
  go_wp2_with fail
  refine (odd_any A n c ns _ (HA1.out.2.1) HP.out HT1.out).mono ?_
  rintro e w3 (⟨hno, _⟩ | ⟨_, A3, n3, c3, rfl, hb, hI, _⟩)
  · exact absurd HTW.out hno
  have HTB := hid (there_back HP.out HTW.out)
  have hn3 : n3 ≤ 40 := by rw [← hI.len, length_ofN]; exact part_lenN HTB.out.1
  have HB2 := hid (below_step HB1.out (Nat.le_refl _) hb)
  have HA2 : Hid (All w3 [(A3, n3, (ofN (down (cO ns) 40))), (A2, n2, (conj (ofN ns))), (A, n, (ofN ns))]) := ⟨hI, HA1.out.keep hb⟩
  clear HA1 HB1
  have HT2 := hid (HT1.out.keep hb)
  clear HT1
  clear hb hI HTB
  go_wp2_with fail
  refine (unlike_any A n c ns _ (HA2.out.2.2.1) HP.out HT2.out).mono ?_
  rintro e w4 (⟨hno, _⟩ | ⟨_, A4, n4, c4, rfl, hb, hI, _⟩)
  · exact absurd HEV.out hno
  have HBT := hid (back_there HP.out HEV.out)
  have hn4 : n4 ≤ 40 := by rw [← hI.len, length_ofN]; exact part_lenN HBT.out.1
  have HB3 := hid (below_step HB2.out (Nat.le_refl _) hb)
  have HA3 : Hid (All w4 [(A4, n4, (ofN (unl (fun d => ns.count d) 40))), (A3, n3, (ofN (down (cO ns) 40))), (A2, n2, (conj (ofN ns))), (A, n, (ofN ns))]) := ⟨hI, HA2.out.keep hb⟩
  clear HA2 HB2
  have HT3 := hid (HT2.out.keep hb)
  clear HT2
  clear hb hI HBT
  go_wp2_with fail
  refine (sumErr_any A n c (ofN ns) _ HA3.out.2.2.2.1 (by omega)).mono ?_
  rintro e w' ⟨rfl, rfl⟩
  rw [partErr_ok HP.out]
  go_wp2_with fail
  refine (pcheck_any A n c (ofN ns) _ HA3.out.2.2.2.1 (by omega)).mono ?_
  rintro e w' ⟨rfl, rfl⟩
  rw [partErr_ok HP.out]
  have HTU := hid (isPart_conj HP.out)
  go_wp2_with fail
  refine (turnedOf_any A n c (ofN ns) _ (HA3.out.2.2.2.1) HP.out).mono ?_
  rintro e w6 ⟨v6, rfl, ho6, hb⟩
  obtain ⟨A6, c6, rfl, hI, _⟩ := ho6.ints
  clear ho6
  have hl6 : (conj (ofN ns)).length ≤ 40 := HTU.out.length_le
  have HB4 := hid (below_step HB3.out (Nat.le_refl _) hb)
  have HA4 : Hid (All w6 [(A6, (conj (ofN ns)).length, (conj (ofN ns))), (A4, n4, (ofN (unl (fun d => ns.count d) 40))), (A3, n3, (ofN (down (cO ns) 40))), (A2, n2, (conj (ofN ns))), (A, n, (ofN ns))]) := ⟨hI, HA3.out.keep hb⟩
  clear HA3 HB3
  have HT4 := hid (HT3.out.keep hb)
  clear HT3
  clear hb hI
  generalize hL6 : (conj (ofN ns)).length = n6 at *
  clear hL6
  go_wp2_with fail
  refine (alike_bel A2 n2 c2 A6 n6 c6 (conj (ofN ns)) (conj (ofN ns)) _ HA4.out.2.2.2.1 HA4.out.1 (by omega) (by omega)).mono ?_
  rintro e w7 ⟨rfl, hb⟩
  have HB5 := hid (below_step HB4.out (Nat.le_refl _) hb)
  have HA5 : Hid (All w7 [(A6, n6, (conj (ofN ns))), (A4, n4, (ofN (unl (fun d => ns.count d) 40))), (A3, n3, (ofN (down (cO ns) 40))), (A2, n2, (conj (ofN ns))), (A, n, (ofN ns))]) := HA4.out.keep hb
  clear HA4 HB4
  have HT5 := hid (HT4.out.keep hb)
  clear HT4
  clear hb
  rw [show decide (conj (ofN ns) = conj (ofN ns)) = true by simp]
  go_wp2_with fail
  refine (clone_bel A n c (ofN ns) _ (HA5.out.2.2.2.2.1) (by omega)).mono ?_
  rintro e w8 ⟨A8, c8, rfl, ho8, hb8⟩
  have HB8 := hid hb8
  have HO8 := hid ho8
  clear hb8 ho8
  go_wp2_with fail
  refine (compact_bel w7 w8 _ (ofN ns) HB8.out HO8.out).mono ?_
  rintro e w9 ⟨A9, m9, c9, rfl, hle9, hiff9, hb⟩
  rw [length_ofN, HL.out] at hle9 hiff9
  rw [noTwinI_ofN] at hiff9
  have hm9 : m9 = n := hiff9.2 HTW.out
  have hm9i : ¬ (m9 : Int) < (n : Int) := by omega
  clear hm9
  clear hiff9 hle9
  have HB6 := hid (below_step HB5.out (Nat.le_refl _) hb)
  have HA6 : Hid (All w9 [(A6, n6, (conj (ofN ns))), (A4, n4, (ofN (unl (fun d => ns.count d) 40))), (A3, n3, (ofN (down (cO ns) 40))), (A2, n2, (conj (ofN ns))), (A, n, (ofN ns))]) := HA5.out.keep hb
  clear HA5 HB5
  have HT6 := hid (HT5.out.keep hb)
  clear HT5
  clear hb
  go_wp2_with fail
  refine (halved_any A n c ns _ (HA6.out.2.2.2.2.1) HP.out).mono ?_
  rintro e w10 ⟨v10, rfl, ho10, hb⟩
  obtain ⟨A10, c10, rfl, hI, _⟩ := ho10.ints
  clear ho10
  have hl10 : (ofN (down (cO ns) 40)).length ≤ 40 := by rw [length_ofN]; exact part_lenN (there_back HP.out HTW.out).1
  have HB7 := hid (below_step HB6.out (Nat.le_refl _) hb)
  have HA7 : Hid (All w10 [(A10, (ofN (down (cO ns) 40)).length, (ofN (down (cO ns) 40))), (A6, n6, (conj (ofN ns))), (A4, n4, (ofN (unl (fun d => ns.count d) 40))), (A3, n3, (ofN (down (cO ns) 40))), (A2, n2, (conj (ofN ns))), (A, n, (ofN ns))]) := ⟨hI, HA6.out.keep hb⟩
  clear HA6 HB6
  have HT7 := hid (HT6.out.keep hb)
  clear HT6
  clear hb hI
  generalize hL10 : (ofN (down (cO ns) 40)).length = n10 at *
  clear hL10
  go_wp2_with fail
  refine (alike_bel A3 n3 c3 A10 n10 c10 (ofN (down (cO ns) 40)) (ofN (down (cO ns) 40)) _ HA7.out.2.2.2.1 HA7.out.1 (by omega) (by omega)).mono ?_
  rintro e w11 ⟨rfl, hb⟩
  have HB8 := hid (below_step HB7.out (Nat.le_refl _) hb)
  have HA8 : Hid (All w11 [(A10, n10, (ofN (down (cO ns) 40))), (A6, n6, (conj (ofN ns))), (A4, n4, (ofN (unl (fun d => ns.count d) 40))), (A3, n3, (ofN (down (cO ns) 40))), (A2, n2, (conj (ofN ns))), (A, n, (ofN ns))]) := HA7.out.keep hb
  clear HA7 HB7
  have HT8 := hid (HT7.out.keep hb)
  clear HT7
  clear hb
  rw [show decide (ofN (down (cO ns) 40) = ofN (down (cO ns) 40)) = true by simp]
  go_wp2_with fail
  refine (containsFunc_evS A n c ns _ HA8.out.2.2.2.2.2.1 (by omega) (fun x hx => (part_mem HP.out hx).2)).mono ?_
  rintro e w' ⟨rfl, rfl⟩
  rw [hasEven_false.2 HEV.out]
  have HUQ : Hid (unl (cO ns) 40 = unl (fun d => ns.count d) 40) := unl_congr 40 (fun x _ _ => cO_odd HEV.out _)
  go_wp2_with fail
  refine (doubled_any A n c ns _ (HA8.out.2.2.2.2.2.1) HP.out).mono ?_
  rintro e w12 ⟨v12, rfl, ho12, hb⟩
  rw [HUQ.out] at ho12
  obtain ⟨A12, c12, rfl, hI, _⟩ := ho12.ints
  clear ho12
  have hl12 : (ofN (unl (fun d => ns.count d) 40)).length ≤ 40 := by rw [length_ofN]; exact length_unl _ 40
  have HB9 := hid (below_step HB8.out (Nat.le_refl _) hb)
  have HA9 : Hid (All w12 [(A12, (ofN (unl (fun d => ns.count d) 40)).length, (ofN (unl (fun d => ns.count d) 40))), (A10, n10, (ofN (down (cO ns) 40))), (A6, n6, (conj (ofN ns))), (A4, n4, (ofN (unl (fun d => ns.count d) 40))), (A3, n3, (ofN (down (cO ns) 40))), (A2, n2, (conj (ofN ns))), (A, n, (ofN ns))]) := ⟨hI, HA8.out.keep hb⟩
  clear HA8 HB8
  have HT9 := hid (HT8.out.keep hb)
  clear HT8
  clear hb hI
  generalize hL12 : (ofN (unl (fun d => ns.count d) 40)).length = n12 at *
  clear hL12
  go_wp2_with fail
  refine (alike_bel A4 n4 c4 A12 n12 c12 (ofN (unl (fun d => ns.count d) 40)) (ofN (unl (fun d => ns.count d) 40)) _ HA9.out.2.2.2.1 HA9.out.1 (by omega) (by omega)).mono ?_
  rintro e w13 ⟨rfl, hb⟩
  have HB10 := hid (below_step HB9.out (Nat.le_refl _) hb)
  have HA10 : Hid (All w13 [(A12, n12, (ofN (unl (fun d => ns.count d) 40))), (A10, n10, (ofN (down (cO ns) 40))), (A6, n6, (conj (ofN ns))), (A4, n4, (ofN (unl (fun d => ns.count d) 40))), (A3, n3, (ofN (down (cO ns) 40))), (A2, n2, (conj (ofN ns))), (A, n, (ofN ns))]) := HA9.out.keep hb
  clear HA9 HB9
  have HT10 := hid (HT9.out.keep hb)
  clear HT9
  clear hb
  rw [show decide (ofN (unl (fun d => ns.count d) 40) = ofN (unl (fun d => ns.count d) 40)) = true by simp]
  go_wp2
  go_ret
  exact ⟨rfl, HB10.out⟩

set_option maxHeartbeats 4000000 in
set_option maxRecDepth 100000 in
theorem partsSay_n1_bad (A : Option Addr) (n c : Nat) (xs : List Int) (N M : Int) (w : World) (h : Ints w A n xs) (ht : Tab64 w) (h0 : ¬ N < 0) (h1 : 40 < N) (hm : n ≤ 9223372036854775807) (he : partErr xs ≠ 0) :
    Calls Tryd.prog 3 #[.slice A n c, .int .i64 N, .int .i64 M] w fun e w' => e = .returned (.bool true) ∧ Below w.heap.size w w' := by
  have HB0 := hid (Below.refl w.heap.size w)
  have HA0 : Hid (All w [(A, n, xs)]) := ⟨h, trivial⟩
  have HT0 := hid ht
  clear ht
  generalize hq : partErr xs = er at *
  have HQ := hid hq
  have HE : Hid (partErr xs ≠ 0) := by rw [HQ.out]; exact he
  have hne : (er != 0) = true := by simpa using he
  have hss : (er != er) = false := by simp
  clear hq he h
  go_enter Tryd.func3, Tryd.ntmps3
  go_wp2_with fail
  refine (count_off N M _ (by omega)).mono ?_
  rintro e w' ⟨rfl, rfl⟩
  go_wp2_with fail
  refine (turned_bad A n c xs _ HA0.out.1 hm HE.out).mono ?_
  rintro e w' ⟨rfl, rfl⟩
  rw [HQ.out]
  go_wp2_with fail
  refine (odd_bad A n c xs _ HA0.out.1 hm HE.out).mono ?_
  rintro e w' ⟨rfl, rfl⟩
  rw [HQ.out]
  go_wp2_with fail
  refine (unlike_bad A n c xs _ HA0.out.1 hm HE.out).mono ?_
  rintro e w' ⟨rfl, rfl⟩
  rw [HQ.out]
  go_wp2_with fail
  refine (sumErr_any A n c xs _ HA0.out.1 (by omega)).mono ?_
  rintro e w' ⟨rfl, rfl⟩
  rw [HQ.out]
  go_wp2_with fail
  refine (pcheck_any A n c xs _ HA0.out.1 (by omega)).mono ?_
  rintro e w' ⟨rfl, rfl⟩
  rw [HQ.out]
  go_wp2
  go_ret
  exact ⟨rfl, HB0.out⟩

set_option maxHeartbeats 4000000 in
set_option maxRecDepth 100000 in
theorem partsSay_n1_te (A : Option Addr) (n c : Nat) (ns : List Nat) (N M : Int) (w : World) (h : Ints w A n (ofN ns)) (ht : Tab64 w) (h0 : ¬ N < 0) (h1 : 40 < N) (hp : IsPart (ofN ns)) (htw : ¬ NoTwin ns ns.length) (hev : ¬ ∀ x ∈ ns, x % 2 = 1) :
    Calls Tryd.prog 3 #[.slice A n c, .int .i64 N, .int .i64 M] w fun e w' => e = .returned (.bool true) ∧ Below w.heap.size w w' := by
  have HB0 := hid (Below.refl w.heap.size w)
  have HA0 : Hid (All w [(A, n, (ofN ns))]) := ⟨h, trivial⟩
  have HT0 := hid ht
  clear ht
  have hn40 : n ≤ 40 := by rw [← h.len, length_ofN]; exact part_lenN hp
  have HL : Hid (ns.length = n) := by rw [← length_ofN]; exact h.len
  have HP := hid hp
  have HTW := hid htw
  have HEV := hid hev
  clear hp htw hev h
  go_enter Tryd.func3, Tryd.ntmps3
  go_wp2_with fail
  refine (count_off N M _ (by omega)).mono ?_
  rintro e w' ⟨rfl, rfl⟩
  go_wp2_with fail
  refine (turned_ok A n c (ofN ns) _ HA0.out.1 HP.out).mono ?_
  rintro e w2 ⟨A2, n2, c2, rfl, hb, hI, _⟩
  have hn2 : n2 ≤ 40 := by rw [← hI.len]; exact (isPart_conj HP.out).length_le
  have HB1 := hid (below_step HB0.out (Nat.le_refl _) hb)
  have HA1 : Hid (All w2 [(A2, n2, (conj (ofN ns))), (A, n, (ofN ns))]) := ⟨hI, HA0.out.keep hb⟩
  clear HA0 HB0
  have HT1 := hid (HT0.out.keep hb)
  clear HT0
  clear hb hI
  go_wp2_with fail
  refine (odd_any A n c ns _ (HA1.out.2.1) HP.out HT1.out).mono ?_
  rintro e w3 (⟨_, rfl, hb⟩ | ⟨hno, _⟩)
  rotate_left
  · exact absurd hno HTW.out
  have HB2 := hid (below_step HB1.out (Nat.le_refl _) hb)
  have HA2 : Hid (All w3 [(A2, n2, (conj (ofN ns))), (A, n, (ofN ns))]) := HA1.out.keep hb
  clear HA1 HB1
  have HT2 := hid (HT1.out.keep hb)
  clear HT1
  clear hb
  go_wp2_with fail
  refine (unlike_any A n c ns _ (HA2.out.2.1) HP.out HT2.out).mono ?_
  rintro e w4 (⟨_, rfl, hb⟩ | ⟨hno, _⟩)
  rotate_left
  · exact absurd hno HEV.out
  have HB3 := hid (below_step HB2.out (Nat.le_refl _) hb)
  have HA3 : Hid (All w4 [(A2, n2, (conj (ofN ns))), (A, n, (ofN ns))]) := HA2.out.keep hb
  clear HA2 HB2
  have HT3 := hid (HT2.out.keep hb)
  clear HT2
  clear hb
  go_wp2_with fail
  refine (sumErr_any A n c (ofN ns) _ HA3.out.2.1 (by omega)).mono ?_
  rintro e w' ⟨rfl, rfl⟩
  rw [partErr_ok HP.out]
  go_wp2_with fail
  refine (pcheck_any A n c (ofN ns) _ HA3.out.2.1 (by omega)).mono ?_
  rintro e w' ⟨rfl, rfl⟩
  rw [partErr_ok HP.out]
  have HTU := hid (isPart_conj HP.out)
  go_wp2_with fail
  refine (turnedOf_any A n c (ofN ns) _ (HA3.out.2.1) HP.out).mono ?_
  rintro e w6 ⟨v6, rfl, ho6, hb⟩
  obtain ⟨A6, c6, rfl, hI, _⟩ := ho6.ints
  clear ho6
  have hl6 : (conj (ofN ns)).length ≤ 40 := HTU.out.length_le
  have HB4 := hid (below_step HB3.out (Nat.le_refl _) hb)
  have HA4 : Hid (All w6 [(A6, (conj (ofN ns)).length, (conj (ofN ns))), (A2, n2, (conj (ofN ns))), (A, n, (ofN ns))]) := ⟨hI, HA3.out.keep hb⟩
  clear HA3 HB3
  have HT4 := hid (HT3.out.keep hb)
  clear HT3
  clear hb hI
  generalize hL6 : (conj (ofN ns)).length = n6 at *
  clear hL6
  go_wp2_with fail
  refine (alike_bel A2 n2 c2 A6 n6 c6 (conj (ofN ns)) (conj (ofN ns)) _ HA4.out.2.1 HA4.out.1 (by omega) (by omega)).mono ?_
  rintro e w7 ⟨rfl, hb⟩
  have HB5 := hid (below_step HB4.out (Nat.le_refl _) hb)
  have HA5 : Hid (All w7 [(A6, n6, (conj (ofN ns))), (A2, n2, (conj (ofN ns))), (A, n, (ofN ns))]) := HA4.out.keep hb
  clear HA4 HB4
  have HT5 := hid (HT4.out.keep hb)
  clear HT4
  clear hb
  rw [show decide (conj (ofN ns) = conj (ofN ns)) = true by simp]
  go_wp2_with fail
  refine (clone_bel A n c (ofN ns) _ (HA5.out.2.2.1) (by omega)).mono ?_
  rintro e w8 ⟨A8, c8, rfl, ho8, hb8⟩
  have HB8 := hid hb8
  have HO8 := hid ho8
  clear hb8 ho8
  go_wp2_with fail
  refine (compact_bel w7 w8 _ (ofN ns) HB8.out HO8.out).mono ?_
  rintro e w9 ⟨A9, m9, c9, rfl, hle9, hiff9, hb⟩
  rw [length_ofN, HL.out] at hle9 hiff9
  rw [noTwinI_ofN] at hiff9
  have hm9 : m9 < n := by
    rcases Nat.lt_or_ge m9 n with h9 | h9
    · exact h9
    · exact absurd (hiff9.1 (by omega)) HTW.out
  have hm9i : (m9 : Int) < (n : Int) := by omega
  clear hiff9 hle9
  have HB6 := hid (below_step HB5.out (Nat.le_refl _) hb)
  have HA6 : Hid (All w9 [(A6, n6, (conj (ofN ns))), (A2, n2, (conj (ofN ns))), (A, n, (ofN ns))]) := HA5.out.keep hb
  clear HA5 HB5
  have HT6 := hid (HT5.out.keep hb)
  clear HT5
  clear hb
  go_wp2_with fail
  refine (containsFunc_evS A n c ns _ HA6.out.2.2.1 (by omega) (fun x hx => (part_mem HP.out hx).2)).mono ?_
  rintro e w' ⟨rfl, rfl⟩
  rw [show hasEven ns = true by rw [← Bool.not_eq_false]; exact fun h => HEV.out (hasEven_false.1 h)]
  go_wp2
  go_ret
  exact ⟨rfl, HB6.out⟩

set_option maxHeartbeats 4000000 in
set_option maxRecDepth 100000 in
theorem partsSay_n1_to (A : Option Addr) (n c : Nat) (ns : List Nat) (N M : Int) (w : World) (h : Ints w A n (ofN ns)) (ht : Tab64 w) (h0 : ¬ N < 0) (h1 : 40 < N) (hp : IsPart (ofN ns)) (htw : ¬ NoTwin ns ns.length) (hev : ∀ x ∈ ns, x % 2 = 1) :
    Calls Tryd.prog 3 #[.slice A n c, .int .i64 N, .int .i64 M] w fun e w' => e = .returned (.bool true) ∧ Below w.heap.size w w' := by
  have HB0 := hid (Below.refl w.heap.size w)
  have HA0 : Hid (All w [(A, n, (ofN ns))]) := ⟨h, trivial⟩
  have HT0 := hid ht
  clear ht
  have hn40 : n ≤ 40 := by rw [← h.len, length_ofN]; exact part_lenN hp
  have HL : Hid (ns.length = n) := by rw [← length_ofN]; exact h.len
  have HP := hid hp
  have HTW := hid htw
  have HEV := hid hev
  clear hp htw hev h
  go_enter Tryd.func3, Tryd.ntmps3
  go_wp2_with fail
  refine (count_off N M _ (by omega)).mono ?_
  rintro e w' ⟨rfl, rfl⟩
  go_wp2_with fail
  refine (turned_ok A n c (ofN ns) _ HA0.out.1 HP.out).mono ?_
  rintro e w2 ⟨A2, n2, c2, rfl, hb, hI, _⟩
  have hn2 : n2 ≤ 40 := by rw [← hI.len]; exact (isPart_conj HP.out).length_le
  have HB1 := hid (below_step HB0.out (Nat.le_refl _) hb)
  have HA1 : Hid (All w2 [(A2, n2, (conj (ofN ns))), (A, n, (ofN ns))]) := ⟨hI, HA0.out.keep hb⟩
  clear HA0 HB0
  have HT1 := hid (HT0.out.keep hb)
  clear HT0
  clear hb hI
  go_wp2_with fail
  refine (odd_any A n c ns _ (HA1.out.2.1) HP.out HT1.out).mono ?_
  rintro e w3 (⟨_, rfl, hb⟩ | ⟨hno, _⟩)
  rotate_left
  · exact absurd hno HTW.out
  have HB2 := hid (below_step HB1.out (Nat.le_refl _) hb)
  have HA2 : Hid (All w3 [(A2, n2, (conj (ofN ns))), (A, n, (ofN ns))]) := HA1.out.keep hb
  clear HA1 HB1
  have HT2 := hid (HT1.out.keep hb)
  clear HT1
  clear hb
  go_wp2_with fail
  refine (unlike_any A n c ns _ (HA2.out.2.1) HP.out HT2.out).mono ?_
  rintro e w4 (⟨hno, _⟩ | ⟨_, A4, n4, c4, rfl, hb, hI, _⟩)
  · exact absurd HEV.out hno
  have HBT := hid (back_there HP.out HEV.out)
  have hn4 : n4 ≤ 40 := by rw [← hI.len, length_ofN]; exact part_lenN HBT.out.1
  have HB3 := hid (below_step HB2.out (Nat.le_refl _) hb)
  have HA3 : Hid (All w4 [(A4, n4, (ofN (unl (fun d => ns.count d) 40))), (A2, n2, (conj (ofN ns))), (A, n, (ofN ns))]) := ⟨hI, HA2.out.keep hb⟩
  clear HA2 HB2
  have HT3 := hid (HT2.out.keep hb)
  clear HT2
  clear hb hI HBT
  go_wp2_with fail
  refine (sumErr_any A n c (ofN ns) _ HA3.out.2.2.1 (by omega)).mono ?_
  rintro e w' ⟨rfl, rfl⟩
  rw [partErr_ok HP.out]
  go_wp2_with fail
  refine (pcheck_any A n c (ofN ns) _ HA3.out.2.2.1 (by omega)).mono ?_
  rintro e w' ⟨rfl, rfl⟩
  rw [partErr_ok HP.out]
  have HTU := hid (isPart_conj HP.out)
  go_wp2_with fail
  refine (turnedOf_any A n c (ofN ns) _ (HA3.out.2.2.1) HP.out).mono ?_
  rintro e w6 ⟨v6, rfl, ho6, hb⟩
  obtain ⟨A6, c6, rfl, hI, _⟩ := ho6.ints
  clear ho6
  have hl6 : (conj (ofN ns)).length ≤ 40 := HTU.out.length_le
  have HB4 := hid (below_step HB3.out (Nat.le_refl _) hb)
  have HA4 : Hid (All w6 [(A6, (conj (ofN ns)).length, (conj (ofN ns))), (A4, n4, (ofN (unl (fun d => ns.count d) 40))), (A2, n2, (conj (ofN ns))), (A, n, (ofN ns))]) := ⟨hI, HA3.out.keep hb⟩
  clear HA3 HB3
  have HT4 := hid (HT3.out.keep hb)
  clear HT3
  clear hb hI
  generalize hL6 : (conj (ofN ns)).length = n6 at *
  clear hL6
  go_wp2_with fail
  refine (alike_bel A2 n2 c2 A6 n6 c6 (conj (ofN ns)) (conj (ofN ns)) _ HA4.out.2.2.1 HA4.out.1 (by omega) (by omega)).mono ?_
  rintro e w7 ⟨rfl, hb⟩
  have HB5 := hid (below_step HB4.out (Nat.le_refl _) hb)
  have HA5 : Hid (All w7 [(A6, n6, (conj (ofN ns))), (A4, n4, (ofN (unl (fun d => ns.count d) 40))), (A2, n2, (conj (ofN ns))), (A, n, (ofN ns))]) := HA4.out.keep hb
  clear HA4 HB4
  have HT5 := hid (HT4.out.keep hb)
  clear HT4
  clear hb
  rw [show decide (conj (ofN ns) = conj (ofN ns)) = true by simp]
  go_wp2_with fail
  refine (clone_bel A n c (ofN ns) _ (HA5.out.2.2.2.1) (by omega)).mono ?_
  rintro e w8 ⟨A8, c8, rfl, ho8, hb8⟩
  have HB8 := hid hb8
  have HO8 := hid ho8
  clear hb8 ho8
  go_wp2_with fail
  refine (compact_bel w7 w8 _ (ofN ns) HB8.out HO8.out).mono ?_
  rintro e w9 ⟨A9, m9, c9, rfl, hle9, hiff9, hb⟩
  rw [length_ofN, HL.out] at hle9 hiff9
  rw [noTwinI_ofN] at hiff9
  have hm9 : m9 < n := by
    rcases Nat.lt_or_ge m9 n with h9 | h9
    · exact h9
    · exact absurd (hiff9.1 (by omega)) HTW.out
  have hm9i : (m9 : Int) < (n : Int) := by omega
  clear hiff9 hle9
  have HB6 := hid (below_step HB5.out (Nat.le_refl _) hb)
  have HA6 : Hid (All w9 [(A6, n6, (conj (ofN ns))), (A4, n4, (ofN (unl (fun d => ns.count d) 40))), (A2, n2, (conj (ofN ns))), (A, n, (ofN ns))]) := HA5.out.keep hb
  clear HA5 HB5
  have HT6 := hid (HT5.out.keep hb)
  clear HT5
  clear hb
  go_wp2_with fail
  refine (containsFunc_evS A n c ns _ HA6.out.2.2.2.1 (by omega) (fun x hx => (part_mem HP.out hx).2)).mono ?_
  rintro e w' ⟨rfl, rfl⟩
  rw [hasEven_false.2 HEV.out]
  have HUQ : Hid (unl (cO ns) 40 = unl (fun d => ns.count d) 40) := unl_congr 40 (fun x _ _ => cO_odd HEV.out _)
  go_wp2_with fail
  refine (doubled_any A n c ns _ (HA6.out.2.2.2.1) HP.out).mono ?_
  rintro e w12 ⟨v12, rfl, ho12, hb⟩
  rw [HUQ.out] at ho12
  obtain ⟨A12, c12, rfl, hI, _⟩ := ho12.ints
  clear ho12
  have hl12 : (ofN (unl (fun d => ns.count d) 40)).length ≤ 40 := by rw [length_ofN]; exact length_unl _ 40
  have HB7 := hid (below_step HB6.out (Nat.le_refl _) hb)
  have HA7 : Hid (All w12 [(A12, (ofN (unl (fun d => ns.count d) 40)).length, (ofN (unl (fun d => ns.count d) 40))), (A6, n6, (conj (ofN ns))), (A4, n4, (ofN (unl (fun d => ns.count d) 40))), (A2, n2, (conj (ofN ns))), (A, n, (ofN ns))]) := ⟨hI, HA6.out.keep hb⟩
  clear HA6 HB6
  have HT7 := hid (HT6.out.keep hb)
  clear HT6
  clear hb hI
  generalize hL12 : (ofN (unl (fun d => ns.count d) 40)).length = n12 at *
  clear hL12
  go_wp2_with fail
  refine (alike_bel A4 n4 c4 A12 n12 c12 (ofN (unl (fun d => ns.count d) 40)) (ofN (unl (fun d => ns.count d) 40)) _ HA7.out.2.2.1 HA7.out.1 (by omega) (by omega)).mono ?_
  rintro e w13 ⟨rfl, hb⟩
  have HB8 := hid (below_step HB7.out (Nat.le_refl _) hb)
  have HA8 : Hid (All w13 [(A12, n12, (ofN (unl (fun d => ns.count d) 40))), (A6, n6, (conj (ofN ns))), (A4, n4, (ofN (unl (fun d => ns.count d) 40))), (A2, n2, (conj (ofN ns))), (A, n, (ofN ns))]) := HA7.out.keep hb
  clear HA7 HB7
  have HT8 := hid (HT7.out.keep hb)
  clear HT7
  clear hb
  rw [show decide (ofN (unl (fun d => ns.count d) 40) = ofN (unl (fun d => ns.count d) 40)) = true by simp]
  go_wp2
  go_ret
  exact ⟨rfl, HB8.out⟩

set_option maxHeartbeats 4000000 in
set_option maxRecDepth 100000 in
theorem partsSay_n1_oe (A : Option Addr) (n c : Nat) (ns : List Nat) (N M : Int) (w : World) (h : Ints w A n (ofN ns)) (ht : Tab64 w) (h0 : ¬ N < 0) (h1 : 40 < N) (hp : IsPart (ofN ns)) (htw : NoTwin ns ns.length) (hev : ¬ ∀ x ∈ ns, x % 2 = 1) :
    Calls Tryd.prog 3 #[.slice A n c, .int .i64 N, .int .i64 M] w fun e w' => e = .returned (.bool true) ∧ Below w.heap.size w w' := by
  have HB0 := hid (Below.refl w.heap.size w)
  have HA0 : Hid (All w [(A, n, (ofN ns))]) := ⟨h, trivial⟩
  have HT0 := hid ht
  clear ht
  have hn40 : n ≤ 40 := by rw [← h.len, length_ofN]; exact part_lenN hp
  have HL : Hid (ns.length = n) := by rw [← length_ofN]; exact h.len
  have HP := hid hp
  have HTW := hid htw
  have HEV := hid hev
  clear hp htw hev h
  go_enter Tryd.func3, Tryd.ntmps3
  go_wp2_with fail
  refine (count_off N M _ (by omega)).mono ?_
  rintro e w' ⟨rfl, rfl⟩
  go_wp2_with fail
  refine (turned_ok A n c (ofN ns) _ HA0.out.1 HP.out).mono ?_
  rintro e w2 ⟨A2, n2, c2, rfl, hb, hI, _⟩
  have hn2 : n2 ≤ 40 := by rw [← hI.len]; exact (isPart_conj HP.out).length_le
  have HB1 := hid (below_step HB0.out (Nat.le_refl _) hb)
  have HA1 : Hid (All w2 [(A2, n2, (conj (ofN ns))), (A, n, (ofN ns))]) := ⟨hI, HA0.out.keep hb⟩
  clear HA0 HB0
  have HT1 := hid (HT0.out.keep hb)
  clear HT0
  clear hb hI
  go_wp2_with fail
  refine (odd_any A n c ns _ (HA1.out.2.1) HP.out HT1.out).mono ?_
  rintro e w3 (⟨hno, _⟩ | ⟨_, A3, n3, c3, rfl, hb, hI, _⟩)
  · exact absurd HTW.out hno
  have HTB := hid (there_back HP.out HTW.out)
  have hn3 : n3 ≤ 40 := by rw [← hI.len, length_ofN]; exact part_lenN HTB.out.1
  have HB2 := hid (below_step HB1.out (Nat.le_refl _) hb)
  have HA2 : Hid (All w3 [(A3, n3, (ofN (down (cO ns) 40))), (A2, n2, (conj (ofN ns))), (A, n, (ofN ns))]) := ⟨hI, HA1.out.keep hb⟩
  clear HA1 HB1
  have HT2 := hid (HT1.out.keep hb)
  clear HT1
  clear hb hI HTB
  go_wp2_with fail
  refine (unlike_any A n c ns _ (HA2.out.2.2.1) HP.out HT2.out).mono ?_
  rintro e w4 (⟨_, rfl, hb⟩ | ⟨hno, _⟩)
  rotate_left
  · exact absurd hno HEV.out
  have HB3 := hid (below_step HB2.out (Nat.le_refl _) hb)
  have HA3 : Hid (All w4 [(A3, n3, (ofN (down (cO ns) 40))), (A2, n2, (conj (ofN ns))), (A, n, (ofN ns))]) := HA2.out.keep hb
  clear HA2 HB2
  have HT3 := hid (HT2.out.keep hb)
  clear HT2
  clear hb
  go_wp2_with fail
  refine (sumErr_any A n c (ofN ns) _ HA3.out.2.2.1 (by omega)).mono ?_
  rintro e w' ⟨rfl, rfl⟩
  rw [partErr_ok HP.out]
  go_wp2_with fail
  refine (pcheck_any A n c (ofN ns) _ HA3.out.2.2.1 (by omega)).mono ?_
  rintro e w' ⟨rfl, rfl⟩
  rw [partErr_ok HP.out]
  have HTU := hid (isPart_conj HP.out)
  go_wp2_with fail
  refine (turnedOf_any A n c (ofN ns) _ (HA3.out.2.2.1) HP.out).mono ?_
  rintro e w6 ⟨v6, rfl, ho6, hb⟩
  obtain ⟨A6, c6, rfl, hI, _⟩ := ho6.ints
  clear ho6
  have hl6 : (conj (ofN ns)).length ≤ 40 := HTU.out.length_le
  have HB4 := hid (below_step HB3.out (Nat.le_refl _) hb)
  have HA4 : Hid (All w6 [(A6, (conj (ofN ns)).length, (conj (ofN ns))), (A3, n3, (ofN (down (cO ns) 40))), (A2, n2, (conj (ofN ns))), (A, n, (ofN ns))]) := ⟨hI, HA3.out.keep hb⟩
  clear HA3 HB3
  have HT4 := hid (HT3.out.keep hb)
  clear HT3
  clear hb hI
  generalize hL6 : (conj (ofN ns)).length = n6 at *
  clear hL6
  go_wp2_with fail
  refine (alike_bel A2 n2 c2 A6 n6 c6 (conj (ofN ns)) (conj (ofN ns)) _ HA4.out.2.2.1 HA4.out.1 (by omega) (by omega)).mono ?_
  rintro e w7 ⟨rfl, hb⟩
  have HB5 := hid (below_step HB4.out (Nat.le_refl _) hb)
  have HA5 : Hid (All w7 [(A6, n6, (conj (ofN ns))), (A3, n3, (ofN (down (cO ns) 40))), (A2, n2, (conj (ofN ns))), (A, n, (ofN ns))]) := HA4.out.keep hb
  clear HA4 HB4
  have HT5 := hid (HT4.out.keep hb)
  clear HT4
  clear hb
  rw [show decide (conj (ofN ns) = conj (ofN ns)) = true by simp]
  go_wp2_with fail
  refine (clone_bel A n c (ofN ns) _ (HA5.out.2.2.2.1) (by omega)).mono ?_
  rintro e w8 ⟨A8, c8, rfl, ho8, hb8⟩
  have HB8 := hid hb8
  have HO8 := hid ho8
  clear hb8 ho8
  go_wp2_with fail
  refine (compact_bel w7 w8 _ (ofN ns) HB8.out HO8.out).mono ?_
  rintro e w9 ⟨A9, m9, c9, rfl, hle9, hiff9, hb⟩
  rw [length_ofN, HL.out] at hle9 hiff9
  rw [noTwinI_ofN] at hiff9
  have hm9 : m9 = n := hiff9.2 HTW.out
  have hm9i : ¬ (m9 : Int) < (n : Int) := by omega
  clear hm9
  clear hiff9 hle9
  have HB6 := hid (below_step HB5.out (Nat.le_refl _) hb)
  have HA6 : Hid (All w9 [(A6, n6, (conj (ofN ns))), (A3, n3, (ofN (down (cO ns) 40))), (A2, n2, (conj (ofN ns))), (A, n, (ofN ns))]) := HA5.out.keep hb
  clear HA5 HB5
  have HT6 := hid (HT5.out.keep hb)
  clear HT5
  clear hb
  go_wp2_with fail
  refine (halved_any A n c ns _ (HA6.out.2.2.2.1) HP.out).mono ?_
  rintro e w10 ⟨v10, rfl, ho10, hb⟩
  obtain ⟨A10, c10, rfl, hI, _⟩ := ho10.ints
  clear ho10
  have hl10 : (ofN (down (cO ns) 40)).length ≤ 40 := by rw [length_ofN]; exact part_lenN (there_back HP.out HTW.out).1
  have HB7 := hid (below_step HB6.out (Nat.le_refl _) hb)
  have HA7 : Hid (All w10 [(A10, (ofN (down (cO ns) 40)).length, (ofN (down (cO ns) 40))), (A6, n6, (conj (ofN ns))), (A3, n3, (ofN (down (cO ns) 40))), (A2, n2, (conj (ofN ns))), (A, n, (ofN ns))]) := ⟨hI, HA6.out.keep hb⟩
  clear HA6 HB6
  have HT7 := hid (HT6.out.keep hb)
  clear HT6
  clear hb hI
  generalize hL10 : (ofN (down (cO ns) 40)).length = n10 at *
  clear hL10
  go_wp2_with fail
  refine (alike_bel A3 n3 c3 A10 n10 c10 (ofN (down (cO ns) 40)) (ofN (down (cO ns) 40)) _ HA7.out.2.2.1 HA7.out.1 (by omega) (by omega)).mono ?_
  rintro e w11 ⟨rfl, hb⟩
  have HB8 := hid (below_step HB7.out (Nat.le_refl _) hb)
  have HA8 : Hid (All w11 [(A10, n10, (ofN (down (cO ns) 40))), (A6, n6, (conj (ofN ns))), (A3, n3, (ofN (down (cO ns) 40))), (A2, n2, (conj (ofN ns))), (A, n, (ofN ns))]) := HA7.out.keep hb
  clear HA7 HB7
  have HT8 := hid (HT7.out.keep hb)
  clear HT7
  clear hb
  rw [show decide (ofN (down (cO ns) 40) = ofN (down (cO ns) 40)) = true by simp]
  go_wp2_with fail
  refine (containsFunc_evS A n c ns _ HA8.out.2.2.2.2.1 (by omega) (fun x hx => (part_mem HP.out hx).2)).mono ?_
  rintro e w' ⟨rfl, rfl⟩
  rw [show hasEven ns = true by rw [← Bool.not_eq_false]; exact fun h => HEV.out (hasEven_false.1 h)]
  go_wp2
  go_ret
  exact ⟨rfl, HB8.out⟩

set_option maxHeartbeats 4000000 in
set_option maxRecDepth 100000 in
theorem partsSay_n1_oo (A : Option Addr) (n c : Nat) (ns : List Nat) (N M : Int) (w : World) (h : Ints w A n (ofN ns)) (ht : Tab64 w) (h0 : ¬ N < 0) (h1 : 40 < N) (hp : IsPart (ofN ns)) (htw : NoTwin ns ns.length) (hev : ∀ x ∈ ns, x % 2 = 1) :
    Calls Tryd.prog 3 #[.slice A n c, .int .i64 N, .int .i64 M] w fun e w' => e = .returned (.bool true) ∧ Below w.heap.size w w' := by
  have HB0 := hid (Below.refl w.heap.size w)
  have HA0 : Hid (All w [(A, n, (ofN ns))]) := ⟨h, trivial⟩
  have HT0 := hid ht
  clear ht
  have hn40 : n ≤ 40 := by rw [← h.len, length_ofN]; exact part_lenN hp
  have HL : Hid (ns.length = n) := by rw [← length_ofN]; exact h.len
  have HP := hid hp
  have HTW := hid htw
  have HEV := hid hev
  clear hp htw hev h
  go_enter Tryd.func3, Tryd.ntmps3
  go_wp2_with fail
  refine (count_off N M _ (by omega)).mono ?_
  rintro e w' ⟨rfl, rfl⟩
  go_wp2_with fail
  refine (turned_ok A n c (ofN ns) _ HA0.out.1 HP.out).mono ?_
  rintro e w2 ⟨A2, n2, c2, rfl, hb, hI, _⟩
  have hn2 : n2 ≤ 40 := by rw [← hI.len]; exact (isPart_conj HP.out).length_le
  have HB1 := hid (below_step HB0.out (Nat.le_refl _) hb)
  have HA1 : Hid (All w2 [(A2, n2, (conj (ofN ns))), (A, n, (ofN ns))]) := ⟨hI, HA0.out.keep hb⟩
  clear HA0 HB0
  have HT1 := hid (HT0.out.keep hb)
  clear HT0
  clear hb hI
  go_wp2_with fail
  refine (odd_any A n c ns _ (HA1.out.2.1) HP.out HT1.out).mono ?_
  rintro e w3 (⟨hno, _⟩ | ⟨_, A3, n3, c3, rfl, hb, hI, _⟩)
  · exact absurd HTW.out hno
  have HTB := hid (there_back HP.out HTW.out)
  have hn3 : n3 ≤ 40 := by rw [← hI.len, length_ofN]; exact part_lenN HTB.out.1
  have HB2 := hid (below_step HB1.out (Nat.le_refl _) hb)
  have HA2 : Hid (All w3 [(A3, n3, (ofN (down (cO ns) 40))), (A2, n2, (conj (ofN ns))), (A, n, (ofN ns))]) := ⟨hI, HA1.out.keep hb⟩
  clear HA1 HB1
  have HT2 := hid (HT1.out.keep hb)
  clear HT1
  clear hb hI HTB
  go_wp2_with fail
  refine (unlike_any A n c ns _ (HA2.out.2.2.1) HP.out HT2.out).mono ?_
  rintro e w4 (⟨hno, _⟩ | ⟨_, A4, n4, c4, rfl, hb, hI, _⟩)
  · exact absurd HEV.out hno
  have HBT := hid (back_there HP.out HEV.out)
  have hn4 : n4 ≤ 40 := by rw [← hI.len, length_ofN]; exact part_lenN HBT.out.1
  have HB3 := hid (below_step HB2.out (Nat.le_refl _) hb)
  have HA3 : Hid (All w4 [(A4, n4, (ofN (unl (fun d => ns.count d) 40))), (A3, n3, (ofN (down (cO ns) 40))), (A2, n2, (conj (ofN ns))), (A, n, (ofN ns))]) := ⟨hI, HA2.out.keep hb⟩
  clear HA2 HB2
  have HT3 := hid (HT2.out.keep hb)
  clear HT2
  clear hb hI HBT
  go_wp2_with fail
  refine (sumErr_any A n c (ofN ns) _ HA3.out.2.2.2.1 (by omega)).mono ?_
  rintro e w' ⟨rfl, rfl⟩
  rw [partErr_ok HP.out]
  go_wp2_with fail
  refine (pcheck_any A n c (ofN ns) _ HA3.out.2.2.2.1 (by omega)).mono ?_
  rintro e w' ⟨rfl, rfl⟩
  rw [partErr_ok HP.out]
  have HTU := hid (isPart_conj HP.out)
  go_wp2_with fail
  refine (turnedOf_any A n c (ofN ns) _ (HA3.out.2.2.2.1) HP.out).mono ?_
  rintro e w6 ⟨v6, rfl, ho6, hb⟩
  obtain ⟨A6, c6, rfl, hI, _⟩ := ho6.ints
  clear ho6
  have hl6 : (conj (ofN ns)).length ≤ 40 := HTU.out.length_le
  have HB4 := hid (below_step HB3.out (Nat.le_refl _) hb)
  have HA4 : Hid (All w6 [(A6, (conj (ofN ns)).length, (conj (ofN ns))), (A4, n4, (ofN (unl (fun d => ns.count d) 40))), (A3, n3, (ofN (down (cO ns) 40))), (A2, n2, (conj (ofN ns))), (A, n, (ofN ns))]) := ⟨hI, HA3.out.keep hb⟩
  clear HA3 HB3
  have HT4 := hid (HT3.out.keep hb)
  clear HT3
  clear hb hI
  generalize hL6 : (conj (ofN ns)).length = n6 at *
  clear hL6
  go_wp2_with fail
  refine (alike_bel A2 n2 c2 A6 n6 c6 (conj (ofN ns)) (conj (ofN ns)) _ HA4.out.2.2.2.1 HA4.out.1 (by omega) (by omega)).mono ?_
  rintro e w7 ⟨rfl, hb⟩
  have HB5 := hid (below_step HB4.out (Nat.le_refl _) hb)
  have HA5 : Hid (All w7 [(A6, n6, (conj (ofN ns))), (A4, n4, (ofN (unl (fun d => ns.count d) 40))), (A3, n3, (ofN (down (cO ns) 40))), (A2, n2, (conj (ofN ns))), (A, n, (ofN ns))]) := HA4.out.keep hb
  clear HA4 HB4
  have HT5 := hid (HT4.out.keep hb)
  clear HT4
  clear hb
  rw [show decide (conj (ofN ns) = conj (ofN ns)) = true by simp]
  go_wp2_with fail
  refine (clone_bel A n c (ofN ns) _ (HA5.out.2.2.2.2.1) (by omega)).mono ?_
  rintro e w8 ⟨A8, c8, rfl, ho8, hb8⟩
  have HB8 := hid hb8
  have HO8 := hid ho8
  clear hb8 ho8
  go_wp2_with fail
  refine (compact_bel w7 w8 _ (ofN ns) HB8.out HO8.out).mono ?_
  rintro e w9 ⟨A9, m9, c9, rfl, hle9, hiff9, hb⟩
  rw [length_ofN, HL.out] at hle9 hiff9
  rw [noTwinI_ofN] at hiff9
  have hm9 : m9 = n := hiff9.2 HTW.out
  have hm9i : ¬ (m9 : Int) < (n : Int) := by omega
  clear hm9
  clear hiff9 hle9
  have HB6 := hid (below_step HB5.out (Nat.le_refl _) hb)
  have HA6 : Hid (All w9 [(A6, n6, (conj (ofN ns))), (A4, n4, (ofN (unl (fun d => ns.count d) 40))), (A3, n3, (ofN (down (cO ns) 40))), (A2, n2, (conj (ofN ns))), (A, n, (ofN ns))]) := HA5.out.keep hb
  clear HA5 HB5
  have HT6 := hid (HT5.out.keep hb)
  clear HT5
  clear hb
  go_wp2_with fail
  refine (halved_any A n c ns _ (HA6.out.2.2.2.2.1) HP.out).mono ?_
  rintro e w10 ⟨v10, rfl, ho10, hb⟩
  obtain ⟨A10, c10, rfl, hI, _⟩ := ho10.ints
  clear ho10
  have hl10 : (ofN (down (cO ns) 40)).length ≤ 40 := by rw [length_ofN]; exact part_lenN (there_back HP.out HTW.out).1
  have HB7 := hid (below_step HB6.out (Nat.le_refl _) hb)
  have HA7 : Hid (All w10 [(A10, (ofN (down (cO ns) 40)).length, (ofN (down (cO ns) 40))), (A6, n6, (conj (ofN ns))), (A4, n4, (ofN (unl (fun d => ns.count d) 40))), (A3, n3, (ofN (down (cO ns) 40))), (A2, n2, (conj (ofN ns))), (A, n, (ofN ns))]) := ⟨hI, HA6.out.keep hb⟩
  clear HA6 HB6
  have HT7 := hid (HT6.out.keep hb)
  clear HT6
  clear hb hI
  generalize hL10 : (ofN (down (cO ns) 40)).length = n10 at *
  clear hL10
  go_wp2_with fail
  refine (alike_bel A3 n3 c3 A10 n10 c10 (ofN (down (cO ns) 40)) (ofN (down (cO ns) 40)) _ HA7.out.2.2.2.1 HA7.out.1 (by omega) (by omega)).mono ?_
  rintro e w11 ⟨rfl, hb⟩
  have HB8 := hid (below_step HB7.out (Nat.le_refl _) hb)
  have HA8 : Hid (All w11 [(A10, n10, (ofN (down (cO ns) 40))), (A6, n6, (conj (ofN ns))), (A4, n4, (ofN (unl (fun d => ns.count d) 40))), (A3, n3, (ofN (down (cO ns) 40))), (A2, n2, (conj (ofN ns))), (A, n, (ofN ns))]) := HA7.out.keep hb
  clear HA7 HB7
  have HT8 := hid (HT7.out.keep hb)
  clear HT7
  clear hb
  rw [show decide (ofN (down (cO ns) 40) = ofN (down (cO ns) 40)) = true by simp]
  go_wp2_with fail
  refine (containsFunc_evS A n c ns _ HA8.out.2.2.2.2.2.1 (by omega) (fun x hx => (part_mem HP.out hx).2)).mono ?_
  rintro e w' ⟨rfl, rfl⟩
  rw [hasEven_false.2 HEV.out]
  have HUQ : Hid (unl (cO ns) 40 = unl (fun d => ns.count d) 40) := unl_congr 40 (fun x _ _ => cO_odd HEV.out _)
  go_wp2_with fail
  refine (doubled_any A n c ns _ (HA8.out.2.2.2.2.2.1) HP.out).mono ?_
  rintro e w12 ⟨v12, rfl, ho12, hb⟩
  rw [HUQ.out] at ho12
  obtain ⟨A12, c12, rfl, hI, _⟩ := ho12.ints
  clear ho12
  have hl12 : (ofN (unl (fun d => ns.count d) 40)).length ≤ 40 := by rw [length_ofN]; exact length_unl _ 40
  have HB9 := hid (below_step HB8.out (Nat.le_refl _) hb)
  have HA9 : Hid (All w12 [(A12, (ofN (unl (fun d => ns.count d) 40)).length, (ofN (unl (fun d => ns.count d) 40))), (A10, n10, (ofN (down (cO ns) 40))), (A6, n6, (conj (ofN ns))), (A4, n4, (ofN (unl (fun d => ns.count d) 40))), (A3, n3, (ofN (down (cO ns) 40))), (A2, n2, (conj (ofN ns))), (A, n, (ofN ns))]) := ⟨hI, HA8.out.keep hb⟩
  clear HA8 HB8
  have HT9 := hid (HT8.out.keep hb)
  clear HT8
  clear hb hI
  generalize hL12 : (ofN (unl (fun d => ns.count d) 40)).length = n12 at *
  clear hL12
  go_wp2_with fail
  refine (alike_bel A4 n4 c4 A12 n12 c12 (ofN (unl (fun d => ns.count d) 40)) (ofN (unl (fun d => ns.count d) 40)) _ HA9.out.2.2.2.1 HA9.out.1 (by omega) (by omega)).mono ?_
  rintro e w13 ⟨rfl, hb⟩
  have HB10 := hid (below_step HB9.out (Nat.le_refl _) hb)
  have HA10 : Hid (All w13 [(A12, n12, (ofN (unl (fun d => ns.count d) 40))), (A10, n10, (ofN (down (cO ns) 40))), (A6, n6, (conj (ofN ns))), (A4, n4, (ofN (unl (fun d => ns.count d) 40))), (A3, n3, (ofN (down (cO ns) 40))), (A2, n2, (conj (ofN ns))), (A, n, (ofN ns))]) := HA9.out.keep hb
  clear HA9 HB9
  have HT10 := hid (HT9.out.keep hb)
  clear HT9
  clear hb
  rw [show decide (ofN (unl (fun d => ns.count d) 40) = ofN (unl (fun d => ns.count d) 40)) = true by simp]
  go_wp2
  go_ret
  exact ⟨rfl, HB10.out⟩

end Go.Proofs.YteegddpoekphoaaDoor
