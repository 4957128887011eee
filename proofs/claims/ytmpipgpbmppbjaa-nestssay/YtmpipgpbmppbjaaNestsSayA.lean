/-
  castlaw.NestsSay, walked by cases.
-/
import Derived.Test.YtmpipgpbmppbjaaNestC
import Derived.Test.YtmpipgpbmppbjaaNestD
import Derived.Test.YtmpipgpbmppbjaaNestE
namespace Go.Proofs.Ytmpipgpbmppbjaa
open Go.RowKit

set_option maxHeartbeats 2000000 in
set_option maxRecDepth 100000 in
theorem nestsSay_AYN (s : ByteArray) (n k : Int) (a b : Int) (w : World) (hs : s.size ≤ maxLen) (hn : n < 0 ∨ 15 < n) (ha : a < 0) (hok : nestE s.data.toList = 0) :
    Calls Try.prog 3 #[.string s, .int .i64 n, .int .i64 k, .int .i64 a, .int .i64 b] w fun e w' => e = .returned (.bool true) ∧ Below w.heap.size w w' := by
  have HB0 := hid (Below.refl w.heap.size w)
  have HOK := hid hok
  obtain ⟨m, hm, hm15, _⟩ := nestE_zero hok
  have HM := hid hm
  clear hok hm
  go_enter Try.func3, Try.ntmps3
  go_wp2_with fail
  refine (ncount_bad n _ hn).mono ?_
  rintro e w' ⟨rfl, rfl⟩
  go_wp2_with fail
  refine (nof_ok s m _ HM.out hm15 HOK.out).mono ?_
  rintro e w1 ⟨rfl, hb⟩
  have HB1 := hid (below_step HB0.out (Nat.le_refl _) hb)
  clear hb HB0
  have hri := nrk_le s.data.toList m m (by omega) (by omega)
  rw [bytes_len, HM.out] at hri
  generalize hR : nrk s.data.toList m m = R at *
  have HR := hid hR
  clear hR
  go_wp2_with fail
  refine (nat_bad n k _ hn).mono ?_
  rintro e w' ⟨rfl, rfl⟩
  go_wp2_with fail
  refine (ahead_bad a b _ (by omega)).mono ?_
  rintro e w' ⟨rfl, rfl⟩
  go_wp2_with fail
  refine (nestErr_any s _ hs).mono ?_
  rintro e w' ⟨rfl, rfl⟩
  rw [HOK.out]
  go_wp2_with fail
  refine (nchk_any s _ hs).mono ?_
  rintro e w' ⟨rfl, rfl⟩
  rw [HOK.out]
  go_wp2_with fail
  refine (nestRank_ok s m _ HM.out hm15 HOK.out).mono ?_
  rintro e w2 ⟨rfl, hb⟩
  have HB2 := hid (below_step HB1.out (Nat.le_refl _) hb)
  clear hb HB1
  rw [HR.out]
  rcases hn with hn | hn
  · go_wp2
    go_ret
    exact ⟨rfl, HB2.out⟩
  · go_wp2
    go_ret
    exact ⟨rfl, HB2.out⟩

set_option maxHeartbeats 2000000 in
set_option maxRecDepth 100000 in
theorem nestsSay_AYK (s : ByteArray) (n : Nat) (k : Int) (a b : Int) (w : World) (hs : s.size ≤ maxLen) (hn : n ≤ 15) (hk : k < 0 ∨ (bal n n : Int) ≤ k) (ha : a < 0) (hok : nestE s.data.toList = 0) :
    Calls Try.prog 3 #[.string s, .int .i64 (n : Int), .int .i64 k, .int .i64 a, .int .i64 b] w fun e w' => e = .returned (.bool true) ∧ Below w.heap.size w w' := by
  have HB0 := hid (Below.refl w.heap.size w)
  have HOK := hid hok
  obtain ⟨m, hm, hm15, _⟩ := nestE_zero hok
  have HM := hid hm
  clear hok hm
  have HK := hid hk
  clear hk
  go_enter Try.func3, Try.ntmps3
  go_wp2_with fail
  refine (ncount_ok n _ hn).mono ?_
  rintro e w1 ⟨rfl, hb⟩
  have HB1 := hid (below_step HB0.out (Nat.le_refl _) hb)
  clear hb HB0
  go_wp2_with fail
  refine (nof_ok s m _ HM.out hm15 HOK.out).mono ?_
  rintro e w2 ⟨rfl, hb⟩
  have HB2 := hid (below_step HB1.out (Nat.le_refl _) hb)
  clear hb HB1
  have hri := nrk_le s.data.toList m m (by omega) (by omega)
  rw [bytes_len, HM.out] at hri
  generalize hR : nrk s.data.toList m m = R at *
  have HR := hid hR
  clear hR
  go_wp2_with fail
  refine (nat_badk n k _ hn HK.out).mono ?_
  rintro e w3 ⟨rfl, hb⟩
  have HB3 := hid (below_step HB2.out (Nat.le_refl _) hb)
  clear hb HB2
  go_wp2_with fail
  refine (ahead_bad a b _ (by omega)).mono ?_
  rintro e w' ⟨rfl, rfl⟩
  go_wp2_with fail
  refine (nestErr_any s _ hs).mono ?_
  rintro e w' ⟨rfl, rfl⟩
  rw [HOK.out]
  go_wp2_with fail
  refine (nchk_any s _ hs).mono ?_
  rintro e w' ⟨rfl, rfl⟩
  rw [HOK.out]
  go_wp2_with fail
  refine (nestRank_ok s m _ HM.out hm15 HOK.out).mono ?_
  rintro e w4 ⟨rfl, hb⟩
  have HB4 := hid (below_step HB3.out (Nat.le_refl _) hb)
  clear hb HB3
  rw [HR.out]
  go_wp2_with fail
  refine (reach_ok 0 _ n n (by omega) (by omega) _ hn (Nat.le_refl _)).mono ?_
  rintro e w5 ⟨rfl, hb⟩
  have HB5 := hid (below_step HB4.out (Nat.le_refl _) hb)
  clear hb HB4
  have hk := HK.out
  generalize bal n n = B at *
  rcases hk with hk | hk
  · go_wp2
    go_ret
    exact ⟨rfl, HB5.out⟩
  · go_wp2
    go_ret
    exact ⟨rfl, HB5.out⟩

set_option maxHeartbeats 2000000 in
set_option maxRecDepth 100000 in
theorem nestsSay_AYY (s : ByteArray) (n k : Nat) (a b : Int) (w : World) (hs : s.size ≤ maxLen) (hn : n ≤ 15) (hk : k < bal n n) (ha : a < 0) (hok : nestE s.data.toList = 0) :
    Calls Try.prog 3 #[.string s, .int .i64 (n : Int), .int .i64 (k : Int), .int .i64 a, .int .i64 b] w fun e w' => e = .returned (.bool true) ∧ Below w.heap.size w w' := by
  have HB0 := hid (Below.refl w.heap.size w)
  have HOK := hid hok
  obtain ⟨m, hm, hm15, _⟩ := nestE_zero hok
  have HM := hid hm
  clear hok hm
  have HK := hid hk
  clear hk
  go_enter Try.func3, Try.ntmps3
  go_wp2_with fail
  refine (ncount_ok n _ hn).mono ?_
  rintro e w1 ⟨rfl, hb⟩
  have HB1 := hid (below_step HB0.out (Nat.le_refl _) hb)
  clear hb HB0
  go_wp2_with fail
  refine (nof_ok s m _ HM.out hm15 HOK.out).mono ?_
  rintro e w2 ⟨rfl, hb⟩
  have HB2 := hid (below_step HB1.out (Nat.le_refl _) hb)
  clear hb HB1
  have hri := nrk_le s.data.toList m m (by omega) (by omega)
  rw [bytes_len, HM.out] at hri
  generalize hR : nrk s.data.toList m m = R at *
  have HR := hid hR
  clear hR
  go_wp2_with fail
  refine (nat_ok n k _ hn HK.out).mono ?_
  rintro e w3 ⟨rfl, hb⟩
  have HB3 := hid (below_step HB2.out (Nat.le_refl _) hb)
  clear hb HB2
  have HZ := hid (nun_bytes (n + n) n n k)
  have HE := hid (nun_nest (by omega) HK.out)
  have HF : Hid ((ByteArray.mk (nun (n + n) n n k).toArray).data.toList = nun (n + n) n n k) := rfl
  generalize ByteArray.mk (nun (n + n) n n k).toArray = t at *
  go_wp2_with fail
  refine (ahead_bad a b _ (by omega)).mono ?_
  rintro e w' ⟨rfl, rfl⟩
  go_wp2_with fail
  refine (nestErr_any s _ hs).mono ?_
  rintro e w' ⟨rfl, rfl⟩
  rw [HOK.out]
  go_wp2_with fail
  refine (nchk_any s _ hs).mono ?_
  rintro e w' ⟨rfl, rfl⟩
  rw [HOK.out]
  go_wp2_with fail
  refine (nestRank_ok s m _ HM.out hm15 HOK.out).mono ?_
  rintro e w4 ⟨rfl, hb⟩
  have HB4 := hid (below_step HB3.out (Nat.le_refl _) hb)
  clear hb HB3
  rw [HR.out]
  go_wp2_with fail
  refine (reach_ok 0 _ n n (by omega) (by omega) _ hn (Nat.le_refl _)).mono ?_
  rintro e w5 ⟨rfl, hb⟩
  have HB5 := hid (below_step HB4.out (Nat.le_refl _) hb)
  clear hb HB4
  have hd1 : decide (bal n n ≤ k) = false := decide_eq_false (by have := HK.out; omega)
  have hsz : ((t.size : Int) == 2 * (n : Int)) = true := by rw [HZ.out]; simp; omega
  have hkk := HK.out
  have hbl := bal_le (o := n) (c := n) (by omega) (by omega)
  generalize hB : bal n n = B at *
  clear hB
  go_wp2_with fail
  refine (nestErr_any t _ (by rw [HZ.out]; unfold maxLen; omega)).mono ?_
  rintro e w' ⟨rfl, rfl⟩
  rw [HF.out, HE.out.1]
  go_wp2_with fail
  refine (nestRank_ok t n _ HZ.out hn (by rw [HF.out]; exact HE.out.1)).mono ?_
  rintro e w6 ⟨rfl, hb⟩
  have HB6 := hid (below_step HB5.out (Nat.le_refl _) hb)
  clear hb HB5
  rw [HF.out, HE.out.2]
  go_wp2
  go_ret
  exact ⟨rfl, HB6.out⟩

set_option maxHeartbeats 2000000 in
set_option maxRecDepth 100000 in
theorem nestsSay_ANN (s : ByteArray) (n k : Int) (a b : Int) (w : World) (hs : s.size ≤ maxLen) (hn : n < 0 ∨ 15 < n) (ha : a < 0) (hbad : nestE s.data.toList ≠ 0) :
    Calls Try.prog 3 #[.string s, .int .i64 n, .int .i64 k, .int .i64 a, .int .i64 b] w fun e w' => e = .returned (.bool true) ∧ Below w.heap.size w w' := by
  have HB0 := hid (Below.refl w.heap.size w)
  have HBAD := hid hbad
  clear hbad
  go_enter Try.func3, Try.ntmps3
  go_wp2_with fail
  refine (ncount_bad n _ hn).mono ?_
  rintro e w' ⟨rfl, rfl⟩
  go_wp2_with fail
  refine (nof_bad s _ hs HBAD.out).mono ?_
  rintro e w' ⟨rfl, rfl⟩
  go_wp2_with fail
  refine (nat_bad n k _ hn).mono ?_
  rintro e w' ⟨rfl, rfl⟩
  go_wp2_with fail
  refine (ahead_bad a b _ (by omega)).mono ?_
  rintro e w' ⟨rfl, rfl⟩
  go_wp2_with fail
  refine (nestErr_any s _ hs).mono ?_
  rintro e w' ⟨rfl, rfl⟩
  go_wp2_with fail
  refine (nchk_any s _ hs).mono ?_
  rintro e w' ⟨rfl, rfl⟩
  have z1 : (nestE s.data.toList != 0) = true := by simpa using HBAD.out
  have z2 : (nestE s.data.toList == 0) = false := by simpa using HBAD.out
  generalize nestE s.data.toList = E at *
  rcases hn with hn | hn
  · go_wp2
    go_ret
    exact ⟨rfl, HB0.out⟩
  · go_wp2
    go_ret
    exact ⟨rfl, HB0.out⟩

set_option maxHeartbeats 2000000 in
set_option maxRecDepth 100000 in
theorem nestsSay_ANK (s : ByteArray) (n : Nat) (k : Int) (a b : Int) (w : World) (hs : s.size ≤ maxLen) (hn : n ≤ 15) (hk : k < 0 ∨ (bal n n : Int) ≤ k) (ha : a < 0) (hbad : nestE s.data.toList ≠ 0) :
    Calls Try.prog 3 #[.string s, .int .i64 (n : Int), .int .i64 k, .int .i64 a, .int .i64 b] w fun e w' => e = .returned (.bool true) ∧ Below w.heap.size w w' := by
  have HB0 := hid (Below.refl w.heap.size w)
  have HBAD := hid hbad
  clear hbad
  have HK := hid hk
  clear hk
  go_enter Try.func3, Try.ntmps3
  go_wp2_with fail
  refine (ncount_ok n _ hn).mono ?_
  rintro e w1 ⟨rfl, hb⟩
  have HB1 := hid (below_step HB0.out (Nat.le_refl _) hb)
  clear hb HB0
  go_wp2_with fail
  refine (nof_bad s _ hs HBAD.out).mono ?_
  rintro e w' ⟨rfl, rfl⟩
  go_wp2_with fail
  refine (nat_badk n k _ hn HK.out).mono ?_
  rintro e w2 ⟨rfl, hb⟩
  have HB2 := hid (below_step HB1.out (Nat.le_refl _) hb)
  clear hb HB1
  go_wp2_with fail
  refine (ahead_bad a b _ (by omega)).mono ?_
  rintro e w' ⟨rfl, rfl⟩
  go_wp2_with fail
  refine (nestErr_any s _ hs).mono ?_
  rintro e w' ⟨rfl, rfl⟩
  go_wp2_with fail
  refine (nchk_any s _ hs).mono ?_
  rintro e w' ⟨rfl, rfl⟩
  have z1 : (nestE s.data.toList != 0) = true := by simpa using HBAD.out
  have z2 : (nestE s.data.toList == 0) = false := by simpa using HBAD.out
  generalize nestE s.data.toList = E at *
  go_wp2_with fail
  refine (reach_ok 0 _ n n (by omega) (by omega) _ hn (Nat.le_refl _)).mono ?_
  rintro e w3 ⟨rfl, hb⟩
  have HB3 := hid (below_step HB2.out (Nat.le_refl _) hb)
  clear hb HB2
  have hk := HK.out
  generalize bal n n = B at *
  rcases hk with hk | hk
  · go_wp2
    go_ret
    exact ⟨rfl, HB3.out⟩
  · go_wp2
    go_ret
    exact ⟨rfl, HB3.out⟩

set_option maxHeartbeats 2000000 in
set_option maxRecDepth 100000 in
theorem nestsSay_ANY (s : ByteArray) (n k : Nat) (a b : Int) (w : World) (hs : s.size ≤ maxLen) (hn : n ≤ 15) (hk : k < bal n n) (ha : a < 0) (hbad : nestE s.data.toList ≠ 0) :
    Calls Try.prog 3 #[.string s, .int .i64 (n : Int), .int .i64 (k : Int), .int .i64 a, .int .i64 b] w fun e w' => e = .returned (.bool true) ∧ Below w.heap.size w w' := by
  have HB0 := hid (Below.refl w.heap.size w)
  have HBAD := hid hbad
  clear hbad
  have HK := hid hk
  clear hk
  go_enter Try.func3, Try.ntmps3
  go_wp2_with fail
  refine (ncount_ok n _ hn).mono ?_
  rintro e w1 ⟨rfl, hb⟩
  have HB1 := hid (below_step HB0.out (Nat.le_refl _) hb)
  clear hb HB0
  go_wp2_with fail
  refine (nof_bad s _ hs HBAD.out).mono ?_
  rintro e w' ⟨rfl, rfl⟩
  go_wp2_with fail
  refine (nat_ok n k _ hn HK.out).mono ?_
  rintro e w2 ⟨rfl, hb⟩
  have HB2 := hid (below_step HB1.out (Nat.le_refl _) hb)
  clear hb HB1
  have HZ := hid (nun_bytes (n + n) n n k)
  have HE := hid (nun_nest (by omega) HK.out)
  have HF : Hid ((ByteArray.mk (nun (n + n) n n k).toArray).data.toList = nun (n + n) n n k) := rfl
  generalize ByteArray.mk (nun (n + n) n n k).toArray = t at *
  go_wp2_with fail
  refine (ahead_bad a b _ (by omega)).mono ?_
  rintro e w' ⟨rfl, rfl⟩
  go_wp2_with fail
  refine (nestErr_any s _ hs).mono ?_
  rintro e w' ⟨rfl, rfl⟩
  go_wp2_with fail
  refine (nchk_any s _ hs).mono ?_
  rintro e w' ⟨rfl, rfl⟩
  have z1 : (nestE s.data.toList != 0) = true := by simpa using HBAD.out
  have z2 : (nestE s.data.toList == 0) = false := by simpa using HBAD.out
  generalize nestE s.data.toList = E at *
  go_wp2_with fail
  refine (reach_ok 0 _ n n (by omega) (by omega) _ hn (Nat.le_refl _)).mono ?_
  rintro e w3 ⟨rfl, hb⟩
  have HB3 := hid (below_step HB2.out (Nat.le_refl _) hb)
  clear hb HB2
  have hd1 : decide (bal n n ≤ k) = false := decide_eq_false (by have := HK.out; omega)
  have hsz : ((t.size : Int) == 2 * (n : Int)) = true := by rw [HZ.out]; simp; omega
  have hkk := HK.out
  have hbl := bal_le (o := n) (c := n) (by omega) (by omega)
  generalize hB : bal n n = B at *
  clear hB
  go_wp2_with fail
  refine (nestErr_any t _ (by rw [HZ.out]; unfold maxLen; omega)).mono ?_
  rintro e w' ⟨rfl, rfl⟩
  rw [HF.out, HE.out.1]
  go_wp2_with fail
  refine (nestRank_ok t n _ HZ.out hn (by rw [HF.out]; exact HE.out.1)).mono ?_
  rintro e w4 ⟨rfl, hb⟩
  have HB4 := hid (below_step HB3.out (Nat.le_refl _) hb)
  clear hb HB3
  rw [HF.out, HE.out.2]
  go_wp2
  go_ret
  exact ⟨rfl, HB4.out⟩

end Go.Proofs.Ytmpipgpbmppbjaa
