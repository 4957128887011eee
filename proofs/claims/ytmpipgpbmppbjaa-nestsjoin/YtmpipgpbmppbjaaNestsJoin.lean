/-
  castkeep.NestsJoin, walked.
-/
import Derived.Test.YtmpipgpbmppbjaaNestC
import Derived.Test.YtmpipgpbmppbjaaNestD
import Derived.Test.YtmpipgpbmppbjaaNestF
import Derived.Laws.Strings3
namespace Go.Proofs.Ytmpipgpbmppbjaa
open Go.RowKit

theorem cat_data (a b : ByteArray) : (a ++ b).data.toList = a.data.toList ++ b.data.toList := by
  simp
theorem cat_size (a b : ByteArray) : (a ++ b).size = a.size + b.size := by
  simp

theorem njoined {s t : ByteArray} (hs : nestE s.data.toList = 0) (ht : nestE t.data.toList = 0) (hl : s.size + t.size ≤ 28) :
    nestE (s ++ t).data.toList = 0 ∧ nestE ((⟨#[40]⟩ : ByteArray) ++ s ++ ⟨#[41]⟩ ++ t).data.toList = 0 := by
  rw [nestE_small (by omega)] at hs ht
  constructor
  · rw [nestE_small (by rw [cat_size]; omega), cat_data]
    have := perr_app s.data.toList t.data.toList 0 0 hs
    rw [Nat.add_zero] at this
    rw [this]
    exact ht
  · rw [nestE_small (by rw [cat_size, cat_size, cat_size, show (⟨#[40]⟩ : ByteArray).size = 1 from rfl, show (⟨#[41]⟩ : ByteArray).size = 1 from rfl]; omega), cat_data, cat_data, cat_data]
    rw [show (⟨#[40]⟩ : ByteArray).data.toList = [40] from rfl, show (⟨#[41]⟩ : ByteArray).data.toList = [41] from rfl]
    rw [List.append_assoc, List.append_assoc, List.singleton_append, perr_open]
    have := perr_app s.data.toList ([41] ++ t.data.toList) 0 1 hs
    rw [show (0 + 1 : Nat) = 1 from rfl] at this ⊢
    rw [this, List.singleton_append, perr_close _ _ (by omega)]
    exact ht

theorem cut_size (s : ByteArray) (k : Nat) : (s.extract k s.size).data.toList = s.data.toList.drop k ∧ (s.extract k s.size).size = s.size - k := by
  have h1 : (s.extract k s.size).data.toList = s.data.toList.drop k := by
    rw [Lib.extract_data]
    exact List.take_of_length_le (by rw [List.length_drop, bytes_len]; omega)
  refine ⟨h1, ?_⟩
  rw [← bytes_len, h1, List.length_drop, bytes_len]
theorem cutE {s : ByteArray} (k : Nat) (hs : nestE s.data.toList = 0) (hl : s.size ≤ 28) :
    ∃ H : Nat, (s.data.toList.take k).count 40 = H + (s.data.toList.take k).count 41 ∧ nestE (s.extract k s.size).data.toList = if H = 0 then 0 else 3 := by
  rw [nestE_small (by omega)] at hs
  obtain ⟨H, h1, h2⟩ := perr_cut _ 0 k hs
  refine ⟨H, by omega, ?_⟩
  rw [nestE_small (by rw [(cut_size s k).2]; omega), (cut_size s k).1]
  by_cases h0 : H = 0
  · subst h0
    rw [if_pos rfl]
    exact h2
  · rw [if_neg h0]
    exact perr_below _ H 0 h2 (by omega)
theorem front_data (s : ByteArray) (k : Nat) : (s.extract 0 k).data.toList = s.data.toList.take k := by
  rw [Lib.extract_data]
  simp
set_option maxHeartbeats 1000000 in
set_option maxRecDepth 100000 in
theorem nestsJoin_main (s t : ByteArray) (K : Int) (w : World) (hs : nestE s.data.toList = 0) (ht : nestE t.data.toList = 0) (hl : s.size + t.size ≤ 28) :
    Calls Try.prog 6 #[.string s, .string t, .int .i64 K] w fun e w' => e = .returned (.bool true) ∧ Below w.heap.size w w' := by
  have HS := hid hs
  have HT := hid ht
  have HJ := hid (njoined hs ht hl)
  clear hs ht
  go_enter Try.func6, Try.ntmps6
  go_wp2_with fail
  refine (nestsLive_any _).mono ?_
  rintro e w1 ⟨rfl, hb⟩
  have HB1 := hid hb
  clear hb
  go_wp2_with fail
  refine (nchk_any s _ (by unfold maxLen; omega)).mono ?_
  rintro e w' ⟨rfl, rfl⟩
  rw [HS.out]
  go_wp2_with fail
  refine (nchk_any t _ (by unfold maxLen; omega)).mono ?_
  rintro e w' ⟨rfl, rfl⟩
  rw [HT.out]
  go_wp2_with fail
  refine (within_any _ _ _ (by omega) (by omega)).mono ?_
  rintro e w' ⟨rfl, rfl⟩
  obtain ⟨k, hkx⟩ : ∃ k : Nat, K % ((s.size : Int) + 1) = k := ⟨(K % ((s.size : Int) + 1)).toNat, by have := Int.emod_nonneg K (show (s.size : Int) + 1 ≠ 0 by omega); omega⟩
  have hk : k ≤ s.size := by have := Int.emod_lt_of_pos K (show (0 : Int) < (s.size : Int) + 1 by omega); omega
  rw [hkx]
  clear hkx
  obtain ⟨H, hc, he⟩ := cutE k HS.out (by omega)
  have hom : Lib.countByte (s.data.toList.take k) 40 ≤ s.size := by
    have := count_len s.data.toList k 40
    rw [bytes_len] at this
    exact this
  have hcm : Lib.countByte (s.data.toList.take k) 41 ≤ s.size := by
    have := count_len s.data.toList k 41
    rw [bytes_len] at this
    exact this
  have hc2 : Lib.countByte (s.data.toList.take k) 40 = H + Lib.countByte (s.data.toList.take k) 41 := hc
  have HE := hid he
  have HZ := hid (cut_size s k).2
  have HJ1 := hid HJ.out.1
  have HJ2 := hid HJ.out.2
  clear he hc HJ
  have hkI : (k : Int) ≤ (s.size : Int) := by omega
  by_cases h0 : H = 0
  · have HE0 : Hid (nestE (s.extract k s.size).data.toList = 0) := by
      rw [HE.out, if_pos h0]
      rfl
    clear HE
    subst h0
    go_wp2_with fail
    refine (nchk_any _ _ (by rw [HZ.out]; unfold maxLen; omega)).mono ?_
    rintro e w' ⟨rfl, rfl⟩
    rw [HE0.out]
    go_wp2_with fail
    go_quiet ((go_at_call 21; exact Calls.quiet_of_same (strCount_one _ _ _)))
    have HB2 := hid (below_drewN HB1.out nq)
    clear HB1
    generalize hCO : Lib.countByte (s.data.toList.take k) 40 = o at *
    generalize hCC : Lib.countByte (s.data.toList.take k) 41 = c at *
    clear hCO hCC
    have hd : (o : Int) - (c : Int) = 0 := by omega
    go_wp2_with fail
    refine (nchk_any _ _ (by rw [cat_size]; unfold maxLen; omega)).mono ?_
    rintro e w' ⟨rfl, rfl⟩
    rw [HJ1.out]
    have hsz : (((⟨#[40]⟩ : ByteArray) ++ s ++ ⟨#[41]⟩ ++ t).size) ≤ 30 := by
      rw [cat_size, cat_size, cat_size, show (⟨#[40]⟩ : ByteArray).size = 1 from rfl, show (⟨#[41]⟩ : ByteArray).size = 1 from rfl]
      omega
    have HSZ := hid hsz
    clear hsz
    go_wp2_with fail
    refine (nchk_any _ _ (Nat.le_trans HSZ.out (by unfold maxLen; omega))).mono ?_
    rintro e w' ⟨rfl, rfl⟩
    rw [HJ2.out]
    go_wp2
    go_ret
    exact ⟨rfl, HB2.out⟩
  · have hH : (((H : Nat) : Int) == 0) = false := by simp; omega
    have HE0 : Hid (nestE (s.extract k s.size).data.toList = 3) := by
      rw [HE.out, if_neg h0]
      rfl
    clear HE
    go_wp2_with fail
    refine (nchk_any _ _ (by rw [HZ.out]; unfold maxLen; omega)).mono ?_
    rintro e w' ⟨rfl, rfl⟩
    rw [HE0.out]
    go_wp2_with fail
    go_quiet ((go_at_call 21; exact Calls.quiet_of_same (strCount_one _ _ _)))
    have HB2 := hid (below_drewN HB1.out nq)
    clear HB1
    generalize hCO : Lib.countByte (s.data.toList.take k) 40 = o at *
    generalize hCC : Lib.countByte (s.data.toList.take k) 41 = c at *
    clear hCO hCC
    have hd : (o : Int) - (c : Int) = (H : Int) := by omega
    go_wp2_with fail
    refine (nchk_any _ _ (by rw [cat_size]; unfold maxLen; omega)).mono ?_
    rintro e w' ⟨rfl, rfl⟩
    rw [HJ1.out]
    have hsz : (((⟨#[40]⟩ : ByteArray) ++ s ++ ⟨#[41]⟩ ++ t).size) ≤ 30 := by
      rw [cat_size, cat_size, cat_size, show (⟨#[40]⟩ : ByteArray).size = 1 from rfl, show (⟨#[41]⟩ : ByteArray).size = 1 from rfl]
      omega
    have HSZ := hid hsz
    clear hsz
    go_wp2_with fail
    refine (nchk_any _ _ (Nat.le_trans HSZ.out (by unfold maxLen; omega))).mono ?_
    rintro e w' ⟨rfl, rfl⟩
    rw [HJ2.out]
    go_wp2
    go_ret
    exact ⟨rfl, HB2.out⟩
set_option maxHeartbeats 1000000 in
theorem nestsJoin_long (s t : ByteArray) (K : Int) (w : World) (hs : nestE s.data.toList = 0) (ht : nestE t.data.toList = 0) (h1 : s.size ≤ 30) (h2 : t.size ≤ 30) (hl : 28 < s.size + t.size) :
    Calls Try.prog 6 #[.string s, .string t, .int .i64 K] w fun e w' => e = .returned (.bool true) ∧ Below w.heap.size w w' := by
  have HS := hid hs
  have HT := hid ht
  clear hs ht
  go_enter Try.func6, Try.ntmps6
  go_wp2_with fail
  refine (nestsLive_any _).mono ?_
  rintro e w1 ⟨rfl, hb⟩
  have HB1 := hid hb
  clear hb
  go_wp2_with fail
  refine (nchk_any s _ (by unfold maxLen; omega)).mono ?_
  rintro e w' ⟨rfl, rfl⟩
  rw [HS.out]
  go_wp2_with fail
  refine (nchk_any t _ (by unfold maxLen; omega)).mono ?_
  rintro e w' ⟨rfl, rfl⟩
  rw [HT.out]
  go_wp2
  go_ret
  exact ⟨rfl, HB1.out⟩
set_option maxHeartbeats 1000000 in
theorem nestsJoin_bad (s t : ByteArray) (K : Int) (w : World) (hs : s.size ≤ maxLen) (ht : t.size ≤ maxLen) (h : nestE s.data.toList ≠ 0 ∨ (nestE s.data.toList = 0 ∧ nestE t.data.toList ≠ 0)) :
    Calls Try.prog 6 #[.string s, .string t, .int .i64 K] w fun e w' => e = .returned (.bool true) ∧ Below w.heap.size w w' := by
  go_enter Try.func6, Try.ntmps6
  go_wp2_with fail
  refine (nestsLive_any _).mono ?_
  rintro e w1 ⟨rfl, hb⟩
  have HB1 := hid hb
  clear hb
  go_wp2_with fail
  refine (nchk_any s _ hs).mono ?_
  rintro e w' ⟨rfl, rfl⟩
  go_wp2_with fail
  refine (nchk_any t _ ht).mono ?_
  rintro e w' ⟨rfl, rfl⟩
  generalize nestE s.data.toList = E at *
  generalize nestE t.data.toList = G at *
  rcases h with h | ⟨rfl, h⟩
  · have z1 : (E != 0) = true := by simpa using h
    clear h
    go_wp2
    go_ret
    exact ⟨rfl, HB1.out⟩
  · have z1 : (G != 0) = true := by simpa using h
    clear h
    go_wp2
    go_ret
    exact ⟨rfl, HB1.out⟩
theorem nestsJoin_any (s t : ByteArray) (K : Int) (w : World) (hs : s.size ≤ maxLen) (ht : t.size ≤ maxLen) :
    Calls Try.prog 6 #[.string s, .string t, .int .i64 K] w fun e w' => e = .returned (.bool true) ∧ Below w.heap.size w w' := by
  by_cases h1 : nestE s.data.toList = 0
  · by_cases h2 : nestE t.data.toList = 0
    · by_cases h3 : s.size + t.size ≤ 28
      · exact nestsJoin_main s t K w h1 h2 h3
      · obtain ⟨n1, e1, l1, _⟩ := nestE_zero h1
        obtain ⟨n2, e2, l2, _⟩ := nestE_zero h2
        exact nestsJoin_long s t K w h1 h2 (by omega) (by omega) (by omega)
    · exact nestsJoin_bad s t K w hs ht (Or.inr ⟨h1, h2⟩)
  · exact nestsJoin_bad s t K w hs ht (Or.inl h1)
end Go.Proofs.Ytmpipgpbmppbjaa
