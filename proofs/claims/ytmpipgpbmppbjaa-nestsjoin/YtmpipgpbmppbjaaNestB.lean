/-
  nests.Check, castref.NestErr.
-/
import Derived.Test.YtmpipgpbmppbjaaNestM
import Derived.WalkKit
import Derived.Lib.Strings
namespace Go.Proofs.Ytmpipgpbmppbjaa
open Go.RowKit

theorem sdrop_cons (s : ByteArray) (k : Nat) (h : k < s.size) : s.data.toList.drop k = s[k] :: s.data.toList.drop (k + 1) := by
  rw [List.drop_eq_getElem_cons (by simpa using h)]
  rfl
theorem drop_all (s : ByteArray) (k : Nat) (h : s.size ≤ k) : s.data.toList.drop k = [] := List.drop_eq_nil_of_le (by simpa using h)
theorem eret_int {k : IntKind} {a b : Int} (h : a = b) : Ending.returned (.int k a) = .returned (.int k b) := by rw [h]
theorem bytes_len (s : ByteArray) : s.data.toList.length = s.size := by simp
theorem nestE_small {s : ByteArray} (h : s.size ≤ 30) : nestE s.data.toList = perr s.data.toList 0 := by
  unfold nestE
  rw [bytes_len, if_neg (by omega)]
theorem nestE_large {s : ByteArray} (h : 30 < s.size) : nestE s.data.toList = 2 := by
  unfold nestE
  rw [bytes_len, if_pos h]

set_option maxHeartbeats 800000 in
theorem nchk_any (s : ByteArray) (w : World) (hs : s.size ≤ maxLen) :
    Calls Try.prog 15 #[.string s] w fun e w' => e = .returned (.int .i64 (nestE s.data.toList)) ∧ w = w' := by
  unfold maxLen at hs
  by_cases hl : 30 < s.size
  · have HE := hid (nestE_large hl)
    go_enter Try.func15, Try.ntmps15
    go_wp2
    go_ret
    exact ⟨eret_int HE.out.symm, rfl⟩
  · have HE := hid (nestE_small (s := s) (by omega))
    go_enter Try.func15, Try.ntmps15
    go_wp2
    go_loopg [3, 4, 10] s.size (fun g d _ i wr => ∃ k h : Nat, k ≤ s.size ∧ h ≤ k ∧ s.size - k ≤ g ∧ d = .int .i64 h ∧ i = .int .i64 k ∧ w = wr ∧ perr (s.data.toList.drop k) h = perr s.data.toList 0)
    case atStart => exact ⟨0, 0, by omega, by omega, by omega, rfl, rfl, rfl, rfl⟩
    case round =>
      obtain ⟨k, h, hk, hh, hg, rfl, rfl, rfl, hp⟩ := hrel
      have HP := hid hp
      clear hp
      by_cases hlt : k < s.size
      · have HC := hid (sdrop_cons s k hlt)
        by_cases e1 : s[k] = 40
        · have HN : Hid (perr (s.data.toList.drop (k + 1)) (h + 1) = perr s.data.toList 0) := by
            have := HP.out
            rw [HC.out, e1, perr_open] at this
            exact this
          have e1' : s[k].toNat = 40 := by rw [e1]; rfl
          go_wp2
          go_roundg (s.size - (k + 1))
          case measure => omega
          case rel => exact ⟨k + 1, h + 1, by omega, by omega, by omega, by go_num, by go_num, rfl, HN.out⟩
        · by_cases e2 : s[k] = 41
          · have e2' : s[k].toNat = 41 := by rw [e2]; rfl
            by_cases h0 : h = 0
            · subst h0
              have HN : Hid (nestE s.data.toList = 3) := by
                have := HP.out
                rw [HC.out, e2] at this
                rw [HE.out, ← this]
                rfl
              go_wp2
              go_ret
              exact ⟨eret_int HN.out.symm, rfl⟩
            · obtain ⟨d, rfl⟩ : ∃ d, h = d + 1 := ⟨h - 1, by omega⟩
              have HN : Hid (perr (s.data.toList.drop (k + 1)) d = perr s.data.toList 0) := by
                have := HP.out
                rw [HC.out, e2, perr_close _ _ (by omega)] at this
                exact this
              go_wp2
              go_roundg (s.size - (k + 1))
              case measure => omega
              case rel => exact ⟨k + 1, d, by omega, by omega, by omega, by go_num, by go_num, rfl, HN.out⟩
          · have HN : Hid (nestE s.data.toList = 1) := by
              have := HP.out
              rw [HC.out, perr, if_neg e1, if_neg e2] at this
              rw [HE.out, ← this]
              rfl
            have n1 : ¬ s[k].toNat = 40 := fun e => e1 (UInt8.toNat_inj.1 e)
            have n2 : ¬ s[k].toNat = 41 := fun e => e2 (UInt8.toNat_inj.1 e)
            have b1 : ((s[k].toNat : Int) == 40) = false := by simp; omega
            have b2 : ((s[k].toNat : Int) == 41) = false := by simp; omega
            have b3 : ((s[k].toNat : Int) != 40) = true := by simp; omega
            have b4 : ((s[k].toNat : Int) != 41) = true := by simp; omega
            go_wp2
            go_ret
            exact ⟨eret_int HN.out.symm, rfl⟩
      · have HD := hid (drop_all s k (by omega))
        by_cases h0 : h = 0
        · subst h0
          have HN : Hid (nestE s.data.toList = 0) := by
            have := HP.out
            rw [HD.out] at this
            rw [HE.out, ← this]
            rfl
          go_wp2
          go_ret
          exact ⟨eret_int HN.out.symm, rfl⟩
        · have HN : Hid (nestE s.data.toList = 6) := by
            have := HP.out
            rw [HD.out, perr, if_pos (by omega)] at this
            rw [HE.out, ← this]
            rfl
          have hpos : decide (0 < h) = true := decide_eq_true (by omega)
          go_wp2
          go_ret
          exact ⟨eret_int HN.out.symm, rfl⟩

set_option maxHeartbeats 800000 in
theorem nestErr_any (s : ByteArray) (w : World) (hs : s.size ≤ maxLen) :
    Calls Try.prog 14 #[.string s] w fun e w' => e = .returned (.int .i64 (nestE s.data.toList)) ∧ w = w' := by
  unfold maxLen at hs
  by_cases hl : 30 < s.size
  · have HE := hid (nestE_large hl)
    go_enter Try.func14, Try.ntmps14
    go_wp2
    go_ret
    exact ⟨eret_int HE.out.symm, rfl⟩
  · have HE := hid (nestE_small (s := s) (by omega))
    go_enter Try.func14, Try.ntmps14
    go_wp2
    go_loopg [3, 4, 10] s.size (fun g d _ i wr => ∃ k h : Nat, k ≤ s.size ∧ h ≤ k ∧ s.size - k ≤ g ∧ d = .int .i64 h ∧ i = .int .i64 k ∧ w = wr ∧ perr (s.data.toList.drop k) h = perr s.data.toList 0)
    case atStart => exact ⟨0, 0, by omega, by omega, by omega, rfl, rfl, rfl, rfl⟩
    case round =>
      obtain ⟨k, h, hk, hh, hg, rfl, rfl, rfl, hp⟩ := hrel
      have HP := hid hp
      clear hp
      by_cases hlt : k < s.size
      · have HC := hid (sdrop_cons s k hlt)
        by_cases e1 : s[k] = 40
        · have HN : Hid (perr (s.data.toList.drop (k + 1)) (h + 1) = perr s.data.toList 0) := by
            have := HP.out
            rw [HC.out, e1, perr_open] at this
            exact this
          have e1' : s[k].toNat = 40 := by rw [e1]; rfl
          go_wp2
          go_roundg (s.size - (k + 1))
          case measure => omega
          case rel => exact ⟨k + 1, h + 1, by omega, by omega, by omega, by go_num, by go_num, rfl, HN.out⟩
        · by_cases e2 : s[k] = 41
          · have e2' : s[k].toNat = 41 := by rw [e2]; rfl
            by_cases h0 : h = 0
            · subst h0
              have HN : Hid (nestE s.data.toList = 3) := by
                have := HP.out
                rw [HC.out, e2] at this
                rw [HE.out, ← this]
                rfl
              go_wp2
              go_ret
              exact ⟨eret_int HN.out.symm, rfl⟩
            · obtain ⟨d, rfl⟩ : ∃ d, h = d + 1 := ⟨h - 1, by omega⟩
              have HN : Hid (perr (s.data.toList.drop (k + 1)) d = perr s.data.toList 0) := by
                have := HP.out
                rw [HC.out, e2, perr_close _ _ (by omega)] at this
                exact this
              go_wp2
              go_roundg (s.size - (k + 1))
              case measure => omega
              case rel => exact ⟨k + 1, d, by omega, by omega, by omega, by go_num, by go_num, rfl, HN.out⟩
          · have HN : Hid (nestE s.data.toList = 1) := by
              have := HP.out
              rw [HC.out, perr, if_neg e1, if_neg e2] at this
              rw [HE.out, ← this]
              rfl
            have n1 : ¬ s[k].toNat = 40 := fun e => e1 (UInt8.toNat_inj.1 e)
            have n2 : ¬ s[k].toNat = 41 := fun e => e2 (UInt8.toNat_inj.1 e)
            have b1 : ((s[k].toNat : Int) == 40) = false := by simp; omega
            have b2 : ((s[k].toNat : Int) == 41) = false := by simp; omega
            have b3 : ((s[k].toNat : Int) != 40) = true := by simp; omega
            have b4 : ((s[k].toNat : Int) != 41) = true := by simp; omega
            go_wp2
            go_ret
            exact ⟨eret_int HN.out.symm, rfl⟩
      · have HD := hid (drop_all s k (by omega))
        by_cases h0 : h = 0
        · subst h0
          have HN : Hid (nestE s.data.toList = 0) := by
            have := HP.out
            rw [HD.out] at this
            rw [HE.out, ← this]
            rfl
          go_wp2
          go_ret
          exact ⟨eret_int HN.out.symm, rfl⟩
        · have HN : Hid (nestE s.data.toList = 6) := by
            have := HP.out
            rw [HD.out, perr, if_pos (by omega)] at this
            rw [HE.out, ← this]
            rfl
          have hpos : decide (0 < h) = true := decide_eq_true (by omega)
          go_wp2
          go_ret
          exact ⟨eret_int HN.out.symm, rfl⟩

end Go.Proofs.Ytmpipgpbmppbjaa
