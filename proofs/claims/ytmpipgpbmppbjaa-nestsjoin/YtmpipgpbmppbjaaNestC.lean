/-
  nests.Of.
-/
import Derived.Test.YtmpipgpbmppbjaaNestA
import Derived.Test.YtmpipgpbmppbjaaNestB
namespace Go.Proofs.Ytmpipgpbmppbjaa
open Go.RowKit

theorem nof_bad (s : ByteArray) (w : World) (hs : s.size ≤ maxLen) (hbad : nestE s.data.toList ≠ 0) :
    Calls Try.prog 10 #[.string s] w fun e w' => e = .returned (.tuple #[.int .i64 0, .int .i64 (nestE s.data.toList)]) ∧ w = w' := by
  go_enter Try.func10, Try.ntmps10
  go_wp2_with fail
  refine (nchk_any s _ hs).mono ?_
  rintro e w' ⟨rfl, rfl⟩
  have h1 : (nestE s.data.toList != 0) = true := by simpa using hbad
  clear hbad
  go_wp2
  go_ret2
  exact ⟨rfl, rfl⟩

theorem nestE_zero {s : ByteArray} (h : nestE s.data.toList = 0) : ∃ n, s.size = n + n ∧ n ≤ 15 ∧ perr s.data.toList 0 = 0 := by
  by_cases hl : 30 < s.size
  · rw [nestE_large hl] at h
    omega
  · rw [nestE_small (by omega)] at h
    have := perr_len _ _ h
    rw [bytes_len] at this
    exact ⟨s.size / 2, by omega, by omega, h⟩

set_option maxHeartbeats 1600000 in
theorem nof_ok (s : ByteArray) (n : Nat) (w : World) (hs : s.size = n + n) (hn : n ≤ 15) (hok : nestE s.data.toList = 0) :
    Calls Try.prog 10 #[.string s] w fun e w' => e = .returned (.tuple #[.int .i64 ((nrk s.data.toList n n : Nat) : Int), .int .i64 0]) ∧ Below w.heap.size w w' := by
  have hz := zero_ends.1
  have HP : Hid (perr s.data.toList 0 = 0) := by
    have := hok
    rw [nestE_small (by omega)] at this
    exact this
  go_enter Try.func10, Try.ntmps10
  go_wp2_with fail
  refine (nchk_any s _ (by unfold maxLen; omega)).mono ?_
  rintro e w' ⟨rfl, rfl⟩
  rw [hok]
  clear hok
  go_wp2_with fail
  refine (endings_ok _).mono ?_
  rintro e w1 ⟨rfl, hb⟩
  have HB := hid hb
  clear hb
  go_wp2_with (refine wpList_box rfl _ _ rfl rfl rfl rfl ?_)
  intro w2 hbox hb2
  have HX := hid hbox
  have HB2 := hid (below_step HB.out (Nat.le_refl _) hb2)
  clear hb2 HB hbox
  go_wp2
  go_loopg [6, 7, 8, 9, 24] s.size (fun g ov cv xv _ iv wr => ∃ k o c x : Nat, k ≤ s.size ∧ s.size - k ≤ g ∧ s.size - k = o + c ∧ o ≤ c ∧ c ≤ 15 ∧ ov = .int .i64 o ∧ cv = .int .i64 c ∧ xv = .int .i64 x ∧ iv = .int .i64 k ∧ w2 = wr ∧ x ≤ 9694845 * k ∧ perr (s.data.toList.drop k) (c - o) = 0 ∧ x + nrk (s.data.toList.drop k) o c = nrk s.data.toList n n)
  case atStart => exact ⟨0, n, n, 0, by omega, by omega, by omega, by omega, by omega, congrArg (Value.int .i64) (by omega), congrArg (Value.int .i64) (by omega), rfl, rfl, rfl, by omega, by rw [Nat.sub_self]; exact HP.out, by simp⟩
  case round =>
    clear HP
    obtain ⟨k, o, c, x, hk, hg, hl, ho, hc, rfl, rfl, rfl, rfl, rfl, hx, hp, hr⟩ := hrel
    have HP := hid hp
    have HR := hid hr
    clear hp hr
    by_cases hlt : k < s.size
    · have HC := hid (sdrop_cons s k hlt)
      rcases perr_first (by have := HP.out; rw [HC.out] at this; exact this) with ⟨e1, hp⟩ | ⟨e1, hh, hp⟩
      · have HQ := hid hp
        have hlen := perr_len _ _ hp
        rw [List.length_drop, bytes_len] at hlen
        have HS : Hid (x + nrk (s.data.toList.drop (k + 1)) (o - 1) c = nrk s.data.toList n n) := by
          have := HR.out
          rw [HC.out, nrk, if_pos e1] at this
          exact this
        obtain ⟨q, rfl⟩ : ∃ q, o = q + 1 := ⟨o - 1, by omega⟩
        have e1' : s[k].toNat = 40 := by rw [e1]; rfl
        clear hp hlen
        go_wp2
        go_roundg (s.size - (k + 1))
        case measure => omega
        case rel => exact ⟨k + 1, q, c, x, by omega, by omega, by omega, by omega, by omega, by go_num, rfl, rfl, by go_num, rfl, by omega, by rw [show c - q = c - (q + 1) + 1 by omega]; exact HQ.out, HS.out⟩
      · have HQ := hid hp
        have HS : Hid (x + (balOp o c + nrk (s.data.toList.drop (k + 1)) o (c - 1)) = nrk s.data.toList n n) := by
          have := HR.out
          rw [HC.out, nrk, if_neg (by rw [e1]; decide)] at this
          exact this
        have e1' : s[k].toNat = 41 := by rw [e1]; rfl
        obtain ⟨d, rfl⟩ : ∃ d, c = d + 1 := ⟨c - 1, by omega⟩
        clear hp
        have hdN : (d : Int) + 1 < 16 := by omega
        by_cases h0 : o = 0
        · subst h0
          go_wp2
          go_roundg (s.size - (k + 1))
          case measure => omega
          case rel => exact ⟨k + 1, 0, d, x, by omega, by omega, by omega, by omega, by omega, rfl, by go_num, rfl, by go_num, rfl, by omega, HQ.out, by rw [← HS.out]; simp [balOp]⟩
        · obtain ⟨q, rfl⟩ : ∃ q, o = q + 1 := ⟨o - 1, by omega⟩
          have g1 := HX.out.cell (o := q) (c := d + 1) (by omega) (by omega)
          have hqN : (q : Int) + 1 < 16 := by omega
          have hxb := bal_le (o := q) (c := d + 1) (by omega) (by omega)
          have HY : Hid (balOp (q + 1) (d + 1) = bal q (d + 1)) := rfl
          generalize bal q (d + 1) = y at *
          go_wp2
          go_roundg (s.size - (k + 1))
          case measure => omega
          case rel => exact ⟨k + 1, q + 1, d, x + y, by omega, by omega, by omega, by omega, by omega, rfl, by go_num, by go_num, by go_num, rfl, by omega, by rw [show d - (q + 1) = d + 1 - (q + 1) - 1 by omega]; exact HQ.out, by rw [← HS.out, HY.out, show d + 1 - 1 = d by omega, Nat.add_assoc]⟩
    · have HD := hid (drop_all s k (by omega))
      have HS : Hid (x = nrk s.data.toList n n) := by
        have := HR.out
        rw [HD.out, nrk] at this
        exact this
      go_wp2
      go_ret2
      exact ⟨by rw [← HS.out]; rfl, HB2.out⟩
end Go.Proofs.Ytmpipgpbmppbjaa
