/-
  castkeep.TapeEven, walked.
-/
import Derived.Test.YtlclmmolbhnpgaaTpJ
import Derived.Deep.CutBlock
import Derived.Deep.DeepCutAuto
namespace Go.Proofs.Ytlclmmolbhnpgaa
open Go.RowKit

set_option maxHeartbeats 1000000 in
set_option maxRecDepth 100000 in
theorem tapeEven_any (n0 : Int) (w : World) :
    Calls Try.prog 4 #[.int .i64 n0] w fun e w' => e = .returned (.bool true) ∧ Below w.heap.size w w' := by
  obtain ⟨n, hn⟩ : ∃ n : Nat, n0 % 64 = (n : Int) - 1 := ⟨(n0 % 64).toNat + 1, by have := Int.emod_nonneg n0 (show (64 : Int) ≠ 0 by omega); omega⟩
  have hn1 : 1 ≤ n := by have := Int.emod_nonneg n0 (show (64 : Int) ≠ 0 by omega); omega
  have hn2 : n ≤ 64 := by have := Int.emod_lt_of_pos n0 (show 0 < (64 : Int) by omega); omega
  go_enter Try.func4, Try.ntmps4
  go_wp2_with fail
  refine (tapes_any _).mono ?_
  rintro e w1 ⟨rfl, hb⟩
  have HB1 := hid hb
  clear hb
  have HW := hid (within_any n0 64 w1 (by omega) (by omega))
  rw [hn] at HW
  clear hn
  go_wp2_with fail
  refine HW.out.mono ?_
  rintro e w' ⟨rfl, rfl⟩
  have HBT := hid (tpBits_ok n w1 hn1 (by omega))
  have hk := wd_sixty hn2
  have HGE := hid (wd_ge hn1 (by omega))
  have HLE := hid (wd_least hn1 (n := n) (by omega))
  have HD := hid (fun x (hx : x < 2 ^ wd n) => draw_btl hn1 hn2 hx)
  have hpow : 2 ^ wd n ≤ 2 ^ 6 := Nat.pow_le_pow_right (by omega) hk
  clear HW
  generalize wd n = k at *
  have he1 : (1 : Int) + ((n : Int) - 1) = (n : Int) := by omega
  go_wp2_with fail
  refine HBT.out.mono ?_
  rintro e w' ⟨rfl, rfl⟩
  clear HBT he1
  have hp0 : 1 ≤ 2 ^ k := Nat.two_pow_pos k
  have hp : ((2 : Int) ^ k) = ((2 ^ k : Nat) : Int) := by simp
  have hge := HGE.out
  have HP := hid hp
  generalize hz : 2 ^ k = z at *
  have HZ := hid hz
  clear hz
  go_upto_region 5 with fail
  go_cut [45] from 25 to 45 (fun t wx => t = .bool false ∧ w1 = wx)
  case first =>
    rcases Nat.eq_zero_or_pos k with h0 | h0
    · have c0 : ¬ (k : Int) > 0 := by omega
      have c1 : ¬ (k : Int) < 0 := by omega
      have c2 : ¬ ((2 : Int) ^ k) < (n : Int) := by rw [hp]; omega
      have c3 : ((2 : Int) ^ k) ≤ 64 := by rw [hp]; omega
      clear h0 HLE HGE hp hge
      go_wp2
      go_meet
      exact ⟨rfl, rfl⟩
    · obtain ⟨j, hj⟩ : ∃ j : Nat, (k : Int) - 1 = (j : Int) := ⟨k - 1, by omega⟩
      have hjk : k - 1 = j := by omega
      have hle := HLE.out h0
      rw [hjk] at hle
      have hj2 : ((2 : Int) ^ j) = ((2 ^ j : Nat) : Int) := by simp
      have c0 : (k : Int) > 0 := by omega
      have c1 : ¬ (k : Int) < 0 := by omega
      have c2 : ¬ ((2 : Int) ^ k) < (n : Int) := by rw [hp]; omega
      have c3 : ((2 : Int) ^ k) ≤ 64 := by rw [hp]; omega
      have c4 : ¬ ((2 : Int) ^ j) ≥ (n : Int) := by rw [hj2]; omega
      have c5 : ((2 : Int) ^ j) ≤ 64 := by rw [hj2]; omega
      have c6 : 0 ≤ ((2 : Int) ^ j) := by rw [hj2]; exact Int.natCast_nonneg _
      clear h0 HLE HGE hp hge hjk hle hj2
      go_wp2
      go_meet
      exact ⟨rfl, rfl⟩
  case rest =>
    obtain ⟨rfl, rfl⟩ := hcut
    have hmk : ∀ W : World, (Instr.makeSlice 23 (.int .i64 (n : Int)) (.int .i64 (n : Int))).run Try.prog W = .ok (.slice (some ⟨W.heap.size, 0, none⟩) n n) (W.alloc (.cells (madeCells #[.int .i64 0] n) 3)) :=
      fun W => run_make_row' (P := Try.prog) 23 3 (.int .i64 0) 8 Try.underlying23 infoInt rfl .i64 .i64 n (by omega) (by omega) W
    have c3 : ((2 : Int) ^ k) ≤ 64 := by rw [hp]; omega
    have c4 : 0 ≤ ((2 : Int) ^ k) := by rw [hp]; omega
    have HM := hid (Arr.made w1 n)
    rw [← oft_zero] at HM
    have HB2 := hid (below_step HB1.out (Nat.le_refl _) (below_alloc w1 (.cells (madeCells #[.int .i64 0] n) 3)))
    have hsz : w.heap.size ≤ w1.heap.size := HB1.out.size
    clear HLE HGE HB1
    go_wp2_with fail
    clear hmk
    go_loopg [6, 7, 8, 9, 10, 11, 12, 50] z (fun g sh _ _ _ _ _ _ xv wr => ∃ x : Nat, x ≤ z ∧ z - x ≤ g ∧ xv = .int .i64 (x : Int) ∧ sh = .int .i64 ((x - n : Nat) : Int) ∧ Arr wr w1.heap.size (oft n x) ∧ Below w.heap.size w wr)
    case atStart => exact ⟨0, by omega, by omega, rfl, by rw [Nat.zero_sub]; rfl, HM.out, HB2.out⟩
    case round =>
      obtain ⟨x, hx, hg, rfl, rfl, ha, hb⟩ := hrel
      have HA := hid ha
      have HB := hid hb
      clear ha hb HM HB2
      by_cases hlt : x < z
      · have hlt2 : (x : Int) < ((2 : Int) ^ k) := by rw [hp]; omega
        have hx64 : x < 64 := by omega
        obtain ⟨wx, rfl⟩ : ∃ wx, wx = wr := ⟨_, rfl⟩
        have hgl := HA.out.lt
        have HOE := hid (own_empty wx (w1.heap.size + 1) hgl)
        have HBE := hid ((Below.refl (w1.heap.size + 1) wx).alloc hgl (.cells #[] 5))
        go_wp2_with fail
        go_loopg [8, 9] k (fun g lv iv wq => ∃ r : Nat, r ≤ k ∧ r ≤ g ∧ iv = .int .i64 ((r : Int) - 1) ∧ OwnByts wq (w1.heap.size + 1) lv (btl x k (k - r)) ∧ Below (w1.heap.size + 1) wx wq)
        case atStart => exact ⟨k, by omega, by omega, by go_num, by rw [Nat.sub_self]; exact HOE.out, HBE.out⟩
        case round =>
          clear HOE HBE
          obtain ⟨r, hr, hgr, hiv, ho, hb⟩ := hrel
          have HO := hid ho
          have HBQ := hid hb
          clear ho hb
          rcases r with _ | q
          · have e0 : (((0 : Nat) : Int) - 1) = -1 := by omega
            rw [e0] at hiv
            subst hiv
            have HAQ := hid (HA.out.of_block (HBQ.out.block w1.heap.size (by omega)))
            have HBW := hid (HB.out.trans (HBQ.out.mono (by omega)))
            rw [Nat.sub_zero] at HO
            obtain ⟨A5, c5, rfl, hI5, hk5, -⟩ := HO.out.byts (fun y hy => by have := btl_bin x k k y hy; omega)
            have hzx := HZ.out
            have HDR := hid (tpDraw_any A5 _ c5 _ (n : Int) wr hI5 hk5)
            rw [HD.out x hlt] at HDR
            rw [btl_len] at HDR
            rw [btl_len]
            clear hI5 hk5 HO HBQ hzx
            by_cases hxn : x < n
            · rw [if_pos hxn] at HDR
              have g1 := HAQ.out.cell (j := x) (by rw [oft_len]; exact hxn)
              rw [oft_at hxn, if_neg (Nat.lt_irrefl _)] at g1
              have g2 := HAQ.out.frozen x
              have HS := hid (HAQ.out.set x 1)
              rw [oft_step] at HS
              have HBS := hid (below_one HBW.out hsz HBW.out.size (one_set (one_refl wr _) x (.int .i64 1)))
              have hq : ¬ (x : Int) ≥ (n : Int) := by omega
              have hxs : x - n = 0 := by omega
              have hxs2 : x + 1 - n = 0 := by omega
              go_wp2_with (go_at_call 8; refine HDR.out.mono ?_; rintro e w' ⟨rfl, rfl⟩)
              go_roundg (z - (x + 1))
              case measure => omega
              case rel => exact ⟨x + 1, by omega, by omega, by go_num, by rw [hxs2]; rfl, HS.out, HBS.out⟩
            · rw [if_neg hxn] at HDR
              rw [← oft_full (n := n) (x := x) (by omega)] at HAQ
              go_wp2_with (go_at_call 8; refine HDR.out.mono ?_; rintro e w' ⟨rfl, rfl⟩)
              go_roundg (z - (x + 1))
              case measure => omega
              case rel => exact ⟨x + 1, by omega, by omega, by go_num, by go_num, HAQ.out, HBW.out⟩
          · have e0 : (((q + 1 : Nat) : Int) - 1) = (q : Int) := by omega
            rw [e0] at hiv
            subst hiv
            have hbit := shr_oneB (k := q) hx64
            have hst : btl x k (k - q) = btl x k (k - (q + 1)) ++ [x / 2 ^ q % 2] := by
              rw [show k - q = (k - (q + 1)) + 1 by omega, btl, show k - 1 - (k - (q + 1)) = q by omega]
            have HST := hid hst
            have hlen : (btl x k (k - (q + 1))).length ≤ 1000000000000 := by rw [btl_len]; omega
            have HLN := hid hlen
            have h2 : x / 2 ^ q % 2 < 2 := Nat.mod_lt _ (by omega)
            have hbs := Nat.le_trans (show w1.heap.size + 1 ≤ wx.heap.size from hgl) HBQ.out.size
            clear hst hlen
            generalize x / 2 ^ q % 2 = d at *
            go_wp2_with (at_builtin; refine wpList_appT _ _ rfl (.tmp 60) (.tmp 66) rfl (w1.heap.size + 1) _ (btl x k (k - (q + 1))) d rfl rfl rfl HO.out HLN.out hbs ?_)
            intro v2 w2 ho2 hb2 _
            rw [← HST.out] at ho2
            have HO2 := hid ho2
            have HB2 := hid (HBQ.out.trans hb2)
            clear ho2 hb2
            go_wp2
            go_roundg q
            case measure => omega
            case rel => exact ⟨q, by omega, by omega, by go_num, HO2.out, HB2.out⟩
      · obtain rfl : x = z := by omega
        have hlt2 : ¬ (x : Int) < ((2 : Int) ^ k) := by rw [hp]; omega
        have HMX := hid (max_one n n w1.heap.size x wr HA.out (by omega) hn2 hge)
        have HMN := hid (min_one n n w1.heap.size x wr HA.out (by omega) hn2 hge)
        have hc1 : (((x - n : Nat) : Int) == ((2 : Int) ^ k) - (n : Int)) = true := by rw [hp]; simp; omega
        go_wp2_with (first
          | (go_at_call 18; refine HMX.out.mono ?_; rintro e w' ⟨rfl, rfl⟩)
          | (go_at_call 19; refine HMN.out.mono ?_; rintro e w' ⟨rfl, rfl⟩))
        go_ret
        exact ⟨rfl, HB.out⟩
end Go.Proofs.Ytlclmmolbhnpgaa
