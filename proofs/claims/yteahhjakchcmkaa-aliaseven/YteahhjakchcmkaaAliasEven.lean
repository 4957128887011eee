/-
  castkeep.AliasEven, walked.
-/
import Derived.Test.YteahhjakchcmkaaAliG
import Derived.Test.YteahhjakchcmkaaGen
namespace Go.Proofs.Yteahhjakchcmkaa
open Go.RowKit

set_option maxHeartbeats 1000000 in
set_option maxRecDepth 100000 in
theorem aliasEven_bad (A : Option Addr) (n c : Nat) (ws : List Int) (w : World) (hI : Ints w A n ws) (he : alErr ws ≠ 0) :
    Calls Try.prog 4 #[.slice A n c] w fun e w' => e = .returned (.bool true) ∧ Below w.heap.size w w' := by
  have HI := hid hI
  have HBU := hid (fun W (h : Ints W A n ws) => aBuild_any A n c ws W h)
  have HZ1 : Hid ((alErr ws != 0) = true) := by simpa [Hid] using he
  have HE := hid he
  unfold RetBu at HBU
  clear hI he
  generalize alErr ws = E at *
  go_enter Try.func4, Try.ntmps4
  go_wp2_with fail
  refine (tables_any w).mono ?_
  rintro e w1 ⟨rfl, hb⟩
  have HB1 := hid hb
  have HI1 := hid (HI.out.keep hb)
  clear hb
  go_wp2_with fail
  refine (HBU.out w1 HI1.out).mono ?_
  rintro e w2 ⟨A1, n1, c1, cs1, rfl, hb, hc1, hcap, hbad, hgood⟩
  have HB2 := hid (below_step HB1.out (Nat.le_refl _) hb)
  obtain rfl := hbad HE.out
  have hz1 := HZ1.out
  clear hb hc1 hcap hbad hgood HBU
  go_wp2
  go_ret
  exact ⟨rfl, HB2.out⟩

set_option maxHeartbeats 4000000 in
set_option maxRecDepth 100000 in
theorem aliasEven_good (A : Option Addr) (n c : Nat) (ws : List Int) (w : World) (hI : Ints w A n ws) (he : alErr ws = 0) :
    Calls Try.prog 4 #[.slice A n c] w fun e w' => e = .returned (.bool true) ∧ Below w.heap.size w w' := by
  have HF := hid (fit_of he)
  have HL := hid hI.len
  have hn : n ≤ 12 := by have := HF.out.hi; have := HL.out; omega
  have hW := HF.out.sum
  have HI := hid hI
  have HBU := hid (fun W (h : Ints W A n ws) => aBuild_any A n c ws W h)
  unfold RetBu at HBU
  rw [he] at HBU
  have hnn : ((n : Int) != (n : Int)) = false := by simp
  have hmk := fun W => run_make_row' (P := Try.prog) 22 3 (.int .i64 0) 8 Try.underlying22 infoInt rfl .i64 .i64 n (by omega) (by omega) W
  have HT := hid (fun W (B1 : Option Addr) (c1 : Nat) (cs1 : List (Int × Int)) (h : Ints W A n ws) (h2 : Cols W B1 n cs1) => aTest_good A n c B1 c1 ws cs1 W h h2 he)
  clear hI he
  go_enter Try.func4, Try.ntmps4
  go_wp2_with fail
  refine (tables_any w).mono ?_
  rintro e w1 ⟨rfl, hb⟩
  have HB1 := hid hb
  have HI1 := hid (HI.out.keep hb)
  clear hb HI
  go_wp2_with fail
  refine (HBU.out w1 HI1.out).mono ?_
  rintro e w2 ⟨B, n1, d, cs, rfl, hb, hc1, hcap, hbad, hgood⟩
  have HB2 := hid (below_step HB1.out (Nat.le_refl _) hb)
  have HI2 := hid (HI1.out.keep hb)
  obtain ⟨hn1, hcok, htbl⟩ := hgood (by first | rfl | trivial)
  rw [HL.out] at hn1
  subst hn1
  have HC2 := hid hc1
  have HTT := hid (HT.out w2 B d cs HI2.out hc1)
  have htb : tblB ws ws.sum cs = true := tblB_yes hcok htbl
  rw [htb, colE_yes (colB_yes (by rw [HL.out] at hcok; exact hcok))] at HTT
  have HOK : Hid (ColsOk n1 ws.sum cs) := by rw [HL.out] at hcok; exact hcok
  have HTBL := hid htbl
  clear hb hc1 hcap hbad hgood HBU hcok htbl htb HB1 HI1 HT
  go_wp2_with fail
  refine HTT.out.mono ?_
  rintro e w3 ⟨rfl, hb⟩
  have HB3 := hid (below_step HB2.out (Nat.le_refl _) hb)
  have HI3 := hid (HI2.out.keep hb)
  have HC3 := hid (HC2.out.keep hb)
  clear hb HTT HB2 HI2 HC2
  go_wp2_with fail
  go_loopg [7, 9, 54] n1 (fun g u _ s wr => ∃ k : Nat, k ≤ n1 ∧ n1 - k ≤ g ∧ u = .int .i64 ((ws.take k).sum) ∧ s = .int .i64 (k : Int) ∧ wr = w3)
  case atStart => exact ⟨0, by omega, by omega, rfl, rfl, rfl⟩
  case round =>
    obtain ⟨k, hk, hg, rfl, rfl, rfl⟩ := hrel
    by_cases hlt : k < n1
    · obtain ⟨b, o, rfl, hb, hc⟩ := HI3.out.row (by omega)
      have g1 := hc k hlt
      have hkl : k < ws.length := by rw [HL.out]; exact hlt
      have HM : Hid ((ws.take (k + 1)).sum = (ws.take k).sum + ws.getD k 0) := by rw [Hid, take_snoc hkl, List.sum_append]; simp
      have h3 := sum_take_bd HF.out.w (n := k) (by omega)
      have h4 := HF.out.w k hkl
      have hkI : (k : Int) < (n1 : Int) := by omega
      clear hc hkl
      generalize (ws.take k).sum = x at *
      generalize ws.getD k 0 = y at *
      go_wp2
      go_roundg (n1 - (k + 1))
      case measure => omega
      case rel => exact ⟨k + 1, by omega, by omega, by rw [HM.out], by go_num, rfl⟩
    · obtain rfl : k = n1 := by omega
      have HE : Hid (ws.take k = ws) := by rw [← HL.out]; exact List.take_length
      rw [HE.out]
      have HSUM : Hid (∀ i, i < k → shr ws.sum cs k i = (k : Int) * ws.getD i 0) := fun i hi => by
        have := HTBL.out i (by rw [HL.out]; exact hi)
        rwa [HL.out] at this
      have HW := hid HF.out.w
      generalize ws.sum = W at *
      obtain ⟨wx, rfl⟩ : ∃ wx, wx = wr := ⟨_, rfl⟩
      have HAM := hid (Arr.made wx k)
      rw [← shL_zero W cs k] at HAM
      have HCL := hid HC3.out.len
      clear HE HTBL
      go_wp2_with fail
      go_loopg [11, 12, 13, 14, 67] k (fun g _ _ _ _ s wq => ∃ i : Nat, i ≤ k ∧ k - i ≤ g ∧ s = .int .i64 i ∧ Below wx.heap.size wx wq ∧ Arr wq wx.heap.size (shL W cs k i))
      case atStart => exact ⟨0, Nat.zero_le _, by omega, rfl, below_alloc _ _, HAM.out⟩
      case round =>
        obtain ⟨i, hi, hgi, rfl, hb, ha⟩ := hrel
        have HBQ := hid hb
        have HR := hid ha
        clear hb ha HAM
        by_cases hlt : i < k
        · have hck := HOK.out i (by rw [HCL.out]; exact hlt)
          unfold ColOk at hck
          obtain ⟨q, hq⟩ : ∃ q : Nat, oth cs i = (q : Int) := ⟨(oth cs i).toNat, by omega⟩
          have hqk : q < k := by omega
          have HR0 : Hid (Arr wr wx.heap.size (ofX W cs k i ((0 : Nat) : Int))) := by
            rw [Hid, show ((0 : Nat) : Int) = 0 from rfl, ofX_zero hck.1]
            exact HR.out
          clear HR
          obtain ⟨wy, rfl⟩ : ∃ wy, wy = wr := ⟨_, rfl⟩
          have hWN : ((W.toNat : Nat) : Int) = W := by omega
          go_wp2_with fail
          go_loopg [12, 13, 14, 71] W.toNat (fun g _ _ _ s wq => ∃ x : Nat, x ≤ W.toNat ∧ W.toNat - x ≤ g ∧ s = .int .i64 (x : Int) ∧ Below wx.heap.size wx wq ∧ Arr wq wx.heap.size (ofX W cs k i (x : Int)))
          case atStart => exact ⟨0, by omega, by omega, rfl, HBQ.out, HR0.out⟩
          case round =>
            obtain ⟨x, hxl, hgx, rfl, hb, ha⟩ := hrel
            have HBJ := hid hb
            have HRJ := hid ha
            clear hb ha HR0 HBQ
            by_cases hxW : x < W.toNat
            · have hxI : (x : Int) < W := by omega
              have HDR := hid (aDraw_ok B k d i (x : Int) cs wr (HC3.out.keep HBJ.out) hn hlt)
              by_cases hx : (x : Int) < cut cs i
              · have HP : Hid (pick2 (x : Int) (cut cs i) (i : Int) (oth cs i) = (i : Int)) := if_pos hx
                have HS := hid (ofX_low (W := W) hlt hx)
                have s1 := HRJ.out.cell (j := i) (by rw [ofX_len]; exact hlt)
                have f1 := HRJ.out.frozen i
                have hbd := ofX_bd HOK.out HCL.out hn (by omega) hlt hlt (x := (x : Int)) ⟨by omega, by omega⟩
                rw [HP.out] at HDR
                have hiI : (i : Int) < (k : Int) := by omega
                clear HP hx
                generalize (ofX W cs k i (x : Int)).getD i 0 = v at *
                go_wp2_with fail
                refine HDR.out.mono ?_
                rintro e w5 ⟨rfl, rfl⟩
                go_wp2
                go_roundg (W.toNat - (x + 1))
                case measure => omega
                case rel => exact ⟨x + 1, by omega, by omega, by go_num, HBJ.out.setCell (Nat.le_refl _) _, by rw [show ((x + 1 : Nat) : Int) = (x : Int) + 1 by omega, ← HS.out]; exact HRJ.out.set i _⟩
              · have HP : Hid (pick2 (x : Int) (cut cs i) (i : Int) (oth cs i) = (q : Int)) := (if_neg hx).trans hq
                have HS := hid (ofX_high (W := W) hqk hq hx)
                have s1 := HRJ.out.cell (j := q) (by rw [ofX_len]; exact hqk)
                have f1 := HRJ.out.frozen q
                have hbd := ofX_bd HOK.out HCL.out hn (by omega) hlt hqk (x := (x : Int)) ⟨by omega, by omega⟩
                rw [HP.out] at HDR
                have hiI : (q : Int) < (k : Int) := by omega
                clear HP hx
                generalize (ofX W cs k i (x : Int)).getD q 0 = v at *
                go_wp2_with fail
                refine HDR.out.mono ?_
                rintro e w5 ⟨rfl, rfl⟩
                go_wp2
                go_roundg (W.toNat - (x + 1))
                case measure => omega
                case rel => exact ⟨x + 1, by omega, by omega, by go_num, HBJ.out.setCell (Nat.le_refl _) _, by rw [show ((x + 1 : Nat) : Int) = (x : Int) + 1 by omega, ← HS.out]; exact HRJ.out.set q _⟩
            · obtain rfl : x = W.toNat := by omega
              have hxI : ¬ ((W.toNat : Nat) : Int) < W := by omega
              rw [hWN, ofX_all hck.2.1] at HRJ
              go_wp2
              go_roundg (k - (i + 1))
              case measure => omega
              case rel => exact ⟨i + 1, by omega, by omega, by go_num, HBJ.out, HRJ.out⟩
        · obtain rfl : i = k := by omega
          have HBX := hid (below_step HB3.out (Nat.le_refl _) HBQ.out)
          have HIX := hid (HI3.out.keep HBQ.out)
          clear HBQ HB3 HI3 HC3
          obtain ⟨wy, rfl⟩ : ∃ wy, wy = wr := ⟨_, rfl⟩
          go_wp2_with fail
          go_loopg [15, 16, 103] i (fun g _ _ s wq => ∃ j : Nat, j ≤ i ∧ i - j ≤ g ∧ s = .int .i64 j ∧ wq = wy)
          case atStart => exact ⟨0, by omega, by omega, rfl, rfl⟩
          case round =>
            obtain ⟨j, hj, hgj, rfl, rfl⟩ := hrel
            by_cases hlj : j < i
            · obtain ⟨b, o, rfl, hb, hc⟩ := HIX.out.row (by omega)
              have g1 := hc j hlj
              have s1 := HR.out.cell (j := j) (by rw [shL_len]; exact hlj)
              have hv : (shL W cs i i).getD j 0 = ws.getD j 0 * (i : Int) := by
                have := HSUM.out j hlj
                unfold shr at this
                rw [shL_get hlj, if_pos hlj, this, Int.mul_comm]
              rw [hv] at s1
              have h3 := HW.out j (by rw [HL.out]; exact hlj)
              have h4 : ws.getD j 0 * (i : Int) ≤ 100 * 12 := Int.mul_le_mul h3.2 (by omega) (by omega) (by omega)
              have h5 : 0 ≤ ws.getD j 0 * (i : Int) := Int.mul_nonneg h3.1 (by omega)
              have h6 : IntKind.i64.wrap (ws.getD j 0 * (i : Int)) = ws.getD j 0 * (i : Int) := by rw [IntKind.wrap_i64]; omega
              have hji : (j : Int) < (i : Int) := by omega
              clear hc hv
              generalize ws.getD j 0 = y at *
              have hz : (y * (i : Int) != y * (i : Int)) = false := by simp
              go_wp2
              go_roundg (i - (j + 1))
              case measure => omega
              case rel => exact ⟨j + 1, by omega, by omega, by go_num, rfl⟩
            · obtain rfl : j = i := by omega
              go_wp2
              go_ret
              exact ⟨rfl, HBX.out⟩

theorem aliasEven_any (A : Option Addr) (n c : Nat) (ws : List Int) (w : World) (hI : Ints w A n ws) :
    Calls Try.prog 4 #[.slice A n c] w fun e w' => e = .returned (.bool true) ∧ Below w.heap.size w w' := by
  by_cases he : alErr ws = 0
  · exact aliasEven_good A n c ws w hI he
  · exact aliasEven_bad A n c ws w hI he
end Go.Proofs.Yteahhjakchcmkaa
