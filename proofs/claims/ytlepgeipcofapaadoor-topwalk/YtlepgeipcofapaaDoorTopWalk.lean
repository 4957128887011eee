/-
  casttop.TopWalk, walked.
-/
import Derived.Test.YtlepgeipcofapaaDoorEvS
import Derived.Test.YtlepgeipcofapaaDoorGrayB
import Derived.Test.YtlepgeipcofapaaDoorGrayC
import Derived.Test.YtlepgeipcofapaaDoorTopA
import Derived.Test.YtlepgeipcofapaaDoorClone
import Derived.Test.YtlepgeipcofapaaDoorRats
namespace Go.Proofs.YtlepgeipcofapaaDoor
open Go.RowKit

/-- The sum of all sets' weights, along the walk. -/
def accW (ws : List Int) : Nat → Int
  | 0 => 0
  | i + 1 => accW ws i + wgt ws (gry i)
def gcount : Nat → Nat → Int
  | 0, _ => 0
  | i + 1, j => gcount i j + bt (gry i) j
theorem accW_cw (ws : List Int) : ∀ i, accW ws i = cw ws (gcount i)
  | 0 => (cw_zero ws).symm
  | i + 1 => by
    rw [accW, accW_cw ws i, wgt, ← cw_add]
    rfl
theorem half_gray : ((List.range 9).all fun n => (List.range n).all fun j => 2 * gcount (2 ^ n) j == ((2 ^ n : Nat) : Int)) = true := by decide +kernel
theorem halfG {n j : Nat} (hn : n ≤ 8) (hj : j < n) : 2 * gcount (2 ^ n) j = ((2 ^ n : Nat) : Int) := by
  have h := half_gray
  rw [List.all_eq_true] at h
  have h := h n (List.mem_range.2 (by omega))
  rw [List.all_eq_true] at h
  exact beq_iff_eq.1 (h j (List.mem_range.2 hj))
theorem accW_half {ws : List Int} (hn : ws.length ≤ 8) : 2 * accW ws (2 ^ ws.length) = ((2 ^ ws.length : Nat) : Int) * totW ws := by
  rw [accW_cw, ← cw_smul, ← cw_const]
  exact cw_congr fun j hj => halfG hn hj
theorem accW_bd {ws : List Int} (h : Space ws) : ∀ i : Nat, 0 ≤ accW ws i ∧ accW ws i ≤ 1200 * (i : Int)
  | 0 => by simp [accW]
  | i + 1 => by
    have h1 := accW_bd h i
    have h2 := h.bd (gry i)
    unfold accW
    omega
/-- The last one's weight. -/
def lastW (ws : List Int) (i : Nat) : Int := if i = 0 then 0 else wgt ws (gry (i - 1))
theorem gry_bit {i k m : Nat} (h : i + 1 = 2 ^ k * (2 * m + 1)) (hk : k < 16) (j : Nat) : (gry (i + 1)).testBit j = ((gry i).testBit j ^^ decide (k = j)) := by
  have e := gry_next h hk
  have : (gry i ^^^ gry (i + 1)).testBit j = (2 ^ k).testBit j := by rw [e]
  rw [Nat.testBit_xor, Nat.testBit_two_pow] at this
  rw [← this]
  cases (gry i).testBit j <;> cases (gry (i + 1)).testBit j <;> rfl
/-- One step of the walk: one weight more, or less. -/
theorem walk_one {ws : List Int} {i k m : Nat} (h : i + 1 = 2 ^ k * (2 * m + 1)) (hk : k < 16) (hk2 : k < ws.length) :
    wgt ws (gry (i + 1)) = wgt ws (gry i) + ws.getD k 0 ∨ wgt ws (gry (i + 1)) = wgt ws (gry i) - ws.getD k 0 := by
  have h1 := cw_one (l := ws) (f := bt (gry (i + 1))) (g := bt (gry i)) hk2 (fun j _ hne => by
    unfold bt
    rw [gry_bit h hk, decide_eq_false (fun e => hne e.symm), Bool.xor_false])
  have h2 : bt (gry (i + 1)) k - bt (gry i) k = 1 ∨ bt (gry (i + 1)) k - bt (gry i) k = -1 := by
    unfold bt
    rw [gry_bit h hk, decide_eq_true rfl]
    cases (gry i).testBit k
    · exact .inl rfl
    · exact .inr rfl
  unfold wgt
  rw [h1]
  rcases h2 with e | e
  · left; rw [e, Int.mul_one]
  · right; rw [e]; omega
theorem step_lt {n i k m : Nat} (h : i + 1 = 2 ^ k * (2 * m + 1)) (hi : i + 1 < 2 ^ n) : k < n := by
  apply Classical.byContradiction
  intro hk
  have h1 : 2 ^ n ≤ 2 ^ k := Nat.pow_le_pow_right (by omega) (by omega)
  have h2 : 2 ^ k * 1 ≤ 2 ^ k * (2 * m + 1) := Nat.mul_le_mul_left _ (by omega)
  omega

/-- A weight within its bounds. -/
def fW (x : Int) : Int := 1 + x % 50
def wL (k : Nat) (vs : List Int) : List Int := (vs.take k).map fW ++ vs.drop k
theorem wL_zero (vs : List Int) : wL 0 vs = vs := by simp [wL]
theorem wL_all (vs : List Int) {n : Nat} (hn : n = vs.length) : wL n vs = vs.map fW := by subst hn; simp [wL]
theorem wL_len (k : Nat) (vs : List Int) : (wL k vs).length = vs.length := by
  unfold wL
  rw [List.length_append, List.length_map, List.length_take, List.length_drop]
  omega
theorem wL_at {k : Nat} {vs : List Int} (hk : k < vs.length) : (wL k vs).getD k 0 = vs.getD k 0 := by
  unfold wL
  rw [List.getD_eq_getElem?_getD, List.getD_eq_getElem?_getD, List.getElem?_append_right (by simp; omega)]
  simp only [List.length_map, List.length_take]
  rw [List.getElem?_drop]
  congr 2
  omega
theorem wL_set {k : Nat} {vs : List Int} (hk : k < vs.length) : (wL k vs).set k (fW (vs.getD k 0)) = wL (k + 1) vs := by
  unfold wL
  have e1 : ((vs.take k).map fW).length = k := by simp; omega
  have e2 : vs.drop k = vs[k] :: vs.drop (k + 1) := List.drop_eq_getElem_cons hk
  have e3 : vs.getD k 0 = vs[k] := by simp [List.getD_eq_getElem?_getD, hk]
  rw [List.set_append_right _ _ (by omega), e1, Nat.sub_self, e2, List.set_cons_zero, List.take_succ_eq_append_getElem hk, List.map_append, e3, List.append_assoc]
  rfl
theorem map_fW_at {k : Nat} {vs : List Int} (hk : k < vs.length) : (vs.map fW).getD k 0 = fW (vs.getD k 0) := by
  simp [List.getD_eq_getElem?_getD, hk]
theorem space_fW {vs : List Int} (h1 : 1 ≤ vs.length) (h2 : vs.length ≤ 8) : Space (vs.map fW) := by
  refine ⟨by rw [List.length_map]; exact h1, by rw [List.length_map]; omega, fun x hx => ?_⟩
  obtain ⟨y, _, rfl⟩ := List.mem_map.1 hx
  unfold fW
  omega
theorem min8 {m M : Nat} (hM : M = min m 8) : (M : Int) = if (8 : Int) < (m : Int) then 8 else (m : Int) := by
  subst hM
  split <;> omega

set_option maxHeartbeats 4000000 in
set_option maxRecDepth 100000 in
theorem topWalk_any (A : Option Addr) (n c : Nat) (xs : List Int) (w : World) (ht : Tab w) (hI : Ints w A n xs) (hnc : n ≤ c) :
    Calls Tryd.prog 3 #[.slice A n c] w fun e w' => e = .returned (.bool true) ∧ Below w.heap.size w w' := by
  obtain ⟨M, hM⟩ : ∃ M, M = min n 8 := ⟨_, rfl⟩
  have hmin := run_minMM (P := Tryd.prog) (n : Int) 8 (M : Int) (min8 hM)
  have hIM := hI.take (m := M) (by omega)
  have hM8 : M ≤ 8 := by omega
  have hMc : M ≤ c := by omega
  have hMI : (M : Int) ≤ (c : Int) := by omega
  generalize xs.take M = vs at *
  have HL := hid hIM.len
  have HC := hid (clone_big A M c vs w hIM (by omega))
  have HT := hid ht
  clear hIM hI ht hM
  go_enter Tryd.func3, Tryd.ntmps3
  go_wp2_with fail
  refine HC.out.mono ?_
  rintro e w1 ⟨v, rfl, hown, hb⟩
  obtain ⟨A', c', rfl, _, hcap⟩ := hown.ints
  rw [HL.out] at hown hcap ⊢
  have HOW1 := hid hown
  have HB1 := hid hb
  clear hown hb HC hmin
  go_wp2_with fail
  refine (works_any _).mono ?_
  rintro e w2 ⟨rfl, hb⟩
  have HOW2 := hid (HOW1.out.keep hb)
  have HB2 := hid (below_step HB1.out (Nat.le_refl _) hb)
  clear hb HOW1 HB1
  by_cases hM0 : M = 0
  · subst hM0
    go_wp2_with fail
    refine (works_any _).mono ?_
    rintro e w3 ⟨rfl, hb⟩
    have HB3 := hid (below_step HB2.out (Nat.le_refl _) hb)
    clear hb
    go_wp2
    go_ret
    exact ⟨rfl, HB3.out⟩
  · have hz : ((M : Int) == 0) = false := by simp; omega
    go_wp2_with fail
    have HS : Hid (Space (vs.map fW)) := space_fW (by rw [HL.out]; omega) (by rw [HL.out]; exact hM8)
    have HM0 : Hid (OwnInts w2 w.heap.size (.slice A' M c') (wL 0 vs)) := by rw [wL_zero]; exact HOW2.out
    go_loopg [3, 4, 32] M (fun g s _ z wr => ∃ k : Nat, k ≤ M ∧ M - k ≤ g ∧ s = .int .i64 (totW ((vs.map fW).take k)) ∧ z = .int .i64 (k : Int) ∧ OwnInts wr w.heap.size (.slice A' M c') (wL k vs) ∧ Below w.heap.size w wr)
    case atStart => exact ⟨0, Nat.zero_le _, by omega, rfl, rfl, HM0.out, HB2.out⟩
    case round =>
      clear HM0 HOW2 HB2
      obtain ⟨k, hk, hg, rfl, rfl, how, hbel⟩ := hrel
      have HOW := hid how
      have HBE := hid hbel
      clear how hbel
      by_cases hlt : k < M
      · have hkl : k < vs.length := by rw [HL.out]; exact hlt
        obtain ⟨g, cap, e, hg1, hg2, hg3⟩ := HOW.out.form (by rw [wL_len]; omega)
        injection e with e1 e2 e3
        subst e1
        have how : OwnInts wr w.heap.size (.slice (some ⟨g, 0, none⟩) (wL k vs).length c') (wL k vs) := by rw [wL_len, HL.out]; exact HOW.out
        have g2 := how.cell (j := k) (by rw [wL_len]; exact hkl)
        have f2 := how.frozen k
        rw [wL_at hkl] at g2
        have HST := hid (HOW.out.set (by rw [wL_len, HL.out]) k (fW (vs.getD k 0)))
        rw [wL_set hkl] at HST
        have HTK := hid (cw_take (l := vs.map fW) (fun _ => 1) (k := k) (by rw [List.length_map]; exact hkl))
        have HTT : Hid (totW ((vs.map fW).take (k + 1)) = totW ((vs.map fW).take k) + fW (vs.getD k 0)) := by
          have h := HTK.out
          rw [map_fW_at hkl, Int.mul_one] at h
          exact h
        have htb := totW_bd (ws := (vs.map fW).take k) (fun x hx => HS.out.w x (List.mem_of_mem_take hx))
        rw [List.length_take, List.length_map] at htb
        have hkI : (k : Int) < (M : Int) := by omega
        have HG1 := hid hg1
        clear how e2 e3 hg3 HTK
        rw [show fW (vs.getD k 0) = 1 + vs.getD k 0 % 50 from rfl] at HST HTT
        generalize totW ((vs.map fW).take k) = t at *
        generalize vs.getD k 0 = x at *
        go_wp2_with fail
        refine (within_any _ _ _ (by omega) (by omega)).mono ?_
        rintro e w' ⟨rfl, rfl⟩
        have hx1 : 0 ≤ x % 50 := by omega
        have hx2 : x % 50 < 50 := by omega
        generalize x % 50 = y at *
        go_wp2
        go_roundg (M - (k + 1))
        case measure => omega
        case rel => exact ⟨k + 1, by omega, by omega, by rw [HTT.out], by go_num, HST.out, HBE.out.setCell HG1.out _⟩
      · obtain rfl : M = k := by omega
        obtain ⟨ws, hws⟩ : ∃ ws, ws = vs.map fW := ⟨_, rfl⟩
        have hlw : ws.length = M := by rw [hws, List.length_map]; exact HL.out
        rw [wL_all vs HL.out.symm, ← hws] at HOW
        rw [← hws] at HS ⊢
        rw [show ws.take M = ws by rw [← hlw]; exact List.take_length]
        have HLW := hid hlw
        clear hws hlw
        obtain ⟨T, hT⟩ : ∃ T, totW ws = T := ⟨_, rfl⟩
        have htb := HS.out.totW
        have HTW := hid hT
        rw [hT] at htb ⊢
        clear hT
        go_wp2_with fail
        refine (walk_any M _ (by omega)).mono ?_
        rintro e V ⟨g, hg1, rfl, hU, hb⟩
        obtain ⟨N, hN⟩ : ∃ N, N = 2 ^ M := ⟨_, rfl⟩
        have HN := hid hN
        have hN1 : 1 ≤ N := by rw [hN]; exact Nat.two_pow_pos M
        have hN2 : N ≤ 256 := by rw [hN]; exact Nat.pow_le_pow_right (n := 2) (by omega) hM8
        have HCE : Hid (∀ j W, j < N → Below V.heap.size V W → W.cell? ⟨g, j, none⟩ = some (.int .u16 ((gry j : Nat) : Int))) := fun j W hj hw => by
          have h := (hU.keep hw).cell (j := j) (by rw [length_codes, ← hN]; exact hj)
          rwa [getD_codes (by rw [← hN]; exact hj)] at h
        have HBV := hid (below_step HBE.out (Nat.le_refl _) hb)
        have HIV := hid (HOW.out.keep hb).asInts.1
        have HTV := hid (HT.out.keep HBV.out)
        rw [← hN]
        clear hg1 hb hU hN HOW HBE HT
        have HA0 : Hid (accW ws 0 = 0) := rfl
        go_wp2_with fail
        go_loopg [7, 8, 61] N (fun h s u z wr => ∃ i : Nat, i ≤ N ∧ N - i ≤ h ∧ s = .int .i64 (lastW ws i) ∧ u = .int .i64 (accW ws i) ∧ z = .int .i64 (i : Int) ∧ Below V.heap.size V wr)
        case atStart => exact ⟨0, Nat.zero_le _, by omega, rfl, rfl, rfl, Below.refl _ _⟩
        case round =>
          clear HA0
          obtain ⟨i, hi, hg, rfl, rfl, rfl, hbel⟩ := hrel
          have HBI := hid hbel
          clear hbel
          by_cases hin : i < N
          · have g1 := HCE.out i wr hin HBI.out
            have hgr : gry i < 2 ^ M := fold_lt (by rw [← HN.out]; exact hin)
            have HCH := hid (evChance_ok A' M c' ws (gry i) wr (HIV.out.keep HBI.out) HS.out hgr)
            obtain ⟨hbk, hrm⟩ := ratio_back (wgt ws (gry i)) (t := T) htb.1
            rw [show Rat.divInt (wgt ws (gry i)) T = chR ws (gry i) by rw [chR, HTW.out]] at hbk hrm
            have hq1 : (1 : Int) ≤ ((chR ws (gry i)).den : Int) := by have := Rat.den_pos (chR ws (gry i)); omega
            have hq2 : ((chR ws (gry i)).den : Int) ≤ 1200 := by have := (chR_bd HS.out (gry i)).2; omega
            have hX := HS.out.bd (gry i)
            have HAC : Hid (accW ws (i + 1) = accW ws i + wgt ws (gry i)) := rfl
            have HLA : Hid (lastW ws (i + 1) = wgt ws (gry i)) := rfl
            have hac := accW_bd HS.out i
            have hgi : gry i < 65536 := by have h8 : 2 ^ M ≤ 2 ^ 8 := Nat.pow_le_pow_right (by omega) hM8; omega
            have hrm2 : (T % ((chR ws (gry i)).den : Int) != 0) = false := by rw [hrm]; rfl
            have hiI : (i : Int) < (N : Int) := by omega
            clear hgr hrm
            generalize hP : (chR ws (gry i)).num = P at *
            generalize hQ : ((chR ws (gry i)).den : Int) = Q at *
            clear hP hQ
            go_wp2_with fail
            refine HCH.out.mono ?_
            rintro e w5 ⟨rfl, hb⟩
            have hr := RatAt.new w5 32 P Q
            have g2 := hr.p0
            have g3 := hr.p1
            have gl := hr.lt
            have HB5 := hid (below_step (below_step HBI.out (Nat.le_refl _) hb) (Nat.le_refl _) (below_alloc w5 (.cells #[.int .i64 P, .int .i64 Q] 32)))
            clear hr hb HCH HBI g1
            go_wp2_with fail
            go_quiet (fail)
            obtain ⟨U, hU⟩ : ∃ U, U = (w5.alloc (.cells #[.int .i64 P, .int .i64 Q] 32)).drewN nq := ⟨_, rfl⟩
            have HBU : Hid (Below V.heap.size V U) := by rw [hU]; exact below_drewN HB5.out _
            rw [← hU]
            clear hU HB5 g2 g3 gl
            by_cases hi0 : i = 0
            · subst hi0
              have hz0 : decide ((0 : Int) < 0) = false := rfl
              generalize wgt ws (gry 0) = X at *
              generalize accW ws 0 = a at *
              go_wp2
              go_roundg (N - 1)
              case measure => omega
              case rel => exact ⟨1, by omega, by omega, by rw [HLA.out], by rw [HAC.out], rfl, HBU.out⟩
            · obtain ⟨p, rfl⟩ : ∃ p, i = p + 1 := ⟨i - 1, by omega⟩
              obtain ⟨k, q, hkq⟩ := low_place (p + 1) (by omega)
              have hk16 : k < 16 := place_lt hkq (by omega)
              have hkM : k < M := step_lt hkq (by rw [← HN.out]; exact hin)
              have hkl : k < ws.length := by rw [HLW.out]; exact hkM
              have hst := walk_one hkq hk16 hkl
              have hy := HS.out.w _ (getD_mem hkl)
              have HBT := hid (bit_any p k q U (HTV.out.keep HBU.out) (by omega) hkq)
              have hxo : bits .xor .u16 ((gry (p + 1) : Nat) : Int) ((gry p : Nat) : Int) = ((2 ^ k : Nat) : Int) := by
                rw [u16_xor_nat _ _ hgi (gry_lt (by omega)), Nat.xor_comm, gry_next hkq hk16]
              have HXO := hid hxo
              have hpk : 2 ^ k < 65536 := (Nat.pow_lt_pow_iff_right (a := 2) (m := 16) (by omega)).2 hk16
              have hsz := size_any (2 ^ k) U hpk
              rw [show ((ones (2 ^ k) : Nat) : Int) = 1 by have := ones_mul k 1; rw [Nat.mul_one] at this; rw [this, ones_one]; rfl] at hsz
              have HSZ := hid hsz
              obtain ⟨bb, oo, rfl, hb1, hc1⟩ := (HIV.out.keep HBU.out).row (by omega)
              have g4 := hc1 k hkM
              have g5 := HCE.out p U (by omega) HBU.out
              have HLP : Hid (lastW ws (p + 1) = wgt ws (gry p)) := rfl
              have hLb := HS.out.bd (gry p)
              rw [HLP.out]
              have hkI : ¬ (M : Int) ≤ (k : Int) := by omega
              clear hc1 hkq hk16 hxo hpk hsz hkl HTV hi0
              generalize wgt ws (gry (p + 1)) = X at *
              generalize wgt ws (gry p) = L at *
              generalize accW ws (p + 1) = a at *
              generalize ws.getD k 0 = y at *
              generalize gry (p + 1) = gp at *
              generalize gry p = gq at *
              go_wp2_with fail
              refine HBT.out.mono ?_
              rintro e w' ⟨rfl, rfl⟩
              rcases hst with hst | hst
              · have d1 : (X - L != y) = false := by simp; omega
                have HST := hid hst
                go_wp2_with fail
                rw [HXO.out]
                refine HSZ.out.mono ?_
                rintro e w6 ⟨rfl, hb⟩
                have HB6 := hid (below_step HBU.out (Nat.le_refl _) hb)
                clear hb
                go_wp2
                go_roundg (N - (p + 1 + 1))
                case measure => omega
                case rel => exact ⟨p + 1 + 1, by omega, by omega, by rw [HLA.out, HST.out], by rw [HAC.out, HST.out], by go_num, HB6.out⟩
              · have d1 : (X - L != y) = true := by simp; omega
                have d2 : (L - X != y) = false := by simp; omega
                have HST := hid hst
                go_wp2_with fail
                rw [HXO.out]
                refine HSZ.out.mono ?_
                rintro e w6 ⟨rfl, hb⟩
                have HB6 := hid (below_step HBU.out (Nat.le_refl _) hb)
                clear hb
                go_wp2
                go_roundg (N - (p + 1 + 1))
                case measure => omega
                case rel => exact ⟨p + 1 + 1, by omega, by omega, by rw [HLA.out, HST.out], by rw [HAC.out, HST.out], by go_num, HB6.out⟩
          · obtain rfl : N = i := by omega
            have HH : Hid (2 * accW ws N = (N : Int) * T) := by
              have h := accW_half (ws := ws) (by rw [HLW.out]; exact hM8)
              rw [HLW.out, ← HN.out, HTW.out] at h
              exact h
            have hac := accW_bd HS.out N
            have hb1 : 0 ≤ T * (N : Int) ∧ T * (N : Int) ≤ 1200 * 256 := ⟨Int.mul_nonneg (by omega) (by omega), Int.mul_le_mul (by omega) (by omega) (by omega) (by omega)⟩
            rw [Int.mul_comm (N : Int) T] at HH
            generalize accW ws N = a at *
            obtain ⟨hb1, hb2⟩ := hb1
            go_wp2
            go_ret
            exact ⟨by rw [HH.out]; simp, below_step HBV.out (Nat.le_refl _) HBI.out⟩
end Go.Proofs.YtlepgeipcofapaaDoor
