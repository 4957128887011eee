/-
  alias.Test (P73), whatever comes in.
-/
import Derived.Test.YteahhjakchcmkaaAliB
import Derived.Test.YteahhjakchcmkaaEqual
namespace Go.Proofs.Yteahhjakchcmkaa
open Go.RowKit

/-- What Test has counted behind k columns. -/
def shL (W : Int) (cs : List (Int × Int)) (n k : Nat) : List Int := (List.range n).map fun j : Nat => (if j < k then cut cs j else 0) + gets W cs (j : Int) k
theorem shL_len (W : Int) (cs : List (Int × Int)) (n k : Nat) : (shL W cs n k).length = n := by simp [shL]
theorem shL_get {W : Int} {cs : List (Int × Int)} {n k j : Nat} (h : j < n) : (shL W cs n k).getD j 0 = (if j < k then cut cs j else 0) + gets W cs (j : Int) k := by
  simp [shL, List.getD_eq_getElem?_getD, h]
theorem shL_zero (W : Int) (cs : List (Int × Int)) (n : Nat) : shL W cs n 0 = List.replicate n 0 := by
  refine ext_getD (by rw [shL_len, List.length_replicate]) fun j hj => ?_
  rw [shL_len] at hj
  rw [shL_get hj, if_neg (by omega)]
  simp [gets, sgm, List.getD_eq_getElem?_getD, hj]
theorem shL_step {W : Int} {cs : List (Int × Int)} {n k o : Nat} (hk : k < n) (ho : o < n) (hc : oth cs k = (o : Int)) :
    ((shL W cs n k).set k ((shL W cs n k).getD k 0 + cut cs k)).set o (((shL W cs n k).set k ((shL W cs n k).getD k 0 + cut cs k)).getD o 0 + (W - cut cs k)) = shL W cs n (k + 1) := by
  refine ext_getD (by simp [shL_len]) fun j hj => ?_
  simp only [List.length_set, shL_len] at hj
  rw [getD_set, List.length_set, shL_len, getD_set, getD_set, shL_len, shL_get hj, shL_get hk, shL_get ho, shL_get hj, gets_succ, hc]
  by_cases e1 : j = o
  · subst e1
    by_cases e2 : j = k
    · subst e2
      repeat' split
      all_goals omega
    · repeat' split
      all_goals omega
  · by_cases e2 : j = k
    · subst e2
      repeat' split
      all_goals omega
    · repeat' split
      all_goals omega
theorem shL_all {ws : List Int} {W : Int} {cs : List (Int × Int)} {n : Nat} (hl : ws.length = n) : decide (shL W cs n n = dueL ws) = decide (IsTbl ws W cs) := by
  subst hl
  refine decide_eq_decide.2 ⟨fun h i hi => ?_, fun h => ext_getD (by rw [shL_len, length_dueL]) fun j hj => ?_⟩
  · have h1 : (shL W cs ws.length ws.length).getD i 0 = (dueL ws).getD i 0 := by rw [h]
    rw [shL_get hi, getD_dueL hi, if_pos hi] at h1
    exact h1
  · rw [shL_len] at hj
    rw [shL_get hj, getD_dueL hj, if_pos hj]
    exact h j hj

def colE (n : Nat) (W : Int) (cs : List (Int × Int)) : Int := if colB n W cs then 0 else 1
theorem colE_no {n : Nat} {W : Int} {cs : List (Int × Int)} (h : colB n W cs = false) : colE n W cs = 1 := by unfold colE; rw [h]; rfl
theorem colE_yes {n : Nat} {W : Int} {cs : List (Int × Int)} (h : colB n W cs = true) : colE n W cs = 0 := by unfold colE; rw [h]; rfl
/-- What Test hands out. -/
def RetTe (w : World) (b : Bool) (er : Int) (e : Ending) (w' : World) : Prop := e = .returned (.tuple #[.bool b, .int .i64 er]) ∧ Below w.heap.size w w'

theorem aTest_bad (A : Option Addr) (n c : Nat) (B : Option Addr) (m d : Nat) (ws : List Int) (w : World) (hI : Ints w A n ws) (he : alErr ws ≠ 0) :
    Calls Try.prog 7 #[.slice A n c, .slice B m d] w (RetTe w false (alErr ws)) := by
  have HC := hid (aCheck_any A n c ws w hI)
  have hz : (alErr ws != 0) = true := by simpa using he
  clear hI he
  generalize alErr ws = E at *
  go_enter Try.func7, Try.ntmps7
  go_wp2_with fail
  refine HC.out.mono ?_
  rintro e w' ⟨rfl, rfl⟩
  go_wp2
  go_ret2
  exact ⟨rfl, Below.refl _ _⟩
theorem aTest_form (A : Option Addr) (n c : Nat) (B : Option Addr) (m d : Nat) (ws : List Int) (w : World) (hI : Ints w A n ws) (he : alErr ws = 0) (hm : m ≠ n) :
    Calls Try.prog 7 #[.slice A n c, .slice B m d] w (RetTe w false 3) := by
  have HC := hid (aCheck_any A n c ws w hI)
  rw [he] at HC
  have hz : ((m : Int) != (n : Int)) = true := by rw [bne_iff_ne]; omega
  clear hI he hm
  go_enter Try.func7, Try.ntmps7
  go_wp2_with fail
  refine HC.out.mono ?_
  rintro e w' ⟨rfl, rfl⟩
  go_wp2
  go_ret2
  exact ⟨rfl, Below.refl _ _⟩

set_option maxHeartbeats 4000000 in
theorem aTest_good (A : Option Addr) (n c : Nat) (B : Option Addr) (d : Nat) (ws : List Int) (cs : List (Int × Int)) (w : World) (hI : Ints w A n ws) (hJ : Cols w B n cs) (he : alErr ws = 0) :
    Calls Try.prog 7 #[.slice A n c, .slice B n d] w (RetTe w (tblB ws ws.sum cs) (colE n ws.sum cs)) := by
  have hF := fit_of he
  have hn : n ≤ 12 := by have := hF.hi; have := hI.len; omega
  have HC := hid (aCheck_any A n c ws w hI)
  rw [he] at HC
  have HSM := hid (asum_any A n c ws w hI hF.w hn)
  have HF := hid hF
  have HI := hid hI
  have HJ := hid hJ
  have HL := hid hI.len
  have HM := hid hJ.len
  have hW := hF.sum
  have hz : ((n : Int) != (n : Int)) = false := by simp
  have hmk := fun W => run_make_row' (P := Try.prog) 22 3 (.int .i64 0) 8 Try.underlying22 infoInt rfl .i64 .i64 n (by omega) (by omega) W
  clear hI hJ he hF
  generalize ws.sum = W at *
  go_enter Try.func7, Try.ntmps7
  go_wp2_with fail
  refine HC.out.mono ?_
  rintro e w' ⟨rfl, rfl⟩
  go_wp2_with fail
  refine HSM.out.mono ?_
  rintro e w' ⟨rfl, rfl⟩
  clear HC HSM hz
  go_wp2_with fail
  go_loopg [9, 27] n (fun g _ s wr => ∃ k : Nat, k ≤ n ∧ n - k ≤ g ∧ s = .int .i64 k ∧ Below w.heap.size w wr ∧ ∀ j, j < k → ColOk n W cs j)
  case atStart => exact ⟨0, Nat.zero_le _, by omega, rfl, Below.refl _ _, fun j hj => absurd hj (Nat.not_lt_zero _)⟩
  case round =>
    obtain ⟨k, hk, hg, rfl, hb, hall⟩ := hrel
    have HB := hid hb
    have HA := hid hall
    clear hb hall
    by_cases hlt : k < n
    · obtain ⟨b, o, rfl, hbl, hc⟩ := (HJ.out.keep HB.out).row (by omega)
      obtain ⟨g1, g2⟩ := hc k hlt
      have HX : Hid (cut cs k < 0 ∨ W < cut cs k ∨ oth cs k < 0 ∨ (n : Int) ≤ oth cs k → colB n W cs = false) := fun h => colB_no (k := k) (by rw [HM.out]; exact hlt) (fun e => by unfold ColOk at e; omega)
      have HY : Hid (¬ (cut cs k < 0 ∨ W < cut cs k ∨ oth cs k < 0 ∨ (n : Int) ≤ oth cs k) → ∀ j, j < k + 1 → ColOk n W cs j) := fun h j hj => by
        by_cases e : j = k
        · subst e
          unfold ColOk
          omega
        · exact HA.out j (by omega)
      clear hc HA
      generalize cut cs k = x at *
      generalize oth cs k = y at *
      by_cases c1 : x < 0
      · have HE := hid (HX.out (.inl c1))
        clear HX HY
        go_wp2
        go_ret2
        exact ⟨by rw [colE_no HE.out, tblB_col (by rw [HL.out]; exact HE.out)]; rfl, HB.out.alloc HB.out.size _⟩
      · by_cases c2 : W < x
        · have HE := hid (HX.out (.inr (.inl c2)))
          clear HX HY
          go_wp2
          go_ret2
          exact ⟨by rw [colE_no HE.out, tblB_col (by rw [HL.out]; exact HE.out)]; rfl, HB.out.alloc HB.out.size _⟩
        · by_cases c3 : y < 0
          · have HE := hid (HX.out (.inr (.inr (.inl c3))))
            clear HX HY
            go_wp2
            go_ret2
            exact ⟨by rw [colE_no HE.out, tblB_col (by rw [HL.out]; exact HE.out)]; rfl, HB.out.alloc HB.out.size _⟩
          · by_cases c4 : (n : Int) ≤ y
            · have HE := hid (HX.out (.inr (.inr (.inr c4))))
              clear HX HY
              go_wp2
              go_ret2
              exact ⟨by rw [colE_no HE.out, tblB_col (by rw [HL.out]; exact HE.out)]; rfl, HB.out.alloc HB.out.size _⟩
            · have HE := hid (HY.out (by omega))
              clear HX HY
              go_wp2
              go_roundg (n - (k + 1))
              case measure => omega
              case rel => exact ⟨k + 1, by omega, by omega, by go_num, HB.out.alloc HB.out.size _, HE.out⟩
    · obtain rfl : k = n := by omega
      have HK : Hid (ColsOk k W cs) := fun j hj => HA.out j (by rw [← HM.out]; exact hj)
      have HKB := hid (colB_yes HK.out)
      obtain ⟨wx, rfl⟩ : ∃ wx, wx = wr := ⟨_, rfl⟩
      have HAM := hid (Arr.made wx k)
      rw [← shL_zero W cs k] at HAM
      clear HA
      go_wp2_with fail
      go_loopg [11, 12, 56] k (fun g _ _ s wq => ∃ i : Nat, i ≤ k ∧ k - i ≤ g ∧ s = .int .i64 i ∧ Below wx.heap.size wx wq ∧ Arr wq wx.heap.size (shL W cs k i))
      case atStart => exact ⟨0, Nat.zero_le _, by omega, rfl, below_alloc _ _, HAM.out⟩
      case round =>
        obtain ⟨i, hi, hgi, rfl, hb, ha⟩ := hrel
        have HBQ := hid hb
        have HR := hid ha
        clear hb ha HAM
        by_cases hlt : i < k
        · obtain ⟨b, o, rfl, hbl, hc⟩ := (HJ.out.keep (below_step HB.out (Nat.le_refl _) ((HBQ.out.mono (Nat.le_refl _))))).row (by omega)
          obtain ⟨g1, g2⟩ := hc i hlt
          have hck := HK.out i (by rw [HM.out]; exact hlt)
          unfold ColOk at hck
          have hgn := gets_nonneg HK.out (i : Int) (k := i) (by rw [HM.out]; exact hi)
          have hgb : (i : Int) * W ≤ 12 * 1200 := Int.mul_le_mul (by omega) hW.2 (by omega) (by omega)
          have hgl := gets_le HK.out (by omega) (i : Int) (k := i) (by rw [HM.out]; exact hi)
          obtain ⟨q, hq⟩ : ∃ q : Nat, oth cs i = (q : Int) := ⟨(oth cs i).toNat, by omega⟩
          have hqk : q < k := by omega
          have hgn2 := gets_nonneg HK.out (q : Int) (k := i) (by rw [HM.out]; exact hi)
          have hgl2 := gets_le HK.out (by omega) (q : Int) (k := i) (by rw [HM.out]; exact hi)
          have HST := hid (shL_step (W := W) hlt hqk hq)
          have hS1 : (shL W cs k i).getD i 0 = gets W cs (i : Int) i := by rw [shL_get hlt, if_neg (by omega)]; omega
          have hcq : 0 ≤ cut cs q ∧ cut cs q ≤ W := by
            have := HK.out q (by rw [HM.out]; exact hqk)
            unfold ColOk at this
            omega
          have hS2 : 0 ≤ ((shL W cs k i).set i ((shL W cs k i).getD i 0 + cut cs i)).getD q 0 ∧ ((shL W cs k i).set i ((shL W cs k i).getD i 0 + cut cs i)).getD q 0 ≤ 20000 := by
            rw [getD_set, shL_len, shL_get hqk, hS1]
            by_cases e : q = i
            · subst e
              rw [if_pos ⟨rfl, hlt⟩]
              omega
            · rw [if_neg (fun x => e x.1)]
              split <;> omega
          have hS3 : 0 ≤ (shL W cs k i).getD i 0 ∧ (shL W cs k i).getD i 0 ≤ 20000 := by rw [hS1]; omega
          have s1 := HR.out.cell (j := i) (by rw [shL_len]; exact hlt)
          have f1 := HR.out.frozen i
          have HR2 := HR.out.set i ((shL W cs k i).getD i 0 + cut cs i)
          have s2 := HR2.cell (j := q) (by rw [List.length_set, shL_len]; exact hqk)
          have f2 := HR2.frozen q
          have hne := HR.out.lt
          rw [hq] at g2
          clear hc hgb hgl hgn hgn2 hgl2 hS1 hq HR2
          generalize ((shL W cs k i).set i ((shL W cs k i).getD i 0 + cut cs i)).getD q 0 = y2 at *
          generalize (shL W cs k i).getD i 0 = y1 at *
          generalize cut cs i = x at *
          generalize hgbb : wx.heap.size = gb at *
          go_wp2_with fail
          go_region
          go_wp2_with fail
          go_region
          go_wp2
          go_roundg (k - (i + 1))
          case measure => omega
          case rel =>
            refine ⟨i + 1, by omega, by omega, by go_num, ?_, ?_⟩
            · exact below_drewN (((HBQ.out.setCell (Nat.le_refl _) _).setCell (Nat.le_refl _) _).alloc (by simp [World.setCell]; omega) _) 2
            · rw [← HST.out]
              exact ((HR.out.set i _).set q _).alloc _
        · obtain rfl : i = k := by omega
          have HBW := hid (below_step HB.out (Nat.le_refl _) HBQ.out)
          have HD := hid (aDue_any A i c ws wr (HI.out.keep HBW.out) HF.out.w hn)
          have HLD : Hid ((dueL ws).length = i) := (length_dueL ws).trans HL.out
          have HE2 := hid (shL_all (W := W) (cs := cs) HL.out)
          have HTB : Hid (tblB ws W cs = decide (IsTbl ws W cs)) := by
            unfold tblB
            refine decide_eq_decide.2 ⟨fun h => h.2, fun h => ⟨by rw [HL.out]; exact HK.out, h⟩⟩
          clear hmk
          go_wp2_with fail
          refine HD.out.mono ?_
          rintro e w2 ⟨rfl, ha2, hb2⟩
          rw [HLD.out]
          have HI1 := (HR.out.keep hb2).ints0 i (by rw [shL_len]; exact Nat.le_refl _)
          rw [List.take_of_length_le (by rw [shL_len]; exact Nat.le_refl _)] at HI1
          have HI2 := ha2.ints0 i (by rw [HLD.out]; exact Nat.le_refl _)
          rw [List.take_of_length_le (by rw [HLD.out]; exact Nat.le_refl _)] at HI2
          have HQ := hid (equal_any _ i i _ i i _ _ w2 HI1 HI2 (by omega) (by omega))
          rw [HE2.out] at HQ
          have HB2 := hid (below_step HBW.out (Nat.le_refl _) hb2)
          clear ha2 hb2 HI1 HI2 HD
          go_wp2_with fail
          refine HQ.out.mono ?_
          rintro e w3 ⟨rfl, q, rfl⟩
          go_wp2
          go_ret2
          exact ⟨by rw [HTB.out, colE_yes HKB.out]; rfl, below_drewN HB2.out q⟩
end Go.Proofs.Yteahhjakchcmkaa
