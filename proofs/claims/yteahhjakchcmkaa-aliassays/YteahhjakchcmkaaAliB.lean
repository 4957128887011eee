/-
  castref.Table (P72): is it a table of the weights, and are its columns right at all?
-/
import Derived.Test.YteahhjakchcmkaaAliU
namespace Go.Proofs.Yteahhjakchcmkaa
open Go.RowKit

def colB (n : Nat) (W : Int) (cs : List (Int × Int)) : Bool := decide (ColsOk n W cs)
def tblB (ws : List Int) (W : Int) (cs : List (Int × Int)) : Bool := decide (ColsOk ws.length W cs ∧ IsTbl ws W cs)
/-- Two answers come back. -/
def RetBB (w : World) (a b : Bool) (e : Ending) (w' : World) : Prop := e = .returned (.tuple #[.bool a, .bool b]) ∧ Below w.heap.size w w'
theorem colB_no {n : Nat} {W : Int} {cs : List (Int × Int)} {k : Nat} (hk : k < cs.length) (h : ¬ ColOk n W cs k) : colB n W cs = false := decide_eq_false fun e => h (e k hk)
theorem colB_yes {n : Nat} {W : Int} {cs : List (Int × Int)} (h : ColsOk n W cs) : colB n W cs = true := decide_eq_true h
theorem tblB_col {ws : List Int} {W : Int} {cs : List (Int × Int)} (h : colB ws.length W cs = false) : tblB ws W cs = false := decide_eq_false fun e => of_decide_eq_false h e.1
theorem tblB_no {ws : List Int} {W : Int} {cs : List (Int × Int)} {i : Nat} (hi : i < ws.length) (h : shr W cs ws.length i ≠ (ws.length : Int) * ws.getD i 0) : tblB ws W cs = false := decide_eq_false fun e => h (e.2 i hi)
theorem tblB_yes {ws : List Int} {W : Int} {cs : List (Int × Int)} (h : ColsOk ws.length W cs) (h2 : IsTbl ws W cs) : tblB ws W cs = true := decide_eq_true ⟨h, h2⟩

set_option maxHeartbeats 4000000 in
theorem table_any (A : Option Addr) (n c : Nat) (B : Option Addr) (d : Nat) (W : Int) (ws : List Int) (cs : List (Int × Int)) (w : World) (hI : Ints w A n ws) (hC : Cols w B n cs) (hw : ∀ j, j < ws.length → 0 ≤ ws.getD j 0 ∧ ws.getD j 0 ≤ 100) (hn : n ≤ 12) (hW : 0 ≤ W ∧ W ≤ 1200) :
    Calls Try.prog 11 #[.slice A n c, .int .i64 W, .slice B n d] w (RetBB w (tblB ws W cs) (colB n W cs)) := by
  have HI := hid hI
  have HC := hid hC
  have HL := hid hI.len
  have HM := hid hC.len
  have HS := hid hw
  clear hI hC hw
  go_enter Try.func11, Try.ntmps11
  go_wp2_with fail
  go_loopg [9, 17] n (fun g _ s wr => ∃ k : Nat, k ≤ n ∧ n - k ≤ g ∧ s = .int .i64 k ∧ Below w.heap.size w wr ∧ ∀ j, j < k → ColOk n W cs j)
  case atStart => exact ⟨0, Nat.zero_le _, by omega, rfl, Below.refl _ _, fun j hj => absurd hj (Nat.not_lt_zero _)⟩
  case round =>
    obtain ⟨k, hk, hg, rfl, hb, hall⟩ := hrel
    have HB := hid hb
    have HA := hid hall
    clear hb hall
    by_cases hlt : k < n
    · obtain ⟨b, o, rfl, hbl, hc⟩ := (HC.out.keep HB.out).row (by omega)
      obtain ⟨g1, g2⟩ := hc k hlt
      have HX : Hid (cut cs k < 0 ∨ W < cut cs k ∨ oth cs k < 0 ∨ (n : Int) ≤ oth cs k → colB n W cs = false) := fun h => colB_no (k := k) (by rw [HM.out]; exact hlt) (fun e => by unfold ColOk at e; omega)
      have HY : Hid (¬ (cut cs k < 0 ∨ W < cut cs k ∨ oth cs k < 0 ∨ (n : Int) ≤ oth cs k) → ∀ j, j < k + 1 → ColOk n W cs j) := fun h j hj => by
        by_cases e : j = k
        · subst e
          unfold ColOk
          omega
        · exact HA.out j (by omega)
      clear hc HA
      generalize cut cs k = x at *
      generalize oth cs k = y at *
      by_cases c1 : x < 0
      · have HE := hid (HX.out (.inl c1))
        clear HX HY
        go_wp2
        go_ret2
        exact ⟨by rw [HE.out, tblB_col (by rw [HL.out]; exact HE.out)]; rfl, HB.out.alloc HB.out.size _⟩
      · by_cases c2 : W < x
        · have HE := hid (HX.out (.inr (.inl c2)))
          clear HX HY
          go_wp2
          go_ret2
          exact ⟨by rw [HE.out, tblB_col (by rw [HL.out]; exact HE.out)]; rfl, HB.out.alloc HB.out.size _⟩
        · by_cases c3 : y < 0
          · have HE := hid (HX.out (.inr (.inr (.inl c3))))
            clear HX HY
            go_wp2
            go_ret2
            exact ⟨by rw [HE.out, tblB_col (by rw [HL.out]; exact HE.out)]; rfl, HB.out.alloc HB.out.size _⟩
          · by_cases c4 : (n : Int) ≤ y
            · have HE := hid (HX.out (.inr (.inr (.inr c4))))
              clear HX HY
              go_wp2
              go_ret2
              exact ⟨by rw [HE.out, tblB_col (by rw [HL.out]; exact HE.out)]; rfl, HB.out.alloc HB.out.size _⟩
            · have HE := hid (HY.out (by omega))
              clear HX HY
              go_wp2
              go_roundg (n - (k + 1))
              case measure => omega
              case rel => exact ⟨k + 1, by omega, by omega, by go_num, HB.out.alloc HB.out.size _, HE.out⟩
    · obtain rfl : k = n := by omega
      have HK : Hid (ColsOk k W cs) := fun j hj => HA.out j (by rw [← HM.out]; exact hj)
      have HKB := hid (colB_yes HK.out)
      clear HA
      go_wp2_with fail
      go_loopg [10, 11, 12, 14, 45] k (fun g _ _ _ _ s wq => ∃ i : Nat, i ≤ k ∧ k - i ≤ g ∧ s = .int .i64 i ∧ Below w.heap.size w wq ∧ ∀ j, j < i → shr W cs k j = (k : Int) * ws.getD j 0)
      case atStart => exact ⟨0, Nat.zero_le _, by omega, rfl, HB.out, fun j hj => absurd hj (Nat.not_lt_zero _)⟩
      case round =>
        obtain ⟨i, hi, hgi, rfl, hb, hall⟩ := hrel
        have HBQ := hid hb
        have HT := hid hall
        clear hb hall HB
        by_cases hlt : i < k
        · obtain ⟨b1, o1, rfl, hbl1, hc1⟩ := (HI.out.keep HBQ.out).row (by omega)
          have g0 := hc1 i hlt
          obtain ⟨b, o, rfl, hbl, hc⟩ := (HC.out.keep HBQ.out).row (by omega)
          obtain ⟨g1, g2⟩ := hc i hlt
          have h3 := HS.out i (by rw [HL.out]; exact hlt)
          have h4 : ws.getD i 0 * (k : Int) ≤ 100 * 12 := Int.mul_le_mul h3.2 (by omega) (by omega) (by omega)
          have h5 : 0 ≤ ws.getD i 0 * (k : Int) := Int.mul_nonneg h3.1 (by omega)
          have h6 : IntKind.i64.wrap (ws.getD i 0 * (k : Int)) = ws.getD i 0 * (k : Int) := by rw [IntKind.wrap_i64]; omega
          have HXI : Hid (shr W cs k i ≠ ws.getD i 0 * (k : Int) → tblB ws W cs = false) := fun h => tblB_no (i := i) (by rw [HL.out]; exact hlt) (by rw [HL.out, Int.mul_comm]; exact h)
          have HYI : Hid (shr W cs k i = ws.getD i 0 * (k : Int) → ∀ j, j < i + 1 → shr W cs k j = (k : Int) * ws.getD j 0) := fun h j hj => by
            by_cases e : j = i
            · subst e
              rw [Int.mul_comm]
              exact h
            · exact HT.out j (by omega)
          clear hc hc1 HT
          obtain ⟨wx, rfl⟩ : ∃ wx, wx = wr := ⟨_, rfl⟩
          have hck : 0 ≤ cut cs i ∧ cut cs i ≤ W := by
            have := HK.out i (by rw [HM.out]; exact hlt)
            unfold ColOk at this
            omega
          have HSH : Hid (shr W cs k i = cut cs i + gets W cs (i : Int) k) := rfl
          generalize hCI : cut cs i = ci at *
          have HCI := hid hCI
          clear hCI
          generalize ws.getD i 0 = v at *
          go_wp2_with fail
          go_loopg [12, 14, 57] k (fun g u _ s wq => ∃ j : Nat, j ≤ k ∧ k - j ≤ g ∧ s = .int .i64 j ∧ u = .int .i64 (ci + gets W cs (i : Int) j) ∧ Below w.heap.size w wq)
          case atStart => exact ⟨0, Nat.zero_le _, by omega, rfl, by rw [show gets W cs (i : Int) 0 = 0 from rfl, Int.add_zero], HBQ.out⟩
          case round =>
            obtain ⟨j, hj, hgj, rfl, rfl, hb⟩ := hrel
            have HBJ := hid hb
            clear hb
            have hgn := gets_nonneg HK.out (i : Int) (k := j) (by rw [HM.out]; exact hj)
            have hgl := gets_le HK.out hW.1 (i : Int) (k := j) (by rw [HM.out]; exact hj)
            have hgb : (j : Int) * W ≤ 12 * 1200 := Int.mul_le_mul (by omega) hW.2 hW.1 (by omega)
            have hgb2 : gets W cs (i : Int) j ≤ 14400 := by omega
            clear hgl hgb
            by_cases hlj : j < k
            · obtain ⟨b2, o2, he2, hbl2, hc2⟩ := (HC.out.keep HBJ.out).row (by omega)
              injection he2 with he2
              injection he2 with he2 he3
              subst he2
              subst he3
              obtain ⟨g3, g4⟩ := hc2 j hlj
              have hcj : 0 ≤ cut cs j ∧ cut cs j ≤ W := by
                have := HK.out j (by rw [HM.out]; exact hlj)
                unfold ColOk at this
                omega
              have HG := hid (gets_succ W cs (i : Int) j)
              clear hc2
              generalize gets W cs (i : Int) j = G at *
              generalize cut cs j = x at *
              generalize oth cs j = y at *
              by_cases e : y = (i : Int)
              · have HG1 := HG.out
                rw [if_pos e] at HG1
                have HG2 := hid HG1
                have hz : (y == (i : Int)) = true := by simpa using e
                clear HG1 HG e
                go_wp2
                go_roundg (k - (j + 1))
                case measure => omega
                case rel => exact ⟨j + 1, by omega, by omega, by go_num, by rw [HG2.out]; go_num, HBJ.out.alloc HBJ.out.size _⟩
              · have HG1 := HG.out
                rw [if_neg e] at HG1
                have HG2 := hid HG1
                have hz : (y == (i : Int)) = false := by simpa using e
                clear HG1 HG e
                go_wp2
                go_roundg (k - (j + 1))
                case measure => omega
                case rel => exact ⟨j + 1, by omega, by omega, by go_num, by rw [HG2.out]; go_num, HBJ.out.alloc HBJ.out.size _⟩
            · obtain rfl : j = k := by omega
              rw [HSH.out] at HXI HYI
              generalize ci + gets W cs (i : Int) j = S at *
              by_cases e : S = v * (j : Int)
              · have HE := hid (HYI.out e)
                have hz : (S != v * (j : Int)) = false := by simpa using e
                clear HXI HYI e
                go_wp2
                go_roundg (j - (i + 1))
                case measure => omega
                case rel => exact ⟨i + 1, by omega, by omega, by go_num, HBJ.out, HE.out⟩
              · have HE := hid (HXI.out e)
                have hz : (S != v * (j : Int)) = true := by simpa using e
                clear HXI HYI e
                go_wp2
                go_ret2
                exact ⟨by rw [HE.out, HKB.out]; rfl, HBJ.out⟩
        · obtain rfl : i = k := by omega
          have HE : Hid (tblB ws W cs = true) := tblB_yes (by rw [HL.out]; exact HK.out) (by unfold IsTbl; rw [HL.out]; exact HT.out)
          go_wp2
          go_ret2
          exact ⟨by rw [HE.out, HKB.out]; rfl, HBQ.out⟩
end Go.Proofs.Yteahhjakchcmkaa
