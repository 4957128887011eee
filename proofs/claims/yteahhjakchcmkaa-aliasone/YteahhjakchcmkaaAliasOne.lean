/-
  castkeep.AliasOne, walked.
-/
import Derived.Test.YteahhjakchcmkaaAliG
import Derived.Test.YteahhjakchcmkaaGen
import Derived.Test.YteahhjakchcmkaaClone
namespace Go.Proofs.Yteahhjakchcmkaa
open Go.RowKit

/-- One weight less at a, one more at b. -/
def othW (ws : List Int) (a b : Nat) : List Int := (ws.set a (ws.getD a 0 - 1)).set b ((ws.set a (ws.getD a 0 - 1)).getD b 0 + 1)
theorem othW_len (ws : List Int) (a b : Nat) : (othW ws a b).length = ws.length := by simp [othW]
theorem othW_get {ws : List Int} {a b j : Nat} (ha : a < ws.length) (hb : b < ws.length) (hj : j < ws.length) : (othW ws a b).getD j 0 = ws.getD j 0 + (if j = a then -1 else 0) + (if j = b then 1 else 0) := by
  unfold othW
  rw [getD_set, List.length_set, getD_set, getD_set]
  by_cases e1 : j = b
  · subst e1
    rw [if_pos ⟨rfl, hj⟩, if_pos (c := j = j) rfl]
    by_cases e2 : j = a
    · subst e2
      rw [if_pos ⟨rfl, hj⟩, if_pos (c := j = j) rfl]
      omega
    · rw [if_neg (fun x => e2 x.1), if_neg e2]
      omega
  · rw [if_neg (fun x => e1 x.1), if_neg e1]
    by_cases e2 : j = a
    · subst e2
      rw [if_pos ⟨rfl, hj⟩, if_pos rfl]
      omega
    · rw [if_neg (fun x => e2 x.1), if_neg e2]
      omega
theorem othW_same {ws : List Int} {a : Nat} (ha : a < ws.length) : othW ws a a = ws := by
  refine ext_getD (othW_len _ _ _) fun j hj => ?_
  rw [othW_len] at hj
  rw [othW_get ha ha hj]
  split <;> omega
theorem othW_sum {ws : List Int} {a b : Nat} (ha : a < ws.length) (hb : b < ws.length) : (othW ws a b).sum = ws.sum := by
  rw [sum_sgm, sum_sgm, othW_len, sgm_congr (g := fun j => (ws.getD j 0 + (if j = a then -1 else 0)) + (if j = b then 1 else 0)) (fun j hj => othW_get ha hb hj), sgm_add, sgm_add, sgm_point, sgm_point, if_pos ha, if_pos hb]
  omega
theorem othW_tbl {ws : List Int} {cs : List (Int × Int)} {a b : Nat} (h0 : 0 < ws.length) (ha : a < ws.length) (hb : b < ws.length) (hC : ColsOk ws.length ws.sum cs) (hT : IsTbl ws ws.sum cs) : tblB (othW ws a b) ws.sum cs = decide ((a : Int) = (b : Int)) := by
  by_cases e : a = b
  · subst e
    rw [othW_same ha, tblB_yes hC hT]
    simp
  · rw [decide_eq_false (by omega)]
    refine tblB_no (i := a) (by rw [othW_len]; exact ha) ?_
    rw [othW_len, othW_get ha hb ha, if_pos rfl, if_neg e, hT a ha, Int.mul_add, Int.mul_add]
    omega

set_option maxHeartbeats 1000000 in
set_option maxRecDepth 100000 in
theorem aliasOne_bad (A : Option Addr) (n c : Nat) (i0 k0 : Int) (ws : List Int) (w : World) (hI : Ints w A n ws) (he : alErr ws ≠ 0) :
    Calls Try.prog 5 #[.slice A n c, .int .i64 i0, .int .i64 k0] w fun e w' => e = .returned (.bool true) ∧ Below w.heap.size w w' := by
  have HI := hid hI
  have HBU := hid (fun W (h : Ints W A n ws) => aBuild_any A n c ws W h)
  have HZ1 : Hid ((alErr ws != 0) = true) := by simpa [Hid] using he
  have HE := hid he
  unfold RetBu at HBU
  clear hI he
  generalize alErr ws = E at *
  go_enter Try.func5, Try.ntmps5
  go_wp2_with fail
  refine (tables_any w).mono ?_
  rintro e w1 ⟨rfl, hb⟩
  have HB1 := hid hb
  have HI1 := hid (HI.out.keep hb)
  clear hb
  go_wp2_with fail
  refine (HBU.out w1 HI1.out).mono ?_
  rintro e w2 ⟨A1, n1, c1, cs1, rfl, hb, hc1, hcap, hbad, hgood⟩
  have HB2 := hid (below_step HB1.out (Nat.le_refl _) hb)
  obtain rfl := hbad HE.out
  have hz1 := HZ1.out
  clear hb hc1 hcap hbad hgood HBU
  go_wp2
  go_ret
  exact ⟨rfl, HB2.out⟩

set_option maxHeartbeats 4000000 in
set_option maxRecDepth 100000 in
theorem aliasOne_good (A : Option Addr) (n c : Nat) (i0 k0 : Int) (ws : List Int) (w : World) (hI : Ints w A n ws) (he : alErr ws = 0) :
    Calls Try.prog 5 #[.slice A n c, .int .i64 i0, .int .i64 k0] w fun e w' => e = .returned (.bool true) ∧ Below w.heap.size w w' := by
  have HF := hid (fit_of he)
  have HL := hid hI.len
  have hn : n ≤ 12 := by have := HF.out.hi; have := HL.out; omega
  have hn0 : 0 < n := by have := HF.out.lo; have := HL.out; omega
  have hnz : ((n : Int) == 0) = false := by rw [beq_eq_false_iff_ne]; omega
  have hW := HF.out.sum
  have HI := hid hI
  have HBU := hid (fun W (h : Ints W A n ws) => aBuild_any A n c ws W h)
  unfold RetBu at HBU
  rw [he] at HBU
  have hnn : ((n : Int) != (n : Int)) = false := by simp
  clear hI he
  go_enter Try.func5, Try.ntmps5
  go_wp2_with fail
  refine (tables_any w).mono ?_
  rintro e w1 ⟨rfl, hb⟩
  have HB1 := hid hb
  have HI1 := hid (HI.out.keep hb)
  clear hb HI
  go_wp2_with fail
  refine (HBU.out w1 HI1.out).mono ?_
  rintro e w3 ⟨B, n1, d, cs, rfl, hb, hc1, hcap, hbad, hgood⟩
  have HB3 := hid (below_step HB1.out (Nat.le_refl _) hb)
  have HI3 := hid (HI1.out.keep hb)
  obtain ⟨hn1, hcok, htbl⟩ := hgood (by first | rfl | trivial)
  rw [HL.out] at hn1
  subst hn1
  have HC3 := hid hc1
  have HOK := hid hcok
  have HTBL := hid htbl
  clear hb hc1 hcap hbad hgood HBU hcok htbl HB1 HI1
  go_wp2_with fail
  go_loopg [9, 11, 47] n1 (fun g u _ s wr => ∃ k : Nat, k ≤ n1 ∧ n1 - k ≤ g ∧ u = .int .i64 ((ws.take k).sum) ∧ s = .int .i64 (k : Int) ∧ wr = w3)
  case atStart => exact ⟨0, by omega, by omega, rfl, rfl, rfl⟩
  case round =>
    obtain ⟨k, hk, hg, rfl, rfl, rfl⟩ := hrel
    by_cases hlt : k < n1
    · obtain ⟨b, o, rfl, hb, hc⟩ := HI3.out.row (by omega)
      have g1 := hc k hlt
      have hkl : k < ws.length := by rw [HL.out]; exact hlt
      have HM : Hid ((ws.take (k + 1)).sum = (ws.take k).sum + ws.getD k 0) := by rw [Hid, take_snoc hkl, List.sum_append]; simp
      have h3 := sum_take_bd HF.out.w (n := k) (by omega)
      have h4 := HF.out.w k hkl
      have hkI : (k : Int) < (n1 : Int) := by omega
      clear hc hkl
      generalize (ws.take k).sum = x at *
      generalize ws.getD k 0 = y at *
      go_wp2
      go_roundg (n1 - (k + 1))
      case measure => omega
      case rel => exact ⟨k + 1, by omega, by omega, by rw [HM.out], by go_num, rfl⟩
    · obtain rfl : k = n1 := by omega
      have HE : Hid (ws.take k = ws) := by rw [← HL.out]; exact List.take_length
      rw [HE.out]
      obtain ⟨wx, rfl⟩ : ∃ wx, wx = wr := ⟨_, rfl⟩
      have HCL := hid HC3.out.len
      clear HE
      go_wp2_with fail
      go_loopg [12, 13, 57] k (fun g _ _ s wq => ∃ i : Nat, i ≤ k ∧ k - i ≤ g ∧ s = .int .i64 i ∧ Below wx.heap.size wx wq)
      case atStart => exact ⟨0, Nat.zero_le _, by omega, rfl, Below.refl _ _⟩
      case round =>
        obtain ⟨i, hi, hgi, rfl, hb⟩ := hrel
        have HBQ := hid hb
        clear hb
        by_cases hlt : i < k
        · have hck := HOK.out i (by rw [HCL.out]; exact hlt)
          unfold ColOk at hck
          rw [HL.out] at hck
          obtain ⟨q, hq⟩ : ∃ q : Nat, oth cs i = (q : Int) := ⟨(oth cs i).toNat, by omega⟩
          have hqk : q < k := by omega
          have HZ1 := hid (fun h => tbl_cut (by rw [HCL.out, HL.out]) HOK.out HTBL.out (j := i) (by rw [HL.out]; exact hlt) h)
          have HZ2 := hid (fun h => tbl_oth (by rw [HCL.out, HL.out]) HOK.out HTBL.out (j := i) (o := q) (by rw [HL.out]; exact hlt) hq (by rw [HL.out]; exact hqk) h)
          obtain ⟨b1, o1, rfl, hb1, hc1⟩ := (HI3.out.keep HBQ.out).row (by omega)
          have t1 := hc1 i hlt
          have t2 := hc1 q hqk
          obtain ⟨b, o, rfl, hbl, hc⟩ := (HC3.out.keep HBQ.out).row (by omega)
          obtain ⟨g1, g2⟩ := hc i hlt
          rw [hq] at g2
          have hiI : (i : Int) < (k : Int) := by omega
          have hqI : (q : Int) < (k : Int) := by omega
          clear hc hc1 hq
          generalize ws.sum = W at *
          generalize ws.getD i 0 = u at *
          generalize ws.getD q 0 = v at *
          generalize cut cs i = x at *
          by_cases a1 : u = 0
          · have hx := HZ1.out a1
            have hv : (v == 0) = false := by rw [beq_eq_false_iff_ne]; intro h; have := HZ2.out h; omega
            subst a1
            subst hx
            clear HZ1 HZ2
            go_wp2
            go_roundg (k - (i + 1))
            case measure => omega
            case rel => exact ⟨i + 1, by omega, by omega, by go_num, HBQ.out.alloc HBQ.out.size _⟩
          · have hu : (u == 0) = false := by rw [beq_eq_false_iff_ne]; exact a1
            by_cases a2 : x < W
            · have hv : (v == 0) = false := by rw [beq_eq_false_iff_ne]; intro h; have := HZ2.out h; omega
              clear HZ1 HZ2 a1
              go_wp2
              go_roundg (k - (i + 1))
              case measure => omega
              case rel => exact ⟨i + 1, by omega, by omega, by go_num, HBQ.out.alloc HBQ.out.size _⟩
            · clear HZ1 HZ2 a1
              go_wp2
              go_roundg (k - (i + 1))
              case measure => omega
              case rel => exact ⟨i + 1, by omega, by omega, by go_num, HBQ.out.alloc HBQ.out.size _⟩
        · obtain rfl : i = k := by omega
          have HBX := hid (below_step HB3.out (Nat.le_refl _) HBQ.out)
          have HIX := hid (HI3.out.keep HBQ.out)
          have HCX := hid (HC3.out.keep HBQ.out)
          obtain ⟨a, ha⟩ : ∃ a : Nat, i0 % (i : Int) = (a : Int) := ⟨(i0 % (i : Int)).toNat, by have := Int.emod_nonneg i0 (show (i : Int) ≠ 0 by omega); omega⟩
          have hai : a < i := by have := Int.emod_lt_of_pos i0 (show 0 < (i : Int) by omega); omega
          obtain ⟨b, hb⟩ : ∃ b : Nat, k0 % (i : Int) = (b : Int) := ⟨(k0 % (i : Int)).toNat, by have := Int.emod_nonneg k0 (show (i : Int) ≠ 0 by omega); omega⟩
          have hbi : b < i := by have := Int.emod_lt_of_pos k0 (show 0 < (i : Int) by omega); omega
          have HW1 := hid (within_any i0 (i : Int) wr (by omega) (by omega))
          have HW2 := hid (within_any k0 (i : Int) wr (by omega) (by omega))
          rw [ha] at HW1
          rw [hb] at HW2
          clear HBQ HB3 HI3 HC3 ha hb
          obtain ⟨wy, rfl⟩ : ∃ wy, wy = wr := ⟨_, rfl⟩
          go_wp2_with fail
          refine HW1.out.mono ?_
          rintro e w5 ⟨rfl, rfl⟩
          go_wp2_with fail
          refine HW2.out.mono ?_
          rintro e w5 ⟨rfl, rfl⟩
          go_wp2_with fail
          refine (clone_any A i c ws wy HIX.out (by omega)).mono ?_
          rintro e w6 ⟨v, rfl, ho, hb6⟩
          obtain ⟨g, cap, rfl, hg1, hg2, hg3⟩ := ho.form (by rw [HL.out]; omega)
          have HO := hid ho
          have HB6 := hid hb6
          rw [HL.out]
          have hal : a < ws.length := by rw [HL.out]; exact hai
          have hbl : b < ws.length := by rw [HL.out]; exact hbi
          have hwa := HF.out.w a hal
          have hos := ho.set rfl a (ws.getD a 0 - 1)
          have hos2 := hos.set (by rw [List.length_set]) b ((ws.set a (ws.getD a 0 - 1)).getD b 0 + 1)
          have hvb : -1 ≤ (ws.set a (ws.getD a 0 - 1)).getD b 0 ∧ (ws.set a (ws.getD a 0 - 1)).getD b 0 ≤ 100 := by
            have h1 := HF.out.w b hbl
            rw [getD_set]
            split <;> omega
          have s1 := ho.cell (j := a) hal
          have f1 := ho.frozen a
          have s2 : (w6.setCell ⟨g, a, none⟩ (.int .i64 (ws.getD a 0 - 1))).cell? ⟨g, b, none⟩ = some (.int .i64 ((ws.set a (ws.getD a 0 - 1)).getD b 0)) := by
            have hos' := hos
            rw [show ws.length = (ws.set a (ws.getD a 0 - 1)).length by rw [List.length_set]] at hos'
            exact hos'.cell (by rw [List.length_set]; exact hbl)
          have f2 : (w6.setCell ⟨g, a, none⟩ (.int .i64 (ws.getD a 0 - 1))).frozen? ⟨g, b, none⟩ = false := by
            have hos' := hos
            rw [show ws.length = (ws.set a (ws.getD a 0 - 1)).length by rw [List.length_set]] at hos'
            exact hos'.frozen b
          have hI7 := hos2.asInts.1
          have hb7 : Below wy.heap.size wy ((w6.setCell ⟨g, a, none⟩ (.int .i64 (ws.getD a 0 - 1))).setCell ⟨g, b, none⟩ (.int .i64 ((ws.set a (ws.getD a 0 - 1)).getD b 0 + 1))) := (hb6.setCell hg1 _).setCell hg1 _
          have HB7 := hid hb7
          have HC7 := hid (HCX.out.keep HB7.out)
          have hOT : (ws.set a (ws.getD a 0 - 1)).set b ((ws.set a (ws.getD a 0 - 1)).getD b 0 + 1) = othW ws a b := rfl
          rw [hOT, HL.out] at hI7
          have HI7 := hid hI7
          have HSM := hid (othW_sum hal hbl)
          have HTB := hid (othW_tbl (by omega) hal hbl HOK.out HTBL.out)
          have HCB : Hid (colE i ws.sum cs = 0) := colE_yes (colB_yes (by have := HOK.out; rwa [HL.out] at this))
          clear ho hb6 hb7 hos hos2 hI7 hOT HO HB6 hal hbl HIX HCX HW1 HW2
          have haI : (a : Int) < (i : Int) := by omega
          have hbI : (b : Int) < (i : Int) := by omega
          by_cases hE : alErr (othW ws a b) = 0
          · have HT := hid (aTest_good _ i cap B d (othW ws a b) cs _ HI7.out HC7.out hE)
            rw [HSM.out, HTB.out, HCB.out] at HT
            have HBT := hid (below_step HBX.out (Nat.le_refl _) HB7.out)
            clear HI7 HC7 HB7 hE
            generalize (ws.set a (ws.getD a 0 - 1)).getD b 0 = y2 at *
            generalize ws.getD a 0 = y1 at *
            go_wp2_with fail
            refine HT.out.mono ?_
            rintro e w8 ⟨rfl, hb8⟩
            have HB8 := hid (below_step HBT.out (by first | exact HBT.out.size | (simp; done) | (simp [World.setCell]; done)) hb8)
            clear hb8 HT
            by_cases e : a = b
            · subst e
              rw [decide_eq_true rfl]
              go_wp2
              go_ret
              exact ⟨rfl, HB8.out⟩
            · have hz : ((a : Int) == (b : Int)) = false := by rw [beq_eq_false_iff_ne]; omega
              rw [decide_eq_false (by omega)]
              go_wp2
              go_ret
              exact ⟨rfl, HB8.out⟩
          · have HT := hid (aTest_bad _ i cap B i d (othW ws a b) _ HI7.out hE)
            have HBT := hid (below_step HBX.out (Nat.le_refl _) HB7.out)
            have hz : (alErr (othW ws a b) != 0) = true := by simpa using hE
            clear HI7 HC7 HB7 hE
            generalize (ws.set a (ws.getD a 0 - 1)).getD b 0 = y2 at *
            generalize ws.getD a 0 = y1 at *
            generalize alErr (othW ws a b) = E at *
            go_wp2_with fail
            refine HT.out.mono ?_
            rintro e w8 ⟨rfl, hb8⟩
            have HB8 := hid (below_step HBT.out (by first | exact HBT.out.size | (simp; done) | (simp [World.setCell]; done)) hb8)
            clear hb8 HT
            go_wp2
            go_ret
            exact ⟨rfl, HB8.out⟩

theorem aliasOne_any (A : Option Addr) (n c : Nat) (i0 k0 : Int) (ws : List Int) (w : World) (hI : Ints w A n ws) :
    Calls Try.prog 5 #[.slice A n c, .int .i64 i0, .int .i64 k0] w fun e w' => e = .returned (.bool true) ∧ Below w.heap.size w w' := by
  by_cases he : alErr ws = 0
  · exact aliasOne_good A n c i0 k0 ws w hI he
  · exact aliasOne_bad A n c i0 k0 ws w hI he
end Go.Proofs.Yteahhjakchcmkaa
