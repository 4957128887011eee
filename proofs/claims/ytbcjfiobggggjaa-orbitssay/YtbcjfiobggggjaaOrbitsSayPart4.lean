/-
  Texts joined: OrbitsSay, TabW, TabN.
-/
import Derived.Test.YtbcjfiobggggjaaOrbitsSayPart3
import Derived.Deep.Matrix
import Derived.Lib.SmallJoins
import Derived.SizedLaws

/-
  castlaw.OrbitsSay: whatever the input: true.
-/
namespace Go.Proofs.Ytbcjfiobggggjaa
open Go.RowKit

theorem sameLen (x : Nat) : (((x : Nat) : Int) != (x : Int)) = false := by simp

set_option maxRecDepth 100000 in
set_option maxHeartbeats 1600000 in
theorem orbitsSay_bad (n x : Int) (A : Option Addr) (m c : Nat) (L : List (List Int)) (B : Option Addr) (q d : Nat) (w : World) (h : RRows w A m L) (hm : m ≤ 9223372036854775807) (he : orbE n L ≠ 0) :
    Calls Try.prog 3 #[.int .i64 n, .slice A m c, .int .i64 x, .slice B q d] w fun e w' => e = .returned (.bool true) ∧ Below w.heap.size w w' := by
  have HH := hid h
  have HE := hid he
  have e1 : (orbE n L != 0) = true := by simp [he]
  have e2 : (orbE n L == orbE n L) = true := by simp
  have e3 : (orbE n L != orbE n L) = false := by simp
  clear h he
  go_enter Try.func3, Try.ntmps3
  go_wp2_with fail
  refine (group_bad A m c L n _ HH.out hm HE.out).mono ?_
  rintro e w1 ⟨rfl, hb1⟩
  have HB1 := hid hb1
  clear hb1
  go_wp2_with fail
  refine (colours_bad A m c L n x _ (HH.out.keep HB1.out) hm HE.out).mono ?_
  rintro e w2 ⟨rfl, hb2⟩
  have HB2 := hid (below_step HB1.out (Nat.le_refl _) hb2)
  clear hb2 HB1
  go_wp2_with fail
  refine (least_bad A m c B q d L n _ (HH.out.keep HB2.out) hm HE.out).mono ?_
  rintro e w3 ⟨rfl, hb3⟩
  have HB3 := hid (below_step HB2.out (Nat.le_refl _) hb3)
  clear hb3 HB2
  go_wp2_with fail
  refine (orbitErr_any A m c L n _ (HH.out.keep HB3.out) hm).mono ?_
  rintro e w4 ⟨rfl, hb4⟩
  have HB4 := hid (below_step HB3.out (Nat.le_refl _) hb4)
  clear hb4 HB3
  go_wp2_with fail
  refine (checkO_any A m c L n _ (HH.out.keep HB4.out) hm).mono ?_
  rintro e w5 ⟨rfl, hb5⟩
  have HB5 := hid (below_step HB4.out (Nat.le_refl _) hb5)
  clear hb5 HB4 HE
  generalize orbE n L = z at *
  go_wp2
  go_ret
  exact ⟨rfl, HB5.out⟩

set_option maxRecDepth 100000 in
set_option maxHeartbeats 2000000 in
theorem orbitsSay_kr (k : Nat) (x : Nat) (A : Option Addr) (m c : Nat) (L : List (List Int)) (B : Option Addr) (d : Nat) (row : List Int) (w : World) (h : RRows w A m L) (he : orbE (k : Int) L = 0) (hx : x ≤ 10) (hB : Ints w B k row) :
    Calls Try.prog 3 #[.int .i64 (k : Int), .slice A m c, .int .i64 (x : Int), .slice B k d] w fun e w' => e = .returned (.bool true) ∧ Below w.heap.size w w' := by
  have HH := hid h
  have HE := hid he
  obtain ⟨k', hk1, hk6, hl6, hgood⟩ := orbE_zero he
  have hkk : k' = k := by omega
  subst hkk
  have HOr := hid (show Orders k' L from hgood)
  have hm6 : m ≤ 6 := by rw [← h.len]; exact hl6
  have HBI := hid hB
  have hrl : ((k' : Int) != (k' : Int)) = false := by simp
  clear hB
  clear h he hk1 hgood hl6
  go_enter Try.func3, Try.ntmps3
  go_wp2_with fail
  refine (group_ok A m c L k' _ HH.out HE.out).mono ?_
  rintro e w1 ⟨v1, T, rfl, hG, hr1, hb1⟩
  have HG := hid hG
  have HR1 := hid hr1
  have hT0 := hG.pos
  have hTL := Nat.le_trans (hG.length_le HOr.out) (Nat.le_trans (fact_mono hk6) (show fact 6 ≤ 720 by decide))
  have HB1 := hid hb1
  obtain ⟨g1, cap1, u1, e1, _⟩ := hr1.at hT0
  subst e1
  clear hG hr1 hb1
  go_wp2_with fail
  refine (colours_ok A m c L k' x _ (HH.out.keep HB1.out) HE.out hx).mono ?_
  rintro e w2 ⟨T2, hG2, rfl, hb2⟩
  have hTT := hG2.unique HG.out
  subst hTT
  clear hG2
  have HB2 := hid (below_step HB1.out (Nat.le_refl _) hb2)
  have HR2 := hid (HR1.out.keep hb2)
  clear hb2 HR1
  generalize hcl : colN T2 x = col at *
  have HCL := hid hcl
  clear hcl
  go_wp2_with fail
  refine (least_ok A m c B d L k' row _ (HH.out.keep HB2.out) (HBI.out.keep HB2.out) HE.out).mono ?_
  rintro e w3 ⟨v3, b, rfl, hlb, ho3, hb3⟩
  have HLB := hid hlb
  have HBL := hid (hlb.length HOr.out)
  obtain ⟨A3, c3, e3, hI3, _⟩ := ho3.ints
  rw [HBL.out] at e3 hI3
  subst e3
  have HI3 := hid hI3
  clear hlb ho3 hI3
  have HB3 := hid (below_step HB2.out (Nat.le_refl _) hb3)
  have HR3 := hid (HR2.out.keep hb3)
  clear hb3 HR2
  have hoe := fun W hW => orbitErr_any A m c L (k' : Int) W hW (by omega)
  rw [HE.out] at hoe
  have hco := fun W hW => checkO_any A m c L (k' : Int) W hW (by omega)
  rw [HE.out] at hco
  go_wp2_with fail
  refine (hoe _ (HH.out.keep HB3.out)).mono ?_
  rintro e w4 ⟨rfl, hb4⟩
  have HB4 := hid (below_step HB3.out (Nat.le_refl _) hb4)
  have HR4 := hid (HR3.out.keep hb4)
  have HI4 := hid (HI3.out.keep hb4)
  clear hb4 HR3 HI3
  go_wp2_with fail
  refine (hco _ (HH.out.keep HB4.out)).mono ?_
  rintro e w5 ⟨rfl, hb5⟩
  have HB5 := hid (below_step HB4.out (Nat.le_refl _) hb5)
  have HR5 := hid (HR4.out.keep hb5)
  have HI5 := hid (HI4.out.keep hb5)
  clear hb5 HR4 HI4
  go_wp2_with fail
  refine (refGroup_ok A m c L k' _ (HH.out.keep HB5.out) HE.out).mono ?_
  rintro e w6 ⟨v6, T6, rfl, hG6, hr6, hb6⟩
  have HB6 := hid (below_step HB5.out (Nat.le_refl _) hb6)
  have HR6 := hid (HR5.out.keep hb6)
  have HI6 := hid (HI5.out.keep hb6)
  clear hb6 HR5 HI5
  have hTT6 := hG6.unique HG.out
  subst hTT6
  obtain ⟨g6, cap6, u6x, e6, _⟩ := hr6.at hT0
  subst e6
  have HRR := hid hr6
  have hll := sameLen T6.length
  clear hG6 hr6 hoe hco
  go_wp2_with fail
  go_loopg [87] T6.length (fun g s wq => ∃ i : Nat, i ≤ T6.length ∧ T6.length - i ≤ g ∧ s = .int .i64 i ∧ Below w6.heap.size w6 wq)
  case atStart => exact ⟨0, Nat.zero_le _, by omega, rfl, Below.refl _ _⟩
  case round =>
    obtain ⟨i, hi, hgi, rfl, hbel⟩ := hrel
    have HB := hid hbel
    clear hbel
    by_cases hlt : i < T6.length
    · obtain ⟨ga, capa, ua, ea, _, _, gac, _, hoa⟩ := (HR6.out.keep HB.out).at hlt
      injection ea with ea e0 ea3
      clear e0
      injection ea with ea
      injection ea with ea
      subst ea
      subst ea3
      obtain ⟨gb, capb, ub, eb, _, _, gbc, _, hob⟩ := (HRR.out.keep HB.out).at hlt
      injection eb with eb e0 eb3
      clear e0
      injection eb with eb
      injection eb with eb
      subst eb
      subst eb3
      have hrl9 := (HG.out.ok HOr.out (getD_mem_rows hlt)).1
      obtain ⟨Aa, ca, ea, hIa, _⟩ := hoa.ints
      obtain ⟨Ab, cb, eb, hIb, _⟩ := hob.ints
      rw [hrl9] at ea hIa eb hIb
      subst ea
      subst eb
      have HEQ := hid (fun z => equal_any Aa k' ca Ab k' cb (T6.getD i []) (T6.getD i []) (wr.drewN z) (hIa.drewN z) (hIb.drewN z) (by omega) (by omega))
      rw [decide_eq_true rfl] at HEQ
      have hiN : (i : Int) < (T6.length : Int) := by omega
      clear hoa hob hIa hIb hrl9
      go_wp2_with fail
      go_quiet ((go_at_call 15; exact Calls.quiet_of (HEQ.out _)))
      clear HEQ
      go_wp2
      go_roundg (T6.length - (i + 1))
      case measure => omega
      case rel => exact ⟨i + 1, by omega, by omega, by go_num, below_drewN HB.out _⟩
    · have hiT : i = T6.length := by omega
      subst hiT
      obtain ⟨w7, rfl⟩ : ∃ w7, w7 = wr := ⟨wr, rfl⟩
      have HB7 := hid (below_step HB6.out (Nat.le_refl _) HB.out)
      have HRR7 := hid (HRR.out.keep HB.out)
      have HI7 := hid (HI6.out.keep HB.out)
      clear HB HRR HR6 HB6
      have d0 : decide ((x : Int) < 0) = false := by simp
      have d1 : decide (10 < (x : Int)) = false := by simp; omega
      obtain ⟨AC, cC, eC, hRC, _⟩ := HRR7.out.rrows
      injection eC with eC1 e0 eC3
      clear e0
      subst eC1
      subst eC3
      have hcc := refColours_ok (some ⟨g6, 0, none⟩) cap6 T6 x w7 hRC hx hT0 hTL (fun j hj => by have := HG.out.ok HOr.out (getD_mem_rows hj); exact ⟨by omega, this.2⟩)
      rw [HCL.out] at hcc
      have hcs := sameLen col
      clear hRC
      go_wp2_with fail
      refine hcc.mono ?_
      rintro e w8 ⟨rfl, hb8⟩
      have HB8 := hid (below_step HB7.out (Nat.le_refl _) hb8)
      have HRR8 := hid (HRR7.out.keep hb8)
      have HI8 := hid (HI7.out.keep hb8)
      clear hcc hb8
      obtain ⟨AT, cT, eT, hRT, _⟩ := HRR8.out.rrows
      injection eT with eT1 e0 eT3
      clear e0
      subst eT1
      subst eT3
      have hle := refLeast_ok (some ⟨g6, 0, none⟩) cap6 B d L T6 k' row w8 hRT (HBI.out.keep HB8.out) HG.out HOr.out hk6
      clear hRT
      go_wp2_with fail
      refine hle.mono ?_
      rintro e w20 ⟨b2, hlb2, v20, rfl, ho20, hb20⟩
      have hbb := hlb2.unique HLB.out
      subst hbb
      obtain ⟨A20, c20, e20, hI20, _⟩ := ho20.ints
      rw [HBL.out] at e20 hI20
      subst e20
      have HB20 := hid (below_step HB8.out (Nat.le_refl _) hb20)
      have hal := alike_bel A3 k' c3 A20 k' c20 b2 b2 w20 (HI8.out.keep hb20) hI20 (by omega) (by omega)
      rw [decide_eq_true rfl] at hal
      clear hle hlb2 ho20 hb20 hI20
      go_wp2_with fail
      refine hal.mono ?_
      rintro e w21 ⟨rfl, hb21⟩
      have HB21 := hid (below_step HB20.out (Nat.le_refl _) hb21)
      clear hal hb21
      go_wp2
      go_ret
      exact ⟨rfl, HB21.out⟩

set_option maxRecDepth 100000 in
set_option maxHeartbeats 2000000 in
theorem orbitsSay_kR (k : Nat) (x : Nat) (A : Option Addr) (m c : Nat) (L : List (List Int)) (B : Option Addr) (q d : Nat) (w : World) (h : RRows w A m L) (he : orbE (k : Int) L = 0) (hx : x ≤ 10) (hq : q ≠ k) :
    Calls Try.prog 3 #[.int .i64 (k : Int), .slice A m c, .int .i64 (x : Int), .slice B q d] w fun e w' => e = .returned (.bool true) ∧ Below w.heap.size w w' := by
  have HH := hid h
  have HE := hid he
  obtain ⟨k', hk1, hk6, hl6, hgood⟩ := orbE_zero he
  have hkk : k' = k := by omega
  subst hkk
  have HOr := hid (show Orders k' L from hgood)
  have hm6 : m ≤ 6 := by rw [← h.len]; exact hl6
  have hrl : ((q : Int) != (k' : Int)) = true := by simp; omega
  clear h he hk1 hgood hl6
  go_enter Try.func3, Try.ntmps3
  go_wp2_with fail
  refine (group_ok A m c L k' _ HH.out HE.out).mono ?_
  rintro e w1 ⟨v1, T, rfl, hG, hr1, hb1⟩
  have HG := hid hG
  have HR1 := hid hr1
  have hT0 := hG.pos
  have hTL := Nat.le_trans (hG.length_le HOr.out) (Nat.le_trans (fact_mono hk6) (show fact 6 ≤ 720 by decide))
  have HB1 := hid hb1
  obtain ⟨g1, cap1, u1, e1, _⟩ := hr1.at hT0
  subst e1
  clear hG hr1 hb1
  go_wp2_with fail
  refine (colours_ok A m c L k' x _ (HH.out.keep HB1.out) HE.out hx).mono ?_
  rintro e w2 ⟨T2, hG2, rfl, hb2⟩
  have hTT := hG2.unique HG.out
  subst hTT
  clear hG2
  have HB2 := hid (below_step HB1.out (Nat.le_refl _) hb2)
  have HR2 := hid (HR1.out.keep hb2)
  clear hb2 HR1
  generalize hcl : colN T2 x = col at *
  have HCL := hid hcl
  clear hcl
  go_wp2_with fail
  refine (least_form A m c B q d L k' _ (HH.out.keep HB2.out) HE.out hq).mono ?_
  rintro e w3 ⟨rfl, hb3⟩
  have HB3 := hid (below_step HB2.out (Nat.le_refl _) hb3)
  have HR3 := hid (HR2.out.keep hb3)
  clear hb3 HR2
  have hoe := fun W hW => orbitErr_any A m c L (k' : Int) W hW (by omega)
  rw [HE.out] at hoe
  have hco := fun W hW => checkO_any A m c L (k' : Int) W hW (by omega)
  rw [HE.out] at hco
  go_wp2_with fail
  refine (hoe _ (HH.out.keep HB3.out)).mono ?_
  rintro e w4 ⟨rfl, hb4⟩
  have HB4 := hid (below_step HB3.out (Nat.le_refl _) hb4)
  have HR4 := hid (HR3.out.keep hb4)
  clear hb4 HR3
  go_wp2_with fail
  refine (hco _ (HH.out.keep HB4.out)).mono ?_
  rintro e w5 ⟨rfl, hb5⟩
  have HB5 := hid (below_step HB4.out (Nat.le_refl _) hb5)
  have HR5 := hid (HR4.out.keep hb5)
  clear hb5 HR4
  go_wp2_with fail
  refine (refGroup_ok A m c L k' _ (HH.out.keep HB5.out) HE.out).mono ?_
  rintro e w6 ⟨v6, T6, rfl, hG6, hr6, hb6⟩
  have HB6 := hid (below_step HB5.out (Nat.le_refl _) hb6)
  have HR6 := hid (HR5.out.keep hb6)
  clear hb6 HR5
  have hTT6 := hG6.unique HG.out
  subst hTT6
  obtain ⟨g6, cap6, u6x, e6, _⟩ := hr6.at hT0
  subst e6
  have HRR := hid hr6
  have hll := sameLen T6.length
  clear hG6 hr6 hoe hco
  go_wp2_with fail
  go_loopg [87] T6.length (fun g s wq => ∃ i : Nat, i ≤ T6.length ∧ T6.length - i ≤ g ∧ s = .int .i64 i ∧ Below w6.heap.size w6 wq)
  case atStart => exact ⟨0, Nat.zero_le _, by omega, rfl, Below.refl _ _⟩
  case round =>
    obtain ⟨i, hi, hgi, rfl, hbel⟩ := hrel
    have HB := hid hbel
    clear hbel
    by_cases hlt : i < T6.length
    · obtain ⟨ga, capa, ua, ea, _, _, gac, _, hoa⟩ := (HR6.out.keep HB.out).at hlt
      injection ea with ea e0 ea3
      clear e0
      injection ea with ea
      injection ea with ea
      subst ea
      subst ea3
      obtain ⟨gb, capb, ub, eb, _, _, gbc, _, hob⟩ := (HRR.out.keep HB.out).at hlt
      injection eb with eb e0 eb3
      clear e0
      injection eb with eb
      injection eb with eb
      subst eb
      subst eb3
      have hrl9 := (HG.out.ok HOr.out (getD_mem_rows hlt)).1
      obtain ⟨Aa, ca, ea, hIa, _⟩ := hoa.ints
      obtain ⟨Ab, cb, eb, hIb, _⟩ := hob.ints
      rw [hrl9] at ea hIa eb hIb
      subst ea
      subst eb
      have HEQ := hid (fun z => equal_any Aa k' ca Ab k' cb (T6.getD i []) (T6.getD i []) (wr.drewN z) (hIa.drewN z) (hIb.drewN z) (by omega) (by omega))
      rw [decide_eq_true rfl] at HEQ
      have hiN : (i : Int) < (T6.length : Int) := by omega
      clear hoa hob hIa hIb hrl9
      go_wp2_with fail
      go_quiet ((go_at_call 15; exact Calls.quiet_of (HEQ.out _)))
      clear HEQ
      go_wp2
      go_roundg (T6.length - (i + 1))
      case measure => omega
      case rel => exact ⟨i + 1, by omega, by omega, by go_num, below_drewN HB.out _⟩
    · have hiT : i = T6.length := by omega
      subst hiT
      obtain ⟨w7, rfl⟩ : ∃ w7, w7 = wr := ⟨wr, rfl⟩
      have HB7 := hid (below_step HB6.out (Nat.le_refl _) HB.out)
      have HRR7 := hid (HRR.out.keep HB.out)
      clear HB HRR HR6 HB6
      have d0 : decide ((x : Int) < 0) = false := by simp
      have d1 : decide (10 < (x : Int)) = false := by simp; omega
      obtain ⟨AC, cC, eC, hRC, _⟩ := HRR7.out.rrows
      injection eC with eC1 e0 eC3
      clear e0
      subst eC1
      subst eC3
      have hcc := refColours_ok (some ⟨g6, 0, none⟩) cap6 T6 x w7 hRC hx hT0 hTL (fun j hj => by have := HG.out.ok HOr.out (getD_mem_rows hj); exact ⟨by omega, this.2⟩)
      rw [HCL.out] at hcc
      have hcs := sameLen col
      clear hRC
      go_wp2_with fail
      refine hcc.mono ?_
      rintro e w8 ⟨rfl, hb8⟩
      have HB8 := hid (below_step HB7.out (Nat.le_refl _) hb8)
      have HRR8 := hid (HRR7.out.keep hb8)
      clear hcc hb8
      go_wp2
      go_ret
      exact ⟨rfl, HB8.out⟩

set_option maxRecDepth 100000 in
set_option maxHeartbeats 2000000 in
theorem orbitsSay_Kr (k : Nat) (x : Int) (A : Option Addr) (m c : Nat) (L : List (List Int)) (B : Option Addr) (d : Nat) (row : List Int) (w : World) (h : RRows w A m L) (he : orbE (k : Int) L = 0) (hx : x < 0 ∨ 10 < x) (hB : Ints w B k row) :
    Calls Try.prog 3 #[.int .i64 (k : Int), .slice A m c, .int .i64 x, .slice B k d] w fun e w' => e = .returned (.bool true) ∧ Below w.heap.size w w' := by
  have HH := hid h
  have HE := hid he
  obtain ⟨k', hk1, hk6, hl6, hgood⟩ := orbE_zero he
  have hkk : k' = k := by omega
  subst hkk
  have HOr := hid (show Orders k' L from hgood)
  have hm6 : m ≤ 6 := by rw [← h.len]; exact hl6
  have HBI := hid hB
  have hrl : ((k' : Int) != (k' : Int)) = false := by simp
  clear hB
  clear h he hk1 hgood hl6
  go_enter Try.func3, Try.ntmps3
  go_wp2_with fail
  refine (group_ok A m c L k' _ HH.out HE.out).mono ?_
  rintro e w1 ⟨v1, T, rfl, hG, hr1, hb1⟩
  have HG := hid hG
  have HR1 := hid hr1
  have hT0 := hG.pos
  have hTL := Nat.le_trans (hG.length_le HOr.out) (Nat.le_trans (fact_mono hk6) (show fact 6 ≤ 720 by decide))
  have HB1 := hid hb1
  obtain ⟨g1, cap1, u1, e1, _⟩ := hr1.at hT0
  subst e1
  clear hG hr1 hb1
  go_wp2_with fail
  refine (colours_arg A m c L k' x _ (HH.out.keep HB1.out) HE.out hx).mono ?_
  rintro e w2 ⟨rfl, hb2⟩
  have HB2 := hid (below_step HB1.out (Nat.le_refl _) hb2)
  have HR2 := hid (HR1.out.keep hb2)
  clear hb2 HR1
  go_wp2_with fail
  refine (least_ok A m c B d L k' row _ (HH.out.keep HB2.out) (HBI.out.keep HB2.out) HE.out).mono ?_
  rintro e w3 ⟨v3, b, rfl, hlb, ho3, hb3⟩
  have HLB := hid hlb
  have HBL := hid (hlb.length HOr.out)
  obtain ⟨A3, c3, e3, hI3, _⟩ := ho3.ints
  rw [HBL.out] at e3 hI3
  subst e3
  have HI3 := hid hI3
  clear hlb ho3 hI3
  have HB3 := hid (below_step HB2.out (Nat.le_refl _) hb3)
  have HR3 := hid (HR2.out.keep hb3)
  clear hb3 HR2
  have hoe := fun W hW => orbitErr_any A m c L (k' : Int) W hW (by omega)
  rw [HE.out] at hoe
  have hco := fun W hW => checkO_any A m c L (k' : Int) W hW (by omega)
  rw [HE.out] at hco
  go_wp2_with fail
  refine (hoe _ (HH.out.keep HB3.out)).mono ?_
  rintro e w4 ⟨rfl, hb4⟩
  have HB4 := hid (below_step HB3.out (Nat.le_refl _) hb4)
  have HR4 := hid (HR3.out.keep hb4)
  have HI4 := hid (HI3.out.keep hb4)
  clear hb4 HR3 HI3
  go_wp2_with fail
  refine (hco _ (HH.out.keep HB4.out)).mono ?_
  rintro e w5 ⟨rfl, hb5⟩
  have HB5 := hid (below_step HB4.out (Nat.le_refl _) hb5)
  have HR5 := hid (HR4.out.keep hb5)
  have HI5 := hid (HI4.out.keep hb5)
  clear hb5 HR4 HI4
  go_wp2_with fail
  refine (refGroup_ok A m c L k' _ (HH.out.keep HB5.out) HE.out).mono ?_
  rintro e w6 ⟨v6, T6, rfl, hG6, hr6, hb6⟩
  have HB6 := hid (below_step HB5.out (Nat.le_refl _) hb6)
  have HR6 := hid (HR5.out.keep hb6)
  have HI6 := hid (HI5.out.keep hb6)
  clear hb6 HR5 HI5
  have hTT6 := hG6.unique HG.out
  subst hTT6
  obtain ⟨g6, cap6, u6x, e6, _⟩ := hr6.at hT0
  subst e6
  have HRR := hid hr6
  have hll := sameLen T6.length
  clear hG6 hr6 hoe hco
  go_wp2_with fail
  go_loopg [87] T6.length (fun g s wq => ∃ i : Nat, i ≤ T6.length ∧ T6.length - i ≤ g ∧ s = .int .i64 i ∧ Below w6.heap.size w6 wq)
  case atStart => exact ⟨0, Nat.zero_le _, by omega, rfl, Below.refl _ _⟩
  case round =>
    obtain ⟨i, hi, hgi, rfl, hbel⟩ := hrel
    have HB := hid hbel
    clear hbel
    by_cases hlt : i < T6.length
    · obtain ⟨ga, capa, ua, ea, _, _, gac, _, hoa⟩ := (HR6.out.keep HB.out).at hlt
      injection ea with ea e0 ea3
      clear e0
      injection ea with ea
      injection ea with ea
      subst ea
      subst ea3
      obtain ⟨gb, capb, ub, eb, _, _, gbc, _, hob⟩ := (HRR.out.keep HB.out).at hlt
      injection eb with eb e0 eb3
      clear e0
      injection eb with eb
      injection eb with eb
      subst eb
      subst eb3
      have hrl9 := (HG.out.ok HOr.out (getD_mem_rows hlt)).1
      obtain ⟨Aa, ca, ea, hIa, _⟩ := hoa.ints
      obtain ⟨Ab, cb, eb, hIb, _⟩ := hob.ints
      rw [hrl9] at ea hIa eb hIb
      subst ea
      subst eb
      have HEQ := hid (fun z => equal_any Aa k' ca Ab k' cb (T6.getD i []) (T6.getD i []) (wr.drewN z) (hIa.drewN z) (hIb.drewN z) (by omega) (by omega))
      rw [decide_eq_true rfl] at HEQ
      have hiN : (i : Int) < (T6.length : Int) := by omega
      clear hoa hob hIa hIb hrl9
      go_wp2_with fail
      go_quiet ((go_at_call 15; exact Calls.quiet_of (HEQ.out _)))
      clear HEQ
      go_wp2
      go_roundg (T6.length - (i + 1))
      case measure => omega
      case rel => exact ⟨i + 1, by omega, by omega, by go_num, below_drewN HB.out _⟩
    · have hiT : i = T6.length := by omega
      subst hiT
      obtain ⟨w7, rfl⟩ : ∃ w7, w7 = wr := ⟨wr, rfl⟩
      have HB7 := hid (below_step HB6.out (Nat.le_refl _) HB.out)
      have HRR7 := hid (HRR.out.keep HB.out)
      have HI7 := hid (HI6.out.keep HB.out)
      clear HB HRR HR6 HB6
      rcases hx with h9 | h9
      · have d0 : decide (x < 0) = true := by simp [h9]
        obtain ⟨AT, cT, eT, hRT, _⟩ := HRR7.out.rrows
        injection eT with eT1 e0 eT3
        clear e0
        subst eT1
        subst eT3
        have hle := refLeast_ok (some ⟨g6, 0, none⟩) cap6 B d L T6 k' row w7 hRT (HBI.out.keep HB7.out) HG.out HOr.out hk6
        clear hRT
        go_wp2_with fail
        refine hle.mono ?_
        rintro e w20 ⟨b2, hlb2, v20, rfl, ho20, hb20⟩
        have hbb := hlb2.unique HLB.out
        subst hbb
        obtain ⟨A20, c20, e20, hI20, _⟩ := ho20.ints
        rw [HBL.out] at e20 hI20
        subst e20
        have HB20 := hid (below_step HB7.out (Nat.le_refl _) hb20)
        have hal := alike_bel A3 k' c3 A20 k' c20 b2 b2 w20 (HI7.out.keep hb20) hI20 (by omega) (by omega)
        rw [decide_eq_true rfl] at hal
        clear hle hlb2 ho20 hb20 hI20
        go_wp2_with fail
        refine hal.mono ?_
        rintro e w21 ⟨rfl, hb21⟩
        have HB21 := hid (below_step HB20.out (Nat.le_refl _) hb21)
        clear hal hb21
        go_wp2
        go_ret
        exact ⟨rfl, HB21.out⟩
      · have d0 : decide (x < 0) = false := by simp; omega
        have d1 : decide (10 < x) = true := by simp [h9]
        obtain ⟨AT, cT, eT, hRT, _⟩ := HRR7.out.rrows
        injection eT with eT1 e0 eT3
        clear e0
        subst eT1
        subst eT3
        have hle := refLeast_ok (some ⟨g6, 0, none⟩) cap6 B d L T6 k' row w7 hRT (HBI.out.keep HB7.out) HG.out HOr.out hk6
        clear hRT
        go_wp2_with fail
        refine hle.mono ?_
        rintro e w20 ⟨b2, hlb2, v20, rfl, ho20, hb20⟩
        have hbb := hlb2.unique HLB.out
        subst hbb
        obtain ⟨A20, c20, e20, hI20, _⟩ := ho20.ints
        rw [HBL.out] at e20 hI20
        subst e20
        have HB20 := hid (below_step HB7.out (Nat.le_refl _) hb20)
        have hal := alike_bel A3 k' c3 A20 k' c20 b2 b2 w20 (HI7.out.keep hb20) hI20 (by omega) (by omega)
        rw [decide_eq_true rfl] at hal
        clear hle hlb2 ho20 hb20 hI20
        go_wp2_with fail
        refine hal.mono ?_
        rintro e w21 ⟨rfl, hb21⟩
        have HB21 := hid (below_step HB20.out (Nat.le_refl _) hb21)
        clear hal hb21
        go_wp2
        go_ret
        exact ⟨rfl, HB21.out⟩

set_option maxRecDepth 100000 in
set_option maxHeartbeats 2000000 in
theorem orbitsSay_KR (k : Nat) (x : Int) (A : Option Addr) (m c : Nat) (L : List (List Int)) (B : Option Addr) (q d : Nat) (w : World) (h : RRows w A m L) (he : orbE (k : Int) L = 0) (hx : x < 0 ∨ 10 < x) (hq : q ≠ k) :
    Calls Try.prog 3 #[.int .i64 (k : Int), .slice A m c, .int .i64 x, .slice B q d] w fun e w' => e = .returned (.bool true) ∧ Below w.heap.size w w' := by
  have HH := hid h
  have HE := hid he
  obtain ⟨k', hk1, hk6, hl6, hgood⟩ := orbE_zero he
  have hkk : k' = k := by omega
  subst hkk
  have HOr := hid (show Orders k' L from hgood)
  have hm6 : m ≤ 6 := by rw [← h.len]; exact hl6
  have hrl : ((q : Int) != (k' : Int)) = true := by simp; omega
  clear h he hk1 hgood hl6
  go_enter Try.func3, Try.ntmps3
  go_wp2_with fail
  refine (group_ok A m c L k' _ HH.out HE.out).mono ?_
  rintro e w1 ⟨v1, T, rfl, hG, hr1, hb1⟩
  have HG := hid hG
  have HR1 := hid hr1
  have hT0 := hG.pos
  have hTL := Nat.le_trans (hG.length_le HOr.out) (Nat.le_trans (fact_mono hk6) (show fact 6 ≤ 720 by decide))
  have HB1 := hid hb1
  obtain ⟨g1, cap1, u1, e1, _⟩ := hr1.at hT0
  subst e1
  clear hG hr1 hb1
  go_wp2_with fail
  refine (colours_arg A m c L k' x _ (HH.out.keep HB1.out) HE.out hx).mono ?_
  rintro e w2 ⟨rfl, hb2⟩
  have HB2 := hid (below_step HB1.out (Nat.le_refl _) hb2)
  have HR2 := hid (HR1.out.keep hb2)
  clear hb2 HR1
  go_wp2_with fail
  refine (least_form A m c B q d L k' _ (HH.out.keep HB2.out) HE.out hq).mono ?_
  rintro e w3 ⟨rfl, hb3⟩
  have HB3 := hid (below_step HB2.out (Nat.le_refl _) hb3)
  have HR3 := hid (HR2.out.keep hb3)
  clear hb3 HR2
  have hoe := fun W hW => orbitErr_any A m c L (k' : Int) W hW (by omega)
  rw [HE.out] at hoe
  have hco := fun W hW => checkO_any A m c L (k' : Int) W hW (by omega)
  rw [HE.out] at hco
  go_wp2_with fail
  refine (hoe _ (HH.out.keep HB3.out)).mono ?_
  rintro e w4 ⟨rfl, hb4⟩
  have HB4 := hid (below_step HB3.out (Nat.le_refl _) hb4)
  have HR4 := hid (HR3.out.keep hb4)
  clear hb4 HR3
  go_wp2_with fail
  refine (hco _ (HH.out.keep HB4.out)).mono ?_
  rintro e w5 ⟨rfl, hb5⟩
  have HB5 := hid (below_step HB4.out (Nat.le_refl _) hb5)
  have HR5 := hid (HR4.out.keep hb5)
  clear hb5 HR4
  go_wp2_with fail
  refine (refGroup_ok A m c L k' _ (HH.out.keep HB5.out) HE.out).mono ?_
  rintro e w6 ⟨v6, T6, rfl, hG6, hr6, hb6⟩
  have HB6 := hid (below_step HB5.out (Nat.le_refl _) hb6)
  have HR6 := hid (HR5.out.keep hb6)
  clear hb6 HR5
  have hTT6 := hG6.unique HG.out
  subst hTT6
  obtain ⟨g6, cap6, u6x, e6, _⟩ := hr6.at hT0
  subst e6
  have HRR := hid hr6
  have hll := sameLen T6.length
  clear hG6 hr6 hoe hco
  go_wp2_with fail
  go_loopg [87] T6.length (fun g s wq => ∃ i : Nat, i ≤ T6.length ∧ T6.length - i ≤ g ∧ s = .int .i64 i ∧ Below w6.heap.size w6 wq)
  case atStart => exact ⟨0, Nat.zero_le _, by omega, rfl, Below.refl _ _⟩
  case round =>
    obtain ⟨i, hi, hgi, rfl, hbel⟩ := hrel
    have HB := hid hbel
    clear hbel
    by_cases hlt : i < T6.length
    · obtain ⟨ga, capa, ua, ea, _, _, gac, _, hoa⟩ := (HR6.out.keep HB.out).at hlt
      injection ea with ea e0 ea3
      clear e0
      injection ea with ea
      injection ea with ea
      subst ea
      subst ea3
      obtain ⟨gb, capb, ub, eb, _, _, gbc, _, hob⟩ := (HRR.out.keep HB.out).at hlt
      injection eb with eb e0 eb3
      clear e0
      injection eb with eb
      injection eb with eb
      subst eb
      subst eb3
      have hrl9 := (HG.out.ok HOr.out (getD_mem_rows hlt)).1
      obtain ⟨Aa, ca, ea, hIa, _⟩ := hoa.ints
      obtain ⟨Ab, cb, eb, hIb, _⟩ := hob.ints
      rw [hrl9] at ea hIa eb hIb
      subst ea
      subst eb
      have HEQ := hid (fun z => equal_any Aa k' ca Ab k' cb (T6.getD i []) (T6.getD i []) (wr.drewN z) (hIa.drewN z) (hIb.drewN z) (by omega) (by omega))
      rw [decide_eq_true rfl] at HEQ
      have hiN : (i : Int) < (T6.length : Int) := by omega
      clear hoa hob hIa hIb hrl9
      go_wp2_with fail
      go_quiet ((go_at_call 15; exact Calls.quiet_of (HEQ.out _)))
      clear HEQ
      go_wp2
      go_roundg (T6.length - (i + 1))
      case measure => omega
      case rel => exact ⟨i + 1, by omega, by omega, by go_num, below_drewN HB.out _⟩
    · have hiT : i = T6.length := by omega
      subst hiT
      obtain ⟨w7, rfl⟩ : ∃ w7, w7 = wr := ⟨wr, rfl⟩
      have HB7 := hid (below_step HB6.out (Nat.le_refl _) HB.out)
      have HRR7 := hid (HRR.out.keep HB.out)
      clear HB HRR HR6 HB6
      rcases hx with h9 | h9
      · have d0 : decide (x < 0) = true := by simp [h9]
        go_wp2
        go_ret
        exact ⟨rfl, HB7.out⟩
      · have d0 : decide (x < 0) = false := by simp; omega
        have d1 : decide (10 < x) = true := by simp [h9]
        go_wp2
        go_ret
        exact ⟨rfl, HB7.out⟩

/-- castlaw.OrbitsSay, whatever the input. -/
theorem orbitsSay_any (n : Int) (A : Option Addr) (m c : Nat) (L : List (List Int)) (x : Int) (B : Option Addr) (q d : Nat) (row : List Int) (w : World) (h : RRows w A m L) (hm : m ≤ 9223372036854775807) (hB : Ints w B q row) :
    Calls Try.prog 3 #[.int .i64 n, .slice A m c, .int .i64 x, .slice B q d] w fun e w' => e = .returned (.bool true) ∧ Below w.heap.size w w' := by
  by_cases he : orbE n L = 0
  · obtain ⟨k, rfl, _⟩ := orbE_zero he
    by_cases hx : x < 0 ∨ 10 < x
    · by_cases hq : q = k
      · subst hq
        exact orbitsSay_Kr q x A m c L B d row w h he hx hB
      · exact orbitsSay_KR k x A m c L B q d w h he hx hq
    · obtain ⟨y, rfl⟩ := Int.eq_ofNat_of_zero_le (show 0 ≤ x by omega)
      by_cases hq : q = k
      · subst hq
        exact orbitsSay_kr q y A m c L B d row w h he (by omega) hB
      · exact orbitsSay_kR k y A m c L B q d w h he (by omega) hq
  · exact orbitsSay_bad n x A m c L B q d w h hm he

end Go.Proofs.Ytbcjfiobggggjaa

/-
  A pair of tableaux that came in, opened to rows that are only read.
-/
namespace Go.Proofs.Ytbcjfiobggggjaa
open Go.RowKit Go.ChangeShapes Go.WideShapes Go.Deep

theorem weightsAll_mem {H : Type} {P : Program} {e : TypeId} : ∀ {l : List (DataW H)} {d : DataW H}, d ∈ l → ∀ n ∈ d.weights P e, n ∈ DataW.weightsAll P e l
  | d' :: r, d, hd, n, hn => by
    simp only [DataW.weightsAll, List.mem_append]
    rcases List.mem_cons.1 hd with rfl | h
    · exact Or.inl hn
    · exact Or.inr (weightsAll_mem h n hn)
theorem bytesInt : Try.prog.bytesOf 3 = 8 := by kernel_rfl
theorem cellsInt : Try.prog.cellsOf 3 = 1 := by kernel_rfl
theorem cellsRow : Try.prog.cellsOf 23 = 1 := by kernel_rfl
theorem lits_length {H : Type} (k : IntKind) (zs : List Int) : (lits (H := H) k zs).length = zs.length := by simp [lits]

/-- One field: rows of rows. 'b' bounds the weights of its datum. -/
theorem rrows_of_trod {H : Type} {enc : TypeId × Value → H} {W : World} {fuel : Nat} {v : Value} {y : DataW H × List MemPlace} (h : DataW.trod enc Try.prog W 0 (fun _ => true) true fuel 22 [v] = some y) :
    ∃ A n c T, v = .slice A n c ∧ RRows W A n T ∧ n ≤ 9223372036854775807 ∧ ((∀ b ∈ y.1.weights Try.prog 22, b ≤ reachBytes) → ∀ j, (T.getD j []).length ≤ 4611686018427387904) := by
  rcases open_int_rows Try.underlying22 Try.underlying23 Try.underlying3 cellsRow cellsInt h with ⟨hcs, _⟩ | ⟨a, len, cap, A, L, C, Z, hcs, _, hl, hm, hx, hrow⟩
  · simp only [List.cons.injEq, and_true] at hcs
    exact ⟨none, 0, 0, [], hcs, RRows.nil _ _, by omega, fun _ j => by simp⟩
  · simp only [List.cons.injEq, and_true] at hcs
    have hgd : ∀ j, j < len → ((List.range len).map (fun r => (Z r).take (L r))).getD j [] = (Z j).take (L j) := fun j hj => by
      rw [List.getD_eq_getElem?_getD, List.getElem?_map, List.getElem?_range hj]
      rfl
    have hlen : ∀ j, j < len → ((Z j).take (L j)).length = L j := fun j hj => by
      obtain ⟨_, h1, _, h2, _⟩ := hrow j (by omega)
      rw [List.length_take]
      omega
    refine ⟨some a, len, cap, (List.range len).map (fun r => (Z r).take (L r)), hcs, ⟨by simp, fun hp => ?_⟩, by unfold maxLen at hm; omega, fun hb j => ?_⟩
    · obtain ⟨b, off, sp⟩ := a
      have h0 := (hrow 0 (by omega)).1
      have hsp : sp = none := by simpa [Addr.add] using World.cell?_spot h0
      subst hsp
      have hblk := block_lt_of_cell h0
      refine ⟨b, off, rfl, by simpa [Addr.add] using hblk, fun j hj => ?_⟩
      obtain ⟨h1, h2, h3, h4, _, h6, h7⟩ := hrow j (by omega)
      have ha : (⟨b, off, none⟩ : Addr).add j = ⟨b, off + j, none⟩ := by unfold Addr.add; split <;> simp_all
      rw [ha] at h1
      refine ⟨A j, L j, C j, h1, ?_, ⟨h2, by unfold maxLen at h3; exact h3⟩, h6⟩
      rw [hgd j hj]
      refine ⟨hlen j hj, fun hL => ?_⟩
      rcases hA : A j with _ | a'
      · have := h6 hA
        omega
      · obtain ⟨_, hc⟩ := h7 a' hA
        obtain ⟨b', off', sp'⟩ := a'
        have hc0 := hc 0 (by omega)
        have hsp' : sp' = none := by simpa [Addr.add] using World.cell?_spot hc0
        subst hsp'
        have hblk' := block_lt_of_cell hc0
        refine ⟨b', off', rfl, by simpa [Addr.add] using hblk', fun i hi => ?_⟩
        have hci := hc i (by omega)
        have ha' : (⟨b', off', none⟩ : Addr).add i = ⟨b', off' + i, none⟩ := by unfold Addr.add; split <;> simp_all
        rw [ha'] at hci
        rw [hci]
        simp [List.getD_eq_getElem?_getD, hi]
    · rcases Nat.lt_or_ge j len with hj | hj
      · rw [hgd j hj, hlen j hj]
        obtain ⟨_, h2, _, h4, _, h6, _⟩ := hrow j (by omega)
        rcases hA : A j with _ | a'
        · have := h6 hA
          omega
        · have hmem : (intRow (H := H) .i64 (A j) (L j) (Z j)) ∈ (List.range len).map (fun r => intRow .i64 (A r) (L r) (Z r)) := List.mem_map.2 ⟨j, List.mem_range.2 hj, rfl⟩
          have hw := hb ((C j) * 8) (by
            rw [hx]
            simp only [DataW.weights, Try.underlying22, List.mem_cons, List.mem_append]
            refine Or.inr (Or.inl (weightsAll_mem hmem _ ?_))
            rw [hA]
            simp only [intRow, DataW.weights, Try.underlying23, lits_length, bytesInt, List.length_take, List.length_drop, List.mem_cons]
            left
            congr 1
            omega)
          have : reachBytes = 140737488351232 := rfl
          omega
      · rw [List.getD_eq_getElem?_getD, List.getElem?_eq_none (by simpa using hj)]
        simp

end Go.Proofs.Ytbcjfiobggggjaa

/-
  Rows of rows that came in, opened: rows that are only read, none of them longer than memory lets it be.
-/
namespace Go.Proofs.Ytbcjfiobggggjaa
open Go.RowKit Go.ChangeShapes Go.WideShapes Go.Deep

theorem rrows_of_trodN {H : Type} {enc : TypeId × Value → H} {W : World} {fuel : Nat} {v : Value} {y : DataW H × List MemPlace} (h : DataW.trod enc Try.prog W 0 (fun _ => true) true fuel 22 [v] = some y) :
    ∃ A n c T, v = .slice A n c ∧ RRows W A n T ∧ Cap n c ∧ ((∀ b ∈ y.1.weights Try.prog 22, b ≤ reachBytes) → ∀ j, (T.getD j []).length ≤ 17592186044416) := by
  rcases open_int_rows Try.underlying22 Try.underlying23 Try.underlying3 cellsRow cellsInt h with ⟨hcs, _⟩ | ⟨a, len, cap, A, L, C, Z, hcs, _, hl, hm, hx, hrow⟩
  · simp only [List.cons.injEq, and_true] at hcs
    exact ⟨none, 0, 0, [], hcs, RRows.nil _ _, ⟨Nat.le_refl _, by omega⟩, fun _ j => by simp⟩
  · simp only [List.cons.injEq, and_true] at hcs
    have hgd : ∀ j, j < len → ((List.range len).map (fun r => (Z r).take (L r))).getD j [] = (Z j).take (L j) := fun j hj => by
      rw [List.getD_eq_getElem?_getD, List.getElem?_map, List.getElem?_range hj]
      rfl
    have hlen : ∀ j, j < len → ((Z j).take (L j)).length = L j := fun j hj => by
      obtain ⟨_, h1, _, h2, _⟩ := hrow j (by omega)
      rw [List.length_take]
      omega
    refine ⟨some a, len, cap, (List.range len).map (fun r => (Z r).take (L r)), hcs, ⟨by simp, fun hp => ?_⟩, ⟨hl, by unfold maxLen at hm; omega⟩, fun hb j => ?_⟩
    · obtain ⟨b, off, sp⟩ := a
      have h0 := (hrow 0 (by omega)).1
      have hsp : sp = none := by simpa [Addr.add] using World.cell?_spot h0
      subst hsp
      have hblk := block_lt_of_cell h0
      refine ⟨b, off, rfl, by simpa [Addr.add] using hblk, fun j hj => ?_⟩
      obtain ⟨h1, h2, h3, h4, _, h6, h7⟩ := hrow j (by omega)
      have ha : (⟨b, off, none⟩ : Addr).add j = ⟨b, off + j, none⟩ := by unfold Addr.add; split <;> simp_all
      rw [ha] at h1
      refine ⟨A j, L j, C j, h1, ?_, ⟨h2, by unfold maxLen at h3; exact h3⟩, h6⟩
      rw [hgd j hj]
      refine ⟨hlen j hj, fun hL => ?_⟩
      rcases hA : A j with _ | a'
      · have := h6 hA
        omega
      · obtain ⟨_, hc⟩ := h7 a' hA
        obtain ⟨b', off', sp'⟩ := a'
        have hc0 := hc 0 (by omega)
        have hsp' : sp' = none := by simpa [Addr.add] using World.cell?_spot hc0
        subst hsp'
        have hblk' := block_lt_of_cell hc0
        refine ⟨b', off', rfl, by simpa [Addr.add] using hblk', fun i hi => ?_⟩
        have hci := hc i (by omega)
        have ha' : (⟨b', off', none⟩ : Addr).add i = ⟨b', off' + i, none⟩ := by unfold Addr.add; split <;> simp_all
        rw [ha'] at hci
        rw [hci]
        simp [List.getD_eq_getElem?_getD, hi]
    · rcases Nat.lt_or_ge j len with hj | hj
      · rw [hgd j hj, hlen j hj]
        obtain ⟨_, h2, _, h4, _, h6, _⟩ := hrow j (by omega)
        rcases hA : A j with _ | a'
        · have := h6 hA
          omega
        · have hmem : (intRow (H := H) .i64 (A j) (L j) (Z j)) ∈ (List.range len).map (fun r => intRow .i64 (A r) (L r) (Z r)) := List.mem_map.2 ⟨j, List.mem_range.2 hj, rfl⟩
          have hw := hb ((C j) * 8) (by
            rw [hx]
            simp only [DataW.weights, Try.underlying22, List.mem_cons, List.mem_append]
            refine Or.inr (Or.inl (weightsAll_mem hmem _ ?_))
            rw [hA]
            simp only [intRow, DataW.weights, Try.underlying23, lits_length, bytesInt, List.length_take, List.length_drop, List.mem_cons]
            left
            congr 1
            omega)
          have : reachBytes = 140737488351232 := rfl
          omega
      · rw [List.getD_eq_getElem?_getD, List.getElem?_eq_none (by simpa using hj)]
        simp

end Go.Proofs.Ytbcjfiobggggjaa
