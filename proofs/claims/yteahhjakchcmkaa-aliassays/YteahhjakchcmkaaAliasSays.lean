/-
  castlaw.AliasSays, walked.
-/
import Derived.Test.YteahhjakchcmkaaAliD
import Derived.Test.YteahhjakchcmkaaAliT
namespace Go.Proofs.Yteahhjakchcmkaa
open Go.RowKit

theorem tblB_of {ws : List Int} {W : Int} {cs : List (Int × Int)} (h : ColsOk ws.length W cs) (h2 : IsTbl ws W cs) : tblB ws W cs = true := decide_eq_true ⟨h, h2⟩

set_option maxHeartbeats 400000 in
set_option maxRecDepth 100000 in
theorem alSaysBadNone (A : Option Addr) (n c : Nat) (B : Option Addr) (m d : Nat) (at_ x : Int) (ws : List Int) (cs : List (Int × Int)) (w : World) (hI : Ints w A n ws) (hJ : Cols w B m cs) (hm : m ≤ 9223372036854775807) (he : alErr ws ≠ 0) (hd : m = 0) :
    Calls Try.prog 3 #[.slice A n c, .slice B m d, .int .i64 at_, .int .i64 x] w fun e w' => e = .returned (.bool true) ∧ Below w.heap.size w w' := by
  have HM := hid hm
  have HI := hid hI
  have HJ := hid hJ
  have HBU := hid (aBuild_any A n c ws w hI)
  have HL := hid hI.len
  subst hd
  have HD := hid (fun W => aDraw_large B 0 d at_ x W (.inl (by omega)))
  have HT := hid (fun W (h : Ints W A n ws) => aTest_bad A n c B 0 d ws W h he)
  have HWE := hid (fun W (h : Ints W A n ws) => weightsErr_any A n c ws W h)
  have HCH := hid (fun W (h : Ints W A n ws) => aCheck_any A n c ws W h)
  have HZ1 : Hid ((alErr ws != 0) = true) := by simpa [Hid] using he
  have HE := hid he
  unfold RetBu at HBU
  unfold RetWE at HWE
  have HAT : Hid (alTot ws = 0) := if_neg he
  rw [HAT.out] at HWE
  clear hI hJ hm he HAT
  generalize alErr ws = E at *
  go_enter Try.func3, Try.ntmps3
  go_wp2_with fail
  refine HBU.out.mono ?_
  rintro e w1 ⟨A1, n1, c1, cs1, rfl, hb, hc1, hcap, hbad, hgood⟩
  have HB1 := hid hb
  have HI1 := hid (HI.out.keep hb)
  have HJ1 := hid (HJ.out.keep hb)
  obtain rfl := hbad HE.out
  clear hb hc1 hcap hbad hgood HBU
  go_wp2_with fail
  refine (HT.out w1 HI1.out).mono ?_
  rintro e w2 ⟨rfl, hb⟩
  have HB2 := hid (below_step HB1.out (Nat.le_refl _) hb)
  have HI2 := hid (HI1.out.keep hb)
  have HJ2 := hid (HJ1.out.keep hb)
  clear hb HT
  have HDD := hid (HD.out w2)
  clear HD
  go_wp2_with fail
  refine HDD.out.mono ?_
  rintro e w3 ⟨rfl, rfl⟩
  clear HDD
  go_wp2_with fail
  refine (HWE.out w2 HI2.out).mono ?_
  rintro e w3 ⟨rfl, rfl⟩
  go_wp2_with fail
  refine (HCH.out w2 HI2.out).mono ?_
  rintro e w3 ⟨rfl, rfl⟩
  clear HWE HCH
  have hz1 := HZ1.out
  have hz2 : (E != E) = false := by simp
  have hz3 : (E == E) = true := by simp
  go_wp2
  go_ret
  exact ⟨rfl, HB2.out⟩

set_option maxHeartbeats 400000 in
set_option maxRecDepth 100000 in
theorem alSaysBadMany (A : Option Addr) (n c : Nat) (B : Option Addr) (m d : Nat) (at_ x : Int) (ws : List Int) (cs : List (Int × Int)) (w : World) (hI : Ints w A n ws) (hJ : Cols w B m cs) (hm : m ≤ 9223372036854775807) (he : alErr ws ≠ 0) (hd : 12 < m) :
    Calls Try.prog 3 #[.slice A n c, .slice B m d, .int .i64 at_, .int .i64 x] w fun e w' => e = .returned (.bool true) ∧ Below w.heap.size w w' := by
  have HM := hid hm
  have HI := hid hI
  have HJ := hid hJ
  have HBU := hid (aBuild_any A n c ws w hI)
  have HL := hid hI.len
  have HD := hid (fun W => aDraw_large B m d at_ x W (.inr hd))
  have HT := hid (fun W (h : Ints W A n ws) => aTest_bad A n c B m d ws W h he)
  have HWE := hid (fun W (h : Ints W A n ws) => weightsErr_any A n c ws W h)
  have HCH := hid (fun W (h : Ints W A n ws) => aCheck_any A n c ws W h)
  have HZ1 : Hid ((alErr ws != 0) = true) := by simpa [Hid] using he
  have HE := hid he
  unfold RetBu at HBU
  unfold RetWE at HWE
  have HAT : Hid (alTot ws = 0) := if_neg he
  rw [HAT.out] at HWE
  clear hI hJ hm he HAT
  generalize alErr ws = E at *
  go_enter Try.func3, Try.ntmps3
  go_wp2_with fail
  refine HBU.out.mono ?_
  rintro e w1 ⟨A1, n1, c1, cs1, rfl, hb, hc1, hcap, hbad, hgood⟩
  have HB1 := hid hb
  have HI1 := hid (HI.out.keep hb)
  have HJ1 := hid (HJ.out.keep hb)
  obtain rfl := hbad HE.out
  clear hb hc1 hcap hbad hgood HBU
  go_wp2_with fail
  refine (HT.out w1 HI1.out).mono ?_
  rintro e w2 ⟨rfl, hb⟩
  have HB2 := hid (below_step HB1.out (Nat.le_refl _) hb)
  have HI2 := hid (HI1.out.keep hb)
  have HJ2 := hid (HJ1.out.keep hb)
  clear hb HT
  have HDD := hid (HD.out w2)
  clear HD
  go_wp2_with fail
  refine HDD.out.mono ?_
  rintro e w3 ⟨rfl, rfl⟩
  clear HDD
  go_wp2_with fail
  refine (HWE.out w2 HI2.out).mono ?_
  rintro e w3 ⟨rfl, rfl⟩
  go_wp2_with fail
  refine (HCH.out w2 HI2.out).mono ?_
  rintro e w3 ⟨rfl, rfl⟩
  clear HWE HCH
  have hz1 := HZ1.out
  have hz2 : (E != E) = false := by simp
  have hz3 : (E == E) = true := by simp
  go_wp2
  go_ret
  exact ⟨rfl, HB2.out⟩

set_option maxHeartbeats 400000 in
set_option maxRecDepth 100000 in
theorem alSaysBadLow (A : Option Addr) (n c : Nat) (B : Option Addr) (m d : Nat) (at_ x : Int) (ws : List Int) (cs : List (Int × Int)) (w : World) (hI : Ints w A n ws) (hJ : Cols w B m cs) (hm : m ≤ 9223372036854775807) (he : alErr ws ≠ 0) (h1 : 1 ≤ m) (h2 : m ≤ 12) (hd : at_ < 0) :
    Calls Try.prog 3 #[.slice A n c, .slice B m d, .int .i64 at_, .int .i64 x] w fun e w' => e = .returned (.bool true) ∧ Below w.heap.size w w' := by
  have HM := hid hm
  have HI := hid hI
  have HJ := hid hJ
  have HBU := hid (aBuild_any A n c ws w hI)
  have HL := hid hI.len
  have HD := hid (fun W => aDraw_arg B m d at_ x W h1 h2 (.inl hd))
  have hm12 : ¬ 12 < (m : Int) := by omega
  have hm1 : ¬ (m : Int) < 1 := by omega
  have HT := hid (fun W (h : Ints W A n ws) => aTest_bad A n c B m d ws W h he)
  have HWE := hid (fun W (h : Ints W A n ws) => weightsErr_any A n c ws W h)
  have HCH := hid (fun W (h : Ints W A n ws) => aCheck_any A n c ws W h)
  have HZ1 : Hid ((alErr ws != 0) = true) := by simpa [Hid] using he
  have HE := hid he
  unfold RetBu at HBU
  unfold RetWE at HWE
  have HAT : Hid (alTot ws = 0) := if_neg he
  rw [HAT.out] at HWE
  clear hI hJ hm he HAT
  generalize alErr ws = E at *
  go_enter Try.func3, Try.ntmps3
  go_wp2_with fail
  refine HBU.out.mono ?_
  rintro e w1 ⟨A1, n1, c1, cs1, rfl, hb, hc1, hcap, hbad, hgood⟩
  have HB1 := hid hb
  have HI1 := hid (HI.out.keep hb)
  have HJ1 := hid (HJ.out.keep hb)
  obtain rfl := hbad HE.out
  clear hb hc1 hcap hbad hgood HBU
  go_wp2_with fail
  refine (HT.out w1 HI1.out).mono ?_
  rintro e w2 ⟨rfl, hb⟩
  have HB2 := hid (below_step HB1.out (Nat.le_refl _) hb)
  have HI2 := hid (HI1.out.keep hb)
  have HJ2 := hid (HJ1.out.keep hb)
  clear hb HT
  have HDD := hid (HD.out w2)
  clear HD
  go_wp2_with fail
  refine HDD.out.mono ?_
  rintro e w3 ⟨rfl, rfl⟩
  clear HDD
  go_wp2_with fail
  refine (HWE.out w2 HI2.out).mono ?_
  rintro e w3 ⟨rfl, rfl⟩
  go_wp2_with fail
  refine (HCH.out w2 HI2.out).mono ?_
  rintro e w3 ⟨rfl, rfl⟩
  clear HWE HCH
  have hz1 := HZ1.out
  have hz2 : (E != E) = false := by simp
  have hz3 : (E == E) = true := by simp
  go_wp2
  go_ret
  exact ⟨rfl, HB2.out⟩

set_option maxHeartbeats 400000 in
set_option maxRecDepth 100000 in
theorem alSaysBadHigh (A : Option Addr) (n c : Nat) (B : Option Addr) (m d : Nat) (at_ x : Int) (ws : List Int) (cs : List (Int × Int)) (w : World) (hI : Ints w A n ws) (hJ : Cols w B m cs) (hm : m ≤ 9223372036854775807) (he : alErr ws ≠ 0) (h1 : 1 ≤ m) (h2 : m ≤ 12) (hd : (m : Int) ≤ at_) :
    Calls Try.prog 3 #[.slice A n c, .slice B m d, .int .i64 at_, .int .i64 x] w fun e w' => e = .returned (.bool true) ∧ Below w.heap.size w w' := by
  have HM := hid hm
  have HI := hid hI
  have HJ := hid hJ
  have HBU := hid (aBuild_any A n c ws w hI)
  have HL := hid hI.len
  have HD := hid (fun W => aDraw_arg B m d at_ x W h1 h2 (.inr hd))
  have hat0 : ¬ at_ < 0 := by omega
  have hm12 : ¬ 12 < (m : Int) := by omega
  have hm1 : ¬ (m : Int) < 1 := by omega
  have HT := hid (fun W (h : Ints W A n ws) => aTest_bad A n c B m d ws W h he)
  have HWE := hid (fun W (h : Ints W A n ws) => weightsErr_any A n c ws W h)
  have HCH := hid (fun W (h : Ints W A n ws) => aCheck_any A n c ws W h)
  have HZ1 : Hid ((alErr ws != 0) = true) := by simpa [Hid] using he
  have HE := hid he
  unfold RetBu at HBU
  unfold RetWE at HWE
  have HAT : Hid (alTot ws = 0) := if_neg he
  rw [HAT.out] at HWE
  clear hI hJ hm he HAT
  generalize alErr ws = E at *
  go_enter Try.func3, Try.ntmps3
  go_wp2_with fail
  refine HBU.out.mono ?_
  rintro e w1 ⟨A1, n1, c1, cs1, rfl, hb, hc1, hcap, hbad, hgood⟩
  have HB1 := hid hb
  have HI1 := hid (HI.out.keep hb)
  have HJ1 := hid (HJ.out.keep hb)
  obtain rfl := hbad HE.out
  clear hb hc1 hcap hbad hgood HBU
  go_wp2_with fail
  refine (HT.out w1 HI1.out).mono ?_
  rintro e w2 ⟨rfl, hb⟩
  have HB2 := hid (below_step HB1.out (Nat.le_refl _) hb)
  have HI2 := hid (HI1.out.keep hb)
  have HJ2 := hid (HJ1.out.keep hb)
  clear hb HT
  have HDD := hid (HD.out w2)
  clear HD
  go_wp2_with fail
  refine HDD.out.mono ?_
  rintro e w3 ⟨rfl, rfl⟩
  clear HDD
  go_wp2_with fail
  refine (HWE.out w2 HI2.out).mono ?_
  rintro e w3 ⟨rfl, rfl⟩
  go_wp2_with fail
  refine (HCH.out w2 HI2.out).mono ?_
  rintro e w3 ⟨rfl, rfl⟩
  clear HWE HCH
  have hz1 := HZ1.out
  have hz2 : (E != E) = false := by simp
  have hz3 : (E == E) = true := by simp
  go_wp2
  go_ret
  exact ⟨rfl, HB2.out⟩

set_option maxHeartbeats 400000 in
set_option maxRecDepth 100000 in
theorem alSaysBadCut (A : Option Addr) (n c : Nat) (B : Option Addr) (m d : Nat) (at_ x : Int) (ws : List Int) (cs : List (Int × Int)) (w : World) (hI : Ints w A n ws) (hJ : Cols w B m cs) (hm : m ≤ 9223372036854775807) (he : alErr ws ≠ 0) (h2 : m ≤ 12) (k : Nat) (hk : k < m) (hat : at_ = (k : Int)) (hd : x < cut cs k) :
    Calls Try.prog 3 #[.slice A n c, .slice B m d, .int .i64 at_, .int .i64 x] w fun e w' => e = .returned (.bool true) ∧ Below w.heap.size w w' := by
  have HM := hid hm
  have HI := hid hI
  have HJ := hid hJ
  have HBU := hid (aBuild_any A n c ws w hI)
  have HL := hid hI.len
  subst hat
  have HD := hid (fun W (h : Cols W B m cs) => aDraw_ok B m d k x cs W h h2 hk)
  have HP : Hid (pick2 x (cut cs k) k (oth cs k) = (k : Int)) := if_pos hd
  rw [HP.out] at HD
  have hkm : (k : Int) < (m : Int) := by omega
  have hk0 : ¬ (k : Int) < 0 := by omega
  have hm12 : ¬ 12 < (m : Int) := by omega
  have hm1 : ¬ (m : Int) < 1 := by omega
  have HT := hid (fun W (h : Ints W A n ws) => aTest_bad A n c B m d ws W h he)
  have HWE := hid (fun W (h : Ints W A n ws) => weightsErr_any A n c ws W h)
  have HCH := hid (fun W (h : Ints W A n ws) => aCheck_any A n c ws W h)
  have HZ1 : Hid ((alErr ws != 0) = true) := by simpa [Hid] using he
  have HE := hid he
  unfold RetBu at HBU
  unfold RetWE at HWE
  have HAT : Hid (alTot ws = 0) := if_neg he
  rw [HAT.out] at HWE
  clear hI hJ hm he HAT
  generalize alErr ws = E at *
  go_enter Try.func3, Try.ntmps3
  go_wp2_with fail
  refine HBU.out.mono ?_
  rintro e w1 ⟨A1, n1, c1, cs1, rfl, hb, hc1, hcap, hbad, hgood⟩
  have HB1 := hid hb
  have HI1 := hid (HI.out.keep hb)
  have HJ1 := hid (HJ.out.keep hb)
  obtain rfl := hbad HE.out
  clear hb hc1 hcap hbad hgood HBU
  go_wp2_with fail
  refine (HT.out w1 HI1.out).mono ?_
  rintro e w2 ⟨rfl, hb⟩
  have HB2 := hid (below_step HB1.out (Nat.le_refl _) hb)
  have HI2 := hid (HI1.out.keep hb)
  have HJ2 := hid (HJ1.out.keep hb)
  clear hb HT
  have HDD := hid (HD.out w2 HJ2.out)
  obtain ⟨b, o, rfl, hbl, hc⟩ := HJ2.out.row (by omega)
  obtain ⟨g1, g2⟩ := hc k hk
  clear hc HD
  generalize cut cs k = y at *
  generalize oth cs k = z at *
  go_wp2_with fail
  refine HDD.out.mono ?_
  rintro e w3 ⟨rfl, rfl⟩
  clear HDD
  go_wp2_with fail
  refine (HWE.out w2 HI2.out).mono ?_
  rintro e w3 ⟨rfl, rfl⟩
  go_wp2_with fail
  refine (HCH.out w2 HI2.out).mono ?_
  rintro e w3 ⟨rfl, rfl⟩
  clear HWE HCH
  have hz1 := HZ1.out
  have hz2 : (E != E) = false := by simp
  have hz3 : (E == E) = true := by simp
  go_wp2
  go_ret
  exact ⟨rfl, HB2.out⟩

set_option maxHeartbeats 400000 in
set_option maxRecDepth 100000 in
theorem alSaysBadOth (A : Option Addr) (n c : Nat) (B : Option Addr) (m d : Nat) (at_ x : Int) (ws : List Int) (cs : List (Int × Int)) (w : World) (hI : Ints w A n ws) (hJ : Cols w B m cs) (hm : m ≤ 9223372036854775807) (he : alErr ws ≠ 0) (h2 : m ≤ 12) (k : Nat) (hk : k < m) (hat : at_ = (k : Int)) (hd : ¬ x < cut cs k) :
    Calls Try.prog 3 #[.slice A n c, .slice B m d, .int .i64 at_, .int .i64 x] w fun e w' => e = .returned (.bool true) ∧ Below w.heap.size w w' := by
  have HM := hid hm
  have HI := hid hI
  have HJ := hid hJ
  have HBU := hid (aBuild_any A n c ws w hI)
  have HL := hid hI.len
  subst hat
  have HD := hid (fun W (h : Cols W B m cs) => aDraw_ok B m d k x cs W h h2 hk)
  have HP : Hid (pick2 x (cut cs k) k (oth cs k) = oth cs k) := if_neg hd
  rw [HP.out] at HD
  have hkm : (k : Int) < (m : Int) := by omega
  have hk0 : ¬ (k : Int) < 0 := by omega
  have hm12 : ¬ 12 < (m : Int) := by omega
  have hm1 : ¬ (m : Int) < 1 := by omega
  have HT := hid (fun W (h : Ints W A n ws) => aTest_bad A n c B m d ws W h he)
  have HWE := hid (fun W (h : Ints W A n ws) => weightsErr_any A n c ws W h)
  have HCH := hid (fun W (h : Ints W A n ws) => aCheck_any A n c ws W h)
  have HZ1 : Hid ((alErr ws != 0) = true) := by simpa [Hid] using he
  have HE := hid he
  unfold RetBu at HBU
  unfold RetWE at HWE
  have HAT : Hid (alTot ws = 0) := if_neg he
  rw [HAT.out] at HWE
  clear hI hJ hm he HAT
  generalize alErr ws = E at *
  go_enter Try.func3, Try.ntmps3
  go_wp2_with fail
  refine HBU.out.mono ?_
  rintro e w1 ⟨A1, n1, c1, cs1, rfl, hb, hc1, hcap, hbad, hgood⟩
  have HB1 := hid hb
  have HI1 := hid (HI.out.keep hb)
  have HJ1 := hid (HJ.out.keep hb)
  obtain rfl := hbad HE.out
  clear hb hc1 hcap hbad hgood HBU
  go_wp2_with fail
  refine (HT.out w1 HI1.out).mono ?_
  rintro e w2 ⟨rfl, hb⟩
  have HB2 := hid (below_step HB1.out (Nat.le_refl _) hb)
  have HI2 := hid (HI1.out.keep hb)
  have HJ2 := hid (HJ1.out.keep hb)
  clear hb HT
  have HDD := hid (HD.out w2 HJ2.out)
  obtain ⟨b, o, rfl, hbl, hc⟩ := HJ2.out.row (by omega)
  obtain ⟨g1, g2⟩ := hc k hk
  clear hc HD
  generalize cut cs k = y at *
  generalize oth cs k = z at *
  go_wp2_with fail
  refine HDD.out.mono ?_
  rintro e w3 ⟨rfl, rfl⟩
  clear HDD
  go_wp2_with fail
  refine (HWE.out w2 HI2.out).mono ?_
  rintro e w3 ⟨rfl, rfl⟩
  go_wp2_with fail
  refine (HCH.out w2 HI2.out).mono ?_
  rintro e w3 ⟨rfl, rfl⟩
  clear HWE HCH
  have hz1 := HZ1.out
  have hz2 : (E != E) = false := by simp
  have hz3 : (E == E) = true := by simp
  go_wp2
  go_ret
  exact ⟨rfl, HB2.out⟩

set_option maxHeartbeats 400000 in
set_option maxRecDepth 100000 in
theorem alSaysFormNone (A : Option Addr) (n c : Nat) (B : Option Addr) (m d : Nat) (at_ x : Int) (ws : List Int) (cs : List (Int × Int)) (w : World) (hI : Ints w A n ws) (hJ : Cols w B m cs) (hm : m ≤ 9223372036854775807) (he : alErr ws = 0) (hmn : m ≠ n) (hd : m = 0) :
    Calls Try.prog 3 #[.slice A n c, .slice B m d, .int .i64 at_, .int .i64 x] w fun e w' => e = .returned (.bool true) ∧ Below w.heap.size w w' := by
  have HM := hid hm
  have HI := hid hI
  have HJ := hid hJ
  have HBU := hid (aBuild_any A n c ws w hI)
  have HL := hid hI.len
  have HF := hid (fit_of he)
  have hn : n ≤ 12 := by have := HF.out.hi; have := HL.out; omega
  have hn0 : 1 ≤ n := by have := HF.out.lo; have := HL.out; omega
  have hW := HF.out.sum
  have hnn : ((n : Int) != (n : Int)) = false := by simp
  subst hd
  have HD := hid (fun W => aDraw_large B 0 d at_ x W (.inl (by omega)))
  have HE := hid he
  have HWE := hid (fun W (h : Ints W A n ws) => weightsErr_any A n c ws W h)
  unfold RetWE at HWE
  rw [alTot_ok he, he] at HWE
  have HCH := hid (fun W (h : Ints W A n ws) => aCheck_any A n c ws W h)
  rw [he] at HCH
  have HT := hid (fun W (h : Ints W A n ws) => aTest_form A n c B 0 d ws W h he hmn)
  have hz9 : (((0 : Nat) : Int) != (n : Int)) = true := by rw [bne_iff_ne]; omega
  have HTB := hid (fun W (B1 : Option Addr) (c1 : Nat) (cs1 : List (Int × Int)) (h : Ints W A n ws) (h2 : Cols W B1 n cs1) => table_any A n c B1 c1 ws.sum ws cs1 W h h2 HF.out.w hn (by omega))
  have HRB : Hid (∀ cs1, ColsOk ws.length ws.sum cs1 ∧ IsTbl ws ws.sum cs1 → tblB ws ws.sum cs1 = true) := fun cs1 h => tblB_of h.1 h.2
  unfold RetBu at HBU
  rw [he] at HBU
  clear hI hJ hm he hmn
  go_enter Try.func3, Try.ntmps3
  go_wp2_with fail
  refine HBU.out.mono ?_
  rintro e w1 ⟨A1, n1, c1, cs1, rfl, hb, hc1, hcap, hbad, hgood⟩
  have HB1 := hid hb
  have HI1 := hid (HI.out.keep hb)
  have HJ1 := hid (HJ.out.keep hb)
  obtain ⟨hn1, hcok⟩ := hgood (by first | rfl | trivial)
  rw [HL.out] at hn1
  subst hn1
  have HC1 := hid hc1
  have HOK := hid (HRB.out _ hcok)
  clear hb hc1 hcap hbad hgood HBU hcok HRB
  go_wp2_with fail
  refine (HT.out w1 HI1.out).mono ?_
  rintro e w2 ⟨rfl, hb⟩
  have HB2 := hid (below_step HB1.out (Nat.le_refl _) hb)
  have HI2 := hid (HI1.out.keep hb)
  have HJ2 := hid (HJ1.out.keep hb)
  have HC2 := hid (HC1.out.keep hb)
  clear hb HT
  have HDD := hid (HD.out w2)
  clear HD
  go_wp2_with fail
  refine HDD.out.mono ?_
  rintro e w3 ⟨rfl, rfl⟩
  clear HDD
  go_wp2_with fail
  refine (HWE.out w2 HI2.out).mono ?_
  rintro e w3 ⟨rfl, rfl⟩
  go_wp2_with fail
  refine (HCH.out w2 HI2.out).mono ?_
  rintro e w3 ⟨rfl, rfl⟩
  clear HWE HCH
  go_wp2_with fail
  refine (HTB.out w2 A1 c1 cs1 HI2.out HC2.out).mono ?_
  rintro e w4 ⟨rfl, hb⟩
  rw [HOK.out]
  have HB4 := hid (below_step HB2.out (Nat.le_refl _) hb)
  clear hb HTB
  go_wp2
  go_ret
  exact ⟨rfl, HB4.out⟩

set_option maxHeartbeats 400000 in
set_option maxRecDepth 100000 in
theorem alSaysFormMany (A : Option Addr) (n c : Nat) (B : Option Addr) (m d : Nat) (at_ x : Int) (ws : List Int) (cs : List (Int × Int)) (w : World) (hI : Ints w A n ws) (hJ : Cols w B m cs) (hm : m ≤ 9223372036854775807) (he : alErr ws = 0) (hmn : m ≠ n) (hd : 12 < m) :
    Calls Try.prog 3 #[.slice A n c, .slice B m d, .int .i64 at_, .int .i64 x] w fun e w' => e = .returned (.bool true) ∧ Below w.heap.size w w' := by
  have HM := hid hm
  have HI := hid hI
  have HJ := hid hJ
  have HBU := hid (aBuild_any A n c ws w hI)
  have HL := hid hI.len
  have HF := hid (fit_of he)
  have hn : n ≤ 12 := by have := HF.out.hi; have := HL.out; omega
  have hn0 : 1 ≤ n := by have := HF.out.lo; have := HL.out; omega
  have hW := HF.out.sum
  have hnn : ((n : Int) != (n : Int)) = false := by simp
  have HD := hid (fun W => aDraw_large B m d at_ x W (.inr hd))
  have HE := hid he
  have HWE := hid (fun W (h : Ints W A n ws) => weightsErr_any A n c ws W h)
  unfold RetWE at HWE
  rw [alTot_ok he, he] at HWE
  have HCH := hid (fun W (h : Ints W A n ws) => aCheck_any A n c ws W h)
  rw [he] at HCH
  have HT := hid (fun W (h : Ints W A n ws) => aTest_form A n c B m d ws W h he hmn)
  have hz9 : (((m : Nat) : Int) != (n : Int)) = true := by rw [bne_iff_ne]; omega
  have HTB := hid (fun W (B1 : Option Addr) (c1 : Nat) (cs1 : List (Int × Int)) (h : Ints W A n ws) (h2 : Cols W B1 n cs1) => table_any A n c B1 c1 ws.sum ws cs1 W h h2 HF.out.w hn (by omega))
  have HRB : Hid (∀ cs1, ColsOk ws.length ws.sum cs1 ∧ IsTbl ws ws.sum cs1 → tblB ws ws.sum cs1 = true) := fun cs1 h => tblB_of h.1 h.2
  unfold RetBu at HBU
  rw [he] at HBU
  clear hI hJ hm he hmn
  go_enter Try.func3, Try.ntmps3
  go_wp2_with fail
  refine HBU.out.mono ?_
  rintro e w1 ⟨A1, n1, c1, cs1, rfl, hb, hc1, hcap, hbad, hgood⟩
  have HB1 := hid hb
  have HI1 := hid (HI.out.keep hb)
  have HJ1 := hid (HJ.out.keep hb)
  obtain ⟨hn1, hcok⟩ := hgood (by first | rfl | trivial)
  rw [HL.out] at hn1
  subst hn1
  have HC1 := hid hc1
  have HOK := hid (HRB.out _ hcok)
  clear hb hc1 hcap hbad hgood HBU hcok HRB
  go_wp2_with fail
  refine (HT.out w1 HI1.out).mono ?_
  rintro e w2 ⟨rfl, hb⟩
  have HB2 := hid (below_step HB1.out (Nat.le_refl _) hb)
  have HI2 := hid (HI1.out.keep hb)
  have HJ2 := hid (HJ1.out.keep hb)
  have HC2 := hid (HC1.out.keep hb)
  clear hb HT
  have HDD := hid (HD.out w2)
  clear HD
  go_wp2_with fail
  refine HDD.out.mono ?_
  rintro e w3 ⟨rfl, rfl⟩
  clear HDD
  go_wp2_with fail
  refine (HWE.out w2 HI2.out).mono ?_
  rintro e w3 ⟨rfl, rfl⟩
  go_wp2_with fail
  refine (HCH.out w2 HI2.out).mono ?_
  rintro e w3 ⟨rfl, rfl⟩
  clear HWE HCH
  go_wp2_with fail
  refine (HTB.out w2 A1 c1 cs1 HI2.out HC2.out).mono ?_
  rintro e w4 ⟨rfl, hb⟩
  rw [HOK.out]
  have HB4 := hid (below_step HB2.out (Nat.le_refl _) hb)
  clear hb HTB
  go_wp2
  go_ret
  exact ⟨rfl, HB4.out⟩

set_option maxHeartbeats 400000 in
set_option maxRecDepth 100000 in
theorem alSaysFormLow (A : Option Addr) (n c : Nat) (B : Option Addr) (m d : Nat) (at_ x : Int) (ws : List Int) (cs : List (Int × Int)) (w : World) (hI : Ints w A n ws) (hJ : Cols w B m cs) (hm : m ≤ 9223372036854775807) (he : alErr ws = 0) (hmn : m ≠ n) (h1 : 1 ≤ m) (h2 : m ≤ 12) (hd : at_ < 0) :
    Calls Try.prog 3 #[.slice A n c, .slice B m d, .int .i64 at_, .int .i64 x] w fun e w' => e = .returned (.bool true) ∧ Below w.heap.size w w' := by
  have HM := hid hm
  have HI := hid hI
  have HJ := hid hJ
  have HBU := hid (aBuild_any A n c ws w hI)
  have HL := hid hI.len
  have HF := hid (fit_of he)
  have hn : n ≤ 12 := by have := HF.out.hi; have := HL.out; omega
  have hn0 : 1 ≤ n := by have := HF.out.lo; have := HL.out; omega
  have hW := HF.out.sum
  have hnn : ((n : Int) != (n : Int)) = false := by simp
  have HD := hid (fun W => aDraw_arg B m d at_ x W h1 h2 (.inl hd))
  have hm12 : ¬ 12 < (m : Int) := by omega
  have hm1 : ¬ (m : Int) < 1 := by omega
  have HE := hid he
  have HWE := hid (fun W (h : Ints W A n ws) => weightsErr_any A n c ws W h)
  unfold RetWE at HWE
  rw [alTot_ok he, he] at HWE
  have HCH := hid (fun W (h : Ints W A n ws) => aCheck_any A n c ws W h)
  rw [he] at HCH
  have HT := hid (fun W (h : Ints W A n ws) => aTest_form A n c B m d ws W h he hmn)
  have hz9 : (((m : Nat) : Int) != (n : Int)) = true := by rw [bne_iff_ne]; omega
  have HTB := hid (fun W (B1 : Option Addr) (c1 : Nat) (cs1 : List (Int × Int)) (h : Ints W A n ws) (h2 : Cols W B1 n cs1) => table_any A n c B1 c1 ws.sum ws cs1 W h h2 HF.out.w hn (by omega))
  have HRB : Hid (∀ cs1, ColsOk ws.length ws.sum cs1 ∧ IsTbl ws ws.sum cs1 → tblB ws ws.sum cs1 = true) := fun cs1 h => tblB_of h.1 h.2
  unfold RetBu at HBU
  rw [he] at HBU
  clear hI hJ hm he hmn
  go_enter Try.func3, Try.ntmps3
  go_wp2_with fail
  refine HBU.out.mono ?_
  rintro e w1 ⟨A1, n1, c1, cs1, rfl, hb, hc1, hcap, hbad, hgood⟩
  have HB1 := hid hb
  have HI1 := hid (HI.out.keep hb)
  have HJ1 := hid (HJ.out.keep hb)
  obtain ⟨hn1, hcok⟩ := hgood (by first | rfl | trivial)
  rw [HL.out] at hn1
  subst hn1
  have HC1 := hid hc1
  have HOK := hid (HRB.out _ hcok)
  clear hb hc1 hcap hbad hgood HBU hcok HRB
  go_wp2_with fail
  refine (HT.out w1 HI1.out).mono ?_
  rintro e w2 ⟨rfl, hb⟩
  have HB2 := hid (below_step HB1.out (Nat.le_refl _) hb)
  have HI2 := hid (HI1.out.keep hb)
  have HJ2 := hid (HJ1.out.keep hb)
  have HC2 := hid (HC1.out.keep hb)
  clear hb HT
  have HDD := hid (HD.out w2)
  clear HD
  go_wp2_with fail
  refine HDD.out.mono ?_
  rintro e w3 ⟨rfl, rfl⟩
  clear HDD
  go_wp2_with fail
  refine (HWE.out w2 HI2.out).mono ?_
  rintro e w3 ⟨rfl, rfl⟩
  go_wp2_with fail
  refine (HCH.out w2 HI2.out).mono ?_
  rintro e w3 ⟨rfl, rfl⟩
  clear HWE HCH
  go_wp2_with fail
  refine (HTB.out w2 A1 c1 cs1 HI2.out HC2.out).mono ?_
  rintro e w4 ⟨rfl, hb⟩
  rw [HOK.out]
  have HB4 := hid (below_step HB2.out (Nat.le_refl _) hb)
  clear hb HTB
  go_wp2
  go_ret
  exact ⟨rfl, HB4.out⟩

set_option maxHeartbeats 400000 in
set_option maxRecDepth 100000 in
theorem alSaysFormHigh (A : Option Addr) (n c : Nat) (B : Option Addr) (m d : Nat) (at_ x : Int) (ws : List Int) (cs : List (Int × Int)) (w : World) (hI : Ints w A n ws) (hJ : Cols w B m cs) (hm : m ≤ 9223372036854775807) (he : alErr ws = 0) (hmn : m ≠ n) (h1 : 1 ≤ m) (h2 : m ≤ 12) (hd : (m : Int) ≤ at_) :
    Calls Try.prog 3 #[.slice A n c, .slice B m d, .int .i64 at_, .int .i64 x] w fun e w' => e = .returned (.bool true) ∧ Below w.heap.size w w' := by
  have HM := hid hm
  have HI := hid hI
  have HJ := hid hJ
  have HBU := hid (aBuild_any A n c ws w hI)
  have HL := hid hI.len
  have HF := hid (fit_of he)
  have hn : n ≤ 12 := by have := HF.out.hi; have := HL.out; omega
  have hn0 : 1 ≤ n := by have := HF.out.lo; have := HL.out; omega
  have hW := HF.out.sum
  have hnn : ((n : Int) != (n : Int)) = false := by simp
  have HD := hid (fun W => aDraw_arg B m d at_ x W h1 h2 (.inr hd))
  have hat0 : ¬ at_ < 0 := by omega
  have hm12 : ¬ 12 < (m : Int) := by omega
  have hm1 : ¬ (m : Int) < 1 := by omega
  have HE := hid he
  have HWE := hid (fun W (h : Ints W A n ws) => weightsErr_any A n c ws W h)
  unfold RetWE at HWE
  rw [alTot_ok he, he] at HWE
  have HCH := hid (fun W (h : Ints W A n ws) => aCheck_any A n c ws W h)
  rw [he] at HCH
  have HT := hid (fun W (h : Ints W A n ws) => aTest_form A n c B m d ws W h he hmn)
  have hz9 : (((m : Nat) : Int) != (n : Int)) = true := by rw [bne_iff_ne]; omega
  have HTB := hid (fun W (B1 : Option Addr) (c1 : Nat) (cs1 : List (Int × Int)) (h : Ints W A n ws) (h2 : Cols W B1 n cs1) => table_any A n c B1 c1 ws.sum ws cs1 W h h2 HF.out.w hn (by omega))
  have HRB : Hid (∀ cs1, ColsOk ws.length ws.sum cs1 ∧ IsTbl ws ws.sum cs1 → tblB ws ws.sum cs1 = true) := fun cs1 h => tblB_of h.1 h.2
  unfold RetBu at HBU
  rw [he] at HBU
  clear hI hJ hm he hmn
  go_enter Try.func3, Try.ntmps3
  go_wp2_with fail
  refine HBU.out.mono ?_
  rintro e w1 ⟨A1, n1, c1, cs1, rfl, hb, hc1, hcap, hbad, hgood⟩
  have HB1 := hid hb
  have HI1 := hid (HI.out.keep hb)
  have HJ1 := hid (HJ.out.keep hb)
  obtain ⟨hn1, hcok⟩ := hgood (by first | rfl | trivial)
  rw [HL.out] at hn1
  subst hn1
  have HC1 := hid hc1
  have HOK := hid (HRB.out _ hcok)
  clear hb hc1 hcap hbad hgood HBU hcok HRB
  go_wp2_with fail
  refine (HT.out w1 HI1.out).mono ?_
  rintro e w2 ⟨rfl, hb⟩
  have HB2 := hid (below_step HB1.out (Nat.le_refl _) hb)
  have HI2 := hid (HI1.out.keep hb)
  have HJ2 := hid (HJ1.out.keep hb)
  have HC2 := hid (HC1.out.keep hb)
  clear hb HT
  have HDD := hid (HD.out w2)
  clear HD
  go_wp2_with fail
  refine HDD.out.mono ?_
  rintro e w3 ⟨rfl, rfl⟩
  clear HDD
  go_wp2_with fail
  refine (HWE.out w2 HI2.out).mono ?_
  rintro e w3 ⟨rfl, rfl⟩
  go_wp2_with fail
  refine (HCH.out w2 HI2.out).mono ?_
  rintro e w3 ⟨rfl, rfl⟩
  clear HWE HCH
  go_wp2_with fail
  refine (HTB.out w2 A1 c1 cs1 HI2.out HC2.out).mono ?_
  rintro e w4 ⟨rfl, hb⟩
  rw [HOK.out]
  have HB4 := hid (below_step HB2.out (Nat.le_refl _) hb)
  clear hb HTB
  go_wp2
  go_ret
  exact ⟨rfl, HB4.out⟩

set_option maxHeartbeats 400000 in
set_option maxRecDepth 100000 in
theorem alSaysFormCut (A : Option Addr) (n c : Nat) (B : Option Addr) (m d : Nat) (at_ x : Int) (ws : List Int) (cs : List (Int × Int)) (w : World) (hI : Ints w A n ws) (hJ : Cols w B m cs) (hm : m ≤ 9223372036854775807) (he : alErr ws = 0) (hmn : m ≠ n) (h2 : m ≤ 12) (k : Nat) (hk : k < m) (hat : at_ = (k : Int)) (hd : x < cut cs k) :
    Calls Try.prog 3 #[.slice A n c, .slice B m d, .int .i64 at_, .int .i64 x] w fun e w' => e = .returned (.bool true) ∧ Below w.heap.size w w' := by
  have HM := hid hm
  have HI := hid hI
  have HJ := hid hJ
  have HBU := hid (aBuild_any A n c ws w hI)
  have HL := hid hI.len
  have HF := hid (fit_of he)
  have hn : n ≤ 12 := by have := HF.out.hi; have := HL.out; omega
  have hn0 : 1 ≤ n := by have := HF.out.lo; have := HL.out; omega
  have hW := HF.out.sum
  have hnn : ((n : Int) != (n : Int)) = false := by simp
  subst hat
  have HD := hid (fun W (h : Cols W B m cs) => aDraw_ok B m d k x cs W h h2 hk)
  have HP : Hid (pick2 x (cut cs k) k (oth cs k) = (k : Int)) := if_pos hd
  rw [HP.out] at HD
  have hkm : (k : Int) < (m : Int) := by omega
  have hk0 : ¬ (k : Int) < 0 := by omega
  have hm12 : ¬ 12 < (m : Int) := by omega
  have hm1 : ¬ (m : Int) < 1 := by omega
  have HE := hid he
  have HWE := hid (fun W (h : Ints W A n ws) => weightsErr_any A n c ws W h)
  unfold RetWE at HWE
  rw [alTot_ok he, he] at HWE
  have HCH := hid (fun W (h : Ints W A n ws) => aCheck_any A n c ws W h)
  rw [he] at HCH
  have HT := hid (fun W (h : Ints W A n ws) => aTest_form A n c B m d ws W h he hmn)
  have hz9 : (((m : Nat) : Int) != (n : Int)) = true := by rw [bne_iff_ne]; omega
  have HTB := hid (fun W (B1 : Option Addr) (c1 : Nat) (cs1 : List (Int × Int)) (h : Ints W A n ws) (h2 : Cols W B1 n cs1) => table_any A n c B1 c1 ws.sum ws cs1 W h h2 HF.out.w hn (by omega))
  have HRB : Hid (∀ cs1, ColsOk ws.length ws.sum cs1 ∧ IsTbl ws ws.sum cs1 → tblB ws ws.sum cs1 = true) := fun cs1 h => tblB_of h.1 h.2
  unfold RetBu at HBU
  rw [he] at HBU
  clear hI hJ hm he hmn
  go_enter Try.func3, Try.ntmps3
  go_wp2_with fail
  refine HBU.out.mono ?_
  rintro e w1 ⟨A1, n1, c1, cs1, rfl, hb, hc1, hcap, hbad, hgood⟩
  have HB1 := hid hb
  have HI1 := hid (HI.out.keep hb)
  have HJ1 := hid (HJ.out.keep hb)
  obtain ⟨hn1, hcok⟩ := hgood (by first | rfl | trivial)
  rw [HL.out] at hn1
  subst hn1
  have HC1 := hid hc1
  have HOK := hid (HRB.out _ hcok)
  clear hb hc1 hcap hbad hgood HBU hcok HRB
  go_wp2_with fail
  refine (HT.out w1 HI1.out).mono ?_
  rintro e w2 ⟨rfl, hb⟩
  have HB2 := hid (below_step HB1.out (Nat.le_refl _) hb)
  have HI2 := hid (HI1.out.keep hb)
  have HJ2 := hid (HJ1.out.keep hb)
  have HC2 := hid (HC1.out.keep hb)
  clear hb HT
  have HDD := hid (HD.out w2 HJ2.out)
  obtain ⟨b, o, rfl, hbl, hc⟩ := HJ2.out.row (by omega)
  obtain ⟨g1, g2⟩ := hc k hk
  clear hc HD
  generalize cut cs k = y at *
  generalize oth cs k = z at *
  go_wp2_with fail
  refine HDD.out.mono ?_
  rintro e w3 ⟨rfl, rfl⟩
  clear HDD
  go_wp2_with fail
  refine (HWE.out w2 HI2.out).mono ?_
  rintro e w3 ⟨rfl, rfl⟩
  go_wp2_with fail
  refine (HCH.out w2 HI2.out).mono ?_
  rintro e w3 ⟨rfl, rfl⟩
  clear HWE HCH
  go_wp2_with fail
  refine (HTB.out w2 A1 c1 cs1 HI2.out HC2.out).mono ?_
  rintro e w4 ⟨rfl, hb⟩
  rw [HOK.out]
  have HB4 := hid (below_step HB2.out (Nat.le_refl _) hb)
  clear hb HTB
  go_wp2
  go_ret
  exact ⟨rfl, HB4.out⟩

set_option maxHeartbeats 400000 in
set_option maxRecDepth 100000 in
theorem alSaysFormOth (A : Option Addr) (n c : Nat) (B : Option Addr) (m d : Nat) (at_ x : Int) (ws : List Int) (cs : List (Int × Int)) (w : World) (hI : Ints w A n ws) (hJ : Cols w B m cs) (hm : m ≤ 9223372036854775807) (he : alErr ws = 0) (hmn : m ≠ n) (h2 : m ≤ 12) (k : Nat) (hk : k < m) (hat : at_ = (k : Int)) (hd : ¬ x < cut cs k) :
    Calls Try.prog 3 #[.slice A n c, .slice B m d, .int .i64 at_, .int .i64 x] w fun e w' => e = .returned (.bool true) ∧ Below w.heap.size w w' := by
  have HM := hid hm
  have HI := hid hI
  have HJ := hid hJ
  have HBU := hid (aBuild_any A n c ws w hI)
  have HL := hid hI.len
  have HF := hid (fit_of he)
  have hn : n ≤ 12 := by have := HF.out.hi; have := HL.out; omega
  have hn0 : 1 ≤ n := by have := HF.out.lo; have := HL.out; omega
  have hW := HF.out.sum
  have hnn : ((n : Int) != (n : Int)) = false := by simp
  subst hat
  have HD := hid (fun W (h : Cols W B m cs) => aDraw_ok B m d k x cs W h h2 hk)
  have HP : Hid (pick2 x (cut cs k) k (oth cs k) = oth cs k) := if_neg hd
  rw [HP.out] at HD
  have hkm : (k : Int) < (m : Int) := by omega
  have hk0 : ¬ (k : Int) < 0 := by omega
  have hm12 : ¬ 12 < (m : Int) := by omega
  have hm1 : ¬ (m : Int) < 1 := by omega
  have HE := hid he
  have HWE := hid (fun W (h : Ints W A n ws) => weightsErr_any A n c ws W h)
  unfold RetWE at HWE
  rw [alTot_ok he, he] at HWE
  have HCH := hid (fun W (h : Ints W A n ws) => aCheck_any A n c ws W h)
  rw [he] at HCH
  have HT := hid (fun W (h : Ints W A n ws) => aTest_form A n c B m d ws W h he hmn)
  have hz9 : (((m : Nat) : Int) != (n : Int)) = true := by rw [bne_iff_ne]; omega
  have HTB := hid (fun W (B1 : Option Addr) (c1 : Nat) (cs1 : List (Int × Int)) (h : Ints W A n ws) (h2 : Cols W B1 n cs1) => table_any A n c B1 c1 ws.sum ws cs1 W h h2 HF.out.w hn (by omega))
  have HRB : Hid (∀ cs1, ColsOk ws.length ws.sum cs1 ∧ IsTbl ws ws.sum cs1 → tblB ws ws.sum cs1 = true) := fun cs1 h => tblB_of h.1 h.2
  unfold RetBu at HBU
  rw [he] at HBU
  clear hI hJ hm he hmn
  go_enter Try.func3, Try.ntmps3
  go_wp2_with fail
  refine HBU.out.mono ?_
  rintro e w1 ⟨A1, n1, c1, cs1, rfl, hb, hc1, hcap, hbad, hgood⟩
  have HB1 := hid hb
  have HI1 := hid (HI.out.keep hb)
  have HJ1 := hid (HJ.out.keep hb)
  obtain ⟨hn1, hcok⟩ := hgood (by first | rfl | trivial)
  rw [HL.out] at hn1
  subst hn1
  have HC1 := hid hc1
  have HOK := hid (HRB.out _ hcok)
  clear hb hc1 hcap hbad hgood HBU hcok HRB
  go_wp2_with fail
  refine (HT.out w1 HI1.out).mono ?_
  rintro e w2 ⟨rfl, hb⟩
  have HB2 := hid (below_step HB1.out (Nat.le_refl _) hb)
  have HI2 := hid (HI1.out.keep hb)
  have HJ2 := hid (HJ1.out.keep hb)
  have HC2 := hid (HC1.out.keep hb)
  clear hb HT
  have HDD := hid (HD.out w2 HJ2.out)
  obtain ⟨b, o, rfl, hbl, hc⟩ := HJ2.out.row (by omega)
  obtain ⟨g1, g2⟩ := hc k hk
  clear hc HD
  generalize cut cs k = y at *
  generalize oth cs k = z at *
  go_wp2_with fail
  refine HDD.out.mono ?_
  rintro e w3 ⟨rfl, rfl⟩
  clear HDD
  go_wp2_with fail
  refine (HWE.out w2 HI2.out).mono ?_
  rintro e w3 ⟨rfl, rfl⟩
  go_wp2_with fail
  refine (HCH.out w2 HI2.out).mono ?_
  rintro e w3 ⟨rfl, rfl⟩
  clear HWE HCH
  go_wp2_with fail
  refine (HTB.out w2 A1 c1 cs1 HI2.out HC2.out).mono ?_
  rintro e w4 ⟨rfl, hb⟩
  rw [HOK.out]
  have HB4 := hid (below_step HB2.out (Nat.le_refl _) hb)
  clear hb HTB
  go_wp2
  go_ret
  exact ⟨rfl, HB4.out⟩

set_option maxHeartbeats 400000 in
set_option maxRecDepth 100000 in
theorem alSaysColNoLow (A : Option Addr) (n c : Nat) (B : Option Addr) (m d : Nat) (at_ x : Int) (ws : List Int) (cs : List (Int × Int)) (w : World) (hI : Ints w A n ws) (hJ : Cols w B m cs) (hm : m ≤ 9223372036854775807) (he : alErr ws = 0) (hmn : m = n) (hcb : colB n ws.sum cs = false) (h1 : 1 ≤ m) (h2 : m ≤ 12) (hd : at_ < 0) :
    Calls Try.prog 3 #[.slice A n c, .slice B m d, .int .i64 at_, .int .i64 x] w fun e w' => e = .returned (.bool true) ∧ Below w.heap.size w w' := by
  have HM := hid hm
  have HI := hid hI
  have HJ := hid hJ
  have HBU := hid (aBuild_any A n c ws w hI)
  have HL := hid hI.len
  have HF := hid (fit_of he)
  have hn : n ≤ 12 := by have := HF.out.hi; have := HL.out; omega
  have hn0 : 1 ≤ n := by have := HF.out.lo; have := HL.out; omega
  have hW := HF.out.sum
  have hnn : ((n : Int) != (n : Int)) = false := by simp
  subst hmn
  have HD := hid (fun W => aDraw_arg B m d at_ x W h1 h2 (.inl hd))
  have hm12 : ¬ 12 < (m : Int) := by omega
  have hm1 : ¬ (m : Int) < 1 := by omega
  have HE := hid he
  have HWE := hid (fun W (h : Ints W A m ws) => weightsErr_any A m c ws W h)
  unfold RetWE at HWE
  rw [alTot_ok he, he] at HWE
  have HCH := hid (fun W (h : Ints W A m ws) => aCheck_any A m c ws W h)
  rw [he] at HCH
  have HT := hid (fun W (h : Ints W A m ws) (h2 : Cols W B m cs) => aTest_good A m c B d ws cs W h h2 he)
  rw [colE_no hcb] at HT
  rw [tblB_col (by rw [HL.out]; exact hcb)] at HT
  have HTB := hid (fun W (B1 : Option Addr) (c1 : Nat) (cs1 : List (Int × Int)) (h : Ints W A m ws) (h2 : Cols W B1 m cs1) => table_any A m c B1 c1 ws.sum ws cs1 W h h2 HF.out.w hn (by omega))
  have HCB := hid hcb
  have HTL := hid (fun W (h : Ints W A m ws) (h2 : Cols W B m cs) => table_any A m c B d ws.sum ws cs W h h2 HF.out.w hn (by omega))
  rw [hcb] at HTL
  rw [tblB_col (by rw [HL.out]; exact hcb)] at HTL
  have HRB : Hid (∀ cs1, ColsOk ws.length ws.sum cs1 ∧ IsTbl ws ws.sum cs1 → tblB ws ws.sum cs1 = true) := fun cs1 h => tblB_of h.1 h.2
  unfold RetBu at HBU
  rw [he] at HBU
  clear hI hJ hm he hcb
  clear HCB
  go_enter Try.func3, Try.ntmps3
  go_wp2_with fail
  refine HBU.out.mono ?_
  rintro e w1 ⟨A1, n1, c1, cs1, rfl, hb, hc1, hcap, hbad, hgood⟩
  have HB1 := hid hb
  have HI1 := hid (HI.out.keep hb)
  have HJ1 := hid (HJ.out.keep hb)
  obtain ⟨hn1, hcok⟩ := hgood (by first | rfl | trivial)
  rw [HL.out] at hn1
  subst hn1
  have HC1 := hid hc1
  have HOK := hid (HRB.out _ hcok)
  clear hb hc1 hcap hbad hgood HBU hcok HRB
  go_wp2_with fail
  refine (HT.out w1 HI1.out HJ1.out).mono ?_
  rintro e w2 ⟨rfl, hb⟩
  have HB2 := hid (below_step HB1.out (Nat.le_refl _) hb)
  have HI2 := hid (HI1.out.keep hb)
  have HJ2 := hid (HJ1.out.keep hb)
  have HC2 := hid (HC1.out.keep hb)
  clear hb HT
  have HDD := hid (HD.out w2)
  clear HD
  go_wp2_with fail
  refine HDD.out.mono ?_
  rintro e w3 ⟨rfl, rfl⟩
  clear HDD
  go_wp2_with fail
  refine (HWE.out w2 HI2.out).mono ?_
  rintro e w3 ⟨rfl, rfl⟩
  go_wp2_with fail
  refine (HCH.out w2 HI2.out).mono ?_
  rintro e w3 ⟨rfl, rfl⟩
  clear HWE HCH
  go_wp2_with fail
  refine (HTB.out w2 A1 c1 cs1 HI2.out HC2.out).mono ?_
  rintro e w4 ⟨rfl, hb⟩
  rw [HOK.out]
  have HB4 := hid (below_step HB2.out (Nat.le_refl _) hb)
  have HI4 := hid (HI2.out.keep hb)
  have HJ4 := hid (HJ2.out.keep hb)
  clear hb HTB
  go_wp2_with fail
  refine (HTL.out w4 HI4.out HJ4.out).mono ?_
  rintro e w5 ⟨rfl, hb⟩
  have HB5 := hid (below_step HB4.out (Nat.le_refl _) hb)
  clear hb HTL
  go_wp2
  go_ret
  exact ⟨rfl, HB5.out⟩

set_option maxHeartbeats 400000 in
set_option maxRecDepth 100000 in
theorem alSaysColNoHigh (A : Option Addr) (n c : Nat) (B : Option Addr) (m d : Nat) (at_ x : Int) (ws : List Int) (cs : List (Int × Int)) (w : World) (hI : Ints w A n ws) (hJ : Cols w B m cs) (hm : m ≤ 9223372036854775807) (he : alErr ws = 0) (hmn : m = n) (hcb : colB n ws.sum cs = false) (h1 : 1 ≤ m) (h2 : m ≤ 12) (hd : (m : Int) ≤ at_) :
    Calls Try.prog 3 #[.slice A n c, .slice B m d, .int .i64 at_, .int .i64 x] w fun e w' => e = .returned (.bool true) ∧ Below w.heap.size w w' := by
  have HM := hid hm
  have HI := hid hI
  have HJ := hid hJ
  have HBU := hid (aBuild_any A n c ws w hI)
  have HL := hid hI.len
  have HF := hid (fit_of he)
  have hn : n ≤ 12 := by have := HF.out.hi; have := HL.out; omega
  have hn0 : 1 ≤ n := by have := HF.out.lo; have := HL.out; omega
  have hW := HF.out.sum
  have hnn : ((n : Int) != (n : Int)) = false := by simp
  subst hmn
  have HD := hid (fun W => aDraw_arg B m d at_ x W h1 h2 (.inr hd))
  have hat0 : ¬ at_ < 0 := by omega
  have hm12 : ¬ 12 < (m : Int) := by omega
  have hm1 : ¬ (m : Int) < 1 := by omega
  have HE := hid he
  have HWE := hid (fun W (h : Ints W A m ws) => weightsErr_any A m c ws W h)
  unfold RetWE at HWE
  rw [alTot_ok he, he] at HWE
  have HCH := hid (fun W (h : Ints W A m ws) => aCheck_any A m c ws W h)
  rw [he] at HCH
  have HT := hid (fun W (h : Ints W A m ws) (h2 : Cols W B m cs) => aTest_good A m c B d ws cs W h h2 he)
  rw [colE_no hcb] at HT
  rw [tblB_col (by rw [HL.out]; exact hcb)] at HT
  have HTB := hid (fun W (B1 : Option Addr) (c1 : Nat) (cs1 : List (Int × Int)) (h : Ints W A m ws) (h2 : Cols W B1 m cs1) => table_any A m c B1 c1 ws.sum ws cs1 W h h2 HF.out.w hn (by omega))
  have HCB := hid hcb
  have HTL := hid (fun W (h : Ints W A m ws) (h2 : Cols W B m cs) => table_any A m c B d ws.sum ws cs W h h2 HF.out.w hn (by omega))
  rw [hcb] at HTL
  rw [tblB_col (by rw [HL.out]; exact hcb)] at HTL
  have HRB : Hid (∀ cs1, ColsOk ws.length ws.sum cs1 ∧ IsTbl ws ws.sum cs1 → tblB ws ws.sum cs1 = true) := fun cs1 h => tblB_of h.1 h.2
  unfold RetBu at HBU
  rw [he] at HBU
  clear hI hJ hm he hcb
  clear HCB
  go_enter Try.func3, Try.ntmps3
  go_wp2_with fail
  refine HBU.out.mono ?_
  rintro e w1 ⟨A1, n1, c1, cs1, rfl, hb, hc1, hcap, hbad, hgood⟩
  have HB1 := hid hb
  have HI1 := hid (HI.out.keep hb)
  have HJ1 := hid (HJ.out.keep hb)
  obtain ⟨hn1, hcok⟩ := hgood (by first | rfl | trivial)
  rw [HL.out] at hn1
  subst hn1
  have HC1 := hid hc1
  have HOK := hid (HRB.out _ hcok)
  clear hb hc1 hcap hbad hgood HBU hcok HRB
  go_wp2_with fail
  refine (HT.out w1 HI1.out HJ1.out).mono ?_
  rintro e w2 ⟨rfl, hb⟩
  have HB2 := hid (below_step HB1.out (Nat.le_refl _) hb)
  have HI2 := hid (HI1.out.keep hb)
  have HJ2 := hid (HJ1.out.keep hb)
  have HC2 := hid (HC1.out.keep hb)
  clear hb HT
  have HDD := hid (HD.out w2)
  clear HD
  go_wp2_with fail
  refine HDD.out.mono ?_
  rintro e w3 ⟨rfl, rfl⟩
  clear HDD
  go_wp2_with fail
  refine (HWE.out w2 HI2.out).mono ?_
  rintro e w3 ⟨rfl, rfl⟩
  go_wp2_with fail
  refine (HCH.out w2 HI2.out).mono ?_
  rintro e w3 ⟨rfl, rfl⟩
  clear HWE HCH
  go_wp2_with fail
  refine (HTB.out w2 A1 c1 cs1 HI2.out HC2.out).mono ?_
  rintro e w4 ⟨rfl, hb⟩
  rw [HOK.out]
  have HB4 := hid (below_step HB2.out (Nat.le_refl _) hb)
  have HI4 := hid (HI2.out.keep hb)
  have HJ4 := hid (HJ2.out.keep hb)
  clear hb HTB
  go_wp2_with fail
  refine (HTL.out w4 HI4.out HJ4.out).mono ?_
  rintro e w5 ⟨rfl, hb⟩
  have HB5 := hid (below_step HB4.out (Nat.le_refl _) hb)
  clear hb HTL
  go_wp2
  go_ret
  exact ⟨rfl, HB5.out⟩

set_option maxHeartbeats 400000 in
set_option maxRecDepth 100000 in
theorem alSaysColNoCut (A : Option Addr) (n c : Nat) (B : Option Addr) (m d : Nat) (at_ x : Int) (ws : List Int) (cs : List (Int × Int)) (w : World) (hI : Ints w A n ws) (hJ : Cols w B m cs) (hm : m ≤ 9223372036854775807) (he : alErr ws = 0) (hmn : m = n) (hcb : colB n ws.sum cs = false) (h2 : m ≤ 12) (k : Nat) (hk : k < m) (hat : at_ = (k : Int)) (hd : x < cut cs k) :
    Calls Try.prog 3 #[.slice A n c, .slice B m d, .int .i64 at_, .int .i64 x] w fun e w' => e = .returned (.bool true) ∧ Below w.heap.size w w' := by
  have HM := hid hm
  have HI := hid hI
  have HJ := hid hJ
  have HBU := hid (aBuild_any A n c ws w hI)
  have HL := hid hI.len
  have HF := hid (fit_of he)
  have hn : n ≤ 12 := by have := HF.out.hi; have := HL.out; omega
  have hn0 : 1 ≤ n := by have := HF.out.lo; have := HL.out; omega
  have hW := HF.out.sum
  have hnn : ((n : Int) != (n : Int)) = false := by simp
  subst hmn
  subst hat
  have HD := hid (fun W (h : Cols W B m cs) => aDraw_ok B m d k x cs W h h2 hk)
  have HP : Hid (pick2 x (cut cs k) k (oth cs k) = (k : Int)) := if_pos hd
  rw [HP.out] at HD
  have hkm : (k : Int) < (m : Int) := by omega
  have hk0 : ¬ (k : Int) < 0 := by omega
  have hm12 : ¬ 12 < (m : Int) := by omega
  have hm1 : ¬ (m : Int) < 1 := by omega
  have HE := hid he
  have HWE := hid (fun W (h : Ints W A m ws) => weightsErr_any A m c ws W h)
  unfold RetWE at HWE
  rw [alTot_ok he, he] at HWE
  have HCH := hid (fun W (h : Ints W A m ws) => aCheck_any A m c ws W h)
  rw [he] at HCH
  have HT := hid (fun W (h : Ints W A m ws) (h2 : Cols W B m cs) => aTest_good A m c B d ws cs W h h2 he)
  rw [colE_no hcb] at HT
  rw [tblB_col (by rw [HL.out]; exact hcb)] at HT
  have HTB := hid (fun W (B1 : Option Addr) (c1 : Nat) (cs1 : List (Int × Int)) (h : Ints W A m ws) (h2 : Cols W B1 m cs1) => table_any A m c B1 c1 ws.sum ws cs1 W h h2 HF.out.w hn (by omega))
  have HCB := hid hcb
  have HTL := hid (fun W (h : Ints W A m ws) (h2 : Cols W B m cs) => table_any A m c B d ws.sum ws cs W h h2 HF.out.w hn (by omega))
  rw [hcb] at HTL
  rw [tblB_col (by rw [HL.out]; exact hcb)] at HTL
  have HRB : Hid (∀ cs1, ColsOk ws.length ws.sum cs1 ∧ IsTbl ws ws.sum cs1 → tblB ws ws.sum cs1 = true) := fun cs1 h => tblB_of h.1 h.2
  unfold RetBu at HBU
  rw [he] at HBU
  clear hI hJ hm he hcb
  clear HCB
  go_enter Try.func3, Try.ntmps3
  go_wp2_with fail
  refine HBU.out.mono ?_
  rintro e w1 ⟨A1, n1, c1, cs1, rfl, hb, hc1, hcap, hbad, hgood⟩
  have HB1 := hid hb
  have HI1 := hid (HI.out.keep hb)
  have HJ1 := hid (HJ.out.keep hb)
  obtain ⟨hn1, hcok⟩ := hgood (by first | rfl | trivial)
  rw [HL.out] at hn1
  subst hn1
  have HC1 := hid hc1
  have HOK := hid (HRB.out _ hcok)
  clear hb hc1 hcap hbad hgood HBU hcok HRB
  go_wp2_with fail
  refine (HT.out w1 HI1.out HJ1.out).mono ?_
  rintro e w2 ⟨rfl, hb⟩
  have HB2 := hid (below_step HB1.out (Nat.le_refl _) hb)
  have HI2 := hid (HI1.out.keep hb)
  have HJ2 := hid (HJ1.out.keep hb)
  have HC2 := hid (HC1.out.keep hb)
  clear hb HT
  have HDD := hid (HD.out w2 HJ2.out)
  obtain ⟨b, o, rfl, hbl, hc⟩ := HJ2.out.row (by omega)
  obtain ⟨g1, g2⟩ := hc k hk
  clear hc HD
  generalize cut cs k = y at *
  generalize oth cs k = z at *
  go_wp2_with fail
  refine HDD.out.mono ?_
  rintro e w3 ⟨rfl, rfl⟩
  clear HDD
  go_wp2_with fail
  refine (HWE.out w2 HI2.out).mono ?_
  rintro e w3 ⟨rfl, rfl⟩
  go_wp2_with fail
  refine (HCH.out w2 HI2.out).mono ?_
  rintro e w3 ⟨rfl, rfl⟩
  clear HWE HCH
  go_wp2_with fail
  refine (HTB.out w2 A1 c1 cs1 HI2.out HC2.out).mono ?_
  rintro e w4 ⟨rfl, hb⟩
  rw [HOK.out]
  have HB4 := hid (below_step HB2.out (Nat.le_refl _) hb)
  have HI4 := hid (HI2.out.keep hb)
  have HJ4 := hid (HJ2.out.keep hb)
  clear hb HTB
  go_wp2_with fail
  refine (HTL.out w4 HI4.out HJ4.out).mono ?_
  rintro e w5 ⟨rfl, hb⟩
  have HB5 := hid (below_step HB4.out (Nat.le_refl _) hb)
  clear hb HTL
  go_wp2
  go_ret
  exact ⟨rfl, HB5.out⟩

set_option maxHeartbeats 400000 in
set_option maxRecDepth 100000 in
theorem alSaysColNoOth (A : Option Addr) (n c : Nat) (B : Option Addr) (m d : Nat) (at_ x : Int) (ws : List Int) (cs : List (Int × Int)) (w : World) (hI : Ints w A n ws) (hJ : Cols w B m cs) (hm : m ≤ 9223372036854775807) (he : alErr ws = 0) (hmn : m = n) (hcb : colB n ws.sum cs = false) (h2 : m ≤ 12) (k : Nat) (hk : k < m) (hat : at_ = (k : Int)) (hd : ¬ x < cut cs k) :
    Calls Try.prog 3 #[.slice A n c, .slice B m d, .int .i64 at_, .int .i64 x] w fun e w' => e = .returned (.bool true) ∧ Below w.heap.size w w' := by
  have HM := hid hm
  have HI := hid hI
  have HJ := hid hJ
  have HBU := hid (aBuild_any A n c ws w hI)
  have HL := hid hI.len
  have HF := hid (fit_of he)
  have hn : n ≤ 12 := by have := HF.out.hi; have := HL.out; omega
  have hn0 : 1 ≤ n := by have := HF.out.lo; have := HL.out; omega
  have hW := HF.out.sum
  have hnn : ((n : Int) != (n : Int)) = false := by simp
  subst hmn
  subst hat
  have HD := hid (fun W (h : Cols W B m cs) => aDraw_ok B m d k x cs W h h2 hk)
  have HP : Hid (pick2 x (cut cs k) k (oth cs k) = oth cs k) := if_neg hd
  rw [HP.out] at HD
  have hkm : (k : Int) < (m : Int) := by omega
  have hk0 : ¬ (k : Int) < 0 := by omega
  have hm12 : ¬ 12 < (m : Int) := by omega
  have hm1 : ¬ (m : Int) < 1 := by omega
  have HE := hid he
  have HWE := hid (fun W (h : Ints W A m ws) => weightsErr_any A m c ws W h)
  unfold RetWE at HWE
  rw [alTot_ok he, he] at HWE
  have HCH := hid (fun W (h : Ints W A m ws) => aCheck_any A m c ws W h)
  rw [he] at HCH
  have HT := hid (fun W (h : Ints W A m ws) (h2 : Cols W B m cs) => aTest_good A m c B d ws cs W h h2 he)
  rw [colE_no hcb] at HT
  rw [tblB_col (by rw [HL.out]; exact hcb)] at HT
  have HTB := hid (fun W (B1 : Option Addr) (c1 : Nat) (cs1 : List (Int × Int)) (h : Ints W A m ws) (h2 : Cols W B1 m cs1) => table_any A m c B1 c1 ws.sum ws cs1 W h h2 HF.out.w hn (by omega))
  have HCB := hid hcb
  have HTL := hid (fun W (h : Ints W A m ws) (h2 : Cols W B m cs) => table_any A m c B d ws.sum ws cs W h h2 HF.out.w hn (by omega))
  rw [hcb] at HTL
  rw [tblB_col (by rw [HL.out]; exact hcb)] at HTL
  have HRB : Hid (∀ cs1, ColsOk ws.length ws.sum cs1 ∧ IsTbl ws ws.sum cs1 → tblB ws ws.sum cs1 = true) := fun cs1 h => tblB_of h.1 h.2
  unfold RetBu at HBU
  rw [he] at HBU
  clear hI hJ hm he hcb
  clear HCB
  go_enter Try.func3, Try.ntmps3
  go_wp2_with fail
  refine HBU.out.mono ?_
  rintro e w1 ⟨A1, n1, c1, cs1, rfl, hb, hc1, hcap, hbad, hgood⟩
  have HB1 := hid hb
  have HI1 := hid (HI.out.keep hb)
  have HJ1 := hid (HJ.out.keep hb)
  obtain ⟨hn1, hcok⟩ := hgood (by first | rfl | trivial)
  rw [HL.out] at hn1
  subst hn1
  have HC1 := hid hc1
  have HOK := hid (HRB.out _ hcok)
  clear hb hc1 hcap hbad hgood HBU hcok HRB
  go_wp2_with fail
  refine (HT.out w1 HI1.out HJ1.out).mono ?_
  rintro e w2 ⟨rfl, hb⟩
  have HB2 := hid (below_step HB1.out (Nat.le_refl _) hb)
  have HI2 := hid (HI1.out.keep hb)
  have HJ2 := hid (HJ1.out.keep hb)
  have HC2 := hid (HC1.out.keep hb)
  clear hb HT
  have HDD := hid (HD.out w2 HJ2.out)
  obtain ⟨b, o, rfl, hbl, hc⟩ := HJ2.out.row (by omega)
  obtain ⟨g1, g2⟩ := hc k hk
  clear hc HD
  generalize cut cs k = y at *
  generalize oth cs k = z at *
  go_wp2_with fail
  refine HDD.out.mono ?_
  rintro e w3 ⟨rfl, rfl⟩
  clear HDD
  go_wp2_with fail
  refine (HWE.out w2 HI2.out).mono ?_
  rintro e w3 ⟨rfl, rfl⟩
  go_wp2_with fail
  refine (HCH.out w2 HI2.out).mono ?_
  rintro e w3 ⟨rfl, rfl⟩
  clear HWE HCH
  go_wp2_with fail
  refine (HTB.out w2 A1 c1 cs1 HI2.out HC2.out).mono ?_
  rintro e w4 ⟨rfl, hb⟩
  rw [HOK.out]
  have HB4 := hid (below_step HB2.out (Nat.le_refl _) hb)
  have HI4 := hid (HI2.out.keep hb)
  have HJ4 := hid (HJ2.out.keep hb)
  clear hb HTB
  go_wp2_with fail
  refine (HTL.out w4 HI4.out HJ4.out).mono ?_
  rintro e w5 ⟨rfl, hb⟩
  have HB5 := hid (below_step HB4.out (Nat.le_refl _) hb)
  clear hb HTL
  go_wp2
  go_ret
  exact ⟨rfl, HB5.out⟩

set_option maxHeartbeats 400000 in
set_option maxRecDepth 100000 in
theorem alSaysColYesLow (A : Option Addr) (n c : Nat) (B : Option Addr) (m d : Nat) (at_ x : Int) (ws : List Int) (cs : List (Int × Int)) (w : World) (hI : Ints w A n ws) (hJ : Cols w B m cs) (hm : m ≤ 9223372036854775807) (he : alErr ws = 0) (hmn : m = n) (hcb : colB n ws.sum cs = true) (h1 : 1 ≤ m) (h2 : m ≤ 12) (hd : at_ < 0) :
    Calls Try.prog 3 #[.slice A n c, .slice B m d, .int .i64 at_, .int .i64 x] w fun e w' => e = .returned (.bool true) ∧ Below w.heap.size w w' := by
  have HM := hid hm
  have HI := hid hI
  have HJ := hid hJ
  have HBU := hid (aBuild_any A n c ws w hI)
  have HL := hid hI.len
  have HF := hid (fit_of he)
  have hn : n ≤ 12 := by have := HF.out.hi; have := HL.out; omega
  have hn0 : 1 ≤ n := by have := HF.out.lo; have := HL.out; omega
  have hW := HF.out.sum
  have hnn : ((n : Int) != (n : Int)) = false := by simp
  subst hmn
  have HD := hid (fun W => aDraw_arg B m d at_ x W h1 h2 (.inl hd))
  have hm12 : ¬ 12 < (m : Int) := by omega
  have hm1 : ¬ (m : Int) < 1 := by omega
  have HE := hid he
  have HWE := hid (fun W (h : Ints W A m ws) => weightsErr_any A m c ws W h)
  unfold RetWE at HWE
  rw [alTot_ok he, he] at HWE
  have HCH := hid (fun W (h : Ints W A m ws) => aCheck_any A m c ws W h)
  rw [he] at HCH
  have HT := hid (fun W (h : Ints W A m ws) (h2 : Cols W B m cs) => aTest_good A m c B d ws cs W h h2 he)
  rw [colE_yes hcb] at HT
  have HTB := hid (fun W (B1 : Option Addr) (c1 : Nat) (cs1 : List (Int × Int)) (h : Ints W A m ws) (h2 : Cols W B1 m cs1) => table_any A m c B1 c1 ws.sum ws cs1 W h h2 HF.out.w hn (by omega))
  have HCB := hid hcb
  have HTL := hid (fun W (h : Ints W A m ws) (h2 : Cols W B m cs) => table_any A m c B d ws.sum ws cs W h h2 HF.out.w hn (by omega))
  rw [hcb] at HTL
  generalize tblB ws ws.sum cs = tb at HT HTL
  have HRB : Hid (∀ cs1, ColsOk ws.length ws.sum cs1 ∧ IsTbl ws ws.sum cs1 → tblB ws ws.sum cs1 = true) := fun cs1 h => tblB_of h.1 h.2
  unfold RetBu at HBU
  rw [he] at HBU
  clear hI hJ hm he hcb
  clear HCB
  go_enter Try.func3, Try.ntmps3
  go_wp2_with fail
  refine HBU.out.mono ?_
  rintro e w1 ⟨A1, n1, c1, cs1, rfl, hb, hc1, hcap, hbad, hgood⟩
  have HB1 := hid hb
  have HI1 := hid (HI.out.keep hb)
  have HJ1 := hid (HJ.out.keep hb)
  obtain ⟨hn1, hcok⟩ := hgood (by first | rfl | trivial)
  rw [HL.out] at hn1
  subst hn1
  have HC1 := hid hc1
  have HOK := hid (HRB.out _ hcok)
  clear hb hc1 hcap hbad hgood HBU hcok HRB
  go_wp2_with fail
  refine (HT.out w1 HI1.out HJ1.out).mono ?_
  rintro e w2 ⟨rfl, hb⟩
  have HB2 := hid (below_step HB1.out (Nat.le_refl _) hb)
  have HI2 := hid (HI1.out.keep hb)
  have HJ2 := hid (HJ1.out.keep hb)
  have HC2 := hid (HC1.out.keep hb)
  clear hb HT
  have HDD := hid (HD.out w2)
  clear HD
  go_wp2_with fail
  refine HDD.out.mono ?_
  rintro e w3 ⟨rfl, rfl⟩
  clear HDD
  go_wp2_with fail
  refine (HWE.out w2 HI2.out).mono ?_
  rintro e w3 ⟨rfl, rfl⟩
  go_wp2_with fail
  refine (HCH.out w2 HI2.out).mono ?_
  rintro e w3 ⟨rfl, rfl⟩
  clear HWE HCH
  go_wp2_with fail
  refine (HTB.out w2 A1 c1 cs1 HI2.out HC2.out).mono ?_
  rintro e w4 ⟨rfl, hb⟩
  rw [HOK.out]
  have HB4 := hid (below_step HB2.out (Nat.le_refl _) hb)
  have HI4 := hid (HI2.out.keep hb)
  have HJ4 := hid (HJ2.out.keep hb)
  clear hb HTB
  go_wp2_with fail
  refine (HTL.out w4 HI4.out HJ4.out).mono ?_
  rintro e w5 ⟨rfl, hb⟩
  have HB5 := hid (below_step HB4.out (Nat.le_refl _) hb)
  clear hb HTL
  cases tb
  · go_wp2
    go_ret
    exact ⟨rfl, HB5.out⟩
  · go_wp2
    go_ret
    exact ⟨rfl, HB5.out⟩

set_option maxHeartbeats 400000 in
set_option maxRecDepth 100000 in
theorem alSaysColYesHigh (A : Option Addr) (n c : Nat) (B : Option Addr) (m d : Nat) (at_ x : Int) (ws : List Int) (cs : List (Int × Int)) (w : World) (hI : Ints w A n ws) (hJ : Cols w B m cs) (hm : m ≤ 9223372036854775807) (he : alErr ws = 0) (hmn : m = n) (hcb : colB n ws.sum cs = true) (h1 : 1 ≤ m) (h2 : m ≤ 12) (hd : (m : Int) ≤ at_) :
    Calls Try.prog 3 #[.slice A n c, .slice B m d, .int .i64 at_, .int .i64 x] w fun e w' => e = .returned (.bool true) ∧ Below w.heap.size w w' := by
  have HM := hid hm
  have HI := hid hI
  have HJ := hid hJ
  have HBU := hid (aBuild_any A n c ws w hI)
  have HL := hid hI.len
  have HF := hid (fit_of he)
  have hn : n ≤ 12 := by have := HF.out.hi; have := HL.out; omega
  have hn0 : 1 ≤ n := by have := HF.out.lo; have := HL.out; omega
  have hW := HF.out.sum
  have hnn : ((n : Int) != (n : Int)) = false := by simp
  subst hmn
  have HD := hid (fun W => aDraw_arg B m d at_ x W h1 h2 (.inr hd))
  have hat0 : ¬ at_ < 0 := by omega
  have hm12 : ¬ 12 < (m : Int) := by omega
  have hm1 : ¬ (m : Int) < 1 := by omega
  have HE := hid he
  have HWE := hid (fun W (h : Ints W A m ws) => weightsErr_any A m c ws W h)
  unfold RetWE at HWE
  rw [alTot_ok he, he] at HWE
  have HCH := hid (fun W (h : Ints W A m ws) => aCheck_any A m c ws W h)
  rw [he] at HCH
  have HT := hid (fun W (h : Ints W A m ws) (h2 : Cols W B m cs) => aTest_good A m c B d ws cs W h h2 he)
  rw [colE_yes hcb] at HT
  have HTB := hid (fun W (B1 : Option Addr) (c1 : Nat) (cs1 : List (Int × Int)) (h : Ints W A m ws) (h2 : Cols W B1 m cs1) => table_any A m c B1 c1 ws.sum ws cs1 W h h2 HF.out.w hn (by omega))
  have HCB := hid hcb
  have HTL := hid (fun W (h : Ints W A m ws) (h2 : Cols W B m cs) => table_any A m c B d ws.sum ws cs W h h2 HF.out.w hn (by omega))
  rw [hcb] at HTL
  generalize tblB ws ws.sum cs = tb at HT HTL
  have HRB : Hid (∀ cs1, ColsOk ws.length ws.sum cs1 ∧ IsTbl ws ws.sum cs1 → tblB ws ws.sum cs1 = true) := fun cs1 h => tblB_of h.1 h.2
  unfold RetBu at HBU
  rw [he] at HBU
  clear hI hJ hm he hcb
  clear HCB
  go_enter Try.func3, Try.ntmps3
  go_wp2_with fail
  refine HBU.out.mono ?_
  rintro e w1 ⟨A1, n1, c1, cs1, rfl, hb, hc1, hcap, hbad, hgood⟩
  have HB1 := hid hb
  have HI1 := hid (HI.out.keep hb)
  have HJ1 := hid (HJ.out.keep hb)
  obtain ⟨hn1, hcok⟩ := hgood (by first | rfl | trivial)
  rw [HL.out] at hn1
  subst hn1
  have HC1 := hid hc1
  have HOK := hid (HRB.out _ hcok)
  clear hb hc1 hcap hbad hgood HBU hcok HRB
  go_wp2_with fail
  refine (HT.out w1 HI1.out HJ1.out).mono ?_
  rintro e w2 ⟨rfl, hb⟩
  have HB2 := hid (below_step HB1.out (Nat.le_refl _) hb)
  have HI2 := hid (HI1.out.keep hb)
  have HJ2 := hid (HJ1.out.keep hb)
  have HC2 := hid (HC1.out.keep hb)
  clear hb HT
  have HDD := hid (HD.out w2)
  clear HD
  go_wp2_with fail
  refine HDD.out.mono ?_
  rintro e w3 ⟨rfl, rfl⟩
  clear HDD
  go_wp2_with fail
  refine (HWE.out w2 HI2.out).mono ?_
  rintro e w3 ⟨rfl, rfl⟩
  go_wp2_with fail
  refine (HCH.out w2 HI2.out).mono ?_
  rintro e w3 ⟨rfl, rfl⟩
  clear HWE HCH
  go_wp2_with fail
  refine (HTB.out w2 A1 c1 cs1 HI2.out HC2.out).mono ?_
  rintro e w4 ⟨rfl, hb⟩
  rw [HOK.out]
  have HB4 := hid (below_step HB2.out (Nat.le_refl _) hb)
  have HI4 := hid (HI2.out.keep hb)
  have HJ4 := hid (HJ2.out.keep hb)
  clear hb HTB
  go_wp2_with fail
  refine (HTL.out w4 HI4.out HJ4.out).mono ?_
  rintro e w5 ⟨rfl, hb⟩
  have HB5 := hid (below_step HB4.out (Nat.le_refl _) hb)
  clear hb HTL
  cases tb
  · go_wp2
    go_ret
    exact ⟨rfl, HB5.out⟩
  · go_wp2
    go_ret
    exact ⟨rfl, HB5.out⟩

set_option maxHeartbeats 400000 in
set_option maxRecDepth 100000 in
theorem alSaysColYesCut (A : Option Addr) (n c : Nat) (B : Option Addr) (m d : Nat) (at_ x : Int) (ws : List Int) (cs : List (Int × Int)) (w : World) (hI : Ints w A n ws) (hJ : Cols w B m cs) (hm : m ≤ 9223372036854775807) (he : alErr ws = 0) (hmn : m = n) (hcb : colB n ws.sum cs = true) (h2 : m ≤ 12) (k : Nat) (hk : k < m) (hat : at_ = (k : Int)) (hd : x < cut cs k) :
    Calls Try.prog 3 #[.slice A n c, .slice B m d, .int .i64 at_, .int .i64 x] w fun e w' => e = .returned (.bool true) ∧ Below w.heap.size w w' := by
  have HM := hid hm
  have HI := hid hI
  have HJ := hid hJ
  have HBU := hid (aBuild_any A n c ws w hI)
  have HL := hid hI.len
  have HF := hid (fit_of he)
  have hn : n ≤ 12 := by have := HF.out.hi; have := HL.out; omega
  have hn0 : 1 ≤ n := by have := HF.out.lo; have := HL.out; omega
  have hW := HF.out.sum
  have hnn : ((n : Int) != (n : Int)) = false := by simp
  subst hmn
  subst hat
  have HD := hid (fun W (h : Cols W B m cs) => aDraw_ok B m d k x cs W h h2 hk)
  have HP : Hid (pick2 x (cut cs k) k (oth cs k) = (k : Int)) := if_pos hd
  rw [HP.out] at HD
  have hkm : (k : Int) < (m : Int) := by omega
  have hk0 : ¬ (k : Int) < 0 := by omega
  have hm12 : ¬ 12 < (m : Int) := by omega
  have hm1 : ¬ (m : Int) < 1 := by omega
  have HE := hid he
  have HWE := hid (fun W (h : Ints W A m ws) => weightsErr_any A m c ws W h)
  unfold RetWE at HWE
  rw [alTot_ok he, he] at HWE
  have HCH := hid (fun W (h : Ints W A m ws) => aCheck_any A m c ws W h)
  rw [he] at HCH
  have HT := hid (fun W (h : Ints W A m ws) (h2 : Cols W B m cs) => aTest_good A m c B d ws cs W h h2 he)
  rw [colE_yes hcb] at HT
  have HTB := hid (fun W (B1 : Option Addr) (c1 : Nat) (cs1 : List (Int × Int)) (h : Ints W A m ws) (h2 : Cols W B1 m cs1) => table_any A m c B1 c1 ws.sum ws cs1 W h h2 HF.out.w hn (by omega))
  have HCB := hid hcb
  have HTL := hid (fun W (h : Ints W A m ws) (h2 : Cols W B m cs) => table_any A m c B d ws.sum ws cs W h h2 HF.out.w hn (by omega))
  rw [hcb] at HTL
  generalize tblB ws ws.sum cs = tb at HT HTL
  have HRB : Hid (∀ cs1, ColsOk ws.length ws.sum cs1 ∧ IsTbl ws ws.sum cs1 → tblB ws ws.sum cs1 = true) := fun cs1 h => tblB_of h.1 h.2
  unfold RetBu at HBU
  rw [he] at HBU
  clear hI hJ hm he hcb
  clear HCB
  go_enter Try.func3, Try.ntmps3
  go_wp2_with fail
  refine HBU.out.mono ?_
  rintro e w1 ⟨A1, n1, c1, cs1, rfl, hb, hc1, hcap, hbad, hgood⟩
  have HB1 := hid hb
  have HI1 := hid (HI.out.keep hb)
  have HJ1 := hid (HJ.out.keep hb)
  obtain ⟨hn1, hcok⟩ := hgood (by first | rfl | trivial)
  rw [HL.out] at hn1
  subst hn1
  have HC1 := hid hc1
  have HOK := hid (HRB.out _ hcok)
  clear hb hc1 hcap hbad hgood HBU hcok HRB
  go_wp2_with fail
  refine (HT.out w1 HI1.out HJ1.out).mono ?_
  rintro e w2 ⟨rfl, hb⟩
  have HB2 := hid (below_step HB1.out (Nat.le_refl _) hb)
  have HI2 := hid (HI1.out.keep hb)
  have HJ2 := hid (HJ1.out.keep hb)
  have HC2 := hid (HC1.out.keep hb)
  clear hb HT
  have HDD := hid (HD.out w2 HJ2.out)
  obtain ⟨b, o, rfl, hbl, hc⟩ := HJ2.out.row (by omega)
  obtain ⟨g1, g2⟩ := hc k hk
  clear hc HD
  generalize cut cs k = y at *
  generalize oth cs k = z at *
  go_wp2_with fail
  refine HDD.out.mono ?_
  rintro e w3 ⟨rfl, rfl⟩
  clear HDD
  go_wp2_with fail
  refine (HWE.out w2 HI2.out).mono ?_
  rintro e w3 ⟨rfl, rfl⟩
  go_wp2_with fail
  refine (HCH.out w2 HI2.out).mono ?_
  rintro e w3 ⟨rfl, rfl⟩
  clear HWE HCH
  go_wp2_with fail
  refine (HTB.out w2 A1 c1 cs1 HI2.out HC2.out).mono ?_
  rintro e w4 ⟨rfl, hb⟩
  rw [HOK.out]
  have HB4 := hid (below_step HB2.out (Nat.le_refl _) hb)
  have HI4 := hid (HI2.out.keep hb)
  have HJ4 := hid (HJ2.out.keep hb)
  clear hb HTB
  go_wp2_with fail
  refine (HTL.out w4 HI4.out HJ4.out).mono ?_
  rintro e w5 ⟨rfl, hb⟩
  have HB5 := hid (below_step HB4.out (Nat.le_refl _) hb)
  clear hb HTL
  cases tb
  · go_wp2
    go_ret
    exact ⟨rfl, HB5.out⟩
  · go_wp2
    go_ret
    exact ⟨rfl, HB5.out⟩

set_option maxHeartbeats 400000 in
set_option maxRecDepth 100000 in
theorem alSaysColYesOth (A : Option Addr) (n c : Nat) (B : Option Addr) (m d : Nat) (at_ x : Int) (ws : List Int) (cs : List (Int × Int)) (w : World) (hI : Ints w A n ws) (hJ : Cols w B m cs) (hm : m ≤ 9223372036854775807) (he : alErr ws = 0) (hmn : m = n) (hcb : colB n ws.sum cs = true) (h2 : m ≤ 12) (k : Nat) (hk : k < m) (hat : at_ = (k : Int)) (hd : ¬ x < cut cs k) :
    Calls Try.prog 3 #[.slice A n c, .slice B m d, .int .i64 at_, .int .i64 x] w fun e w' => e = .returned (.bool true) ∧ Below w.heap.size w w' := by
  have HM := hid hm
  have HI := hid hI
  have HJ := hid hJ
  have HBU := hid (aBuild_any A n c ws w hI)
  have HL := hid hI.len
  have HF := hid (fit_of he)
  have hn : n ≤ 12 := by have := HF.out.hi; have := HL.out; omega
  have hn0 : 1 ≤ n := by have := HF.out.lo; have := HL.out; omega
  have hW := HF.out.sum
  have hnn : ((n : Int) != (n : Int)) = false := by simp
  subst hmn
  subst hat
  have HD := hid (fun W (h : Cols W B m cs) => aDraw_ok B m d k x cs W h h2 hk)
  have HP : Hid (pick2 x (cut cs k) k (oth cs k) = oth cs k) := if_neg hd
  rw [HP.out] at HD
  have hkm : (k : Int) < (m : Int) := by omega
  have hk0 : ¬ (k : Int) < 0 := by omega
  have hm12 : ¬ 12 < (m : Int) := by omega
  have hm1 : ¬ (m : Int) < 1 := by omega
  have HE := hid he
  have HWE := hid (fun W (h : Ints W A m ws) => weightsErr_any A m c ws W h)
  unfold RetWE at HWE
  rw [alTot_ok he, he] at HWE
  have HCH := hid (fun W (h : Ints W A m ws) => aCheck_any A m c ws W h)
  rw [he] at HCH
  have HT := hid (fun W (h : Ints W A m ws) (h2 : Cols W B m cs) => aTest_good A m c B d ws cs W h h2 he)
  rw [colE_yes hcb] at HT
  have HTB := hid (fun W (B1 : Option Addr) (c1 : Nat) (cs1 : List (Int × Int)) (h : Ints W A m ws) (h2 : Cols W B1 m cs1) => table_any A m c B1 c1 ws.sum ws cs1 W h h2 HF.out.w hn (by omega))
  have HCB := hid hcb
  have HTL := hid (fun W (h : Ints W A m ws) (h2 : Cols W B m cs) => table_any A m c B d ws.sum ws cs W h h2 HF.out.w hn (by omega))
  rw [hcb] at HTL
  generalize tblB ws ws.sum cs = tb at HT HTL
  have HRB : Hid (∀ cs1, ColsOk ws.length ws.sum cs1 ∧ IsTbl ws ws.sum cs1 → tblB ws ws.sum cs1 = true) := fun cs1 h => tblB_of h.1 h.2
  unfold RetBu at HBU
  rw [he] at HBU
  clear hI hJ hm he hcb
  clear HCB
  go_enter Try.func3, Try.ntmps3
  go_wp2_with fail
  refine HBU.out.mono ?_
  rintro e w1 ⟨A1, n1, c1, cs1, rfl, hb, hc1, hcap, hbad, hgood⟩
  have HB1 := hid hb
  have HI1 := hid (HI.out.keep hb)
  have HJ1 := hid (HJ.out.keep hb)
  obtain ⟨hn1, hcok⟩ := hgood (by first | rfl | trivial)
  rw [HL.out] at hn1
  subst hn1
  have HC1 := hid hc1
  have HOK := hid (HRB.out _ hcok)
  clear hb hc1 hcap hbad hgood HBU hcok HRB
  go_wp2_with fail
  refine (HT.out w1 HI1.out HJ1.out).mono ?_
  rintro e w2 ⟨rfl, hb⟩
  have HB2 := hid (below_step HB1.out (Nat.le_refl _) hb)
  have HI2 := hid (HI1.out.keep hb)
  have HJ2 := hid (HJ1.out.keep hb)
  have HC2 := hid (HC1.out.keep hb)
  clear hb HT
  have HDD := hid (HD.out w2 HJ2.out)
  obtain ⟨b, o, rfl, hbl, hc⟩ := HJ2.out.row (by omega)
  obtain ⟨g1, g2⟩ := hc k hk
  clear hc HD
  generalize cut cs k = y at *
  generalize oth cs k = z at *
  go_wp2_with fail
  refine HDD.out.mono ?_
  rintro e w3 ⟨rfl, rfl⟩
  clear HDD
  go_wp2_with fail
  refine (HWE.out w2 HI2.out).mono ?_
  rintro e w3 ⟨rfl, rfl⟩
  go_wp2_with fail
  refine (HCH.out w2 HI2.out).mono ?_
  rintro e w3 ⟨rfl, rfl⟩
  clear HWE HCH
  go_wp2_with fail
  refine (HTB.out w2 A1 c1 cs1 HI2.out HC2.out).mono ?_
  rintro e w4 ⟨rfl, hb⟩
  rw [HOK.out]
  have HB4 := hid (below_step HB2.out (Nat.le_refl _) hb)
  have HI4 := hid (HI2.out.keep hb)
  have HJ4 := hid (HJ2.out.keep hb)
  clear hb HTB
  go_wp2_with fail
  refine (HTL.out w4 HI4.out HJ4.out).mono ?_
  rintro e w5 ⟨rfl, hb⟩
  have HB5 := hid (below_step HB4.out (Nat.le_refl _) hb)
  clear hb HTL
  cases tb
  · go_wp2
    go_ret
    exact ⟨rfl, HB5.out⟩
  · go_wp2
    go_ret
    exact ⟨rfl, HB5.out⟩

theorem aliasSays_any (A : Option Addr) (n c : Nat) (B : Option Addr) (m d : Nat) (at_ x : Int) (ws : List Int) (cs : List (Int × Int)) (w : World) (hI : Ints w A n ws) (hJ : Cols w B m cs) (hm : m ≤ 9223372036854775807) :
    Calls Try.prog 3 #[.slice A n c, .slice B m d, .int .i64 at_, .int .i64 x] w fun e w' => e = .returned (.bool true) ∧ Below w.heap.size w w' := by
  by_cases he : alErr ws = 0
  · by_cases hmn : m = n
    · rcases hcb : colB n ws.sum cs with _ | _
      · have h := he
        have d0 : ¬ m = 0 := by have := (fit_of he).lo; have := hI.len; omega
        have d1 : ¬ 12 < m := by have := (fit_of he).hi; have := hI.len; omega
        by_cases d2 : at_ < 0
        · exact alSaysColNoLow A n c B m d at_ x ws cs w hI hJ hm he hmn hcb (by omega) (by omega) d2
        by_cases d3 : (m : Int) ≤ at_
        · exact alSaysColNoHigh A n c B m d at_ x ws cs w hI hJ hm he hmn hcb (by omega) (by omega) d3
        by_cases d4 : x < cut cs at_.toNat
        · exact alSaysColNoCut A n c B m d at_ x ws cs w hI hJ hm he hmn hcb (by omega) at_.toNat (by omega) (by omega) d4
        · exact alSaysColNoOth A n c B m d at_ x ws cs w hI hJ hm he hmn hcb (by omega) at_.toNat (by omega) (by omega) d4
      · have h := he
        have d0 : ¬ m = 0 := by have := (fit_of he).lo; have := hI.len; omega
        have d1 : ¬ 12 < m := by have := (fit_of he).hi; have := hI.len; omega
        by_cases d2 : at_ < 0
        · exact alSaysColYesLow A n c B m d at_ x ws cs w hI hJ hm he hmn hcb (by omega) (by omega) d2
        by_cases d3 : (m : Int) ≤ at_
        · exact alSaysColYesHigh A n c B m d at_ x ws cs w hI hJ hm he hmn hcb (by omega) (by omega) d3
        by_cases d4 : x < cut cs at_.toNat
        · exact alSaysColYesCut A n c B m d at_ x ws cs w hI hJ hm he hmn hcb (by omega) at_.toNat (by omega) (by omega) d4
        · exact alSaysColYesOth A n c B m d at_ x ws cs w hI hJ hm he hmn hcb (by omega) at_.toNat (by omega) (by omega) d4
    · have h := he
      by_cases d0 : m = 0
      · exact alSaysFormNone A n c B m d at_ x ws cs w hI hJ hm he hmn d0
      by_cases d1 : 12 < m
      · exact alSaysFormMany A n c B m d at_ x ws cs w hI hJ hm he hmn d1
      by_cases d2 : at_ < 0
      · exact alSaysFormLow A n c B m d at_ x ws cs w hI hJ hm he hmn (by omega) (by omega) d2
      by_cases d3 : (m : Int) ≤ at_
      · exact alSaysFormHigh A n c B m d at_ x ws cs w hI hJ hm he hmn (by omega) (by omega) d3
      by_cases d4 : x < cut cs at_.toNat
      · exact alSaysFormCut A n c B m d at_ x ws cs w hI hJ hm he hmn (by omega) at_.toNat (by omega) (by omega) d4
      · exact alSaysFormOth A n c B m d at_ x ws cs w hI hJ hm he hmn (by omega) at_.toNat (by omega) (by omega) d4
  · have h := he
    by_cases d0 : m = 0
    · exact alSaysBadNone A n c B m d at_ x ws cs w hI hJ hm he d0
    by_cases d1 : 12 < m
    · exact alSaysBadMany A n c B m d at_ x ws cs w hI hJ hm he d1
    by_cases d2 : at_ < 0
    · exact alSaysBadLow A n c B m d at_ x ws cs w hI hJ hm he (by omega) (by omega) d2
    by_cases d3 : (m : Int) ≤ at_
    · exact alSaysBadHigh A n c B m d at_ x ws cs w hI hJ hm he (by omega) (by omega) d3
    by_cases d4 : x < cut cs at_.toNat
    · exact alSaysBadCut A n c B m d at_ x ws cs w hI hJ hm he (by omega) at_.toNat (by omega) (by omega) d4
    · exact alSaysBadOth A n c B m d at_ x ws cs w hI hJ hm he (by omega) at_.toNat (by omega) (by omega) d4
end Go.Proofs.Yteahhjakchcmkaa
