/-
  odds.Mean, Spread, Beyond.
-/
import Derived.Test.YthdjbmogdlodcaaOddB
import Derived.Test.YthdjbmogdlodcaaOddN
namespace Go.Proofs.Ythdjbmogdlodcaa
open Go.RowKit

set_option maxHeartbeats 1600000 in
theorem omean_of (A : Option Addr) (n c : Nat) (B : Option Addr) (m d : Nat) (P Q er : Int) (w : World)
    (h : ∀ W, Below w.heap.size w W → Calls Try.prog 32 #[.agg #[.slice A n c, .slice B m d], .func (.func 33) #[] #[]] W (RetR W P Q er)) :
    Calls Try.prog 10 #[.agg #[.slice A n c, .slice B m d]] w (RetR w P Q er) := by
  have HB0 : Hid (Below w.heap.size w ((w.alloc (.cells #[.slice A n c, .slice B m d] 24)).alloc (.cells #[.int .i64 0, .int .i64 0] 26))) := two_alloc w _ _
  have HZ : Hid (RatAt ((w.alloc (.cells #[.slice A n c, .slice B m d] 24)).alloc (.cells #[.int .i64 0, .int .i64 0] 26)) (w.heap.size + 1) 0 0) := rat_second w _ _ 0 0
  have HX := hid (h _ HB0.out)
  clear h
  go_enter Try.func10, Try.ntmps10
  go_wp2_with fail
  refine HX.out.mono ?_
  rintro e w1 ⟨rfl, hb⟩
  have hz := HZ.out.keep hb
  have g0 := hz.p0
  have g1 := hz.p1
  have f0 := hz.f0
  have f1 := hz.f1
  have HB1 := hid (below_step HB0.out (by simp) hb)
  clear hz hb HB0 HZ HX
  go_wp2
  (try simp only [Exit.inBlock, Exit.then])
  refine bodyPost_ret (v := .tuple #[.agg #[.int .i64 P, .int .i64 Q], .int .i64 er]) ?_ rfl ⟨rfl, HB1.out.trans (below_set2 (by omega))⟩
  rw [results_cell_tmp rfl]
  go_simp

theorem omean_bad (A : Option Addr) (n c : Nat) (B : Option Addr) (m d : Nat) (vs ws : List Int) (w : World) (hI : Ints w A n vs) (hJ : Ints w B m ws) (h : oddErr vs ws ≠ 0) :
    Calls Try.prog 10 #[.agg #[.slice A n c, .slice B m d]] w (RetR w 0 0 (oddErr vs ws)) :=
  omean_of A n c B m d _ _ _ w fun W hb => exp_bad A n c B m d vs ws _ W (hI.keep hb) (hJ.keep hb) h
theorem omean_ok (A : Option Addr) (n c : Nat) (B : Option Addr) (m d : Nat) (l : List (Int × Int)) (w : World) (hI : Ints w A n (vsL l)) (hJ : Ints w B m (wsL l)) (hG : GoodD l) :
    Calls Try.prog 10 #[.agg #[.slice A n c, .slice B m d]] w (RetR w (mean l).num ((mean l).den : Int) 0) :=
  omean_of A n c B m d _ _ _ w fun W hb => exp_id A n c B m d l W (hI.keep hb) (hJ.keep hb) hG

set_option maxHeartbeats 1600000 in
theorem obeyond_of (A : Option Addr) (n c : Nat) (B : Option Addr) (m d : Nat) (least P Q er : Int) (w : World)
    (h : ∀ W bl, Below w.heap.size w W → W.cell? ⟨bl, 0, none⟩ = some (.int .i64 least) → bl < W.heap.size → Calls Try.prog 32 #[.agg #[.slice A n c, .slice B m d], .func (.func 35) #[] #[.pointer (some ⟨bl, 0, none⟩)]] W (RetR W P Q er)) :
    Calls Try.prog 12 #[.agg #[.slice A n c, .slice B m d], .int .i64 least] w (RetR w P Q er) := by
  obtain ⟨W, hW⟩ : ∃ W, W = ((w.alloc (.cells #[.slice A n c, .slice B m d] 24)).alloc (.cells #[.int .i64 least] 3)).alloc (.cells #[.int .i64 0, .int .i64 0] 26) := ⟨_, rfl⟩
  have HB0 : Hid (Below w.heap.size w W) := by rw [hW]; exact three_alloc w _ _ _
  have HZ : Hid (RatAt W (w.heap.size + 2) 0 0) := by rw [hW]; exact rat_third w _ _ _ 0 0
  have hc : W.cell? ⟨w.heap.size + 1, 0, none⟩ = some (.int .i64 least) := by
    rw [hW]
    have e : (w.alloc (.cells #[.slice A n c, .slice B m d] 24)).heap.size = w.heap.size + 1 := by simp
    have k := cell_of_row ((w.alloc (.cells #[.slice A n c, .slice B m d] 24)).alloc (.cells #[.int .i64 least] 3)) (w.heap.size + 1) 0 #[.int .i64 least] 3 (0, 0) (by have := heap_alloc_new (w.alloc (.cells #[.slice A n c, .slice B m d] 24)) (.cells #[.int .i64 least] 3); rwa [e] at this)
    exact ((below_alloc ((w.alloc (.cells #[.slice A n c, .slice B m d] 24)).alloc (.cells #[.int .i64 least] 3)) (.cells #[.int .i64 0, .int .i64 0] 26)).cell (p := ⟨w.heap.size + 1, 0, none⟩) (by simp)).trans k
  have HX := hid (h W (w.heap.size + 1) HB0.out hc (by have := HZ.out.lt; omega))
  have HL : Hid (OddsAt W w.heap.size A n c B m d) := by rw [hW]; exact ((OddsAt.new w 24 A n c B m d).keep_alloc _).keep_alloc _
  have g4 := HL.out.p0
  have g5 := HL.out.p1
  have g6 := HL.out.lt
  have HWE := hid hW
  clear h hc
  go_enter Try.func12, Try.ntmps12
  rw [hW] at HX HB0 HZ
  clear g4 g5 g6 HL HWE hW
  go_wp2_with fail
  refine HX.out.mono ?_
  rintro e w1 ⟨rfl, hb⟩
  have hz := HZ.out.keep hb
  have g0 := hz.p0
  have g1 := hz.p1
  have f0 := hz.f0
  have f1 := hz.f1
  have HB1 := hid (below_step HB0.out (by simp) hb)
  clear hz hb HB0 HZ HX
  go_wp2
  (try simp only [Exit.inBlock, Exit.then])
  refine bodyPost_ret (v := .tuple #[.agg #[.int .i64 P, .int .i64 Q], .int .i64 er]) ?_ rfl ⟨rfl, HB1.out.trans (below_set2 (by omega))⟩
  rw [results_cell_tmp rfl]
  go_simp

theorem obeyond_bad (A : Option Addr) (n c : Nat) (B : Option Addr) (m d : Nat) (least : Int) (vs ws : List Int) (w : World) (hI : Ints w A n vs) (hJ : Ints w B m ws) (h : oddErr vs ws ≠ 0) :
    Calls Try.prog 12 #[.agg #[.slice A n c, .slice B m d], .int .i64 least] w (RetR w 0 0 (oddErr vs ws)) :=
  obeyond_of A n c B m d least _ _ _ w fun W _ hb _ _ => exp_bad A n c B m d vs ws _ W (hI.keep hb) (hJ.keep hb) h
theorem obeyond_ok (A : Option Addr) (n c : Nat) (B : Option Addr) (m d : Nat) (least : Int) (l : List (Int × Int)) (w : World) (hI : Ints w A n (vsL l)) (hJ : Ints w B m (wsL l)) (hG : GoodD l) :
    Calls Try.prog 12 #[.agg #[.slice A n c, .slice B m d], .int .i64 least] w (RetR w (Rat.divInt (E (geI least) l) (E one l)).num ((Rat.divInt (E (geI least) l) (E one l)).den : Int) 0) :=
  obeyond_of A n c B m d least _ _ _ w fun W bl hb h1 h2 => exp_ge A n c B m d l least bl W (hI.keep hb) (hJ.keep hb) hG h1 h2

set_option maxHeartbeats 1600000 in
theorem ospread_bad (A : Option Addr) (n c : Nat) (B : Option Addr) (m d : Nat) (vs ws : List Int) (w : World) (hI : Ints w A n vs) (hJ : Ints w B m ws) (h : oddErr vs ws ≠ 0) :
    Calls Try.prog 11 #[.agg #[.slice A n c, .slice B m d]] w (RetR w 0 0 (oddErr vs ws)) := by
  have HB0 : Hid (Below w.heap.size w ((w.alloc (.cells #[.slice A n c, .slice B m d] 24)).alloc (.cells #[.int .i64 0, .int .i64 0] 26))) := two_alloc w _ _
  have HZ : Hid (RatAt ((w.alloc (.cells #[.slice A n c, .slice B m d] 24)).alloc (.cells #[.int .i64 0, .int .i64 0] 26)) (w.heap.size + 1) 0 0) := rat_second w _ _ 0 0
  have HX := hid (omean_bad A n c B m d vs ws _ (hI.keep HB0.out) (hJ.keep HB0.out) h)
  have hne : (oddErr vs ws != 0) = true := by simpa using h
  clear h hI hJ
  generalize oddErr vs ws = er at *
  go_enter Try.func11, Try.ntmps11
  go_wp2_with fail
  refine HX.out.mono ?_
  rintro e w1 ⟨rfl, hb⟩
  have hz := (HZ.out.keep hb).keep_alloc (.cells #[.int .i64 0, .int .i64 0] 26)
  have g0 := hz.p0
  have g1 := hz.p1
  have f0 := hz.f0
  have f1 := hz.f1
  have HB1 := hid (below_step (below_step HB0.out (by simp) hb) (Nat.le_refl _) (below_alloc w1 (.cells #[.int .i64 0, .int .i64 0] 26)))
  clear hz hb HB0 HZ HX
  go_wp2
  (try simp only [Exit.inBlock, Exit.then])
  refine bodyPost_ret (v := .tuple #[.agg #[.int .i64 0, .int .i64 0], .int .i64 er]) ?_ rfl ⟨rfl, HB1.out.trans (below_set2 (by omega))⟩
  rw [results_cell_tmp rfl]
  go_simp

set_option maxHeartbeats 3200000 in
theorem ospread_ok (A : Option Addr) (n c : Nat) (B : Option Addr) (m d : Nat) (l : List (Int × Int)) (w : World) (hI : Ints w A n (vsL l)) (hJ : Ints w B m (wsL l)) (hG : GoodD l) :
    Calls Try.prog 11 #[.agg #[.slice A n c, .slice B m d]] w (RetR w (var l).num ((var l).den : Int) 0) := by
  have HB0 : Hid (Below w.heap.size w ((w.alloc (.cells #[.slice A n c, .slice B m d] 24)).alloc (.cells #[.int .i64 0, .int .i64 0] 26))) := two_alloc w _ _
  have HZ : Hid (RatAt ((w.alloc (.cells #[.slice A n c, .slice B m d] 24)).alloc (.cells #[.int .i64 0, .int .i64 0] 26)) (w.heap.size + 1) 0 0) := rat_second w _ _ 0 0
  have HO : Hid (OddsAt ((w.alloc (.cells #[.slice A n c, .slice B m d] 24)).alloc (.cells #[.int .i64 0, .int .i64 0] 26)) w.heap.size A n c B m d) := (OddsAt.new w _ A n c B m d).keep_alloc _
  have HX : Hid (∀ W, Below w.heap.size w W → Calls Try.prog 10 #[.agg #[.slice A n c, .slice B m d]] W (RetR W (mean l).num ((mean l).den : Int) 0)) := fun W hb => omean_ok A n c B m d l W (hI.keep hb) (hJ.keep hb) hG
  have HY : Hid (∀ W, Below w.heap.size w W → Calls Try.prog 32 #[.agg #[.slice A n c, .slice B m d], .func (.func 34) #[] #[]] W (RetR W (Rat.divInt (E sq l) (E one l)).num ((Rat.divInt (E sq l) (E one l)).den : Int) 0)) := fun W hb => exp_sq A n c B m d l W (hI.keep hb) (hJ.keep hb) hG
  have HA : Hid (∀ W, Calls Try.prog 22 #[.agg #[.int .i64 (Rat.divInt (E sq l) (E one l)).num, .int .i64 ((Rat.divInt (E sq l) (E one l)).den : Int)], .agg #[.int .i64 (-(mean l).num * (mean l).num), .int .i64 (((mean l).den : Int) * ((mean l).den : Int))]] W (RetR W (var l).num ((var l).den : Int) 0)) := fun W => by
    have k := add_good ((sqs_bd hG).fits (by omega) (by omega)) ((sqn_bd hG).fits (by omega) (by omega)) ((var_bd hG).fits (by omega) (by omega)) W
    rw [sq_num, sq_den] at k
    exact k
  have hb1 := (mean_bd hG).1
  have hb2 := (mean_bd hG).2
  clear hI hJ
  generalize (Rat.divInt (E sq l) (E one l)).num = P2 at *
  generalize ((Rat.divInt (E sq l) (E one l)).den : Int) = Q2 at *
  obtain ⟨P, hP⟩ : ∃ P, (mean l).num = P := ⟨_, rfl⟩
  obtain ⟨Q, hQ⟩ : ∃ Q, ((mean l).den : Int) = Q := ⟨_, rfl⟩
  have hb3 : 0 ≤ Q ∧ Q ≤ 1200 := by omega
  rw [hP] at HX HA hb1
  rw [hQ] at HX HA
  obtain ⟨P3, hP3⟩ : ∃ P, (var l).num = P := ⟨_, rfl⟩
  obtain ⟨Q3, hQ3⟩ : ∃ Q, ((var l).den : Int) = Q := ⟨_, rfl⟩
  rw [hP3, hQ3] at HA ⊢
  clear hP hQ hP3 hQ3 hb2 hG
  obtain ⟨hb3, hb4⟩ := hb3
  have p1 : -576000000 ≤ -P * P ∧ -P * P ≤ 576000000 := mul_bd (A := 24000) (B := 24000) (by omega) (by omega) (by omega) (by omega)
  have p2 : -1440000 ≤ Q * Q ∧ Q * Q ≤ 1440000 := mul_bd (A := 1200) (B := 1200) (by omega) (by omega) (by omega) (by omega)
  have hb5 : -24000 ≤ P := by omega
  have hb6 : P ≤ 24000 := by omega
  obtain ⟨p1, p1'⟩ := p1
  obtain ⟨p2, p2'⟩ := p2
  clear hb1
  go_enter Try.func11, Try.ntmps11
  go_wp2_with fail
  refine (HX.out _ HB0.out).mono ?_
  rintro e w1 ⟨rfl, hb⟩
  have HZ1 := hid ((HZ.out.keep hb).keep_alloc (.cells #[.int .i64 P, .int .i64 Q] 26))
  have HO1 := hid ((HO.out.keep hb).keep_alloc (.cells #[.int .i64 P, .int .i64 Q] 26))
  have HM1 := hid (RatAt.new w1 26 P Q)
  have HB1 := hid (below_step (below_step HB0.out (by simp) hb) (Nat.le_refl _) (below_alloc w1 (.cells #[.int .i64 P, .int .i64 Q] 26)))
  have hlt := Nat.lt_of_lt_of_le HO.out.lt hb.size
  have g0 := (HO.out.keep hb).p0
  have g1 := (HO.out.keep hb).p1
  clear hb HB0 HZ HX HO
  go_wp2_with fail
  refine (HY.out _ HB1.out).mono ?_
  rintro e w2 ⟨rfl, hb⟩
  have HZ2 := hid ((HZ1.out.keep hb).keep_alloc (.cells #[.int .i64 P2, .int .i64 Q2] 26))
  have HM2 := hid (HM1.out.keep hb)
  have HB2 := hid (below_step (below_step HB1.out (Nat.le_refl _) hb) (Nat.le_refl _) (below_alloc w2 (.cells #[.int .i64 P2, .int .i64 Q2] 26)))
  clear hb HB1 HZ1 HO1 HM1 HY hlt g0 g1
  have g0 := HM2.out.p0
  have g1 := HM2.out.p1
  have g2 := HM2.out.lt
  go_wp2_with fail
  refine (HA.out _).mono ?_
  rintro e w3 ⟨rfl, hb⟩
  have hz := HZ2.out.keep hb
  have HB3 := hid (below_step HB2.out (Nat.le_refl _) hb)
  clear g0 g1 g2 hb HB2 HZ2 HM2 HA
  have g0 := hz.p0
  have g1 := hz.p1
  have f0 := hz.f0
  have f1 := hz.f1
  clear hz
  go_wp2
  (try simp only [Exit.inBlock, Exit.then])
  refine bodyPost_ret (v := .tuple #[.agg #[.int .i64 P3, .int .i64 Q3], .int .i64 0]) ?_ rfl ⟨rfl, HB3.out.trans (below_set2 (by omega))⟩
  rw [results_cell_tmp rfl]
  go_simp
end Go.Proofs.Ythdjbmogdlodcaa
