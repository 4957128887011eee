/-
  odds.expected, once for each closure; what is made of a value.
-/
import Derived.Test.YthdjbmogdlodcaaOddA
import Derived.Test.YthdjbmogdlodcaaRatD
namespace Go.Proofs.Ythdjbmogdlodcaa
open Go.RowKit

set_option maxHeartbeats 400000 in
theorem mean1_any (x : Int) (w : World) : Calls Try.prog 33 #[.int .i64 x] w fun e w' => e = .returned (.int .i64 x) ∧ w' = w := by
  go_enter Try.func33, Try.ntmps33
  go_wp2
  go_ret
  exact ⟨rfl, rfl⟩
set_option maxHeartbeats 400000 in
theorem spread1_any (x z : Int) (w : World) (hz : x * x = z) (h : -20 ≤ x) (h' : x ≤ 20) : Calls Try.prog 34 #[.int .i64 x] w fun e w' => e = .returned (.int .i64 z) ∧ w' = w := by
  have hb := sq_bd h h'
  rw [hz] at hb
  obtain ⟨b1, b2⟩ := hb
  go_enter Try.func34, Try.ntmps34
  go_wp2
  go_ret
  exact ⟨rfl, rfl⟩
set_option maxHeartbeats 400000 in
theorem beyond1_any (x least : Int) (b : Nat) (w : World) (hc : w.cell? ⟨b, 0, none⟩ = some (.int .i64 least)) : Calls Try.prog 35 #[.int .i64 x, .pointer (some ⟨b, 0, none⟩)] w fun e w' => e = .returned (.int .i64 (geI least x)) ∧ w' = w := by
  by_cases h : least ≤ x
  · have hE : Hid (geI least x = 1) := if_pos h
    go_enter Try.func35, Try.ntmps35
    go_wp2
    go_ret
    exact ⟨by rw [hE.out]; rfl, rfl⟩
  · have hE : Hid (geI least x = 0) := if_neg h
    go_enter Try.func35, Try.ntmps35
    go_wp2
    go_ret
    exact ⟨by rw [hE.out]; rfl, rfl⟩

set_option maxHeartbeats 1600000 in
theorem exp_bad (A : Option Addr) (n c : Nat) (B : Option Addr) (m d : Nat) (vs ws : List Int) (fv : Value) (w : World) (hI : Ints w A n vs) (hJ : Ints w B m ws) (h : oddErr vs ws ≠ 0) :
    Calls Try.prog 32 #[.agg #[.slice A n c, .slice B m d], fv] w (RetR w 0 0 (oddErr vs ws)) := by
  have HB0 : Hid (Below w.heap.size w ((w.alloc (.cells #[.slice A n c, .slice B m d] 24)).alloc (.cells #[.int .i64 0, .int .i64 0] 26))) := two_alloc w _ _
  have HZ : Hid (RatAt ((w.alloc (.cells #[.slice A n c, .slice B m d] 24)).alloc (.cells #[.int .i64 0, .int .i64 0] 26)) (w.heap.size + 1) 0 0) := rat_second w _ _ 0 0
  have HI := hid (hI.keep (two_alloc w (.cells #[.slice A n c, .slice B m d] 24) (.cells #[.int .i64 0, .int .i64 0] 26)))
  have HJ := hid (hJ.keep (two_alloc w (.cells #[.slice A n c, .slice B m d] 24) (.cells #[.int .i64 0, .int .i64 0] 26)))
  have hne : (oddErr vs ws != 0) = true := by simpa using h
  clear h hI hJ
  go_enter Try.func32, Try.ntmps32
  go_wp2_with fail
  refine (ocheck_any A n c B m d vs ws _ HI.out HJ.out).mono ?_
  rintro e w1 ⟨rfl, hb⟩
  have hz := HZ.out.keep hb
  have g0 := hz.p0
  have g1 := hz.p1
  have f0 := hz.f0
  have f1 := hz.f1
  have HB1 := hid (below_step HB0.out (by simp) hb)
  clear hz hb HB0 HZ HI HJ
  generalize oddErr vs ws = er at *
  go_wp2
  (try simp only [Exit.inBlock, Exit.then])
  refine bodyPost_ret (v := .tuple #[.agg #[.int .i64 0, .int .i64 0], .int .i64 er]) ?_ rfl ⟨rfl, HB1.out.trans (below_set2 (by omega))⟩
  rw [results_cell_tmp rfl]
  go_simp

set_option maxHeartbeats 3200000 in
set_option maxRecDepth 100000 in
theorem exp_id (A : Option Addr) (n c : Nat) (B : Option Addr) (m d : Nat) (l : List (Int × Int)) (w : World) (hI : Ints w A n (vsL l)) (hJ : Ints w B m (wsL l)) (hG : GoodD l) :
    Calls Try.prog 32 #[.agg #[.slice A n c, .slice B m d], .func (.func 33) #[] #[]] w (RetR w (Rat.divInt (E idI l) (E one l)).num ((Rat.divInt (E idI l) (E one l)).den : Int) 0) := by
  have HB0 : Hid (Below w.heap.size w ((w.alloc (.cells #[.slice A n c, .slice B m d] 24)).alloc (.cells #[.int .i64 0, .int .i64 0] 26))) := two_alloc w _ _
  have HZ : Hid (RatAt ((w.alloc (.cells #[.slice A n c, .slice B m d] 24)).alloc (.cells #[.int .i64 0, .int .i64 0] 26)) (w.heap.size + 1) 0 0) := rat_second w _ _ 0 0
  have HO : Hid (OddsAt ((w.alloc (.cells #[.slice A n c, .slice B m d] 24)).alloc (.cells #[.int .i64 0, .int .i64 0] 26)) w.heap.size A n c B m d) := (OddsAt.new w _ A n c B m d).keep_alloc _
  have HI := hid (hI.keep (two_alloc w (.cells #[.slice A n c, .slice B m d] 24) (.cells #[.int .i64 0, .int .i64 0] 26)))
  have HJ := hid (hJ.keep (two_alloc w (.cells #[.slice A n c, .slice B m d] 24) (.cells #[.int .i64 0, .int .i64 0] 26)))
  have hn : n = l.length := by rw [← hI.len, vsL_len]
  have hm : m = l.length := by rw [← hJ.len, wsL_len]
  subst hn
  subst hm
  have HG := hid hG
  have HOE := hid (oddErr_of hG)
  have hl1 := hG.1
  have hl2 := hG.2.1
  have e1 := E_id_bd  hG.2
  have e2 := E_one_bd hG.2
  have e3 := E_one_pos hG
  obtain ⟨a1, a2⟩ := e1
  obtain ⟨a3, a4⟩ := e2
  obtain ⟨N, hN⟩ : ∃ N, N = l.length := ⟨_, rfl⟩
  rw [← hN] at HI HJ HB0 HZ HO hl1 hl2 ⊢
  have HN := hid hN
  clear hG hI hJ hN
  go_enter Try.func32, Try.ntmps32
  go_wp2_with fail
  refine (ocheck_any A N c B N d (vsL l) (wsL l) _ HI.out HJ.out).mono ?_
  rintro e w1 ⟨rfl, hb⟩
  rw [HOE.out]
  have HZ1 := hid (HZ.out.keep hb)
  have HO1 := hid (HO.out.keep hb)
  have HI1 := hid (HI.out.keep hb)
  have HJ1 := hid (HJ.out.keep hb)
  have HB1 := hid (below_step HB0.out (by simp) hb)
  clear hb HB0 HZ HI HJ HO HOE
  have g0 := HO1.out.p0
  have g1 := HO1.out.p1
  go_wp2_with fail
  go_loopg [20, 7, 8, 9, 10] N (fun g s a t _ _ wr => ∃ k : Nat, k ≤ N ∧ N - k ≤ g ∧ s = .int .i64 k ∧ a = .int .i64 (E idI (l.take k)) ∧ t = .int .i64 (E one (l.take k)) ∧ Below w1.heap.size w1 wr)
  case atStart => exact ⟨0, Nat.zero_le _, by omega, rfl, rfl, rfl, Below.refl _ _⟩
  case round =>
    obtain ⟨k, hk, hg, rfl, rfl, rfl, hbel⟩ := hrel
    have HB := hid hbel
    clear hbel g0 g1
    by_cases hlt : k < N
    · obtain ⟨b1, o1, rfl, hb1, hc1⟩ := (HI1.out.keep HB.out).row (by omega)
      obtain ⟨b2, o2, rfl, hb2, hc2⟩ := (HJ1.out.keep HB.out).row (by omega)
      have g0 := (HO1.out.keep HB.out).p0
      have g1 := (HO1.out.keep HB.out).p1
      have g2 := hc1 k hlt
      have g3 := hc2 k hlt
      rw [vsL_at] at g2
      rw [wsL_at] at g3
      have hkl : k < l.length := by rw [← HN.out]; exact hlt
      have hat := HG.out.2.at hkl
      have HE1 := hid (E_take idI l hkl)
      have HE2 := hid (E_take one l hkl)
      have c1 := E_id_bd  (HG.out.2.take (k + 1))
      have c2 := E_one_bd (HG.out.2.take (k + 1))
      have c3 := E_id_bd  (HG.out.2.take k)
      have c4 := E_one_bd (HG.out.2.take k)
      rw [HE1.out] at c1
      rw [HE2.out] at c2
      have hkI : (k : Int) < (N : Int) := by omega
      clear hc1 hc2 hkl
      generalize (l.getD k (0, 0)).1 = x at *
      generalize (l.getD k (0, 0)).2 = y at *
      obtain ⟨h1, h2, h3, h4⟩ := hat
      rw [show y * idI x = y * x from rfl] at c1 HE1
      rw [show y * one x = y from Int.mul_one y] at c2 HE2
      generalize E idI (l.take k) = s at *
      generalize E one (l.take k) = t at *
      have p1 : -40000 ≤ y * x ∧ y * x ≤ 40000 := mul_bd (A := 100) (B := 400) (by omega) (by omega) (by omega) (by omega)
      obtain ⟨p1, p2⟩ := p1
      obtain ⟨c11, c12⟩ := c1
      obtain ⟨c21, c22⟩ := c2
      obtain ⟨c31, c32⟩ := c3
      obtain ⟨c41, c42⟩ := c4
      go_wp2_with fail
      go_quiet ((go_at_call 33; exact Calls.quiet_of_same (mean1_any x _)))
      go_wp2
      go_roundg (N - (k + 1))
      case measure => omega
      case rel => exact ⟨k + 1, by omega, by omega, by go_num, by rw [HE1.out], by rw [HE2.out], below_drewN HB.out _⟩
    · obtain rfl : k = N := by omega
      have HT : Hid (l.take k = l) := by rw [HN.out]; exact List.take_length
      rw [HT.out]
      have g0 := (HO1.out.keep HB.out).p0
      have g1 := (HO1.out.keep HB.out).p1
      have HM := fun W => rmake_ok (E idI l) (E one l) W (by omega) (by omega) (by omega) (by omega) (by omega)
      obtain ⟨P, hP⟩ : ∃ P, (Rat.divInt (E idI l) (E one l)).num = P := ⟨_, rfl⟩
      obtain ⟨Q, hQ⟩ : ∃ Q, ((Rat.divInt (E idI l) (E one l)).den : Int) = Q := ⟨_, rfl⟩
      rw [hP, hQ] at HM
      have HM := hid HM
      have HP := hid hP
      have HQ := hid hQ
      clear hP hQ
      generalize E idI l = s at *
      generalize E one l = t at *
      go_wp2_with fail
      refine (HM.out _).mono ?_
      rintro e w2 ⟨rfl, hb⟩
      have hz := (HZ1.out.keep HB.out).keep hb
      have HB2 := hid (below_step (below_step HB1.out (Nat.le_refl _) HB.out) (Nat.le_refl _) hb)
      clear g0 g1 hb HB1 HB
      have g0 := hz.p0
      have g1 := hz.p1
      have f0 := hz.f0
      have f1 := hz.f1
      clear hz
      go_wp2
      (try simp only [Exit.inBlock, Exit.then])
      refine bodyPost_ret (v := .tuple #[.agg #[.int .i64 P, .int .i64 Q], .int .i64 0]) ?_ rfl ⟨by rw [HP.out, HQ.out], HB2.out.trans (below_set2 (by omega))⟩
      rw [results_cell_tmp rfl]
      go_simp

set_option maxHeartbeats 3200000 in
set_option maxRecDepth 100000 in
theorem exp_sq (A : Option Addr) (n c : Nat) (B : Option Addr) (m d : Nat) (l : List (Int × Int)) (w : World) (hI : Ints w A n (vsL l)) (hJ : Ints w B m (wsL l)) (hG : GoodD l) :
    Calls Try.prog 32 #[.agg #[.slice A n c, .slice B m d], .func (.func 34) #[] #[]] w (RetR w (Rat.divInt (E sq l) (E one l)).num ((Rat.divInt (E sq l) (E one l)).den : Int) 0) := by
  have HB0 : Hid (Below w.heap.size w ((w.alloc (.cells #[.slice A n c, .slice B m d] 24)).alloc (.cells #[.int .i64 0, .int .i64 0] 26))) := two_alloc w _ _
  have HZ : Hid (RatAt ((w.alloc (.cells #[.slice A n c, .slice B m d] 24)).alloc (.cells #[.int .i64 0, .int .i64 0] 26)) (w.heap.size + 1) 0 0) := rat_second w _ _ 0 0
  have HO : Hid (OddsAt ((w.alloc (.cells #[.slice A n c, .slice B m d] 24)).alloc (.cells #[.int .i64 0, .int .i64 0] 26)) w.heap.size A n c B m d) := (OddsAt.new w _ A n c B m d).keep_alloc _
  have HI := hid (hI.keep (two_alloc w (.cells #[.slice A n c, .slice B m d] 24) (.cells #[.int .i64 0, .int .i64 0] 26)))
  have HJ := hid (hJ.keep (two_alloc w (.cells #[.slice A n c, .slice B m d] 24) (.cells #[.int .i64 0, .int .i64 0] 26)))
  have hn : n = l.length := by rw [← hI.len, vsL_len]
  have hm : m = l.length := by rw [← hJ.len, wsL_len]
  subst hn
  subst hm
  have HG := hid hG
  have HOE := hid (oddErr_of hG)
  have hl1 := hG.1
  have hl2 := hG.2.1
  have e1 := E_sq_bd  hG.2
  have e2 := E_one_bd hG.2
  have e3 := E_one_pos hG
  obtain ⟨a1, a2⟩ := e1
  obtain ⟨a3, a4⟩ := e2
  obtain ⟨N, hN⟩ : ∃ N, N = l.length := ⟨_, rfl⟩
  rw [← hN] at HI HJ HB0 HZ HO hl1 hl2 ⊢
  have HN := hid hN
  clear hG hI hJ hN
  go_enter Try.func32, Try.ntmps32
  go_wp2_with fail
  refine (ocheck_any A N c B N d (vsL l) (wsL l) _ HI.out HJ.out).mono ?_
  rintro e w1 ⟨rfl, hb⟩
  rw [HOE.out]
  have HZ1 := hid (HZ.out.keep hb)
  have HO1 := hid (HO.out.keep hb)
  have HI1 := hid (HI.out.keep hb)
  have HJ1 := hid (HJ.out.keep hb)
  have HB1 := hid (below_step HB0.out (by simp) hb)
  clear hb HB0 HZ HI HJ HO HOE
  have g0 := HO1.out.p0
  have g1 := HO1.out.p1
  go_wp2_with fail
  go_loopg [20, 7, 8, 9, 10] N (fun g s a t _ _ wr => ∃ k : Nat, k ≤ N ∧ N - k ≤ g ∧ s = .int .i64 k ∧ a = .int .i64 (E sq (l.take k)) ∧ t = .int .i64 (E one (l.take k)) ∧ Below w1.heap.size w1 wr)
  case atStart => exact ⟨0, Nat.zero_le _, by omega, rfl, rfl, rfl, Below.refl _ _⟩
  case round =>
    obtain ⟨k, hk, hg, rfl, rfl, rfl, hbel⟩ := hrel
    have HB := hid hbel
    clear hbel g0 g1
    by_cases hlt : k < N
    · obtain ⟨b1, o1, rfl, hb1, hc1⟩ := (HI1.out.keep HB.out).row (by omega)
      obtain ⟨b2, o2, rfl, hb2, hc2⟩ := (HJ1.out.keep HB.out).row (by omega)
      have g0 := (HO1.out.keep HB.out).p0
      have g1 := (HO1.out.keep HB.out).p1
      have g2 := hc1 k hlt
      have g3 := hc2 k hlt
      rw [vsL_at] at g2
      rw [wsL_at] at g3
      have hkl : k < l.length := by rw [← HN.out]; exact hlt
      have hat := HG.out.2.at hkl
      have HE1 := hid (E_take sq l hkl)
      have HE2 := hid (E_take one l hkl)
      have c1 := E_sq_bd  (HG.out.2.take (k + 1))
      have c2 := E_one_bd (HG.out.2.take (k + 1))
      have c3 := E_sq_bd  (HG.out.2.take k)
      have c4 := E_one_bd (HG.out.2.take k)
      rw [HE1.out] at c1
      rw [HE2.out] at c2
      have hkI : (k : Int) < (N : Int) := by omega
      clear hc1 hc2 hkl
      generalize (l.getD k (0, 0)).1 = x at *
      generalize (l.getD k (0, 0)).2 = y at *
      obtain ⟨h1, h2, h3, h4⟩ := hat
      obtain ⟨z, hz0⟩ : ∃ z, x * x = z := ⟨_, rfl⟩
      have hzb := sq_bd h1 h2
      rw [hz0] at hzb
      obtain ⟨z1, z2⟩ := hzb
      rw [show y * sq x = y * z from by rw [← hz0]; rfl] at c1 HE1
      have HZ0 := hid hz0
      clear hz0
      rw [show y * one x = y from Int.mul_one y] at c2 HE2
      generalize E sq (l.take k) = s at *
      generalize E one (l.take k) = t at *
      have p1 : -40000 ≤ y * z ∧ y * z ≤ 40000 := mul_bd (A := 100) (B := 400) (by omega) (by omega) (by omega) (by omega)
      obtain ⟨p1, p2⟩ := p1
      obtain ⟨c11, c12⟩ := c1
      obtain ⟨c21, c22⟩ := c2
      obtain ⟨c31, c32⟩ := c3
      obtain ⟨c41, c42⟩ := c4
      go_wp2_with fail
      go_quiet ((go_at_call 34; exact Calls.quiet_of_same (spread1_any x z _ HZ0.out h1 h2)))
      go_wp2
      go_roundg (N - (k + 1))
      case measure => omega
      case rel => exact ⟨k + 1, by omega, by omega, by go_num, by rw [HE1.out], by rw [HE2.out], below_drewN HB.out _⟩
    · obtain rfl : k = N := by omega
      have HT : Hid (l.take k = l) := by rw [HN.out]; exact List.take_length
      rw [HT.out]
      have g0 := (HO1.out.keep HB.out).p0
      have g1 := (HO1.out.keep HB.out).p1
      have HM := fun W => rmake_ok (E sq l) (E one l) W (by omega) (by omega) (by omega) (by omega) (by omega)
      obtain ⟨P, hP⟩ : ∃ P, (Rat.divInt (E sq l) (E one l)).num = P := ⟨_, rfl⟩
      obtain ⟨Q, hQ⟩ : ∃ Q, ((Rat.divInt (E sq l) (E one l)).den : Int) = Q := ⟨_, rfl⟩
      rw [hP, hQ] at HM
      have HM := hid HM
      have HP := hid hP
      have HQ := hid hQ
      clear hP hQ
      generalize E sq l = s at *
      generalize E one l = t at *
      go_wp2_with fail
      refine (HM.out _).mono ?_
      rintro e w2 ⟨rfl, hb⟩
      have hz := (HZ1.out.keep HB.out).keep hb
      have HB2 := hid (below_step (below_step HB1.out (Nat.le_refl _) HB.out) (Nat.le_refl _) hb)
      clear g0 g1 hb HB1 HB
      have g0 := hz.p0
      have g1 := hz.p1
      have f0 := hz.f0
      have f1 := hz.f1
      clear hz
      go_wp2
      (try simp only [Exit.inBlock, Exit.then])
      refine bodyPost_ret (v := .tuple #[.agg #[.int .i64 P, .int .i64 Q], .int .i64 0]) ?_ rfl ⟨by rw [HP.out, HQ.out], HB2.out.trans (below_set2 (by omega))⟩
      rw [results_cell_tmp rfl]
      go_simp

set_option maxHeartbeats 3200000 in
set_option maxRecDepth 100000 in
theorem exp_ge (A : Option Addr) (n c : Nat) (B : Option Addr) (m d : Nat) (l : List (Int × Int)) (least : Int) (bl : Nat) (w : World) (hI : Ints w A n (vsL l)) (hJ : Ints w B m (wsL l)) (hG : GoodD l) (hC : w.cell? ⟨bl, 0, none⟩ = some (.int .i64 least)) (hCl : bl < w.heap.size) :
    Calls Try.prog 32 #[.agg #[.slice A n c, .slice B m d], .func (.func 35) #[] #[.pointer (some ⟨bl, 0, none⟩)]] w (RetR w (Rat.divInt (E (geI least) l) (E one l)).num ((Rat.divInt (E (geI least) l) (E one l)).den : Int) 0) := by
  have HB0 : Hid (Below w.heap.size w ((w.alloc (.cells #[.slice A n c, .slice B m d] 24)).alloc (.cells #[.int .i64 0, .int .i64 0] 26))) := two_alloc w _ _
  have HZ : Hid (RatAt ((w.alloc (.cells #[.slice A n c, .slice B m d] 24)).alloc (.cells #[.int .i64 0, .int .i64 0] 26)) (w.heap.size + 1) 0 0) := rat_second w _ _ 0 0
  have HO : Hid (OddsAt ((w.alloc (.cells #[.slice A n c, .slice B m d] 24)).alloc (.cells #[.int .i64 0, .int .i64 0] 26)) w.heap.size A n c B m d) := (OddsAt.new w _ A n c B m d).keep_alloc _
  have HI := hid (hI.keep (two_alloc w (.cells #[.slice A n c, .slice B m d] 24) (.cells #[.int .i64 0, .int .i64 0] 26)))
  have HJ := hid (hJ.keep (two_alloc w (.cells #[.slice A n c, .slice B m d] 24) (.cells #[.int .i64 0, .int .i64 0] 26)))
  have hn : n = l.length := by rw [← hI.len, vsL_len]
  have hm : m = l.length := by rw [← hJ.len, wsL_len]
  subst hn
  subst hm
  have HG := hid hG
  have HOE := hid (oddErr_of hG)
  have hl1 := hG.1
  have hl2 := hG.2.1
  have e1 := E_ge_bd least hG.2
  have e2 := E_one_bd hG.2
  have e3 := E_one_pos hG
  obtain ⟨a1, a2⟩ := e1
  obtain ⟨a3, a4⟩ := e2
  obtain ⟨N, hN⟩ : ∃ N, N = l.length := ⟨_, rfl⟩
  rw [← hN] at HI HJ HB0 HZ HO hl1 hl2 ⊢
  have HN := hid hN
  have HC0 : Hid (((w.alloc (.cells #[.slice A N c, .slice B N d] 24)).alloc (.cells #[.int .i64 0, .int .i64 0] 26)).cell? ⟨bl, 0, none⟩ = some (.int .i64 least)) := ((two_alloc w (.cells #[.slice A N c, .slice B N d] 24) (.cells #[.int .i64 0, .int .i64 0] 26)).cell (p := ⟨bl, 0, none⟩) hCl).trans hC
  clear hC
  clear hG hI hJ hN
  go_enter Try.func32, Try.ntmps32
  go_wp2_with fail
  refine (ocheck_any A N c B N d (vsL l) (wsL l) _ HI.out HJ.out).mono ?_
  rintro e w1 ⟨rfl, hb⟩
  rw [HOE.out]
  have HZ1 := hid (HZ.out.keep hb)
  have HO1 := hid (HO.out.keep hb)
  have HI1 := hid (HI.out.keep hb)
  have HJ1 := hid (HJ.out.keep hb)
  have hCl2 : bl < ((w.alloc (.cells #[.slice A N c, .slice B N d] 24)).alloc (.cells #[.int .i64 0, .int .i64 0] 26)).heap.size := by simp; omega
  have HC1 : Hid (w1.cell? ⟨bl, 0, none⟩ = some (.int .i64 least)) := (hb.cell (p := ⟨bl, 0, none⟩) hCl2).trans HC0.out
  have hCl1 : bl < w1.heap.size := Nat.lt_of_lt_of_le hCl2 hb.size
  clear HC0 hCl2
  have HB1 := hid (below_step HB0.out (by simp) hb)
  clear hb HB0 HZ HI HJ HO HOE
  have g0 := HO1.out.p0
  have g1 := HO1.out.p1
  go_wp2_with fail
  go_loopg [20, 7, 8, 9, 10] N (fun g s a t _ _ wr => ∃ k : Nat, k ≤ N ∧ N - k ≤ g ∧ s = .int .i64 k ∧ a = .int .i64 (E (geI least) (l.take k)) ∧ t = .int .i64 (E one (l.take k)) ∧ Below w1.heap.size w1 wr)
  case atStart => exact ⟨0, Nat.zero_le _, by omega, rfl, rfl, rfl, Below.refl _ _⟩
  case round =>
    obtain ⟨k, hk, hg, rfl, rfl, rfl, hbel⟩ := hrel
    have HB := hid hbel
    clear hbel g0 g1
    by_cases hlt : k < N
    · obtain ⟨b1, o1, rfl, hb1, hc1⟩ := (HI1.out.keep HB.out).row (by omega)
      obtain ⟨b2, o2, rfl, hb2, hc2⟩ := (HJ1.out.keep HB.out).row (by omega)
      have g0 := (HO1.out.keep HB.out).p0
      have g1 := (HO1.out.keep HB.out).p1
      have g2 := hc1 k hlt
      have g3 := hc2 k hlt
      rw [vsL_at] at g2
      rw [wsL_at] at g3
      have HC2 : Hid (wr.cell? ⟨bl, 0, none⟩ = some (.int .i64 least)) := (HB.out.cell (p := ⟨bl, 0, none⟩) hCl1).trans HC1.out
      have hkl : k < l.length := by rw [← HN.out]; exact hlt
      have hat := HG.out.2.at hkl
      have HE1 := hid (E_take (geI least) l hkl)
      have HE2 := hid (E_take one l hkl)
      have c1 := E_ge_bd least (HG.out.2.take (k + 1))
      have c2 := E_one_bd (HG.out.2.take (k + 1))
      have c3 := E_ge_bd least (HG.out.2.take k)
      have c4 := E_one_bd (HG.out.2.take k)
      rw [HE1.out] at c1
      rw [HE2.out] at c2
      have hkI : (k : Int) < (N : Int) := by omega
      clear hc1 hc2 hkl
      generalize (l.getD k (0, 0)).1 = x at *
      generalize (l.getD k (0, 0)).2 = y at *
      obtain ⟨h1, h2, h3, h4⟩ := hat
      have HBY : Hid (∀ W : World, W.cell? ⟨bl, 0, none⟩ = some (.int .i64 least) → Calls Try.prog 35 #[.int .i64 x, .pointer (some ⟨bl, 0, none⟩)] W fun e w' => e = .returned (.int .i64 (geI least x)) ∧ w' = W) := fun W h => beyond1_any x least bl W h
      have hzb := ge_bd least x
      generalize geI least x = z at *
      obtain ⟨z1, z2⟩ := hzb
      rw [show y * one x = y from Int.mul_one y] at c2 HE2
      generalize E (geI least) (l.take k) = s at *
      generalize E one (l.take k) = t at *
      have p1 : -40000 ≤ y * z ∧ y * z ≤ 40000 := mul_bd (A := 100) (B := 400) (by omega) (by omega) (by omega) (by omega)
      obtain ⟨p1, p2⟩ := p1
      obtain ⟨c11, c12⟩ := c1
      obtain ⟨c21, c22⟩ := c2
      obtain ⟨c31, c32⟩ := c3
      obtain ⟨c41, c42⟩ := c4
      go_wp2_with fail
      go_quiet ((go_at_call 35; exact Calls.quiet_of_same (HBY.out _ (by first | exact HC2.out | (simp; exact HC2.out)))))
      go_wp2
      go_roundg (N - (k + 1))
      case measure => omega
      case rel => exact ⟨k + 1, by omega, by omega, by go_num, by rw [HE1.out], by rw [HE2.out], below_drewN HB.out _⟩
    · obtain rfl : k = N := by omega
      have HT : Hid (l.take k = l) := by rw [HN.out]; exact List.take_length
      rw [HT.out]
      have g0 := (HO1.out.keep HB.out).p0
      have g1 := (HO1.out.keep HB.out).p1
      have HM := fun W => rmake_ok (E (geI least) l) (E one l) W (by omega) (by omega) (by omega) (by omega) (by omega)
      obtain ⟨P, hP⟩ : ∃ P, (Rat.divInt (E (geI least) l) (E one l)).num = P := ⟨_, rfl⟩
      obtain ⟨Q, hQ⟩ : ∃ Q, ((Rat.divInt (E (geI least) l) (E one l)).den : Int) = Q := ⟨_, rfl⟩
      rw [hP, hQ] at HM
      have HM := hid HM
      have HP := hid hP
      have HQ := hid hQ
      clear hP hQ
      generalize E (geI least) l = s at *
      generalize E one l = t at *
      go_wp2_with fail
      refine (HM.out _).mono ?_
      rintro e w2 ⟨rfl, hb⟩
      have hz := (HZ1.out.keep HB.out).keep hb
      have HB2 := hid (below_step (below_step HB1.out (Nat.le_refl _) HB.out) (Nat.le_refl _) hb)
      clear g0 g1 hb HB1 HB
      have g0 := hz.p0
      have g1 := hz.p1
      have f0 := hz.f0
      have f1 := hz.f1
      clear hz
      go_wp2
      (try simp only [Exit.inBlock, Exit.then])
      refine bodyPost_ret (v := .tuple #[.agg #[.int .i64 P, .int .i64 Q], .int .i64 0]) ?_ rfl ⟨by rw [HP.out, HQ.out], HB2.out.trans (below_set2 (by omega))⟩
      rw [results_cell_tmp rfl]
      go_simp
end Go.Proofs.Ythdjbmogdlodcaa
