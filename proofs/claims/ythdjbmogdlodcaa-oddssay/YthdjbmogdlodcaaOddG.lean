/-
  castref.OddsSum, SpreadOf.
-/
import Derived.Test.YthdjbmogdlodcaaOddN
import Derived.Test.YthdjbmogdlodcaaOddA
import Derived.Test.YthdjbmogdlodcaaRatE
namespace Go.Proofs.Ythdjbmogdlodcaa
open Go.RowKit

set_option maxHeartbeats 1600000 in
set_option maxRecDepth 100000 in
theorem refOddsSum_ok (A : Option Addr) (n c : Nat) (B : Option Addr) (m d : Nat) (l : List (Int × Int)) (w : World) (hI : Ints w A n (vsL l)) (hJ : Ints w B m (wsL l)) (hF : Fine l) :
    Calls Try.prog 16 #[.agg #[.slice A n c, .slice B m d]] w fun e w' => e = .returned (.tuple #[.int .i64 (E one l), .int .i64 (E idI l)]) ∧ Below w.heap.size w w' := by
  have HB0 : Hid (Below w.heap.size w (w.alloc (.cells #[.slice A n c, .slice B m d] 24))) := below_alloc w _
  have hn : n = l.length := by rw [← hI.len, vsL_len]
  have hm : m = l.length := by rw [← hJ.len, wsL_len]
  have hmn := hn.trans hm.symm
  subst hmn
  have HN := hid hn
  have HF := hid hF
  have hl2 : n ≤ 12 := by rw [hn]; exact hF.1
  have HI := hid hI
  have HJ := hid hJ
  clear hI hJ hF hn hm
  go_enter Try.func16, Try.ntmps16
  go_wp2_with fail
  obtain ⟨W, hW⟩ : ∃ W, W = w.alloc (.cells #[.slice A n c, .slice B n d] 24) := ⟨_, rfl⟩
  have HO : Hid (OddsAt W w.heap.size A n c B n d) := by rw [hW]; exact OddsAt.new w _ A n c B n d
  have HI1 : Hid (Ints W A n (vsL l)) := by rw [hW]; exact HI.out.keep (below_alloc _ _)
  have HJ1 : Hid (Ints W B n (wsL l)) := by rw [hW]; exact HJ.out.keep (below_alloc _ _)
  rw [← hW] at HB0 ⊢
  clear hW HI HJ
  have g0 := HO.out.p0
  have g1 := HO.out.p1
  go_loopg [11, 4, 5, 6, 7] n (fun g s t a _ _ wr => ∃ k : Nat, k ≤ n ∧ n - k ≤ g ∧ s = .int .i64 k ∧ t = .int .i64 (E one (l.take k)) ∧ a = .int .i64 (E idI (l.take k)) ∧ W = wr)
  case atStart => exact ⟨0, Nat.zero_le _, by omega, rfl, rfl, rfl, rfl⟩
  case round =>
    obtain ⟨k, hk, hg, rfl, rfl, rfl, rfl⟩ := hrel
    by_cases hlt : k < n
    · obtain ⟨b1, o1, rfl, hb1, hc1⟩ := HI1.out.row (by omega)
      obtain ⟨b2, o2, rfl, hb2, hc2⟩ := HJ1.out.row (by omega)
      have g2 := hc1 k hlt
      have g3 := hc2 k hlt
      rw [vsL_at] at g2
      rw [wsL_at] at g3
      have hkl : k < l.length := by rw [← HN.out]; exact hlt
      have hat := HF.out.at hkl
      have HE1 := hid (E_take idI l hkl)
      have HE2 := hid (E_take one l hkl)
      have c1 := E_id_bd (HF.out.take (k + 1))
      have c2 := E_one_bd (HF.out.take (k + 1))
      have c3 := E_id_bd (HF.out.take k)
      have c4 := E_one_bd (HF.out.take k)
      rw [HE1.out] at c1
      rw [HE2.out] at c2
      have hkI : (k : Int) < (n : Int) := by omega
      clear hc1 hc2 hkl
      generalize (l.getD k (0, 0)).1 = x at *
      generalize (l.getD k (0, 0)).2 = y at *
      obtain ⟨h1, h2, h3, h4⟩ := hat
      rw [show y * idI x = y * x from rfl] at c1 HE1
      rw [show y * one x = y from Int.mul_one y] at c2 HE2
      generalize E idI (l.take k) = s at *
      generalize E one (l.take k) = t at *
      have p1 : -40000 ≤ y * x ∧ y * x ≤ 40000 := mul_bd (A := 100) (B := 400) (by omega) (by omega) (by omega) (by omega)
      obtain ⟨p1, p2⟩ := p1
      obtain ⟨c11, c12⟩ := c1
      obtain ⟨c21, c22⟩ := c2
      obtain ⟨c31, c32⟩ := c3
      obtain ⟨c41, c42⟩ := c4
      go_wp2
      go_roundg (n - (k + 1))
      case measure => omega
      case rel => exact ⟨k + 1, by omega, by omega, by go_num, by rw [HE2.out], by rw [HE1.out], rfl⟩
    · obtain rfl : k = n := by omega
      have HT : Hid (l.take k = l) := by rw [HN.out]; exact List.take_length
      rw [HT.out]
      go_wp2
      go_ret2
      exact ⟨rfl, HB0.out⟩

theorem off_bd {l : List (Int × Int)} (h : Fine l) (n s : Int) (hn : 0 ≤ n) (hn' : n ≤ 1200) (hs : -24000 ≤ s) (hs' : s ≤ 24000) : 0 ≤ E (fun x => (n * x - s) * (n * x - s)) l ∧ E (fun x => (n * x - s) * (n * x - s)) l ≤ 2764800000000 := by
  have := E_bd (fun x => (n * x - s) * (n * x - s)) 0 2304000000 (by omega) (by omega) l h (fun p hp => by
    have h1 := h.2 p hp
    have h2 := mul_bd (A := 1200) (B := 20) (a := n) (b := p.1) (by omega) hn' (by omega) (by omega)
    have h3 := mul_bd (A := 48000) (B := 48000) (a := n * p.1 - s) (b := n * p.1 - s) (by omega) (by omega) (by omega) (by omega)
    have h4 : 0 ≤ (n * p.1 - s) * (n * p.1 - s) := by
      rcases Int.le_total 0 (n * p.1 - s) with h | h
      · exact Int.mul_nonneg h h
      · have := Int.mul_nonneg (show 0 ≤ -(n * p.1 - s) by omega) (show 0 ≤ -(n * p.1 - s) by omega)
        rwa [Int.neg_mul_neg] at this
    omega)
  omega

set_option maxHeartbeats 3200000 in
set_option maxRecDepth 100000 in
theorem refSpreadOf_ok (A : Option Addr) (n c : Nat) (B : Option Addr) (m d : Nat) (l : List (Int × Int)) (w : World) (hI : Ints w A n (vsL l)) (hJ : Ints w B m (wsL l)) (hG : GoodD l) :
    Calls Try.prog 18 #[.agg #[.slice A n c, .slice B m d]] w fun e w' => e = .returned (.agg #[.int .i64 (var l).num, .int .i64 ((var l).den : Int)]) ∧ Below w.heap.size w w' := by
  have HB0 : Hid (Below w.heap.size w ((w.alloc (.cells #[.slice A n c, .slice B m d] 24)).alloc (.cells #[.int .i64 0, .int .i64 0] 26))) := two_alloc w _ _
  have HZ : Hid (RatAt ((w.alloc (.cells #[.slice A n c, .slice B m d] 24)).alloc (.cells #[.int .i64 0, .int .i64 0] 26)) (w.heap.size + 1) 0 0) := rat_second w _ _ 0 0
  have HO : Hid (OddsAt ((w.alloc (.cells #[.slice A n c, .slice B m d] 24)).alloc (.cells #[.int .i64 0, .int .i64 0] 26)) w.heap.size A n c B m d) := (OddsAt.new w _ A n c B m d).keep_alloc _
  have HX := hid (refOddsSum_ok A n c B m d l _ (hI.keep HB0.out) (hJ.keep HB0.out) hG.2)
  have HI := hid (hI.keep HB0.out)
  have HJ := hid (hJ.keep HB0.out)
  have hn : n = l.length := by rw [← hI.len, vsL_len]
  have hm : m = l.length := by rw [← hJ.len, wsL_len]
  have hmn := hn.trans hm.symm
  subst hmn
  have HN := hid hn
  have HF := hid hG.2
  have hl2 : n ≤ 12 := by rw [hn]; exact hG.2.1
  have HC := hid (var_cube hG)
  have a1 := E_id_bd hG.2
  have a2 := E_one_bd hG.2
  have a3 := E_one_pos hG
  obtain ⟨S, hS⟩ : ∃ S, E idI l = S := ⟨_, rfl⟩
  obtain ⟨T, hT⟩ : ∃ T, E one l = T := ⟨_, rfl⟩
  rw [hS] at HX HC a1
  rw [hT] at HX HC a2 a3
  have HOB := hid (fun k => off_bd (HF.out.take k) T S a2.1 a2.2 a1.1 a1.2)
  obtain ⟨a11, a12⟩ := a1
  obtain ⟨a21, a22⟩ := a2
  clear hI hJ hn hm hS hT hG
  go_enter Try.func18, Try.ntmps18
  go_wp2_with fail
  refine HX.out.mono ?_
  rintro e w1 ⟨rfl, hb⟩
  have HZ1 := hid (HZ.out.keep hb)
  have HO1 := hid (HO.out.keep hb)
  have HI1 := hid (HI.out.keep hb)
  have HJ1 := hid (HJ.out.keep hb)
  have HB1 := hid (below_step HB0.out (by simp) hb)
  clear hb HB0 HZ HI HJ HO HX
  have g0 := HO1.out.p0
  have g1 := HO1.out.p1
  go_wp2_with fail
  go_loopg [18, 5, 6, 7, 8] n (fun g s a _ _ _ wr => ∃ k : Nat, k ≤ n ∧ n - k ≤ g ∧ s = .int .i64 k ∧ a = .int .i64 (E (fun x => (T * x - S) * (T * x - S)) (l.take k)) ∧ w1 = wr)
  case atStart => exact ⟨0, Nat.zero_le _, by omega, rfl, rfl, rfl⟩
  case round =>
    obtain ⟨k, hk, hg, rfl, rfl, rfl⟩ := hrel
    by_cases hlt : k < n
    · obtain ⟨b1, o1, rfl, hb1, hc1⟩ := HI1.out.row (by omega)
      obtain ⟨b2, o2, rfl, hb2, hc2⟩ := HJ1.out.row (by omega)
      have g2 := hc1 k hlt
      have g3 := hc2 k hlt
      rw [vsL_at] at g2
      rw [wsL_at] at g3
      have hkl : k < l.length := by rw [← HN.out]; exact hlt
      have hat := HF.out.at hkl
      have HE1 := hid (E_take (fun x => (T * x - S) * (T * x - S)) l hkl)
      have c1 := HOB.out (k + 1)
      have c3 := HOB.out k
      rw [HE1.out] at c1
      have hkI : (k : Int) < (n : Int) := by omega
      clear hc1 hc2 hkl
      generalize (l.getD k (0, 0)).1 = x at *
      generalize (l.getD k (0, 0)).2 = y at *
      obtain ⟨h1, h2, h3, h4⟩ := hat
      generalize E (fun x => (T * x - S) * (T * x - S)) (l.take k) = s at *
      have p1 : -24000 ≤ T * x ∧ T * x ≤ 24000 := mul_bd (A := 1200) (B := 20) (by omega) (by omega) (by omega) (by omega)
      obtain ⟨p1, p2⟩ := p1
      have p3 : -4800000 ≤ y * (T * x - S) ∧ y * (T * x - S) ≤ 4800000 := mul_bd (A := 100) (B := 48000) (by omega) (by omega) (by omega) (by omega)
      have p5 : -230400000000 ≤ y * (T * x - S) * (T * x - S) ∧ y * (T * x - S) * (T * x - S) ≤ 230400000000 := mul_bd (A := 4800000) (B := 48000) p3.1 p3.2 (by omega) (by omega)
      rw [show y * ((T * x - S) * (T * x - S)) = y * (T * x - S) * (T * x - S) from (Int.mul_assoc _ _ _).symm] at c1 HE1
      obtain ⟨p3, p4⟩ := p3
      obtain ⟨p5, p6⟩ := p5
      obtain ⟨c11, c12⟩ := c1
      obtain ⟨c31, c32⟩ := c3
      go_wp2
      go_roundg (n - (k + 1))
      case measure => omega
      case rel => exact ⟨k + 1, by omega, by omega, by go_num, by rw [HE1.out], rfl⟩
    · obtain rfl : k = n := by omega
      have HT : Hid (l.take k = l) := by rw [HN.out]; exact List.take_length
      rw [HT.out]
      have hb := HOB.out k
      rw [HT.out] at hb
      generalize E (fun x => (T * x - S) * (T * x - S)) l = a at *
      obtain ⟨b1, b2⟩ := hb
      have p1 : -1440000 ≤ T * T ∧ T * T ≤ 1440000 := mul_bd (A := 1200) (B := 1200) (by omega) (by omega) (by omega) (by omega)
      have p2 : -1728000000 ≤ T * T * T ∧ T * T * T ≤ 1728000000 := mul_bd (A := 1440000) (B := 1200) p1.1 p1.2 (by omega) (by omega)
      have p0 : 0 < T * T * T := Int.mul_pos (Int.mul_pos (by omega) (by omega)) (by omega)
      have l1 := low_num a (T * T * T) (by omega)
      have l2 := low_den a (T * T * T) (by omega)
      rw [if_neg (by omega)] at l1 l2
      rw [← HC.out] at l1 l2
      have hG : 1 ≤ Int.gcd a (T * T * T) := Int.gcd_pos_of_ne_zero_right _ (by omega)
      have hgb : Int.gcd a (T * T * T) ≤ (T * T * T).natAbs := Int.gcd_le_natAbs_right _ (by omega)
      have hW1 : Wide a := ⟨by omega, by omega⟩
      have hW2 : Wide (T * T * T) := ⟨by omega, by omega⟩
      have v1 : (var l).num.natAbs ≤ 3000000000000 := by rw [← l1]; exact Nat.le_trans (Int.natAbs_tdiv_le_natAbs _ _) (by omega)
      have v2 : (var l).den ≤ 3000000000000 := by
        have : ((var l).den : Int).natAbs ≤ 3000000000000 := by rw [← l2]; exact Nat.le_trans (Int.natAbs_tdiv_le_natAbs _ _) (by omega)
        simpa using this
      obtain ⟨p1, p1'⟩ := p1
      obtain ⟨p2, p2'⟩ := p2
      obtain ⟨P, hP⟩ : ∃ P, (var l).num = P := ⟨_, rfl⟩
      obtain ⟨Q, hQ⟩ : ∃ Q, ((var l).den : Int) = Q := ⟨_, rfl⟩
      rw [hP] at l1
      rw [hQ] at l2
      have v3 : -3000000000000 ≤ P ∧ P ≤ 3000000000000 := by omega
      have v4 : 0 ≤ Q ∧ Q ≤ 3000000000000 := by omega
      obtain ⟨v3, v3'⟩ := v3
      obtain ⟨v4, v4'⟩ := v4
      have HP := hid hP
      have HQ := hid hQ
      have f0 := HZ1.out.f0
      have f1 := HZ1.out.f1
      have hzl := HZ1.out.lt
      have h0 := HZ1.out.p0
      have h1 := HZ1.out.p1
      clear hP hQ v1 v2 HC
      go_wp2_with fail
      refine (common_any a (T * T * T) _ hW1 hW2).mono ?_
      rintro e w' ⟨rfl, rfl⟩
      have hgb2 : ((Int.gcd a (T * T * T) : Nat) : Int) ≤ 1728000000 := by omega
      clear hgb
      generalize Int.gcd a (T * T * T) = G at *
      have hG1 : 1 ≤ (G : Int) := by omega
      have hG0 : (G : Int) ≠ 0 := by omega
      clear g0 g1
      go_wp2_with fail
      go_region
      go_wp2
      (try simp only [Exit.inBlock, Exit.then])
      refine bodyPost_ret (v := .agg #[.int .i64 P, .int .i64 Q]) ?_ rfl ⟨by rw [HP.out, HQ.out], (below_drewN HB1.out 1).trans (below_set2 (by omega))⟩
      rw [results]
      go_simp
end Go.Proofs.Ythdjbmogdlodcaa
