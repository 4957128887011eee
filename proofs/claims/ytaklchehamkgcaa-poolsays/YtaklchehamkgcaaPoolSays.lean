/-
  castlaw.PoolSays, walked.
-/
import Derived.Test.YtaklchehamkgcaaPoolE
import Derived.Test.YtaklchehamkgcaaPoolD
import Derived.Test.YtaklchehamkgcaaChoR
import Derived.Test.YtaklchehamkgcaaFct
import Derived.Test.YtaklchehamkgcaaAlk
namespace Go.Proofs.Ytaklchehamkgcaa
open Go.RowKit

theorem upL_nil : upL [] = [] := List.eq_nil_of_length_eq_zero (by rw [upL_len]; rfl)
theorem choP_self : ∀ k : Fin 13, cho k.1 k.1 = 1 := by decide +kernel
theorem ways_prod {n k : Nat} (hn : n ≤ 10) (hk : k ≤ 12) : wyN n k * cho (max n k) k = fact n := by
  by_cases h : k ≤ n
  · rw [show max n k = n by omega]
    exact wyN_times hn h
  · rw [show max n k = k by omega, choP_self ⟨k, by omega⟩, Nat.mul_one]
    exact wyN_few hn hk (by omega)
theorem ways_wrap {n k : Nat} (hn : n ≤ 10) (hk : k ≤ 12) : IntKind.i64.wrap (((wyN n k : Nat) : Int) * ((cho (max n k) k : Nat) : Int)) = ((fact n : Nat) : Int) := by
  rw [← Int.natCast_mul, ways_prod hn hk]
  have := fact_ten hn
  exact IntWalk.i64_in _ (by omega)

set_option maxHeartbeats 2000000 in
theorem poolSaysNegErr (k0 : Int) (A : Option Addr) (nl c : Nat) (xs : List Int) (n0 : Int) (w : World) (h : Ints w A nl xs) (h1 : n0 < 0) (he : poErr k0 xs ≠ 0) :
    Calls Try.prog 3 #[.int .i64 k0, .slice A nl c, .int .i64 n0] w fun e w' => e = .returned (.bool true) ∧ Below w.heap.size w w' := by
  have HR := hid (poRun_any k0 A nl c xs w h)
  have HC := hid (fun W (hI : Ints W A nl xs) => poChosen_any k0 A nl c xs W hI)
  have HE := hid (fun W (hI : Ints W A nl xs) => refPool_any k0 A nl c xs W hI)
  have HK := hid (fun W (hI : Ints W A nl xs) => poCheck_any k0 A nl c xs W hI)
  rw [poolX_bad he] at HR
  have HC2 : Hid (∀ W, Ints W A nl xs → Calls Try.prog 8 #[.int .i64 k0, .slice A nl c] W (RetOwnE W [] (poErr k0 xs))) := by intro W hI; have := HC.out W hI; rw [poolX_bad he, upL_nil] at this; exact this
  have hz : (poErr k0 xs != 0) = true := by simpa using he
  clear he HC
  generalize poErr k0 xs = E at *
  have hz1 : (E != E) = false := by simp
  have hz2 : (E == E) = true := by simp
  have HWY := hid (fun W => ways_bad n0 k0 W (.inl h1))
  have HI := hid h
  clear h
  go_enter Try.func3, Try.ntmps3
  go_wp2_with fail
  refine HR.out.mono ?_
  rintro e w1 ⟨v1, rfl, ho, hb⟩
  have HB1 := hid hb
  have HI1 := hid (HI.out.keep hb)
  obtain ⟨A1, c1, rfl, hI, -⟩ := ho.ints
  have HR1 := hid hI
  clear ho hb hI HR HI
  go_wp2_with fail
  refine (HC2.out w1 HI1.out).mono ?_
  rintro e w2 ⟨v2, rfl, ho, hb⟩
  have HB2 := hid (below_step HB1.out (Nat.le_refl _) hb)
  have HI2 := hid (HI1.out.keep hb)
  have HR2 := hid (HR1.out.keep hb)
  obtain ⟨A2, c2, rfl, hI, -⟩ := ho.ints
  have HC3 := hid hI
  clear ho hb hI HC2 HB1 HI1 HR1
  rw [List.length_nil] at *
  go_wp2_with fail
  refine (HWY.out w2).mono ?_
  rintro e w' ⟨rfl, rfl⟩
  clear HWY
  obtain ⟨w3, rfl⟩ : ∃ w3, w3 = w2 := ⟨_, rfl⟩
  have HB3 := HB2
  have HI3 := HI2
  have HR3 := HR2
  have HC4 := HC3
  clear HB2 HI2 HR2 HC3
  go_wp2_with fail
  refine (HE.out w3 HI3.out).mono ?_
  rintro e w' ⟨rfl, rfl⟩
  go_wp2_with fail
  refine (HK.out w3 HI3.out).mono ?_
  rintro e w' ⟨rfl, rfl⟩
  go_wp2
  go_ret
  exact ⟨rfl, HB3.out⟩

set_option maxHeartbeats 2000000 in
theorem poolSaysNegOk (k : Nat) (A : Option Addr) (nl c : Nat) (xs : List Int) (n0 : Int) (w : World) (h : Ints w A nl xs) (h1 : n0 < 0) (he : poErr (k : Int) xs = 0) :
    Calls Try.prog 3 #[.int .i64 (k : Int), .slice A nl c, .int .i64 n0] w fun e w' => e = .returned (.bool true) ∧ Below w.heap.size w w' := by
  have HR := hid (poRun_any (k : Int) A nl c xs w h)
  have HC := hid (fun W (hI : Ints W A nl xs) => poChosen_any (k : Int) A nl c xs W hI)
  have HE := hid (fun W (hI : Ints W A nl xs) => refPool_any (k : Int) A nl c xs W hI)
  have HK := hid (fun W (hI : Ints W A nl xs) => poCheck_any (k : Int) A nl c xs W hI)
  have HP := hid (fun W (hI : Ints W A nl xs) => poolOf_ok k A nl c xs W hI he)
  rw [poolX_ok he, he, h.len] at HR
  have HC2 : Hid (∀ W, Ints W A nl xs → Calls Try.prog 8 #[.int .i64 (k : Int), .slice A nl c] W (RetOwnE W (upL (pN k xs nl)) 0)) := by intro W hI; have := HC.out W hI; rw [poolX_ok he, he, h.len] at this; exact this
  simp only [he] at HE HK
  have hl12 : (pN k xs nl).length ≤ 12 := by have := (poErr_ok.1 he).1; rw [pN_len]; omega
  have HUL := hid (fun ys => @upL_of ys (pN k xs nl))
  have HUN := hid (upL_len (pN k xs nl))
  have hkk := (poErr_ok.1 he).1
  obtain ⟨hkk1, hkk2⟩ := hkk
  clear he HC
  have hz : ((0 : Int) != 0) = false := by decide
  generalize pN k xs nl = P at *
  have HWY := hid (fun W => ways_bad n0 (k : Int) W (.inl h1))
  have HI := hid h
  clear h
  go_enter Try.func3, Try.ntmps3
  go_wp2_with fail
  refine HR.out.mono ?_
  rintro e w1 ⟨v1, rfl, ho, hb⟩
  have HB1 := hid hb
  have HI1 := hid (HI.out.keep hb)
  obtain ⟨A1, c1, rfl, hI, -⟩ := ho.ints
  have HR1 := hid hI
  clear ho hb hI HR HI
  go_wp2_with fail
  refine (HC2.out w1 HI1.out).mono ?_
  rintro e w2 ⟨v2, rfl, ho, hb⟩
  have HB2 := hid (below_step HB1.out (Nat.le_refl _) hb)
  have HI2 := hid (HI1.out.keep hb)
  have HR2 := hid (HR1.out.keep hb)
  obtain ⟨A2, c2, rfl, hI, -⟩ := ho.ints
  have HC3 := hid hI
  clear ho hb hI HC2 HB1 HI1 HR1
  rw [HUN.out] at HC3 ⊢
  go_wp2_with fail
  refine (HWY.out w2).mono ?_
  rintro e w' ⟨rfl, rfl⟩
  clear HWY
  obtain ⟨w3, rfl⟩ : ∃ w3, w3 = w2 := ⟨_, rfl⟩
  have HB3 := HB2
  have HI3 := HI2
  have HR3 := HR2
  have HC4 := HC3
  clear HB2 HI2 HR2 HC3
  go_wp2_with fail
  refine (HE.out w3 HI3.out).mono ?_
  rintro e w' ⟨rfl, rfl⟩
  go_wp2_with fail
  refine (HK.out w3 HI3.out).mono ?_
  rintro e w' ⟨rfl, rfl⟩
  go_wp2_with fail
  refine (HP.out w3 HI3.out).mono ?_
  rintro e w4 ⟨v4, rfl, ho, hb⟩
  have H34 := hid hb
  have HR4 := hid (HR3.out.keep hb)
  have HO4 := hid ho
  clear ho hb HI3 HR3 HP HE HK
  obtain ⟨A4, c4, rfl, -, -⟩ := HO4.out.ints
  go_wp2_with fail
  refine (alike_bel A1 P.length c1 A4 P.length c4 P P w4 HR4.out HO4.out.asInts.1 (by omega) (by omega)).mono ?_
  rintro e w5 ⟨rfl, hb⟩
  rw [decide_eq_true rfl]
  have H35 := hid (below_step H34.out (Nat.le_refl _) hb)
  have HO5 := hid (HO4.out.keep hb)
  clear hb H34 HR4 HO4
  go_wp2_with fail
  refine (sort_any w3.heap.size _ P w5 HO5.out hl12).mono ?_
  rintro e w6 ⟨rfl, ys, ho6, hp6, hs6, hg6⟩
  obtain rfl := HUL.out ys hp6 hs6
  have H36 : Below w3.heap.size w3 w6 := below_own H35.out HO5.out (Nat.le_refl _) (Nat.le_refl _) hg6
  have HB6 := hid (below_step HB3.out (Nat.le_refl _) H36)
  have HC6 := hid (HC4.out.keep H36)
  have HO6 := hid ho6
  clear ho6 hp6 hs6 hg6 HB3 H35 H36 HC4 HO5
  go_wp2_with fail
  refine (alike_bel A2 P.length c2 A4 P.length c4 _ _ w6 HC6.out HO6.out.asInts.1 (by omega) (by omega)).mono ?_
  rintro e w7 ⟨rfl, hb⟩
  rw [decide_eq_true rfl]
  have HB7 := hid (below_step HB6.out (Nat.le_refl _) hb)
  clear hb
  go_wp2
  go_ret
  exact ⟨rfl, HB7.out⟩

set_option maxHeartbeats 2000000 in
theorem poolSaysBigErr (k0 : Int) (A : Option Addr) (nl c : Nat) (xs : List Int) (n0 : Int) (w : World) (h : Ints w A nl xs) (h0 : ¬ n0 < 0) (h1 : 10 < n0) (he : poErr k0 xs ≠ 0) :
    Calls Try.prog 3 #[.int .i64 k0, .slice A nl c, .int .i64 n0] w fun e w' => e = .returned (.bool true) ∧ Below w.heap.size w w' := by
  have HR := hid (poRun_any k0 A nl c xs w h)
  have HC := hid (fun W (hI : Ints W A nl xs) => poChosen_any k0 A nl c xs W hI)
  have HE := hid (fun W (hI : Ints W A nl xs) => refPool_any k0 A nl c xs W hI)
  have HK := hid (fun W (hI : Ints W A nl xs) => poCheck_any k0 A nl c xs W hI)
  rw [poolX_bad he] at HR
  have HC2 : Hid (∀ W, Ints W A nl xs → Calls Try.prog 8 #[.int .i64 k0, .slice A nl c] W (RetOwnE W [] (poErr k0 xs))) := by intro W hI; have := HC.out W hI; rw [poolX_bad he, upL_nil] at this; exact this
  have hz : (poErr k0 xs != 0) = true := by simpa using he
  clear he HC
  generalize poErr k0 xs = E at *
  have hz1 : (E != E) = false := by simp
  have hz2 : (E == E) = true := by simp
  have HWY := hid (fun W => ways_bad n0 k0 W (.inr (.inl h1)))
  have HI := hid h
  clear h
  go_enter Try.func3, Try.ntmps3
  go_wp2_with fail
  refine HR.out.mono ?_
  rintro e w1 ⟨v1, rfl, ho, hb⟩
  have HB1 := hid hb
  have HI1 := hid (HI.out.keep hb)
  obtain ⟨A1, c1, rfl, hI, -⟩ := ho.ints
  have HR1 := hid hI
  clear ho hb hI HR HI
  go_wp2_with fail
  refine (HC2.out w1 HI1.out).mono ?_
  rintro e w2 ⟨v2, rfl, ho, hb⟩
  have HB2 := hid (below_step HB1.out (Nat.le_refl _) hb)
  have HI2 := hid (HI1.out.keep hb)
  have HR2 := hid (HR1.out.keep hb)
  obtain ⟨A2, c2, rfl, hI, -⟩ := ho.ints
  have HC3 := hid hI
  clear ho hb hI HC2 HB1 HI1 HR1
  rw [List.length_nil] at *
  go_wp2_with fail
  refine (HWY.out w2).mono ?_
  rintro e w' ⟨rfl, rfl⟩
  clear HWY
  obtain ⟨w3, rfl⟩ : ∃ w3, w3 = w2 := ⟨_, rfl⟩
  have HB3 := HB2
  have HI3 := HI2
  have HR3 := HR2
  have HC4 := HC3
  clear HB2 HI2 HR2 HC3
  go_wp2_with fail
  refine (HE.out w3 HI3.out).mono ?_
  rintro e w' ⟨rfl, rfl⟩
  go_wp2_with fail
  refine (HK.out w3 HI3.out).mono ?_
  rintro e w' ⟨rfl, rfl⟩
  go_wp2
  go_ret
  exact ⟨rfl, HB3.out⟩

set_option maxHeartbeats 2000000 in
theorem poolSaysBigOk (k : Nat) (A : Option Addr) (nl c : Nat) (xs : List Int) (n0 : Int) (w : World) (h : Ints w A nl xs) (h0 : ¬ n0 < 0) (h1 : 10 < n0) (he : poErr (k : Int) xs = 0) :
    Calls Try.prog 3 #[.int .i64 (k : Int), .slice A nl c, .int .i64 n0] w fun e w' => e = .returned (.bool true) ∧ Below w.heap.size w w' := by
  have HR := hid (poRun_any (k : Int) A nl c xs w h)
  have HC := hid (fun W (hI : Ints W A nl xs) => poChosen_any (k : Int) A nl c xs W hI)
  have HE := hid (fun W (hI : Ints W A nl xs) => refPool_any (k : Int) A nl c xs W hI)
  have HK := hid (fun W (hI : Ints W A nl xs) => poCheck_any (k : Int) A nl c xs W hI)
  have HP := hid (fun W (hI : Ints W A nl xs) => poolOf_ok k A nl c xs W hI he)
  rw [poolX_ok he, he, h.len] at HR
  have HC2 : Hid (∀ W, Ints W A nl xs → Calls Try.prog 8 #[.int .i64 (k : Int), .slice A nl c] W (RetOwnE W (upL (pN k xs nl)) 0)) := by intro W hI; have := HC.out W hI; rw [poolX_ok he, he, h.len] at this; exact this
  simp only [he] at HE HK
  have hl12 : (pN k xs nl).length ≤ 12 := by have := (poErr_ok.1 he).1; rw [pN_len]; omega
  have HUL := hid (fun ys => @upL_of ys (pN k xs nl))
  have HUN := hid (upL_len (pN k xs nl))
  have hkk := (poErr_ok.1 he).1
  obtain ⟨hkk1, hkk2⟩ := hkk
  clear he HC
  have hz : ((0 : Int) != 0) = false := by decide
  generalize pN k xs nl = P at *
  have HWY := hid (fun W => ways_bad n0 (k : Int) W (.inr (.inl h1)))
  have HI := hid h
  clear h
  go_enter Try.func3, Try.ntmps3
  go_wp2_with fail
  refine HR.out.mono ?_
  rintro e w1 ⟨v1, rfl, ho, hb⟩
  have HB1 := hid hb
  have HI1 := hid (HI.out.keep hb)
  obtain ⟨A1, c1, rfl, hI, -⟩ := ho.ints
  have HR1 := hid hI
  clear ho hb hI HR HI
  go_wp2_with fail
  refine (HC2.out w1 HI1.out).mono ?_
  rintro e w2 ⟨v2, rfl, ho, hb⟩
  have HB2 := hid (below_step HB1.out (Nat.le_refl _) hb)
  have HI2 := hid (HI1.out.keep hb)
  have HR2 := hid (HR1.out.keep hb)
  obtain ⟨A2, c2, rfl, hI, -⟩ := ho.ints
  have HC3 := hid hI
  clear ho hb hI HC2 HB1 HI1 HR1
  rw [HUN.out] at HC3 ⊢
  go_wp2_with fail
  refine (HWY.out w2).mono ?_
  rintro e w' ⟨rfl, rfl⟩
  clear HWY
  obtain ⟨w3, rfl⟩ : ∃ w3, w3 = w2 := ⟨_, rfl⟩
  have HB3 := HB2
  have HI3 := HI2
  have HR3 := HR2
  have HC4 := HC3
  clear HB2 HI2 HR2 HC3
  go_wp2_with fail
  refine (HE.out w3 HI3.out).mono ?_
  rintro e w' ⟨rfl, rfl⟩
  go_wp2_with fail
  refine (HK.out w3 HI3.out).mono ?_
  rintro e w' ⟨rfl, rfl⟩
  go_wp2_with fail
  refine (HP.out w3 HI3.out).mono ?_
  rintro e w4 ⟨v4, rfl, ho, hb⟩
  have H34 := hid hb
  have HR4 := hid (HR3.out.keep hb)
  have HO4 := hid ho
  clear ho hb HI3 HR3 HP HE HK
  obtain ⟨A4, c4, rfl, -, -⟩ := HO4.out.ints
  go_wp2_with fail
  refine (alike_bel A1 P.length c1 A4 P.length c4 P P w4 HR4.out HO4.out.asInts.1 (by omega) (by omega)).mono ?_
  rintro e w5 ⟨rfl, hb⟩
  rw [decide_eq_true rfl]
  have H35 := hid (below_step H34.out (Nat.le_refl _) hb)
  have HO5 := hid (HO4.out.keep hb)
  clear hb H34 HR4 HO4
  go_wp2_with fail
  refine (sort_any w3.heap.size _ P w5 HO5.out hl12).mono ?_
  rintro e w6 ⟨rfl, ys, ho6, hp6, hs6, hg6⟩
  obtain rfl := HUL.out ys hp6 hs6
  have H36 : Below w3.heap.size w3 w6 := below_own H35.out HO5.out (Nat.le_refl _) (Nat.le_refl _) hg6
  have HB6 := hid (below_step HB3.out (Nat.le_refl _) H36)
  have HC6 := hid (HC4.out.keep H36)
  have HO6 := hid ho6
  clear ho6 hp6 hs6 hg6 HB3 H35 H36 HC4 HO5
  go_wp2_with fail
  refine (alike_bel A2 P.length c2 A4 P.length c4 _ _ w6 HC6.out HO6.out.asInts.1 (by omega) (by omega)).mono ?_
  rintro e w7 ⟨rfl, hb⟩
  rw [decide_eq_true rfl]
  have HB7 := hid (below_step HB6.out (Nat.le_refl _) hb)
  clear hb
  go_wp2
  go_ret
  exact ⟨rfl, HB7.out⟩

set_option maxHeartbeats 2000000 in
theorem poolSaysLowErr (k0 : Int) (A : Option Addr) (nl c : Nat) (xs : List Int) (n0 : Int) (w : World) (h : Ints w A nl xs) (h0 : ¬ n0 < 0) (h1 : ¬ 10 < n0) (h2 : k0 < 1) (he : poErr k0 xs ≠ 0) :
    Calls Try.prog 3 #[.int .i64 k0, .slice A nl c, .int .i64 n0] w fun e w' => e = .returned (.bool true) ∧ Below w.heap.size w w' := by
  have HR := hid (poRun_any k0 A nl c xs w h)
  have HC := hid (fun W (hI : Ints W A nl xs) => poChosen_any k0 A nl c xs W hI)
  have HE := hid (fun W (hI : Ints W A nl xs) => refPool_any k0 A nl c xs W hI)
  have HK := hid (fun W (hI : Ints W A nl xs) => poCheck_any k0 A nl c xs W hI)
  rw [poolX_bad he] at HR
  have HC2 : Hid (∀ W, Ints W A nl xs → Calls Try.prog 8 #[.int .i64 k0, .slice A nl c] W (RetOwnE W [] (poErr k0 xs))) := by intro W hI; have := HC.out W hI; rw [poolX_bad he, upL_nil] at this; exact this
  have hz : (poErr k0 xs != 0) = true := by simpa using he
  clear he HC
  generalize poErr k0 xs = E at *
  have hz1 : (E != E) = false := by simp
  have hz2 : (E == E) = true := by simp
  have HWY := hid (fun W => ways_bad n0 k0 W (.inr (.inr (.inl h2))))
  have HI := hid h
  clear h
  go_enter Try.func3, Try.ntmps3
  go_wp2_with fail
  refine HR.out.mono ?_
  rintro e w1 ⟨v1, rfl, ho, hb⟩
  have HB1 := hid hb
  have HI1 := hid (HI.out.keep hb)
  obtain ⟨A1, c1, rfl, hI, -⟩ := ho.ints
  have HR1 := hid hI
  clear ho hb hI HR HI
  go_wp2_with fail
  refine (HC2.out w1 HI1.out).mono ?_
  rintro e w2 ⟨v2, rfl, ho, hb⟩
  have HB2 := hid (below_step HB1.out (Nat.le_refl _) hb)
  have HI2 := hid (HI1.out.keep hb)
  have HR2 := hid (HR1.out.keep hb)
  obtain ⟨A2, c2, rfl, hI, -⟩ := ho.ints
  have HC3 := hid hI
  clear ho hb hI HC2 HB1 HI1 HR1
  rw [List.length_nil] at *
  go_wp2_with fail
  refine (HWY.out w2).mono ?_
  rintro e w' ⟨rfl, rfl⟩
  clear HWY
  obtain ⟨w3, rfl⟩ : ∃ w3, w3 = w2 := ⟨_, rfl⟩
  have HB3 := HB2
  have HI3 := HI2
  have HR3 := HR2
  have HC4 := HC3
  clear HB2 HI2 HR2 HC3
  go_wp2_with fail
  refine (HE.out w3 HI3.out).mono ?_
  rintro e w' ⟨rfl, rfl⟩
  go_wp2_with fail
  refine (HK.out w3 HI3.out).mono ?_
  rintro e w' ⟨rfl, rfl⟩
  go_wp2
  go_ret
  exact ⟨rfl, HB3.out⟩

set_option maxHeartbeats 2000000 in
theorem poolSaysHighErr (k0 : Int) (A : Option Addr) (nl c : Nat) (xs : List Int) (n0 : Int) (w : World) (h : Ints w A nl xs) (h0 : ¬ n0 < 0) (h1 : ¬ 10 < n0) (h2 : ¬ k0 < 1) (h3 : 12 < k0) (he : poErr k0 xs ≠ 0) :
    Calls Try.prog 3 #[.int .i64 k0, .slice A nl c, .int .i64 n0] w fun e w' => e = .returned (.bool true) ∧ Below w.heap.size w w' := by
  have HR := hid (poRun_any k0 A nl c xs w h)
  have HC := hid (fun W (hI : Ints W A nl xs) => poChosen_any k0 A nl c xs W hI)
  have HE := hid (fun W (hI : Ints W A nl xs) => refPool_any k0 A nl c xs W hI)
  have HK := hid (fun W (hI : Ints W A nl xs) => poCheck_any k0 A nl c xs W hI)
  rw [poolX_bad he] at HR
  have HC2 : Hid (∀ W, Ints W A nl xs → Calls Try.prog 8 #[.int .i64 k0, .slice A nl c] W (RetOwnE W [] (poErr k0 xs))) := by intro W hI; have := HC.out W hI; rw [poolX_bad he, upL_nil] at this; exact this
  have hz : (poErr k0 xs != 0) = true := by simpa using he
  clear he HC
  generalize poErr k0 xs = E at *
  have hz1 : (E != E) = false := by simp
  have hz2 : (E == E) = true := by simp
  have HWY := hid (fun W => ways_bad n0 k0 W (.inr (.inr (.inr h3))))
  have HI := hid h
  clear h
  go_enter Try.func3, Try.ntmps3
  go_wp2_with fail
  refine HR.out.mono ?_
  rintro e w1 ⟨v1, rfl, ho, hb⟩
  have HB1 := hid hb
  have HI1 := hid (HI.out.keep hb)
  obtain ⟨A1, c1, rfl, hI, -⟩ := ho.ints
  have HR1 := hid hI
  clear ho hb hI HR HI
  go_wp2_with fail
  refine (HC2.out w1 HI1.out).mono ?_
  rintro e w2 ⟨v2, rfl, ho, hb⟩
  have HB2 := hid (below_step HB1.out (Nat.le_refl _) hb)
  have HI2 := hid (HI1.out.keep hb)
  have HR2 := hid (HR1.out.keep hb)
  obtain ⟨A2, c2, rfl, hI, -⟩ := ho.ints
  have HC3 := hid hI
  clear ho hb hI HC2 HB1 HI1 HR1
  rw [List.length_nil] at *
  go_wp2_with fail
  refine (HWY.out w2).mono ?_
  rintro e w' ⟨rfl, rfl⟩
  clear HWY
  obtain ⟨w3, rfl⟩ : ∃ w3, w3 = w2 := ⟨_, rfl⟩
  have HB3 := HB2
  have HI3 := HI2
  have HR3 := HR2
  have HC4 := HC3
  clear HB2 HI2 HR2 HC3
  go_wp2_with fail
  refine (HE.out w3 HI3.out).mono ?_
  rintro e w' ⟨rfl, rfl⟩
  go_wp2_with fail
  refine (HK.out w3 HI3.out).mono ?_
  rintro e w' ⟨rfl, rfl⟩
  go_wp2
  go_ret
  exact ⟨rfl, HB3.out⟩

set_option maxHeartbeats 2000000 in
theorem poolSaysManyErr (k : Nat) (A : Option Addr) (nl c : Nat) (xs : List Int) (n : Nat) (w : World) (h : Ints w A nl xs) (hn : n ≤ 10) (hk : 1 ≤ k ∧ k ≤ 12) (hnk : ¬ n < k) (he : poErr (k : Int) xs ≠ 0) :
    Calls Try.prog 3 #[.int .i64 (k : Int), .slice A nl c, .int .i64 (n : Int)] w fun e w' => e = .returned (.bool true) ∧ Below w.heap.size w w' := by
  have HR := hid (poRun_any (k : Int) A nl c xs w h)
  have HC := hid (fun W (hI : Ints W A nl xs) => poChosen_any (k : Int) A nl c xs W hI)
  have HE := hid (fun W (hI : Ints W A nl xs) => refPool_any (k : Int) A nl c xs W hI)
  have HK := hid (fun W (hI : Ints W A nl xs) => poCheck_any (k : Int) A nl c xs W hI)
  rw [poolX_bad he] at HR
  have HC2 : Hid (∀ W, Ints W A nl xs → Calls Try.prog 8 #[.int .i64 (k : Int), .slice A nl c] W (RetOwnE W [] (poErr (k : Int) xs))) := by intro W hI; have := HC.out W hI; rw [poolX_bad he, upL_nil] at this; exact this
  have hz : (poErr (k : Int) xs != 0) = true := by simpa using he
  clear he HC
  generalize poErr (k : Int) xs = E at *
  have hz1 : (E != E) = false := by simp
  have hz2 : (E == E) = true := by simp
  have HWY := hid (fun W => ways_ok n k W hn hk)
  have HCH := hid (fun W => refChoose_any (max n k) k W (by omega))
  have HF := hid (fun W => factorial_ok n W hn)
  have hp := ways_wrap (n := n) (k := k) hn hk.2
  have hmax := run_maxNN (P := Try.prog) n k (max n k) rfl
  have hFF : (((fact n : Nat) : Int) != ((fact n : Nat) : Int)) = false := by simp
  have hnkI : ¬ (n : Int) < (k : Int) := by omega
  generalize cho (max n k) k = CH at *
  generalize max n k = ma at *
  generalize fact n = F at *
  generalize wyN n k = V at *
  obtain ⟨hk1, hk2⟩ := hk
  have HI := hid h
  clear h
  go_enter Try.func3, Try.ntmps3
  go_wp2_with fail
  refine HR.out.mono ?_
  rintro e w1 ⟨v1, rfl, ho, hb⟩
  have HB1 := hid hb
  have HI1 := hid (HI.out.keep hb)
  obtain ⟨A1, c1, rfl, hI, -⟩ := ho.ints
  have HR1 := hid hI
  clear ho hb hI HR HI
  go_wp2_with fail
  refine (HC2.out w1 HI1.out).mono ?_
  rintro e w2 ⟨v2, rfl, ho, hb⟩
  have HB2 := hid (below_step HB1.out (Nat.le_refl _) hb)
  have HI2 := hid (HI1.out.keep hb)
  have HR2 := hid (HR1.out.keep hb)
  obtain ⟨A2, c2, rfl, hI, -⟩ := ho.ints
  have HC3 := hid hI
  clear ho hb hI HC2 HB1 HI1 HR1
  rw [List.length_nil] at *
  go_wp2_with fail
  refine (HWY.out w2).mono ?_
  rintro e w' ⟨rfl, rfl⟩
  clear HWY
  go_wp2_with fail
  refine (HCH.out w2).mono ?_
  rintro e w3 ⟨rfl, hb⟩
  have HB3 := hid (below_step HB2.out (Nat.le_refl _) hb)
  have HI3 := hid (HI2.out.keep hb)
  have HR3 := hid (HR2.out.keep hb)
  have HC4 := hid (HC3.out.keep hb)
  clear hb HB2 HI2 HR2 HC3 HCH hmax
  go_wp2_with fail
  refine (HF.out w3).mono ?_
  rintro e w' ⟨rfl, rfl⟩
  go_wp2_with fail
  refine (HE.out w3 HI3.out).mono ?_
  rintro e w' ⟨rfl, rfl⟩
  go_wp2_with fail
  refine (HK.out w3 HI3.out).mono ?_
  rintro e w' ⟨rfl, rfl⟩
  go_wp2
  go_ret
  exact ⟨rfl, HB3.out⟩

set_option maxHeartbeats 2000000 in
theorem poolSaysManyOk (k : Nat) (A : Option Addr) (nl c : Nat) (xs : List Int) (n : Nat) (w : World) (h : Ints w A nl xs) (hn : n ≤ 10) (hk : 1 ≤ k ∧ k ≤ 12) (hnk : ¬ n < k) (he : poErr (k : Int) xs = 0) :
    Calls Try.prog 3 #[.int .i64 (k : Int), .slice A nl c, .int .i64 (n : Int)] w fun e w' => e = .returned (.bool true) ∧ Below w.heap.size w w' := by
  have HR := hid (poRun_any (k : Int) A nl c xs w h)
  have HC := hid (fun W (hI : Ints W A nl xs) => poChosen_any (k : Int) A nl c xs W hI)
  have HE := hid (fun W (hI : Ints W A nl xs) => refPool_any (k : Int) A nl c xs W hI)
  have HK := hid (fun W (hI : Ints W A nl xs) => poCheck_any (k : Int) A nl c xs W hI)
  have HP := hid (fun W (hI : Ints W A nl xs) => poolOf_ok k A nl c xs W hI he)
  rw [poolX_ok he, he, h.len] at HR
  have HC2 : Hid (∀ W, Ints W A nl xs → Calls Try.prog 8 #[.int .i64 (k : Int), .slice A nl c] W (RetOwnE W (upL (pN k xs nl)) 0)) := by intro W hI; have := HC.out W hI; rw [poolX_ok he, he, h.len] at this; exact this
  simp only [he] at HE HK
  have hl12 : (pN k xs nl).length ≤ 12 := by have := (poErr_ok.1 he).1; rw [pN_len]; omega
  have HUL := hid (fun ys => @upL_of ys (pN k xs nl))
  have HUN := hid (upL_len (pN k xs nl))
  have hkk := (poErr_ok.1 he).1
  obtain ⟨hkk1, hkk2⟩ := hkk
  clear he HC
  have hz : ((0 : Int) != 0) = false := by decide
  generalize pN k xs nl = P at *
  have HWY := hid (fun W => ways_ok n k W hn hk)
  have HCH := hid (fun W => refChoose_any (max n k) k W (by omega))
  have HF := hid (fun W => factorial_ok n W hn)
  have hp := ways_wrap (n := n) (k := k) hn hk.2
  have hmax := run_maxNN (P := Try.prog) n k (max n k) rfl
  have hFF : (((fact n : Nat) : Int) != ((fact n : Nat) : Int)) = false := by simp
  have hnkI : ¬ (n : Int) < (k : Int) := by omega
  generalize cho (max n k) k = CH at *
  generalize max n k = ma at *
  generalize fact n = F at *
  generalize wyN n k = V at *
  obtain ⟨hk1, hk2⟩ := hk
  have HI := hid h
  clear h
  go_enter Try.func3, Try.ntmps3
  go_wp2_with fail
  refine HR.out.mono ?_
  rintro e w1 ⟨v1, rfl, ho, hb⟩
  have HB1 := hid hb
  have HI1 := hid (HI.out.keep hb)
  obtain ⟨A1, c1, rfl, hI, -⟩ := ho.ints
  have HR1 := hid hI
  clear ho hb hI HR HI
  go_wp2_with fail
  refine (HC2.out w1 HI1.out).mono ?_
  rintro e w2 ⟨v2, rfl, ho, hb⟩
  have HB2 := hid (below_step HB1.out (Nat.le_refl _) hb)
  have HI2 := hid (HI1.out.keep hb)
  have HR2 := hid (HR1.out.keep hb)
  obtain ⟨A2, c2, rfl, hI, -⟩ := ho.ints
  have HC3 := hid hI
  clear ho hb hI HC2 HB1 HI1 HR1
  rw [HUN.out] at HC3 ⊢
  go_wp2_with fail
  refine (HWY.out w2).mono ?_
  rintro e w' ⟨rfl, rfl⟩
  clear HWY
  go_wp2_with fail
  refine (HCH.out w2).mono ?_
  rintro e w3 ⟨rfl, hb⟩
  have HB3 := hid (below_step HB2.out (Nat.le_refl _) hb)
  have HI3 := hid (HI2.out.keep hb)
  have HR3 := hid (HR2.out.keep hb)
  have HC4 := hid (HC3.out.keep hb)
  clear hb HB2 HI2 HR2 HC3 HCH hmax
  go_wp2_with fail
  refine (HF.out w3).mono ?_
  rintro e w' ⟨rfl, rfl⟩
  go_wp2_with fail
  refine (HE.out w3 HI3.out).mono ?_
  rintro e w' ⟨rfl, rfl⟩
  go_wp2_with fail
  refine (HK.out w3 HI3.out).mono ?_
  rintro e w' ⟨rfl, rfl⟩
  go_wp2_with fail
  refine (HP.out w3 HI3.out).mono ?_
  rintro e w4 ⟨v4, rfl, ho, hb⟩
  have H34 := hid hb
  have HR4 := hid (HR3.out.keep hb)
  have HO4 := hid ho
  clear ho hb HI3 HR3 HP HE HK
  obtain ⟨A4, c4, rfl, -, -⟩ := HO4.out.ints
  go_wp2_with fail
  refine (alike_bel A1 P.length c1 A4 P.length c4 P P w4 HR4.out HO4.out.asInts.1 (by omega) (by omega)).mono ?_
  rintro e w5 ⟨rfl, hb⟩
  rw [decide_eq_true rfl]
  have H35 := hid (below_step H34.out (Nat.le_refl _) hb)
  have HO5 := hid (HO4.out.keep hb)
  clear hb H34 HR4 HO4
  go_wp2_with fail
  refine (sort_any w3.heap.size _ P w5 HO5.out hl12).mono ?_
  rintro e w6 ⟨rfl, ys, ho6, hp6, hs6, hg6⟩
  obtain rfl := HUL.out ys hp6 hs6
  have H36 : Below w3.heap.size w3 w6 := below_own H35.out HO5.out (Nat.le_refl _) (Nat.le_refl _) hg6
  have HB6 := hid (below_step HB3.out (Nat.le_refl _) H36)
  have HC6 := hid (HC4.out.keep H36)
  have HO6 := hid ho6
  clear ho6 hp6 hs6 hg6 HB3 H35 H36 HC4 HO5
  go_wp2_with fail
  refine (alike_bel A2 P.length c2 A4 P.length c4 _ _ w6 HC6.out HO6.out.asInts.1 (by omega) (by omega)).mono ?_
  rintro e w7 ⟨rfl, hb⟩
  rw [decide_eq_true rfl]
  have HB7 := hid (below_step HB6.out (Nat.le_refl _) hb)
  clear hb
  go_wp2
  go_ret
  exact ⟨rfl, HB7.out⟩

set_option maxHeartbeats 2000000 in
theorem poolSaysFewErr (k : Nat) (A : Option Addr) (nl c : Nat) (xs : List Int) (n : Nat) (w : World) (h : Ints w A nl xs) (hn : n ≤ 10) (hk : 1 ≤ k ∧ k ≤ 12) (hnk : n < k) (he : poErr (k : Int) xs ≠ 0) :
    Calls Try.prog 3 #[.int .i64 (k : Int), .slice A nl c, .int .i64 (n : Int)] w fun e w' => e = .returned (.bool true) ∧ Below w.heap.size w w' := by
  have HR := hid (poRun_any (k : Int) A nl c xs w h)
  have HC := hid (fun W (hI : Ints W A nl xs) => poChosen_any (k : Int) A nl c xs W hI)
  have HE := hid (fun W (hI : Ints W A nl xs) => refPool_any (k : Int) A nl c xs W hI)
  have HK := hid (fun W (hI : Ints W A nl xs) => poCheck_any (k : Int) A nl c xs W hI)
  rw [poolX_bad he] at HR
  have HC2 : Hid (∀ W, Ints W A nl xs → Calls Try.prog 8 #[.int .i64 (k : Int), .slice A nl c] W (RetOwnE W [] (poErr (k : Int) xs))) := by intro W hI; have := HC.out W hI; rw [poolX_bad he, upL_nil] at this; exact this
  have hz : (poErr (k : Int) xs != 0) = true := by simpa using he
  clear he HC
  generalize poErr (k : Int) xs = E at *
  have hz1 : (E != E) = false := by simp
  have hz2 : (E == E) = true := by simp
  have HWY := hid (fun W => ways_ok n k W hn hk)
  have HCH := hid (fun W => refChoose_any (max n k) k W (by omega))
  have HF := hid (fun W => factorial_ok n W hn)
  have hp := ways_wrap (n := n) (k := k) hn hk.2
  have hmax := run_maxNN (P := Try.prog) n k (max n k) rfl
  rw [wyN_few hn hk.2 hnk] at HWY hp
  have hFF : (((fact n : Nat) : Int) != ((fact n : Nat) : Int)) = false := by simp
  have hnkI : (n : Int) < (k : Int) := by omega
  generalize cho (max n k) k = CH at *
  generalize max n k = ma at *
  generalize fact n = F at *
  obtain ⟨hk1, hk2⟩ := hk
  have HI := hid h
  clear h
  go_enter Try.func3, Try.ntmps3
  go_wp2_with fail
  refine HR.out.mono ?_
  rintro e w1 ⟨v1, rfl, ho, hb⟩
  have HB1 := hid hb
  have HI1 := hid (HI.out.keep hb)
  obtain ⟨A1, c1, rfl, hI, -⟩ := ho.ints
  have HR1 := hid hI
  clear ho hb hI HR HI
  go_wp2_with fail
  refine (HC2.out w1 HI1.out).mono ?_
  rintro e w2 ⟨v2, rfl, ho, hb⟩
  have HB2 := hid (below_step HB1.out (Nat.le_refl _) hb)
  have HI2 := hid (HI1.out.keep hb)
  have HR2 := hid (HR1.out.keep hb)
  obtain ⟨A2, c2, rfl, hI, -⟩ := ho.ints
  have HC3 := hid hI
  clear ho hb hI HC2 HB1 HI1 HR1
  rw [List.length_nil] at *
  go_wp2_with fail
  refine (HWY.out w2).mono ?_
  rintro e w' ⟨rfl, rfl⟩
  clear HWY
  go_wp2_with fail
  refine (HCH.out w2).mono ?_
  rintro e w3 ⟨rfl, hb⟩
  have HB3 := hid (below_step HB2.out (Nat.le_refl _) hb)
  have HI3 := hid (HI2.out.keep hb)
  have HR3 := hid (HR2.out.keep hb)
  have HC4 := hid (HC3.out.keep hb)
  clear hb HB2 HI2 HR2 HC3 HCH hmax
  go_wp2_with fail
  refine (HF.out w3).mono ?_
  rintro e w' ⟨rfl, rfl⟩
  go_wp2_with fail
  refine (HF.out w3).mono ?_
  rintro e w' ⟨rfl, rfl⟩
  go_wp2_with fail
  refine (HE.out w3 HI3.out).mono ?_
  rintro e w' ⟨rfl, rfl⟩
  go_wp2_with fail
  refine (HK.out w3 HI3.out).mono ?_
  rintro e w' ⟨rfl, rfl⟩
  go_wp2
  go_ret
  exact ⟨rfl, HB3.out⟩

set_option maxHeartbeats 2000000 in
theorem poolSaysFewOk (k : Nat) (A : Option Addr) (nl c : Nat) (xs : List Int) (n : Nat) (w : World) (h : Ints w A nl xs) (hn : n ≤ 10) (hk : 1 ≤ k ∧ k ≤ 12) (hnk : n < k) (he : poErr (k : Int) xs = 0) :
    Calls Try.prog 3 #[.int .i64 (k : Int), .slice A nl c, .int .i64 (n : Int)] w fun e w' => e = .returned (.bool true) ∧ Below w.heap.size w w' := by
  have HR := hid (poRun_any (k : Int) A nl c xs w h)
  have HC := hid (fun W (hI : Ints W A nl xs) => poChosen_any (k : Int) A nl c xs W hI)
  have HE := hid (fun W (hI : Ints W A nl xs) => refPool_any (k : Int) A nl c xs W hI)
  have HK := hid (fun W (hI : Ints W A nl xs) => poCheck_any (k : Int) A nl c xs W hI)
  have HP := hid (fun W (hI : Ints W A nl xs) => poolOf_ok k A nl c xs W hI he)
  rw [poolX_ok he, he, h.len] at HR
  have HC2 : Hid (∀ W, Ints W A nl xs → Calls Try.prog 8 #[.int .i64 (k : Int), .slice A nl c] W (RetOwnE W (upL (pN k xs nl)) 0)) := by intro W hI; have := HC.out W hI; rw [poolX_ok he, he, h.len] at this; exact this
  simp only [he] at HE HK
  have hl12 : (pN k xs nl).length ≤ 12 := by have := (poErr_ok.1 he).1; rw [pN_len]; omega
  have HUL := hid (fun ys => @upL_of ys (pN k xs nl))
  have HUN := hid (upL_len (pN k xs nl))
  have hkk := (poErr_ok.1 he).1
  obtain ⟨hkk1, hkk2⟩ := hkk
  clear he HC
  have hz : ((0 : Int) != 0) = false := by decide
  generalize pN k xs nl = P at *
  have HWY := hid (fun W => ways_ok n k W hn hk)
  have HCH := hid (fun W => refChoose_any (max n k) k W (by omega))
  have HF := hid (fun W => factorial_ok n W hn)
  have hp := ways_wrap (n := n) (k := k) hn hk.2
  have hmax := run_maxNN (P := Try.prog) n k (max n k) rfl
  rw [wyN_few hn hk.2 hnk] at HWY hp
  have hFF : (((fact n : Nat) : Int) != ((fact n : Nat) : Int)) = false := by simp
  have hnkI : (n : Int) < (k : Int) := by omega
  generalize cho (max n k) k = CH at *
  generalize max n k = ma at *
  generalize fact n = F at *
  obtain ⟨hk1, hk2⟩ := hk
  have HI := hid h
  clear h
  go_enter Try.func3, Try.ntmps3
  go_wp2_with fail
  refine HR.out.mono ?_
  rintro e w1 ⟨v1, rfl, ho, hb⟩
  have HB1 := hid hb
  have HI1 := hid (HI.out.keep hb)
  obtain ⟨A1, c1, rfl, hI, -⟩ := ho.ints
  have HR1 := hid hI
  clear ho hb hI HR HI
  go_wp2_with fail
  refine (HC2.out w1 HI1.out).mono ?_
  rintro e w2 ⟨v2, rfl, ho, hb⟩
  have HB2 := hid (below_step HB1.out (Nat.le_refl _) hb)
  have HI2 := hid (HI1.out.keep hb)
  have HR2 := hid (HR1.out.keep hb)
  obtain ⟨A2, c2, rfl, hI, -⟩ := ho.ints
  have HC3 := hid hI
  clear ho hb hI HC2 HB1 HI1 HR1
  rw [HUN.out] at HC3 ⊢
  go_wp2_with fail
  refine (HWY.out w2).mono ?_
  rintro e w' ⟨rfl, rfl⟩
  clear HWY
  go_wp2_with fail
  refine (HCH.out w2).mono ?_
  rintro e w3 ⟨rfl, hb⟩
  have HB3 := hid (below_step HB2.out (Nat.le_refl _) hb)
  have HI3 := hid (HI2.out.keep hb)
  have HR3 := hid (HR2.out.keep hb)
  have HC4 := hid (HC3.out.keep hb)
  clear hb HB2 HI2 HR2 HC3 HCH hmax
  go_wp2_with fail
  refine (HF.out w3).mono ?_
  rintro e w' ⟨rfl, rfl⟩
  go_wp2_with fail
  refine (HF.out w3).mono ?_
  rintro e w' ⟨rfl, rfl⟩
  go_wp2_with fail
  refine (HE.out w3 HI3.out).mono ?_
  rintro e w' ⟨rfl, rfl⟩
  go_wp2_with fail
  refine (HK.out w3 HI3.out).mono ?_
  rintro e w' ⟨rfl, rfl⟩
  go_wp2_with fail
  refine (HP.out w3 HI3.out).mono ?_
  rintro e w4 ⟨v4, rfl, ho, hb⟩
  have H34 := hid hb
  have HR4 := hid (HR3.out.keep hb)
  have HO4 := hid ho
  clear ho hb HI3 HR3 HP HE HK
  obtain ⟨A4, c4, rfl, -, -⟩ := HO4.out.ints
  go_wp2_with fail
  refine (alike_bel A1 P.length c1 A4 P.length c4 P P w4 HR4.out HO4.out.asInts.1 (by omega) (by omega)).mono ?_
  rintro e w5 ⟨rfl, hb⟩
  rw [decide_eq_true rfl]
  have H35 := hid (below_step H34.out (Nat.le_refl _) hb)
  have HO5 := hid (HO4.out.keep hb)
  clear hb H34 HR4 HO4
  go_wp2_with fail
  refine (sort_any w3.heap.size _ P w5 HO5.out hl12).mono ?_
  rintro e w6 ⟨rfl, ys, ho6, hp6, hs6, hg6⟩
  obtain rfl := HUL.out ys hp6 hs6
  have H36 : Below w3.heap.size w3 w6 := below_own H35.out HO5.out (Nat.le_refl _) (Nat.le_refl _) hg6
  have HB6 := hid (below_step HB3.out (Nat.le_refl _) H36)
  have HC6 := hid (HC4.out.keep H36)
  have HO6 := hid ho6
  clear ho6 hp6 hs6 hg6 HB3 H35 H36 HC4 HO5
  go_wp2_with fail
  refine (alike_bel A2 P.length c2 A4 P.length c4 _ _ w6 HC6.out HO6.out.asInts.1 (by omega) (by omega)).mono ?_
  rintro e w7 ⟨rfl, hb⟩
  rw [decide_eq_true rfl]
  have HB7 := hid (below_step HB6.out (Nat.le_refl _) hb)
  clear hb
  go_wp2
  go_ret
  exact ⟨rfl, HB7.out⟩

theorem poolSays_any (k0 : Int) (A : Option Addr) (nl c : Nat) (xs : List Int) (n0 : Int) (w : World) (h : Ints w A nl xs) :
    Calls Try.prog 3 #[.int .i64 k0, .slice A nl c, .int .i64 n0] w fun e w' => e = .returned (.bool true) ∧ Below w.heap.size w w' := by
  by_cases he : poErr k0 xs = 0
  · obtain ⟨k, rfl⟩ := Int.eq_ofNat_of_zero_le (show 0 ≤ k0 by have := (poErr_ok.1 he).1; omega)
    have hk := (poErr_ok.1 he).1
    by_cases h1 : n0 < 0
    · exact poolSaysNegOk k A nl c xs n0 w h h1 he
    · by_cases h2 : 10 < n0
      · exact poolSaysBigOk k A nl c xs n0 w h h1 h2 he
      · obtain ⟨n, rfl⟩ := Int.eq_ofNat_of_zero_le (show 0 ≤ n0 by omega)
        by_cases h3 : n < k
        · exact poolSaysFewOk k A nl c xs n w h (by omega) (by omega) h3 he
        · exact poolSaysManyOk k A nl c xs n w h (by omega) (by omega) h3 he
  · by_cases h1 : n0 < 0
    · exact poolSaysNegErr k0 A nl c xs n0 w h h1 he
    · by_cases h2 : 10 < n0
      · exact poolSaysBigErr k0 A nl c xs n0 w h h1 h2 he
      · by_cases h3 : k0 < 1
        · exact poolSaysLowErr k0 A nl c xs n0 w h h1 h2 h3 he
        · by_cases h4 : 12 < k0
          · exact poolSaysHighErr k0 A nl c xs n0 w h h1 h2 h3 h4 he
          · obtain ⟨n, rfl⟩ := Int.eq_ofNat_of_zero_le (show 0 ≤ n0 by omega)
            obtain ⟨k, rfl⟩ := Int.eq_ofNat_of_zero_le (show 0 ≤ k0 by omega)
            by_cases h5 : n < k
            · exact poolSaysFewErr k A nl c xs n w h (by omega) (by omega) h5 he
            · exact poolSaysManyErr k A nl c xs n w h (by omega) (by omega) h5 he

end Go.Proofs.Ytaklchehamkgcaa
