/-
  castkeep.PoolGrows, walked.
-/
import Derived.Test.YtaklchehamkgcaaPoolE
namespace Go.Proofs.Ytaklchehamkgcaa
open Go.RowKit

/-- One more came by, and the pool was full. -/
structure Grew (k n : Nat) (a b : List Int) (y : Nat) : Prop where
  put : y < k → b = a.set y (n : Int)
  pass : ¬ y < k → b = a
  below : ∀ i, i < a.length → a.getD i 0 < (n : Int)
theorem grew {k n y : Nat} {l : List Int} (hkn : k ≤ n) (hy : l.getD n 0 = (y : Int)) : Grew k n (pN k l n) (pN k l (n + 1)) y := by
  refine ⟨fun h => ?_, fun h => ?_, fun i hi => (pN_bd k l n _ (getD_mem hi)).2⟩
  · rw [pN_put hkn (by rw [hy]; omega), hy, Int.toNat_natCast]
  · rw [pN_pass hkn (by rw [hy]; omega)]

/-- How many places have changed, of the first i. -/
def chP (k y i : Nat) : Int := if y < k ∧ y < i then 1 else 0
theorem chP_zero {k y : Nat} : chP k y 0 = 0 := if_neg (by omega)
theorem chP_stay {k y i : Nat} (h : ¬ (y < k ∧ i = y)) : chP k y (i + 1) = chP k y i := by
  unfold chP
  by_cases c : y < k ∧ y < i
  · rw [if_pos c, if_pos (by omega)]
  · rw [if_neg c, if_neg (by omega)]

theorem run_firstP {k n : Nat} {l : List Int} (hk : 1 ≤ k ∧ k ≤ 12) (hl : IsLots l) (hlen : l.length = n + 1) (hn : n + 1 ≤ 30) (A : Option Addr) (c : Nat) (W : World) (h : Ints W A (n + 1) l) :
    Calls Try.prog 7 #[.int .i64 (k : Int), .slice A n c] W (RetOwnE W (pN k l n) 0) := by
  have hL : (l.take n).length = n := by rw [List.length_take]; omega
  have he : poErr (k : Int) (l.take n) = 0 := poErr_good (by omega) (by omega) (isLots_take hl)
  have := poRun_any (k : Int) A n c (l.take n) W (h.take (by omega))
  rw [poolX_ok he, he, hL, pN_take l n (Nat.le_refl _)] at this
  exact this
theorem run_wholeP {k m : Nat} {l : List Int} (hk : 1 ≤ k ∧ k ≤ 12) (hl : IsLots l) (hlen : l.length = m) (hn : m ≤ 30) (A : Option Addr) (c : Nat) (W : World) (h : Ints W A m l) :
    Calls Try.prog 7 #[.int .i64 (k : Int), .slice A m c] W (RetOwnE W (pN k l m) 0) := by
  have he : poErr (k : Int) l = 0 := poErr_good (by omega) (by omega) hl
  have := poRun_any (k : Int) A m c l W h
  rw [poolX_ok he, he, hlen] at this
  exact this
theorem chosen_wholeP {k m : Nat} {l : List Int} (hk : 1 ≤ k ∧ k ≤ 12) (hl : IsLots l) (hlen : l.length = m) (hn : m ≤ 30) (A : Option Addr) (c : Nat) (W : World) (h : Ints W A m l) :
    Calls Try.prog 8 #[.int .i64 (k : Int), .slice A m c] W (RetOwnE W (upL (pN k l m)) 0) := by
  have he : poErr (k : Int) l = 0 := poErr_good (by omega) (by omega) hl
  have := poChosen_any (k : Int) A m c l W h
  rw [poolX_ok he, he, hlen] at this
  exact this
theorem ownP_lt {w : World} {base : Nat} {v : Value} {xs : List Int} (h : OwnInts w base v xs) : ∀ i, v.ownBlock = some i → base ≤ i ∧ i < w.heap.size := World.ownsRow.lt h
theorem ownP_grown {w w' : World} {base : Nat} {u : Value} {ys : List Int} {g : Option Nat} (h : OwnInts w base u ys) (hg : w.grownBy w' g) (hne : ∀ k, u.ownBlock = some k → g ≠ some k) : OwnInts w' base u ys := by
  refine ⟨h.1, ?_⟩
  rcases h.2 with h0 | ⟨g', cap, cur, hv, hb, hh, r⟩
  · exact .inl h0
  · refine .inr ⟨g', cap, cur, hv, hb, (hg.block g' (Array.getElem?_eq_some_iff.1 hh).1 (fun e => ?_)).trans hh, r⟩
    subst hv
    exact hne g' rfl e.symm

set_option maxHeartbeats 4000000 in
theorem poolGrows_any (k0 : Int) (A : Option Addr) (n0 c0 : Nat) (xs : List Int) (w : World) (h : Ints w A n0 xs) (hc : Cap n0 c0) :
    Calls Try.prog 5 #[.int .i64 k0, .slice A n0 c0] w fun e w' => e = .returned (.bool true) ∧ Below w.heap.size w w' := by
  have b1 := Int.emod_nonneg k0 (show (12 : Int) ≠ 0 by omega)
  have b2 := Int.emod_lt_of_pos k0 (show 0 < (12 : Int) by omega)
  obtain ⟨k, hk⟩ : ∃ k : Nat, 1 + k0 % 12 = (k : Int) := ⟨(1 + k0 % 12).toNat, by omega⟩
  have hk12 : 1 ≤ k ∧ k ≤ 12 := by omega
  have HW1 := hid (fun W => within_any k0 12 W (by omega) (by omega))
  generalize k0 % 12 = r at *
  have HK := hid hk
  obtain ⟨m, hm⟩ : ∃ m, m = min n0 30 := ⟨_, rfl⟩
  have HLO := hid (fun W (h : Ints W A n0 xs) => lotsOf30_any A n0 c0 m xs W h hc hm)
  have HLL : Hid ((lotsOf (xs.take m)).length = m) := by rw [Hid, length_lotsOf, List.length_take, h.len]; omega
  have HLT := hid (isLots_lotsOf (xs.take m))
  have hm30 : m ≤ 30 := by omega
  clear hk hm
  generalize lotsOf (xs.take m) = l at *
  go_enter Try.func5, Try.ntmps5
  go_wp2_with fail
  refine (pools_any w).mono ?_
  rintro e w1 ⟨rfl, hb⟩
  have HB1 := hid hb
  have HI1 := hid (h.keep hb)
  clear hb h
  go_wp2_with fail
  refine (HW1.out w1).mono ?_
  rintro e w' ⟨rfl, rfl⟩
  clear HW1
  go_wp2_with fail
  rw [HK.out]
  clear b1 b2 HK
  refine (HLO.out w1 HI1.out).mono ?_
  rintro e w2 ⟨v, rfl, ho, hb⟩
  have HB2 := hid (below_step HB1.out (Nat.le_refl _) hb)
  have hsz2 : w.heap.size ≤ w2.heap.size := HB2.out.size
  obtain ⟨A2, c2, rfl, hI2, hc2⟩ := ho.ints
  rw [HLL.out] at hI2 hc2 ⊢
  have HI2 := hid hI2
  clear ho hb hI2 HLO HI1 HB1
  by_cases hm0 : m = 0
  · subst hm0
    go_wp2
    go_ret
    exact ⟨rfl, HB2.out⟩
  · obtain ⟨n, hmn⟩ : ∃ n, m = n + 1 := ⟨m - 1, by omega⟩
    have hmz : ¬ (m : Int) = 0 := by omega
    have hw1 : IntKind.i64.wrap ((m : Int) - 1) = (n : Int) := by rw [IntWalk.i64_in _ (by omega)]; omega
    have hw2 : IntKind.i64.wrap ((n : Int) + 1) = (m : Int) := by rw [IntWalk.i64_in _ (by omega)]; omega
    have hto := run_toP A2 m c2 n (n : Int) rfl (by have := hc2.1; omega)
    have HRA := hid (fun W (hI : Ints W A2 m l) => run_firstP (n := n) hk12 HLT.out (by rw [HLL.out]; exact hmn) (by omega) A2 c2 W (by rw [← hmn]; exact hI))
    have HRB := hid (fun W (hI : Ints W A2 m l) => run_wholeP hk12 HLT.out HLL.out (by omega) A2 c2 W hI)
    have HRC := hid (fun W (hI : Ints W A2 m l) => chosen_wholeP hk12 HLT.out HLL.out (by omega) A2 c2 W hI)
    obtain ⟨y, hy⟩ : ∃ y : Nat, l.getD n 0 = (y : Int) := ⟨(l.getD n 0).toNat, by have := (HLT.out n (by rw [HLL.out]; omega)).1; omega⟩
    have hla : (pN k l n).length = min n k := pN_len k l n
    have hlb : (pN k l m).length = min m k := pN_len k l m
    have HND := hid (upL_nodup (pN_nodup k l m))
    have HUL := hid (fun ys => @upL_of ys (pN k l m))
    have hlc : (upL (pN k l m)).length = min m k := by rw [upL_len, hlb]
    have HGR : Hid (n < k → pN k l m = pN k l n ++ [(n : Int)]) := fun h => by rw [hmn]; exact pN_grow l h
    have HGW : Hid (k ≤ n → Grew k n (pN k l n) (pN k l m) y) := fun h => by rw [hmn]; exact grew h hy
    have HY := hid hy
    have hmin1 := run_minNN (P := Try.prog) n k (min n k) rfl
    have hmin2 := run_minNN (P := Try.prog) m k (min m k) rfl
    have HMK : Hid (k ≤ n → min n k = k ∧ min m k = k) := fun h => by omega
    have hmi12 : min n k ≤ 12 := by omega
    have hmj12 : min m k ≤ 12 := by omega
    have hnm : n < m := by omega
    clear hy hc2 hmn hm0 HLL HLT
    generalize pN k l n = a at *
    generalize pN k l m = b at *
    generalize min n k = mi at *
    generalize min m k = mj at *
    go_wp2_with fail
    refine (HRA.out w2 HI2.out).mono ?_
    rintro e w3 ⟨va, rfl, ho3, hb3⟩
    have HB3 := hid (below_step HB2.out (Nat.le_refl _) hb3)
    have HI3 := hid (HI2.out.keep hb3)
    have HLTA : Hid (∀ i, va.ownBlock = some i → w2.heap.size ≤ i ∧ i < w3.heap.size) := ownP_lt ho3
    have hs23 : w2.heap.size ≤ w3.heap.size := hb3.size
    have HOA3 := hid ho3
    clear hb3 HI2 HB2 HRA hto ho3
    go_wp2_with fail
    refine (HRB.out w3 HI3.out).mono ?_
    rintro e w4 ⟨vb, rfl, ho4, hb4⟩
    have HB4 := hid (below_step HB3.out (Nat.le_refl _) hb4)
    have HI4 := hid (HI3.out.keep hb4)
    have HOA4 := hid (HOA3.out.keep hb4)
    have HOB4 := hid ho4
    have hs34 : w3.heap.size ≤ w4.heap.size := hb4.size
    clear hb4 HI3 HB3 HRB ho4 HOA3
    go_wp2_with fail
    refine (HRC.out w4 HI4.out).mono ?_
    rintro e w5 ⟨vc, rfl, ho5, hb5⟩
    have HB5 := hid (below_step HB4.out (Nat.le_refl _) hb5)
    have HI5 := hid (HI4.out.keep hb5)
    have HOA5 := hid (HOA4.out.keep hb5)
    have HOB5 := hid (HOB4.out.keep hb5)
    have HOC5 := hid ho5
    have hs45 : w4.heap.size ≤ w5.heap.size := hb5.size
    clear hb5 HI4 HB4 HRC ho5 HOA4 HOB4
    obtain ⟨A3, c3, rfl, -, -⟩ := HOA5.out.ints
    obtain ⟨A4, c4, rfl, -, -⟩ := HOB5.out.ints
    obtain ⟨A5, c5, rfl, -, -⟩ := HOC5.out.ints
    rw [hla] at HOA5 HLTA ⊢
    rw [hlb] at HOB5 ⊢
    rw [hlc] at HOC5 ⊢
    go_wp2_with (go_at_call 21; refine (good_bel _ _ _ 3 [0, 0, 0] rfl rfl (by omega)).mono ?_; rintro e w6 ⟨rfl, hb6⟩)
    have HB6 := hid (below_step HB5.out (Nat.le_refl _) hb6)
    have HI6 := hid (HI5.out.keep hb6)
    have HOA6 := hid (HOA5.out.keep hb6)
    have HOB6 := hid (HOB5.out.keep hb6)
    have HOC6 := hid (HOC5.out.keep hb6)
    have hs56 : w5.heap.size ≤ w6.heap.size := hb6.size
    clear hb6 HB5 HI5 HOA5 HOB5 HOC5 hmin1 hmin2
    refine (clone_any A4 mj c4 b w6 HOB6.out.asInts.1 (by omega)).mono ?_
    rintro e w7 ⟨vd, rfl, hod, hb7⟩
    have HB7 := hid hb7
    have HOD7 := hid hod
    clear hb7 hod
    obtain ⟨A6, c6, rfl, -, -⟩ := HOD7.out.ints
    rw [hlb] at HOD7 ⊢
    go_wp2_with fail
    refine (sort_any w6.heap.size _ b w7 HOD7.out (by omega)).mono ?_
    rintro e w8 ⟨rfl, ys, ho8, hp8, hs8, hg8⟩
    obtain rfl := HUL.out ys hp8 hs8
    have hb8 : Below w6.heap.size w6 w8 := below_own HB7.out HOD7.out (Nat.le_refl _) (Nat.le_refl _) hg8
    have HB8 := hid (below_step HB6.out (Nat.le_refl _) hb8)
    have HI8 := hid (HI6.out.keep hb8)
    have HOA8 := hid (HOA6.out.keep hb8)
    have HOB8 := hid (HOB6.out.keep hb8)
    have HOC8 := hid (HOC6.out.keep hb8)
    have HOD8 := hid ho8
    have hs68 : w6.heap.size ≤ w8.heap.size := hb8.size
    clear hb8 ho8 hp8 hs8 hg8 HB7 HOD7 HB6 HI6 HOA6 HOB6 HOC6 HUL
    go_wp2_with fail
    refine (equal_bel A5 mj c5 A6 mj c6 _ _ w8 HOC8.out.asInts.1 HOD8.out.asInts.1 (by omega) (by omega)).mono ?_
    rintro e w9 ⟨rfl, hb9⟩
    rw [decide_eq_true rfl]
    have HB9 := hid (below_step HB8.out (Nat.le_refl _) hb9)
    have HI9 := hid (HI8.out.keep hb9)
    have HOA9 := hid (HOA8.out.keep hb9)
    have HOB9 := hid (HOB8.out.keep hb9)
    have HOD9 := hid (HOD8.out.keep hb9)
    have hs89 : w8.heap.size ≤ w9.heap.size := hb9.size
    clear hb9 HB8 HI8 HOA8 HOB8 HOC8 HOD8
    have hnn : ((mj : Int) != (mj : Int)) = false := by simp
    go_wp2_with fail
    refine (compact_apart A6 mj c6 _ w9 HOD9.out.asInts.1 HND.out (by omega)).mono ?_
    rintro e w10 ⟨rfl, q10, rfl⟩
    clear HOD9 HND
    have hsw : w.heap.size ≤ w2.heap.size := hsz2
    obtain ⟨wx, hwx⟩ : ∃ wx, wx = w9.drewN q10 := ⟨_, rfl⟩
    rw [← hwx]
    have HBX : Hid (Below w.heap.size w wx) := by rw [hwx]; exact below_drewN HB9.out q10
    have HIX : Hid (Ints wx A2 m l) := by rw [hwx]; exact HI9.out.drewN q10
    have HOAX : Hid (OwnInts wx w2.heap.size (.slice A3 mi c3) a) := by rw [hwx]; exact HOA9.out.drewN q10
    have HOBX : Hid (OwnInts wx w3.heap.size (.slice A4 mj c4) b) := by rw [hwx]; exact HOB9.out.drewN q10
    have hs9x : w9.heap.size ≤ wx.heap.size := by rw [hwx]; exact Nat.le_refl _
    clear hwx HB9 HI9 HOA9 HOB9
    by_cases hnk : n < k
    · have hnkI : (n : Int) < (k : Int) := by omega
      have HX := hid (HGR.out hnk)
      clear HGR HGW HMK
      go_wp2_with (at_builtin; refine wpList_app1 _ rfl (.tmp 92) (.tmp 94) rfl w2.heap.size _ a (n : Int) rfl rfl HOAX.out (by omega) (by omega) ?_)
      intro v' w11 ho11 hg11 hb11
      rw [← HX.out] at ho11
      have HBY := hid (HBX.out.trans (hb11.mono hsz2))
      have HOBY : Hid (OwnInts w11 w3.heap.size (.slice A4 mj c4) b) := ownP_grown HOBX.out hg11 (fun i e1 e2 => by have h1 := (ownP_lt HOBX.out i e1).1; have h2 := (HLTA.out i e2).2; omega)
      obtain ⟨A7, c7, rfl, hI7, -⟩ := ho11.ints
      rw [hlb] at hI7 ⊢
      have HI7 := hid hI7
      clear hI7 ho11 hg11 hb11 HBX HOBX HOAX HIX
      go_wp2_with fail
      refine (equal_bel A4 mj c4 A7 mj c7 b b w11 HOBY.out.asInts.1 HI7.out (by omega) (by omega)).mono ?_
      rintro e w12 ⟨rfl, hb12⟩
      rw [decide_eq_true rfl]
      have HBZ := hid (below_step HBY.out (Nat.le_refl _) hb12)
      clear hb12
      go_wp2
      go_ret
      exact ⟨rfl, HBZ.out⟩
    · have hnkI : ¬ (n : Int) < (k : Int) := by omega
      have HG := hid (HGW.out (by omega))
      have HM := HMK.out (by omega)
      clear HGR HGW HMK HLTA
      obtain ⟨hM1, hM2⟩ := HM
      subst hM1
      subst hM2
      have HIA := hid HOAX.out.asInts.1
      have HIB := hid HOBX.out.asInts.1
      clear HOAX HOBX
      go_wp2_with fail
      go_loopg [14, 99] mj (fun g s u wr => ∃ i q : Nat, i ≤ mj ∧ mj - i ≤ g ∧ u = .int .i64 (i : Int) ∧ s = .int .i64 (chP mj y i) ∧ wr = wx.drewN q)
      case atStart => exact ⟨0, 0, by omega, by omega, rfl, by rw [chP_zero], rfl⟩
      case round =>
        obtain ⟨i, q, hi, hg, rfl, rfl, rfl⟩ := hrel
        by_cases him : i < mj
        · obtain ⟨g3, o3, rfl, -, hc3⟩ := HIA.out.row (by omega)
          obtain ⟨g4, o4, rfl, -, hc4⟩ := HIB.out.row (by omega)
          obtain ⟨g2, o2, rfl, -, hc2⟩ := HIX.out.row (by omega)
          have f1 := hc3 i him
          have f2 := hc4 i him
          have f3 := hc2 n hnm
          rw [HY.out] at f3
          by_cases hy : y < mj ∧ i = y
          · obtain ⟨hy1, rfl⟩ := hy
            have hb : b.getD i 0 = (n : Int) := by rw [HG.out.put hy1, getD_set, if_pos (by omega)]
            have ha := HG.out.below i (by omega)
            rw [hb] at f2
            have hc0 : chP mj i i = 0 := if_neg (by omega)
            have hc1 : Hid (chP mj i (i + 1) = 1) := if_pos (by omega)
            rw [hc0]
            generalize a.getD i 0 = X at *
            have hne : (X != (n : Int)) = true := by simp; omega
            have hnn2 : ((n : Int) != (n : Int)) = false := by simp
            have hnn3 : ((i : Int) != (i : Int)) = false := by simp
            clear hc2 hc3 hc4 hb hc0
            have hXn : ¬ X = (n : Int) := by omega
            go_wp2_with fail
            go_region
            go_wp2
            go_roundg (mj - (i + 1))
            case measure => omega
            case rel => exact ⟨i + 1, q + 1, by omega, by omega, by go_num, by rw [hc1.out], rfl⟩
          · have hb : b.getD i 0 = a.getD i 0 := by
              by_cases hy1 : y < mj
              · rw [HG.out.put hy1, getD_set, if_neg (by omega)]
              · rw [HG.out.pass hy1]
            rw [hb] at f2
            have hc1 : Hid (chP mj y (i + 1) = chP mj y i) := chP_stay (by omega)
            generalize a.getD i 0 = X at *
            generalize chP mj y i = C at *
            have hne : (X != X) = false := by simp
            clear hc2 hc3 hc4 hb
            go_wp2_with fail
            go_region
            go_wp2
            go_roundg (mj - (i + 1))
            case measure => omega
            case rel => exact ⟨i + 1, q + 1, by omega, by omega, by go_num, by rw [hc1.out], rfl⟩
        · obtain rfl : i = mj := by omega
          obtain ⟨g2, o2, rfl, -, hc2⟩ := HIX.out.row (by omega)
          have f3 := hc2 n hnm
          rw [HY.out] at f3
          clear hc2
          by_cases hy1 : y < i
          · have hc0 : chP i y i = 1 := if_pos (by omega)
            rw [hc0]
            have hyI : (y : Int) < (i : Int) := by omega
            go_wp2
            go_ret
            exact ⟨rfl, below_drewN HBX.out q⟩
          · have hc0 : chP i y i = 0 := if_neg (by omega)
            rw [hc0]
            have hyI : ¬ (y : Int) < (i : Int) := by omega
            go_wp2
            go_ret
            exact ⟨rfl, below_drewN HBX.out q⟩

end Go.Proofs.Ytaklchehamkgcaa
