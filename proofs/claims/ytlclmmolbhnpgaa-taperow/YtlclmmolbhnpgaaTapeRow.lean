/-
  castkeep.TapeRow, walked.
-/
import Derived.Test.YtlclmmolbhnpgaaTpE
import Derived.Test.YtlclmmolbhnpgaaTpF
import Derived.Test.YtlclmmolbhnpgaaTpI
import Derived.Test.YtlclmmolbhnpgaaTpD
import Derived.Deep.RegionWith
namespace Go.Proofs.Ytlclmmolbhnpgaa
open Go.RowKit

theorem bin_256r {xs : List Nat} (h : Bin xs) : ∀ x ∈ xs, x < 256 := fun x hx => by have := h x hx; omega

/-- What the law asks of rows that came out. -/
structure RowFacts (ms : List Int) (L : List Nat) (K : Nat) (R : List Int) (U : Nat) (Ra : List Int) (Ua : Nat) (Rb : List Int) (Ub : Nat) : Prop where
  a : rowX (ms.take K) L = (Ra, Ua, 0)
  b : rowX (ms.drop K) (L.drop Ua) = (Rb, Ub, 0)
  ule : Ua ≤ L.length
  vle : Ub ≤ 200
  sum : U = Ua + Ub
  eq : R = Ra ++ Rb
  la : Ra.length ≤ 30
  lb : Rb.length ≤ 30
theorem row_facts {ms : List Int} {L : List Nat} {K : Nat} {R : List Int} {U : Nat} (hL : tapeErr L = 0) (hm : ms.length ≤ 30) (h : rowx ms L = (R, U, 0)) : ∃ Ra Ua Rb Ub, RowFacts ms L K R U Ra Ua Rb Ub := by
  have hz := tapeErr_zero hL
  have e : ms.take K ++ ms.drop K = ms := List.take_append_drop K ms
  rcases rowx_cases (ms.take K) L with ⟨e1, h1, hne, -⟩ | ⟨Ra, Ua, h1, hl1, hu1, -⟩
  · have h2 := rowx_append_bad _ (ms.drop K) _ _ h1 hne
    rw [e, h] at h2
    injection h2 with _ h2
    injection h2 with _ h2
    exact absurd h2.symm hne
  · have h2 := rowx_append _ (ms.drop K) _ _ _ h1
    rw [e, h] at h2
    rcases rowx_cases (ms.drop K) (L.drop Ua) with ⟨e1, h3, hne, -⟩ | ⟨Rb, Ub, h3, hl3, hu3, -⟩
    · rw [h3, if_pos hne] at h2
      injection h2 with _ h2
      injection h2 with _ h2
      exact absurd h2.symm hne
    · rw [h3, if_neg (by simp)] at h2
      injection h2 with hR h2
      injection h2 with hU _
      rw [List.length_take] at hl1
      rw [List.length_drop] at hl3 hu3
      refine ⟨Ra, Ua, Rb, Ub, ?_, ?_, hu1, by omega, hU, hR, by omega, by omega⟩
      · rw [rowX_ok hL (by rw [List.length_take]; omega)]; exact h1
      · rw [rowX_ok (tapeErr_drop hL _) (by rw [List.length_drop]; omega)]; exact h3
theorem wd_three : wd 3 = 2 := by decide +kernel
theorem wd_four : wd 4 = 2 := by decide +kernel
theorem row_lit : rowX [3, 1, 4] [1, 0, 1, 1] = ([2, 0, 3], 4, 0) := by
  rw [rowX_ok (by decide) (by decide)]
  have h1 : drx 3 [1, 0, 1, 1] = (2, 2, 0) := by
    refine drx_some (n := 3) (by omega) (by omega) ?_
    rw [drw_hit (by rw [wd_three]; decide) (by rw [wd_three]; decide), wd_three]
    rfl
  have h2 : drx 1 [1, 1] = (0, 0, 0) := by
    refine drx_some (n := 1) (by omega) (by omega) ?_
    rw [drw_hit (by rw [wd_one]; decide) (by rw [wd_one]; decide), wd_one]
    rfl
  have h3 : drx 4 [1, 1] = (3, 2, 0) := by
    refine drx_some (n := 4) (by omega) (by omega) ?_
    rw [drw_hit (by rw [wd_four]; decide) (by rw [wd_four]; decide), wd_four]
    rfl
  have r3 : rowx [4] [1, 1] = ([3], 2, 0) := rowx_good h3 (rowx_nil _)
  have r2 : rowx [1, 4] [1, 1] = ([0, 3], 2, 0) := rowx_good h2 r3
  exact rowx_good h1 r2

set_option maxHeartbeats 1000000 in
set_option maxRecDepth 100000 in
theorem tapeRow_any (A : Option Addr) (n c : Nat) (xs : List Nat) (B : Option Addr) (m d : Nat) (ms : List Int) (k0 : Int) (w : World) (hx : Byts w A n xs) (hc : Cap n c) (hy : Ints w B m ms) (hd : Cap m d) :
    Calls Try.prog 6 #[.slice A n c, .slice B m d, .int .i64 k0] w fun e w' => e = .returned (.bool true) ∧ Below w.heap.size w w' := by
  have HX := hid hx
  have HY := hid hy
  have HCX := hid hc
  have HCY := hid hd
  have HML := hid hy.len
  clear hx hy hc hd
  have HBa := hid (below_alloc w (.cells #[.int .u8 1, .int .u8 0, .int .u8 1, .int .u8 1] 5))
  have HT1 := hid (byts_lit w #[.int .u8 1, .int .u8 0, .int .u8 1, .int .u8 1] 5 4 [1, 0, 1, 1] rfl rfl (by decide))
  generalize hwa : w.alloc (.cells #[.int .u8 1, .int .u8 0, .int .u8 1, .int .u8 1] 5) = wa at HBa HT1
  have HWA := hid hwa
  clear hwa
  have HBb := hid (below_step HBa.out (Nat.le_refl _) (below_alloc wa (.cells #[.int .i64 3, .int .i64 1, .int .i64 4] 3)))
  have HT2 := hid (ints_lit wa #[.int .i64 3, .int .i64 1, .int .i64 4] 3 3 [3, 1, 4] rfl rfl)
  have HT1' := hid (HT1.out.keep (below_alloc wa (.cells #[.int .i64 3, .int .i64 1, .int .i64 4] 3)))
  have hsz : wa.heap.size = w.heap.size + 1 := by rw [← HWA.out]; simp
  rw [hsz] at HT2
  have HR1 := hid (tpRow_any _ 4 4 _ _ 3 3 _ _ HT1'.out ⟨by omega, by omega⟩ HT2.out)
  rw [row_lit] at HR1
  rw [← HWA.out] at HR1 HBb
  clear HT1 HT2 HT1' HBa HWA hsz
  go_enter Try.func6, Try.ntmps6
  go_wp2_with fail
  refine HR1.out.mono ?_
  rintro e w1 ⟨v1, rfl, ho, hb⟩
  have HB1 := hid (below_step HBb.out (Nat.le_refl _) hb)
  obtain ⟨A1, c1, rfl, hI1, hk1, -⟩ := ho.ints0
  have HI1 := hid (hI1.keep (below_alloc w1 (.cells #[.int .i64 2, .int .i64 0, .int .i64 3] 3)))
  have HI2 := hid (ints_lit w1 #[.int .i64 2, .int .i64 0, .int .i64 3] 3 3 [2, 0, 3] rfl rfl)
  have HB2 := hid (below_step HB1.out (Nat.le_refl _) (below_alloc w1 (.cells #[.int .i64 2, .int .i64 0, .int .i64 3] 3)))
  clear ho hb hI1 hk1 HR1 HBb HB1
  go_wp2_with fail
  refine (equal_bel _ _ c1 _ 3 3 _ _ _ HI1.out HI2.out (by simp) (by omega)).mono ?_
  rintro e w3 ⟨rfl, hb⟩
  have HB3 := hid (below_step HB2.out (Nat.le_refl _) hb)
  clear hb HB2 HI1 HI2
  go_wp2_with fail
  refine (tapes_any _).mono ?_
  rintro e w4 ⟨rfl, hb⟩
  have HB4 := hid (below_step HB3.out (Nat.le_refl _) hb)
  clear hb HB3
  have HQ1 : Hid (Calls Try.prog 20 #[.slice A n c, .int .i64 200] w4 (RetByts w4 (bts xs 200))) := bitsOf_any A n c xs 200 w4 (HX.out.keep HB4.out) HCX.out (by omega)
  go_wp2_with fail
  refine HQ1.out.mono ?_
  rintro e w5 ⟨v5, rfl, ho, hb⟩
  have HB5 := hid (below_step HB4.out (Nat.le_refl _) hb)
  obtain ⟨A5, c5, rfl, hI5, hk5, -⟩ := ho.byts (bin_256r (bts_bin xs 200))
  clear hb ho HQ1 HB4
  have HE := hid (bts_ok (xs := xs) (m := 200) (by omega))
  generalize bts xs 200 = L at *
  generalize hn5 : L.length = n5 at *
  have HN5 := hid hn5
  have HI5 := hid hI5
  have HK5 := hid hk5
  have hcap5 := hk5
  unfold Cap at hcap5
  have hl5 : n5 ≤ 200 := by rw [← hn5]; exact (tapeErr_zero HE.out).1
  clear hn5 hI5 hk5
  have HR := hid (tpRow_any A5 n5 c5 L B m d ms w5 HI5.out HK5.out (HY.out.keep HB5.out))
  have hcs : (∃ e, rowX ms L = ([], 0, e) ∧ e ≠ 0) ∨ ∃ R U, rowX ms L = (R, U, 0) ∧ rowx ms L = (R, U, 0) ∧ R.length = m ∧ m ≤ 30 ∧ U ≤ 200 := by
    by_cases h30 : 30 < ms.length
    · exact .inl ⟨2, rowX_large HE.out h30, by decide⟩
    · rw [rowX_ok HE.out h30]
      rcases rowx_cases ms L with ⟨e, h, hne, -⟩ | ⟨R, U, h, hl, hu, -⟩
      · exact .inl ⟨e, h, hne⟩
      · exact .inr ⟨R, U, h, h, by rw [hl]; exact HML.out, by rw [← HML.out]; omega, by rw [HN5.out] at hu; omega⟩
  rcases hcs with ⟨e, hxe, hne⟩ | ⟨R, U, hxe, hrow, hRl, hm30, hU⟩
  · rw [hxe] at HR
    have hz : (e != 0) = true := by simpa using hne
    clear hxe hne
    go_wp2_with fail
    refine HR.out.mono ?_
    rintro e' w6 ⟨v6, rfl, ho, hb⟩
    have HB6 := hid (below_step HB5.out (Nat.le_refl _) hb)
    obtain ⟨A6, c6, rfl, -, -, -⟩ := ho.ints0
    clear ho hb
    go_wp2
    go_ret
    exact ⟨rfl, HB6.out⟩
  · rw [hxe] at HR
    have hms : ms.length ≤ 30 := by rw [HML.out]; exact hm30
    obtain ⟨K, hK⟩ : ∃ K : Nat, k0 % ((m : Int) + 1) = (K : Int) := ⟨(k0 % ((m : Int) + 1)).toNat, by have := Int.emod_nonneg k0 (show (m : Int) + 1 ≠ 0 by omega); omega⟩
    have hKm : K ≤ m := by have := Int.emod_lt_of_pos k0 (show 0 < (m : Int) + 1 by omega); omega
    obtain ⟨Ra, Ua, Rb, Ub, hF⟩ := row_facts (K := K) HE.out hms hrow
    have HF := hid hF
    have hUa := hF.ule
    rw [HN5.out] at hUa
    have hUb := hF.vle
    have hsum := hF.sum
    have hcy := HCY.out
    unfold Cap at hcy
    have hK2 := HML.out
    have HW : Hid (Calls Try.prog 17 #[.int .i64 k0, .int .i64 ((m : Int) + 1)] = Calls Try.prog 17 #[.int .i64 k0, .int .i64 ((m : Int) + 1)]) := rfl
    clear hxe hrow hF hms HW hK2
    go_wp2_with fail
    refine HR.out.mono ?_
    rintro e' w6 ⟨v6, rfl, ho, hb⟩
    have HB6 := hid (below_step HB5.out (Nat.le_refl _) hb)
    have HI6 := hid (HI5.out.keep hb)
    have HY6 := hid (HY.out.keep HB6.out)
    obtain ⟨A6, c6, rfl, hIR, hkR, hzR⟩ := ho.ints0
    rw [hRl] at hIR hkR
    have HIR := hid hIR
    have HKR := hid hkR
    clear ho hb hIR hkR hzR HR HB5
    rw [hRl]
    have HWI := hid (within_any k0 ((m : Int) + 1) w6 (by omega) (by omega))
    rw [hK] at HWI
    clear hK
    go_wp2_with fail
    refine HWI.out.mono ?_
    rintro e' w' ⟨rfl, rfl⟩
    clear HWI
    have hto := fun W => run_toI B m d K (K : Int) rfl (by omega) W
    have HRA := hid (tpRow_any A5 n5 c5 L B K d (ms.take K) w6 HI6.out HK5.out (HY6.out.take hKm))
    rw [HF.out.a] at HRA
    go_wp2_with fail
    refine HRA.out.mono ?_
    rintro e' w7 ⟨v7, rfl, ho, hb⟩
    have HB7 := hid (below_step HB6.out (Nat.le_refl _) hb)
    have HI7 := hid (HI6.out.keep hb)
    have HY7 := hid (HY6.out.keep hb)
    have HIR7 := hid (HIR.out.keep hb)
    obtain ⟨A7, c7, rfl, hIa, hka, hza⟩ := ho.ints0
    have HIA := hid hIa
    have HKA := hid hka
    have HZA := hid hza
    clear ho hb hIa hka hza HRA HB6 HI6 HY6 HIR hto
    have hu0 : ¬ (Ua : Int) < 0 := by omega
    have hu1 : ¬ (Ua : Int) > (n5 : Int) := by omega
    have hs1 := fun W => run_fromB A5 n5 c5 Ua (Ua : Int) rfl hUa W
    have hs2 := fun W => run_from B m d K (K : Int) rfl hKm W
    have HRB := hid (fun W (hb : Below w7.heap.size w7 W) => tpRow_any (subA A5 c5 Ua) (n5 - Ua) (c5 - Ua) (L.drop Ua) (subA B d K) (m - K) (d - K) (ms.drop K) W ((HI7.out.keep hb).drop hUa hcap5.1) ⟨by omega, by omega⟩ ((HY7.out.keep hb).drop hKm hcy.1))
    rw [HF.out.b] at HRB
    have hla := HF.out.la
    have hlb := HF.out.lb
    have heqR := HF.out.eq
    have HRE := hid heqR
    clear heqR
    have hzs : ((U : Int) == (Ua : Int) + (Ub : Int)) = true := by simp; omega
    generalize Ra.length = la at *
    go_wp2_with fail
    go_region_with (go_at_call 9; refine (HRB.out _ ((Below.refl _ _).drew)).mono ?_; rintro e8 w8 ⟨v8, rfl, ho8, hb8⟩; have HO8 := hid ho8; have HB8 := hid (below_step ((Below.refl w7.heap.size w7).drew) (Nat.le_refl _) hb8); clear ho8 hb8)
    clear hs1 hs2 HRB
    have HIR8 := hid (HIR7.out.keep HB8.out)
    have HIA8 := hid (HIA.out.keep HB8.out)
    have HB9 := hid (below_step HB7.out (Nat.le_refl _) HB8.out)
    obtain ⟨A8, c8, rfl, hIb, hkb, hzb⟩ := HO8.out.ints0
    have HLA := hid HIA8.out.len
    have HRR := hid (rRows_two w8 A7 la c7 Ra A8 Rb.length c8 Rb 23 HIA8.out hIb HKA.out hkb HZA.out hzb)
    have HB10 := hid (below_step HB9.out (Nat.le_refl _) (below_alloc w8 (.cells #[.slice A7 la c7, .slice A8 Rb.length c8] 23)))
    have HIR10 := hid (HIR8.out.keep (below_alloc w8 (.cells #[.slice A7 la c7, .slice A8 Rb.length c8] 23)))
    have HCC := hid (concat_any (some ⟨w8.heap.size, 0, none⟩) 2 2 [Ra, Rb] _ HRR.out (by omega) (by have e1 := HLA.out; simp; omega))
    clear hIb hkb hzb HO8 HRR HIR7 HIA HI7 HY7 HIR8 HIA8
    generalize Rb.length = lb at *
    go_wp2_with fail
    refine HCC.out.mono ?_
    rintro e9 w9 ⟨v9, rfl, ho9, hb9⟩
    have HB11 := hid (below_step HB10.out (Nat.le_refl _) hb9)
    have HIR11 := hid (HIR10.out.keep hb9)
    have hfl : [Ra, Rb].flatten = R := by rw [HRE.out]; simp
    rw [hfl] at ho9
    obtain ⟨A9, c9, rfl, hI9, -, -⟩ := ho9.ints0
    rw [hRl] at hI9
    have HEQ := hid (equal_bel A6 m c6 A9 m c9 R R w9 HIR11.out hI9 (by omega) (by omega))
    rw [show decide (R = R) = true from decide_eq_true rfl] at HEQ
    rw [hRl]
    clear ho9 hb9 hI9 hfl HCC HB10 HIR10
    go_wp2_with fail
    refine HEQ.out.mono ?_
    rintro e10 w10 ⟨rfl, hb⟩
    have HB12 := hid (below_step HB11.out (Nat.le_refl _) hb)
    clear hb
    go_wp2
    go_ret
    exact ⟨rfl, HB12.out⟩
end Go.Proofs.Ytlclmmolbhnpgaa
