/-
  Proved: castkeep.RankRises returns true whatever its arguments.
-/
import Derived.Test.YtclhglbkgjgafaaRankD
import Derived.Test.YtclhglbkgjgafaaAll
namespace Go.Proofs.Ytclhglbkgjgafaa
open Go.RowKit

theorem below_own {B base : Nat} {a b c : World} {v : Value} {xs : List Int} (h : Below B a b) (ho : OwnInts b base v xs) (hB : B ≤ base) (hBa : B ≤ a.heap.size) (k : b.grownBy c v.ownBlock) : Below B a c :=
  h.trans ⟨k.os, k.tape, k.output, k.size, fun i hi => k.block i (Nat.lt_of_lt_of_le hi (Nat.le_trans hBa h.size)) (fun e => by have := World.ownsRow.lt ho i e.symm; omega)⟩
theorem rk_rev_iota (n : Nat) : rk (iota n).reverse + 1 = fact n := by
  have h : (iota n).reverse.Pairwise (· > ·) := by rw [List.pairwise_reverse]; exact sorted_iotaP n
  have := rk_falls h
  rwa [List.length_reverse, length_iota] at this
theorem rev_last {p : List Int} {m : Nat} (hp : IsPerm p) (hl : p.length = m) (h : rk p + 1 = fact m) : p.reverse = iota m := by
  subst hl
  have e : p = (iota p.length).reverse := rk_inj (hp.trans (List.reverse_perm _).symm) (by have := rk_rev_iota p.length; omega)
  rw [e, List.reverse_reverse]
  simp [length_iota]

set_option maxHeartbeats 2000000 in
set_option maxRecDepth 100000 in
theorem rankRises_any (A0 : Option Addr) (n0 c0 : Nat) (x0 : List Int) (A1 : Option Addr) (n1 c1 : Nat) (x1 : List Int) (w : World) (h0 : Ints w A0 n0 x0) (h1 : Ints w A1 n1 x1) (hc0 : n0 ≤ c0) (hc1 : n1 ≤ c1) (_hm0 : c0 ≤ maxLen) (_hm1 : c1 ≤ maxLen) :
    Calls Try.prog 6 #[.slice A0 n0 c0, .slice A1 n1 c1] w fun e w' => e = .returned (.bool true) ∧ Below w.heap.size w w' := by
  unfold maxLen at _hm0 _hm1
  obtain ⟨m, hm⟩ : ∃ m, m = min (min n0 n1) 10 := ⟨_, rfl⟩
  have hmin := run_min3 (P := Try.prog) n0 n1 m hm
  have q0 : m ≤ n0 := by omega
  have q1 : m ≤ n1 := by omega
  have hm10 : m ≤ 10 := by omega
  clear hm
  have hf := fact_ten hm10
  have HB0 := hid (Below.refl w.heap.size w)
  have HA0 : Hid (All w [(A0, n0, x0), (A1, n1, x1)]) := ⟨h0, h1, trivial⟩
  clear h0 h1
  go_enter Try.func6, Try.ntmps6
  go_wp2_with fail
  refine (ranks_any _).mono ?_
  rintro e w1 ⟨rfl, hb⟩
  have HB1 := hid (below_step HB0.out (Nat.le_refl _) hb)
  have HA1 : Hid (All w1 [(A0, n0, x0), (A1, n1, x1)]) := HA0.out.keep hb
  clear HA0 HB0
  clear hb
  go_wp2_with fail
  refine (permOf_perm A0 n0 c0 m x0 _ HA1.out.1 hc0 q0 hm10).mono ?_
  rintro e w2 ⟨A, c, p, rfl, hp, hI, hcap, hb⟩
  have HP := hid (hp)
  have HC := hid (hcap.1)
  have HB2 := hid (below_step HB1.out (Nat.le_refl _) hb)
  have HA2 : Hid (All w2 [(A, m, p), (A0, n0, x0), (A1, n1, x1)]) := ⟨hI, HA1.out.keep hb⟩
  clear HA1 HB1
  clear hb hI hcap hp
  go_wp2_with fail
  refine (permOf_perm A1 n1 c1 m x1 _ HA2.out.2.2.1 hc1 q1 hm10).mono ?_
  rintro e w3 ⟨B, d, q, rfl, hq, hI, hcap, hb⟩
  have HQ := hid (hq)
  have HD := hid (hcap.1)
  have HB3 := hid (below_step HB2.out (Nat.le_refl _) hb)
  have HA3 : Hid (All w3 [(B, m, q), (A, m, p), (A0, n0, x0), (A1, n1, x1)]) := ⟨hI, HA2.out.keep hb⟩
  clear HA2 HB2
  clear hb hI hcap hq
  have HL : Hid (p.length = m) := HA3.out.2.1.len
  have HLQ : Hid (q.length = m) := HA3.out.1.len
  have HE1 : Hid (permErr p = 0) := permErr_of HP.out (by rw [HL.out]; exact hm10)
  have HE2 : Hid (permErr q = 0) := permErr_of HQ.out (by rw [HLQ.out]; exact hm10)
  have HCM := hid (cmp_lt (HP.out.perm HQ.out (by rw [HL.out, HLQ.out])))
  have hrk : rk p < fact m := by have := rk_lt p; rwa [HL.out] at this
  have hrq : rk q < fact m := by have := rk_lt q; rwa [HLQ.out] at this
  have HRK := hid hrk
  have HRQ := hid hrq
  have HF := hid hf
  clear hf hrk hrq hmin
  go_wp2_with fail
  refine (of_ok A m c p _ HA3.out.2.1 HE1.out HC.out).mono ?_
  rintro e w4 ⟨rfl, hb⟩
  have HB4 := hid (below_step HB3.out (Nat.le_refl _) hb)
  have HA4 : Hid (All w4 [(B, m, q), (A, m, p), (A0, n0, x0), (A1, n1, x1)]) := HA3.out.keep hb
  clear HA3 HB3
  clear hb
  go_wp2_with fail
  refine (of_ok B m d q _ HA4.out.1 HE2.out HD.out).mono ?_
  rintro e w5 ⟨rfl, hb⟩
  have HB5 := hid (below_step HB4.out (Nat.le_refl _) hb)
  have HA5 : Hid (All w5 [(B, m, q), (A, m, p), (A0, n0, x0), (A1, n1, x1)]) := HA4.out.keep hb
  clear HA4 HB4
  clear hb
  go_wp2_with fail
  refine (good_bel w5 _ _ 2 [0, 0] rfl rfl (by omega)).mono ?_
  rintro e w_good1 ⟨rfl, hb⟩
  have HB6 := hid (below_step HB5.out (Nat.le_refl _) hb)
  have HA6 : Hid (All w_good1 [(B, m, q), (A, m, p), (A0, n0, x0), (A1, n1, x1)]) := HA5.out.keep hb
  clear HA5 HB5
  clear hb
  rw [show allOK [0, 0] = true by decide]
  go_wp2_with fail
  refine (compareL_any A m c B d p q _ HA6.out.2.1 HA6.out.1 (by omega)).mono ?_
  rintro e w' ⟨rfl, rfl⟩
  have hz : (decide (cmpL p q < 0) = true ∧ decide (rk p < rk q) = true) ∨ (decide (cmpL p q < 0) = false ∧ decide (rk p < rk q) = false) := by have := HCM.out; simp only [decide_eq_true_eq, decide_eq_false_iff_not]; omega
  generalize cmpL p q = z at hz HCM ⊢
  rcases hz with ⟨hz1, hz2⟩ | ⟨hz1, hz2⟩
  all_goals
    by_cases hlast : rk p + 1 < fact m
    · have HLA := hid hlast
      clear hlast
      go_wp2_with fail
      refine (next_ok A m c p _ HA6.out.2.1 HE1.out HLA.out).mono ?_
      rintro e w6 ⟨E, ce, r, rfl, hI, hcap, hb, hpm, hrk⟩
      rw [HL.out] at hI hcap
      rw [HL.out]
      have HCE := hid (hcap.1)
      have HPM := hid (hpm)
      have HRN := hid (hrk)
      have HB7 := hid (below_step HB6.out (Nat.le_refl _) hb)
      have HA7 : Hid (All w6 [(E, m, r), (B, m, q), (A, m, p), (A0, n0, x0), (A1, n1, x1)]) := ⟨hI, HA6.out.keep hb⟩
      clear HA6 HB6
      clear hb hI hcap hrk hpm
      have HLR : Hid (r.length = m) := HA7.out.1.len
      have HPR : Hid (IsPerm r) := by show IsPerm r; unfold IsPerm; rw [HLR.out, ← HL.out]; exact HPM.out.trans HP.out
      have HE3 : Hid (permErr r = 0) := permErr_of HPR.out (by rw [HLR.out]; exact hm10)
      go_wp2_with fail
      refine (of_ok E m ce r _ HA7.out.1 HE3.out HCE.out).mono ?_
      rintro e w7 ⟨rfl, hb⟩
      have HB8 := hid (below_step HB7.out (Nat.le_refl _) hb)
      have HA8 : Hid (All w7 [(E, m, r), (B, m, q), (A, m, p), (A0, n0, x0), (A1, n1, x1)]) := HA7.out.keep hb
      clear HA7 HB7
      clear hb
      rw [HRN.out]
      have h6 := HRK.out
      have h7 := HF.out
      have hee : (((rk p + 1 : Nat) : Int) == ((rk p : Nat) : Int) + 1) = true := by simp
      go_wp2_with fail
      refine (compareL_any A m c E ce p r _ HA8.out.2.2.1 HA8.out.1 (by omega)).mono ?_
      rintro e w' ⟨rfl, rfl⟩
      have hlt : cmpL p r < 0 := (cmp_lt HPM.out.symm).2 (by rw [HRN.out]; omega)
      generalize cmpL p r = z2 at hlt ⊢
      go_wp2
      go_ret
      exact ⟨rfl, HB8.out⟩
    · have HLA : Hid (rk p + 1 = fact m) := by have := HRK.out; show rk p + 1 = fact m; omega
      clear hlast
      go_wp2_with fail
      refine (next_last A m c p _ HA6.out.2.1 HE1.out HLA.out).mono ?_
      rintro e w6 ⟨rfl, hb⟩
      have HB7 := hid (below_step HB6.out (Nat.le_refl _) hb)
      have HA7 : Hid (All w6 [(B, m, q), (A, m, p), (A0, n0, x0), (A1, n1, x1)]) := HA6.out.keep hb
      clear HA6 HB6
      clear hb
      have HZ6 := hid HB7.out.size
      go_wp2_with fail
      refine (clone_any A m c p _ HA7.out.2.1 (by omega)).mono ?_
      rintro e w7 ⟨v, rfl, hown, hb⟩
      have HO := hid (hown)
      have HB8 := hid (below_step HB7.out (Nat.le_refl _) hb)
      have HA8 : Hid (All w7 [(B, m, q), (A, m, p), (A0, n0, x0), (A1, n1, x1)]) := HA7.out.keep hb
      clear HA7 HB7
      clear hb hown
      have hlp : p.length ≤ 1000000 := by rw [HL.out]; omega
      go_wp2_with fail
      refine (reverse_any w6.heap.size v p _ HO.out hlp).mono ?_
      rintro e w8 ⟨rfl, hown2, hgr⟩
      obtain ⟨E, ce, hv, hI, hcap⟩ := hown2.ints
      rw [List.length_reverse, HL.out] at hv hI
      have HR8 : Hid (p.reverse = iota m) := rev_last HP.out HL.out HLA.out
      have HB8 := hid (below_own HB8.out HO.out HZ6.out (Nat.le_refl _) hgr)
      subst hv
      have HI8 := hid hI
      clear hown2 hgr hI hcap HO
      go_wp2_with fail
      refine (isSorted_bel E m ce p.reverse _ HI8.out (by omega)).mono ?_
      rintro e w9 ⟨rfl, hb⟩
      have HB9 := hid (below_step HB8.out (Nat.le_refl _) hb)
      clear hb
      rw [HR8.out, sorted_iota]
      go_wp2
      go_ret
      exact ⟨rfl, HB9.out⟩

end Go.Proofs.Ytclhglbkgjgafaa
