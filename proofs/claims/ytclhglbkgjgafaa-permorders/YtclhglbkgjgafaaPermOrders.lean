/-
  Proved: castkeep.PermOrders returns true whatever its arguments.
-/
import Derived.Test.YtclhglbkgjgafaaRankD
import Derived.Test.YtclhglbkgjgafaaRefC
namespace Go.Proofs.Ytclhglbkgjgafaa
open Go.RowKit

theorem dvd_fact : ∀ {n x : Nat}, 1 ≤ x → x ≤ n → x ∣ fact n
  | 0, x, h1, h2 => absurd h1 (by omega)
  | n + 1, x, h1, h2 => by
    by_cases e : x = n + 1
    · subst e
      exact Nat.dvd_mul_right _ _
    · exact Nat.dvd_trans (dvd_fact h1 (by omega)) (Nat.dvd_mul_left _ _)
theorem ord_dvd_fact {p : List Int} (hp : IsPerm p) : ordL (cycL p p.length) ∣ fact p.length :=
  (ordL_dvd _ _).2 fun x hx => by
    have := mem_cycL hp hx
    exact dvd_fact (by omega) (by omega)
theorem ret_bool {a b : Bool} (h : a = b) : Ending.returned (.bool a) = .returned (.bool b) := by rw [h]
/-- The slice v holds xs. -/
def SliceIs (n : Nat) (xs : List Int) (v : Value) (w : World) : Prop := ∃ A c, v = .slice A n c ∧ Ints w A n xs

set_option maxHeartbeats 2000000 in
set_option maxRecDepth 100000 in
theorem permOrders_any (A0 : Option Addr) (n0 c0 : Nat) (x0 : List Int) (K : Int) (w : World) (h0 : Ints w A0 n0 x0) (hc0 : n0 ≤ c0) (_hm0 : c0 ≤ maxLen) :
    Calls Try.prog 4 #[.slice A0 n0 c0, .int .i64 K] w fun e w' => e = .returned (.bool true) ∧ Below w.heap.size w w' := by
  unfold maxLen at _hm0
  obtain ⟨m, hm⟩ : ∃ m, m = min n0 10 := ⟨_, rfl⟩
  have hm10 : m ≤ 10 := by omega
  have HM := hid hm
  clear hm
  have HB0 := hid (Below.refl w.heap.size w)
  have HA0 : Hid (All w [(A0, n0, x0)]) := ⟨h0, trivial⟩
  clear h0
  go_enter Try.func4, Try.ntmps4
  go_wp2_with fail
  refine (perms_any _).mono ?_
  rintro e w1 ⟨rfl, hb⟩
  have HB1 := hid (below_step HB0.out (Nat.le_refl _) hb)
  have HA1 : Hid (All w1 [(A0, n0, x0)]) := HA0.out.keep hb
  clear HA0 HB0
  clear hb
  go_wp2_with fail
  refine (permOf_ten A0 n0 c0 m x0 _ HA1.out.1 hc0 HM.out).mono ?_
  rintro e w2 ⟨A, c, p, rfl, hp, hI, hcap, hb⟩
  have HP := hid (hp)
  have HC := hid (hcap.1)
  have HB2 := hid (below_step HB1.out (Nat.le_refl _) hb)
  have HA2 : Hid (All w2 [(A, m, p), (A0, n0, x0)]) := ⟨hI, HA1.out.keep hb⟩
  clear HA1 HB1
  clear hb hI hcap hp
  have HL : Hid (p.length = m) := HA2.out.1.len
  have HE1 : Hid (permErr p = 0) := permErr_of HP.out (by rw [HL.out]; exact hm10)
  have HOB := hid (ordL_bound HP.out (by rw [HL.out]; exact hm10))
  rw [HL.out] at HOB
  have HDV : Hid (ordL (cycL p m) ∣ fact m) := by have := ord_dvd_fact HP.out; rw [HL.out] at this; exact this
  go_wp2_with fail
  refine (order_ok A m c p _ HA2.out.1 HE1.out).mono ?_
  rintro e w3 ⟨rfl, hb⟩
  have HB3 := hid (below_step HB2.out (Nat.le_refl _) hb)
  have HA3 : Hid (All w3 [(A, m, p), (A0, n0, x0)]) := HA2.out.keep hb
  clear HA2 HB2
  clear hb
  go_wp2_with fail
  refine (count_ok m _ hm10).mono ?_
  rintro e w' ⟨rfl, rfl⟩
  have HSO : Hid (∀ k, 1 ≤ k → (sortedB (pw p k) = true ↔ ordL (cycL p m) ∣ k)) := fun k hk => by have := pw_sorted HP.out hk; rw [HL.out] at this; exact this
  generalize ordL (cycL p m) = o at HOB HDV HSO ⊢
  have ho := HOB.out
  have hf := fact_ten hm10
  have hmod : ((fact m : Nat) : Int) % (o : Int) = 0 := by have := Nat.mod_eq_zero_of_dvd HDV.out; omega
  have hof : (1 : Int) ≤ (o : Int) := by omega
  generalize fact m = F at hmod hf HDV ⊢
  go_wp2_with fail
  refine (good_bel w3 _ _ 2 [0, 0] rfl rfl (by omega)).mono ?_
  rintro e w_good1 ⟨rfl, hb⟩
  have HB4 := hid (below_step HB3.out (Nat.le_refl _) hb)
  have HA4 : Hid (All w_good1 [(A, m, p), (A0, n0, x0)]) := HA3.out.keep hb
  clear HA3 HB3
  clear hb
  rw [show allOK [0, 0] = true by decide]
  have HMD := hid hmod
  go_wp2_with fail
  refine (within_any K 40 _ (by omega) (by omega)).mono ?_
  rintro e w' ⟨rfl, rfl⟩
  have hk1 := Int.emod_nonneg K (show (40 : Int) ≠ 0 by omega)
  have hk2 := Int.emod_lt_of_pos K (show (0 : Int) < 40 by omega)
  generalize K % 40 = K2 at hk1 hk2 ⊢
  obtain ⟨k, rfl⟩ := Int.eq_ofNat_of_zero_le hk1
  have hk40 : k < 40 := by omega
  clear hk1 hk2 hmod
  go_wp2_with fail
  refine (clone_any A m c p _ HA4.out.1 (by omega)).mono ?_
  rintro e w4 ⟨v, rfl, hown, hb⟩
  have HO := hid (hown)
  have HB5 := hid (below_step HB4.out (Nat.le_refl _) hb)
  have HA5 : Hid (All w4 [(A, m, p), (A0, n0, x0)]) := HA4.out.keep hb
  clear HA4 HB4
  clear hb hown
  have HIA := hid (show Ints w4 A m p from HA5.out.1)
  have HPO : Hid (pw p 1 = p) := pw_one HP.out
  go_wp2_with fail
  go_loopg [10, 50] k (fun g v s wr => ∃ j : Nat, j ≤ k ∧ k - j ≤ g ∧ s = .int .i64 j ∧ SliceIs m (pw p (j + 1)) v wr ∧ Below w4.heap.size w4 wr)
  case atStart =>
    obtain ⟨E, ce, rfl, hI, _⟩ := HO.out.ints
    rw [HL.out] at hI ⊢
    exact ⟨0, Nat.zero_le _, by omega, rfl, ⟨E, ce, rfl, by rw [HPO.out]; exact hI⟩, Below.refl _ _⟩
  case round =>
    obtain ⟨j, hj, hg, rfl, ⟨E, ce, rfl, hI⟩, hbel⟩ := hrel
    have HI := hid hI
    have HB := hid hbel
    have HIA2 := hid (HIA.out.keep hbel)
    clear hI hbel
    by_cases hlt : j < k
    · go_wp2_with fail
      refine (times_perm A m c E ce p (pw p (j + 1)) _ HIA2.out HI.out HP.out (isPerm_pw HP.out (j + 1) (by omega)) hm10).mono ?_
      rintro e w5 ⟨E5, c5, rfl, hI5, _, hb5⟩
      rw [pw_succ HP.out] at hI5
      have HI5 := hid hI5
      have HB5 := hid (below_step HB.out (Nat.le_refl _) hb5)
      clear hI5 hb5
      go_wp2
      go_roundg (k - (j + 1))
      case measure => omega
      case rel => exact ⟨j + 1, by omega, by omega, by go_num, ⟨E5, c5, rfl, HI5.out⟩, HB5.out⟩
    · have hjk : j = k := by omega
      subst hjk
      have HS := hid (HSO.out (j + 1) (by omega))
      have HFB := hid (below_step HB5.out (Nat.le_refl _) HB.out)
      have HEQ : Hid ((sortedB (pw p (j + 1)) == ((1 + (j : Int)).tmod (o : Int) == 0)) = true) := by
        show _ = true
        rw [Int.tmod_eq_emod_of_nonneg (by omega)]
        have h1 : sortedB (pw p (j + 1)) = ((1 + (j : Int)) % (o : Int) == 0) := bool_ext (by
          rw [HS.out, Nat.dvd_iff_mod_eq_zero]
          have : ((1 + (j : Int)) % (o : Int)) = (((j + 1) % o : Nat) : Int) := by rw [Int.natCast_emod]; congr 1; omega
          rw [this, beq_iff_eq]
          generalize (j + 1) % o = r
          omega)
        rw [h1]
        simp
      go_wp2_with fail
      go_region_with (go_at_call 24; refine (isSorted_bel E m ce (pw p (j + 1)) _ (HI.out.keep ((Below.refl _ _).drew)) (by omega)).mono ?_; rintro e w6 ⟨rfl, hb6⟩; have HB6 := hid (below_step HFB.out (Nat.le_refl _) (below_step ((Below.refl wr.heap.size wr).drew) (Nat.le_refl _) hb6)); clear hb6)
      all_goals
        go_wp2
        go_ret
        exact ⟨ret_bool HEQ.out, HB6.out⟩

end Go.Proofs.Ytclhglbkgjgafaa
