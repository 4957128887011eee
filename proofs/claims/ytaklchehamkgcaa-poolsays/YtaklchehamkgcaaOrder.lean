/-
  perm.greatestCommonDivisor, perm.leastCommonMultiple, perm.Order.
-/
import Derived.Test.YtaklchehamkgcaaCycLen
namespace Go.Proofs.Ytaklchehamkgcaa
open Go.RowKit

set_option maxHeartbeats 400000 in
theorem gcd_any (a b : Nat) (w : World) (ha : a ≤ 1000000000000) (hb : b ≤ 1000000000000) :
    Calls Try.prog 62 #[.int .i64 a, .int .i64 b] w fun e w' => e = .returned (.int .i64 (Nat.gcd a b : Nat)) ∧ ∃ q, w' = w.drewN q := by
  have HG : Hid (Nat.gcd a b = Nat.gcd a b) := rfl
  go_enter Try.func62, Try.ntmps62
  go_wp2
  go_loopg [0, 1] b (fun g u v wr => ∃ x y q : Nat, x ≤ 1000000000000 ∧ y ≤ 1000000000000 ∧ y ≤ g ∧ u = .int .i64 x ∧ v = .int .i64 y ∧ wr = w.drewN q ∧ Nat.gcd x y = Nat.gcd a b)
  case atStart => exact ⟨a, b, 0, ha, hb, Nat.le_refl _, rfl, rfl, rfl, rfl⟩
  case round =>
    obtain ⟨x, y, q, hx, hy, hg, rfl, rfl, hq, he⟩ := hrel
    have HQ := hid hq
    have HE := hid he
    clear hq he HG
    by_cases h0 : y = 0
    · subst h0
      go_wp2
      go_ret
      exact ⟨by rw [← HE.out, Nat.gcd_zero_right]; rfl, q, HQ.out⟩
    · have hpos : 0 < y := by omega
      have hne : ((y : Int) != 0) = true := by simp; omega
      have hne2 : ((y : Int) == 0) = false := by simp; omega
      have hmod := Nat.mod_lt x hpos
      have hcast : (x : Int) % (y : Int) = ((x % y : Nat) : Int) := by omega
      have hw : IntKind.i64.wrap ((x : Int).tmod (y : Int)) = ((x % y : Nat) : Int) := by
        rw [Int.tmod_eq_emod_of_nonneg (by omega), hcast]
        exact IntWalk.i64_in _ (by omega)
      have HC := hid hcast
      clear hcast
      go_wp2_with fail
      go_region
      go_wp2
      go_roundg (x % y)
      case measure => omega
      case rel => exact ⟨y, x % y, q + 1, by omega, by omega, Nat.le_refl _, rfl, by first | rfl | (rw [HC.out]), by rw [HQ.out]; rfl, by rw [← HE.out, Nat.gcd_comm, ← Nat.gcd_rec, Nat.gcd_comm]⟩

theorem lcm_div (a b : Nat) : a / Nat.gcd a b * b = Nat.lcm a b := by
  rw [Nat.lcm]
  exact Nat.div_mul_right_comm (Nat.gcd_dvd_left a b) b

set_option maxHeartbeats 400000 in
theorem lcm_any (a b : Nat) (w : World) (ha : 1 ≤ a) (hb : 1 ≤ b) (ha2 : a ≤ 1000000000000) (hb2 : b ≤ 1000000) :
    Calls Try.prog 53 #[.int .i64 a, .int .i64 b] w fun e w' => e = .returned (.int .i64 (Nat.lcm a b : Nat)) ∧ ∃ q, w' = w.drewN q := by
  have hg1 : 1 ≤ Nat.gcd a b := Nat.gcd_pos_of_pos_left b ha
  have hle : a / Nat.gcd a b ≤ a := Nat.div_le_self _ _
  have hprod : a / Nat.gcd a b * b ≤ 1000000000000 * 1000000 := Nat.mul_le_mul (Nat.le_trans hle ha2) hb2
  have HLC := hid (lcm_div a b)
  have HQ : Hid ((a : Int) / ((Nat.gcd a b : Nat) : Int) = ((a / Nat.gcd a b : Nat) : Int)) := (Int.natCast_ediv _ _).symm
  go_enter Try.func53, Try.ntmps53
  go_wp2_with fail
  refine (gcd_any a b _ ha2 (by omega)).mono ?_
  rintro e w' ⟨rfl, q, rfl⟩
  have hq := HQ.out
  generalize hQ : a / Nat.gcd a b = Q at hle hprod hq HLC
  generalize Nat.gcd a b = G at hg1 hq ⊢
  have hp2 : (Q : Int) * (b : Int) ≤ 1000000000000000000 := by
    have : ((Q * b : Nat) : Int) ≤ 1000000000000000000 := by omega
    simpa using this
  have hp0 : 0 ≤ (Q : Int) * (b : Int) := Int.mul_nonneg (by omega) (by omega)
  have hG : (1 : Int) ≤ (G : Int) := by omega
  clear hprod hQ HQ
  go_wp2
  go_ret
  refine ⟨?_, q, rfl⟩
  rw [← HLC.out, Int.natCast_mul]
  rfl

/-- The least common multiple of all of them. -/
def ordL (l : List Int) : Nat := l.foldl (fun a x => Nat.lcm a x.toNat) 1

def RetOrder (w : World) (r : Int) (er : Int) (e : Ending) (w' : World) : Prop := e = .returned (.tuple #[.int .i64 r, .int .i64 er]) ∧ Below w.heap.size w w'

theorem ordL_snoc (l : List Int) (x : Int) : ordL (l ++ [x]) = Nat.lcm (ordL l) x.toNat := by simp [ordL, List.foldl_append]
theorem ordL_take_bound {l : List Int} (hl : ∀ x, x ∈ l → 1 ≤ x ∧ x ≤ 10) : ∀ k, k ≤ l.length → 1 ≤ ordL (l.take k) ∧ ordL (l.take k) ≤ 10 ^ k
  | 0, _ => by simp [ordL]
  | k + 1, hk => by
    have ih := ordL_take_bound hl k (by omega)
    have hx := hl _ (getD_mem (show k < l.length by omega))
    rw [take_snoc (by omega), ordL_snoc]
    refine ⟨Nat.lcm_pos (by omega) (by omega), ?_⟩
    refine Nat.le_trans (Nat.div_le_self _ _) ?_
    rw [Nat.pow_succ]
    exact Nat.mul_le_mul ih.2 (by omega)
theorem mem_cycL {p : List Int} (hp : IsPerm p) {x : Int} (hx : x ∈ cycL p p.length) : 1 ≤ x ∧ x ≤ p.length := by
  obtain ⟨i, hi, rfl⟩ := List.mem_map.1 hx
  have h := per_spec hp (List.mem_range.1 (List.mem_filter.1 hi).1)
  omega

set_option maxHeartbeats 800000 in
theorem order_ok (A : Option Addr) (n c : Nat) (p : List Int) (w : World) (hA : Ints w A n p) (hp : permErr p = 0) :
    Calls Try.prog 36 #[.slice A n c] w (RetOrder w (ordL (cycL p n) : Nat) 0) := by
  have hn10 : n ≤ 10 := by rw [← hA.len]; exact (permErr_ok.1 hp).1
  have HP := hid (permErr_ok.1 hp).2
  go_enter Try.func36, Try.ntmps36
  go_wp2_with fail
  refine (check_any A n c p _ hA (by omega)).mono ?_
  rintro e w1 ⟨rfl, hb1⟩
  have hA1 := hA.keep hb1
  have HB1 := hid hb1
  have HL := hid hA.len
  clear hA hb1
  go_wp2_with fail
  refine (cycleLengths_any A n c p _ hA1 HP.out hn10).mono ?_
  rintro e w2 ⟨v, rfl, hown, hb2⟩
  have HB2 := hid (HB1.out.trans (hb2.mono HB1.out.size))
  obtain ⟨A2, c2, rfl, hI, _⟩ := hown.ints
  have hl10 := Nat.le_trans (length_cycL_le p n) hn10
  have HM : Hid (∀ x, x ∈ cycL p n → 1 ≤ x ∧ x ≤ 10) := fun x hx => by
    rw [← HL.out] at hx
    have := mem_cycL HP.out hx
    rw [HL.out] at this
    omega
  have HI := hid hI
  clear hA1 hb2 hown HB1 hI
  generalize hl0 : cycL p n = l at HI HM hl10 ⊢
  have HL0 := hid hl0
  clear hl0
  generalize hm : l.length = m at HI hl10 ⊢
  have HLM := hid hm
  clear hm
  go_wp2_with fail
  go_loopg [5, 16] m (fun g u s wr => ∃ k q : Nat, k ≤ m ∧ m - k ≤ g ∧ s = .int .i64 k ∧ u = .int .i64 (ordL (l.take k) : Nat) ∧ wr = w2.drewN q)
  case atStart => exact ⟨0, 0, Nat.zero_le _, by omega, rfl, rfl, rfl⟩
  case round =>
    obtain ⟨k, q, hk, hg, rfl, rfl, hq⟩ := hrel
    have HQ := hid hq
    clear hq
    have hbd := ordL_take_bound HM.out k (by rw [HLM.out]; exact hk)
    have hpow : 10 ^ k ≤ 10 ^ 10 := Nat.pow_le_pow_right (by omega) (by omega)
    have hob : ordL (l.take k) ≤ 10000000000 := Nat.le_trans hbd.2 hpow
    have ho1 := hbd.1
    clear hbd hpow
    by_cases hlt : k < m
    · obtain ⟨b, o, rfl, hb, hc⟩ := HI.out.row (by omega)
      have g1 : wr.cell? ⟨b, o + k, none⟩ = some (.int .i64 (l.getD k 0)) := by rw [HQ.out]; exact hc k hlt
      have hr := HM.out _ (getD_mem (show k < l.length by rw [HLM.out]; exact hlt))
      have HS : Hid (ordL (l.take (k + 1)) = Nat.lcm (ordL (l.take k)) (l.getD k 0).toNat) := by rw [take_snoc (by rw [HLM.out]; exact hlt), ordL_snoc]; exact rfl
      clear hc
      generalize l.getD k 0 = x at g1 hr HS
      obtain ⟨y, rfl⟩ := Int.eq_ofNat_of_zero_le (show 0 ≤ x by omega)
      rw [Int.toNat_natCast] at HS
      generalize ordL (l.take k) = z at HS hob ho1 ⊢
      go_wp2_with fail
      refine (lcm_any z y _ ho1 (by omega) (by omega) (by omega)).mono ?_
      rintro e w' ⟨rfl, q2, rfl⟩
      go_wp2
      go_roundg (m - (k + 1))
      case measure => omega
      case rel => exact ⟨k + 1, q + q2, by omega, by omega, by go_num, by rw [HS.out], by rw [HQ.out, World.drewN_drewN]⟩
    · have hkm : k = m := by omega
      subst hkm
      have HT : Hid (l.take k = l) := List.take_of_length_le (by rw [HLM.out]; exact Nat.le_refl _)
      rw [HT.out]
      go_wp2
      go_ret2
      exact ⟨by rw [HL0.out]; rfl, by rw [HQ.out]; exact below_drewN HB2.out q⟩

end Go.Proofs.Ytaklchehamkgcaa
