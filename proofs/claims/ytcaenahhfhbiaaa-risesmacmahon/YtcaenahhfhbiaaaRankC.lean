/-
  package rank: fallingTail, Next; slices.Reverse of the end of a block; slices.Compare.
-/
import Derived.Test.YtcaenahhfhbiaaaAll
import Derived.Test.YtcaenahhfhbiaaaRankB
import Derived.Test.YtcaenahhfhbiaaaClone
import Derived.Test.YtcaenahhfhbiaaaSortO
namespace Go.Proofs.Ytcaenahhfhbiaaa
open Go.RowKit

/-! ### fallingTail -/

theorem run_max2 {P : Program} (x : Int) (m : Nat) (hm : (m : Int) = if 0 > x then 0 else x) (ts : Array TypeId) (t : TypeId) (W : World) :
    (Builtin.max_ ts t #[.int .i64 x, .int .i64 0]).run P W = .ok (.int .i64 (m : Int)) W := by
  simp only [Builtin.max_, Builtin.max2, List.foldlM_cons, List.foldlM_nil, pure_bind]
  simp only [hm]
  rfl

/-- From t on p falls, and it did not where it could have gone on. -/
def IsTail (p : List Int) (t : Nat) : Prop := t ≤ p.length - 1 ∧ (∀ j, t < j → j < p.length → p.getD j 0 < p.getD (j - 1) 0) ∧ (0 < t → p.getD (t - 1) 0 ≤ p.getD t 0)

def RetTail (w : World) (p : List Int) (e : Ending) (w' : World) : Prop := ∃ t q : Nat, e = .returned (.int .i64 (t : Int)) ∧ IsTail p t ∧ w' = w.drewN q

set_option maxHeartbeats 800000 in
theorem fallingTail_any (A : Option Addr) (n c : Nat) (p : List Int) (w : World) (hA : Ints w A n p) (hn : n ≤ 1000000) :
    Calls Try.prog 44 #[.slice A n c] w (RetTail w p) := by
  have HL := hid hA.len
  have hmax := run_max2 (P := Try.prog) ((n : Int) - 1) (n - 1) (by split <;> omega)
  go_enter Try.func44, Try.ntmps44
  go_wp2_with fail
  go_loopg [3] n (fun g s wr => ∃ t q : Nat, t ≤ n - 1 ∧ t ≤ g ∧ s = .int .i64 t ∧ wr = w.drewN q ∧ ∀ j, t < j → j < n → p.getD j 0 < p.getD (j - 1) 0)
  case atStart => exact ⟨n - 1, 0, Nat.le_refl _, by omega, rfl, rfl, fun j h1 h2 => by omega⟩
  case round =>
    obtain ⟨t, q, ht, hg, rfl, rfl, hall⟩ := hrel
    have HA := hid hall
    clear hall hmax
    rcases Nat.eq_zero_or_pos t with h0 | h0
    · subst h0
      go_wp2_with fail
      go_region
      go_wp2
      go_ret
      exact ⟨0, q + 1, rfl, ⟨Nat.zero_le _, fun j h1 h2 => HA.out j h1 (by rw [← HL.out]; exact h2), fun h => absurd h (by omega)⟩, rfl⟩
    · obtain ⟨s, rfl⟩ : ∃ s, t = s + 1 := ⟨t - 1, by omega⟩
      obtain ⟨b, o, rfl, hb, hcell⟩ := hA.row (by omega)
      have g1 := hcell s (by omega)
      have g2 := hcell (s + 1) (by omega)
      clear hcell hb
      generalize hx : p.getD s 0 = x at g1
      generalize hy : p.getD (s + 1) 0 = y at g2
      have HX := hid hx
      have HY := hid hy
      clear hx hy
      have hd : decide (0 < ((s + 1 : Nat) : Int)) = true := by simp
      have hd2 : decide (0 < s + 1) = true := by simp
      by_cases hxy : y < x
      · have hd3 : decide (y < x) = true := decide_eq_true hxy
        go_wp2_with fail
        go_region
        go_wp2
        go_roundg s
        case measure => omega
        case rel =>
          refine ⟨s, q + 1, by omega, by omega, by go_num, rfl, fun j h1 h2 => ?_⟩
          by_cases e : j = s + 1
          · subst e
            rw [HY.out, Nat.add_sub_cancel, HX.out]
            exact hxy
          · exact HA.out j (by omega) h2
      · have hd3 : decide (y < x) = false := decide_eq_false hxy
        go_wp2_with fail
        go_region
        go_wp2
        go_ret
        refine ⟨s + 1, q + 1, rfl, ⟨by rw [HL.out]; exact ht, fun j h1 h2 => HA.out j h1 (by rw [← HL.out]; exact h2), fun _ => ?_⟩, rfl⟩
        rw [HY.out, Nat.add_sub_cancel, HX.out]
        omega

/-! ### The next list -/

theorem IsTail.falls {p : List Int} {t : Nat} (h : IsTail p t) : (p.drop t).Pairwise (· > ·) := by
  refine pairwise_of_sortedTo (r := (· > ·)) ?_
  have key : ∀ d i, t + i + d + 1 < p.length → p.getD (t + i + d + 1) 0 < p.getD (t + i) 0 := by
    intro d
    induction d with
    | zero => intro i hi; have := h.2.1 (t + i + 1) (by omega) (by omega); rwa [Nat.add_sub_cancel] at this
    | succ d ih =>
      intro i hi
      have h1 := ih i (by omega)
      have h2 := h.2.1 (t + i + d + 1 + 1) (by omega) (by omega)
      rw [Nat.add_sub_cancel] at h2
      rw [show t + i + (d + 1) + 1 = t + i + d + 1 + 1 by omega]
      omega
  intro a b hab hb
  rw [List.length_drop] at hb
  have := key (b - a - 1) a (by omega)
  rw [show t + a + (b - a - 1) + 1 = t + b by omega] at this
  simpa [List.getD_eq_getElem?_getD] using this

theorem swapAt_mid (pre u v : List Int) (x y : Int) : swapAt (pre ++ x :: (u ++ y :: v)) pre.length (pre.length + 1 + u.length) = pre ++ y :: (u ++ x :: v) := by
  unfold swapAt
  have e1 : (pre ++ x :: (u ++ y :: v)).getD pre.length 0 = x := by simp [List.getD_eq_getElem?_getD]
  have e2 : (pre ++ x :: (u ++ y :: v)).getD (pre.length + 1 + u.length) 0 = y := by
    rw [List.getD_eq_getElem?_getD, List.getElem?_append_right (by omega), show pre.length + 1 + u.length - pre.length = u.length + 1 by omega, List.getElem?_cons_succ, List.getElem?_append_right (Nat.le_refl _)]
    simp
  rw [e1, e2, List.set_append_right _ _ (Nat.le_refl _), Nat.sub_self, List.set_cons_zero, List.set_append_right _ _ (by omega), show pre.length + 1 + u.length - pre.length = u.length + 1 by omega, List.set_cons_succ,
    List.set_append_right _ _ (Nat.le_refl _), Nat.sub_self, List.set_cons_zero]

/-- The end of a list, from t on, the other way round. -/
def revFrom (xs : List Int) (t : Nat) : List Int := xs.take t ++ (xs.drop t).reverse

theorem next_list {p : List Int} {t l : Nat} (h : IsTail p t) (ht : 0 < t) (hl : t ≤ l) (hln : l < p.length) (hx : p.getD (t - 1) 0 < p.getD l 0) (hv : ∀ j, l < j → j < p.length → p.getD j 0 < p.getD (t - 1) 0) :
    (revFrom (swapAt p (t - 1) l) t).Perm p ∧ rk (revFrom (swapAt p (t - 1) l) t) = rk p + 1 := by
  have e1 : p.drop (t - 1) = p.getD (t - 1) 0 :: p.drop t := by
    rw [List.drop_eq_getElem_cons (by omega), show t - 1 + 1 = t by omega, List.getD_eq_getElem?_getD, List.getElem?_eq_getElem (by omega)]; rfl
  have e2 : p.drop l = p.getD l 0 :: p.drop (l + 1) := by
    rw [List.drop_eq_getElem_cons hln, List.getD_eq_getElem?_getD, List.getElem?_eq_getElem hln]; rfl
  have e3 : p.drop t = (p.drop t).take (l - t) ++ p.getD l 0 :: p.drop (l + 1) := by
    rw [← e2]
    have := (List.take_append_drop (l - t) (p.drop t)).symm
    rwa [List.drop_drop, show t + (l - t) = l by omega] at this
  have hf := h.falls
  have hv2 : ∀ z, z ∈ p.drop (l + 1) → z < p.getD (t - 1) 0 := fun z hz => by
    obtain ⟨i, hi, rfl⟩ := mem_getD hz
    rw [List.length_drop] at hi
    have := hv (l + 1 + i) (by omega) (by omega)
    simpa [List.getD_eq_getElem?_getD] using this
  have hul : ((p.drop t).take (l - t)).length = l - t := by rw [List.length_take, List.length_drop]; omega
  have hpl : (p.take (t - 1)).length = t - 1 := by rw [List.length_take]; omega
  have e0 : p = p.take (t - 1) ++ p.getD (t - 1) 0 :: ((p.drop t).take (l - t) ++ p.getD l 0 :: p.drop (l + 1)) := by
    rw [← e3, ← e1, List.take_append_drop]
  rw [e3] at hf
  generalize p.getD (t - 1) 0 = x at *
  generalize p.getD l 0 = y at *
  generalize p.drop (l + 1) = v at *
  generalize (p.drop t).take (l - t) = u at *
  generalize p.take (t - 1) = pre at *
  clear e1 e2 e3 h hv
  have hs : swapAt p (t - 1) l = pre ++ y :: (u ++ x :: v) := by
    have := swapAt_mid pre u v x y
    rwa [hpl, hul, show t - 1 + 1 + (l - t) = l by omega, ← e0] at this
  have hr : revFrom (swapAt p (t - 1) l) t = pre ++ y :: (u ++ x :: v).reverse := by
    rw [hs]
    unfold revFrom
    have : pre ++ y :: (u ++ x :: v) = (pre ++ [y]) ++ (u ++ x :: v) := by simp
    rw [this, List.take_left' (by simp; omega), List.drop_left' (by simp; omega)]
    simp
  have hp : (y :: (u ++ x :: v).reverse).Perm (x :: (u ++ y :: v)) := by
    refine ((List.reverse_perm (u ++ x :: v)).cons y).trans ?_
    refine (List.perm_middle.cons y).trans ((List.Perm.swap _ _ _).trans ((List.perm_middle.symm).cons x))
  have hb := rk_behind pre hp
  have hc := next_core hf hx hv2
  rw [hr]
  constructor
  · rw [e0]
    exact hp.append_left pre
  · have : rk p = rk (pre ++ x :: (u ++ y :: v)) := by rw [← e0]
    omega

theorem swapAt_append {a b : List Int} {s i j : Nat} (hs : a.length = s) : swapAt (a ++ b) (s + i) (s + j) = a ++ swapAt b i j := by
  subst hs
  unfold swapAt
  have e : ∀ k, (a ++ b).getD (a.length + k) 0 = b.getD k 0 := fun k => by
    rw [List.getD_eq_getElem?_getD, List.getElem?_append_right (by omega), Nat.add_sub_cancel_left, List.getD_eq_getElem?_getD]
  rw [e, e, List.set_append_right _ _ (by omega), Nat.add_sub_cancel_left, List.set_append_right _ _ (by omega), Nat.add_sub_cancel_left]

set_option maxHeartbeats 800000 in
/-- 'slices.Reverse(s[t:])', s the call's own. -/
theorem reverse_sub (base g n cap t c : Nat) (xs : List Int) (w : World) (h : OwnInts w base (.slice (some ⟨g, 0, none⟩) n cap) xs) (hl : xs.length = n) (htn : t ≤ n) (_hn : n ≤ 1000000) :
    Calls Try.prog 24 #[.slice (some ⟨g, t, none⟩) (n - t) c] w fun e w' =>
      e = .returned (.tuple #[]) ∧ OwnInts w' base (.slice (some ⟨g, 0, none⟩) n cap) (revFrom xs t) ∧ w.grownBy w' (some g) := by
  have HO := hid h
  have HL := hid hl
  obtain ⟨m0, hm0⟩ : ∃ m0, n - t = m0 := ⟨_, rfl⟩
  have HD : Hid ((xs.drop t).length = m0) := by rw [List.length_drop, hl]; exact hm0
  have HT : Hid ((xs.take t).length = t) := by rw [List.length_take, hl]; exact Nat.min_eq_left htn
  have hm1 : m0 + t ≤ n := by omega
  rw [hm0]
  clear h hl hm0
  go_enter Try.func24, Try.ntmps24
  go_wp2
  go_loopg [2, 3] m0 (fun gh s u wr => ∃ k : Nat, k ≤ m0 ∧ m0 - k ≤ gh ∧ s = .int .i64 k ∧ u = .int .i64 ((m0 : Int) - 1 - k) ∧ OwnInts wr base (.slice (some ⟨g, 0, none⟩) n cap) (xs.take t ++ revUpto (xs.drop t) k) ∧ w.grownBy wr (some g))
  case atStart => exact ⟨0, Nat.zero_le _, by omega, rfl, by go_num, by rw [revUpto_zero, List.take_append_drop]; exact HO.out, one_refl _ _⟩
  case round =>
    obtain ⟨k, hk, hg, rfl, rfl, hown, hgrow⟩ := hrel
    have HO2 := hid hown
    have HG2 := hid hgrow
    clear hown hgrow
    by_cases hlt : k + k + 1 < m0
    · obtain ⟨m, hmk⟩ : ∃ m, m + k + 1 = m0 := ⟨m0 - 1 - k, by omega⟩
      have hkm : k < m := by omega
      have hj : (m0 : Int) - 1 - k = m := by omega
      have HJ := hid hj
      have HMK := hid hmk
      have hmn : m < m0 := by omega
      have hkn : k < m0 := by omega
      have hlr : (xs.take t ++ revUpto (xs.drop t) k).length = n := by rw [List.length_append, length_revUpto, HT.out, HD.out]; have := HL.out; have := HD.out; rw [List.length_drop] at this; omega
      rw [HJ.out]
      have hO : OwnInts wr base (.slice (some ⟨g, 0, none⟩) (xs.take t ++ revUpto (xs.drop t) k).length cap) (xs.take t ++ revUpto (xs.drop t) k) := by rw [hlr]; exact HO2.out
      have g1 : wr.cell? ⟨g, t + k, none⟩ = some (.int .i64 ((xs.take t ++ revUpto (xs.drop t) k).getD (t + k) 0)) := hO.cell (by omega)
      have g2 : wr.cell? ⟨g, t + m, none⟩ = some (.int .i64 ((xs.take t ++ revUpto (xs.drop t) k).getD (t + m) 0)) := hO.cell (by omega)
      have f1 : wr.frozen? ⟨g, t + k, none⟩ = false := hO.frozen _
      have f2 : wr.frozen? ⟨g, t + m, none⟩ = false := hO.frozen _
      have HST : Hid (swapAt (xs.take t ++ revUpto (xs.drop t) k) (t + k) (t + m) = xs.take t ++ revUpto (xs.drop t) (k + 1)) := by
        rw [swapAt_append HT.out, revUpto_step (by rw [HD.out]; exact hmk) hkm]; exact rfl
      have HSW : Hid (swapAt (xs.take t ++ revUpto (xs.drop t) k) (t + k) (t + m) = ((xs.take t ++ revUpto (xs.drop t) k).set (t + k) ((xs.take t ++ revUpto (xs.drop t) k).getD (t + m) 0)).set (t + m) ((xs.take t ++ revUpto (xs.drop t) k).getD (t + k) 0)) := rfl
      have HLR := hid hlr
      clear hO hlr hj hmk
      generalize (xs.take t ++ revUpto (xs.drop t) k).getD (t + k) 0 = x at g1 HSW
      generalize (xs.take t ++ revUpto (xs.drop t) k).getD (t + m) 0 = y at g2 HSW
      go_wp2_with fail
      go_region
      go_wp2
      have hmk := HMK.out
      go_roundg (m0 - (k + 1))
      case measure => omega
      case rel =>
        refine ⟨k + 1, by omega, by omega, by go_num, by go_num, ?_, ?_⟩
        · rw [← HST.out, HSW.out]
          exact ((HO2.out.set HLR.out.symm (t + k) y).set (by rw [List.length_set]; exact HLR.out.symm) (t + m) x).drew
        · exact one_drewN (one_set (one_set HG2.out (t + k) _) (t + m) _) 1
    · have hd : ¬ ((k : Int) < (m0 : Int) - 1 - k) := by omega
      go_wp2
      go_end0
      refine ⟨rfl, ?_, HG2.out⟩
      unfold revFrom
      rw [← revUpto_end (xs := xs.drop t) (k := k) (by rw [HD.out]; omega)]
      exact HO2.out

/-! ### Next -/

/-- There is a last one behind the tail that is greater. -/
theorem find_last {p : List Int} (hp : IsPerm p) {t : Nat} (h : IsTail p t) (ht : 0 < t) : ∀ d, d ≤ p.length - 1 - t → (∀ j, p.length - 1 - d < j → j < p.length → p.getD j 0 < p.getD (t - 1) 0) →
    ∃ l, t ≤ l ∧ l < p.length ∧ p.getD (t - 1) 0 < p.getD l 0 ∧ ∀ j, l < j → j < p.length → p.getD j 0 < p.getD (t - 1) 0 := by
  have hlen : t < p.length := by have := h.1; omega
  have hnd := nodup_iff_getD.1 hp.nodup
  intro d
  generalize he : p.length - 1 - t - d = r
  induction r generalizing d with
  | zero =>
    intro hd hall
    refine ⟨t, Nat.le_refl _, hlen, ?_, fun j h1 h2 => hall j (by omega) h2⟩
    have h1 := h.2.2 ht
    have h2 := hnd (t - 1) t (by omega) hlen
    omega
  | succ r ih =>
    intro hd hall
    by_cases hc : p.getD (t - 1) 0 < p.getD (p.length - 1 - d) 0
    · exact ⟨p.length - 1 - d, by omega, by omega, hc, fun j h1 h2 => hall j h1 h2⟩
    · refine ih (d + 1) (by omega) (by omega) fun j h1 h2 => ?_
      by_cases e : j = p.length - 1 - d
      · subst e
        have := hnd (t - 1) (p.length - 1 - d) (by omega) (by omega)
        omega
      · exact hall j (by omega) h2
theorem last_tail {p : List Int} (hp : IsPerm p) {t : Nat} (h : IsTail p t) (ht : 0 < t) (hl : rk p + 1 = fact p.length) : False := by
  obtain ⟨l, h1, h2, h3, h4⟩ := find_last hp h ht 0 (by omega) (fun j h1 h2 => by omega)
  have h5 := next_list h ht h1 h2 h3 h4
  have h6 := rk_lt (revFrom (swapAt p (t - 1) l) t)
  rw [h5.1.length_eq] at h6
  omega

def RetNext (w : World) (p : List Int) (e : Ending) (w' : World) : Prop := ∃ A c q, e = .returned (.tuple #[.slice A p.length c, .int .i64 0]) ∧ Ints w' A p.length q ∧ Cap p.length c ∧ Below w.heap.size w w' ∧ q.Perm p ∧ rk q = rk p + 1

/-- The same; the list lies in a block that is new. -/
def RetNextO (w : World) (p : List Int) (e : Ending) (w' : World) : Prop := ∃ g c q, e = .returned (.tuple #[.slice (some ⟨g, 0, none⟩) p.length c, .int .i64 0]) ∧ w.heap.size ≤ g ∧ Ints w' (some ⟨g, 0, none⟩) p.length q ∧ Cap p.length c ∧ Below w.heap.size w w' ∧ q.Perm p ∧ rk q = rk p + 1

set_option maxHeartbeats 1600000 in
theorem next_own (A : Option Addr) (n c : Nat) (p : List Int) (w : World) (hA : Ints w A n p) (hp : permErr p = 0) (hlast : rk p + 1 < fact n) :
    Calls Try.prog 28 #[.slice A n c] w (RetNextO w p) := by
  have hn10 : n ≤ 10 := by rw [← hA.len]; exact (permErr_ok.1 hp).1
  have HPP := hid (permErr_ok.1 hp).2
  have HL := hid hA.len
  go_enter Try.func28, Try.ntmps28
  go_wp2_with fail
  refine (check_any A n c p _ hA (by omega)).mono ?_
  rintro e w1 ⟨rfl, hb1⟩
  have hA1 := hA.keep hb1
  have HB1 := hid hb1
  clear hA hb1
  go_wp2_with fail
  refine (fallingTail_any A n c p _ hA1 (by omega)).mono ?_
  rintro e w2 ⟨t, q, rfl, htail, rfl⟩
  have hA2 := hA1.drewN q
  have HB2 := hid (below_drewN HB1.out q)
  have HTL := hid htail
  have ht0 : 0 < t := by
    rcases Nat.eq_zero_or_pos t with h0 | h0
    · subst h0
      have := rk_falls (HTL.out.falls)
      rw [List.drop_zero, HL.out] at this
      omega
    · exact h0
  have htn : t ≤ n - 1 := by rw [← HL.out]; exact htail.1
  have ht1 : ((t : Int) == 0) = false := by simp; omega
  clear htail hA1 HB1
  generalize w1.drewN q = w2 at hA2 HB2 ⊢
  go_wp2_with fail
  refine (clone_any A n c p _ hA2 (by omega)).mono ?_
  rintro e w3 ⟨v, rfl, hown, hb3⟩
  have HB3 := hid (below_step HB2.out (Nat.le_refl _) hb3)
  have hlp : p.length = n := HL.out
  obtain ⟨g, cap, rfl, hgb, hgs, hcap⟩ := hown.form (by omega)
  rw [hlp] at hown hcap
  have HO := hid hown
  have hgw : w.heap.size ≤ g := Nat.le_trans HB2.out.size hgb
  have HGW := hid hgw
  have HNE := hid hlp
  rw [hlp]
  clear hown hb3 hlp hgb hgw HB2 hA2
  obtain ⟨s, rfl⟩ : ∃ s, t = s + 1 := ⟨t - 1, by omega⟩
  have HC : Hid (∀ j, j < n → w3.cell? ⟨g, j, none⟩ = some (.int .i64 (p.getD j 0))) := fun j hj => by
    have h := HO.out
    rw [← HL.out] at h
    exact h.cell (by rw [HL.out]; exact hj)
  have HF : Hid (∀ j, w3.frozen? ⟨g, j, none⟩ = false) := fun j => by
    have h := HO.out
    rw [← HL.out] at h
    exact h.frozen j
  have g1 := HC.out s (by omega)
  have HND := hid (nodup_iff_getD.1 HPP.out.nodup)
  go_wp2_with fail
  go_loopg [7] n (fun gh u wr => ∃ l q : Nat, s + 1 ≤ l ∧ l < n ∧ l ≤ gh ∧ u = .int .i64 l ∧ wr = w3.drewN q ∧ ∀ j, l < j → j < n → p.getD j 0 < p.getD s 0)
  case atStart => exact ⟨n - 1, 0, by omega, by omega, by omega, by go_num, rfl, fun j h1 h2 => by omega⟩
  case round =>
    obtain ⟨l, q, hl1, hl2, hg, rfl, hq, hall⟩ := hrel
    have HQ := hid hq
    have HA := hid hall
    have g1' : wr.cell? ⟨g, s, none⟩ = some (.int .i64 (p.getD s 0)) := by rw [hq]; exact g1
    have g2' : wr.cell? ⟨g, l, none⟩ = some (.int .i64 (p.getD l 0)) := by rw [hq]; exact HC.out l hl2
    have f1' : wr.frozen? ⟨g, s, none⟩ = false := by rw [hq]; exact HF.out s
    have f2' : wr.frozen? ⟨g, l, none⟩ = false := by rw [hq]; exact HF.out l
    clear hq hall g1
    generalize hx : p.getD s 0 = x at g1'
    generalize hy : p.getD l 0 = y at g2'
    have HX := hid hx
    have HY := hid hy
    clear hx hy
    by_cases hyx : y < x
    · have hsl : s + 1 < l := by
        rcases Nat.lt_or_ge (s + 1) l with h | h
        · exact h
        · have e : l = s + 1 := by omega
          have := HTL.out.2.2 (by omega)
          rw [← e, HY.out, show l - 1 = s by omega, HX.out] at this
          omega
      go_wp2_with fail
      go_region
      go_wp2
      go_roundg (l - 1)
      case measure => omega
      case rel =>
        refine ⟨l - 1, q + 1, by omega, by omega, by omega, by go_num, by rw [HQ.out]; rfl, fun j h1 h2 => ?_⟩
        rw [HX.out]
        by_cases e : j = l
        · subst e
          rw [HY.out]
          exact hyx
        · have := HA.out j (by omega) h2
          rwa [HX.out] at this
    · have HLT : Hid (x < y) := by
        have := HND.out s l (by omega) (by rw [HL.out]; exact hl2)
        rw [HX.out, HY.out] at this
        show x < y
        omega
      have HNX : Hid ((revFrom (swapAt p s l) (s + 1)).Perm p ∧ rk (revFrom (swapAt p s l) (s + 1)) = rk p + 1) := by
        have := next_list (p := p) (t := s + 1) (l := l) HTL.out (by omega) hl1 (by rw [HL.out]; exact hl2) (by rw [Nat.add_sub_cancel, HX.out, HY.out]; exact HLT.out) (fun j h1 h2 => by rw [Nat.add_sub_cancel]; exact HA.out j h1 (by rw [← HL.out]; exact h2))
        rwa [Nat.add_sub_cancel] at this
      have HSW : Hid (swapAt p s l = (p.set s y).set l x) := by unfold swapAt; rw [HX.out, HY.out]; exact rfl
      have HOW : Hid (OwnInts wr w2.heap.size (.slice (some ⟨g, 0, none⟩) n cap) p) := by rw [HQ.out]; exact HO.out
      have HBW : Hid (Below w.heap.size w wr) := by rw [HQ.out]; exact below_drewN HB3.out q
      have hne : l ≠ s := by omega
      have hle : s < l := by omega
      clear HQ HA HC HF HO HB3 HTL
      go_wp2_with fail
      go_region
      go_wp2_with fail
      go_region
      have hfr := fun W => run_from (some ⟨g, 0, none⟩) n cap (s + 1) ((s : Int) + 1) (by omega) (by omega) W
      have hsA : subA (some ⟨g, 0, none⟩) cap (s + 1) = some ⟨g, s + 1, none⟩ := by unfold subA; rw [if_neg (by omega)]; simp [Addr.add]
      simp only [hsA] at hfr
      clear hsA
      go_wp2_with fail
      refine (reverse_sub w2.heap.size g n cap (s + 1) _ ((p.set s y).set l x) _ ((HOW.out.set HNE.out.symm s y).set (by rw [List.length_set]; exact HNE.out.symm) l x).drew.drew (by rw [List.length_set, List.length_set]; exact HNE.out) (by omega) (by omega)).mono ?_
      rintro e w4 ⟨rfl, hown4, hone⟩
      have hb3 := ((HBW.out.setCell (p := ⟨g, s, none⟩) HGW.out (.int .i64 y)).setCell (p := ⟨g, l, none⟩) HGW.out (.int .i64 x)).drew.drew
      have HB4 := hid (below_one hb3 HGW.out hb3.size hone)
      obtain ⟨A', c', hv, hI, hcp⟩ := hown4.ints
      rw [← HSW.out] at hI hv hcp
      have hl4 : (revFrom (swapAt p s l) (s + 1)).length = n := by rw [HNX.out.1.length_eq]; exact HNE.out
      rw [hl4] at hI hv hcp
      injection hv with hv1 _ hv2
      subst hv1
      subst hv2
      have HI := hid hI
      have HCP := hid hcp
      clear hone hown4 hb3 hfr hI hcp hl4
      go_wp2
      go_ret2
      exact ⟨g, cap, revFrom (swapAt p s l) (s + 1), by rw [HNE.out]; rfl, HGW.out, by rw [HNE.out]; exact HI.out, by rw [HNE.out]; exact HCP.out, HB4.out, HNX.out.1, HNX.out.2⟩
theorem next_ok (A : Option Addr) (n c : Nat) (p : List Int) (w : World) (hA : Ints w A n p) (hp : permErr p = 0) (hlast : rk p + 1 < fact n) :
    Calls Try.prog 28 #[.slice A n c] w (RetNext w p) :=
  (next_own A n c p w hA hp hlast).mono fun _ _ ⟨_, c', q, he, _, hI, hc, hb, hp', hr⟩ => ⟨_, c', q, he, hI, hc, hb, hp', hr⟩

set_option maxHeartbeats 800000 in
theorem next_last (A : Option Addr) (n c : Nat) (p : List Int) (w : World) (hA : Ints w A n p) (hp : permErr p = 0) (hlast : rk p + 1 = fact n) :
    Calls Try.prog 28 #[.slice A n c] w fun e w' => e = .returned (.tuple #[.slice none 0 0, .int .i64 4]) ∧ Below w.heap.size w w' := by
  have hn10 : n ≤ 10 := by rw [← hA.len]; exact (permErr_ok.1 hp).1
  have HPP := hid (permErr_ok.1 hp).2
  have HL := hid hA.len
  have HLA := hid hlast
  clear hlast
  go_enter Try.func28, Try.ntmps28
  go_wp2_with fail
  refine (check_any A n c p _ hA (by omega)).mono ?_
  rintro e w1 ⟨rfl, hb1⟩
  have hA1 := hA.keep hb1
  have HB1 := hid hb1
  clear hA hb1
  go_wp2_with fail
  refine (fallingTail_any A n c p _ hA1 (by omega)).mono ?_
  rintro e w2 ⟨t, q, rfl, htail, rfl⟩
  have ht0 : t = 0 := by
    rcases Nat.eq_zero_or_pos t with h0 | h0
    · exact h0
    · exfalso
      exact last_tail HPP.out htail h0 (by rw [HL.out]; exact HLA.out)
  subst ht0
  go_wp2
  go_ret2
  exact ⟨rfl, below_drewN HB1.out q⟩

end Go.Proofs.Ytcaenahhfhbiaaa
