/-
  Texts joined: All, Sign, SgnSwap, ShufS, TpF, Fct, RankM, RankA, RankB, RisB, RankCode, TabI, TabF, TabG.
-/
import Derived.Test.YtmdpfadfimodjaaTopOrdersPart3
import Derived.Deep.RegionLaw
import Derived.Lib.SliceRun

/-
  Several slices known at once; what a law over permutations takes and gives.
-/
namespace Go.Proofs.Ytmdpfadfimodjaa
open Go.RowKit

theorem permErr_of {p : List Int} (h : IsPerm p) (hl : p.length ≤ 10) : permErr p = 0 := permErr_ok.2 ⟨hl, h⟩

/-- A permutation of m numbers comes back, in new memory. -/
def RetPerm (w : World) (m : Nat) (e : Ending) (w' : World) : Prop := ∃ A c p, e = .returned (.slice A m c) ∧ IsPerm p ∧ Ints w' A m p ∧ Cap m c ∧ Below w.heap.size w w'

theorem permOf_perm (A : Option Addr) (n c m : Nat) (xs : List Int) (w : World) (h : Ints w A n xs) (hc : n ≤ c) (hm : m ≤ n) (hm2 : m ≤ 10) :
    Calls Try.prog 20 #[.slice A n c, .int .i64 (m : Int)] w (RetPerm w m) := by
  refine (permOf_any A n c m xs w h hc (by omega) m (by omega)).mono ?_
  rintro e w' ⟨v, rfl, hown, hb⟩
  obtain ⟨A', c', rfl, hI, hcap⟩ := hown.ints
  have hl : (dealt (lotsOf (xs.take m))).length = m := by rw [length_dealt, length_lotsOf, List.length_take, h.len]; omega
  rw [hl] at hI hcap ⊢
  exact ⟨A', c', _, rfl, isPerm_dealt (isLots_lotsOf _), hI, hcap, hb⟩

/-- PermOf(x, api.MaxPerm). -/
theorem permOf_ten (A : Option Addr) (n c m : Nat) (xs : List Int) (w : World) (h : Ints w A n xs) (hc : n ≤ c) (hm : m = min n 10) :
    Calls Try.prog 20 #[.slice A n c, .int .i64 10] w (RetPerm w m) := by
  refine (permOf_any A n c m xs w h hc (by omega) 10 (by omega)).mono ?_
  rintro e w' ⟨v, rfl, hown, hb⟩
  obtain ⟨A', c', rfl, hI, hcap⟩ := hown.ints
  have hl : (dealt (lotsOf (xs.take m))).length = m := by rw [length_dealt, length_lotsOf, List.length_take, h.len]; omega
  rw [hl] at hI hcap ⊢
  exact ⟨A', c', _, rfl, isPerm_dealt (isLots_lotsOf _), hI, hcap, hb⟩

/-- A list of n numbers comes back with OK. -/
def RetP (w : World) (n : Nat) (ys : List Int) (e : Ending) (w' : World) : Prop := ∃ A c, e = .returned (.tuple #[.slice A n c, .int .i64 0]) ∧ Ints w' A n ys ∧ Cap n c ∧ Below w.heap.size w w'

def RetPInv (w : World) (n : Nat) (p : List Int) (e : Ending) (w' : World) : Prop := ∃ q, IsInv p q ∧ RetP w n q e w'

/-! The same contracts, the world told by 'Below' alone. -/
end Go.Proofs.Ytmdpfadfimodjaa

/-
  perm.Sign: the parity of the inversions.
-/
namespace Go.Proofs.Ytmdpfadfimodjaa
open Go.RowKit

theorem take_drop_snoc {p : List Int} {a m : Nat} (h : a + m < p.length) : (p.drop a).take (m + 1) = (p.drop a).take m ++ [p.getD (a + m) 0] := by
  rw [take_snoc (by rw [List.length_drop]; omega)]
  congr 1
  simp [List.getD_eq_getElem?_getD]

/-- The pairs counted after m rounds of the inner loop. -/
def cntUpto (p : List Int) (k m : Nat) : Nat := invUpto p k + ((p.drop (k + 1)).take m).countP (fun y => decide (y < p.getD k 0))
theorem cntUpto_yes {p : List Int} {k m : Nat} (h : k + 1 + m < p.length) (hlt : p.getD (k + 1 + m) 0 < p.getD k 0) : sg (cntUpto p k (m + 1)) = - sg (cntUpto p k m) := by
  unfold cntUpto
  rw [take_drop_snoc h, List.countP_append, ← Nat.add_assoc]
  simp only [List.countP_cons, List.countP_nil, hlt, decide_true, if_true, Nat.zero_add]
  exact sg_succ _
theorem cntUpto_no {p : List Int} {k m : Nat} (h : k + 1 + m < p.length) (hlt : ¬ p.getD (k + 1 + m) 0 < p.getD k 0) : cntUpto p k (m + 1) = cntUpto p k m := by
  unfold cntUpto
  rw [take_drop_snoc h, List.countP_append]
  simp only [List.countP_cons, List.countP_nil, hlt, decide_false, Nat.zero_add]
  simp
theorem cntUpto_end {p : List Int} {k m : Nat} (h : k + 1 + m = p.length) : cntUpto p k m = invUpto p (k + 1) := by
  unfold cntUpto
  rw [List.take_of_length_le (by rw [List.length_drop]; omega)]
  rfl

set_option maxHeartbeats 1600000 in
theorem sign_ok (A : Option Addr) (n c : Nat) (p : List Int) (w : World) (hA : Ints w A n p) (hp : permErr p = 0) (hc : n ≤ c) (hc2 : c ≤ 9223372036854775807) :
    Calls Try.prog 36 #[.slice A n c] w (RetOrder w (sgn p) 0) := by
  have hn10 : n ≤ 10 := by rw [← hA.len]; exact (permErr_ok.1 hp).1
  go_enter Try.func36, Try.ntmps36
  go_wp2_with fail
  refine (check_any A n c p _ hA (by omega)).mono ?_
  rintro e w1 ⟨rfl, hb1⟩
  have hA1 := hA.keep hb1
  have HB1 := hid hb1
  have HL := hid hA.len
  clear hA hb1
  go_wp2_with fail
  go_loopg [5, 17] n (fun g u s wr => ∃ k : Nat, k ≤ n ∧ n - k ≤ g ∧ s = .int .i64 k ∧ u = .int .i64 (sg (invUpto p k)) ∧ w1 = wr)
  case atStart => exact ⟨0, Nat.zero_le _, by omega, rfl, rfl, rfl⟩
  case round =>
    obtain ⟨k, hk, hg, rfl, rfl, rfl⟩ := hrel
    by_cases hlt : k < n
    · obtain ⟨b, o, rfl, hb, hcell⟩ := hA1.row (by omega)
      have g1 := hcell k hlt
      have HC := hid hcell
      have HS0 : Hid (cntUpto p k 0 = invUpto p k) := by unfold cntUpto; simp [Hid]
      generalize hx : p.getD k 0 = x at g1
      have HX := hid hx
      clear hcell hx
      by_cases hck : c = k + 1
      · subst hck
        go_wp2
        go_loopg [5, 27] 0 (fun g u s wr => s = .int .i64 0 ∧ u = .int .i64 (sg (invUpto p k)) ∧ w1 = wr)
        case atStart => exact ⟨rfl, rfl, rfl⟩
        case round =>
          obtain ⟨rfl, rfl, rfl⟩ := hrel
          have HE : Hid (invUpto p k = invUpto p (k + 1)) := by
            have := cntUpto_end (p := p) (k := k) (m := 0) (by rw [HL.out]; omega)
            rw [HS0.out] at this
            exact this
          go_wp2
          go_roundg (n - (k + 1))
          case measure => omega
          case rel => exact ⟨k + 1, by omega, by omega, by go_num, by rw [HE.out], rfl⟩
      · go_wp2
        go_loopg [5, 27] (n - (k + 1)) (fun g u s wr => ∃ m : Nat, m ≤ n - (k + 1) ∧ n - (k + 1) - m ≤ g ∧ s = .int .i64 m ∧ u = .int .i64 (sg (cntUpto p k m)) ∧ w1 = wr)
        case atStart => exact ⟨0, Nat.zero_le _, by omega, rfl, by rw [HS0.out], rfl⟩
        case round =>
          obtain ⟨m, hm, hgm, rfl, rfl, rfl⟩ := hrel
          by_cases hmlt : m < n - (k + 1)
          · have g2 := HC.out (k + 1 + m) (by omega)
            have hbd := sg_bd (cntUpto p k m)
            have HYES := hid (cntUpto_yes (p := p) (k := k) (m := m) (by rw [HL.out]; omega))
            have HNO := hid (cntUpto_no (p := p) (k := k) (m := m) (by rw [HL.out]; omega))
            rw [HX.out] at HYES HNO
            rw [show o + (k + 1 + m) = o + (k + 1) + m by omega] at g2
            generalize p.getD (k + 1 + m) 0 = y at g2 HYES HNO
            have HNO2 : Hid (¬ y < x → sg (cntUpto p k (m + 1)) = sg (cntUpto p k m)) := fun h => by rw [HNO.out h]
            clear HNO
            generalize sg (cntUpto p k m) = s at HYES HNO2 hbd ⊢
            by_cases hyx : y < x
            · go_wp2
              go_roundg (n - (k + 1) - (m + 1))
              case measure => omega
              case rel => exact ⟨m + 1, by omega, by omega, by go_num, by rw [HYES.out hyx], rfl⟩
            · go_wp2
              go_roundg (n - (k + 1) - (m + 1))
              case measure => omega
              case rel => exact ⟨m + 1, by omega, by omega, by go_num, by rw [HNO2.out hyx], rfl⟩
          · have hme : m = n - (k + 1) := by omega
            have HE := hid (cntUpto_end (p := p) (k := k) (m := m) (by rw [HL.out]; omega))
            rw [HE.out]
            have HM := hid hme
            clear hme
            go_wp2
            go_roundg (n - (k + 1))
            case measure => omega
            case rel => exact ⟨k + 1, by omega, by omega, by go_num, rfl, rfl⟩
    · have hkn : k = n := by omega
      subst hkn
      have HE : Hid (sg (invUpto p k) = sgn p) := by unfold sgn; rw [inv_all, HL.out]; exact rfl
      rw [HE.out]
      go_wp2
      go_ret2
      exact ⟨rfl, HB1.out⟩

end Go.Proofs.Ytmdpfadfimodjaa

/-
  The sign behind a change of two places.
-/
namespace Go.Proofs.Ytmdpfadfimodjaa
open Go.RowKit

theorem swapAt_split (u m v : List Int) (x y : Int) : swapAt (u ++ x :: (m ++ y :: v)) u.length (u.length + 1 + m.length) = u ++ y :: (m ++ x :: v) := by
  have h1 : (u ++ x :: (m ++ y :: v)).getD u.length 0 = x := by simp [List.getD_eq_getElem?_getD]
  have h2 : (u ++ x :: (m ++ y :: v)).getD (u.length + 1 + m.length) 0 = y := by
    rw [List.getD_eq_getElem?_getD, List.getElem?_append_right (by omega), show u.length + 1 + m.length - u.length = m.length + 1 by omega]
    simp
  unfold swapAt
  rw [h1, h2, List.set_append_right _ _ (Nat.le_refl _), Nat.sub_self, List.set_cons_zero, List.set_append_right _ _ (by omega), show u.length + 1 + m.length - u.length = m.length + 1 by omega, List.set_cons_succ,
    List.set_append_right _ _ (Nat.le_refl _), Nat.sub_self, List.set_cons_zero]

theorem split_at {l : List Int} {i k : Nat} (hik : i < k) (hk : k < l.length) : l = l.take i ++ l.getD i 0 :: ((l.drop (i + 1)).take (k - i - 1) ++ l.getD k 0 :: l.drop (k + 1)) := by
  have h1 : l.drop (i + 1) = (l.drop (i + 1)).take (k - i - 1) ++ (l.drop (i + 1)).drop (k - i - 1) := (List.take_append_drop _ _).symm
  rw [List.drop_drop, show i + 1 + (k - i - 1) = k by omega, drop_cons hk] at h1
  rw [← h1, ← drop_cons (by omega)]
  exact (List.take_append_drop _ _).symm

theorem swapAt_comm {l : List Int} {i k : Nat} (hi : i < l.length) (hk : k < l.length) : swapAt l i k = swapAt l k i := by
  apply ext_getD (by rw [length_swapAt, length_swapAt])
  intro j _
  rw [getD_swapAt hi hk, getD_swapAt hk hi]
  by_cases h1 : j = k
  · by_cases h2 : j = i
    · rw [if_pos h1, if_pos h2, ← h1, ← h2]
    · rw [if_pos h1, if_neg h2, if_pos h1]
  · by_cases h2 : j = i
    · rw [if_neg h1, if_pos h2, if_pos h2]
    · rw [if_neg h1, if_neg h2, if_neg h2, if_neg h1]
theorem swapAt_self {l : List Int} {i : Nat} (hi : i < l.length) : swapAt l i i = l := by
  apply ext_getD (by rw [length_swapAt])
  intro j _
  rw [getD_swapAt hi hi]
  by_cases h1 : j = i
  · rw [if_pos h1, h1]
  · rw [if_neg h1, if_neg h1]

theorem sgn_swapAt_lt {l : List Int} {i k : Nat} (hn : l.Nodup) (hik : i < k) (hk : k < l.length) : sgn (swapAt l i k) = - sgn l := by
  have hs := split_at hik hk
  have hlu : (l.take i).length = i := by rw [List.length_take]; omega
  have hlm : ((l.drop (i + 1)).take (k - i - 1)).length = k - i - 1 := by rw [List.length_take, List.length_drop]; omega
  generalize l.take i = u at hs hlu
  generalize (l.drop (i + 1)).take (k - i - 1) = m at hs hlm
  generalize l.getD i 0 = x at hs
  generalize l.getD k 0 = y at hs
  generalize l.drop (k + 1) = v at hs
  subst hs
  have e : swapAt (u ++ x :: (m ++ y :: v)) i k = u ++ y :: (m ++ x :: v) := by
    have := swapAt_split u m v x y
    rwa [hlu, hlm, show i + 1 + (k - i - 1) = k by omega] at this
  rw [e]
  have h1 := (List.nodup_append.1 hn).2.1
  have h2 := List.nodup_cons.1 h1
  have h3 := List.nodup_append.1 h2.2
  refine sgn_exchange u m v x y (fun e => ?_) (fun e => ?_) (fun e => ?_)
  · exact h2.1 (by simp [e])
  · exact h2.1 (by simp [e])
  · exact h3.2.2 y e y (by simp) rfl
theorem sgn_swapAt {l : List Int} {i k : Nat} (hn : l.Nodup) (hi : i < l.length) (hk : k < l.length) (hne : i ≠ k) : sgn (swapAt l i k) = - sgn l := by
  rcases Nat.lt_or_gt_of_ne hne with h | h
  · exact sgn_swapAt_lt hn h hk
  · rw [swapAt_comm hi hk]
    exact sgn_swapAt_lt hn h hi

theorem sgn_short {l : List Int} (h : l.length < 2) : sgn l = 1 := by
  match l, h with
  | [], _ => rfl
  | [x], _ => rfl

theorem sign_perm (A : Option Addr) (n c : Nat) (p : List Int) (w : World) (hA : Ints w A n p) (hp : IsPerm p) (hn : n ≤ 10) (hc : Cap n c) :
    Calls Try.prog 36 #[.slice A n c] w (RetOrder w (sgn p) 0) := sign_ok A n c p w hA (permErr_of hp (by rw [hA.len]; exact hn)) hc.1 hc.2

end Go.Proofs.Ytmdpfadfimodjaa

/-
  How many lots are not their own places: the sign of the order that they deal. Plain mathematics.
-/
namespace Go.Proofs.Ytmdpfadfimodjaa
open Go.RowKit

/-- How many of the first k lots are not their own places. -/
def movesN (r : List Int) : Nat → Nat
  | 0 => 0
  | k + 1 => movesN r k + (if r.getD k 0 = (k : Int) then 0 else 1)
theorem movesN_le (r : List Int) : ∀ k, movesN r k ≤ k
  | 0 => Nat.le_refl _
  | k + 1 => by have := movesN_le r k; unfold movesN; split <;> omega
theorem movesN_yes {r : List Int} {k : Nat} (h : r.getD k 0 ≠ (k : Int)) : movesN r (k + 1) = movesN r k + 1 := by
  show movesN r k + (if r.getD k 0 = (k : Int) then 0 else 1) = _
  rw [if_neg h]
theorem movesN_no {r : List Int} {k : Nat} (h : r.getD k 0 = (k : Int)) : movesN r (k + 1) = movesN r k := by
  show movesN r k + (if r.getD k 0 = (k : Int) then 0 else 1) = _
  rw [if_pos h]; rfl

theorem inv_snoc : ∀ {p : List Int} {v : Int}, (∀ x ∈ p, x < v) → inv (p ++ [v]) = inv p
  | [], _, _ => rfl
  | x :: t, v, h => by
    have ih := inv_snoc (p := t) (v := v) fun y hy => h y (List.mem_cons_of_mem _ hy)
    have hx := h x List.mem_cons_self
    show (t ++ [v]).countP (fun y => decide (y < x)) + inv (t ++ [v]) = t.countP (fun y => decide (y < x)) + inv t
    rw [ih, List.countP_append]
    have : [v].countP (fun y => decide (y < x)) = 0 := by
      rw [List.countP_eq_zero]
      intro y hy
      rw [List.mem_singleton] at hy
      subst hy
      simp; omega
    omega
theorem sgn_snoc {p : List Int} (h : IsPerm p) : sgn (p ++ [(p.length : Int)]) = sgn p := by
  unfold sgn
  rw [inv_snoc fun x hx => (h.range hx).2]

theorem sgn_dealStep_own {p : List Int} (h : IsPerm p) : sgn (dealStep p (p.length : Int)) = sgn p := by
  unfold dealStep
  rw [Int.toNat_natCast, swapAt_self (by simp), sgn_snoc h]
theorem sgn_dealStep_other {p : List Int} {m : Nat} (h : IsPerm p) (hm : m < p.length) : sgn (dealStep p (m : Int)) = - sgn p := by
  unfold dealStep
  rw [Int.toNat_natCast, sgn_swapAt (isPerm_snoc h).nodup (by simp) (by simp; omega) (by omega), sgn_snoc h]

theorem sgn_moves {l : List Int} (h : IsLots l) : ∀ k, k ≤ l.length → sgn (dealt (l.take k)) = sg (movesN l k)
  | 0, _ => rfl
  | k + 1, hk => by
    have ih := sgn_moves h k (by omega)
    have hp := isPerm_dealt_take h k (by omega)
    have hl : (dealt (l.take k)).length = k := by rw [length_dealt, List.length_take]; omega
    obtain ⟨m, hm⟩ := Int.eq_ofNat_of_zero_le (h k (by omega)).1
    have hmk := (h k (by omega)).2
    rw [take_snoc (by omega), dealt_snoc]
    by_cases e : l.getD k 0 = (k : Int)
    · rw [movesN_no e, ← ih, e]
      have := sgn_dealStep_own hp
      rwa [hl] at this
    · rw [movesN_yes e, sg_succ, ← ih, hm]
      exact sgn_dealStep_other hp (by omega)
theorem sgn_dealt {l : List Int} (h : IsLots l) : sgn (dealt l) = sg (movesN l l.length) := by
  have := sgn_moves h l.length (Nat.le_refl _)
  rwa [List.take_of_length_le (Nat.le_refl _)] at this

/-- The sign tells whether the number of crossings is even, and that of moves. -/
theorem parities {p : List Int} {a b : Nat} (h1 : sgn p = sg a) (h2 : sgn p = sg b) : (sgn p = 1 ∧ a % 2 = 0 ∧ b % 2 = 0) ∨ (sgn p = -1 ∧ a % 2 = 1 ∧ b % 2 = 1) := by
  unfold sg at h1 h2
  split at h1 <;> split at h2 <;> omega

end Go.Proofs.Ytmdpfadfimodjaa

/-
  castkeep.bitsOf.
-/
namespace Go.Proofs.Ytmdpfadfimodjaa
open Go.RowKit

theorem run_min2N {P : Program} (x y m : Nat) (hm : m = min x y) (ts : Array TypeId) (t : TypeId) (W : World) :
    (Builtin.min_ ts t #[.int .i64 (x : Int), .int .i64 (y : Int)]).run P W = .ok (.int .i64 (m : Int)) W := by
  have e : (if (y : Int) < x then (y : Int) else x) = (m : Int) := by
    subst hm
    split <;> omega
  simp only [Builtin.min_, Builtin.min2, List.foldlM_cons, List.foldlM_nil, pure_bind]
  simp only [e]
  rfl
/-- The bits that a law makes of bytes. -/
def bts (xs : List Nat) (m : Nat) : List Nat := (xs.take m).map (· % 2)
theorem bts_bin (xs : List Nat) (m : Nat) : Bin (bts xs m) := fun x hx => by
  obtain ⟨y, _, rfl⟩ := List.mem_map.1 hx
  show y % 2 ≤ 1
  omega
theorem bts_len (xs : List Nat) (m : Nat) : (bts xs m).length = min m xs.length := by rw [bts, List.length_map, List.length_take]
theorem bts_ok {xs : List Nat} {m : Nat} (h : m ≤ 200) : tapeErr (bts xs m) = 0 := tapeErr_ok (by rw [bts_len]; omega) (bts_bin xs m)
theorem bts_step {xs : List Nat} {k : Nat} (hk : k < xs.length) : bts xs (k + 1) = bts xs k ++ [xs.getD k 0 % 2] := by rw [bts, take_snocT hk, List.map_append]; rfl
/-- Bytes of the call's own come back. -/
def RetByts (w : World) (xs : List Nat) (e : Ending) (w' : World) : Prop := ∃ v, e = .returned v ∧ OwnByts w' w.heap.size v xs ∧ Below w.heap.size w w'

set_option maxHeartbeats 400000 in
theorem bitsOf_any (A : Option Addr) (n c : Nat) (xs : List Nat) (m : Nat) (w : World) (h : Byts w A n xs) (hc : Cap n c) (hm : m ≤ 1000) :
    Calls Try.prog 28 #[.slice A n c, .int .i64 (m : Int)] w (RetByts w (bts xs m)) := by
  obtain ⟨q, hq⟩ : ∃ q, q = min n m := ⟨_, rfl⟩
  have HL := hid h.len
  have hcap := hc
  unfold Cap at hcap
  have hmin := fun ts t W => run_min2N (P := Try.prog) n m q hq ts t W
  have HQ := hid hq
  have hqn : q ≤ n := by omega
  have hqm : q ≤ m := by omega
  clear hq
  have hto := fun W => run_toB A n c q (q : Int) rfl (by omega) W
  have HH := hid h
  clear h
  go_enter Try.func28, Try.ntmps28
  go_wp2
  clear hmin hto
  go_loopg [5, 15] q (fun g v sv wr => ∃ k : Nat, k ≤ q ∧ q - k ≤ g ∧ sv = .int .i64 (k : Int) ∧ OwnByts wr w.heap.size v (bts xs k) ∧ Below w.heap.size w wr)
  case atStart => exact ⟨0, by omega, by omega, rfl, OwnByts.nil _ _, Below.refl _ _⟩
  case round =>
    obtain ⟨k, hk, hg, rfl, ho, hb⟩ := hrel
    have HO := hid ho
    have HB := hid hb
    clear ho hb
    by_cases hlt : k < q
    · obtain ⟨b, o, rfl, hbb, hcc⟩ := HH.out.row (by omega)
      have g1 : wr.cell? ⟨b, o + k, none⟩ = some (.int .u8 ((xs.getD k 0 : Nat) : Int)) := (HB.out.cell (p := ⟨b, o + k, none⟩) hbb).trans (hcc k (by omega))
      have HS := hid (bts_step (xs := xs) (k := k) (by rw [HL.out]; omega))
      have HK : Hid ((bts xs k).length ≤ 1000000000000) := by rw [Hid, bts_len]; omega
      have hx := HH.out.get (j := k) (by omega)
      clear hcc
      generalize xs.getD k 0 = x at *
      have hr : (x : Int).tmod 2 = ((x % 2 : Nat) : Int) := by rw [Int.tmod_eq_emod_of_nonneg (by omega)]; omega
      have hx2 : x % 2 < 2 := Nat.mod_lt _ (by omega)
      go_wp2_with (at_builtin; refine wpList_appT _ _ rfl (.tmp 19) (.tmp 22) rfl w.heap.size _ (bts xs k) (x % 2) hr rfl rfl HO.out HK.out HB.out.size ?_)
      intro v' w1 ho1 hb1 _
      rw [← HS.out] at ho1
      have HO1 := hid ho1
      have HB1 := hid (HB.out.trans hb1)
      clear ho1 hb1
      go_wp2
      go_roundg (q - (k + 1))
      case measure => omega
      case rel => exact ⟨k + 1, by omega, by omega, by go_num, HO1.out, HB1.out⟩
    · obtain rfl : k = q := by omega
      have HE : Hid (bts xs k = bts xs m) := by
        rw [Hid, bts, bts, HQ.out]
        by_cases hnm : n ≤ m
        · rw [Nat.min_eq_left hnm, List.take_of_length_le (by rw [HL.out]; omega), List.take_of_length_le (by rw [HL.out]; omega)]
        · rw [Nat.min_eq_right (by omega)]
      rw [HE.out] at HO
      go_wp2
      go_ret
      exact ⟨_, rfl, HO.out, HB.out⟩
end Go.Proofs.Ytmdpfadfimodjaa

/-
  n! and castref.Factorial.
-/
namespace Go.Proofs.Ytmdpfadfimodjaa
open Go.RowKit

def fact : Nat → Nat
  | 0 => 1
  | n + 1 => (n + 1) * fact n

theorem fact_pos : ∀ n, 0 < fact n
  | 0 => by decide
  | n + 1 => Nat.mul_pos (by omega) (fact_pos n)
theorem fact_mono {a b : Nat} (h : a ≤ b) : fact a ≤ fact b := by
  induction h with
  | refl => exact Nat.le_refl _
  | step _ ih => exact Nat.le_trans ih (Nat.le_mul_of_pos_left _ (by omega))
theorem fact_ten {n : Nat} (h : n ≤ 10) : fact n ≤ 3628800 := Nat.le_trans (fact_mono h) (by decide)

end Go.Proofs.Ytmdpfadfimodjaa

/-
  Orders and their numbers: plain mathematics. Nothing of the program is proved here.
-/
namespace Go.Proofs.Ytmdpfadfimodjaa
open Go.RowKit

/-- How many of l are less than x. -/
def less (x : Int) (l : List Int) : Nat := l.countP (fun y => decide (y < x))
/-- Lehmer's code. -/
def codeL : List Int → List Int
  | [] => []
  | x :: l => (less x l : Int) :: codeL l
/-- The number of an order. -/
def rk : List Int → Nat
  | [] => 0
  | x :: l => less x l * fact l.length + rk l

theorem less_le (x : Int) (l : List Int) : less x l ≤ l.length := List.countP_le_length
theorem less_cons (x y : Int) (l : List Int) : less x (y :: l) = less x l + if y < x then 1 else 0 := by
  unfold less
  rw [List.countP_cons]
  by_cases h : y < x <;> simp [h]
theorem less_self (x : Int) (l : List Int) : less x (x :: l) = less x l := by rw [less_cons, if_neg (by omega)]; rfl
theorem less_append (x : Int) (l m : List Int) : less x (l ++ m) = less x l + less x m := List.countP_append
theorem less_perm {x : Int} {l l' : List Int} (h : l.Perm l') : less x l = less x l' := h.countP_eq _
theorem less_all {x : Int} {l : List Int} (h : ∀ y, y ∈ l → y < x) : less x l = l.length := by
  unfold less
  rw [List.countP_eq_length]
  intro y hy
  simpa using h y hy
theorem less_none {x : Int} {l : List Int} (h : ∀ y, y ∈ l → x ≤ y) : less x l = 0 := by
  unfold less
  rw [List.countP_eq_zero]
  intro y hy
  have := h y hy
  simp
  omega
theorem less_mono {x y : Int} (h : x ≤ y) (l : List Int) : less x l ≤ less y l := by
  refine List.countP_mono_left fun z _ hz => ?_
  have : z < x := by simpa using hz
  simp
  omega
theorem less_lt {x y : Int} (h : x < y) : ∀ {l : List Int}, x ∈ l → less x l < less y l
  | z :: l, hz => by
    rw [less_cons, less_cons]
    rcases List.mem_cons.1 hz with rfl | hz
    · rw [if_neg (by omega), if_pos h]
      have := less_mono (Int.le_of_lt h) l
      omega
    · have ih := less_lt h hz
      by_cases h1 : z < x
      · rw [if_pos h1, if_pos (by omega)]
        omega
      · rw [if_neg h1]
        split <;> omega

theorem length_codeL : ∀ l : List Int, (codeL l).length = l.length
  | [] => rfl
  | _ :: l => by simp [codeL, length_codeL l]
theorem getD_codeL : ∀ (l : List Int) (i : Nat), i < l.length → (codeL l).getD i 0 = (less (l.getD i 0) (l.drop (i + 1)) : Int)
  | [], _, h => absurd h (Nat.not_lt_zero _)
  | _ :: _, 0, _ => by simp [codeL]
  | _ :: l, i + 1, h => by
    have := getD_codeL l i (by simpa using h)
    simpa [codeL] using this

theorem rk_lt : ∀ l : List Int, rk l < fact l.length
  | [] => by decide
  | x :: l => by
    have ih := rk_lt l
    have h := Nat.mul_le_mul_right (fact l.length) (less_le x l)
    show less x l * fact l.length + rk l < (l.length + 1) * fact l.length
    rw [Nat.succ_mul]
    omega

/-! ### Digits -/

def val : List Int → Nat
  | [] => 0
  | d :: l => d.toNat * fact l.length + val l
theorem val_codeL : ∀ l : List Int, val (codeL l) = rk l
  | [] => rfl
  | x :: l => by simp only [codeL, val, rk, length_codeL, val_codeL l, Int.toNat_natCast]

/-- What the loop over the digits gathers. -/
theorem val_fold : ∀ (l : List Int) (acc : Nat), (∀ d, d ∈ l → 0 ≤ d) → (l.foldl (fun (a : Nat × Nat) d => (a.1 * a.2 + d.toNat, a.2 - 1)) (acc, l.length)).1 = acc * fact l.length + val l
  | [], acc, _ => by simp [fact, val]
  | d :: l, acc, h => by
    have ih := val_fold l (acc * (l.length + 1) + d.toNat) (fun x hx => h x (List.mem_cons_of_mem _ hx))
    rw [List.foldl_cons]
    show (l.foldl _ (acc * (l.length + 1) + d.toNat, l.length + 1 - 1)).1 = _
    rw [Nat.add_sub_cancel, ih]
    show _ = acc * ((l.length + 1) * fact l.length) + (d.toNat * fact l.length + val l)
    rw [Nat.add_mul, Nat.mul_assoc]
    omega

/-- The value of the first k digits, as the loop has it. -/
def part (l : List Int) : Nat → Nat
  | 0 => 0
  | k + 1 => part l k * (l.length - k) + (l.getD k 0).toNat
theorem part_val (l : List Int) : ∀ k, k ≤ l.length → part l k * fact (l.length - k) + val (l.drop k) = val l
  | 0, _ => by simp [part]
  | k + 1, h => by
    have ih := part_val l k (by omega)
    rw [List.drop_eq_getElem_cons (by omega)] at ih
    have e : l.length - k = (l.length - (k + 1)) + 1 := by omega
    have hg : l.getD k 0 = l[k] := by rw [List.getD_eq_getElem?_getD, List.getElem?_eq_getElem (by omega)]; rfl
    have hl : (l.drop (k + 1)).length = l.length - (k + 1) := by simp
    simp only [val, hl] at ih
    rw [← ih]
    simp only [part, hg]
    rw [Nat.add_mul, Nat.mul_assoc]
    rw [e]
    simp only [fact]
    omega
theorem part_le (l : List Int) {k : Nat} (hk : k ≤ l.length) : part l k ≤ val l := by
  have h := part_val l k hk
  have := Nat.le_mul_of_pos_right (part l k) (fact_pos (l.length - k))
  omega
theorem part_end (l : List Int) : part l l.length = val l := by
  have h := part_val l l.length (Nat.le_refl _)
  rw [Nat.sub_self, List.drop_of_length_le (Nat.le_refl _)] at h
  simpa [fact, val] using h

def IsDig : List Int → Prop
  | [] => True
  | d :: l => 0 ≤ d ∧ d ≤ l.length ∧ IsDig l
theorem isDig_codeL : ∀ l : List Int, IsDig (codeL l)
  | [] => trivial
  | x :: l => ⟨by omega, by have := less_le x l; rw [length_codeL]; omega, isDig_codeL l⟩
theorem IsDig.getD : ∀ {l : List Int}, IsDig l → ∀ i, i < l.length → 0 ≤ l.getD i 0 ∧ l.getD i 0 < l.length - i
  | _ :: _, h, 0, _ => by have := h.1; have := h.2.1; simp; omega
  | _ :: l, h, i + 1, hi => by
    have := IsDig.getD h.2.2 i (by simpa using hi)
    simp
    simp at this
    omega

/-- The last m digits of k. -/
def digL : Nat → Nat → List Int
  | 0, _ => []
  | m + 1, k => ((k / fact m % (m + 1) : Nat) : Int) :: digL m k
theorem length_digL : ∀ m k, (digL m k).length = m
  | 0, _ => rfl
  | m + 1, k => by simp [digL, length_digL m k]
theorem isDig_digL : ∀ m k, IsDig (digL m k)
  | 0, _ => trivial
  | m + 1, k => ⟨by omega, by have := Nat.mod_lt (k / fact m) (show 0 < m + 1 by omega); rw [length_digL]; omega, isDig_digL m k⟩
theorem getD_digL : ∀ m k i, i < m → (digL m k).getD i 0 = ((k / fact (m - 1 - i) % (m - i) : Nat) : Int)
  | m + 1, k, 0, _ => by simp [digL]
  | m + 1, k, i + 1, h => by
    have := getD_digL m k i (by omega)
    simp only [digL, List.getD_cons_succ, this]
    rw [show m + 1 - 1 - (i + 1) = m - 1 - i by omega, show m + 1 - (i + 1) = m - i by omega]
theorem val_digL : ∀ m k, val (digL m k) = k % fact m
  | 0, k => by simp [digL, val, fact, Nat.mod_one]
  | m + 1, k => by
    simp only [digL, val, length_digL, val_digL m k, fact, Int.toNat_natCast]
    rw [Nat.mul_comm (m + 1) (fact m), Nat.mod_mul, Nat.mul_comm (fact m)]
    omega
theorem fact_step (k j : Nat) : k / fact j / (j + 1) = k / fact (j + 1) := by
  rw [Nat.div_div_eq_div_mul, Nat.mul_comm (fact j)]
  rfl

/-! ### By digits out of what is left -/

def pick : List Int → List Int → List Int
  | _, [] => []
  | left, d :: ds => left.getD d.toNat 0 :: pick (left.eraseIdx d.toNat) ds
theorem length_pick : ∀ left ds, (pick left ds).length = ds.length
  | _, [] => rfl
  | left, d :: ds => by simp [pick, length_pick _ ds]
theorem perm_erase : ∀ {l : List Int} {i : Nat}, i < l.length → (l.getD i 0 :: l.eraseIdx i).Perm l
  | a :: l, 0, _ => by simp
  | a :: l, i + 1, h => by
    have ih := perm_erase (l := l) (i := i) (by simpa using h)
    rw [List.getD_cons_succ, List.eraseIdx_cons_succ]
    exact (List.Perm.swap _ _ _).trans (ih.cons a)
theorem pick_perm : ∀ {ds left : List Int}, left.length = ds.length → IsDig ds → (pick left ds).Perm left
  | [], left, hl, _ => by
    have : left = [] := List.eq_nil_of_length_eq_zero hl
    subst this
    exact .refl _
  | d :: ds, left, hl, h => by
    have hd : d.toNat < left.length := by have := h.1; have := h.2.1; simp at hl; omega
    have hl2 : (left.eraseIdx d.toNat).length = ds.length := by rw [List.length_eraseIdx, if_pos hd]; simp at hl; omega
    exact ((pick_perm hl2 h.2.2).cons _).trans (perm_erase hd)
theorem less_sorted : ∀ {l : List Int} {i : Nat}, l.Pairwise (· < ·) → i < l.length → less (l.getD i 0) l = i
  | a :: l, 0, h, _ => by
    rw [List.getD_cons_zero, less_self]
    exact less_none fun y hy => Int.le_of_lt ((List.pairwise_cons.1 h).1 y hy)
  | a :: l, i + 1, h, hi => by
    have hi' : i < l.length := by simpa using hi
    rw [List.getD_cons_succ, less_cons, less_sorted (List.pairwise_cons.1 h).2 hi', if_pos ((List.pairwise_cons.1 h).1 _ (getD_mem hi'))]
theorem codeL_pick : ∀ {ds left : List Int}, left.Pairwise (· < ·) → left.length = ds.length → IsDig ds → codeL (pick left ds) = ds
  | [], left, _, _, _ => rfl
  | d :: ds, left, hs, hl, h => by
    have hd : d.toNat < left.length := by have := h.1; have := h.2.1; simp at hl; omega
    have hl2 : (left.eraseIdx d.toNat).length = ds.length := by rw [List.length_eraseIdx, if_pos hd]; simp at hl; omega
    have hs2 : (left.eraseIdx d.toNat).Pairwise (· < ·) := hs.sublist (List.eraseIdx_sublist _ _)
    simp only [pick, codeL, codeL_pick hs2 hl2 h.2.2]
    congr 1
    rw [less_perm (pick_perm hl2 h.2.2), ← less_self, less_perm (perm_erase hd), less_sorted hs hd]
    have := h.1
    omega

theorem sorted_iotaP (n : Nat) : (iota n).Pairwise (· < ·) := by
  unfold iota
  rw [List.pairwise_map]
  exact List.pairwise_lt_range.imp (fun h => by omega)

/-- The order with the number k. -/
def atL (n k : Nat) : List Int := pick (iota n) (digL n k)
theorem length_atL (n k : Nat) : (atL n k).length = n := by rw [atL, length_pick, length_digL]
theorem isPerm_atL (n k : Nat) : IsPerm (atL n k) := by
  unfold IsPerm
  rw [length_atL]
  exact pick_perm (by rw [length_iota, length_digL]) (isDig_digL n k)
theorem rk_atL {n k : Nat} (h : k < fact n) : rk (atL n k) = k := by
  rw [← val_codeL, atL, codeL_pick (sorted_iotaP n) (by rw [length_iota, length_digL]) (isDig_digL n k), val_digL, Nat.mod_eq_of_lt h]

/-! ### The order of orders -/

theorem rk_first {x y : Int} {l m : List Int} (hp : (x :: l).Perm (y :: m)) (h : x < y) : rk (x :: l) < rk (y :: m) := by
  have hl : l.length = m.length := by simpa using hp.length_eq
  have h1 : less x l < less y m := by
    rw [← less_self x l, ← less_self y m, less_perm hp]
    exact less_lt h (hp.mem_iff.1 (List.mem_cons_self ..))
  have h2 := rk_lt l
  have h3 := Nat.mul_le_mul_right (fact l.length) (show less x l + 1 ≤ less y m by omega)
  rw [Nat.succ_mul] at h3
  simp only [rk, ← hl]
  omega
theorem rk_cmp : ∀ {l m : List Int}, l.Perm m → (l = m ∧ cmpL l m = 0) ∨ (cmpL l m = -1 ∧ rk l < rk m) ∨ (cmpL l m = 1 ∧ rk m < rk l)
  | [], m, h => by
    have : m = [] := List.nil_perm.1 h
    subst this
    exact .inl ⟨rfl, rfl⟩
  | x :: l, [], h => absurd h.length_eq (by simp)
  | x :: l, y :: m, h => by
    simp only [cmpL]
    by_cases h1 : x < y
    · rw [if_pos h1]
      exact .inr (.inl ⟨rfl, rk_first h h1⟩)
    · rw [if_neg h1]
      by_cases h2 : y < x
      · rw [if_pos h2]
        exact .inr (.inr ⟨rfl, rk_first h.symm h2⟩)
      · rw [if_neg h2]
        have e : x = y := by omega
        subst e
        have hp := h.cons_inv
        have hl := hp.length_eq
        have hx := less_perm (x := x) hp
        simp only [rk, hl, hx]
        rcases rk_cmp hp with ⟨e, h0⟩ | ⟨h0, h3⟩ | ⟨h0, h3⟩
        · exact .inl ⟨by rw [e], h0⟩
        · exact .inr (.inl ⟨h0, by omega⟩)
        · exact .inr (.inr ⟨h0, by omega⟩)
theorem rk_inj {l m : List Int} (h : l.Perm m) (e : rk l = rk m) : l = m := by
  rcases rk_cmp h with h | h | h
  · exact h.1
  · omega
  · omega
theorem cmp_lt {l m : List Int} (h : l.Perm m) : cmpL l m < 0 ↔ rk l < rk m := by
  rcases rk_cmp h with ⟨rfl, h⟩ | h | h
  · omega
  · omega
  · omega
theorem IsPerm.perm {a b : List Int} (ha : IsPerm a) (hb : IsPerm b) (hl : a.length = b.length) : a.Perm b := by
  unfold IsPerm at ha hb
  rw [hl] at ha
  exact ha.trans hb.symm
theorem atL_rk {p : List Int} (h : IsPerm p) : atL p.length (rk p) = p :=
  rk_inj ((isPerm_atL _ _).perm h (length_atL _ _)) (rk_atL (rk_lt p))

/-! ### The next one -/

theorem rk_falls : ∀ {l : List Int}, l.Pairwise (· > ·) → rk l + 1 = fact l.length
  | [], _ => rfl
  | x :: l, h => by
    have ih := rk_falls (List.pairwise_cons.1 h).2
    simp only [rk, List.length_cons, fact]
    rw [less_all (fun y hy => (List.pairwise_cons.1 h).1 y hy), Nat.succ_mul]
    omega
theorem rk_rises : ∀ {l : List Int}, l.Pairwise (· < ·) → rk l = 0
  | [], _ => rfl
  | x :: l, h => by
    simp only [rk]
    rw [less_none (fun y hy => Int.le_of_lt ((List.pairwise_cons.1 h).1 y hy)), rk_rises (List.pairwise_cons.1 h).2]
    omega
theorem rk_behind : ∀ (pre : List Int) {s s' : List Int}, s.Perm s' → rk (pre ++ s) + rk s' = rk (pre ++ s') + rk s
  | [], s, s', _ => by simp; omega
  | x :: pre, s, s', h => by
    have ih := rk_behind pre h
    have hp : (pre ++ s).Perm (pre ++ s') := h.append_left _
    simp only [List.cons_append, rk]
    rw [less_perm hp, hp.length_eq]
    omega
theorem next_core {x y : Int} {u v : List Int} (hf : (u ++ y :: v).Pairwise (· > ·)) (hxy : x < y) (hv : ∀ z, z ∈ v → z < x) :
    rk (y :: (u ++ x :: v).reverse) = rk (x :: (u ++ y :: v)) + 1 := by
  have hf1 := List.pairwise_append.1 hf
  have hf2 := List.pairwise_cons.1 hf1.2.1
  have huy : ∀ z, z ∈ u → y < z := fun z hz => hf1.2.2 z hz y (List.mem_cons_self ..)
  have h1 : less x (u ++ y :: v) = v.length := by
    rw [less_append, less_cons, less_none (fun z hz => by have := huy z hz; omega), less_all hv, if_neg (by omega)]
    omega
  have h2 : less y ((u ++ x :: v).reverse) = v.length + 1 := by
    rw [less_perm (List.reverse_perm _), less_append, less_cons, less_none (fun z hz => by have := huy z hz; omega), less_all (fun z hz => by have := hv z hz; omega), if_pos hxy]
    omega
  have h3 : (u ++ x :: v).reverse.Pairwise (· < ·) := by
    rw [List.pairwise_reverse]
    refine List.pairwise_append.2 ⟨hf1.1, List.pairwise_cons.2 ⟨fun z hz => hv z hz, hf2.2⟩, fun a ha b hb => ?_⟩
    rcases List.mem_cons.1 hb with rfl | hb
    · have := huy a ha; show b < a; omega
    · have := huy a ha; have := hv b hb; show b < a; omega
  have h4 := rk_falls hf
  have hl : ((u ++ x :: v).reverse).length = (u ++ y :: v).length := by simp; omega
  simp only [rk]
  rw [h1, h2, rk_rises h3, hl, Nat.succ_mul, ← h4]
  omega

/-! ### The other way round -/

theorem rk_turned {n : Int} : ∀ {l : List Int}, l.Nodup → rk l + rk (l.map (fun v => n - v)) + 1 = fact l.length
  | [], _ => rfl
  | x :: l, h => by
    have hn := List.nodup_cons.1 h
    have ih := rk_turned (n := n) hn.2
    have e : less x l + less (n - x) (l.map (fun v => n - v)) = l.length := by
      clear ih h
      have : x ∉ l := hn.1
      clear hn
      induction l with
      | nil => rfl
      | cons y l ih =>
        have hy : y ≠ x := fun e => this (by rw [e]; exact List.mem_cons_self ..)
        have ih := ih (fun h => this (List.mem_cons_of_mem _ h))
        rw [List.map_cons, less_cons, less_cons, List.length_cons]
        by_cases h1 : y < x
        · rw [if_pos h1, if_neg (by omega)]; omega
        · rw [if_neg h1, if_pos (by omega)]; omega
    simp only [List.map_cons, rk, List.length_map, List.length_cons, fact]
    rw [← ih] at *
    have h2 : less x l * (rk l + rk (l.map fun v => n - v) + 1) + less (n - x) (l.map fun v => n - v) * (rk l + rk (l.map fun v => n - v) + 1) = l.length * (rk l + rk (l.map fun v => n - v) + 1) := by rw [← Nat.add_mul, e]
    rw [Nat.succ_mul]
    omega

/-! ### By the first number -/

/-- What is left behind the first number, made an order. -/
def shut (x y : Int) : Int := if x < y then y - 1 else y
theorem rk_map {f : Int → Int} : ∀ {l : List Int}, (∀ a, a ∈ l → ∀ b, b ∈ l → (f a < f b ↔ a < b)) → rk (l.map f) = rk l
  | [], _ => rfl
  | x :: l, h => by
    have ih := rk_map (l := l) (fun a ha b hb => h a (List.mem_cons_of_mem _ ha) b (List.mem_cons_of_mem _ hb))
    have e : less (f x) (l.map f) = less x l := by
      unfold less
      rw [List.countP_map]
      refine List.countP_congr fun a ha => ?_
      have := h a (List.mem_cons_of_mem _ ha) x (List.mem_cons_self ..)
      simpa using this
    simp only [List.map_cons, rk, List.length_map, ih, e]
theorem rk_shut {x : Int} {l : List Int} (h : x ∉ l) : rk (l.map (shut x)) = rk l := by
  refine rk_map fun a ha b hb => ?_
  have h1 : a ≠ x := fun e => h (e ▸ ha)
  have h2 : b ≠ x := fun e => h (e ▸ hb)
  unfold shut
  split <;> split <;> omega
theorem less_perm_head {x : Int} {l : List Int} (h : IsPerm (x :: l)) : (less x l : Int) = x := by
  have hx := h.range (List.mem_cons_self ..)
  have e : less x (x :: l) = less x (iota (x :: l).length) := less_perm h
  obtain ⟨m, hm⟩ := Int.eq_ofNat_of_zero_le hx.1
  have h1 := less_sorted (sorted_iotaP (x :: l).length) (i := m) (by rw [length_iota]; omega)
  rw [getD_iota (by omega)] at h1
  rw [less_self] at e
  subst hm
  rw [e, h1]
theorem isPerm_shut {x : Int} {l : List Int} (h : IsPerm (x :: l)) : IsPerm (l.map (shut x)) := by
  have hn := List.nodup_cons.1 h.nodup
  have hx := h.range (List.mem_cons_self ..)
  refine isPerm_of_nodup ?_ ?_
  · unfold List.Nodup
    rw [List.pairwise_map]
    refine hn.2.imp_of_mem fun {a b} ha hb hab => ?_
    have h1 : a ≠ x := fun e => hn.1 (e ▸ ha)
    have h2 : b ≠ x := fun e => hn.1 (e ▸ hb)
    unfold shut
    split <;> split <;> omega
  · intro y hy
    obtain ⟨a, ha, rfl⟩ := List.mem_map.1 hy
    have h1 : a ≠ x := fun e => hn.1 (e ▸ ha)
    have h2 := h.range (List.mem_cons_of_mem _ ha)
    simp only [List.length_cons, List.length_map] at *
    unfold shut
    split <;> omega

end Go.Proofs.Ytmdpfadfimodjaa

/-
  package rank: Count, Code, Of.
-/
namespace Go.Proofs.Ytmdpfadfimodjaa
open Go.RowKit

/-! ### Count -/

theorem fact_mul (k : Nat) : ((fact (k + 1) : Nat) : Int) * ((k : Int) + 2) = ((fact (k + 2) : Nat) : Int) := by
  rw [show fact (k + 2) = (k + 2) * fact (k + 1) from rfl, Int.natCast_mul, Int.mul_comm]
  rfl

set_option maxHeartbeats 400000 in
theorem count_ok (n : Nat) (w : World) (hn : n ≤ 10) :
    Calls Try.prog 24 #[.int .i64 (n : Int)] w fun e w' => e = .returned (.tuple #[.int .i64 ((fact n : Nat) : Int), .int .i64 0]) ∧ w = w' := by
  go_enter Try.func24, Try.ntmps24
  go_wp2
  go_loopg [4, 5] n (fun g u s wr => ∃ k : Nat, (k + 1 ≤ n ∨ k = 0) ∧ n - k ≤ g ∧ u = .int .i64 ((fact (k + 1) : Nat) : Int) ∧ s = .int .i64 ((k : Int) + 2) ∧ w = wr)
  case atStart => exact ⟨0, Or.inr rfl, by omega, rfl, rfl, rfl⟩
  case round =>
    obtain ⟨k, hk, hg, rfl, rfl, rfl⟩ := hrel
    by_cases hlt : k + 2 ≤ n
    · have HM := hid (fact_mul k)
      have h1 : ((fact (k + 1) : Nat) : Int) * ((k : Int) + 2) ≤ 3628800 := by have := fact_ten (n := k + 2) (by omega); rw [HM.out]; omega
      have h0 : 0 ≤ ((fact (k + 1) : Nat) : Int) * ((k : Int) + 2) := by rw [HM.out]; omega
      generalize fact (k + 1) = F at HM h1 h0 ⊢
      go_wp2
      go_roundg (n - (k + 1))
      case measure => omega
      case rel => exact ⟨k + 1, by omega, by omega, by rw [HM.out], by go_num, rfl⟩
    · have HE : Hid (fact (k + 1) = fact n) := by
        rcases hk with h | h
        · rw [show n = k + 1 by omega]; exact rfl
        · subst h
          have : n = 0 ∨ n = 1 := by omega
          rcases this with rfl | rfl <;> rfl
      have h2 : ¬ (k : Int) + 2 ≤ (n : Int) := by omega
      rw [HE.out]
      go_wp2
      go_ret2
      exact ⟨rfl, rfl⟩

theorem count_bad (n : Int) (w : World) (hn : n < 0 ∨ 10 < n) :
    Calls Try.prog 24 #[.int .i64 n] w fun e w' => e = .returned (.tuple #[.int .i64 0, .int .i64 1]) ∧ w = w' := by
  rcases hn with h | h
  all_goals
    go_enter Try.func24, Try.ntmps24
    go_wp2
    go_ret2
    exact ⟨rfl, rfl⟩

/-! ### Code -/

/-- The cells of the code when k numbers are done, and m behind the next one are looked at. -/
def cellK (p : List Int) (k m j : Nat) : Value := .int .i64 (if j < k then (codeL p).getD j 0 else if j = k then (less (p.getD k 0) ((p.drop (k + 1)).take m) : Int) else 0)
theorem cellK_start (p : List Int) (j : Nat) : Value.int .i64 0 = cellK p 0 0 j := by
  unfold cellK
  rw [if_neg (by omega)]
  split <;> rfl
theorem take_drop_snoc' {p : List Int} {a m : Nat} (h : a + m < p.length) : (p.drop a).take (m + 1) = (p.drop a).take m ++ [p.getD (a + m) 0] := by
  rw [take_snoc (by rw [List.length_drop]; omega)]
  congr 1
  simp [List.getD_eq_getElem?_getD]
theorem less_step {p : List Int} {k m : Nat} (h : k + 1 + m < p.length) : less (p.getD k 0) ((p.drop (k + 1)).take (m + 1)) = less (p.getD k 0) ((p.drop (k + 1)).take m) + if p.getD (k + 1 + m) 0 < p.getD k 0 then 1 else 0 := by
  rw [take_drop_snoc' h, less_append, less_cons]
  simp [less]
theorem cellK_yes {p : List Int} {k m : Nat} (h : k + 1 + m < p.length) (hlt : p.getD (k + 1 + m) 0 < p.getD k 0) (j : Nat) :
    (if j = k then Value.int .i64 ((less (p.getD k 0) ((p.drop (k + 1)).take m) : Int) + 1) else cellK p k m j) = cellK p k (m + 1) j := by
  unfold cellK
  by_cases e : j = k
  · subst e
    rw [if_pos rfl, if_neg (by omega), if_pos rfl, less_step h, if_pos hlt]
    rfl
  · rw [if_neg e, if_neg e, if_neg e]
theorem cellK_no {p : List Int} {k m : Nat} (h : k + 1 + m < p.length) (hlt : ¬ p.getD (k + 1 + m) 0 < p.getD k 0) (j : Nat) : cellK p k m j = cellK p k (m + 1) j := by
  unfold cellK
  rw [less_step h, if_neg hlt]
  rfl
theorem cellK_end {p : List Int} {k m : Nat} (hk : k < p.length) (h : k + 1 + m = p.length) (j : Nat) : cellK p k m j = cellK p (k + 1) 0 j := by
  unfold cellK
  rw [List.take_of_length_le (by rw [List.length_drop]; omega), List.take_zero, ← getD_codeL p k hk]
  by_cases h1 : j < k
  · rw [if_pos h1, if_pos (by omega)]
  · rw [if_neg h1]
    by_cases h2 : j = k
    · subst h2
      rw [if_pos rfl, if_pos (by omega)]
    · rw [if_neg h2, if_neg (by omega)]
      split <;> rfl

set_option maxHeartbeats 1600000 in
theorem code_ok (A : Option Addr) (n c : Nat) (p : List Int) (w : World) (hA : Ints w A n p) (hp : permErr p = 0) (hc : n ≤ c) :
    Calls Try.prog 34 #[.slice A n c] w (RetInts w (codeL p) 0) := by
  have hn10 : n ≤ 10 := by rw [← hA.len]; exact (permErr_ok.1 hp).1
  have hmk := fun W => run_make_row' (P := Try.prog) 22 3 (.int .i64 0) 8 Try.underlying22 infoInt rfl .i64 .i64 n (by omega) (by omega) W
  go_enter Try.func34, Try.ntmps34
  go_wp2_with fail
  refine (check_any A n c p _ hA (by omega)).mono ?_
  rintro e w1 ⟨rfl, hb1⟩
  have hA1 := hA.keep hb1
  have HB1 := hid hb1
  have HL := hid hA.len
  clear hA hb1
  go_wp2_with fail
  go_loopg [20] n (fun g s wr => ∃ k : Nat, k ≤ n ∧ n - k ≤ g ∧ s = .int .i64 k ∧ wr.rowIs w1.heap.size 3 n (cellK p k 0) ∧ Below w1.heap.size w1 wr)
  case atStart => exact ⟨0, Nat.zero_le _, by omega, rfl, (World.rowIs_made w1 _ n _).congr (fun j _ => cellK_start p j), (Below.refl _ _).alloc (Nat.le_refl _) _⟩
  case round =>
    obtain ⟨k, hk, hg, rfl, hrow, hbel⟩ := hrel
    have HR := hid hrow
    have HB := hid hbel
    clear hrow hbel hmk
    by_cases hlt : k < n
    · have hI := hA1.keep HB.out
      have HS := hid (hA1.drop (c := c) (l := k + 1) (by omega) hc)
      obtain ⟨b, o, rfl, hb, hcell⟩ := hI.row (by omega)
      have g1 := hcell k hlt
      have hsl := fun W => run_from (some ⟨b, o, none⟩) n c (k + 1) ((k : Int) + 1) (by omega) (by omega) W
      clear hcell hI hb
      generalize hx : p.getD k 0 = x at g1
      have HX := hid hx
      clear hx
      generalize subA (some ⟨b, o, none⟩) c (k + 1) = S at HS hsl
      go_wp2
      go_loopg [30] (n - (k + 1)) (fun g s wr => ∃ m : Nat, m ≤ n - (k + 1) ∧ n - (k + 1) - m ≤ g ∧ s = .int .i64 m ∧ wr.rowIs w1.heap.size 3 n (cellK p k m) ∧ Below w1.heap.size w1 wr)
      case atStart => exact ⟨0, Nat.zero_le _, by omega, rfl, HR.out, HB.out⟩
      case round =>
        clear HR HB
        obtain ⟨m, hm, hgm, rfl, hrow, hbel⟩ := hrel
        have HR := hid hrow
        have HB := hid hbel
        clear hrow hbel hsl
        by_cases hmlt : m < n - (k + 1)
        · obtain ⟨b2, o2, rfl, hb2, hcell2⟩ := (HS.out.keep HB.out).row (by omega)
          have g2 := hcell2 m hmlt
          have hy : (p.drop (k + 1)).getD m 0 = p.getD (k + 1 + m) 0 := by simp [List.getD_eq_getElem?_getD]
          rw [hy] at g2
          have g3 : wr.cell? ⟨w1.heap.size, k, none⟩ = some (.int .i64 (less (p.getD k 0) ((p.drop (k + 1)).take m) : Int)) := by
            rw [HR.out.cell (by omega)]
            unfold cellK
            rw [if_neg (by omega), if_pos rfl]
          have g4 : wr.frozen? ⟨w1.heap.size, k, none⟩ = false := HR.out.frozen k
          have hle : less (p.getD k 0) ((p.drop (k + 1)).take m) ≤ n := by
            have := less_le (p.getD k 0) ((p.drop (k + 1)).take m)
            have h2 := List.length_take_le m (p.drop (k + 1))
            omega
          have HYES := hid (fun h => cellK_yes (p := p) (k := k) (m := m) (by rw [HL.out]; omega) h)
          have HNO := hid (cellK_no (p := p) (k := k) (m := m) (by rw [HL.out]; omega))
          rw [HX.out] at HYES HNO g3 hle
          clear hcell2 hy
          generalize p.getD (k + 1 + m) 0 = y at g2 HYES HNO
          generalize less x ((p.drop (k + 1)).take m) = L at g3 hle HYES
          by_cases hyx : y < x
          · have HW := hid (HR.out.set k (.int .i64 ((L : Int) + 1)))
            go_wp2
            go_roundg (n - (k + 1) - (m + 1))
            case measure => omega
            case rel => exact ⟨m + 1, by omega, by omega, by go_num, HW.out.congr (fun j _ => HYES.out hyx j), HB.out.setCell (Nat.le_refl _) _⟩
          · go_wp2
            go_roundg (n - (k + 1) - (m + 1))
            case measure => omega
            case rel => exact ⟨m + 1, by omega, by omega, by go_num, HR.out.congr (fun j _ => HNO.out hyx j), HB.out⟩
        · have hme : m = n - (k + 1) := by omega
          have HE := hid (cellK_end (p := p) (k := k) (m := m) (by rw [HL.out]; omega) (by rw [HL.out]; omega))
          have HM := hid hme
          clear hme
          go_wp2
          go_roundg (n - (k + 1))
          case measure => omega
          case rel => exact ⟨k + 1, by omega, by omega, by go_num, HR.out.congr (fun j _ => HE.out j), HB.out⟩
    · have hkn : k = n := by omega
      subst hkn
      go_wp2
      go_ret2
      refine ⟨_, _, _, rfl, HB1.out.trans (HB.out.mono HB1.out.size), ints_of_row HR.out (by rw [length_codeL, HL.out]) (fun j hj => ?_), Nat.le_refl _, by omega⟩
      unfold cellK
      rw [if_pos hj]

/-! ### Of -/

set_option maxHeartbeats 800000 in
theorem of_ok (A : Option Addr) (n c : Nat) (p : List Int) (w : World) (hA : Ints w A n p) (hp : permErr p = 0) (hc : n ≤ c) :
    Calls Try.prog 25 #[.slice A n c] w (RetOrder w ((rk p : Nat) : Int) 0) := by
  have hn10 : n ≤ 10 := by rw [← hA.len]; exact (permErr_ok.1 hp).1
  have HL := hid hA.len
  go_enter Try.func25, Try.ntmps25
  go_wp2_with fail
  refine (code_ok A n c p _ hA hp hc).mono ?_
  rintro e w1 ⟨A1, n1, c1, rfl, hb1, hI, _⟩
  have hn1 : n = n1 := by rw [← hI.len, length_codeL, HL.out]
  subst hn1
  have HB1 := hid hb1
  have HI := hid hI
  have HD := hid (isDig_codeL p)
  have HV : Hid (val (codeL p) = rk p) := val_codeL p
  have HF : Hid (rk p < fact n) := by have := rk_lt p; rw [HL.out] at this; exact this
  have HCL : Hid ((codeL p).length = n) := by rw [length_codeL]; exact HL.out
  clear hb1 hI hA
  generalize codeL p = d at HI HD HV HCL
  go_wp2_with fail
  go_loopg [6, 19] n (fun g u s wr => ∃ k : Nat, k ≤ n ∧ n - k ≤ g ∧ s = .int .i64 k ∧ u = .int .i64 ((part d k : Nat) : Int) ∧ w1 = wr)
  case atStart => exact ⟨0, Nat.zero_le _, by omega, rfl, rfl, rfl⟩
  case round =>
    obtain ⟨k, hk, hg, rfl, rfl, rfl⟩ := hrel
    by_cases hlt : k < n
    · obtain ⟨b, o, rfl, hb, hcell⟩ := HI.out.row (by omega)
      have g1 := hcell k hlt
      have hd := HD.out.getD k (by rw [HCL.out]; exact hlt)
      have h1 := part_le d (k := k + 1) (by rw [HCL.out]; omega)
      have h2 := fact_ten hn10
      have h3 := HF.out
      rw [HV.out] at h1
      simp only [part, HCL.out] at h1
      have HP : Hid (part d (k + 1) = part d k * (n - k) + (d.getD k 0).toNat) := by show part d k * (d.length - k) + _ = _; rw [HCL.out]
      clear hcell hb
      generalize d.getD k 0 = x at g1 hd h1 HP
      obtain ⟨y, rfl⟩ := Int.eq_ofNat_of_zero_le hd.1
      simp only [Int.toNat_natCast] at h1 HP
      generalize part d k = q at h1 HP ⊢
      have HQ : Hid ((q : Int) * ((n : Int) - (k : Int)) = ((q * (n - k) : Nat) : Int)) := by rw [Int.natCast_mul, Int.ofNat_sub (by omega)]; exact rfl
      have h5 : 0 ≤ (q : Int) * ((n : Int) - (k : Int)) := by rw [HQ.out]; omega
      have h6 : (q : Int) * ((n : Int) - (k : Int)) + y ≤ 3628800 := by rw [HQ.out]; omega
      clear hd h1 h2 h3
      go_wp2
      go_roundg (n - (k + 1))
      case measure => omega
      case rel => exact ⟨k + 1, by omega, by omega, by go_num, by rw [HP.out, HQ.out]; rfl, rfl⟩
    · have hkn : k = n := by omega
      subst hkn
      have HE : Hid (part d k = rk p) := by rw [← HV.out, ← part_end d, HCL.out]; exact rfl
      rw [HE.out]
      go_wp2
      go_ret2
      exact ⟨rfl, HB1.out⟩

end Go.Proofs.Ytmdpfadfimodjaa

/-
  package rank: digits, decode, At; slices.Delete of one number.
-/
namespace Go.Proofs.Ytmdpfadfimodjaa
open Go.RowKit

/-! ### digits -/

/-- The cells when j digits are laid, from the end on. -/
def cellD (n k j i : Nat) : Value := .int .i64 (if n - j ≤ i then (digL n k).getD i 0 else 0)
theorem cellD_step {n k j m : Nat} (hm : m + j + 1 = n) (x : Int) (hx : x = ((k / fact j % (j + 1) : Nat) : Int)) (i : Nat) (_hi : i < n) :
    (if i = m then Value.int .i64 x else cellD n k j i) = cellD n k (j + 1) i := by
  unfold cellD
  by_cases e : i = m
  · subst e
    rw [if_pos rfl, if_pos (by omega), getD_digL n k i (by omega), hx, show n - 1 - i = j by omega, show n - i = j + 1 by omega]
  · rw [if_neg e]
    by_cases h : n - j ≤ i
    · rw [if_pos h, if_pos (by omega)]
    · rw [if_neg h, if_neg (by omega)]

set_option maxHeartbeats 800000 in
theorem digits_any (n k : Nat) (w : World) (hn : n ≤ 10) (hk : k ≤ 1000000000) :
    Calls Try.prog 53 #[.int .i64 (n : Int), .int .i64 (k : Int)] w fun e w' => e = .returned (.slice (some ⟨w.heap.size, 0, none⟩) n n) ∧ Ints w' (some ⟨w.heap.size, 0, none⟩) n (digL n k) ∧ Below w.heap.size w w' := by
  have hmk := fun W => run_make_row' (P := Try.prog) 22 3 (.int .i64 0) 8 Try.underlying22 infoInt rfl .i64 .i64 n (by omega) (by omega) W
  go_enter Try.func53, Try.ntmps53
  go_wp2_with fail
  go_loopg [1, 6] n (fun g u s wr => ∃ j : Nat, j ≤ n ∧ n - j ≤ g ∧ u = .int .i64 ((k / fact j : Nat) : Int) ∧ s = .int .i64 ((n : Int) - 1 - j) ∧ wr.rowIs w.heap.size 3 n (cellD n k j) ∧ Below w.heap.size w wr)
  case atStart => exact ⟨0, Nat.zero_le _, by omega, by simp [fact], by go_num, (World.rowIs_made w _ n _).congr (fun i hi => by unfold cellD; rw [if_neg (by omega)]), (Below.refl _ _).alloc (Nat.le_refl _) _⟩
  case round =>
    obtain ⟨j, hj, hg, rfl, rfl, hrow, hbel⟩ := hrel
    have HR := hid hrow
    have HB := hid hbel
    clear hrow hbel hmk
    by_cases hlt : j < n
    · obtain ⟨m, hm⟩ : ∃ m, m + j + 1 = n := ⟨n - 1 - j, by omega⟩
      have hi : (n : Int) - 1 - j = m := by omega
      have HI := hid hi
      have HM := hid hm
      have hmn : m < n := by omega
      have hq : k / fact j ≤ k := Nat.div_le_self _ _
      have f1 : wr.frozen? ⟨w.heap.size, m, none⟩ = false := HR.out.frozen m
      have g1 := HR.out.cell (i := m) (by omega)
      have HC : Hid (∀ x : Int, x = ((k / fact j % (j + 1) : Nat) : Int) → (wr.setCell ⟨w.heap.size, m, none⟩ (.int .i64 x)).rowIs w.heap.size 3 n (cellD n k (j + 1))) :=
        fun x hx => (HR.out.set m (.int .i64 x)).congr (cellD_step hm x hx)
      have HF := hid (fact_step k j)
      rw [HI.out]
      clear hi hm
      generalize cellD n k j m = v1 at g1
      generalize k / fact j = q at hq HC HF ⊢
      have HN : Hid ((n : Int) - (m : Int) = ((j + 1 : Nat) : Int)) := by have := HM.out; show (n : Int) - m = _; omega
      have e1 : (q : Int) % ((n : Int) - (m : Int)) = ((q % (j + 1) : Nat) : Int) := by rw [HN.out]; exact (Int.natCast_emod q (j + 1)).symm
      have e2 : (q : Int) / ((n : Int) - (m : Int)) = ((q / (j + 1) : Nat) : Int) := by rw [HN.out]; exact (Int.natCast_ediv q (j + 1)).symm
      have E1 := hid e1
      have E2 := hid e2
      clear e1 e2
      go_wp2
      have hm := HM.out
      go_roundg (n - (j + 1))
      case measure => omega
      case rel => exact ⟨j + 1, by omega, by omega, by have := Nat.div_le_self k (fact (j + 1)); rw [E2.out, HF.out]; generalize k / fact (j + 1) = z at *; rw [IntWalk.wrap64_in _ (by omega)], by go_num, HC.out _ E1.out, HB.out.setCell (Nat.le_refl _) _⟩
    · have hjn : j = n := by omega
      subst hjn
      have hneg : ¬ (0 : Int) ≤ (j : Int) - 1 - j := by omega
      go_wp2
      go_ret
      exact ⟨rfl, ints_of_row HR.out (length_digL j k) (fun i _ => by unfold cellD; rw [if_pos (by omega)]), HB.out⟩

/-! ### Delete -/

theorem drop_app_one {a b : List Int} {k : Nat} (h : a.length = k) : (a ++ b).drop (k + [(0 : Int)].length) = b.drop 1 := by
  subst h
  simp

set_option maxRecDepth 100000 in
set_option maxHeartbeats 1600000 in
/-- 'slices.Delete(s, i, i+1)' in a block that is known whole. -/
theorem delete_one (g m cap i : Nat) (L : Int) (xs : List Int) (w : World) (h : Arr w g xs) (hcap : xs.length = cap) (hm : m ≤ cap) (hi : i < m) (_hc2 : cap ≤ 1000000) (hL : L = (i : Int) + 1) :
    Calls Try.prog 70 #[.slice (some ⟨g, 0, none⟩) m cap, .int .i64 (i : Int), .int .i64 L] w fun e w' =>
      e = .returned (.slice (some ⟨g, 0, none⟩) (m - 1) cap) ∧ Arr w' g (xs.take i ++ (xs.take m).drop (i + 1) ++ 0 :: xs.drop m) ∧ w.grownBy w' (some g) := by
  subst hL
  obtain ⟨i0, hi0, hz0, hz1, hz2⟩ := info_parts infoInt
  obtain ⟨news, hnews⟩ : ∃ news, news = ((xs.take m).drop (i + 1)).map (Value.int .i64) := ⟨_, rfl⟩
  have hlen : news.length = m - (i + 1) := by rw [hnews]; simp; omega
  have HX := hid hcap
  obtain ⟨A, hA, hsrc⟩ : ∃ A : Addr, subA (some ⟨g, 0, none⟩) cap (i + 1) = some A ∧ Hid (∀ t u, news[t]? = some u → w.drew.cell? (A.add t) = some u) := by
    by_cases hc : cap = i + 1
    · refine ⟨⟨g, 0, none⟩, by unfold subA; rw [if_pos hc], fun t u hu => ?_⟩
      have h0 : news.length = 0 := by rw [hlen]; omega
      rw [List.length_eq_zero_iff.1 h0] at hu
      simp at hu
    · refine ⟨⟨g, i + 1, none⟩, by unfold subA; rw [if_neg hc]; simp [Addr.add], fun t u hu => ?_⟩
      have ht : t < m - (i + 1) := by
        have := (List.getElem?_eq_some_iff.1 hu).1
        rwa [hlen] at this
      rw [Addr.add_lit]
      have hcell := h.cell (j := i + 1 + t) (by omega)
      show w.cell? _ = _
      rw [hcell, ← hu, hnews, List.getElem?_map, List.getElem?_drop, List.getElem?_take, if_pos (by omega), List.getElem?_eq_getElem (by omega), List.getD_eq_getElem?_getD, List.getElem?_eq_getElem (by omega)]
      rfl
  have hsl := fun W => run_from (some ⟨g, 0, none⟩) m cap (i + 1) ((i : Int) + 1) (by omega) (by omega) W
  simp only [hA] at hsl
  have s1 : Hid (news.length = (m - (i + 1)) * 1) := by rw [Nat.mul_one]; exact hlen
  have s2 : Hid (∀ u ∈ news, u.oneCell' = true) := by
    intro u hu
    rw [hnews] at hu
    obtain ⟨x, _, rfl⟩ := List.mem_map.1 hu
    rfl
  have s3 : Hid (∀ t, t < news.length → (w.drew.cell? ⟨g, 0 + i * 1 + t, none⟩).isSome = true ∧ w.drew.frozen? ⟨g, 0 + i * 1 + t, none⟩ = false) := by
    intro t ht
    rw [hlen] at ht
    refine ⟨?_, h.frozen _⟩
    show (w.cell? _).isSome = true
    rw [h.cell (by omega)]
    rfl
  obtain ⟨W1, hW1⟩ : ∃ W1, W1 = w.drew.setCells g (0 + i * 1) news := ⟨_, rfl⟩
  have hnl : ((xs.take m).drop (i + 1)).length = m - (i + 1) := by simp; omega
  have a1 : Arr W1 g (xs.take i ++ (xs.take m).drop (i + 1) ++ xs.drop (i + (m - (i + 1)))) := by
    have := h.drew.setCells (o := i) (ys := (xs.take m).drop (i + 1)) (by rw [hnl]; omega)
    rw [hnl] at this
    rw [hW1, hnews, show 0 + i * 1 = i by omega]
    exact this
  have o1 : w.grownBy W1 (some g) := by rw [hW1]; exact one_sets (one_drew (one_refl w _))
  have A1 := hid a1
  have O1 := hid o1
  have hyl : (xs.take i ++ (xs.take m).drop (i + 1) ++ xs.drop (i + (m - (i + 1)))).length = cap := by
    simp only [List.length_append, hnl, List.length_take, List.length_drop]; omega
  have HYL := hid hyl
  have hcl : ∀ ty, (Builtin.clear_ #[22] ty #[.slice (some ⟨g, i + (m - (i + 1)), none⟩) (m - (i + (m - (i + 1)))) (cap - (i + (m - (i + 1))))]).run Try.prog W1 = .ok (.tuple #[]) (W1.setCells g (i + (m - (i + 1))) (List.replicate (m - (i + (m - (i + 1)))) (.int .i64 0))) :=
    fun ty => Lib.run_clear_slice W1 22 3 ty (.int .i64 0) Try.underlying22 (fun _ => by kernel_rfl) rfl rfl g (i + (m - (i + 1))) _ _ (by omega) (fun t ht => by rw [a1.cell (by rw [hyl]; omega)]; rfl) (fun t ht => a1.frozen _)
  have hW := hid hW1
  have HN := hid hnews
  clear hW1 a1 o1 hyl hnews hnl hlen hcap h hA
  have hic : i ≤ cap := by omega
  go_enter Try.func70, Try.ntmps70
  go_wp2_with fail
  go_region_law (refine step_append_room rfl (.tmp 22) (.tmp 25) 22 rfl 3 i0 1 Try.underlying22 hi0 hz1 g 0 i cap (by simp [Act.eval, Act.put]) A (m - (i + 1)) (cap - (i + 1)) news (by simp [Act.eval, Act.put]) s1.out hsrc.out s2.out (by omega) s3.out ?_; rw [← hW.out])
  go_wp2
  go_ret
  have hl2 : (xs.take i ++ (xs.take m).drop (i + 1)).length = i + (m - (i + 1)) := by
    have := HX.out
    simp only [List.length_append, List.length_take, List.length_drop]; omega
  refine ⟨by rw [show m - 1 = i + (m - (i + 1)) by omega]; rfl, ?_, one_sets O1.out⟩
  have a2 := A1.out.setCells (o := i + (m - (i + 1))) (ys := [0]) (by rw [HYL.out]; simp; omega)
  rw [show m - (i + (m - (i + 1))) = 1 by omega]
  rw [List.take_left' hl2, drop_app_one hl2, List.drop_drop, show i + (m - (i + 1)) + 1 = m by omega, List.append_assoc] at a2
  exact a2

/-! ### decode -/

/-- The first k cells hold their own number. -/
def ownUpto (n k : Nat) : List Int := iota k ++ List.replicate (n - k) 0
theorem length_ownUpto {n k : Nat} (h : k ≤ n) : (ownUpto n k).length = n := by simp [ownUpto, length_iota]; omega
theorem iota_succ (k : Nat) : iota (k + 1) = iota k ++ [(k : Int)] := by simp [iota, List.range_succ]
theorem ownUpto_step {n k : Nat} (h : k < n) : (ownUpto n k).set k (k : Int) = ownUpto n (k + 1) := by
  unfold ownUpto
  obtain ⟨m, rfl⟩ : ∃ m, n = k + 1 + m := ⟨n - (k + 1), by omega⟩
  rw [show k + 1 + m - k = m + 1 by omega, show k + 1 + m - (k + 1) = m by omega, List.replicate_succ, List.set_append_right _ _ (by rw [length_iota]; exact Nat.le_refl _), length_iota, Nat.sub_self, List.set_cons_zero, iota_succ, List.append_assoc]
  rfl
theorem ownUpto_end (n : Nat) : ownUpto n n = iota n := by simp [ownUpto]

theorem pick_step {left ds : List Int} {k : Nat} (hk : k < ds.length) : pick left (ds.drop k) = left.getD (ds.getD k 0).toNat 0 :: pick (left.eraseIdx (ds.getD k 0).toNat) (ds.drop (k + 1)) := by
  have e : ds.getD k 0 = ds[k] := by rw [List.getD_eq_getElem?_getD, List.getElem?_eq_getElem hk]; rfl
  rw [List.drop_eq_getElem_cons hk, e]
  rfl
theorem erase_take (xs : List Int) {m i : Nat} (hi : i < m) (hm : m ≤ xs.length) : (xs.take i ++ (xs.take m).drop (i + 1) ++ 0 :: xs.drop m).take (m - 1) = (xs.take m).eraseIdx i := by
  rw [List.take_left' (by simp only [List.length_append, List.length_take, List.length_drop]; omega), List.eraseIdx_eq_take_drop_succ, List.take_take, Nat.min_eq_left (by omega)]

theorem dec_step {L P ds Z : List Int} {k t y : Nat} (hL : L.length = k) (hP : P.length = k) (hds : ds.length = k) (hZ : Z.length = k) (ht : t < k) (hy : ds.getD t 0 = (y : Int)) (hyl : y < k - t)
    (h1 : P.take t = Z.take t) (h2 : pick (L.take (k - t)) (ds.drop t) = Z.drop t) :
    (P.set t (L.getD y 0)).take (t + 1) = Z.take (t + 1) ∧ pick ((L.take y ++ (L.take (k - t)).drop (y + 1) ++ 0 :: L.drop (k - t)).take (k - (t + 1))) (ds.drop (t + 1)) = Z.drop (t + 1) := by
  have hzd : Z.drop t = Z[t]'(by omega) :: Z.drop (t + 1) := List.drop_eq_getElem_cons (by omega)
  rw [pick_step (by omega), hy, Int.toNat_natCast, hzd] at h2
  injection h2 with h3 h4
  have e1 : (L.take (k - t)).getD y 0 = L.getD y 0 := by simp [List.getD_eq_getElem?_getD, hyl]
  have e2 : Z.getD t 0 = Z[t] := by rw [List.getD_eq_getElem?_getD, List.getElem?_eq_getElem (by omega)]; rfl
  constructor
  · rw [take_snoc (by rw [List.length_set]; omega), getD_set, if_pos ⟨rfl, by omega⟩, List.take_set_of_le (by omega), h1, take_snoc (by omega), e2, ← h3, e1]
  · rw [show k - (t + 1) = k - t - 1 by omega, erase_take L hyl (by omega), h4]

/-- What holds of the two blocks when t numbers are laid. -/
def DecInv (w : World) (g2 : Nat) (k t : Nat) (ds : List Int) (wq : World) : Prop :=
  Below w.heap.size w wq ∧ ∃ L P : List Int, Arr wq w.heap.size L ∧ L.length = k ∧ Arr wq g2 P ∧ P.length = k ∧ P.take t = (pick (iota k) ds).take t ∧ pick (L.take (k - t)) (ds.drop t) = (pick (iota k) ds).drop t

def RetAt (w : World) (n : Nat) (ys : List Int) (e : Ending) (w' : World) : Prop := ∃ g, e = .returned (.slice (some ⟨g, 0, none⟩) n n) ∧ Ints w' (some ⟨g, 0, none⟩) n ys ∧ Below w.heap.size w w'

def RetAtO (w : World) (n : Nat) (ys : List Int) (e : Ending) (w' : World) : Prop := ∃ g, e = .returned (.slice (some ⟨g, 0, none⟩) n n) ∧ w.heap.size ≤ g ∧ Arr w' g ys ∧ ys.length = n ∧ Below w.heap.size w w'

set_option maxHeartbeats 1600000 in
theorem decode_own (A : Option Addr) (n c : Nat) (ds : List Int) (w : World) (hA : Ints w A n ds) (hd : IsDig ds) (hn : n ≤ 10) :
    Calls Try.prog 52 #[.slice A n c] w (RetAtO w n (pick (iota n) ds)) := by
  have hmk := fun W => run_make_row' (P := Try.prog) 22 3 (.int .i64 0) 8 Try.underlying22 infoInt rfl .i64 .i64 n (by omega) (by omega) W
  have HL := hid hA.len
  go_enter Try.func52, Try.ntmps52
  go_wp2_with fail
  go_loopg [13] n (fun g s wr => ∃ k : Nat, k ≤ n ∧ n - k ≤ g ∧ s = .int .i64 k ∧ Arr wr w.heap.size (ownUpto n k) ∧ Below w.heap.size w wr)
  case atStart => exact ⟨0, Nat.zero_le _, by omega, rfl, by simpa [ownUpto, iota] using Arr.made w n, below_alloc _ _⟩
  case round =>
    obtain ⟨k, hk, hg, rfl, harr, hbel⟩ := hrel
    have HR := hid harr
    have HB := hid hbel
    clear harr hbel
    by_cases hlt : k < n
    · have f1 : wr.frozen? ⟨w.heap.size, k, none⟩ = false := HR.out.frozen k
      have g1 := HR.out.cell (j := k) (by rw [length_ownUpto hk]; exact hlt)
      have HS := hid (ownUpto_step hlt)
      have HW := hid (HR.out.set k (k : Int))
      generalize (ownUpto n k).getD k 0 = v1 at g1
      go_wp2
      go_roundg (n - (k + 1))
      case measure => omega
      case rel => exact ⟨k + 1, by omega, by omega, by go_num, by rw [← HS.out]; exact HW.out, HB.out.setCell (Nat.le_refl _) _⟩
    · have hkn : k = n := by omega
      subst hkn
      obtain ⟨w1, rfl⟩ : ∃ w1, w1 = wr := ⟨wr, rfl⟩
      have HI : Hid (Arr w1 w.heap.size (iota k)) := by have := HR.out; rw [ownUpto_end] at this; exact this
      have HZ := hid HB.out.size
      have hz : w.heap.size < w1.heap.size := HR.out.lt
      clear HR
      go_wp2_with fail
      go_loopg [3, 26] k (fun g v s wq => ∃ t : Nat, t ≤ k ∧ k - t ≤ g ∧ s = .int .i64 t ∧ v = .slice (some ⟨w.heap.size, 0, none⟩) (k - t) k ∧ DecInv w w1.heap.size k t ds wq)
      case atStart => exact ⟨0, Nat.zero_le _, by omega, rfl, rfl, HB.out.alloc HZ.out _, iota k, _, HI.out.alloc _, length_iota k, Arr.made w1 k, List.length_replicate, rfl, by rw [Nat.sub_zero, List.take_of_length_le (by rw [length_iota]; exact Nat.le_refl _)]; rfl⟩
      case round =>
        clear HB
        obtain ⟨t, ht, hgt, rfl, rfl, hinv⟩ := hrel
        obtain ⟨hbel, L, P, aL, hL, aP, hP, e1, e2⟩ := hinv
        have HB := hid hbel
        have AL := hid aL
        have AP := hid aP
        have HLL := hid hL
        have HPL := hid hP
        have E1 := hid e1
        have E2 := hid e2
        clear hbel aL aP hL hP e1 e2 hmk HI
        by_cases htk : t < k
        · obtain ⟨b, o, rfl, hb, hcell⟩ := (hA.keep HB.out).row (by omega)
          have g1 := hcell t htk
          have hdt := hd.getD t (by rw [HL.out]; exact htk)
          obtain ⟨y, hy⟩ := Int.eq_ofNat_of_zero_le hdt.1
          have hyl : y < k - t := by rw [hy, HL.out] at hdt; omega
          have HS := hid (dec_step (Z := pick (iota k) ds) HLL.out HPL.out HL.out (by rw [length_pick, HL.out]) htk hy hyl E1.out E2.out)
          rw [hy] at g1
          have g2 := AL.out.cell (j := y) (by rw [HLL.out]; omega)
          have g3 := AP.out.cell (j := t) (by rw [HPL.out]; exact htk)
          have f3 := AP.out.frozen t
          have HP2 := hid (AP.out.set t (L.getD y 0))
          have HL2 := hid (AL.out.setOther (a := ⟨w1.heap.size, t, none⟩) (by show _ ≠ w1.heap.size; omega) (.int .i64 (L.getD y 0)))
          have HB2 := hid (HB.out.setCell (p := ⟨w1.heap.size, t, none⟩) (show w.heap.size ≤ w1.heap.size by omega) (.int .i64 (L.getD y 0)))
          clear hcell hdt hy hb E1 E2
          generalize L.getD y 0 = x at g2 HP2 HL2 HB2 HS
          generalize P.getD t 0 = z at g3
          go_wp2_with fail
          refine (delete_one w.heap.size (k - t) k y _ L _ HL2.out HLL.out (by omega) hyl (by omega) rfl).mono ?_
          rintro e w3 ⟨rfl, aL3, hone⟩
          have HL3 := hid aL3
          have HP3 := hid (HP2.out.kept hone (show w1.heap.size ≠ w.heap.size by omega))
          have HB3 := hid (below_one HB2.out (Nat.le_refl _) HB2.out.size hone)
          clear aL3 hone HB2 HP2 HL2
          go_wp2
          go_roundg (k - (t + 1))
          case measure => omega
          case rel =>
            refine ⟨t + 1, by omega, by omega, by go_num, by rw [show k - t - 1 = k - (t + 1) by omega], HB3.out, _, _, HL3.out, ?_, HP3.out, ?_, HS.out.1, HS.out.2⟩
            · have := HLL.out
              simp only [List.length_append, List.length_take, List.length_drop, List.length_cons]; omega
            · rw [List.length_set]; exact HPL.out
        · have htn : t = k := by omega
          subst htn
          have HE : Hid (P = pick (iota t) ds) := by
            have := E1.out
            rw [List.take_of_length_le (by rw [HPL.out]; exact Nat.le_refl _), List.take_of_length_le (by rw [length_pick, HL.out]; exact Nat.le_refl _)] at this
            exact this
          go_wp2
          go_ret
          refine ⟨_, rfl, HZ.out, ?_, by rw [← HE.out]; exact HPL.out, HB.out⟩
          rw [← HE.out]
          exact AP.out

theorem decode_any (A : Option Addr) (n c : Nat) (ds : List Int) (w : World) (hA : Ints w A n ds) (hd : IsDig ds) (hn : n ≤ 10) :
    Calls Try.prog 52 #[.slice A n c] w (RetAt w n (pick (iota n) ds)) := by
  refine (decode_own A n c ds w hA hd hn).mono ?_
  rintro e w' ⟨g, rfl, _, ha, hl, hb⟩
  have := ha.ints0 n (by omega)
  rw [List.take_of_length_le (by omega)] at this
  exact ⟨g, rfl, this, hb⟩

/-! ### At -/

def RetAt2 (w : World) (n : Nat) (ys : List Int) (e : Ending) (w' : World) : Prop := ∃ g, e = .returned (.tuple #[.slice (some ⟨g, 0, none⟩) n n, .int .i64 0]) ∧ Ints w' (some ⟨g, 0, none⟩) n ys ∧ Below w.heap.size w w'

def RetAt3 (w : World) (n : Nat) (ys : List Int) (e : Ending) (w' : World) : Prop := ∃ g, e = .returned (.tuple #[.slice (some ⟨g, 0, none⟩) n n, .int .i64 0]) ∧ w.heap.size ≤ g ∧ Arr w' g ys ∧ ys.length = n ∧ Below w.heap.size w w'

set_option maxHeartbeats 800000 in
theorem at_own (n k : Nat) (w : World) (hn : n ≤ 10) (hk : k < fact n) :
    Calls Try.prog 31 #[.int .i64 (n : Int), .int .i64 (k : Int)] w (RetAt3 w n (atL n k)) := by
  have hf := fact_ten hn
  have hk2 : (k : Int) < (fact n : Nat) := by omega
  go_enter Try.func31, Try.ntmps31
  go_wp2_with fail
  refine (count_ok n _ hn).mono ?_
  rintro e w' ⟨rfl, rfl⟩
  generalize fact n = F at hk hf hk2
  go_wp2_with fail
  refine (digits_any n k _ hn (by omega)).mono ?_
  rintro e w1 ⟨rfl, hI, hb1⟩
  have HB1 := hid hb1
  have HI := hid hI
  clear hb1 hI
  go_wp2_with fail
  refine (decode_own _ n n _ _ HI.out (isDig_digL n k) hn).mono ?_
  rintro e w2 ⟨g, rfl, hg2, hI2, hl2, hb2⟩
  have HG2 := hid (Nat.le_trans HB1.out.size hg2)
  have HB2 := hid (below_step HB1.out (Nat.le_refl _) hb2)
  have HI2 := hid hI2
  have HL2 := hid hl2
  clear hb2 hI2 HB1 HI hg2 hl2
  go_wp2
  go_ret2
  exact ⟨g, rfl, HG2.out, HI2.out, HL2.out, HB2.out⟩

theorem at_ok (n k : Nat) (w : World) (hn : n ≤ 10) (hk : k < fact n) :
    Calls Try.prog 31 #[.int .i64 (n : Int), .int .i64 (k : Int)] w (RetAt2 w n (atL n k)) := by
  refine (at_own n k w hn hk).mono ?_
  rintro e w' ⟨g, rfl, _, ha, hl, hb⟩
  have := ha.ints0 n (by omega)
  rw [List.take_of_length_le (by omega)] at this
  exact ⟨g, rfl, this, hb⟩

/-- The first order, in memory of the call's own. -/
theorem at_first (n : Nat) (w : World) (hn : n ≤ 10) :
    Calls Try.prog 31 #[.int .i64 (n : Int), .int .i64 0] w (RetOwnE w (iota n) 0) := by
  refine (at_own n 0 w hn (fact_pos n)).mono ?_
  rintro e w' ⟨g, rfl, hg, ha, hl, hb⟩
  have e0 : atL n 0 = iota n := by
    have h1 := atL_rk (p := iota n) (by unfold IsPerm; rw [length_iota])
    rwa [length_iota, rk_rises (sorted_iotaP n)] at h1
  have := own_of_rowIs (base := w.heap.size) ha rfl (fun _ _ => rfl) hg (by rw [hl]; unfold maxLen; omega)
  rw [hl, e0] at this
  exact ⟨_, rfl, this, hb⟩

set_option maxHeartbeats 800000 in
theorem at_bad1 (n k : Int) (w : World) (hn : n < 0 ∨ 10 < n) :
    Calls Try.prog 31 #[.int .i64 n, .int .i64 k] w fun e w' => e = .returned (.tuple #[.slice none 0 0, .int .i64 1]) ∧ w = w' := by
  go_enter Try.func31, Try.ntmps31
  go_wp2_with fail
  refine (count_bad n _ hn).mono ?_
  rintro e w' ⟨rfl, rfl⟩
  go_wp2
  go_ret2
  exact ⟨rfl, rfl⟩

set_option maxHeartbeats 800000 in
theorem at_bad2 (n : Nat) (k : Int) (w : World) (hn : n ≤ 10) (hk : k < 0 ∨ ((fact n : Nat) : Int) ≤ k) :
    Calls Try.prog 31 #[.int .i64 (n : Int), .int .i64 k] w fun e w' => e = .returned (.tuple #[.slice none 0 0, .int .i64 1]) ∧ w = w' := by
  go_enter Try.func31, Try.ntmps31
  go_wp2_with fail
  refine (count_ok n _ hn).mono ?_
  rintro e w' ⟨rfl, rfl⟩
  generalize fact n = F at hk
  rcases hk with h | h
  all_goals
    go_wp2
    go_ret2
    exact ⟨rfl, rfl⟩

end Go.Proofs.Ytmdpfadfimodjaa

/-
  rises.isDescent, Falls, Sum, Crossed.
-/
namespace Go.Proofs.Ytmdpfadfimodjaa
open Go.RowKit

/-- It goes down at i. -/
def dsc (p : List Int) (i : Nat) : Bool := decide (0 < i) && decide (p.getD i 0 < p.getD (i - 1) 0)
/-- How often, and the sum of the places, among the first k. -/
def fallK (p : List Int) : Nat → Nat
  | 0 => 0
  | k + 1 => fallK p k + if dsc p k then 1 else 0
def majK (p : List Int) : Nat → Nat
  | 0 => 0
  | k + 1 => majK p k + if dsc p k then k else 0
def fallN (p : List Int) : Nat := fallK p p.length
def majN (p : List Int) : Nat := majK p p.length
theorem fallK_yes {p : List Int} {k : Nat} (h : dsc p k = true) : fallK p (k + 1) = fallK p k + 1 := by rw [fallK, h]; rfl
theorem fallK_no {p : List Int} {k : Nat} (h : dsc p k = false) : fallK p (k + 1) = fallK p k := by rw [fallK, h]; rfl
theorem majK_yes {p : List Int} {k : Nat} (h : dsc p k = true) : majK p (k + 1) = majK p k + k := by rw [majK, h]; rfl
theorem majK_no {p : List Int} {k : Nat} (h : dsc p k = false) : majK p (k + 1) = majK p k := by rw [majK, h]; rfl
theorem fallK_le (p : List Int) : ∀ k, fallK p k ≤ k
  | 0 => Nat.le_refl _
  | k + 1 => by
    have := fallK_le p k
    rw [fallK]
    split <;> omega
theorem majK_le (p : List Int) : ∀ k, majK p k ≤ k * k
  | 0 => Nat.le_refl _
  | k + 1 => by
    have := majK_le p k
    rw [majK, Nat.add_mul, Nat.mul_add]
    split <;> omega
theorem majK_100 (p : List Int) {k : Nat} (h : k ≤ 10) : majK p k ≤ 100 := Nat.le_trans (majK_le p k) (Nat.mul_le_mul h h)

set_option maxHeartbeats 400000 in
theorem rcrossed_err (A : Option Addr) (n c : Nat) (p : List Int) (w : World) (hA : Ints w A n p) (hp : permErr p ≠ 0) (hn : n ≤ 9223372036854775807) :
    Calls Try.prog 35 #[.slice A n c] w fun e w' => e = .returned (.tuple #[.int .i64 0, .int .i64 (permErr p)]) ∧ Below w.heap.size w w' := by
  have hne : (permErr p != 0) = true := by simpa using hp
  go_enter Try.func35, Try.ntmps35
  go_wp2_with fail
  refine (check_any A n c p _ hA hn).mono ?_
  rintro e w1 ⟨rfl, hb1⟩
  have HB1 := hid hb1
  clear hb1 hp
  go_wp2
  go_ret2
  exact ⟨rfl, HB1.out⟩

theorem crs_yes {p : List Int} {k m : Nat} (h : k + 1 + m < p.length) (hlt : p.getD (k + 1 + m) 0 < p.getD k 0) : cntUpto p k (m + 1) = cntUpto p k m + 1 := by
  unfold cntUpto
  rw [take_drop_snoc h, List.countP_append, ← Nat.add_assoc]
  simp only [List.countP_cons, List.countP_nil, hlt, decide_true, if_true, Nat.zero_add]
theorem invUpto_le (p : List Int) : ∀ k, invUpto p k ≤ k * p.length
  | 0 => Nat.zero_le _
  | k + 1 => by
    have h1 := invUpto_le p k
    have h2 : (p.drop (k + 1)).countP (fun y => decide (y < p.getD k 0)) ≤ p.length := Nat.le_trans List.countP_le_length (by rw [List.length_drop]; omega)
    rw [Nat.add_mul]
    show invUpto p k + (p.drop (k + 1)).countP (fun y => decide (y < p.getD k 0)) ≤ _
    omega
theorem invUpto_100 {p : List Int} {k : Nat} (hl : p.length ≤ 10) (hk : k ≤ 10) : invUpto p k ≤ 100 := Nat.le_trans (invUpto_le p k) (Nat.mul_le_mul hk hl)
theorem inv_100 {p : List Int} (hl : p.length ≤ 10) : inv p ≤ 100 := by rw [inv_all]; exact invUpto_100 hl hl
theorem cntUpto_200 {p : List Int} {k m : Nat} (hl : p.length ≤ 10) (hk : k ≤ 10) : cntUpto p k m ≤ 110 := by
  have h1 := invUpto_100 hl hk
  have h2 : ((p.drop (k + 1)).take m).countP (fun y => decide (y < p.getD k 0)) ≤ p.length := Nat.le_trans List.countP_le_length (by rw [List.length_take, List.length_drop]; omega)
  unfold cntUpto
  omega

set_option maxHeartbeats 1600000 in
theorem rcrossed_ok (A : Option Addr) (n c : Nat) (p : List Int) (w : World) (hA : Ints w A n p) (hp : permErr p = 0) (hc : n ≤ c) (hc2 : c ≤ 9223372036854775807) :
    Calls Try.prog 35 #[.slice A n c] w fun e w' => e = .returned (.tuple #[.int .i64 ((inv p : Nat) : Int), .int .i64 0]) ∧ Below w.heap.size w w' := by
  have hn10 : n ≤ 10 := by rw [← hA.len]; exact (permErr_ok.1 hp).1
  have HLP : Hid (p.length ≤ 10) := (permErr_ok.1 hp).1
  go_enter Try.func35, Try.ntmps35
  go_wp2_with fail
  refine (check_any A n c p _ hA (by omega)).mono ?_
  rintro e w1 ⟨rfl, hb1⟩
  have hA1 := hA.keep hb1
  have HB1 := hid hb1
  have HL := hid hA.len
  clear hA hb1
  rw [hp]
  go_wp2_with fail
  go_loopg [5, 6, 7, 9, 17] n (fun g u _ _ _ s wr => ∃ k : Nat, k ≤ n ∧ n - k ≤ g ∧ s = .int .i64 k ∧ u = .int .i64 ((invUpto p k : Nat) : Int) ∧ w1 = wr)
  case atStart => exact ⟨0, Nat.zero_le _, by omega, rfl, rfl, rfl⟩
  case round =>
    obtain ⟨k, hk, hg, rfl, rfl, rfl⟩ := hrel
    by_cases hlt : k < n
    · obtain ⟨b, o, rfl, hb, hcell⟩ := hA1.row (by omega)
      have g1 := hcell k hlt
      have HC := hid hcell
      have HS0 : Hid (cntUpto p k 0 = invUpto p k) := by unfold cntUpto; simp [Hid]
      generalize hx : p.getD k 0 = x at g1
      have HX := hid hx
      clear hcell hx
      by_cases hck : c = k + 1
      · subst hck
        go_wp2
        go_loopg [5, 9, 27] 0 (fun g u _ s wr => s = .int .i64 0 ∧ u = .int .i64 ((invUpto p k : Nat) : Int) ∧ w1 = wr)
        case atStart => exact ⟨rfl, rfl, rfl⟩
        case round =>
          obtain ⟨rfl, rfl, rfl⟩ := hrel
          have HE : Hid (invUpto p k = invUpto p (k + 1)) := by
            have := cntUpto_end (p := p) (k := k) (m := 0) (by rw [HL.out]; omega)
            rw [HS0.out] at this
            exact this
          go_wp2
          go_roundg (n - (k + 1))
          case measure => omega
          case rel => exact ⟨k + 1, by omega, by omega, by go_num, by rw [HE.out], rfl⟩
      · go_wp2
        go_loopg [5, 9, 27] (n - (k + 1)) (fun g u _ s wr => ∃ m : Nat, m ≤ n - (k + 1) ∧ n - (k + 1) - m ≤ g ∧ s = .int .i64 m ∧ u = .int .i64 ((cntUpto p k m : Nat) : Int) ∧ w1 = wr)
        case atStart => exact ⟨0, Nat.zero_le _, by omega, rfl, by rw [HS0.out], rfl⟩
        case round =>
          obtain ⟨m, hm, hgm, rfl, rfl, rfl⟩ := hrel
          by_cases hmlt : m < n - (k + 1)
          · have g2 := HC.out (k + 1 + m) (by omega)
            have hbd := cntUpto_200 (m := m) HLP.out (show k ≤ 10 by omega)
            have HYES := hid (crs_yes (p := p) (k := k) (m := m) (by rw [HL.out]; omega))
            have HNO := hid (cntUpto_no (p := p) (k := k) (m := m) (by rw [HL.out]; omega))
            rw [HX.out] at HYES HNO
            rw [show o + (k + 1 + m) = o + (k + 1) + m by omega] at g2
            generalize p.getD (k + 1 + m) 0 = y at g2 HYES HNO
            generalize cntUpto p k m = s at HYES HNO hbd ⊢
            by_cases hyx : y < x
            · go_wp2
              go_roundg (n - (k + 1) - (m + 1))
              case measure => omega
              case rel => exact ⟨m + 1, by omega, by omega, by go_num, by rw [HYES.out hyx]; go_num, rfl⟩
            · go_wp2
              go_roundg (n - (k + 1) - (m + 1))
              case measure => omega
              case rel => exact ⟨m + 1, by omega, by omega, by go_num, by rw [HNO.out hyx], rfl⟩
          · have hme : m = n - (k + 1) := by omega
            have HE := hid (cntUpto_end (p := p) (k := k) (m := m) (by rw [HL.out]; omega))
            rw [HE.out]
            have HM := hid hme
            clear hme
            go_wp2
            go_roundg (n - (k + 1))
            case measure => omega
            case rel => exact ⟨k + 1, by omega, by omega, by go_num, rfl, rfl⟩
    · have hkn : k = n := by omega
      subst hkn
      have HE : Hid (invUpto p k = inv p) := by rw [inv_all, HL.out]; exact rfl
      rw [HE.out]
      go_wp2
      go_ret2
      exact ⟨rfl, HB1.out⟩

end Go.Proofs.Ytmdpfadfimodjaa

/-
  castkeep.RankCode, walked.
-/
namespace Go.Proofs.Ytmdpfadfimodjaa
open Go.RowKit


/-- A code of n numbers comes back with OK. -/
theorem code_perm (A : Option Addr) (n c : Nat) (p : List Int) (w : World) (hA : Ints w A n p) (hp : IsPerm p) (hn : n ≤ 10) (hc : n ≤ c) :
    Calls Try.prog 34 #[.slice A n c] w (RetP w n (codeL p)) := by
  refine (code_ok A n c p w hA (permErr_of hp (by rw [hA.len]; exact hn)) hc).mono ?_
  rintro e w' ⟨A', n', c', rfl, hbel, hI, hcap⟩
  have : n' = n := by rw [← hI.len, length_codeL, hA.len]
  subst this
  exact ⟨A', c', rfl, hI, hcap, hbel⟩
theorem codeL_inj {p q : List Int} (hp : IsPerm p) (hq : IsPerm q) (hl : p.length = q.length) : decide (p = q) = decide (codeL p = codeL q) := by
  by_cases h : p = q
  · rw [decide_eq_true h, decide_eq_true (by rw [h])]
  · rw [decide_eq_false h, decide_eq_false]
    intro e
    exact h (rk_inj (hp.perm hq hl) (by rw [← val_codeL, ← val_codeL, e]))
theorem invUpto_mono (p : List Int) {i j : Nat} (h : i ≤ j) : invUpto p i ≤ invUpto p j := by
  induction h with
  | refl => exact Nat.le_refl _
  | step _ ih => exact Nat.le_trans ih (Nat.le_add_right _ _)
theorem invUpto_code {p : List Int} {i : Nat} (h : i < p.length) : ((invUpto p (i + 1) : Nat) : Int) = ((invUpto p i : Nat) : Int) + (codeL p).getD i 0 := by
  rw [getD_codeL p i h]
  rfl

end Go.Proofs.Ytmdpfadfimodjaa

/-
  tableau.insert: a number put into the rows (P38).
-/
namespace Go.Proofs.Ytmdpfadfimodjaa
open Go.RowKit

theorem set_mid (D : List (List Int)) (r r' : List Int) (R : List (List Int)) {i : Nat} (hi : D.length = i) : (D ++ r :: R).set i r' = D ++ r' :: R := by
  subst hi
  rw [List.set_append_right _ _ (Nat.le_refl _), Nat.sub_self, List.set_cons_zero]
theorem getD_mid (D : List (List Int)) (r : List Int) (R : List (List Int)) {i : Nat} (hi : D.length = i) : (D ++ r :: R).getD i [] = r := by
  subst hi
  rw [List.getD_eq_getElem?_getD, List.getElem?_append_right (Nat.le_refl _), Nat.sub_self]
  rfl
theorem drop_rowT {T : List (List Int)} {i : Nat} (hi : i < T.length) : T.drop i = T.getD i [] :: T.drop (i + 1) := by
  rw [List.drop_eq_getElem_cons hi, List.getD_eq_getElem?_getD, List.getElem?_eq_getElem hi]
  rfl
theorem row_split {row : List Int} {k : Nat} (hk : k < row.length) : row = row.take k ++ row.getD k 0 :: row.drop (k + 1) := by
  conv => lhs; rw [← List.take_append_drop k row]
  rw [List.drop_eq_getElem_cons hk, List.getD_eq_getElem?_getD, List.getElem?_eq_getElem hk]
  rfl
theorem set_split {row : List Int} {k : Nat} (hk : k < row.length) (x : Int) : row.set k x = row.take k ++ x :: row.drop (k + 1) := by
  rw [List.set_eq_take_append_cons_drop, if_pos hk]
theorem take_lt_snoc {row : List Int} {k : Nat} {x : Int} (hk : k < row.length) (h : ∀ z ∈ row.take k, z < x) (hx : row.getD k 0 < x) : ∀ z ∈ row.take (k + 1), z < x := by
  intro z hz
  rw [take_snoc hk] at hz
  rcases List.mem_append.1 hz with h1 | h1
  · exact h z h1
  · rw [List.mem_singleton] at h1
    rw [h1]
    exact hx

def RetIns (base : Nat) (fp : Nat → Prop) (w : World) (T : List (List Int)) (x : Int) (e : Ending) (w' : World) : Prop :=
  ∃ v', e = .returned (.tuple #[v', .int .i64 ((tin T x).2 : Int)]) ∧ Grid w' base (fpN fp w.heap.size w'.heap.size) v' (tin T x).1 ∧ Only fp w w'

set_option maxRecDepth 100000 in
set_option maxHeartbeats 3200000 in
theorem insert_any (base : Nat) (fp : Nat → Prop) (v : Value) (T : List (List Int)) (x : Int) (w : World) (h : Grid w base fp v T) (hT : T.length ≤ 1000) (hR : ∀ j, (T.getD j []).length ≤ 1000) (hbase : base ≤ w.heap.size) :
    Calls Try.prog 54 #[v, .int .i64 x] w (RetIns base fp w T x) := by
  obtain ⟨A, c, hv, hcap⟩ := h.form
  subst hv
  have HG := hid h
  have HR := hid hR
  obtain ⟨n, hn⟩ : ∃ n, n = T.length := ⟨_, rfl⟩
  rw [← hn] at HG hT hcap ⊢
  have HN := hid hn
  clear h hR hn
  go_enter Try.func54, Try.ntmps54
  go_wp2
  go_loopg [1, 11] n (fun g s t wr => ∃ (i : Nat) (y : Int) (D : List (List Int)), i ≤ n ∧ n - i ≤ g ∧ s = .int .i64 y ∧ t = .int .i64 (i : Int) ∧ D.length = i ∧ Grid wr base fp (.slice A n c) (D ++ T.drop i) ∧ Only fp w wr ∧ tin T x = (D ++ (tin (T.drop i) y).1, i + (tin (T.drop i) y).2))
  case atStart => exact ⟨0, x, [], Nat.zero_le _, by omega, rfl, rfl, rfl, HG.out, Only.refl _ _, by simp⟩
  case round =>
    obtain ⟨i, y, D, hi, hg, rfl, rfl, hD, hgr, hon, htin⟩ := hrel
    have HD := hid hD
    have HGR := hid hgr
    have HON := hid hon
    have HT := hid htin
    clear hD hgr hon htin HG
    by_cases hlt : i < n
    · have HDR := hid (drop_rowT (T := T) (i := i) (by rw [← HN.out]; exact hlt))
      have hrl := HR.out i
      have hlen2 : i < (D ++ T.drop i).length := by rw [List.length_append, HD.out, HDR.out]; simp
      have HGD : Hid ((D ++ T.drop i).getD i [] = T.getD i []) := by rw [HDR.out]; exact getD_mid D _ _ HD.out
      obtain ⟨gb, cap, u, e1, hcell, hfrz, hu⟩ := HGR.out.at hlen2
      injection e1 with e1 e2 e3
      subst e1
      subst e3
      rw [HGD.out] at hu
      have HS := hid (fun h m c1 hu2 hm2 => HGR.out.store (h := h) (m := m) (c := c1) hlen2 hu2 hm2)
      have HRP := hid (fun w' u1 (ys : List Int) (hb1 : wr.grownBy w' u.ownBlock) (ho1 : OwnInts w' base u1 ys) hb2 => HGR.out.replace hlen2 hcell hb1 ho1 hb2 (Nat.le_trans hbase HON.out.size))
      have HSM : Hid (∀ r', (D ++ T.drop i).set i r' = (D ++ [r']) ++ T.drop (i + 1)) := fun r' => by
        rw [HDR.out, set_mid D _ r' _ HD.out]
        simp
      rw [HDR.out] at HT
      clear e2
      generalize hrow : T.getD i [] = row at *
      obtain ⟨Au, cu, rfl, hIu, hcu⟩ := hu.ints
      obtain ⟨m, hm⟩ : ∃ m, m = row.length := ⟨_, rfl⟩
      rw [← hm] at hIu hcu hcell hrl
      rw [← hm] at hu
      rw [← hm] at HRP
      have HM := hid hm
      have HU := hid hu
      have HIU := hid hIu
      clear hm hu hIu hrow hlen2
      go_wp2
      go_loopg [8] m (fun g s wq => ∃ k : Nat, k ≤ m ∧ m - k ≤ g ∧ s = .int .i64 (k : Int) ∧ wr = wq ∧ ∀ z ∈ row.take k, z < y)
      case atStart => exact ⟨0, Nat.zero_le _, by omega, rfl, rfl, by simp⟩
      case round =>
        obtain ⟨k, hk, hg2, rfl, rfl, hall⟩ := hrel
        have HA := hid hall
        clear hall
        by_cases hkm : k < m
        · obtain ⟨b, o, rfl, hb, hc⟩ := HIU.out.row (by omega)
          have g1 := hc k hkm
          have HKL : Hid (k < row.length) := by rw [← HM.out]; exact hkm
          clear hc
          by_cases hz : row.getD k 0 < y
          · have HTL := hid (take_lt_snoc HKL.out HA.out hz)
            generalize row.getD k 0 = z at *
            go_wp2
            go_roundg (m - (k + 1))
            case measure => omega
            case rel => exact ⟨k + 1, by omega, by omega, by go_num, rfl, HTL.out⟩
          · have hfo := HU.out.form (by rw [← HM.out]; omega)
            obtain ⟨gg, capg, e5, hg5, _, _⟩ := hfo
            injection e5 with e5 e6 e7
            injection e5 with e5
            injection e5 with e8 e9
            subst e8
            subst e9
            have hfz : wr.frozen? ⟨b, k, none⟩ = false := by
              have := HU.out
              rw [HM.out] at this
              exact this.frozen k
            rw [Nat.zero_add] at g1
            have HST := hid (HS.out b m cu hcell (by rw [HGD.out]; exact HM.out) k y)
            have HZ := hid hz
            have HSP := hid (row_split HKL.out)
            have HSS := hid (set_split HKL.out y)
            rw [HGD.out, HSM.out, HSS.out] at HST
            have HTA := hid (tin_at (x := y) (row.drop (k + 1)) (T.drop (i + 1)) HA.out hz)
            rw [← HSP.out] at HTA
            rw [HTA.out] at HT
            have hne : ((k : Int) == (m : Int)) = false := by simp; omega
            clear hcell hfrz e6 e7 hz
            generalize row.getD k 0 = z at *
            go_wp2
            go_roundg (n - (i + 1))
            case measure => omega
            case rel =>
              refine ⟨i + 1, z, D ++ [row.take k ++ y :: row.drop (k + 1)], by omega, by omega, rfl, by go_num, by rw [List.length_append, HD.out]; rfl, HST.out.1, HON.out.trans HST.out.2, ?_⟩
              rw [HT.out]
              simp only [List.append_assoc, List.singleton_append, Prod.mk.injEq, true_and]
              omega
        · have hkm2 : k = m := by omega
          subst hkm2
          have HAL : Hid (∀ z ∈ row, z < y) := by
            have := HA.out
            rwa [List.take_of_length_le (by rw [← HM.out]; exact Nat.le_refl _)] at this
          rw [tin_all _ HAL.out] at HT
          go_wp2_with (at_builtin; refine wpList_app1At _ rfl (.tmp 36) (.tmp 38) rfl base _ row y rfl rfl HU.out (by rw [← HM.out]; omega) (Nat.le_trans hbase HON.out.size) ?_)
          intro v1 w1 ho1 hb1 hb2
          obtain ⟨hgr2, hon2⟩ := HRP.out w1 v1 (row ++ [y]) hb1 ho1 hb2
          have hfrz1 : w1.frozen? ⟨gb, i, none⟩ = false := by
            have h1 := World.frozen?_of_block (a := ⟨gb, i, none⟩) (hb1.block gb (by
              have := HGR.out.bound
              obtain ⟨vals, hG⟩ := HGR.out
              exact (hG.bound gb (hG.inV gb rfl)).2) (fun e => by
              obtain ⟨vals, hG⟩ := HGR.out
              exact own_apart HU.out hG.own gb e.symm rfl))
            rw [h1]
            exact hfrz
          have HG2 := hid hgr2
          have HO2 := hid hon2
          obtain ⟨A1, c1, rfl, _, _⟩ := ho1.ints
          have hcell1 : ∃ u0, w1.cell? ⟨gb, i, none⟩ = some u0 := ⟨_, (World.cell?_of_block (a := ⟨gb, i, none⟩) (hb1.block gb (by
              obtain ⟨vals, hG⟩ := HGR.out
              exact (hG.bound gb (hG.inV gb rfl)).2) (fun e => by
              obtain ⟨vals, hG⟩ := HGR.out
              exact own_apart HU.out hG.own gb e.symm rfl))).trans hcell⟩
          obtain ⟨u0, hcell1⟩ := hcell1
          obtain ⟨q1, hq1⟩ : ∃ q1, q1 = (row ++ [y]).length := ⟨_, rfl⟩
          rw [← hq1] at HG2 HO2
          rw [← hq1]
          clear hq1
          clear ho1 hb1 hb2 hgr2 hon2 hcell hfrz
          go_wp2
          go_ret2
          refine ⟨.slice (some ⟨gb, 0, none⟩) n c, ?_, ?_, HON.out.trans HO2.out⟩
          · rw [HT.out]
            rfl
          · rw [HT.out]
            have h5 := HG2.out
            rw [HSM.out] at h5
            simp only [List.append_assoc, List.singleton_append] at h5
            refine h5.up ?_ ?_
            · intro k' hk'
              rcases hk' with hk' | hk'
              · exact .inl hk'
              · refine .inr ⟨Nat.le_trans HON.out.size hk'.1, ?_⟩
                have e : (w1.setCell ⟨gb, i, none⟩ (.slice A1 q1 c1)).heap.size = w1.heap.size := by simp [World.setCell]
                rw [e]
                exact hk'.2
            · intro k' hk'
              rcases hk' with hk' | hk'
              · exact h5.bound k' (.inl hk')
              · exact ⟨by omega, hk'.2⟩
    · have hin : i = n := by omega
      subst hin
      have HDE : Hid (T.drop i = []) := List.drop_of_length_le (by rw [← HN.out]; exact Nat.le_refl _)
      rw [HDE.out, List.append_nil] at HGR
      rw [HDE.out] at HT
      have hb0 : base ≤ wr.heap.size := Nat.le_trans hbase HON.out.size
      have HOY : Hid (OwnInts (wr.alloc (.cells #[.int .i64 y] 3)) base (.slice (some ⟨wr.heap.size, 0, none⟩) 1 1) [y]) := World.ownsRow_lit wr #[.int .i64 y] 1 hb0 (by unfold maxLen; omega) rfl
      have HGA := hid (HGR.out.keep (below_alloc wr (.cells #[.int .i64 y] 3)))
      have HBD := hid HGR.out.bound
      have hszv : (wr.alloc (.cells #[.int .i64 y] 3)).heap.size = wr.heap.size + 1 := by simp
      have HSZ := hid hszv
      clear hszv
      go_wp2_with (at_builtin; refine wpList_gridApp _ rfl (.tmp 52) (.tmp 55) rfl base fp _ D _ [y] rfl (by rw [HSZ.out]; rfl) HGA.out HOY.out (fun k hk e => by simp only [Value.ownBlock, Option.some.injEq] at hk; have := (HBD.out k e).2; omega) (by rw [HD.out]; omega) (by simp; omega) ?_)
      intro v1 w1 hg1 ho1
      have HG1 := hid hg1
      have HO1 := hid ho1
      obtain ⟨A1, c1, rfl, _⟩ := hg1.form
      obtain ⟨q1, hq1⟩ : ∃ q1, q1 = (D ++ [[y]]).length := ⟨_, rfl⟩
      rw [← hq1] at HG1
      rw [← hq1]
      clear hg1 ho1 hq1
      go_wp2
      go_ret2
      have hsz : (wr.alloc (.cells #[.int .i64 y] 3)).heap.size = wr.heap.size + 1 := by simp
      have hO2 : Only fp wr w1 := (Only.of_below (below_alloc wr _)).trans HO1.out
      refine ⟨.slice A1 q1 c1, ?_, ?_, HON.out.trans hO2⟩
      · rw [HT.out, tin_nil]
        rfl
      · rw [HT.out, tin_nil]
        refine HG1.out.up ?_ ?_
        · intro k' hk'
          have h8 := HG1.out.bound k' hk'
          rcases hk' with (hk' | hk') | hk'
          · exact .inl hk'
          · exact .inr ⟨by have := HON.out.size; omega, h8.2⟩
          · simp only [Value.ownBlock, Option.some.injEq] at hk'
            exact .inr ⟨by have := HON.out.size; omega, h8.2⟩
        · intro k' hk'
          rcases hk' with hk' | hk'
          · exact HG1.out.bound k' (.inl (.inl hk'))
          · exact ⟨by omega, hk'.2⟩

end Go.Proofs.Ytmdpfadfimodjaa

/-
  tableau.remove, tableau.rowOfEach.
-/
namespace Go.Proofs.Ytmdpfadfimodjaa
open Go.RowKit

theorem trem_drop {T : List (List Int)} {g j : Nat} (hj : j < g) (hg : g < T.length) :
    trem (T.drop j) (g - j) = ((rout (trem (T.drop (j + 1)) (g - (j + 1))).2 (T.getD j [])).1 :: (trem (T.drop (j + 1)) (g - (j + 1))).1, (rout (trem (T.drop (j + 1)) (g - (j + 1))).2 (T.getD j [])).2) := by
  rw [drop_rowT (T := T) (i := j) (by omega), show g - j = (g - (j + 1)) + 1 by omega, trem]
theorem trem_base {T : List (List Int)} {g : Nat} (hg : g < T.length) : trem (T.drop g) (g - g) = ((T.getD g []).dropLast :: T.drop (g + 1), (T.getD g []).getLastD 0) := by
  rw [drop_rowT hg, Nat.sub_self, trem]
theorem set_take {T : List (List Int)} {g : Nat} (hg : g < T.length) (r : List Int) : T.set g r = T.take g ++ r :: T.drop (g + 1) := by
  rw [List.set_eq_take_append_cons_drop, if_pos hg]
theorem take_split {T : List (List Int)} {j : Nat} (hj : j < T.length) (S : List (List Int)) (r : List Int) : (T.take (j + 1) ++ S).set j r = T.take j ++ r :: S := by
  have e : T.take (j + 1) = T.take j ++ [T.getD j []] := by
    rw [List.take_succ_eq_append_getElem hj, List.getD_eq_getElem?_getD, List.getElem?_eq_getElem hj]
    rfl
  rw [e, List.append_assoc, List.singleton_append]
  exact set_mid _ _ _ _ (by rw [List.length_take]; omega)
theorem take_getD {T : List (List Int)} {j : Nat} (hj : j < T.length) (S : List (List Int)) : (T.take (j + 1) ++ S).getD j [] = T.getD j [] := by
  rw [List.getD_eq_getElem?_getD, List.getElem?_append_left (by rw [List.length_take]; omega), List.getElem?_take_of_lt (by omega), ← List.getD_eq_getElem?_getD]
theorem rpos_step {row : List Int} {y : Int} {k : Nat} (h : y < row.getD (k + 1) 0) : rpos row y (k + 1) = rpos row y k := by rw [rpos, if_pos h]
theorem rpos_stop {row : List Int} {y : Int} {k : Nat} (h : ¬ y < row.getD k 0) : rpos row y k = k := by
  cases k with
  | zero => rfl
  | succ k => rw [rpos, if_neg h]
theorem last_getD {r : List Int} {m : Nat} (h : r.length = m + 1) : r.getD m 0 = r.getLastD 0 := by
  rcases List.eq_nil_or_concat r with rfl | ⟨l, x, rfl⟩
  · simp at h
  · rw [List.concat_eq_append] at *
    have hm : m = l.length := by simp at h; omega
    subst hm
    rw [getD_mid0]
    simp

def RetRem (base : Nat) (fp : Nat → Prop) (w : World) (v : Value) (T : List (List Int)) (g : Nat) (e : Ending) (w' : World) : Prop :=
  e = .returned (.int .i64 (trem T g).2) ∧ Grid w' base fp v (trem T g).1 ∧ Only fp w w'

set_option maxRecDepth 100000 in
set_option maxHeartbeats 3200000 in
theorem remove_any (base : Nat) (fp : Nat → Prop) (v : Value) (T : List (List Int)) (g : Nat) (w : World) (h : Grid w base fp v T) (hT : T.length ≤ 1000) (hR : ∀ j, (T.getD j []).length ≤ 1000) (hg : g < T.length) (hne : ∀ j, j ≤ g → (T.getD j []).length ≠ 0) (hbase : base ≤ w.heap.size) :
    Calls Try.prog 59 #[v, .int .i64 (g : Int)] w (RetRem base fp w v T g) := by
  obtain ⟨gb, cap, u, hv, hcell, hfrz, hu⟩ := h.at hg
  subst hv
  have hng := hne g (Nat.le_refl _)
  obtain ⟨hb, cu, hue, _, _, hcu⟩ := hu.form (by omega)
  subst hue
  obtain ⟨n, hn⟩ : ∃ n, n = T.length := ⟨_, rfl⟩
  obtain ⟨m, hm⟩ : ∃ m, (T.getD g []).length = m + 1 := ⟨(T.getD g []).length - 1, by omega⟩
  have hmr := hR g
  rw [hm] at hmr hcu hcell hu
  have g2 : w.cell? ⟨hb, m, none⟩ = some (.int .i64 ((T.getD g []).getLastD 0)) := by
    rw [← last_getD hm]
    have hu' := hu
    rw [← hm] at hu'
    exact hu'.cell (by omega)
  have HB := hid (trem_base hg)
  have hrep := h.replace (w' := w) (u' := .slice (some ⟨hb, 0, none⟩) m cu) (ys := (T.getD g []).dropLast) hg hcell (one_refl2 w _) (by
    have := hu.cut m (by omega)
    rwa [show (T.getD g []).take m = (T.getD g []).dropLast by rw [List.dropLast_eq_take, hm, Nat.add_sub_cancel]] at this) (.inl rfl) hbase
  obtain ⟨hG1, hO1⟩ := hrep
  have hG1' : Grid (w.setCell ⟨gb, g, none⟩ (.slice (some ⟨hb, 0, none⟩) m cu)) base fp (.slice (some ⟨gb, 0, none⟩) n cap) (T.take g ++ (trem (T.drop g) (g - g)).1) := by
    rw [HB.out, ← set_take hg, hn]
    refine hG1.up (fun k hk => ?_) (fun k hk => ?_)
    · rcases hk with hk | hk
      · exact hk
      · omega
    · exact hG1.bound k (.inl hk)
  have HG1 := hid hG1'
  have HO1 := hid hO1
  have HN := hid hn
  have HR := hid hR
  have HNE := hid hne
  have hgn : g < n := by omega
  have hm1 : m < m + 1 := by omega
  have hmc : m ≤ cu := by omega
  have HL2 : Hid ((trem (T.drop g) (g - g)).2 = (T.getD g []).getLastD 0) := by rw [HB.out]; exact rfl
  rw [← hn] at hT ⊢
  have HGT : Hid (g < T.length) := hg
  clear h hu hR hne hn hm hG1 hG1' hO1 HB hng
  generalize (T.getD g []).getLastD 0 = z at *
  go_enter Try.func59, Try.ntmps59
  go_wp2
  obtain ⟨w8, hw8⟩ : ∃ w8, w8 = w.setCell ⟨gb, g, none⟩ (.slice (some ⟨hb, 0, none⟩) m cu) := ⟨_, rfl⟩
  rw [← hw8] at HG1 HO1
  rw [← hw8]
  clear hw8 hcell hfrz g2
  go_loopg [6, 7] g (fun gh s t wr => ∃ k : Nat, k ≤ g ∧ k ≤ gh ∧ t = .int .i64 ((k : Int) - 1) ∧ s = .int .i64 (trem (T.drop k) (g - k)).2 ∧ Grid wr base fp (.slice (some ⟨gb, 0, none⟩) n cap) (T.take k ++ (trem (T.drop k) (g - k)).1) ∧ Only fp w wr)
  case atStart => exact ⟨g, Nat.le_refl _, Nat.le_refl _, by go_num, by rw [HL2.out], HG1.out, HO1.out⟩
  case round =>
    obtain ⟨k, hk, hgh, rfl, rfl, hgr, hon⟩ := hrel
    have HGR := hid hgr
    have HON := hid hon
    clear hgr hon HG1 HO1
    rcases k with _ | j
    · have hlt0 : ¬ (0 : Int) ≤ -1 := by omega
      rw [List.take_zero, List.nil_append, List.drop_zero, Nat.sub_zero] at HGR
      rw [List.drop_zero, Nat.sub_zero]
      rw [show (((0 : Nat) : Int) - 1) = -1 by omega]
      generalize hx : (trem T g).2 = x
      have HX := hid hx
      clear hx
      go_wp2
      go_ret
      refine ⟨?_, HGR.out, HON.out⟩
      rw [HX.out]
      rfl
    · rw [show (((j + 1 : Nat) : Int) - 1) = (j : Int) by omega]
      have HTD := hid (trem_drop (T := T) (g := g) (j := j) (by omega) HGT.out)
      have hjT : j < T.length := by have := HGT.out; omega
      have hlen2 : j < (T.take (j + 1) ++ (trem (T.drop (j + 1)) (g - (j + 1))).1).length := by rw [List.length_append, List.length_take]; omega
      have HGD := hid (take_getD hjT (trem (T.drop (j + 1)) (g - (j + 1))).1)
      have HSM := hid (take_split hjT (trem (T.drop (j + 1)) (g - (j + 1))).1)
      have hnj := HNE.out j (by omega)
      have hrl := HR.out j
      obtain ⟨gb2, cap2, u, e1, hcell, hfrz, hu⟩ := HGR.out.at hlen2
      injection e1 with e1 e2 e3
      injection e1 with e1
      injection e1 with e1 _
      subst e1
      rw [HGD.out] at hu
      have HS := hid (fun h m c1 hu2 hm2 => HGR.out.store (h := h) (m := m) (c := c1) hlen2 hu2 hm2)
      clear e2 e3
      generalize (trem (T.drop (j + 1)) (g - (j + 1))).2 = y at *
      generalize (trem (T.drop (j + 1)) (g - (j + 1))).1 = S at *
      generalize T.getD j [] = row at *
      obtain ⟨h2, c2, rfl, _, hlt2, hc2⟩ := hu.form (by omega)
      obtain ⟨p, hp⟩ : ∃ p, row.length = p + 1 := ⟨row.length - 1, by omega⟩
      have HU := hid hu
      have HP := hid hp
      rw [hp] at hcell hrl
      have hwr : IntKind.i64.wrap (((p + 1 : Nat) : Int) - 1) = (p : Int) := by rw [IntWalk.i64_in _ (by omega)]; omega
      have hjn : j < n := by omega
      clear hu hp hlen2 hnj hc2
      go_wp2
      go_loopg [9] p (fun gh s wq => ∃ q : Nat, q ≤ p ∧ q ≤ gh ∧ s = .int .i64 (q : Int) ∧ wr = wq ∧ rpos row y p = rpos row y q)
      case atStart => exact ⟨p, Nat.le_refl _, Nat.le_refl _, by go_num, rfl, rfl⟩
      case round =>
        obtain ⟨q, hq, hgh2, rfl, rfl, hrp⟩ := hrel
        have HRP := hid hrp
        clear hrp
        have g4 : wr.cell? ⟨h2, q, none⟩ = some (.int .i64 (row.getD q 0)) := by
          have := HU.out
          exact this.cell (by rw [HP.out]; omega)
        have f4 : wr.frozen? ⟨h2, q, none⟩ = false := HU.out.frozen q
        have hqp : q < p + 1 := by omega
        by_cases hgo : 0 < q ∧ y < row.getD q 0
        · obtain ⟨r, hr⟩ : ∃ r, q = r + 1 := ⟨q - 1, by omega⟩
          have HST : Hid (rpos row y q = rpos row y r) := by rw [hr] at hgo ⊢; exact rpos_step hgo.2
          have hd : decide (0 < q) = true := by simp; omega
          have hlt4 := hgo.2
          have hwq : IntKind.i64.wrap ((q : Int) - 1) = (r : Int) := by rw [IntWalk.i64_in _ (by omega)]; omega
          have HRR := hid hr
          clear hr hgo
          generalize row.getD q 0 = z at *
          go_wp2
          go_roundg r
          case measure => have := HRR.out; omega
          case rel => exact ⟨r, by have := HRR.out; omega, by omega, by have := HRR.out; go_num, rfl, by rw [HRP.out, HST.out]⟩
        · have HPQ : Hid (rpos row y p = q) := by
            rw [HRP.out]
            rcases Nat.eq_zero_or_pos q with h0 | h0
            · rw [h0]; exact rfl
            · exact rpos_stop (fun h5 => hgo ⟨h0, h5⟩)
          have HRO : Hid (rout y row = (row.set q y, row.getD q 0)) := by
            unfold rout
            rw [HP.out, Nat.add_sub_cancel, HPQ.out]
            exact rfl
          have HST := hid (HS.out h2 (p + 1) c2 hcell (by rw [HGD.out]; exact HP.out.symm) q y)
          rw [HGD.out, HSM.out] at HST
          rw [HRO.out] at HTD
          by_cases h0 : 0 < q
          · have hd : decide (0 < q) = true := by simp; omega
            have hnl : ¬ y < row.getD q 0 := fun h5 => hgo ⟨h0, h5⟩
            clear hgo
            generalize row.getD q 0 = z at *
            go_wp2
            go_roundg j
            case measure => omega
            case rel =>
              refine ⟨j, by omega, Nat.le_refl _, by go_num, by rw [HTD.out], ?_, HON.out.trans HST.out.2⟩
              rw [HTD.out]
              exact HST.out.1
          · have hq0 : q = 0 := by omega
            subst hq0
            clear hgo
            generalize row.getD 0 0 = z at *
            go_wp2
            go_roundg j
            case measure => omega
            case rel =>
              refine ⟨j, by omega, Nat.le_refl _, by go_num, by rw [HTD.out], ?_, HON.out.trans HST.out.2⟩
              rw [HTD.out]
              exact HST.out.1

end Go.Proofs.Ytmdpfadfimodjaa

/-
  tableau.rowOfEach: the row of each number.
-/
namespace Go.Proofs.Ytmdpfadfimodjaa
open Go.RowKit

theorem rows_cross : ∀ {T : List (List Int)}, T.flatten.Nodup → ∀ {i j : Nat} {y z : Int}, i ≠ j → y ∈ T.getD i [] → z ∈ T.getD j [] → y ≠ z
  | [], _, i, j, y, z, _, hy, _ => by simp at hy
  | r :: T, h, 0, 0, _, _, hij, _, _ => absurd rfl hij
  | r :: T, h, 0, j + 1, y, z, _, hy, hz => by
    rw [List.flatten_cons, List.nodup_append] at h
    exact h.2.2 y (by simpa using hy) z (flat_mem (by simpa using hz))
  | r :: T, h, i + 1, 0, y, z, _, hy, hz => by
    rw [List.flatten_cons, List.nodup_append] at h
    exact fun e => h.2.2 z (by simpa using hz) y (flat_mem (by simpa using hy)) e.symm
  | r :: T, h, i + 1, j + 1, y, z, hij, hy, hz => by
    rw [List.flatten_cons, List.nodup_append] at h
    exact rows_cross (T := T) h.2.1 (i := i) (j := j) (by omega) (by simpa using hy) (by simpa using hz)
/-- What rowOfEach knows: of i rows all, of the next one k numbers. -/
def RowsTo (Q : List (List Int)) (i k : Nat) (G : List Nat) : Prop := G.length = Q.flatten.length ∧ ∀ i' y, ((i' < i ∧ y ∈ Q.getD i' []) ∨ (i' = i ∧ y ∈ (Q.getD i []).take k)) → G.getD y.toNat 0 = i'
theorem take_not_mem {r : List Int} (h : r.Nodup) {k : Nat} (hk : k < r.length) : r.getD k 0 ∉ r.take k := by
  intro hm
  obtain ⟨i, hi, e⟩ := List.getElem_of_mem hm
  rw [List.length_take] at hi
  rw [List.getElem_take, List.getD_eq_getElem?_getD, List.getElem?_eq_getElem hk] at e
  exact List.pairwise_iff_getElem.1 h i k (by omega) hk (by omega) e
theorem RowsTo.step {Q : List (List Int)} {i k : Nat} {G : List Nat} (h : RowsTo Q i k G) (hd : Q.flatten.Nodup) (hb : ∀ y ∈ Q.flatten, 0 ≤ y ∧ y < (Q.flatten.length : Int)) (hk : k < (Q.getD i []).length) : RowsTo Q i (k + 1) (G.set ((Q.getD i []).getD k 0).toNat i) := by
  have hzm : (Q.getD i []).getD k 0 ∈ Q.getD i [] := getD_mem0 hk
  have hz := hb _ (flat_mem hzm)
  refine ⟨by rw [List.length_set]; exact h.1, fun i' y hy => ?_⟩
  have hyQ : y ∈ Q.flatten := by
    rcases hy with ⟨_, hy⟩ | ⟨_, hy⟩
    · exact flat_mem hy
    · exact flat_mem (List.mem_of_mem_take hy)
  have hyb := hb y hyQ
  rw [List.getD_eq_getElem?_getD, List.getElem?_set]
  by_cases e : y = (Q.getD i []).getD k 0
  · subst e
    rw [if_pos rfl, if_pos (by rw [h.1]; omega)]
    rcases hy with ⟨h1, hy⟩ | ⟨h1, _⟩
    · exact absurd rfl (rows_cross hd (by omega) hy hzm)
    · exact h1.symm
  · rw [if_neg (by omega), ← List.getD_eq_getElem?_getD]
    refine h.2 i' y ?_
    rcases hy with hy | ⟨h1, hy⟩
    · exact .inl hy
    · refine .inr ⟨h1, ?_⟩
      rw [take_snoc hk] at hy
      rcases List.mem_append.1 hy with h2 | h2
      · exact h2
      · rw [List.mem_singleton] at h2
        exact absurd h2 e
theorem RowsTo.next {Q : List (List Int)} {i : Nat} {G : List Nat} (h : RowsTo Q i (Q.getD i []).length G) : RowsTo Q (i + 1) 0 G := by
  refine ⟨h.1, fun i' y hy => h.2 i' y ?_⟩
  rcases hy with ⟨h1, hy⟩ | ⟨_, hy⟩
  · by_cases e : i' = i
    · subst e
      exact .inr ⟨rfl, by rw [List.take_of_length_le (Nat.le_refl _)]; exact hy⟩
    · exact .inl ⟨by omega, hy⟩
  · simp at hy
theorem RowsTo.done {Q : List (List Int)} {G : List Nat} (h : RowsTo Q Q.length 0 G) : RowsOf Q G := by
  refine ⟨h.1, fun i y hy => h.2 i y (.inl ⟨?_, hy⟩)⟩
  rcases Nat.lt_or_ge i Q.length with h1 | h1
  · exact h1
  · rw [List.getD_eq_getElem?_getD, List.getElem?_eq_none h1] at hy
    simp at hy

def intsOf (G : List Nat) : List Int := G.map (fun n : Nat => (n : Int))
theorem intsOf_set (G : List Nat) (j i : Nat) : intsOf (G.set j i) = (intsOf G).set j (i : Int) := by simp [intsOf, List.map_set]
theorem intsOf_getD (G : List Nat) (j : Nat) : (intsOf G).getD j 0 = ((G.getD j 0 : Nat) : Int) := by
  unfold intsOf
  rw [List.getD_eq_getElem?_getD, List.getD_eq_getElem?_getD, List.getElem?_map]
  rcases G[j]? with _ | x <;> rfl

set_option maxRecDepth 100000 in
set_option maxHeartbeats 2000000 in
theorem rowOfEach_any (A : Option Addr) (n c : Nat) (Q : List (List Int)) (w : World) (h : RRows w A n Q) (hQ : IsTab Q) :
    Calls Try.prog 58 #[.slice A n c] w fun e w' => ∃ g G, e = .returned (.slice (some ⟨g, 0, none⟩) Q.flatten.length Q.flatten.length) ∧ RowsOf Q G ∧ w.heap.size ≤ g ∧ Arr w' g (intsOf G) ∧ Below w.heap.size w w' := by
  have H := hid h
  have HL := hid h.len
  have hn10 : n ≤ 10 := by rw [← h.len]; exact hQ.len
  obtain ⟨fl, hfl⟩ : ∃ fl, fl = Q.flatten.length := ⟨_, rfl⟩
  have hf10 : fl ≤ 10 := by rw [hfl]; exact hQ.flat
  have HQ := hid hQ
  have HD : Hid (Q.flatten.Nodup) := hQ.perm.nodup_iff.2 (nodup_iota _)
  have HBD : Hid (∀ y ∈ Q.flatten, 0 ≤ y ∧ y < (Q.flatten.length : Int)) := fun y hy => mem_iota.1 (hQ.perm.mem_iff.1 hy)
  have HFL := hid hfl
  have hmk := fun W => run_make_row' (P := Try.prog) 22 3 (.int .i64 0) 8 Try.underlying22 infoInt rfl .i64 .i64 fl (by omega) (by omega) W
  rw [← hfl]
  clear h hQ hfl
  go_enter Try.func58, Try.ntmps58
  go_wp2_with fail
  refine (concat_any A n c Q _ H.out (by omega) (by rw [← HFL.out]; omega)).mono ?_
  rintro e w1 ⟨v1, rfl, ho1, hb1⟩
  obtain ⟨A1, c1, rfl, _, _⟩ := ho1.ints
  rw [← HFL.out]
  have HB1 := hid hb1
  clear ho1 hb1
  go_wp2_with fail
  clear hmk
  obtain ⟨gb, hgb⟩ : ∃ gb, gb = w1.heap.size := ⟨_, rfl⟩
  have HW0 : Hid (w.heap.size ≤ gb) := by rw [hgb]; exact HB1.out.size
  obtain ⟨w8, hw8⟩ : ∃ w8, w8 = w1.alloc (.cells (madeCells #[.int .i64 0] fl) 3) := ⟨_, rfl⟩
  have HAR0 : Hid (Arr w8 gb (intsOf (List.replicate fl 0))) := by
    rw [hw8, hgb, show intsOf (List.replicate fl 0) = List.replicate fl 0 by simp [intsOf]]
    exact Arr.made w1 fl
  have HB8 : Hid (Below w.heap.size w w8) := by rw [hw8]; exact below_step HB1.out (Nat.le_refl _) (below_alloc _ _)
  rw [← hw8, ← hgb]
  clear hw8 hgb HB1
  go_loopg [14] n (fun g t wr => ∃ (i : Nat) (G : List Nat), i ≤ n ∧ n - i ≤ g ∧ t = .int .i64 (i : Int) ∧ RowsTo Q i 0 G ∧ Arr wr gb (intsOf G) ∧ Below w.heap.size w wr)
  case atStart =>
    refine ⟨0, List.replicate fl 0, Nat.zero_le _, by omega, rfl, ⟨by rw [List.length_replicate, HFL.out], fun i' y hy => ?_⟩, HAR0.out, HB8.out⟩
    rcases hy with ⟨h1, _⟩ | ⟨_, h1⟩
    · omega
    · simp at h1
  case round =>
    obtain ⟨i, G, hi, hg, rfl, hrt, har, hb⟩ := hrel
    have HRT := hid hrt
    have HAR := hid har
    have HB := hid hb
    clear hrt har hb HAR0 HB8
    by_cases hlt : i < n
    · obtain ⟨b1, o1, Aj, nj, cj, rfl, g1, hI1, hc1⟩ := (H.out.keep HB.out).at hlt
      have HLJ := hid hI1.len
      have hnj : nj ≤ 10 := by
        have h1 := length_le_flat2 Q i
        have h2 := hI1.len
        have h3 := HFL.out
        omega
      have HIJ := hid ((H.out).at hlt)
      obtain ⟨b1', o1', Aj', nj', cj', e1, g1', hI1', _⟩ := H.out.at hlt
      have hsame : Aj' = Aj ∧ nj' = nj := by
        injection e1 with e1
        injection e1 with e2 e3
        subst e2
        subst e3
        obtain ⟨b9, o9, e9, hl9, _⟩ := H.out.row (by omega)
        injection e9 with e9
        injection e9 with e9 _
        have := (HB.out.cell (p := ⟨b1, o1 + i, none⟩) (by rw [e9]; exact hl9)).symm.trans g1
        rw [g1'] at this
        injection this with this
        injection this with t1 t2 t3
        exact ⟨t1, t2⟩
      obtain ⟨rfl, rfl⟩ := hsame
      have HI0 := hid hI1'
      clear hI1 hI1' hc1 e1 g1' HIJ
      go_wp2
      obtain ⟨w9, hw9⟩ : ∃ w9, w9 = wr := ⟨_, rfl⟩
      rw [← hw9] at HAR HB
      rw [← hw9]
      clear hw9 g1
      go_loopg [21] nj' (fun g t wq => ∃ (k : Nat) (G2 : List Nat), k ≤ nj' ∧ nj' - k ≤ g ∧ t = .int .i64 (k : Int) ∧ RowsTo Q i k G2 ∧ Arr wq gb (intsOf G2) ∧ Below w.heap.size w wq)
      case atStart => exact ⟨0, G, Nat.zero_le _, by omega, rfl, HRT.out, HAR.out, HB.out⟩
      case round =>
        obtain ⟨k, G2, hk, hg2, rfl, hrt, har, hb⟩ := hrel
        have HRT2 := hid hrt
        have HAR2 := hid har
        have HB2 := hid hb
        clear hrt har hb HRT HAR HB
        by_cases hlt2 : k < nj'
        · obtain ⟨b2, o2, rfl, hbb2, hc2⟩ := (HI0.out.keep HB2.out).row (by omega)
          have g2 := hc2 k hlt2
          have hkl : k < (Q.getD i []).length := by rw [HLJ.out]; exact hlt2
          have HST := hid (HRT2.out.step HD.out HBD.out hkl)
          obtain ⟨y1, y2⟩ := HBD.out _ (flat_mem (getD_mem0 hkl))
          rw [← HFL.out] at y2
          clear hc2
          generalize hyy : (Q.getD i []).getD k 0 = yy at *
          obtain ⟨y, rfl⟩ := Int.eq_ofNat_of_zero_le y1
          have hyf : y < fl := by omega
          have hlen : (intsOf G2).length = fl := by unfold intsOf; rw [List.length_map, HRT2.out.1, HFL.out]
          have g3 := HAR2.out.cell (j := y) (by rw [hlen]; exact hyf)
          have f3 := HAR2.out.frozen y
          have HAS := hid (HAR2.out.set y (i : Int))
          rw [← intsOf_set] at HAS
          have hwl := HW0.out
          clear hyy y1 y2 hkl hlen
          generalize (intsOf G2).getD y 0 = oldv at *
          go_wp2
          go_roundg (nj' - (k + 1))
          case measure => omega
          case rel => exact ⟨k + 1, _, by omega, by omega, by go_num, HST.out, by rw [Int.toNat_natCast]; exact HAS.out, HB2.out.setCell (show w.heap.size ≤ gb from hwl) _⟩
        · have hkj : k = nj' := by omega
          subst hkj
          have HNX := hid (RowsTo.next (Q := Q) (i := i) (G := G2) (by rw [HLJ.out]; exact HRT2.out))
          go_wp2
          go_roundg (n - (i + 1))
          case measure => omega
          case rel => exact ⟨i + 1, G2, by omega, by omega, by go_num, HNX.out, HAR2.out, HB2.out⟩
    · have hin : i = n := by omega
      subst hin
      have HDN := hid (RowsTo.done (Q := Q) (G := G) (by rw [HL.out]; exact HRT.out))
      go_wp2
      go_ret
      exact ⟨gb, G, rfl, HDN.out, HW0.out, HAR.out, HB.out⟩

end Go.Proofs.Ytmdpfadfimodjaa
