/-
  slices.Index, slices.Contains at []int; the verifier's castref.PermErr, castref.After, castref.Crossed.
-/
import Derived.Test.YtheogajhclhlhaaSgnSwap
namespace Go.Proofs.Ytheogajhclhlhaa
open Go.RowKit

/-- The place at which it stands, or -1. -/
def IdxIs (xs : List Int) (v : Int) (w : World) (e : Ending) (w' : World) : Prop := ∃ r : Int, e = .returned (.int .i64 r) ∧ decide (0 ≤ r) = decide (v ∈ xs) ∧ w = w'

set_option maxHeartbeats 800000 in
theorem index_any (A : Option Addr) (n c : Nat) (xs : List Int) (v : Int) (w : World) (h : Ints w A n xs) (hn : n ≤ 1000000) :
    Calls Try.prog 44 #[.slice A n c, .int .i64 v] w (IdxIs xs v w) := by
  go_enter Try.func44, Try.ntmps44
  go_wp2
  go_loopg [8] n (fun g s wr => ∃ k : Nat, k ≤ n ∧ n - k ≤ g ∧ s = .int .i64 k ∧ w = wr ∧ ∀ j, j < k → xs.getD j 0 ≠ v)
  case atStart => exact ⟨0, Nat.zero_le _, by omega, rfl, rfl, fun j hj => absurd hj (Nat.not_lt_zero _)⟩
  case round =>
    obtain ⟨k, hk, hg, rfl, rfl, hall⟩ := hrel
    have HA := hid hall
    have HL := hid h.len
    clear hall
    by_cases hlt : k < n
    · obtain ⟨b, o, rfl, hb, hc⟩ := h.row (by omega)
      have g1 := hc k hlt
      have HM := hid (getD_mem (show k < xs.length by rw [HL.out]; exact hlt))
      clear hc h
      generalize hx : xs.getD k 0 = x at g1 HM
      have HX := hid hx
      clear hx
      by_cases hz : v = x
      · have hz' : (v == x) = true := by simpa using hz
        have HZ := hid hz
        clear hz
        go_wp2
        go_ret
        exact ⟨_, rfl, by rw [HZ.out, decide_eq_true HM.out]; simp, rfl⟩
      · have hz' : (v == x) = false := by simpa using hz
        go_wp2
        go_roundg (n - (k + 1))
        case measure => omega
        case rel =>
          refine ⟨k + 1, by omega, by omega, by go_num, rfl, fun j hj => ?_⟩
          by_cases e : j = k
          · subst e
            rw [HX.out]
            exact fun e => hz e.symm
          · exact HA.out j (by omega)
    · go_wp2
      go_ret
      have hv : ¬ v ∈ xs := fun hm => by
        obtain ⟨i, hi, e⟩ := mem_getD hm
        exact HA.out i (by rw [HL.out] at hi; omega) e
      exact ⟨_, rfl, by rw [decide_eq_false hv]; rfl, rfl⟩

set_option maxHeartbeats 400000 in
theorem contains_any (A : Option Addr) (n c : Nat) (xs : List Int) (v : Int) (w : World) (h : Ints w A n xs) (hn : n ≤ 1000000) :
    Calls Try.prog 32 #[.slice A n c, .int .i64 v] w fun e w' => e = .returned (.bool (decide (v ∈ xs))) ∧ w = w' := by
  go_enter Try.func32, Try.ntmps32
  go_wp2_with fail
  refine (index_any A n c xs v _ h hn).mono ?_
  rintro e w' ⟨r, rfl, hr, rfl⟩
  have HR := hid hr
  clear hr
  go_wp2
  go_ret
  exact ⟨by rw [← HR.out]; rfl, rfl⟩

set_option maxHeartbeats 400000 in
theorem refErr_large (A : Option Addr) (n c : Nat) (w : World) (hn : 10 < n) (hm : n ≤ 9223372036854775807) :
    Calls Try.prog 14 #[.slice A n c] w fun e w' => e = .returned (.int .i64 2) ∧ w = w' := by
  go_enter Try.func14, Try.ntmps14
  go_wp2
  go_ret
  exact ⟨rfl, rfl⟩

set_option maxHeartbeats 800000 in
theorem refErr_small (A : Option Addr) (n c : Nat) (xs : List Int) (w : World) (h : Ints w A n xs) (hn : n ≤ 10) :
    Calls Try.prog 14 #[.slice A n c] w fun e w' => e = .returned (.int .i64 (permErr xs)) ∧ w = w' := by
  have h10 : decide (10 < (n : Int)) = false := by simp; omega
  go_enter Try.func14, Try.ntmps14
  go_wp2
  go_loopg [9] n (fun g s wr => ∃ k : Nat, k ≤ n ∧ n - k ≤ g ∧ s = .int .i64 k ∧ w = wr ∧ ∀ j : Nat, j < k → (j : Int) ∈ xs)
  case atStart => exact ⟨0, Nat.zero_le _, by omega, rfl, rfl, fun j hj => absurd hj (Nat.not_lt_zero _)⟩
  case round =>
    obtain ⟨k, hk, hg, rfl, rfl, hall⟩ := hrel
    have HA := hid hall
    have HL := hid h.len
    clear hall
    by_cases hlt : k < n
    · by_cases hm : (k : Int) ∈ xs
      · have hd : decide ((k : Int) ∈ xs) = true := decide_eq_true hm
        have HM := hid hm
        clear hm
        go_wp2_with (go_at_call 32; refine (contains_any A n c xs k _ h (by omega)).mono ?_; rintro e w' ⟨rfl, rfl⟩)
        go_roundg (n - (k + 1))
        case measure => omega
        case rel =>
          refine ⟨k + 1, by omega, by omega, by go_num, rfl, fun j hj => ?_⟩
          by_cases e : j = k
          · subst e
            exact HM.out
          · exact HA.out j (by omega)
      · have hd : decide ((k : Int) ∈ xs) = false := decide_eq_false hm
        have HM := hid hm
        clear hm
        go_wp2_with (go_at_call 32; refine (contains_any A n c xs k _ h (by omega)).mono ?_; rintro e w' ⟨rfl, rfl⟩)
        go_ret
        rw [permErr_bad (by rw [HL.out]; exact hn) (fun hp => HM.out (hp.all k (by rw [HL.out]; exact hlt)))]
        exact ⟨rfl, rfl⟩
    · go_wp2
      go_ret
      rw [permErr_ok.2 ⟨by rw [HL.out]; exact hn, isPerm_of_all (fun i hi => HA.out i (by rw [HL.out] at hi; omega))⟩]
      exact ⟨rfl, rfl⟩

theorem refErr_any (A : Option Addr) (n c : Nat) (xs : List Int) (w : World) (h : Ints w A n xs) (hm : n ≤ 9223372036854775807) :
    Calls Try.prog 14 #[.slice A n c] w fun e w' => e = .returned (.int .i64 (permErr xs)) ∧ w = w' := by
  by_cases hn : 10 < n
  · refine (refErr_large A n c w hn hm).mono ?_
    rintro e w' ⟨rfl, rfl⟩
    have e : permErr xs = 2 := if_pos (by rw [h.len]; exact hn)
    rw [e]
    exact ⟨rfl, rfl⟩
  · exact refErr_small A n c xs w h (by omega)

/-! ### After -/

theorem times_take_snoc {a b : List Int} {k : Nat} (hk : k < b.length) : times a (b.take (k + 1)) = times a (b.take k) ++ [a.getD (b.getD k 0).toNat 0] := by
  rw [take_snoc hk]
  simp [times]

set_option maxHeartbeats 800000 in
/-- After(a, b), where each number of b is a place of a. -/
theorem after_any (A : Option Addr) (n c : Nat) (B : Option Addr) (m d : Nat) (a b : List Int) (w : World) (hA : Ints w A n a) (hB : Ints w B m b) (hr : ∀ x, x ∈ b → 0 ≤ x ∧ x < n) (hm : m ≤ 1000000) (hn : n ≤ 1000000) :
    Calls Try.prog 18 #[.slice A n c, .slice B m d] w (RetOwn w (times a b)) := by
  have HR := hid hr
  clear hr
  go_enter Try.func18, Try.ntmps18
  go_wp2
  go_loopg [5, 10] m (fun g v s wr => ∃ k : Nat, k ≤ m ∧ m - k ≤ g ∧ s = .int .i64 k ∧ OwnInts wr w.heap.size v (times a (b.take k)) ∧ Below w.heap.size w wr)
  case atStart => exact ⟨0, Nat.zero_le _, by omega, rfl, OwnInts.nil _ _, Below.refl _ _⟩
  case round =>
    obtain ⟨k, hk, hg, rfl, hown, hbel⟩ := hrel
    have HO := hid hown
    have HB := hid hbel
    have HL := hid hB.len
    clear hown hbel
    by_cases hlt : k < m
    · obtain ⟨b2, o2, rfl, hlt2, hc2⟩ := hB.row (by omega)
      have hx := HR.out _ (getD_mem (show k < b.length by rw [HL.out]; exact hlt))
      have g1 : wr.cell? ⟨b2, o2 + k, none⟩ = some (.int .i64 (b.getD k 0)) := (HB.out.cell (p := ⟨b2, o2 + k, none⟩) hlt2).trans (hc2 k hlt)
      have HS := hid (times_take_snoc (a := a) (show k < b.length by rw [HL.out]; exact hlt))
      have HD : Hid ((times a (b.take k)).length = k) := by rw [length_times, List.length_take, HL.out]; exact Nat.min_eq_left hk
      clear hc2
      generalize b.getD k 0 = x at g1 hx HS
      obtain ⟨j, rfl⟩ := Int.eq_ofNat_of_zero_le hx.1
      have hj : j < n := by omega
      obtain ⟨b1, o1, rfl, hlt1, hc1⟩ := hA.row (by omega)
      have g2 : wr.cell? ⟨b1, o1 + j, none⟩ = some (.int .i64 (a.getD j 0)) := (HB.out.cell (p := ⟨b1, o1 + j, none⟩) hlt1).trans (hc1 j hj)
      rw [Int.toNat_natCast] at HS
      clear hx hc1
      generalize a.getD j 0 = y at g2 HS
      generalize times a (b.take k) = p at HO HD HS
      go_wp2_with (at_builtin; refine wpList_app1 _ rfl (.tmp 14) (.tmp 19) rfl w.heap.size _ p y rfl rfl HO.out (by rw [HD.out]; omega) HB.out.size ?_)
      intro v' w1 hown1 _ hbel1
      have HB1 := hid (HB.out.trans hbel1)
      have HO1 := hid hown1
      clear hown1 hbel1
      go_wp2
      go_roundg (m - (k + 1))
      case measure => omega
      case rel => exact ⟨k + 1, by omega, by omega, by go_num, by rw [HS.out]; exact HO1.out, HB1.out⟩
    · have hkn : k = m := by omega
      subst hkn
      have HT : Hid (b.take k = b) := List.take_of_length_le (by rw [HL.out]; exact Nat.le_refl _)
      rw [HT.out] at HO
      go_wp2
      go_ret
      exact ⟨_, rfl, HO.out, HB.out⟩

/-! ### Crossed -/

theorem inv_snoc (l : List Int) (x : Int) : inv (l ++ [x]) = inv l + l.countP (fun y => decide (x < y)) := by
  induction l with
  | nil => rfl
  | cons a t ih =>
    simp only [List.cons_append, inv, ih, List.countP_append, List.countP_cons, List.countP_nil]
    omega
/-- The pairs counted after m rounds of the inner loop at place k. -/
def crossUpto (p : List Int) (k m : Nat) : Nat := inv (p.take k) + (p.take m).countP (fun y => decide (p.getD k 0 < y))
theorem crossUpto_yes {p : List Int} {k m : Nat} (h : m < p.length) (hlt : p.getD k 0 < p.getD m 0) : crossUpto p k (m + 1) = crossUpto p k m + 1 := by
  unfold crossUpto
  rw [take_snoc h, List.countP_append]
  simp only [List.countP_cons, List.countP_nil, hlt, decide_true, if_true]
  omega
theorem crossUpto_no {p : List Int} {k m : Nat} (h : m < p.length) (hlt : ¬ p.getD k 0 < p.getD m 0) : crossUpto p k (m + 1) = crossUpto p k m := by
  unfold crossUpto
  rw [take_snoc h, List.countP_append]
  simp only [List.countP_cons, List.countP_nil, hlt, decide_false, Nat.zero_add]
  simp
theorem crossUpto_end {p : List Int} {k : Nat} (h : k < p.length) : crossUpto p k k = inv (p.take (k + 1)) := by
  unfold crossUpto
  rw [take_snoc h, inv_snoc]
theorem crossUpto_le (p : List Int) (k m : Nat) : crossUpto p k m ≤ inv (p.take k) + m := by
  unfold crossUpto
  have h1 := List.countP_le_length (p := fun y => decide (p.getD k 0 < y)) (l := p.take m)
  have h2 : (p.take m).length ≤ m := List.length_take_le _ _
  omega
theorem inv_le (l : List Int) : inv l ≤ l.length * l.length := by
  induction l with
  | nil => simp [inv]
  | cons a t ih =>
    simp only [inv, List.length_cons]
    have h1 := List.countP_le_length (p := fun y => decide (y < a)) (l := t)
    have : (t.length + 1) * (t.length + 1) = t.length * t.length + t.length + t.length + 1 := by rw [Nat.add_mul, Nat.mul_add]; omega
    omega

set_option maxHeartbeats 1600000 in
theorem crossed_any (A : Option Addr) (n c : Nat) (p : List Int) (w : World) (h : Ints w A n p) (hn : n ≤ 10) :
    Calls Try.prog 16 #[.slice A n c] w fun e w' => e = .returned (.int .i64 (inv p : Nat)) ∧ ∃ q, w' = w.drewN q := by
  have HL := hid h.len
  go_enter Try.func16, Try.ntmps16
  go_wp2
  go_loopg [3, 8] n (fun g u s wr => ∃ k q : Nat, k ≤ n ∧ n - k ≤ g ∧ s = .int .i64 k ∧ u = .int .i64 (inv (p.take k) : Nat) ∧ wr = w.drewN q)
  case atStart => exact ⟨0, 0, Nat.zero_le _, by omega, rfl, rfl, rfl⟩
  case round =>
    obtain ⟨k, q, hk, hg, rfl, rfl, hq⟩ := hrel
    have HQ := hid hq
    clear hq
    have hib : inv (p.take k) ≤ 100 := by
      have h1 := inv_le (p.take k)
      have h2 : (p.take k).length ≤ 10 := Nat.le_trans (List.length_take_le _ _) (by omega)
      have h3 : (p.take k).length * (p.take k).length ≤ 10 * 10 := Nat.mul_le_mul h2 h2
      omega
    by_cases hlt : k < n
    · obtain ⟨b, o, rfl, hb, hc⟩ := h.row (by omega)
      have HC := hid hc
      clear hc h
      have HZ : Hid (crossUpto p k 0 = inv (p.take k)) := by unfold crossUpto; simp [Hid]
      go_wp2
      go_loopg [3, 12] k (fun g u s wr => ∃ m q : Nat, m ≤ k ∧ k - m ≤ g ∧ s = .int .i64 m ∧ u = .int .i64 (crossUpto p k m : Nat) ∧ wr = w.drewN q)
      case atStart => exact ⟨0, q, Nat.zero_le _, by omega, rfl, by rw [HZ.out], HQ.out⟩
      case round =>
        obtain ⟨m, q', hm, hgm, rfl, rfl, hq'⟩ := hrel
        have HQ' := hid hq'
        clear hq'
        have hcb := crossUpto_le p k m
        by_cases hml : m < k
        · have hmn : m < n := by omega
          have g1 : wr.cell? ⟨b, o + m, none⟩ = some (.int .i64 (p.getD m 0)) := by rw [HQ'.out]; exact HC.out m hmn
          have g2 : wr.cell? ⟨b, o + k, none⟩ = some (.int .i64 (p.getD k 0)) := by rw [HQ'.out]; exact HC.out k hlt
          have HY := hid (crossUpto_yes (p := p) (k := k) (m := m) (by rw [HL.out]; exact hmn))
          have HN := hid (crossUpto_no (p := p) (k := k) (m := m) (by rw [HL.out]; exact hmn))
          have hmN : (m : Int) < (n : Int) := by omega
          have hkN : (k : Int) < (n : Int) := by omega
          generalize p.getD m 0 = x at g1 HY HN
          generalize p.getD k 0 = y at g2 HY HN
          by_cases hyx : y < x
          · have hd : decide (y < x) = true := by simpa using hyx
            have HYX := hid (HY.out hyx)
            go_wp2_with fail
            go_region
            go_wp2
            go_roundg (k - (m + 1))
            case measure => omega
            case rel => exact ⟨m + 1, q' + 1, by omega, by omega, by go_num, by rw [HYX.out]; go_num, by rw [HQ'.out]; rfl⟩
          · have hd : decide (y < x) = false := by simpa using hyx
            have HYX := hid (HN.out hyx)
            go_wp2_with fail
            go_region
            go_wp2
            go_roundg (k - (m + 1))
            case measure => omega
            case rel => exact ⟨m + 1, q' + 1, by omega, by omega, by go_num, by rw [HYX.out], by rw [HQ'.out]; rfl⟩
        · have hmk : m = k := by omega
          subst hmk
          have HE := hid (crossUpto_end (p := p) (show m < p.length by rw [HL.out]; exact hlt))
          rw [HE.out]
          go_wp2
          go_roundg (n - (m + 1))
          case measure => omega
          case rel => exact ⟨m + 1, q', by omega, by omega, by go_num, rfl, HQ'.out⟩
    · have hkn : k = n := by omega
      subst hkn
      have HT : Hid (p.take k = p) := List.take_of_length_le (by rw [HL.out]; exact Nat.le_refl _)
      rw [HT.out]
      go_wp2
      go_ret
      exact ⟨rfl, q, HQ.out⟩

end Go.Proofs.Ytheogajhclhlhaa
