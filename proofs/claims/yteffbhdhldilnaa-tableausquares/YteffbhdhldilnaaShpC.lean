/-
  castref.ShapesOf: by which corner the last number has; the same as by hooks.
-/
import Derived.Test.YteffbhdhldilnaaShpB
import Derived.Test.YteffbhdhldilnaaClone
namespace Go.Proofs.Yteffbhdhldilnaa
open Go.RowKit

def cornerZ (xs : List Int) (i : Nat) : Prop := 0 < xs.getD i 0 ∧ (i + 1 = xs.length ∨ xs.getD (i + 1) 0 < xs.getD i 0)
instance (xs : List Int) (i : Nat) : Decidable (cornerZ xs i) := by unfold cornerZ; infer_instance
def shpSum (f : List Int → Int) (xs : List Int) : Nat → Int
  | 0 => 0
  | i + 1 => shpSum f xs i + (if cornerZ xs i then f (xs.set i (xs.getD i 0 - 1)) else 0)
def shp : Nat → List Int → Int
  | 0, _ => 1
  | n + 1, xs => shpSum (shp n) xs xs.length

theorem shpSum_bound {f : List Int → Int} {B : Int} {xs : List Int} (hf : ∀ i, 0 ≤ f (xs.set i (xs.getD i 0 - 1)) ∧ f (xs.set i (xs.getD i 0 - 1)) ≤ B) (hB : 0 ≤ B) : ∀ i : Nat, 0 ≤ shpSum f xs i ∧ shpSum f xs i ≤ (i : Int) * B
  | 0 => by simp [shpSum]
  | i + 1 => by
    have ih := shpSum_bound hf hB i
    have h1 := hf i
    rw [shpSum]
    have e : ((i + 1 : Nat) : Int) * B = (i : Int) * B + B := by rw [show ((i + 1 : Nat) : Int) = (i : Int) + 1 from rfl, Int.add_mul, Int.one_mul]
    rw [e]
    split <;> omega
theorem shp_bound : ∀ (n : Nat) (xs : List Int), xs.length ≤ 12 → 0 ≤ shp n xs ∧ shp n xs ≤ 12 ^ n
  | 0, xs, _ => by simp [shp]
  | n + 1, xs, h => by
    have hB : (0 : Int) ≤ 12 ^ n := Int.le_of_lt (Int.pow_pos (by decide))
    obtain ⟨h1, h2⟩ := shpSum_bound (f := shp n) (B := 12 ^ n) (xs := xs) (fun i => shp_bound n _ (by rw [List.length_set]; exact h)) hB xs.length
    rw [shp]
    refine ⟨h1, Int.le_trans h2 ?_⟩
    rw [Int.pow_succ, Int.mul_comm (12 ^ n)]
    exact Int.mul_le_mul_of_nonneg_right (by omega) hB
theorem pow12 {n : Nat} (h : n ≤ 12) : (12 : Int) ^ n ≤ 8916100448256 := by
  have h1 := Nat.pow_le_pow_right (show 0 < 12 by omega) h
  have h2 : ((12 ^ n : Nat) : Int) ≤ ((12 ^ 12 : Nat) : Int) := by omega
  have e4 : (12 : Int) ^ 12 = 8916100448256 := by decide
  rw [← e4]
  simpa using h2

def Pos0 (xs : List Int) : Prop := ∀ j, 0 ≤ xs.getD j 0
theorem Pos0.take_sum {xs : List Int} (h : Pos0 xs) : ∀ k, k ≤ xs.length → 0 ≤ (xs.take k).sum
  | 0, _ => by simp
  | k + 1, hk => by
    have := Pos0.take_sum h k (by omega)
    rw [sum_take_snoc (by omega)]
    have := h k
    omega
theorem Pos0.take_le {xs : List Int} (h : Pos0 xs) : ∀ d k, k + d = xs.length → (xs.take k).sum ≤ xs.sum
  | 0, k, hk => by rw [List.take_of_length_le (by omega)]; exact Int.le_refl _
  | d + 1, k, hk => by
    have := Pos0.take_le h d (k + 1) (by omega)
    rw [sum_take_snoc (by omega)] at this
    have := h k
    omega
theorem Pos0.set {xs : List Int} (h : Pos0 xs) {i : Nat} {x : Int} (hx : 0 ≤ x) : Pos0 (xs.set i x) := by
  intro j
  rw [getD_set]
  split
  · exact hx
  · exact h j
theorem sum_set {xs : List Int} {i : Nat} (hi : i < xs.length) (x : Int) : (xs.set i x).sum = xs.sum - xs.getD i 0 + x := by
  induction xs generalizing i with
  | nil => simp at hi
  | cons y l ih =>
    cases i with
    | zero => simp; omega
    | succ i =>
      rw [List.set_cons_succ, List.sum_cons, List.sum_cons, ih (by simpa using hi)]
      simp
      omega

/-- What ShapesOf does, for so many cells. -/
def ShapesTo (n : Nat) : Prop := ∀ (A : Option Addr) (m c : Nat) (xs : List Int) (w : World), Ints w A m xs → m ≤ 12 → Pos0 xs → xs.sum = (n : Int) → n ≤ 12 →
  Calls Try.prog 20 #[.slice A m c] w fun e w' => e = .returned (.int .i64 (shp n xs)) ∧ Below w.heap.size w w'

set_option maxHeartbeats 1600000 in
theorem shapesOf_zero : ShapesTo 0 := by
  intro A m c xs w h hm hp hs _
  have HI := hid h
  have HL := hid h.len
  have HP := hid hp
  have HS := hid hs
  clear h hp hs
  go_enter Try.func20, Try.ntmps20
  go_wp2
  go_loopg [3, 12] m (fun g s t wr => ∃ k : Nat, k ≤ m ∧ m - k ≤ g ∧ s = .int .i64 0 ∧ t = .int .i64 (k : Int) ∧ w = wr ∧ ∀ j, j < k → xs.getD j 0 = 0)
  case atStart => exact ⟨0, Nat.zero_le _, by omega, rfl, rfl, rfl, fun j hj => absurd hj (Nat.not_lt_zero _)⟩
  case round =>
    obtain ⟨k, hk, hg, rfl, rfl, rfl, hall⟩ := hrel
    have HA := hid hall
    clear hall
    by_cases hlt : k < m
    · obtain ⟨b, o, rfl, hb, hc⟩ := HI.out.row (by omega)
      have h0 : xs.getD k 0 = 0 := by
        have h1 := HP.out.take_le (xs.length - (k + 1)) (k + 1) (by rw [HL.out]; omega)
        have h2 := HP.out.take_sum k (by rw [HL.out]; omega)
        have h3 := HP.out k
        rw [sum_take_snoc (by rw [HL.out]; exact hlt), HS.out] at h1
        omega
      have g1 := hc k hlt
      rw [h0] at g1
      have H0 := hid h0
      clear hc h0
      go_wp2
      go_roundg (m - (k + 1))
      case measure => omega
      case rel =>
        refine ⟨k + 1, by omega, by omega, by go_num, by go_num, rfl, fun j hj => ?_⟩
        by_cases e : j = k
        · rw [e]; exact H0.out
        · exact HA.out j (by omega)
    · have hkm : k = m := by omega
      subst hkm
      go_wp2
      go_ret
      exact ⟨rfl, Below.refl _ _⟩

set_option maxHeartbeats 3200000 in
theorem shapesOf_step (n : Nat) (IH : ShapesTo n) : ShapesTo (n + 1) := by
  intro A m c xs w h hm hp hs hn
  have HI := hid h
  have HL := hid h.len
  have HP := hid hp
  have HS := hid hs
  have HIH := hid IH
  clear h hp hs IH
  go_enter Try.func20, Try.ntmps20
  go_wp2
  go_loopg [3, 12] m (fun g s t wr => ∃ k : Nat, k ≤ m ∧ m - k ≤ g ∧ s = .int .i64 (xs.take k).sum ∧ t = .int .i64 (k : Int) ∧ w = wr)
  case atStart => exact ⟨0, Nat.zero_le _, by omega, by simp, rfl, rfl⟩
  case round =>
    obtain ⟨k, hk, hg, rfl, rfl, rfl⟩ := hrel
    by_cases hlt : k < m
    · obtain ⟨b, o, rfl, hb, hc⟩ := HI.out.row (by omega)
      have h1 := HP.out.take_le (xs.length - (k + 1)) (k + 1) (by rw [HL.out]; omega)
      have h2 := HP.out.take_sum k (by rw [HL.out]; omega)
      have h3 := HP.out k
      have HT := hid (sum_take_snoc (xs := xs) (k := k) (by rw [HL.out]; exact hlt))
      rw [HT.out, HS.out] at h1
      have g1 := hc k hlt
      clear hc
      generalize xs.getD k 0 = x at *
      generalize (xs.take k).sum = s at *
      go_wp2
      go_roundg (m - (k + 1))
      case measure => omega
      case rel => exact ⟨k + 1, by omega, by omega, by rw [HT.out], by go_num, rfl⟩
    · have hkm : k = m := by omega
      subst hkm
      have HT : Hid (xs.take k = xs) := List.take_of_length_le (by rw [HL.out]; omega)
      rw [HT.out, HS.out]
      have hne : (((n + 1 : Nat) : Int) == 0) = false := by simp; omega
      go_wp2
      clear hne
      go_loopg [6, 24] k (fun g s t wr => ∃ i : Nat, i ≤ k ∧ k - i ≤ g ∧ s = .int .i64 (shpSum (shp n) xs i) ∧ t = .int .i64 (i : Int) ∧ Below w.heap.size w wr)
      case atStart => exact ⟨0, Nat.zero_le _, by omega, rfl, rfl, Below.refl _ _⟩
      case round =>
        obtain ⟨i, hi, hg2, rfl, rfl, hbel⟩ := hrel
        have HB := hid hbel
        clear hbel
        have HX : Hid (∀ j, 0 ≤ shp n (xs.set j (xs.getD j 0 - 1)) ∧ shp n (xs.set j (xs.getD j 0 - 1)) ≤ 12 ^ n) := fun j => shp_bound n _ (by rw [List.length_set, HL.out]; exact hm)
        have hpw := pow12 (show n ≤ 12 by omega)
        have hpp : (0 : Int) ≤ 12 ^ n := Int.le_of_lt (Int.pow_pos (by decide))
        have hsb := shpSum_bound HX.out hpp i
        have hsb2 : shpSum (shp n) xs i ≤ 12 * 8916100448256 := Int.le_trans hsb.2 (Int.mul_le_mul (by omega) hpw hpp (by omega))
        have hsb1 := hsb.1
        clear hsb
        by_cases hlt : i < k
        · obtain ⟨b, o, rfl, hb, hc⟩ := HI.out.row (by omega)
          have HC := hid hc
          have HI2 := hid (HI.out.keep HB.out)
          have g1 : wr.cell? ⟨b, o + i, none⟩ = some (.int .i64 (xs.getD i 0)) := (HB.out.cell (p := ⟨b, o + i, none⟩) hb).trans (hc i hlt)
          have h0 := HP.out i
          have HNX : Hid (shpSum (shp n) xs (i + 1) = shpSum (shp n) xs i + (if cornerZ xs i then shp n (xs.set i (xs.getD i 0 - 1)) else 0)) := rfl
          have HXB := hid (HX.out i)
          have HPS : Hid (0 < xs.getD i 0 → Pos0 (xs.set i (xs.getD i 0 - 1)) ∧ (xs.set i (xs.getD i 0 - 1)).sum = (n : Int)) := fun hh => ⟨HP.out.set (by omega), by rw [sum_set (by rw [HL.out]; exact hlt), HS.out]; omega⟩
          have HX12 : Hid (xs.getD i 0 ≤ 12) := by
            have h1 := HP.out.take_le (xs.length - (i + 1)) (i + 1) (by rw [HL.out]; omega)
            have h2 := HP.out.take_sum i (by rw [HL.out]; omega)
            rw [sum_take_snoc (by rw [HL.out]; exact hlt), HS.out] at h1
            exact show xs.getD i 0 ≤ 12 by omega
          have HCZ : Hid (cornerZ xs i ↔ (0 < xs.getD i 0 ∧ (i + 1 = k ∨ xs.getD (i + 1) 0 < xs.getD i 0))) := by unfold cornerZ; rw [HL.out]; exact Iff.rfl
          clear hc
          generalize hx : xs.getD i 0 = x at *
          have HXX := hid hx
          clear hx
          have hx12 := HX12.out
          have hm1 : IntKind.i64.wrap ((k : Int) - 1) = ((k - 1 : Nat) : Int) := by rw [IntWalk.i64_in _ (by omega)]; omega
          by_cases hcz : cornerZ xs i
          · rw [if_pos hcz] at HNX
            have hx0 := (HCZ.out.1 hcz).1
            have hor := (HCZ.out.1 hcz).2
            have hgt : 0 < x := hx0
            by_cases hl : i + 1 = k
            · have hbe : ((i : Int) == ((k - 1 : Nat) : Int)) = true := by simp; omega
              go_wp2_with fail
              refine (clone_any _ k c xs _ HI2.out (by omega)).mono ?_
              rintro e w2 ⟨v2, rfl, ho2, hb2⟩
              obtain ⟨g2, cap2, rfl, hg2a, hg2b, hcap2⟩ := ho2.form (by rw [HL.out]; omega)
              have g3 := ho2.cell (j := i) (by rw [HL.out]; exact hlt)
              have f3 := ho2.frozen i
              rw [HXX.out] at g3
              have hst := ho2.set rfl i (x - 1)
              have hbs : Below wr.heap.size wr (w2.setCell ⟨g2, i, none⟩ (.int .i64 (x - 1))) := hb2.setCell hg2a _
              have HST := hid hst
              have HBS := hid hbs
              have hln := HL.out
              rw [hln] at hcap2 ⊢
              clear hst hbs ho2 hb2
              go_wp2_with fail
              rw [hln] at HST
              have hst := HST.out
              have hI5 : Ints (w2.setCell ⟨g2, i, none⟩ (.int .i64 (x - 1))) (some ⟨g2, 0, none⟩) k (xs.set i (x - 1)) := by
                obtain ⟨A', c', e', hI', _⟩ := hst.ints
                rw [List.length_set, hln] at e' hI'
                injection e' with e1 _ _
                subst e1
                exact hI'
              obtain ⟨hps1, hps2⟩ := HPS.out hx0
              refine (HIH.out _ k cap2 _ _ hI5 hm hps1 hps2 (by omega)).mono ?_
              rintro e w3 ⟨rfl, hb3⟩
              have HB3 := hid (below_step (below_step HB.out (Nat.le_refl _) HBS.out) (Nat.le_refl _) hb3)
              obtain ⟨hy1, hy2⟩ := HXB.out
              have HNY := HNX
              clear hb3 hps1 hps2 hI5 hst HST HBS HNX
              generalize shp n (xs.set i (x - 1)) = y at *
              generalize shpSum (shp n) xs i = z at *
              go_wp2
              go_roundg (k - (i + 1))
              case measure => omega
              case rel => exact ⟨i + 1, by omega, by omega, by rw [HNY.out], by go_num, HB3.out⟩
            · have hbe : ((i : Int) == ((k - 1 : Nat) : Int)) = false := by simp; omega
              have hnx : xs.getD (i + 1) 0 < x := by rcases hor with h | h; exact absurd h hl; exact h
              have hik : i + 1 < k := by omega
              have g1b : wr.cell? ⟨b, o + (i + 1), none⟩ = some (.int .i64 (xs.getD (i + 1) 0)) := (HB.out.cell (p := ⟨b, o + (i + 1), none⟩) hb).trans (HC.out (i + 1) (by omega))
              generalize xs.getD (i + 1) 0 = xn at *
              go_wp2_with fail
              refine (clone_any _ k c xs _ HI2.out (by omega)).mono ?_
              rintro e w2 ⟨v2, rfl, ho2, hb2⟩
              obtain ⟨g2, cap2, rfl, hg2a, hg2b, hcap2⟩ := ho2.form (by rw [HL.out]; omega)
              have g3 := ho2.cell (j := i) (by rw [HL.out]; exact hlt)
              have f3 := ho2.frozen i
              rw [HXX.out] at g3
              have hst := ho2.set rfl i (x - 1)
              have hbs : Below wr.heap.size wr (w2.setCell ⟨g2, i, none⟩ (.int .i64 (x - 1))) := hb2.setCell hg2a _
              have HST := hid hst
              have HBS := hid hbs
              have hln := HL.out
              rw [hln] at hcap2 ⊢
              clear hst hbs ho2 hb2
              go_wp2_with fail
              rw [hln] at HST
              have hst := HST.out
              have hI5 : Ints (w2.setCell ⟨g2, i, none⟩ (.int .i64 (x - 1))) (some ⟨g2, 0, none⟩) k (xs.set i (x - 1)) := by
                obtain ⟨A', c', e', hI', _⟩ := hst.ints
                rw [List.length_set, hln] at e' hI'
                injection e' with e1 _ _
                subst e1
                exact hI'
              obtain ⟨hps1, hps2⟩ := HPS.out hx0
              refine (HIH.out _ k cap2 _ _ hI5 hm hps1 hps2 (by omega)).mono ?_
              rintro e w3 ⟨rfl, hb3⟩
              have HB3 := hid (below_step (below_step HB.out (Nat.le_refl _) HBS.out) (Nat.le_refl _) hb3)
              obtain ⟨hy1, hy2⟩ := HXB.out
              have HNY := HNX
              clear hb3 hps1 hps2 hI5 hst HST HBS HNX
              generalize shp n (xs.set i (x - 1)) = y at *
              generalize shpSum (shp n) xs i = z at *
              go_wp2
              go_roundg (k - (i + 1))
              case measure => omega
              case rel => exact ⟨i + 1, by omega, by omega, by rw [HNY.out], by go_num, HB3.out⟩
          · rw [if_neg hcz, Int.add_zero] at HNX
            have hor : x ≤ 0 ∨ (i + 1 ≠ k ∧ x ≤ xs.getD (i + 1) 0) := by
              by_cases h1 : 0 < x
              · right
                refine ⟨fun h2 => hcz (HCZ.out.2 ⟨h1, .inl h2⟩), ?_⟩
                by_cases h3 : xs.getD (i + 1) 0 < x
                · exact absurd (HCZ.out.2 ⟨h1, .inr h3⟩) hcz
                · omega
              · left; omega
            generalize shpSum (shp n) xs i = z at *
            by_cases h1 : 0 < x
            · have h2 : i + 1 ≠ k ∧ x ≤ xs.getD (i + 1) 0 := by omega
              have hik : i + 1 < k := by omega
              have hbe : ((i : Int) == ((k - 1 : Nat) : Int)) = false := by simp; omega
              have g1b : wr.cell? ⟨b, o + (i + 1), none⟩ = some (.int .i64 (xs.getD (i + 1) 0)) := (HB.out.cell (p := ⟨b, o + (i + 1), none⟩) hb).trans (HC.out (i + 1) (by omega))
              have hxn : ¬ xs.getD (i + 1) 0 < x := by omega
              clear h2 hor
              generalize xs.getD (i + 1) 0 = xn at *
              go_wp2
              go_roundg (k - (i + 1))
              case measure => omega
              case rel => exact ⟨i + 1, by omega, by omega, by rw [HNX.out], by go_num, HB.out⟩
            · clear hor
              go_wp2
              go_roundg (k - (i + 1))
              case measure => omega
              case rel => exact ⟨i + 1, by omega, by omega, by rw [HNX.out], by go_num, HB.out⟩
        · have hik : i = k := by omega
          subst hik
          generalize hz : shpSum (shp n) xs i = z at *
          have HZ := hid hz
          clear hz
          go_wp2
          go_ret
          refine ⟨?_, HB.out⟩
          rw [show shp (n + 1) xs = shpSum (shp n) xs xs.length from rfl, HL.out, HZ.out]
          rfl

theorem shapesOf_to : ∀ n, ShapesTo n
  | 0 => shapesOf_zero
  | n + 1 => shapesOf_step n (shapesOf_to n)

/-! ### The same number -/
theorem shpSum_congr {f g : List Int → Int} {xs ys : List Int} : ∀ i, (∀ j, j < i → (cornerZ xs j ↔ cornerZ ys j) ∧ (cornerZ xs j → f (xs.set j (xs.getD j 0 - 1)) = g (ys.set j (ys.getD j 0 - 1)))) → shpSum f xs i = shpSum g ys i
  | 0, _ => rfl
  | i + 1, h => by
    rw [shpSum, shpSum, shpSum_congr i (fun j hj => h j (by omega))]
    obtain ⟨h1, h2⟩ := h i (by omega)
    by_cases hc : cornerZ xs i
    · rw [if_pos hc, if_pos (h1.1 hc), h2 hc]
    · rw [if_neg hc, if_neg (fun h => hc (h1.2 h))]
theorem getD_snoc0 (xs : List Int) (j : Nat) : (xs ++ [0]).getD j 0 = xs.getD j 0 := by
  rw [List.getD_eq_getElem?_getD, List.getD_eq_getElem?_getD]
  rcases Nat.lt_or_ge j xs.length with h | h
  · rw [List.getElem?_append_left h]
  · rw [List.getElem?_append_right h, List.getElem?_eq_none h]
    rcases Nat.eq_zero_or_pos (j - xs.length) with h0 | h0
    · rw [h0]; rfl
    · rw [List.getElem?_eq_none (by simp; omega)]
/-- A row of no cells counts nothing. -/
theorem shp_snoc0 : ∀ (n : Nat) (xs : List Int), shp n (xs ++ [0]) = shp n xs
  | 0, _ => rfl
  | n + 1, xs => by
    rw [shp, shp, List.length_append, List.length_singleton, shpSum]
    have hno : ¬ cornerZ (xs ++ [0]) xs.length := by
      intro h
      have h1 := h.1
      rw [getD_snoc0, List.getD_eq_getElem?_getD, List.getElem?_eq_none (Nat.le_refl _)] at h1
      simp at h1
    rw [if_neg hno, Int.add_zero]
    refine shpSum_congr xs.length fun j hj => ⟨?_, fun hc => ?_⟩
    · unfold cornerZ
      rw [getD_snoc0, getD_snoc0, List.length_append, List.length_singleton]
      constructor
      · rintro ⟨h1, h2⟩
        refine ⟨h1, ?_⟩
        rcases h2 with h2 | h2
        · omega
        · exact .inr h2
      · rintro ⟨h1, h2⟩
        refine ⟨h1, .inr ?_⟩
        rcases h2 with h2 | h2
        · rw [List.getD_eq_getElem?_getD, List.getElem?_eq_none (by omega)]
          simpa using h1
        · exact h2
    · rw [getD_snoc0, List.set_append_left _ _ hj]
      exact shp_snoc0 n _

theorem cntGood_at {xs : List Int} (h : IsShape xs) : cntGood xs = true := List.all_eq_true.1 cnts_all xs h.mem
theorem cntS_bound {xs : List Int} (h : IsShape xs) : 1 ≤ cntS xs ∧ cntS xs ≤ 7700 := by
  have := cntGood_at h
  unfold cntGood at this
  simp only [Bool.and_eq_true, decide_eq_true_eq] at this
  exact this.1.1
theorem cntS_less {xs : List Int} (h : IsShape xs) (h0 : xs ≠ []) : cntS xs = lessSum xs xs.length := by
  have := cntGood_at h
  unfold cntGood at this
  simp only [Bool.and_eq_true, Bool.or_eq_true, decide_eq_true_eq] at this
  rcases this.1.2 with h1 | h1
  · exact absurd h1 h0
  · exact h1
theorem less_shape {xs : List Int} (h : IsShape xs) {i : Nat} (hi : i < xs.length) (hc : corner xs i = true) : IsShape (lessAt xs i) ∧ (lessAt xs i).sum + 1 = xs.sum := by
  have := cntGood_at h
  unfold cntGood at this
  rw [Bool.and_eq_true] at this
  have h2 := List.all_eq_true.1 this.2 i (by simpa using hi)
  rw [hc] at h2
  simp only [Bool.not_true, Bool.false_or, decide_eq_true_eq] at h2
  exact ⟨isShape_of h2.1, h2.2⟩
theorem corner_iff {xs : List Int} (h : IsShape xs) {i : Nat} (hi : i < xs.length) : cornerZ xs i ↔ corner xs i = true := by
  have := h.part.ge hi
  unfold cornerZ corner
  rw [Bool.or_eq_true, decide_eq_true_eq, decide_eq_true_eq]
  constructor
  · exact fun h => h.2
  · exact fun h => ⟨by omega, h⟩

theorem lessSum_shp {xs : List Int} {n : Nat} : ∀ i, (∀ j, j < i → (cornerZ xs j ↔ corner xs j = true) ∧ (cornerZ xs j → shp n (xs.set j (xs.getD j 0 - 1)) = cntS (lessAt xs j))) → shpSum (shp n) xs i = lessSum xs i
  | 0, _ => rfl
  | i + 1, h => by
    rw [shpSum, lessSum, lessSum_shp i (fun j hj => h j (by omega))]
    obtain ⟨h1, h2⟩ := h i (by omega)
    by_cases hc : cornerZ xs i
    · rw [if_pos hc, if_pos (h1.1 hc), h2 hc]
    · rw [if_neg hc, if_neg (fun h => hc (h1.2 h))]
/-- A corner of one cell is the last row. -/
theorem corner_last {xs : List Int} (h : IsShape xs) {i : Nat} (hi : i < xs.length) (hc : cornerZ xs i) (h1 : xs.getD i 0 = 1) : i + 1 = xs.length := by
  rcases hc.2 with h2 | h2
  · exact h2
  · rcases Nat.lt_or_ge (i + 1) xs.length with h3 | h3
    · have := h.part.ge h3
      omega
    · omega
theorem shp_cnt : ∀ (n : Nat) (xs : List Int), IsShape xs → xs.sum = (n : Int) → shp n xs = cntS xs
  | 0, xs, h, hs => by
    have : xs = [] := by
      rcases Nat.eq_zero_or_pos xs.length with h0 | h0
      · exact List.eq_nil_of_length_eq_zero h0
      · have h1 := h.part.sum_take xs.length
        rw [List.take_of_length_le (Nat.le_refl _)] at h1
        omega
    subst this
    decide
  | n + 1, xs, h, hs => by
    have h0 : xs ≠ [] := by
      rintro rfl
      simp at hs
      omega
    rw [cntS_less h h0, shp]
    refine lessSum_shp _ fun j hj => ⟨corner_iff h hj, fun hc => ?_⟩
    obtain ⟨l1, l2⟩ := less_shape h hj ((corner_iff h hj).1 hc)
    rw [← shp_cnt n _ l1 (by omega)]
    unfold lessAt
    by_cases e : xs.getD j 0 = 1
    · rw [if_pos e, e]
      have hl := corner_last h hj hc e
      have : xs.set j (1 - 1) = xs.take j ++ [0] := by
        rw [List.set_eq_take_append_cons_drop, if_pos hj, List.drop_of_length_le (by omega)]
        rfl
      rw [this]
      exact shp_snoc0 n _
    · rw [if_neg e]

theorem shapesOf_any (A : Option Addr) (m c : Nat) (xs : List Int) (w : World) (h : Ints w A m xs) (hp : IsShape xs) :
    Calls Try.prog 20 #[.slice A m c] w fun e w' => e = .returned (.int .i64 (cntS xs)) ∧ Below w.heap.size w w' := by
  have h1 := hp.sum_le
  have h2 := hp.part.sum_take xs.length
  rw [List.take_of_length_le (Nat.le_refl _)] at h2
  obtain ⟨n, hn⟩ := Int.eq_ofNat_of_zero_le (show 0 ≤ xs.sum by omega)
  rw [← shp_cnt n xs hp hn]
  refine shapesOf_to n A m c xs w h (by rw [← h.len]; omega) (fun j => ?_) hn (by omega)
  rcases Nat.lt_or_ge j xs.length with h3 | h3
  · have := hp.part.ge h3
    omega
  · rw [List.getD_eq_getElem?_getD, List.getElem?_eq_none h3]
    simp

end Go.Proofs.Yteffbhdhldilnaa
