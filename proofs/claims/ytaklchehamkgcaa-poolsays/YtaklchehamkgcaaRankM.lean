/-
  Orders and their numbers: plain mathematics. Nothing of the program is proved here.
-/
import Derived.Test.YtaklchehamkgcaaGrp
import Derived.Test.YtaklchehamkgcaaFct
import Derived.Test.YtaklchehamkgcaaCmp
namespace Go.Proofs.Ytaklchehamkgcaa
open Go.RowKit

/-- How many of l are less than x. -/
def less (x : Int) (l : List Int) : Nat := l.countP (fun y => decide (y < x))
/-- Lehmer's code. -/
def codeL : List Int → List Int
  | [] => []
  | x :: l => (less x l : Int) :: codeL l
/-- The number of an order. -/
def rk : List Int → Nat
  | [] => 0
  | x :: l => less x l * fact l.length + rk l

theorem less_le (x : Int) (l : List Int) : less x l ≤ l.length := List.countP_le_length
theorem less_cons (x y : Int) (l : List Int) : less x (y :: l) = less x l + if y < x then 1 else 0 := by
  unfold less
  rw [List.countP_cons]
  by_cases h : y < x <;> simp [h]
theorem less_self (x : Int) (l : List Int) : less x (x :: l) = less x l := by rw [less_cons, if_neg (by omega)]; rfl
theorem less_append (x : Int) (l m : List Int) : less x (l ++ m) = less x l + less x m := List.countP_append
theorem less_perm {x : Int} {l l' : List Int} (h : l.Perm l') : less x l = less x l' := h.countP_eq _
theorem less_all {x : Int} {l : List Int} (h : ∀ y, y ∈ l → y < x) : less x l = l.length := by
  unfold less
  rw [List.countP_eq_length]
  intro y hy
  simpa using h y hy
theorem less_none {x : Int} {l : List Int} (h : ∀ y, y ∈ l → x ≤ y) : less x l = 0 := by
  unfold less
  rw [List.countP_eq_zero]
  intro y hy
  have := h y hy
  simp
  omega
theorem less_mono {x y : Int} (h : x ≤ y) (l : List Int) : less x l ≤ less y l := by
  refine List.countP_mono_left fun z _ hz => ?_
  have : z < x := by simpa using hz
  simp
  omega
theorem less_lt {x y : Int} (h : x < y) : ∀ {l : List Int}, x ∈ l → less x l < less y l
  | z :: l, hz => by
    rw [less_cons, less_cons]
    rcases List.mem_cons.1 hz with rfl | hz
    · rw [if_neg (by omega), if_pos h]
      have := less_mono (Int.le_of_lt h) l
      omega
    · have ih := less_lt h hz
      by_cases h1 : z < x
      · rw [if_pos h1, if_pos (by omega)]
        omega
      · rw [if_neg h1]
        split <;> omega

theorem length_codeL : ∀ l : List Int, (codeL l).length = l.length
  | [] => rfl
  | _ :: l => by simp [codeL, length_codeL l]
theorem getD_codeL : ∀ (l : List Int) (i : Nat), i < l.length → (codeL l).getD i 0 = (less (l.getD i 0) (l.drop (i + 1)) : Int)
  | [], _, h => absurd h (Nat.not_lt_zero _)
  | _ :: _, 0, _ => by simp [codeL]
  | _ :: l, i + 1, h => by
    have := getD_codeL l i (by simpa using h)
    simpa [codeL] using this

theorem rk_lt : ∀ l : List Int, rk l < fact l.length
  | [] => by decide
  | x :: l => by
    have ih := rk_lt l
    have h := Nat.mul_le_mul_right (fact l.length) (less_le x l)
    show less x l * fact l.length + rk l < (l.length + 1) * fact l.length
    rw [Nat.succ_mul]
    omega

/-! ### Digits -/

def val : List Int → Nat
  | [] => 0
  | d :: l => d.toNat * fact l.length + val l
theorem val_codeL : ∀ l : List Int, val (codeL l) = rk l
  | [] => rfl
  | x :: l => by simp only [codeL, val, rk, length_codeL, val_codeL l, Int.toNat_natCast]

/-- What the loop over the digits gathers. -/
theorem val_fold : ∀ (l : List Int) (acc : Nat), (∀ d, d ∈ l → 0 ≤ d) → (l.foldl (fun (a : Nat × Nat) d => (a.1 * a.2 + d.toNat, a.2 - 1)) (acc, l.length)).1 = acc * fact l.length + val l
  | [], acc, _ => by simp [fact, val]
  | d :: l, acc, h => by
    have ih := val_fold l (acc * (l.length + 1) + d.toNat) (fun x hx => h x (List.mem_cons_of_mem _ hx))
    rw [List.foldl_cons]
    show (l.foldl _ (acc * (l.length + 1) + d.toNat, l.length + 1 - 1)).1 = _
    rw [Nat.add_sub_cancel, ih]
    show _ = acc * ((l.length + 1) * fact l.length) + (d.toNat * fact l.length + val l)
    rw [Nat.add_mul, Nat.mul_assoc]
    omega

/-- The value of the first k digits, as the loop has it. -/
def part (l : List Int) : Nat → Nat
  | 0 => 0
  | k + 1 => part l k * (l.length - k) + (l.getD k 0).toNat
theorem part_val (l : List Int) : ∀ k, k ≤ l.length → part l k * fact (l.length - k) + val (l.drop k) = val l
  | 0, _ => by simp [part]
  | k + 1, h => by
    have ih := part_val l k (by omega)
    rw [List.drop_eq_getElem_cons (by omega)] at ih
    have e : l.length - k = (l.length - (k + 1)) + 1 := by omega
    have hg : l.getD k 0 = l[k] := by rw [List.getD_eq_getElem?_getD, List.getElem?_eq_getElem (by omega)]; rfl
    have hl : (l.drop (k + 1)).length = l.length - (k + 1) := by simp
    simp only [val, hl] at ih
    rw [← ih]
    simp only [part, hg]
    rw [Nat.add_mul, Nat.mul_assoc]
    rw [e]
    simp only [fact]
    omega
theorem part_le (l : List Int) {k : Nat} (hk : k ≤ l.length) : part l k ≤ val l := by
  have h := part_val l k hk
  have := Nat.le_mul_of_pos_right (part l k) (fact_pos (l.length - k))
  omega
theorem part_end (l : List Int) : part l l.length = val l := by
  have h := part_val l l.length (Nat.le_refl _)
  rw [Nat.sub_self, List.drop_of_length_le (Nat.le_refl _)] at h
  simpa [fact, val] using h

def IsDig : List Int → Prop
  | [] => True
  | d :: l => 0 ≤ d ∧ d ≤ l.length ∧ IsDig l
theorem isDig_codeL : ∀ l : List Int, IsDig (codeL l)
  | [] => trivial
  | x :: l => ⟨by omega, by have := less_le x l; rw [length_codeL]; omega, isDig_codeL l⟩
theorem IsDig.getD : ∀ {l : List Int}, IsDig l → ∀ i, i < l.length → 0 ≤ l.getD i 0 ∧ l.getD i 0 < l.length - i
  | _ :: _, h, 0, _ => by have := h.1; have := h.2.1; simp; omega
  | _ :: l, h, i + 1, hi => by
    have := IsDig.getD h.2.2 i (by simpa using hi)
    simp
    simp at this
    omega

/-- The last m digits of k. -/
def digL : Nat → Nat → List Int
  | 0, _ => []
  | m + 1, k => ((k / fact m % (m + 1) : Nat) : Int) :: digL m k
theorem length_digL : ∀ m k, (digL m k).length = m
  | 0, _ => rfl
  | m + 1, k => by simp [digL, length_digL m k]
theorem isDig_digL : ∀ m k, IsDig (digL m k)
  | 0, _ => trivial
  | m + 1, k => ⟨by omega, by have := Nat.mod_lt (k / fact m) (show 0 < m + 1 by omega); rw [length_digL]; omega, isDig_digL m k⟩
theorem getD_digL : ∀ m k i, i < m → (digL m k).getD i 0 = ((k / fact (m - 1 - i) % (m - i) : Nat) : Int)
  | m + 1, k, 0, _ => by simp [digL]
  | m + 1, k, i + 1, h => by
    have := getD_digL m k i (by omega)
    simp only [digL, List.getD_cons_succ, this]
    rw [show m + 1 - 1 - (i + 1) = m - 1 - i by omega, show m + 1 - (i + 1) = m - i by omega]
theorem val_digL : ∀ m k, val (digL m k) = k % fact m
  | 0, k => by simp [digL, val, fact, Nat.mod_one]
  | m + 1, k => by
    simp only [digL, val, length_digL, val_digL m k, fact, Int.toNat_natCast]
    rw [Nat.mul_comm (m + 1) (fact m), Nat.mod_mul, Nat.mul_comm (fact m)]
    omega
theorem fact_step (k j : Nat) : k / fact j / (j + 1) = k / fact (j + 1) := by
  rw [Nat.div_div_eq_div_mul, Nat.mul_comm (fact j)]
  rfl

/-! ### By digits out of what is left -/

def pick : List Int → List Int → List Int
  | _, [] => []
  | left, d :: ds => left.getD d.toNat 0 :: pick (left.eraseIdx d.toNat) ds
theorem length_pick : ∀ left ds, (pick left ds).length = ds.length
  | _, [] => rfl
  | left, d :: ds => by simp [pick, length_pick _ ds]
theorem perm_erase : ∀ {l : List Int} {i : Nat}, i < l.length → (l.getD i 0 :: l.eraseIdx i).Perm l
  | a :: l, 0, _ => by simp
  | a :: l, i + 1, h => by
    have ih := perm_erase (l := l) (i := i) (by simpa using h)
    rw [List.getD_cons_succ, List.eraseIdx_cons_succ]
    exact (List.Perm.swap _ _ _).trans (ih.cons a)
theorem pick_perm : ∀ {ds left : List Int}, left.length = ds.length → IsDig ds → (pick left ds).Perm left
  | [], left, hl, _ => by
    have : left = [] := List.eq_nil_of_length_eq_zero hl
    subst this
    exact .refl _
  | d :: ds, left, hl, h => by
    have hd : d.toNat < left.length := by have := h.1; have := h.2.1; simp at hl; omega
    have hl2 : (left.eraseIdx d.toNat).length = ds.length := by rw [List.length_eraseIdx, if_pos hd]; simp at hl; omega
    exact ((pick_perm hl2 h.2.2).cons _).trans (perm_erase hd)
theorem less_sorted : ∀ {l : List Int} {i : Nat}, l.Pairwise (· < ·) → i < l.length → less (l.getD i 0) l = i
  | a :: l, 0, h, _ => by
    rw [List.getD_cons_zero, less_self]
    exact less_none fun y hy => Int.le_of_lt ((List.pairwise_cons.1 h).1 y hy)
  | a :: l, i + 1, h, hi => by
    have hi' : i < l.length := by simpa using hi
    rw [List.getD_cons_succ, less_cons, less_sorted (List.pairwise_cons.1 h).2 hi', if_pos ((List.pairwise_cons.1 h).1 _ (getD_mem hi'))]
theorem codeL_pick : ∀ {ds left : List Int}, left.Pairwise (· < ·) → left.length = ds.length → IsDig ds → codeL (pick left ds) = ds
  | [], left, _, _, _ => rfl
  | d :: ds, left, hs, hl, h => by
    have hd : d.toNat < left.length := by have := h.1; have := h.2.1; simp at hl; omega
    have hl2 : (left.eraseIdx d.toNat).length = ds.length := by rw [List.length_eraseIdx, if_pos hd]; simp at hl; omega
    have hs2 : (left.eraseIdx d.toNat).Pairwise (· < ·) := hs.sublist (List.eraseIdx_sublist _ _)
    simp only [pick, codeL, codeL_pick hs2 hl2 h.2.2]
    congr 1
    rw [less_perm (pick_perm hl2 h.2.2), ← less_self, less_perm (perm_erase hd), less_sorted hs hd]
    have := h.1
    omega

theorem sorted_iotaP (n : Nat) : (iota n).Pairwise (· < ·) := by
  unfold iota
  rw [List.pairwise_map]
  exact List.pairwise_lt_range.imp (fun h => by omega)

/-- The order with the number k. -/
def atL (n k : Nat) : List Int := pick (iota n) (digL n k)
theorem length_atL (n k : Nat) : (atL n k).length = n := by rw [atL, length_pick, length_digL]
theorem isPerm_atL (n k : Nat) : IsPerm (atL n k) := by
  unfold IsPerm
  rw [length_atL]
  exact pick_perm (by rw [length_iota, length_digL]) (isDig_digL n k)
theorem rk_atL {n k : Nat} (h : k < fact n) : rk (atL n k) = k := by
  rw [← val_codeL, atL, codeL_pick (sorted_iotaP n) (by rw [length_iota, length_digL]) (isDig_digL n k), val_digL, Nat.mod_eq_of_lt h]

/-! ### The order of orders -/

theorem rk_first {x y : Int} {l m : List Int} (hp : (x :: l).Perm (y :: m)) (h : x < y) : rk (x :: l) < rk (y :: m) := by
  have hl : l.length = m.length := by simpa using hp.length_eq
  have h1 : less x l < less y m := by
    rw [← less_self x l, ← less_self y m, less_perm hp]
    exact less_lt h (hp.mem_iff.1 (List.mem_cons_self ..))
  have h2 := rk_lt l
  have h3 := Nat.mul_le_mul_right (fact l.length) (show less x l + 1 ≤ less y m by omega)
  rw [Nat.succ_mul] at h3
  simp only [rk, ← hl]
  omega
theorem rk_cmp : ∀ {l m : List Int}, l.Perm m → (l = m ∧ cmpL l m = 0) ∨ (cmpL l m = -1 ∧ rk l < rk m) ∨ (cmpL l m = 1 ∧ rk m < rk l)
  | [], m, h => by
    have : m = [] := List.nil_perm.1 h
    subst this
    exact .inl ⟨rfl, rfl⟩
  | x :: l, [], h => absurd h.length_eq (by simp)
  | x :: l, y :: m, h => by
    simp only [cmpL]
    by_cases h1 : x < y
    · rw [if_pos h1]
      exact .inr (.inl ⟨rfl, rk_first h h1⟩)
    · rw [if_neg h1]
      by_cases h2 : y < x
      · rw [if_pos h2]
        exact .inr (.inr ⟨rfl, rk_first h.symm h2⟩)
      · rw [if_neg h2]
        have e : x = y := by omega
        subst e
        have hp := h.cons_inv
        have hl := hp.length_eq
        have hx := less_perm (x := x) hp
        simp only [rk, hl, hx]
        rcases rk_cmp hp with ⟨e, h0⟩ | ⟨h0, h3⟩ | ⟨h0, h3⟩
        · exact .inl ⟨by rw [e], h0⟩
        · exact .inr (.inl ⟨h0, by omega⟩)
        · exact .inr (.inr ⟨h0, by omega⟩)
theorem rk_inj {l m : List Int} (h : l.Perm m) (e : rk l = rk m) : l = m := by
  rcases rk_cmp h with h | h | h
  · exact h.1
  · omega
  · omega
theorem cmp_lt {l m : List Int} (h : l.Perm m) : cmpL l m < 0 ↔ rk l < rk m := by
  rcases rk_cmp h with ⟨rfl, h⟩ | h | h
  · omega
  · omega
  · omega
theorem IsPerm.perm {a b : List Int} (ha : IsPerm a) (hb : IsPerm b) (hl : a.length = b.length) : a.Perm b := by
  unfold IsPerm at ha hb
  rw [hl] at ha
  exact ha.trans hb.symm
theorem atL_rk {p : List Int} (h : IsPerm p) : atL p.length (rk p) = p :=
  rk_inj ((isPerm_atL _ _).perm h (length_atL _ _)) (rk_atL (rk_lt p))

/-! ### The next one -/

theorem rk_falls : ∀ {l : List Int}, l.Pairwise (· > ·) → rk l + 1 = fact l.length
  | [], _ => rfl
  | x :: l, h => by
    have ih := rk_falls (List.pairwise_cons.1 h).2
    simp only [rk, List.length_cons, fact]
    rw [less_all (fun y hy => (List.pairwise_cons.1 h).1 y hy), Nat.succ_mul]
    omega
theorem rk_rises : ∀ {l : List Int}, l.Pairwise (· < ·) → rk l = 0
  | [], _ => rfl
  | x :: l, h => by
    simp only [rk]
    rw [less_none (fun y hy => Int.le_of_lt ((List.pairwise_cons.1 h).1 y hy)), rk_rises (List.pairwise_cons.1 h).2]
    omega
theorem rk_behind : ∀ (pre : List Int) {s s' : List Int}, s.Perm s' → rk (pre ++ s) + rk s' = rk (pre ++ s') + rk s
  | [], s, s', _ => by simp; omega
  | x :: pre, s, s', h => by
    have ih := rk_behind pre h
    have hp : (pre ++ s).Perm (pre ++ s') := h.append_left _
    simp only [List.cons_append, rk]
    rw [less_perm hp, hp.length_eq]
    omega
theorem next_core {x y : Int} {u v : List Int} (hf : (u ++ y :: v).Pairwise (· > ·)) (hxy : x < y) (hv : ∀ z, z ∈ v → z < x) :
    rk (y :: (u ++ x :: v).reverse) = rk (x :: (u ++ y :: v)) + 1 := by
  have hf1 := List.pairwise_append.1 hf
  have hf2 := List.pairwise_cons.1 hf1.2.1
  have huy : ∀ z, z ∈ u → y < z := fun z hz => hf1.2.2 z hz y (List.mem_cons_self ..)
  have h1 : less x (u ++ y :: v) = v.length := by
    rw [less_append, less_cons, less_none (fun z hz => by have := huy z hz; omega), less_all hv, if_neg (by omega)]
    omega
  have h2 : less y ((u ++ x :: v).reverse) = v.length + 1 := by
    rw [less_perm (List.reverse_perm _), less_append, less_cons, less_none (fun z hz => by have := huy z hz; omega), less_all (fun z hz => by have := hv z hz; omega), if_pos hxy]
    omega
  have h3 : (u ++ x :: v).reverse.Pairwise (· < ·) := by
    rw [List.pairwise_reverse]
    refine List.pairwise_append.2 ⟨hf1.1, List.pairwise_cons.2 ⟨fun z hz => hv z hz, hf2.2⟩, fun a ha b hb => ?_⟩
    rcases List.mem_cons.1 hb with rfl | hb
    · have := huy a ha; show b < a; omega
    · have := huy a ha; have := hv b hb; show b < a; omega
  have h4 := rk_falls hf
  have hl : ((u ++ x :: v).reverse).length = (u ++ y :: v).length := by simp; omega
  simp only [rk]
  rw [h1, h2, rk_rises h3, hl, Nat.succ_mul, ← h4]
  omega

/-! ### The other way round -/

theorem rk_turned {n : Int} : ∀ {l : List Int}, l.Nodup → rk l + rk (l.map (fun v => n - v)) + 1 = fact l.length
  | [], _ => rfl
  | x :: l, h => by
    have hn := List.nodup_cons.1 h
    have ih := rk_turned (n := n) hn.2
    have e : less x l + less (n - x) (l.map (fun v => n - v)) = l.length := by
      clear ih h
      have : x ∉ l := hn.1
      clear hn
      induction l with
      | nil => rfl
      | cons y l ih =>
        have hy : y ≠ x := fun e => this (by rw [e]; exact List.mem_cons_self ..)
        have ih := ih (fun h => this (List.mem_cons_of_mem _ h))
        rw [List.map_cons, less_cons, less_cons, List.length_cons]
        by_cases h1 : y < x
        · rw [if_pos h1, if_neg (by omega)]; omega
        · rw [if_neg h1, if_pos (by omega)]; omega
    simp only [List.map_cons, rk, List.length_map, List.length_cons, fact]
    rw [← ih] at *
    have h2 : less x l * (rk l + rk (l.map fun v => n - v) + 1) + less (n - x) (l.map fun v => n - v) * (rk l + rk (l.map fun v => n - v) + 1) = l.length * (rk l + rk (l.map fun v => n - v) + 1) := by rw [← Nat.add_mul, e]
    rw [Nat.succ_mul]
    omega

/-! ### By the first number -/

/-- What is left behind the first number, made an order. -/
def shut (x y : Int) : Int := if x < y then y - 1 else y
theorem rk_map {f : Int → Int} : ∀ {l : List Int}, (∀ a, a ∈ l → ∀ b, b ∈ l → (f a < f b ↔ a < b)) → rk (l.map f) = rk l
  | [], _ => rfl
  | x :: l, h => by
    have ih := rk_map (l := l) (fun a ha b hb => h a (List.mem_cons_of_mem _ ha) b (List.mem_cons_of_mem _ hb))
    have e : less (f x) (l.map f) = less x l := by
      unfold less
      rw [List.countP_map]
      refine List.countP_congr fun a ha => ?_
      have := h a (List.mem_cons_of_mem _ ha) x (List.mem_cons_self ..)
      simpa using this
    simp only [List.map_cons, rk, List.length_map, ih, e]
theorem rk_shut {x : Int} {l : List Int} (h : x ∉ l) : rk (l.map (shut x)) = rk l := by
  refine rk_map fun a ha b hb => ?_
  have h1 : a ≠ x := fun e => h (e ▸ ha)
  have h2 : b ≠ x := fun e => h (e ▸ hb)
  unfold shut
  split <;> split <;> omega
theorem less_perm_head {x : Int} {l : List Int} (h : IsPerm (x :: l)) : (less x l : Int) = x := by
  have hx := h.range (List.mem_cons_self ..)
  have e : less x (x :: l) = less x (iota (x :: l).length) := less_perm h
  obtain ⟨m, hm⟩ := Int.eq_ofNat_of_zero_le hx.1
  have h1 := less_sorted (sorted_iotaP (x :: l).length) (i := m) (by rw [length_iota]; omega)
  rw [getD_iota (by omega)] at h1
  rw [less_self] at e
  subst hm
  rw [e, h1]
theorem isPerm_shut {x : Int} {l : List Int} (h : IsPerm (x :: l)) : IsPerm (l.map (shut x)) := by
  have hn := List.nodup_cons.1 h.nodup
  have hx := h.range (List.mem_cons_self ..)
  refine isPerm_of_nodup ?_ ?_
  · unfold List.Nodup
    rw [List.pairwise_map]
    refine hn.2.imp_of_mem fun {a b} ha hb hab => ?_
    have h1 : a ≠ x := fun e => hn.1 (e ▸ ha)
    have h2 : b ≠ x := fun e => hn.1 (e ▸ hb)
    unfold shut
    split <;> split <;> omega
  · intro y hy
    obtain ⟨a, ha, rfl⟩ := List.mem_map.1 hy
    have h1 : a ≠ x := fun e => hn.1 (e ▸ ha)
    have h2 := h.range (List.mem_cons_of_mem _ ha)
    simp only [List.length_cons, List.length_map] at *
    unfold shut
    split <;> omega

end Go.Proofs.Ytaklchehamkgcaa
