/-
  slices.Compact and slices.Delete at []int, off the library's shelf; slices.ContainsFunc with the two looks for an even number.
-/
import Derived.Test.YteegddpoekphoaaDoorPartU
import Derived.Test.YteegddpoekphoaaDoorLayB
import Derived.Test.YteegddpoekphoaaDoorLayC
import Derived.Sort.OwnSortedInts
namespace Go.Proofs.YteegddpoekphoaaDoor
open Go.RowKit Go.Sort

/-- No number beside its like. -/
def NoTwinI (xs : List Int) : Prop := ∀ j, 0 < j → j < xs.length → xs.getD j 0 ≠ xs.getD (j - 1) 0
theorem noTwinI_ofN {ns : List Nat} : NoTwinI (ofN ns) ↔ NoTwin ns ns.length := by
  constructor
  · intro h j h0 h1 e
    refine h j h0 (by rw [length_ofN]; exact h1) ?_
    rw [getD_ofN, getD_ofN, e]
  · intro h j h0 h1 e
    rw [length_ofN] at h1
    rw [getD_ofN, getD_ofN] at e
    exact h j h0 h1 (Int.ofNat_inj.1 e)

theorem get_bang {xs : List Int} {j : Nat} (h : j < xs.length) : xs.toArray[j]! = xs.getD j 0 := by
  rw [getElem!_pos xs.toArray j (by simpa using h), List.getD_eq_getElem?_getD, List.getElem?_eq_getElem h]
  rfl
theorem compact_len_le (xs : List Int) : (Lib.compact xs).length ≤ xs.length := by
  unfold Lib.compact Lib.compactUpTo
  rw [List.length_map]
  exact Nat.le_trans (List.length_filter_le _ _) (by simp)
theorem compact_len (xs : List Int) : (Lib.compact xs).length = xs.length ↔ NoTwinI xs := by
  have e : (Lib.compact xs).length = ((List.range xs.length).filter (Lib.keeps xs.toArray)).length := by
    unfold Lib.compact Lib.compactUpTo
    rw [List.length_map]
  rw [e]
  have e2 : ((List.range xs.length).filter (Lib.keeps xs.toArray)).length = xs.length ↔ ∀ j ∈ List.range xs.length, Lib.keeps xs.toArray j = true := by
    have := List.length_filter_eq_length_iff (p := Lib.keeps xs.toArray) (l := List.range xs.length)
    rwa [List.length_range] at this
  rw [e2]
  constructor
  · intro h j h0 h1 heq
    have := h j (List.mem_range.2 h1)
    rw [Lib.keeps_neg h0 (by rw [get_bang h1, get_bang (by omega)]; exact heq)] at this
    cases this
  · intro h j hj
    rw [List.mem_range] at hj
    rcases Nat.eq_zero_or_pos j with h0 | h0
    · exact Lib.keeps_lt_one _ j (by omega)
    · exact Lib.keeps_pos (by rw [get_bang hj, get_bang (by omega)]; exact h j h0 hj)

/-- What Compact hands back: how many there are left. -/
def RetLess (w : World) (v : Value) (xs : List Int) (e : Ending) (w' : World) : Prop := ∃ A m c, e = .returned (.slice A m c) ∧ m ≤ xs.length ∧ (m = xs.length ↔ NoTwinI xs) ∧ w.grownBy w' v.ownBlock
theorem compact_any (base : Nat) (v : Value) (xs : List Int) (w : World) (h : OwnInts w base v xs) :
    Calls Tryd.prog 14 #[v] w (RetLess w v xs) := by
  have h2 := h.2
  rcases h2 with ⟨rfl, h0⟩ | ⟨g, cap, cur, rfl, hb, hg, h1, h2, h3, h4⟩
  · have hx : xs = [] := List.eq_nil_of_length_eq_zero h0
    subst hx
    refine (Any.slices_Compact_int_empty laysn20 none 0 w).mono ?_
    rintro e w' ⟨he, rfl⟩
    exact ⟨none, 0, 0, he, Nat.le_refl _, ⟨fun _ j _ h1 => by simp at h1, fun _ => rfl⟩, ⟨rfl, rfl, rfl, Nat.le_refl _, fun _ _ _ => rfl⟩⟩
  · have hT : cur.toList.take xs.length = xs.map (Value.int .i64) := by rwa [Nat.mul_one] at h4
    refine (Any.slices_Compact_int laysn20 g 0 cap xs w (holds_of_blockI hg hT) (by unfold maxLen at h2; omega) h1).mono ?_
    rintro e w' ⟨he, n, rfl⟩
    refine ⟨_, _, _, he, compact_len_le xs, compact_len xs, ?_⟩
    have := grownBy_sortedI (w := w) (g := g) (n := n) (os := #[]) (Lib.compact xs ++ List.replicate (xs.length - (Lib.compact xs).length) 0).toArray
    rw [grow_empty] at this
    exact this

theorem own_shrink {w : World} {base g n m cap e : Nat} {vs : List Value} (h : w.ownsRow base e 1 (.slice (some ⟨g, 0, none⟩) n cap) n vs) (hm : m ≤ n) : w.ownsRow base e 1 (.slice (some ⟨g, 0, none⟩) m cap) m (vs.take m) := by
  have hl := h.1
  rcases h.2 with ⟨h0, _⟩ | ⟨g', cap', cur, hv, hb, hg, h1, h2, h3, h4⟩
  · cases h0
  · injection hv with e1 _ e3
    injection e1 with e1
    injection e1 with e1
    subst e1
    subst e3
    refine ⟨by rw [List.length_take, hl]; omega, .inr ⟨g, cap, cur, rfl, hb, hg, by omega, h2, h3, ?_⟩⟩
    rw [← h4, List.take_take, Nat.mul_one, Nat.mul_one, Nat.min_eq_left hm]

/-- slices.Delete(l, i, i+1). -/
theorem delete_any (base g n cap i : Nat) (xs : List Int) (w : World) (h : OwnInts w base (.slice (some ⟨g, 0, none⟩) n cap) xs) (hl : xs.length = n) (hi : i < n) (J : Int) (hJ : J = ((i + 1 : Nat) : Int)) :
    Calls Tryd.prog 30 #[.slice (some ⟨g, 0, none⟩) n cap, .int .i64 (i : Int), .int .i64 J] w fun e w' => e = .returned (.slice (some ⟨g, 0, none⟩) (n - 1) cap) ∧ OwnInts w' base (.slice (some ⟨g, 0, none⟩) (n - 1) cap) (xs.take i ++ xs.drop (i + 1)) ∧ w.grownBy w' (some g) := by
  subst hJ
  subst hl
  rcases h.2 with ⟨h0, _⟩ | ⟨g', cap', cur, hv, hb, hg, h1, h2, h3, h4⟩
  · cases h0
  · injection hv with e1 _ e3
    injection e1 with e1
    injection e1 with e1
    subst e1
    subst e3
    have hT : cur.toList.take xs.length = xs.map (Value.int .i64) := by rwa [Nat.mul_one] at h4
    refine (Any.slices_Delete_int laysn23 g 0 cap i (i + 1) xs w (holds_of_blockI hg hT) h1 (by unfold maxLen at h2; omega) (by omega) (by omega)).mono ?_
    rintro e w' ⟨he, q, rfl⟩
    rw [show xs.length - (i + 1 - i) = xs.length - 1 by omega] at he
    have hlen : (xs.take i ++ xs.drop (i + 1) ++ List.replicate (i + 1 - i) 0).length = xs.length := by simp; omega
    have hlen2 : (xs.take i ++ xs.drop (i + 1)).length = xs.length - 1 := by simp; omega
    refine ⟨he, ?_, ?_⟩
    · have h5 := ownsRow_sortedI (n := q) (os := #[]) (ss := xs) (ts := xs.take i ++ xs.drop (i + 1) ++ List.replicate (i + 1 - i) 0) hlen hb hg h1 h2 h3
      rw [grow_empty] at h5
      have h6 := own_shrink h5 (show xs.length - 1 ≤ xs.length by omega)
      unfold OwnInts
      rw [hlen2]
      have e6 : (List.map (Value.int .i64) (xs.take i ++ xs.drop (i + 1) ++ List.replicate (i + 1 - i) 0)).take (xs.length - 1) = List.map (Value.int .i64) (xs.take i ++ xs.drop (i + 1)) := by
        rw [← List.map_take, ← hlen2, List.take_left]
      rw [e6] at h6
      exact h6
    · have := grownBy_sortedI (w := w) (g := g) (n := q) (os := #[]) (xs.take i ++ xs.drop (i + 1) ++ List.replicate (i + 1 - i) 0).toArray
      rw [grow_empty] at this
      exact this

/-! An even number among them? -/
def hasEven (ns : List Nat) : Bool := ns.any (fun x => x % 2 == 0)
theorem hasEven_true {ns : List Nat} : hasEven ns = true ↔ ∃ j, j < ns.length ∧ ns.getD j 0 % 2 = 0 := by
  unfold hasEven
  rw [List.any_eq_true]
  constructor
  · rintro ⟨x, hx, h⟩
    obtain ⟨k, hk, rfl⟩ := mem_getDN hx
    exact ⟨k, hk, by simpa using h⟩
  · rintro ⟨j, hj, h⟩
    exact ⟨_, getD_memN hj, by simpa using h⟩
theorem hasEven_false {ns : List Nat} : hasEven ns = false ↔ ∀ x ∈ ns, x % 2 = 1 := by
  unfold hasEven
  rw [List.any_eq_false]
  constructor
  · intro h x hx
    have := h x hx
    simp at this
    omega
  · intro h x hx
    have := h x hx
    simp
    omega
def IdxEven (ns : List Nat) (w : World) (e : Ending) (w' : World) : Prop := ∃ r : Int, e = .returned (.int .i64 r) ∧ decide (0 ≤ r) = hasEven ns ∧ w = w'

set_option maxHeartbeats 400000 in
theorem even1_evG (x : Nat) (w : World) (hx : x ≤ 9223372036854775807) : Calls Tryd.prog 23 #[.int .i64 (x : Int)] w fun e w' => e = .returned (.bool (x % 2 == 0)) ∧ w = w' := by
  have HE : Hid (((x : Int) % 2 == 0) = (x % 2 == 0)) := by
    have e : (x : Int) % 2 = ((x % 2 : Nat) : Int) := by omega
    rw [e]
    rcases Nat.mod_two_eq_zero_or_one x with h2 | h2
    · rw [h2]
      exact rfl
    · rw [h2]
      exact rfl
  go_enter Tryd.func23, Tryd.ntmps23
  go_wp2
  go_ret
  exact ⟨by rw [← HE.out]; rfl, rfl⟩

set_option maxHeartbeats 800000 in
theorem indexFunc_evG (A : Option Addr) (n c : Nat) (ns : List Nat) (w : World) (h : Ints w A n (ofN ns)) (hn : n ≤ 1000000) (hb40 : ∀ x ∈ ns, x ≤ 40) :
    Calls Tryd.prog 29 #[.slice A n c, .func (.func 23) #[] #[]] w (IdxEven ns w) := by
  have HM := hid hb40
  clear hb40
  have HLN : Hid (ns.length = n) := by rw [← length_ofN]; exact h.len
  go_enter Tryd.func29, Tryd.ntmps29
  go_wp2
  go_loopg [8] n (fun g s wr => ∃ k : Nat, k ≤ n ∧ n - k ≤ g ∧ s = .int .i64 k ∧ w = wr ∧ ∀ j, j < k → ns.getD j 0 % 2 = 1)
  case atStart => exact ⟨0, Nat.zero_le _, by omega, rfl, rfl, fun j hj => absurd hj (Nat.not_lt_zero _)⟩
  case round =>
    obtain ⟨k, hk, hg, rfl, rfl, hall⟩ := hrel
    have HA := hid hall
    clear hall
    by_cases hlt : k < n
    · obtain ⟨b, o, rfl, hb, hc⟩ := h.row (by omega)
      have g1 := hc k hlt
      rw [getD_ofN] at g1
      have hmem : ns.getD k 0 ∈ ns := getD_memN (by rw [HLN.out]; exact hlt)
      have hx40 := HM.out _ hmem
      clear hc h hmem
      generalize hx : ns.getD k 0 = x at *
      have HX := hid hx
      clear hx
      rcases Nat.mod_two_eq_zero_or_one x with h2 | h2
      · have hz : (x % 2 == 0) = true := by rw [h2]; rfl
        have H2 := hid h2
        clear h2
        go_wp2_with (go_at_call 23; refine (even1_evG x _ (by omega)).mono ?_; rintro e w' ⟨rfl, rfl⟩)
        go_ret
        have HS : hasEven ns = true := hasEven_true.2 ⟨k, by rw [HLN.out]; exact hlt, by rw [HX.out]; exact H2.out⟩
        exact ⟨_, rfl, by rw [HS]; simp, rfl⟩
      · have hz : (x % 2 == 0) = false := by rw [h2]; rfl
        have H2 := hid h2
        clear h2
        go_wp2_with (go_at_call 23; refine (even1_evG x _ (by omega)).mono ?_; rintro e w' ⟨rfl, rfl⟩)
        go_roundg (n - (k + 1))
        case measure => omega
        case rel =>
          refine ⟨k + 1, by omega, by omega, by go_num, rfl, fun j hj => ?_⟩
          by_cases e : j = k
          · subst e
            rw [HX.out]
            exact H2.out
          · exact HA.out j (by omega)
    · go_wp2
      go_ret
      have HS : hasEven ns = false := by
        rw [Bool.eq_false_iff]
        intro e
        obtain ⟨j, hj, h2⟩ := hasEven_true.1 e
        have := HA.out j (by have := HLN.out; omega)
        omega
      exact ⟨_, rfl, by rw [HS]; rfl, rfl⟩

set_option maxHeartbeats 800000 in
theorem containsFunc_evG (A : Option Addr) (n c : Nat) (ns : List Nat) (w : World) (h : Ints w A n (ofN ns)) (hn : n ≤ 1000000) (hb40 : ∀ x ∈ ns, x ≤ 40) :
    Calls Tryd.prog 17 #[.slice A n c, .func (.func 23) #[] #[]] w fun e w' => e = .returned (.bool (hasEven ns)) ∧ w = w' := by
  have HH := hid h
  have HM := hid hb40
  clear hb40 h
  go_enter Tryd.func17, Tryd.ntmps17
  go_wp2_with fail
  refine (indexFunc_evG A n c ns _ HH.out hn HM.out).mono ?_
  rintro e w' ⟨r, rfl, hr, rfl⟩
  go_wp2
  go_ret
  exact ⟨rfl, rfl⟩

set_option maxHeartbeats 400000 in
theorem even1_evS (x : Nat) (w : World) (hx : x ≤ 9223372036854775807) : Calls Tryd.prog 18 #[.int .i64 (x : Int)] w fun e w' => e = .returned (.bool (x % 2 == 0)) ∧ w = w' := by
  have HE : Hid (((x : Int) % 2 == 0) = (x % 2 == 0)) := by
    have e : (x : Int) % 2 = ((x % 2 : Nat) : Int) := by omega
    rw [e]
    rcases Nat.mod_two_eq_zero_or_one x with h2 | h2
    · rw [h2]
      exact rfl
    · rw [h2]
      exact rfl
  go_enter Tryd.func18, Tryd.ntmps18
  go_wp2
  go_ret
  exact ⟨by rw [← HE.out]; rfl, rfl⟩

set_option maxHeartbeats 800000 in
theorem indexFunc_evS (A : Option Addr) (n c : Nat) (ns : List Nat) (w : World) (h : Ints w A n (ofN ns)) (hn : n ≤ 1000000) (hb40 : ∀ x ∈ ns, x ≤ 40) :
    Calls Tryd.prog 29 #[.slice A n c, .func (.func 18) #[] #[]] w (IdxEven ns w) := by
  have HM := hid hb40
  clear hb40
  have HLN : Hid (ns.length = n) := by rw [← length_ofN]; exact h.len
  go_enter Tryd.func29, Tryd.ntmps29
  go_wp2
  go_loopg [8] n (fun g s wr => ∃ k : Nat, k ≤ n ∧ n - k ≤ g ∧ s = .int .i64 k ∧ w = wr ∧ ∀ j, j < k → ns.getD j 0 % 2 = 1)
  case atStart => exact ⟨0, Nat.zero_le _, by omega, rfl, rfl, fun j hj => absurd hj (Nat.not_lt_zero _)⟩
  case round =>
    obtain ⟨k, hk, hg, rfl, rfl, hall⟩ := hrel
    have HA := hid hall
    clear hall
    by_cases hlt : k < n
    · obtain ⟨b, o, rfl, hb, hc⟩ := h.row (by omega)
      have g1 := hc k hlt
      rw [getD_ofN] at g1
      have hmem : ns.getD k 0 ∈ ns := getD_memN (by rw [HLN.out]; exact hlt)
      have hx40 := HM.out _ hmem
      clear hc h hmem
      generalize hx : ns.getD k 0 = x at *
      have HX := hid hx
      clear hx
      rcases Nat.mod_two_eq_zero_or_one x with h2 | h2
      · have hz : (x % 2 == 0) = true := by rw [h2]; rfl
        have H2 := hid h2
        clear h2
        go_wp2_with (go_at_call 18; refine (even1_evS x _ (by omega)).mono ?_; rintro e w' ⟨rfl, rfl⟩)
        go_ret
        have HS : hasEven ns = true := hasEven_true.2 ⟨k, by rw [HLN.out]; exact hlt, by rw [HX.out]; exact H2.out⟩
        exact ⟨_, rfl, by rw [HS]; simp, rfl⟩
      · have hz : (x % 2 == 0) = false := by rw [h2]; rfl
        have H2 := hid h2
        clear h2
        go_wp2_with (go_at_call 18; refine (even1_evS x _ (by omega)).mono ?_; rintro e w' ⟨rfl, rfl⟩)
        go_roundg (n - (k + 1))
        case measure => omega
        case rel =>
          refine ⟨k + 1, by omega, by omega, by go_num, rfl, fun j hj => ?_⟩
          by_cases e : j = k
          · subst e
            rw [HX.out]
            exact H2.out
          · exact HA.out j (by omega)
    · go_wp2
      go_ret
      have HS : hasEven ns = false := by
        rw [Bool.eq_false_iff]
        intro e
        obtain ⟨j, hj, h2⟩ := hasEven_true.1 e
        have := HA.out j (by have := HLN.out; omega)
        omega
      exact ⟨_, rfl, by rw [HS]; rfl, rfl⟩

set_option maxHeartbeats 800000 in
theorem containsFunc_evS (A : Option Addr) (n c : Nat) (ns : List Nat) (w : World) (h : Ints w A n (ofN ns)) (hn : n ≤ 1000000) (hb40 : ∀ x ∈ ns, x ≤ 40) :
    Calls Tryd.prog 17 #[.slice A n c, .func (.func 18) #[] #[]] w fun e w' => e = .returned (.bool (hasEven ns)) ∧ w = w' := by
  have HH := hid h
  have HM := hid hb40
  clear hb40 h
  go_enter Tryd.func17, Tryd.ntmps17
  go_wp2_with fail
  refine (indexFunc_evS A n c ns _ HH.out hn HM.out).mono ?_
  rintro e w' ⟨r, rfl, hr, rfl⟩
  go_wp2
  go_ret
  exact ⟨rfl, rfl⟩

end Go.Proofs.YteegddpoekphoaaDoor
