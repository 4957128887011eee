/-
  tableau.isLarge, slices.Grow, slices.Concat, tableau.fitsBelow, tableau.Check (P37).
-/
import Derived.Test.YtlclmmolbhnpgaaTabC
import Derived.Test.YtlclmmolbhnpgaaTabE
import Derived.Test.YtlclmmolbhnpgaaCheck
import Derived.Lib.AppendZeros
import Derived.Lib.AppendZerosOnto
import Derived.Laws.AppendOwnNone
namespace Go.Proofs.Ytlclmmolbhnpgaa
open Go.RowKit

theorem flat_take {T : List (List Int)} {i : Nat} (hi : i < T.length) : (T.take (i + 1)).flatten = (T.take i).flatten ++ T.getD i [] := by
  rw [List.take_succ_eq_append_getElem hi, List.flatten_append, List.getD_eq_getElem?_getD, List.getElem?_eq_getElem hi]
  simp
theorem length_le_flat2 : ∀ (T : List (List Int)) (j : Nat), (T.getD j []).length ≤ T.flatten.length
  | [], j => by simp
  | r :: T, 0 => by simp
  | r :: T, j + 1 => by
    have := length_le_flat2 T j
    simp only [List.getD_cons_succ, List.flatten_cons, List.length_append]
    omega
theorem flat_take_le (T : List (List Int)) (i : Nat) : (T.take i).flatten.length ≤ T.flatten.length := by
  conv => rhs; rw [← List.take_append_drop i T]
  rw [List.flatten_append, List.length_append]
  omega
def largeB (T : List (List Int)) : Bool := decide (10 < T.length ∨ 10 < T.flatten.length)

/-- A row of the call's own, cut short. -/
theorem OwnInts.cut {w : World} {base g n cap : Nat} {xs : List Int} (h : OwnInts w base (.slice (some ⟨g, 0, none⟩) n cap) xs) (k : Nat) (hk : k ≤ xs.length) : OwnInts w base (.slice (some ⟨g, 0, none⟩) k cap) (xs.take k) := by
  have h1 := h.1
  rcases h.2 with ⟨e, _⟩ | ⟨g', cap', cur, e, hb, hh, hn, hm, hs, ht⟩
  · cases e
  · injection e with e1 e2 e3
    injection e1 with e1
    injection e1 with e1 _
    subst e1
    subst e2
    subst e3
    have hl : (xs.take k).length = k := by rw [List.length_take]; omega
    unfold OwnInts
    rw [hl]
    refine ⟨by simp; omega, .inr ⟨g, cap, cur, rfl, hb, hh, by omega, hm, hs, ?_⟩⟩
    rw [Nat.mul_one] at ht ⊢
    rw [List.map_take, ← ht, List.take_take, Nat.min_eq_left hk]

set_option maxRecDepth 100000 in
set_option maxHeartbeats 800000 in
theorem growNil_any (n : Nat) (w : World) (hn : n ≤ 1000000) :
    Calls Try.prog 30 #[.slice none 0 0, .int .i64 (n : Int)] w fun e w' => ∃ v, e = .returned v ∧ OwnInts w' w.heap.size v [] ∧ Below w.heap.size w w' := by
  rcases Nat.eq_zero_or_pos n with h0 | h0
  · subst h0
    go_enter Try.func30, Try.ntmps30
    go_wp2
    go_ret
    exact ⟨_, rfl, OwnInts.nil _ _, Below.refl _ _⟩
  · obtain ⟨i0, hi, hz0, hz1, hz2⟩ := info_parts infoInt
    have hrun := fun W => Lib.run_append_nil_zeros (P := Try.prog) W 23 3 23 3 i0 (.int .i64 0) .i64 .i64 Try.underlying23 Try.underlying3 hi hz0 n h0 (by omega) (by omega) (by rw [hz2]; omega)
    have hpos : (0 : Int) < (n : Int) := by omega
    have HRUN := hid hrun
    clear hrun
    go_enter Try.func30, Try.ntmps30
    go_wp2_with (at_builtin; refine Lib.wpList_append_run _ rfl (.tmp 20) (.tmp 21) 23 3 rfl (.slice none 0 0) (.int .i64 (n : Int)) rfl rfl _ _ (HRUN.out _) ?_)
    have hge := grownCap_ge w n 0 3
    have hle := grownCap_le_maxLen w n 0 3 (by unfold maxLen; omega)
    have HOW : Hid (OwnInts (w.alloc (.cells (Builtin.zeroCells #[.int .i64 0] n ++ Builtin.zeroCells #[.int .i64 0] (grownCap w n 0 3 - n)) 3)) w.heap.size (.slice (some ⟨w.heap.size, 0, none⟩) 0 (grownCap w n 0 3)) []) := World.ownsRow_made w _ _ (Nat.le_refl _) hle (by
      rw [Array.size_append, size_zeroCells, size_zeroCells]
      simp
      omega)
    go_ret
    exact ⟨_, rfl, HOW.out.keep (below_drewN (Below.refl _ _) 1), below_drewN (below_alloc w _) 1⟩

/-- Onto what the call made: a row that may be nil. -/
theorem wpList_appMaybe {ops : Array Oper} {rest : List Oper} {o : Oper} {a : Act} {Q : Exit → Act → World → Prop} (W : World) (hgd : o.guard = none) (s x : Operand)
    (ho : o.op = .call { callee := .builtin .append, args := #[s, x], argTypes := #[23, 23] })
    (base : Nat) (v : Value) (xs : List Int) (hs : a.eval s = v) (A : Option Addr) (n c : Nat) (ys : List Int) (hx : a.eval x = .slice A n c) (hown : OwnInts W base v xs) (hI : Ints W A n ys) (hcap : A = none → c = 0)
    (hlen : xs.length + n ≤ 1000000000000) (hbase : base ≤ W.heap.size)
    (h : ∀ v' w', OwnInts w' base v' (xs ++ ys) → Below base W w' → wpList Try.prog ops Q rest (a.put o.dst v') w') :
    wpList Try.prog ops Q (o :: rest) a W := by
  rcases A with _ | ad
  · have hn0 : n = 0 := by
      rcases Nat.eq_zero_or_pos n with h0 | h0
      · exact h0
      · obtain ⟨b, o', e, _⟩ := hI.row h0
        cases e
    subst hn0
    have hc0 := hcap rfl
    subst hc0
    have hy0 : ys = [] := List.eq_nil_of_length_eq_zero hI.len
    subst hy0
    obtain ⟨i0, hi, _⟩ := info_parts infoInt
    refine wpList_append_own_none hgd s x 23 ho base 3 i0 1 Try.underlying23 hi _ xs.length _ hs hown hx ?_
    refine h _ _ ?_ (Below.refl _ _)
    rw [List.append_nil]
    exact hown
  · exact wpList_appN W hgd s x ho base v xs hs ad n c ys hx hown hI hlen hbase (fun v' w' h1 _ h3 => h v' w' h1 h3)

set_option maxRecDepth 100000 in
set_option maxHeartbeats 1600000 in
theorem concat_any (A : Option Addr) (n c : Nat) (T : List (List Int)) (w : World) (h : RRows w A n T) (hn : n ≤ 1000) (hL : T.flatten.length ≤ 1000) :
    Calls Try.prog 23 #[.slice A n c] w fun e w' => ∃ v, e = .returned v ∧ OwnInts w' w.heap.size v T.flatten ∧ Below w.heap.size w w' := by
  have H := hid h
  have HL := hid h.len
  clear h
  go_enter Try.func23, Try.ntmps23
  go_wp2
  go_loopg [3, 11] n (fun g s t wr => ∃ (i S : Nat), i ≤ n ∧ n - i ≤ g ∧ s = .int .i64 (S : Int) ∧ t = .int .i64 (i : Int) ∧ S = (T.take i).flatten.length ∧ w = wr)
  case atStart => exact ⟨0, 0, Nat.zero_le _, by omega, rfl, rfl, by simp, rfl⟩
  case round =>
    obtain ⟨i, S, hi, hg, rfl, rfl, hS, rfl⟩ := hrel
    have hSle : S ≤ 1000 := by rw [hS]; exact Nat.le_trans (flat_take_le T i) hL
    have HS := hid hS
    clear hS
    by_cases hlt : i < n
    · obtain ⟨b1, o1, Aj, nj, cj, rfl, g1, hI1, hc1⟩ := H.out.at hlt
      have HF := hid (flat_take (T := T) (i := i) (by rw [HL.out]; exact hlt))
      have HTL := hid (flat_take_le T (i + 1))
      have HLJ := hid hI1.len
      have HN : Hid ((T.take (i + 1)).flatten.length = S + nj) := by rw [HF.out, List.length_append, ← HS.out, HLJ.out]; exact rfl
      have hSn : S + nj ≤ 1000 := by have h1 := HTL.out; rw [HN.out] at h1; omega
      have hneg : ¬ (S : Int) + (nj : Int) < 0 := by omega
      clear hI1 hc1
      go_wp2
      go_roundg (n - (i + 1))
      case measure => omega
      case rel => exact ⟨i + 1, S + nj, by omega, by omega, by go_num, by go_num, HN.out.symm, rfl⟩
    · have hin : i = n := by omega
      subst hin
      clear HS
      go_wp2_with fail
      refine (growNil_any S w (by omega)).mono ?_
      rintro e w1 ⟨v1, rfl, ho1, hb1⟩
      have HO1 := hid ho1
      have HB1 := hid hb1
      clear ho1 hb1
      go_wp2_with fail
      obtain ⟨w8, hw8⟩ : ∃ w8, w8 = w1 := ⟨_, rfl⟩
      rw [← hw8] at HO1 HB1
      rw [← hw8]
      clear hw8
      go_loopg [6, 27] i (fun g s t wr => ∃ k : Nat, k ≤ i ∧ i - k ≤ g ∧ t = .int .i64 (k : Int) ∧ OwnInts wr w.heap.size s (T.take k).flatten ∧ Below w.heap.size w wr)
      case atStart => exact ⟨0, Nat.zero_le _, by omega, rfl, HO1.out, HB1.out⟩
      case round =>
        obtain ⟨k, hk, hg2, rfl, ho, hb⟩ := hrel
        have HO := hid ho
        have HB := hid hb
        clear ho hb HO1 HB1
        by_cases hlt2 : k < i
        · obtain ⟨b1, o1, Aj, nj, cj, rfl, g1, hI1, hc1, hz1⟩ := (H.out.keep HB.out).at0 hlt2
          have HI1 := hid hI1
          have HZ1 := hid hz1
          have HF := hid (flat_take (T := T) (i := k) (by rw [HL.out]; exact hlt2))
          have HLN : Hid ((T.take k).flatten.length + nj ≤ 1000000000000) := by
            have h1 := flat_take_le T (k + 1)
            rw [HF.out, List.length_append, HI1.out.len] at h1
            exact (by omega : (T.take k).flatten.length + nj ≤ 1000000000000)
          clear hI1 hz1 hc1
          go_wp2_with (at_builtin; refine wpList_appMaybe _ rfl (.tmp 31) (.tmp 32) rfl w.heap.size _ _ rfl _ _ _ _ rfl HO.out HI1.out HZ1.out HLN.out HB.out.size ?_)
          intro v2 w2 ho2 hb2
          rw [← List.getD_eq_getElem?_getD, ← HF.out] at ho2
          have HO2 := hid ho2
          have HB2 := hid (HB.out.trans hb2)
          clear ho2 hb2 g1
          go_wp2
          go_roundg (i - (k + 1))
          case measure => omega
          case rel => exact ⟨k + 1, by omega, by omega, by go_num, HO2.out, HB2.out⟩
        · have hki : k = i := by omega
          subst hki
          have HT : Hid (T.take k = T) := List.take_of_length_le (by rw [HL.out]; exact Nat.le_refl _)
          rw [HT.out] at HO
          go_wp2
          go_ret
          exact ⟨_, rfl, HO.out, HB.out⟩

theorem tabErr_large {T : List (List Int)} (h : largeB T = true) : tabErr T = 2 := by
  unfold tabErr
  rw [if_pos (by simpa [largeB] using h)]
theorem tabErr_form {T : List (List Int)} (h : largeB T = false) (h2 : ¬ (permErr T.flatten = 0 ∧ ∀ i, i < T.length → rowOK T i = true)) : tabErr T = 3 := by
  unfold tabErr
  rw [if_neg (by simpa [largeB] using h), if_neg h2]
theorem tabErr_good {T : List (List Int)} (h : largeB T = false) (h2 : permErr T.flatten = 0) (h3 : ∀ i, i < T.length → rowOK T i = true) : tabErr T = 0 := by
  unfold tabErr
  rw [if_neg (by simpa [largeB] using h), if_pos ⟨h2, h3⟩]
theorem large_no {T : List (List Int)} (h : largeB T = false) : T.length ≤ 10 ∧ T.flatten.length ≤ 10 := by
  unfold largeB at h
  have := of_decide_eq_false h
  omega
theorem rowOK_empty {T : List (List Int)} {i : Nat} (h : (T.getD i []).length = 0) : rowOK T i = false := by
  unfold rowOK
  rw [decide_eq_true h]
  rfl
theorem rowOK_sort {T : List (List Int)} {i : Nat} (h : sortedB (T.getD i []) = false) : rowOK T i = false := by
  unfold rowOK
  rw [h, Bool.and_false, Bool.false_and]
theorem rowOK_fit {T : List (List Int)} {i : Nat} (h : fitsB (T.getD (i + 1) []) (T.getD i []) = false) : rowOK T (i + 1) = false := by
  unfold rowOK
  rw [Nat.add_sub_cancel, h]
  simp
theorem rowOK_yes {T : List (List Int)} {i : Nat} (h1 : (T.getD i []).length ≠ 0) (h2 : sortedB (T.getD i []) = true) (h3 : i = 0 ∨ fitsB (T.getD i []) (T.getD (i - 1) []) = true) : rowOK T i = true := by
  unfold rowOK
  rw [h2, decide_eq_false h1]
  rcases h3 with h3 | h3
  · rw [decide_eq_true h3]; rfl
  · rw [h3]; simp

end Go.Proofs.Ytlclmmolbhnpgaa
