/-
  tableau.isLarge, slices.Grow, slices.Concat, tableau.fitsBelow, tableau.Check (P37).
-/
import Derived.Test.YtmdpfadfimodjaaTabC
import Derived.Test.YtmdpfadfimodjaaTabE
import Derived.Test.YtmdpfadfimodjaaCheck
import Derived.Lib.AppendZeros
import Derived.Lib.AppendZerosOnto
import Derived.Laws.AppendOwnNone
namespace Go.Proofs.Ytmdpfadfimodjaa
open Go.RowKit

theorem flat_take {T : List (List Int)} {i : Nat} (hi : i < T.length) : (T.take (i + 1)).flatten = (T.take i).flatten ++ T.getD i [] := by
  rw [List.take_succ_eq_append_getElem hi, List.flatten_append, List.getD_eq_getElem?_getD, List.getElem?_eq_getElem hi]
  simp
theorem length_le_flat2 : ∀ (T : List (List Int)) (j : Nat), (T.getD j []).length ≤ T.flatten.length
  | [], j => by simp
  | r :: T, 0 => by simp
  | r :: T, j + 1 => by
    have := length_le_flat2 T j
    simp only [List.getD_cons_succ, List.flatten_cons, List.length_append]
    omega
theorem flat_take_le (T : List (List Int)) (i : Nat) : (T.take i).flatten.length ≤ T.flatten.length := by
  conv => rhs; rw [← List.take_append_drop i T]
  rw [List.flatten_append, List.length_append]
  omega
def largeB (T : List (List Int)) : Bool := decide (10 < T.length ∨ 10 < T.flatten.length)

set_option maxRecDepth 100000 in
set_option maxHeartbeats 800000 in
theorem isLarge_any (A : Option Addr) (n c : Nat) (T : List (List Int)) (w : World) (h : RRows w A n T) (hn : n ≤ 9223372036854775807) (hL : ∀ j, (T.getD j []).length ≤ 4611686018427387904) :
    Calls Try.prog 71 #[.slice A n c] w fun e w' => e = .returned (.bool (largeB T)) ∧ w = w' := by
  have H := hid h
  have HL := hid h.len
  have HLL := hid hL
  clear h hL
  by_cases hbig : 10 < n
  · have hq : largeB T = true := by unfold largeB; rw [HL.out]; exact decide_eq_true (.inl hbig)
    rw [hq]
    go_enter Try.func71, Try.ntmps71
    go_wp2
    go_ret
    exact ⟨rfl, rfl⟩
  · go_enter Try.func71, Try.ntmps71
    go_wp2
    go_loopg [3, 11] n (fun g s t wr => ∃ (i S : Nat), i ≤ n ∧ n - i ≤ g ∧ s = .int .i64 (S : Int) ∧ t = .int .i64 (i : Int) ∧ S = (T.take i).flatten.length ∧ S ≤ 10 ∧ w = wr)
    case atStart => exact ⟨0, 0, Nat.zero_le _, by omega, rfl, rfl, by simp, by omega, rfl⟩
    case round =>
      obtain ⟨i, S, hi, hg, rfl, rfl, hS, hS10, rfl⟩ := hrel
      have HS := hid hS
      clear hS
      by_cases hlt : i < n
      · obtain ⟨b1, o1, Aj, nj, cj, rfl, g1, hI1, hc1⟩ := H.out.at hlt
        have HF := hid (flat_take (T := T) (i := i) (by rw [HL.out]; exact hlt))
        have HTL := hid (flat_take_le T (i + 1))
        have hnj : nj ≤ 4611686018427387904 := by rw [← hI1.len]; exact HLL.out i
        have HLJ := hid hI1.len
        have HN : Hid ((T.take (i + 1)).flatten.length = S + nj) := by rw [HF.out, List.length_append, ← HS.out, HLJ.out]; exact rfl
        clear hI1 hc1
        by_cases hb : 10 < S + nj
        · have hq : largeB T = true := by
            unfold largeB
            have h1 := HTL.out
            have h2 := HN.out
            exact decide_eq_true (.inr (by omega))
          have HQ := hid hq
          clear hq
          go_wp2
          go_ret
          refine ⟨?_, rfl⟩
          rw [HQ.out]
          rfl
        · have hbI : ¬ (10 : Int) < (S : Int) + (nj : Int) := by omega
          go_wp2
          go_roundg (n - (i + 1))
          case measure => omega
          case rel => exact ⟨i + 1, S + nj, by omega, by omega, by go_num, by go_num, HN.out.symm, by omega, rfl⟩
      · have hin : i = n := by omega
        subst hin
        have hq : largeB T = false := by
          unfold largeB
          have h1 := HS.out
          rw [List.take_of_length_le (by rw [HL.out]; exact Nat.le_refl _)] at h1
          rw [HL.out]
          exact decide_eq_false (by omega)
        have HQ := hid hq
        clear hq
        go_wp2
        go_ret
        refine ⟨?_, rfl⟩
        rw [HQ.out]
        rfl

set_option maxRecDepth 100000 in
set_option maxHeartbeats 800000 in
theorem fitsBelow_any (A : Option Addr) (n c : Nat) (xs : List Int) (B : Option Addr) (m d : Nat) (ys : List Int) (w : World) (h1 : Ints w A n xs) (h2 : Ints w B m ys) (hn : n ≤ 9223372036854775807) (hm : m ≤ 9223372036854775807) :
    Calls Try.prog 74 #[.slice A n c, .slice B m d] w fun e w' => e = .returned (.bool (fitsB xs ys)) ∧ w = w' := by
  have H1 := hid h1
  have H2 := hid h2
  have L1 := hid h1.len
  have L2 := hid h2.len
  clear h1 h2
  by_cases hnm : m < n
  · have hq : fitsB xs ys = false := by
      unfold fitsB
      rw [L1.out, L2.out, decide_eq_false (by omega), Bool.false_and]
    rw [hq]
    go_enter Try.func74, Try.ntmps74
    go_wp2
    go_ret
    exact ⟨rfl, rfl⟩
  · have hnm2 : ¬ (m : Int) < (n : Int) := by omega
    go_enter Try.func74, Try.ntmps74
    go_wp2
    go_loopg [14] n (fun g t wr => ∃ j : Nat, j ≤ n ∧ n - j ≤ g ∧ t = .int .i64 (j : Int) ∧ w = wr ∧ ∀ k, k < j → ys.getD k 0 < xs.getD k 0)
    case atStart => exact ⟨0, Nat.zero_le _, by omega, rfl, rfl, fun k hk => absurd hk (Nat.not_lt_zero _)⟩
    case round =>
      obtain ⟨j, hj, hg, rfl, rfl, hall⟩ := hrel
      have HA := hid hall
      clear hall
      by_cases hlt : j < n
      · obtain ⟨b1, o1, rfl, hb1, hc1⟩ := H1.out.row (by omega)
        obtain ⟨b2, o2, rfl, hb2, hc2⟩ := H2.out.row (by omega)
        have g1 := hc1 j hlt
        have g2 := hc2 j (by omega)
        have hjm : j < m := by omega
        clear hc1 hc2
        by_cases hle : xs.getD j 0 ≤ ys.getD j 0
        · have hq : fitsB xs ys = false := by
            unfold fitsB
            rw [Bool.and_eq_false_iff]
            right
            rw [List.all_eq_false]
            refine ⟨j, by rw [List.mem_range, L1.out]; exact hlt, ?_⟩
            simp only [decide_eq_true_eq]
            omega
          have HQ := hid hq
          clear hq
          generalize xs.getD j 0 = x at *
          generalize ys.getD j 0 = y at *
          go_wp2
          go_ret
          refine ⟨?_, rfl⟩
          rw [HQ.out]
          rfl
        · have HX : Hid (ys.getD j 0 < xs.getD j 0) := by exact (by omega : ys.getD j 0 < xs.getD j 0)
          generalize hx : xs.getD j 0 = x at *
          generalize hy : ys.getD j 0 = y at *
          have HXX := hid hx
          have HYY := hid hy
          clear hx hy
          go_wp2
          go_roundg (n - (j + 1))
          case measure => omega
          case rel =>
            refine ⟨j + 1, by omega, by omega, by go_num, rfl, fun k hk => ?_⟩
            by_cases e : k = j
            · rw [e, HXX.out, HYY.out]; exact HX.out
            · exact HA.out k (by omega)
      · have hjn : j = n := by omega
        subst hjn
        have hq : fitsB xs ys = true := fitsB_iff.2 ⟨by rw [L1.out, L2.out]; omega, fun k hk => HA.out k (by rw [L1.out] at hk; exact hk)⟩
        have HQ := hid hq
        clear hq
        go_wp2
        go_ret
        refine ⟨?_, rfl⟩
        rw [HQ.out]
        rfl

/-- A row of the call's own, cut short. -/
theorem OwnInts.cut {w : World} {base g n cap : Nat} {xs : List Int} (h : OwnInts w base (.slice (some ⟨g, 0, none⟩) n cap) xs) (k : Nat) (hk : k ≤ xs.length) : OwnInts w base (.slice (some ⟨g, 0, none⟩) k cap) (xs.take k) := by
  have h1 := h.1
  rcases h.2 with ⟨e, _⟩ | ⟨g', cap', cur, e, hb, hh, hn, hm, hs, ht⟩
  · cases e
  · injection e with e1 e2 e3
    injection e1 with e1
    injection e1 with e1 _
    subst e1
    subst e2
    subst e3
    have hl : (xs.take k).length = k := by rw [List.length_take]; omega
    unfold OwnInts
    rw [hl]
    refine ⟨by simp; omega, .inr ⟨g, cap, cur, rfl, hb, hh, by omega, hm, hs, ?_⟩⟩
    rw [Nat.mul_one] at ht ⊢
    rw [List.map_take, ← ht, List.take_take, Nat.min_eq_left hk]

set_option maxRecDepth 100000 in
set_option maxHeartbeats 800000 in
theorem growNil_any (n : Nat) (w : World) (hn : n ≤ 1000000) :
    Calls Try.prog 80 #[.slice none 0 0, .int .i64 (n : Int)] w fun e w' => ∃ v, e = .returned v ∧ OwnInts w' w.heap.size v [] ∧ Below w.heap.size w w' := by
  rcases Nat.eq_zero_or_pos n with h0 | h0
  · subst h0
    go_enter Try.func80, Try.ntmps80
    go_wp2
    go_ret
    exact ⟨_, rfl, OwnInts.nil _ _, Below.refl _ _⟩
  · obtain ⟨i0, hi, hz0, hz1, hz2⟩ := info_parts infoInt
    have hrun := fun W => Lib.run_append_nil_zeros (P := Try.prog) W 22 3 22 3 i0 (.int .i64 0) .i64 .i64 Try.underlying22 Try.underlying3 hi hz0 n h0 (by omega) (by omega) (by rw [hz2]; omega)
    have hpos : (0 : Int) < (n : Int) := by omega
    have HRUN := hid hrun
    clear hrun
    go_enter Try.func80, Try.ntmps80
    go_wp2_with (at_builtin; refine Lib.wpList_append_run _ rfl (.tmp 20) (.tmp 21) 22 3 rfl (.slice none 0 0) (.int .i64 (n : Int)) rfl rfl _ _ (HRUN.out _) ?_)
    have hge := grownCap_ge w n 0 3
    have hle := grownCap_le_maxLen w n 0 3 (by unfold maxLen; omega)
    have HOW : Hid (OwnInts (w.alloc (.cells (Builtin.zeroCells #[.int .i64 0] n ++ Builtin.zeroCells #[.int .i64 0] (grownCap w n 0 3 - n)) 3)) w.heap.size (.slice (some ⟨w.heap.size, 0, none⟩) 0 (grownCap w n 0 3)) []) := World.ownsRow_made w _ _ (Nat.le_refl _) hle (by
      rw [Array.size_append, size_zeroCells, size_zeroCells]
      simp
      omega)
    go_ret
    exact ⟨_, rfl, HOW.out.keep (below_drewN (Below.refl _ _) 1), below_drewN (below_alloc w _) 1⟩

/-- Onto what the call made: a row that may be nil. -/
theorem wpList_appMaybe {ops : Array Oper} {rest : List Oper} {o : Oper} {a : Act} {Q : Exit → Act → World → Prop} (W : World) (hgd : o.guard = none) (s x : Operand)
    (ho : o.op = .call { callee := .builtin .append, args := #[s, x], argTypes := #[22, 22] })
    (base : Nat) (v : Value) (xs : List Int) (hs : a.eval s = v) (A : Option Addr) (n c : Nat) (ys : List Int) (hx : a.eval x = .slice A n c) (hown : OwnInts W base v xs) (hI : Ints W A n ys) (hcap : A = none → c = 0)
    (hlen : xs.length + n ≤ 1000000000000) (hbase : base ≤ W.heap.size)
    (h : ∀ v' w', OwnInts w' base v' (xs ++ ys) → Below base W w' → wpList Try.prog ops Q rest (a.put o.dst v') w') :
    wpList Try.prog ops Q (o :: rest) a W := by
  rcases A with _ | ad
  · have hn0 : n = 0 := by
      rcases Nat.eq_zero_or_pos n with h0 | h0
      · exact h0
      · obtain ⟨b, o', e, _⟩ := hI.row h0
        cases e
    subst hn0
    have hc0 := hcap rfl
    subst hc0
    have hy0 : ys = [] := List.eq_nil_of_length_eq_zero hI.len
    subst hy0
    obtain ⟨i0, hi, _⟩ := info_parts infoInt
    refine wpList_append_own_none hgd s x 22 ho base 3 i0 1 Try.underlying22 hi _ xs.length _ hs hown hx ?_
    refine h _ _ ?_ (Below.refl _ _)
    rw [List.append_nil]
    exact hown
  · exact wpList_appN W hgd s x ho base v xs hs ad n c ys hx hown hI hlen hbase (fun v' w' h1 _ h3 => h v' w' h1 h3)

set_option maxRecDepth 100000 in
set_option maxHeartbeats 1600000 in
theorem concat_any (A : Option Addr) (n c : Nat) (T : List (List Int)) (w : World) (h : RRows w A n T) (hn : n ≤ 1000) (hL : T.flatten.length ≤ 1000) :
    Calls Try.prog 72 #[.slice A n c] w fun e w' => ∃ v, e = .returned v ∧ OwnInts w' w.heap.size v T.flatten ∧ Below w.heap.size w w' := by
  have H := hid h
  have HL := hid h.len
  clear h
  go_enter Try.func72, Try.ntmps72
  go_wp2
  go_loopg [3, 11] n (fun g s t wr => ∃ (i S : Nat), i ≤ n ∧ n - i ≤ g ∧ s = .int .i64 (S : Int) ∧ t = .int .i64 (i : Int) ∧ S = (T.take i).flatten.length ∧ w = wr)
  case atStart => exact ⟨0, 0, Nat.zero_le _, by omega, rfl, rfl, by simp, rfl⟩
  case round =>
    obtain ⟨i, S, hi, hg, rfl, rfl, hS, rfl⟩ := hrel
    have hSle : S ≤ 1000 := by rw [hS]; exact Nat.le_trans (flat_take_le T i) hL
    have HS := hid hS
    clear hS
    by_cases hlt : i < n
    · obtain ⟨b1, o1, Aj, nj, cj, rfl, g1, hI1, hc1⟩ := H.out.at hlt
      have HF := hid (flat_take (T := T) (i := i) (by rw [HL.out]; exact hlt))
      have HTL := hid (flat_take_le T (i + 1))
      have HLJ := hid hI1.len
      have HN : Hid ((T.take (i + 1)).flatten.length = S + nj) := by rw [HF.out, List.length_append, ← HS.out, HLJ.out]; exact rfl
      have hSn : S + nj ≤ 1000 := by have h1 := HTL.out; rw [HN.out] at h1; omega
      have hneg : ¬ (S : Int) + (nj : Int) < 0 := by omega
      clear hI1 hc1
      go_wp2
      go_roundg (n - (i + 1))
      case measure => omega
      case rel => exact ⟨i + 1, S + nj, by omega, by omega, by go_num, by go_num, HN.out.symm, rfl⟩
    · have hin : i = n := by omega
      subst hin
      clear HS
      go_wp2_with fail
      refine (growNil_any S w (by omega)).mono ?_
      rintro e w1 ⟨v1, rfl, ho1, hb1⟩
      have HO1 := hid ho1
      have HB1 := hid hb1
      clear ho1 hb1
      go_wp2_with fail
      obtain ⟨w8, hw8⟩ : ∃ w8, w8 = w1 := ⟨_, rfl⟩
      rw [← hw8] at HO1 HB1
      rw [← hw8]
      clear hw8
      go_loopg [6, 27] i (fun g s t wr => ∃ k : Nat, k ≤ i ∧ i - k ≤ g ∧ t = .int .i64 (k : Int) ∧ OwnInts wr w.heap.size s (T.take k).flatten ∧ Below w.heap.size w wr)
      case atStart => exact ⟨0, Nat.zero_le _, by omega, rfl, HO1.out, HB1.out⟩
      case round =>
        obtain ⟨k, hk, hg2, rfl, ho, hb⟩ := hrel
        have HO := hid ho
        have HB := hid hb
        clear ho hb HO1 HB1
        by_cases hlt2 : k < i
        · obtain ⟨b1, o1, Aj, nj, cj, rfl, g1, hI1, hc1, hz1⟩ := (H.out.keep HB.out).at0 hlt2
          have HI1 := hid hI1
          have HZ1 := hid hz1
          have HF := hid (flat_take (T := T) (i := k) (by rw [HL.out]; exact hlt2))
          have HLN : Hid ((T.take k).flatten.length + nj ≤ 1000000000000) := by
            have h1 := flat_take_le T (k + 1)
            rw [HF.out, List.length_append, HI1.out.len] at h1
            exact (by omega : (T.take k).flatten.length + nj ≤ 1000000000000)
          clear hI1 hz1 hc1
          go_wp2_with (at_builtin; refine wpList_appMaybe _ rfl (.tmp 31) (.tmp 32) rfl w.heap.size _ _ rfl _ _ _ _ rfl HO.out HI1.out HZ1.out HLN.out HB.out.size ?_)
          intro v2 w2 ho2 hb2
          rw [← List.getD_eq_getElem?_getD, ← HF.out] at ho2
          have HO2 := hid ho2
          have HB2 := hid (HB.out.trans hb2)
          clear ho2 hb2 g1
          go_wp2
          go_roundg (i - (k + 1))
          case measure => omega
          case rel => exact ⟨k + 1, by omega, by omega, by go_num, HO2.out, HB2.out⟩
        · have hki : k = i := by omega
          subst hki
          have HT : Hid (T.take k = T) := List.take_of_length_le (by rw [HL.out]; exact Nat.le_refl _)
          rw [HT.out] at HO
          go_wp2
          go_ret
          exact ⟨_, rfl, HO.out, HB.out⟩

theorem tabErr_large {T : List (List Int)} (h : largeB T = true) : tabErr T = 2 := by
  unfold tabErr
  rw [if_pos (by simpa [largeB] using h)]
theorem tabErr_form {T : List (List Int)} (h : largeB T = false) (h2 : ¬ (permErr T.flatten = 0 ∧ ∀ i, i < T.length → rowOK T i = true)) : tabErr T = 3 := by
  unfold tabErr
  rw [if_neg (by simpa [largeB] using h), if_neg h2]
theorem tabErr_good {T : List (List Int)} (h : largeB T = false) (h2 : permErr T.flatten = 0) (h3 : ∀ i, i < T.length → rowOK T i = true) : tabErr T = 0 := by
  unfold tabErr
  rw [if_neg (by simpa [largeB] using h), if_pos ⟨h2, h3⟩]
theorem large_no {T : List (List Int)} (h : largeB T = false) : T.length ≤ 10 ∧ T.flatten.length ≤ 10 := by
  unfold largeB at h
  have := of_decide_eq_false h
  omega
theorem rowOK_empty {T : List (List Int)} {i : Nat} (h : (T.getD i []).length = 0) : rowOK T i = false := by
  unfold rowOK
  rw [decide_eq_true h]
  rfl
theorem rowOK_sort {T : List (List Int)} {i : Nat} (h : sortedB (T.getD i []) = false) : rowOK T i = false := by
  unfold rowOK
  rw [h, Bool.and_false, Bool.false_and]
theorem rowOK_fit {T : List (List Int)} {i : Nat} (h : fitsB (T.getD (i + 1) []) (T.getD i []) = false) : rowOK T (i + 1) = false := by
  unfold rowOK
  rw [Nat.add_sub_cancel, h]
  simp
theorem rowOK_yes {T : List (List Int)} {i : Nat} (h1 : (T.getD i []).length ≠ 0) (h2 : sortedB (T.getD i []) = true) (h3 : i = 0 ∨ fitsB (T.getD i []) (T.getD (i - 1) []) = true) : rowOK T i = true := by
  unfold rowOK
  rw [h2, decide_eq_false h1]
  rcases h3 with h3 | h3
  · rw [decide_eq_true h3]; rfl
  · rw [h3]; simp

set_option maxRecDepth 100000 in
set_option maxHeartbeats 2000000 in
theorem tcheck_any (A : Option Addr) (n c : Nat) (T : List (List Int)) (w : World) (h : RRows w A n T) (hn : n ≤ 9223372036854775807) (hL : ∀ j, (T.getD j []).length ≤ 4611686018427387904) :
    Calls Try.prog 55 #[.slice A n c] w fun e w' => e = .returned (.int .i64 (tabErr T)) ∧ Below w.heap.size w w' := by
  have H := hid h
  have HL := hid h.len
  have HLL := hid hL
  clear h hL
  rcases hlg : largeB T with _ | _
  · obtain ⟨l1, l2⟩ := large_no hlg
    have HLG := hid hlg
    have L2 := hid l2
    rw [HL.out] at l1
    clear hlg l2
    go_enter Try.func55, Try.ntmps55
    go_wp2_with fail
    refine (isLarge_any A n c T _ H.out hn HLL.out).mono ?_
    rintro e w' ⟨rfl, rfl⟩
    rw [HLG.out]
    go_wp2_with fail
    refine (concat_any A n c T _ H.out (by omega) (by have := L2.out; omega)).mono ?_
    rintro e w1 ⟨v1, rfl, ho1, hb1⟩
    obtain ⟨A1, c1, rfl, hI1, hC1⟩ := ho1.ints
    obtain ⟨fl, hfl⟩ : ∃ fl, fl = T.flatten.length := ⟨_, rfl⟩
    rw [← hfl] at hI1
    rw [← hfl]
    have hfl10 : fl ≤ 10 := by rw [hfl]; exact L2.out
    have HB1 := hid hb1
    have HI1 := hid hI1
    clear ho1 hb1 hI1 hC1 hfl
    go_wp2_with fail
    refine (check_any A1 fl c1 T.flatten _ HI1.out (by omega)).mono ?_
    rintro e w2 ⟨rfl, hb2⟩
    have HB2 := hid (below_step HB1.out (Nat.le_refl _) hb2)
    clear hb2 HB1 HI1
    by_cases hpe : permErr T.flatten = 0
    · rw [hpe]
      have HPE := hid hpe
      clear hpe
      go_wp2_with fail
      obtain ⟨w8, hw8⟩ : ∃ w8, w8 = w2 := ⟨_, rfl⟩
      rw [← hw8] at HB2
      rw [← hw8]
      clear hw8
      go_loopg [16] n (fun g t wr => ∃ i : Nat, i ≤ n ∧ n - i ≤ g ∧ t = .int .i64 (i : Int) ∧ Below w.heap.size w wr ∧ ∀ j, j < i → rowOK T j = true)
      case atStart => exact ⟨0, Nat.zero_le _, by omega, rfl, HB2.out, fun j hj => absurd hj (Nat.not_lt_zero _)⟩
      case round =>
        obtain ⟨i, hi, hg, rfl, hb, hall⟩ := hrel
        have HB := hid hb
        have HA := hid hall
        clear hb hall HB2
        by_cases hlt : i < n
        · have HBAD : Hid (rowOK T i = false → tabErr T = 3) := fun hbad => tabErr_form HLG.out (fun hh => by have := hh.2 i (by rw [HL.out]; exact hlt); rw [hbad] at this; cases this)
          obtain ⟨b1, o1, Aj, nj, cj, rfl, g1, hI1, hc1⟩ := (H.out.keep HB.out).at hlt
          have hnj : nj ≤ 10 := by
            have h1 := length_le_flat2 T i
            have h2 := hI1.len
            have h3 := L2.out
            omega
          have HIJ := hid hI1
          have HLJ := hid hI1.len
          clear hI1 hc1
          by_cases hz : nj = 0
          · subst hz
            have HQ := hid (HBAD.out (rowOK_empty HLJ.out))
            go_wp2
            go_ret
            refine ⟨?_, HB.out⟩
            rw [HQ.out]
            rfl
          · have hzI : ((nj : Int) == 0) = false := by simp; omega
            go_wp2_with fail
            refine (isSorted_bel Aj nj cj _ _ HIJ.out (by omega)).mono ?_
            rintro e w3 ⟨rfl, hb3⟩
            have HB3 := hid (below_step HB.out (Nat.le_refl _) hb3)
            have HIJ3 := hid (HIJ.out.keep hb3)
            clear hb3 HIJ HB g1
            rcases hso : sortedB (T.getD i []) with _ | _
            · have HQ := hid (HBAD.out (rowOK_sort hso))
              clear hso
              go_wp2
              go_ret
              refine ⟨?_, HB3.out⟩
              rw [HQ.out]
              rfl
            · have HSO := hid hso
              clear hso
              by_cases hi0 : i = 0
              · subst hi0
                have HOK := hid (rowOK_yes (T := T) (i := 0) (by rw [HLJ.out]; exact hz) HSO.out (.inl rfl))
                go_wp2
                go_roundg (n - 1)
                case measure => omega
                case rel =>
                  refine ⟨1, by omega, by omega, by go_num, HB3.out, fun j hj => ?_⟩
                  have : j = 0 := by omega
                  rw [this]
                  exact HOK.out
              · obtain ⟨m, hm⟩ : ∃ m, i = m + 1 := ⟨i - 1, by omega⟩
                obtain ⟨b2, o2, Ak, nk, ck, hA2, g2, hI2, hc2⟩ := (H.out.keep HB3.out).at (j := m) (by omega)
                injection hA2 with hA2
                injection hA2 with e1 e2
                subst e1
                subst e2
                have hnk : nk ≤ 10 := by
                  have h1 := length_le_flat2 T m
                  have h2 := hI2.len
                  have h3 := L2.out
                  omega
                have HIK := hid hI2
                clear hI2 hc2
                have hd : decide (0 < i) = true := by simp; omega
                have hwr : IntKind.i64.wrap ((i : Int) - 1) = (m : Int) := by rw [IntWalk.i64_in _ (by omega)]; omega
                have hmn : m < n := by omega
                have hmN : (m : Int) < (n : Int) := by omega
                have HMI := hid hm
                clear hm
                go_wp2_with fail
                refine (fitsBelow_any Aj nj cj (T.getD i []) Ak nk ck (T.getD m []) _ HIJ3.out HIK.out (by omega) (by omega)).mono ?_
                rintro e w' ⟨rfl, rfl⟩
                rcases hfi : fitsB (T.getD i []) (T.getD m []) with _ | _
                · have HQ : Hid (tabErr T = 3) := HBAD.out (by
                    have e := HMI.out
                    rw [e] at hfi ⊢
                    exact rowOK_fit hfi)
                  clear hfi g2
                  go_wp2
                  go_ret
                  refine ⟨?_, HB3.out⟩
                  rw [HQ.out]
                  rfl
                · have HOK : Hid (rowOK T i = true) := rowOK_yes (by rw [HLJ.out]; exact hz) HSO.out (.inr (by
                    have e := HMI.out
                    rw [e] at hfi ⊢
                    rw [Nat.add_sub_cancel]
                    exact hfi))
                  clear hfi g2
                  go_wp2
                  go_roundg (n - (i + 1))
                  case measure => omega
                  case rel =>
                    refine ⟨i + 1, by omega, by omega, by go_num, HB3.out, fun j hj => ?_⟩
                    by_cases e : j = i
                    · rw [e]; exact HOK.out
                    · exact HA.out j (by omega)
        · have hin : i = n := by omega
          subst hin
          have HQ := hid (tabErr_good HLG.out HPE.out (by rw [HL.out]; exact HA.out))
          go_wp2
          go_ret
          refine ⟨?_, HB.out⟩
          rw [HQ.out]
          rfl
    · have HQ := hid (tabErr_form HLG.out (fun hh => hpe hh.1))
      have he3 : permErr T.flatten = 3 := by
        unfold permErr at hpe ⊢
        rw [if_neg (by have := L2.out; omega)] at hpe ⊢
        split
        · rename_i h
          rw [if_pos h] at hpe
          exact absurd rfl hpe
        · rfl
      rw [he3]
      clear he3 hpe
      go_wp2
      go_ret
      refine ⟨?_, HB2.out⟩
      rw [HQ.out]
      rfl
  · rw [tabErr_large hlg]
    have HLG := hid hlg
    clear hlg
    go_enter Try.func55, Try.ntmps55
    go_wp2_with fail
    refine (isLarge_any A n c T _ H.out hn HLL.out).mono ?_
    rintro e w' ⟨rfl, rfl⟩
    rw [HLG.out]
    go_wp2
    go_ret
    exact ⟨rfl, Below.refl _ _⟩

end Go.Proofs.Ytmdpfadfimodjaa
