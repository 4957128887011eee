/-
  slices.Clone at [][]int, castref.TableauxOf.
-/
import Derived.Test.YteffbhdhldilnaaTabT
import Derived.Test.YteffbhdhldilnaaTabX
namespace Go.Proofs.Yteffbhdhldilnaa
open Go.RowKit

/-- As rows that are only read. -/
theorem Rows2.rrows {w : World} {base : Nat} {v : Value} {T : List (List Int)} (h : Rows2 w base v T) : ∃ A c, v = .slice A T.length c ∧ RRows w A T.length T ∧ Cap T.length c ∧ (A = none → c = 0) := by
  obtain ⟨vals, hl, ho, hr⟩ := h
  rw [hl] at ho
  rcases ho.2 with ⟨rfl, h0⟩ | ⟨g, cap, cur, rfl, hb, hh, hn, hm, _⟩
  · have : T = [] := List.eq_nil_of_length_eq_zero h0
    subst this
    exact ⟨none, 0, rfl, RRows.nil _ _, ⟨Nat.le_refl _, by omega⟩, fun _ => rfl⟩
  · refine ⟨some ⟨g, 0, none⟩, cap, rfl, ⟨rfl, fun _ => ⟨g, 0, rfl, (Array.getElem?_eq_some_iff.1 hh).1, fun j hj => ?_⟩⟩, ⟨hn, by unfold maxLen at hm; exact hm⟩, fun e => by cases e⟩
    obtain ⟨e, hI, hc, hz⟩ := own_slice (A := (vals.getD j (.slice none 0 0)).ownBlock.map fun k => ⟨k, 0, none⟩) (n := (T.getD j []).length) (c := match vals.getD j (.slice none 0 0) with | .slice _ _ c => c | _ => 0) (by
      have h1 := hr j hj
      rcases h1.2 with ⟨e2, h2⟩ | ⟨g2, cap2, cur2, e2, _⟩
      · rw [e2] at h1 ⊢
        rw [h2]
        exact h1
      · rw [e2] at h1 ⊢
        exact h1)
    have h1 := hr j hj
    refine ⟨_, _, _, ?_, hI, hc, hz⟩
    rw [Nat.zero_add, World.ownsRow.cellAt ho j (by omega), getD_vals (by rw [hl]; exact hj)]
    rcases h1.2 with ⟨e2, h2⟩ | ⟨g2, cap2, cur2, e2, _⟩
    · rw [e2, h2]
      rfl
    · rw [e2]
      rfl

/-- Another row at place j. -/
theorem Rows2.set {w : World} {base g n cap : Nat} {T : List (List Int)} (h : Rows2 w base (.slice (some ⟨g, 0, none⟩) n cap) T) {j : Nat} (hj : j < T.length) {u : Value} {ys : List Int} (hu : OwnInts w 0 u ys) : Rows2 (w.setCell ⟨g, j, none⟩ u) base (.slice (some ⟨g, 0, none⟩) n cap) (T.set j ys) := by
  obtain ⟨vals, hl, ho, hr⟩ := h
  obtain rfl : n = vals.length := by
    rcases ho.2 with ⟨e, _⟩ | ⟨g', cap', cur, e, _⟩
    · cases e
    · injection e
  have hst := (World.ownsRow.stored ho j u).1
  have hjl : j < vals.length := by rw [hl]; exact hj
  have hk : ∀ {v : Value} {xs : List Int}, OwnInts w 0 v xs → OwnInts (w.setCell ⟨g, j, none⟩ u) 0 v xs := fun {v xs} hv =>
    own_of_block hv (fun k hk => Below.heap_setCell w ⟨g, j, none⟩ _ k (by rintro rfl; exact own_apart hv ho k hk rfl))
  refine ⟨vals.set j u, by rw [List.length_set, List.length_set]; exact hl, by rw [List.length_set]; exact hst, fun a ha => ?_⟩
  rw [List.length_set] at ha
  rw [getD_setV _ hjl, getD_setT _ hj]
  by_cases ea : a = j
  · rw [if_pos ea, if_pos ea]
    exact hk hu
  · rw [if_neg ea, if_neg ea]
    exact hk (hr a ha)

/-- The struct's cell has been stored. -/
theorem own_pair {w : World} {base size n ty bx : Nat} {v : Value} {xs : List Value} {f : Nat → Value} (h : w.ownsRow base ty size v n xs) (hr : w.rowIs bx 25 2 f) (hty : ty ≠ 25) (i : Nat) (u : Value) : (w.setCell ⟨bx, i, none⟩ u).ownsRow base ty size v n xs := by
  refine own_of_block h (fun k hk => Below.heap_setCell w ⟨bx, i, none⟩ _ k ?_)
  rintro rfl
  rcases h.2 with ⟨rfl, _⟩ | ⟨g, cap, cur, rfl, _, hh, _⟩
  · cases hk
  · simp only [Value.ownBlock, Option.some.injEq] at hk
    subst hk
    obtain ⟨cs, hcs, _⟩ := hr
    rw [hh] at hcs
    injection hcs with hcs
    injection hcs with _ hcs
    exact hty hcs
theorem Rows2.pair {w : World} {base bx : Nat} {v : Value} {T : List (List Int)} {f : Nat → Value} (h : Rows2 w base v T) (hr : w.rowIs bx 25 2 f) (i : Nat) (u : Value) : Rows2 (w.setCell ⟨bx, i, none⟩ u) base v T := by
  obtain ⟨vals, hl, ho, hv⟩ := h
  exact ⟨vals, hl, own_pair ho hr (by decide) i u, fun j hj => own_pair (hv j hj) hr (by decide) i u⟩
theorem Ints.pair {w : World} {bx : Nat} {A : Option Addr} {n : Nat} {xs : List Int} {v0 v1 : Value} (h : Ints w A n xs) (hr : w.rowIs bx 25 2 (fun j => if j = 0 then v0 else v1)) (h0 : ∀ x, v0 ≠ .int .i64 x) (h1 : ∀ x, v1 ≠ .int .i64 x) (i : Nat) (u : Value) : Ints (w.setCell ⟨bx, i, none⟩ u) A n xs := by
  refine ⟨h.len, fun hp => ?_⟩
  obtain ⟨b, off, e, hlt, hc⟩ := h.row hp
  have hne : b ≠ bx := by
    rintro rfl
    have h2 := hc 0 hp
    obtain ⟨cs, hcs, hsz, hf⟩ := hr
    have h3 : w.cell? ⟨b, off + 0, none⟩ = cs[off + 0]? := by simp [World.cell?, hcs]
    rw [h3] at h2
    have h4 : off + 0 < 2 := by
      have := (Array.getElem?_eq_some_iff.1 h2).1
      omega
    have h5 := hf (off + 0) h4
    rw [h5] at h2
    injection h2 with h2
    dsimp only at h2
    split at h2
    · exact h0 _ h2
    · exact h1 _ h2
  have hb := Below.heap_setCell w ⟨bx, i, none⟩ u b hne
  refine ⟨b, off, e, by simpa [World.setCell] using hlt, fun j hj => ?_⟩
  rw [World.cell?_of_block (a := ⟨b, off + j, none⟩) hb]
  exact hc j hj
theorem ORows.pair {w : World} {base bx : Nat} {v : Value} {T : List (List Int)} {v0 v1 : Value} (h : ORows w base v T) (hr : w.rowIs bx 25 2 (fun j => if j = 0 then v0 else v1)) (h0 : ∀ x, v0 ≠ .int .i64 x) (h1 : ∀ x, v1 ≠ .int .i64 x) (i : Nat) (u : Value) : ORows (w.setCell ⟨bx, i, none⟩ u) base v T := by
  obtain ⟨vals, hl, ho, hv⟩ := h
  refine ⟨vals, hl, own_pair ho hr (by decide) i u, fun j hj => ?_⟩
  obtain ⟨Aj, nj, cj, k1, k2, k3⟩ := hv j hj
  exact ⟨Aj, nj, cj, k1, k2.pair hr h0 h1 i u, k3⟩

/-- 'append(S{}, rows...)': the same rows in a new outer block. -/
theorem wpList_appRows2 {ops : Array Oper} {rest : List Oper} {o : Oper} {a : Act} {Q : Exit → Act → World → Prop} (W : World) (hgd : o.guard = none) (s x : Operand)
    (ho : o.op = .call { callee := .builtin .append, args := #[s, x], argTypes := #[23, 23] })
    (base base2 : Nat) (v : Value) (hs : a.eval s = v) (ad : Addr) (n c : Nat) (U : List (List Int)) (hx : a.eval x = .slice (some ad) n c) (hown : W.ownsRow base 22 1 v 0 []) (hI : Rows2 W base2 (.slice (some ad) n c) U)
    (hne : ∀ k, v.ownBlock = some k → ad.block ≠ k) (hlen : n ≤ 1000000000) (hbase : base ≤ W.heap.size)
    (h : ∀ v' w', Rows2 w' base v' U → Below base W w' → wpList Try.prog ops Q rest (a.put o.dst v') w') :
    wpList Try.prog ops Q (o :: rest) a W := by
  obtain ⟨i0, hi, hz0, hz1, hz2⟩ := info_parts infoRow
  obtain ⟨vals, hl, hv, hr⟩ := hI
  obtain ⟨g, rfl, hn⟩ : ∃ g, ad = ⟨g, 0, none⟩ ∧ n = vals.length := by
    rcases hv.2 with ⟨e, _⟩ | ⟨g, cap, cur, e, _⟩
    · cases e
    · injection e with e1 e2
      injection e1 with e1
      exact ⟨g, e1, e2⟩
  subst hn
  have ha : ∀ j, (⟨g, 0, none⟩ : Addr).add j = ⟨g, j, none⟩ := by intro j; unfold Addr.add; split <;> simp_all
  refine wpList_append_own _ hgd s x 23 ho base 22 i0 (.slice none 0 0) 1 24 Try.underlying23 hi hz0 hz1 hz2 rfl (by decide) v 0 [] hs hown
    ⟨g, 0, none⟩ vals.length c vals hx (by rw [Nat.mul_one]) (fun j u hj => ?_) (fun u hu => ?_) (by unfold maxLen; omega) (by omega) hbase ?_
  · have hjn : j < vals.length := by
      rcases Nat.lt_or_ge j vals.length with h1 | h1
      · exact h1
      · rw [List.getElem?_eq_none (by omega)] at hj
        cases hj
    rw [ha, World.ownsRow.cellAt hv j (by omega)]
    exact hj
  · obtain ⟨j, hj, rfl⟩ := List.getElem_of_mem hu
    have h1 := hr j (by omega)
    rw [List.getD_eq_getElem?_getD, List.getElem?_eq_getElem hj] at h1
    exact own_oneCell h1
  · intro v' w' h1 h2 _
    have hB : Below base W w' := ⟨h2.os, h2.tape, h2.output, h2.size, fun k hk => h2.block k (by omega) (fun e => by have := World.ownsRow.lt hown k e.symm; omega)⟩
    refine h v' w' ⟨vals, hl, by simpa using h1, fun j hj => ?_⟩ hB
    exact (hr j hj).other hown h2

/-- The same rows come back, in an outer block of the call's own. -/
def RetRows2 (w : World) (T : List (List Int)) (e : Ending) (w' : World) : Prop := ∃ v, e = .returned v ∧ Rows2 w' w.heap.size v T ∧ Below w.heap.size w w'

set_option maxHeartbeats 800000 in
theorem cloneRows_any (base : Nat) (v : Value) (T : List (List Int)) (w : World) (h : Rows2 w base v T) (hn : T.length ≤ 1000000) :
    Calls Try.prog 43 #[v] w (RetRows2 w T) := by
  obtain ⟨A, c, rfl, _⟩ := h.form
  rcases A with _ | ad
  · have hT : T = [] := by
      obtain ⟨A', c', e, hR, _, _⟩ := h.rrows
      injection e with e1 e2 e3
      rcases Nat.eq_zero_or_pos T.length with h0 | h0
      · exact List.eq_nil_of_length_eq_zero h0
      · obtain ⟨b, o, e5, _⟩ := hR.row h0
        rw [e5] at e1
        cases e1
    subst hT
    have heq := fun W => Lib.run_eql_slice_nil (P := Try.prog) W 23 22 none 0 c 0 0 Try.underlying23
    simp only [Option.isNone_none] at heq
    have HZ : Hid (List.length ([] : List (List Int)) = 0) := rfl
    rw [HZ.out]
    clear h hn
    go_enter Try.func43, Try.ntmps43
    go_wp2
    go_ret
    exact ⟨_, rfl, Rows2.nil _ _, Below.refl _ _⟩
  · obtain ⟨n, hl⟩ : ∃ n, T.length = n := ⟨_, rfl⟩
    rw [hl] at h hn ⊢
    have H := hid h
    have HLT : Hid (ad.block < w.heap.size) := by
      obtain ⟨vals, _, ho, _⟩ := h
      refine (World.ownsRow.lt ho ad.block ?_).2
      rcases ho.2 with ⟨e, _⟩ | ⟨g, cap, cur, e, _⟩
      · cases e
      · injection e with e1
        injection e1 with e1
        rw [e1]
        rfl
    have HNE : Hid (∀ k, (Value.slice (some ⟨w.heap.size, 0, none⟩) 0 0).ownBlock = some k → ad.block ≠ k) := fun k hk e => by
      have e2 : w.heap.size = k := Option.some.inj hk
      have := HLT.out
      omega
    clear h hl HLT
    have heq := fun W => Lib.run_eql_slice_nil (P := Try.prog) W 23 22 (some ad) n c 0 0 Try.underlying23
    simp only [Option.isNone_some] at heq
    go_enter Try.func43, Try.ntmps43
    go_wp2_with (at_builtin; refine wpList_appRows2 _ rfl (.tmp 5) (.tmp 6) rfl w.heap.size base _ rfl ad n c T rfl (World.ownsRow_made w #[] 0 (Nat.le_refl _) (Nat.zero_le _) rfl) (H.out.keep (below_alloc _ _)) HNE.out (by omega) (by simp) ?_)
    intro v' w1 hown1 hbel1
    have HO1 := hid hown1
    have HB1 := hid ((below_alloc w _).trans hbel1)
    clear hown1 hbel1 heq
    go_wp2
    go_ret
    exact ⟨_, rfl, HO1.out, HB1.out⟩

end Go.Proofs.Yteffbhdhldilnaa
