/-
  tableau.Back (P39).
-/
import Derived.Test.YteffbhdhldilnaaTabG
import Derived.Test.YteffbhdhldilnaaTabX
namespace Go.Proofs.Yteffbhdhldilnaa
open Go.RowKit

/-- What Back knows with n numbers to go. -/
structure BInv (n : Nat) (P Q : List (List Int)) (G : List Nat) : Prop where
  tP : TabL P
  dP : P.flatten.Nodup
  tQ : TabL Q
  hl : ∀ i, tlen P i = tlen Q i
  hle : P.length = Q.length
  dQ : Q.flatten.Nodup
  hm : ∀ y, y ∈ Q.flatten ↔ 0 ≤ y ∧ y < (n : Int)
  hG : G.length = n
  hr : ∀ i y, y ∈ Q.getD i [] → G.getD y.toNat 0 = i

theorem tab_len_le {T : List (List Int)} (h : TabL T) : ∀ d i, (T.getD (i + d) []).length ≤ (T.getD i []).length
  | 0, _ => Nat.le_refl _
  | d + 1, i => Nat.le_trans (tab_at (i := i + d) h).2.1 (tab_len_le h d i)

theorem BInv.step {n : Nat} {P Q : List (List Int)} {G : List Nat} (H : BInv (n + 1) P Q G) : G.getD n 0 < P.length ∧ (∀ j, j ≤ G.getD n 0 → (P.getD j []).length ≠ 0) ∧ (trem P (G.getD n 0)).1.length = P.length ∧ (∀ i, tlen (trem P (G.getD n 0)).1 i ≤ tlen P i) ∧ ∃ a, BInv n (trem P (G.getD n 0)).1 (Q.set (G.getD n 0) a) (G.take n) := by
  obtain ⟨tP, dP, tQ, hl, hle, dQ, hm, hG, hr⟩ := H
  obtain ⟨g, hg, hgm⟩ := tmem_flat ((hm (n : Int)).2 (by omega))
  have hGg := hr g _ hgm
  rw [Int.toNat_natCast] at hGg
  obtain ⟨G', hG'⟩ : ∃ G', G = G' ++ [g] := by
    rcases List.eq_nil_or_concat G with h | ⟨G', z, h⟩
    · subst h; simp at hG
    · rw [List.concat_eq_append] at h
      subst h
      rw [List.length_append, List.length_singleton] at hG
      have e : G'.length = n := by omega
      rw [List.getD_eq_getElem?_getD, List.getElem?_append_right (by omega), e, Nat.sub_self] at hGg
      simp at hGg
      exact ⟨G', by rw [hGg]⟩
  subst hG'
  have hGl : G'.length = n := by rw [List.length_append, List.length_singleton] at hG; omega
  -- the greatest is the last of its row
  obtain ⟨sg, fg⟩ := tab_at (T := Q) (i := g) tQ
  obtain ⟨a, b, hab⟩ := List.append_of_mem hgm
  have hb : b = [] := by
    rcases b with _ | ⟨z, b⟩
    · rfl
    · exfalso
      rw [hab] at sg
      unfold Srt at sg
      rw [List.pairwise_append, List.pairwise_cons] at sg
      have h1 := sg.2.1.1 z (by simp)
      have h2 := (hm z).1 (flat_mem (i := g) (by rw [hab]; simp))
      omega
  subst hb
  have hcut : (Q.getD (g + 1) []).length ≤ a.length := by
    have h1 := fg.1
    rw [hab, List.length_append, List.length_singleton] at h1
    rcases Nat.lt_or_ge a.length (Q.getD (g + 1) []).length with h2 | h2
    · exfalso
      have h3 := fg.2 a.length h2
      rw [hab, getD_mid0] at h3
      have h4 := (hm _).1 (flat_mem (i := g + 1) (getD_mem0 h2))
      omega
    · exact h2
  have hgP : g < P.length := by rw [hle]; exact hg
  have hcP : (P.getD (g + 1) []).length < (P.getD g []).length := by
    have h1 := hl (g + 1)
    have h2 := hl g
    unfold tlen at h1 h2
    rw [h1, h2, hab, List.length_append, List.length_singleton]
    omega
  have O := trem_out P g tP dP hgP hcP
  have tQ' := cut_tab Q g a n tQ hg hab hcut
  have fQ := flat_set hg hab
  have dQ2 := fQ.nodup_iff.1 dQ
  rw [List.nodup_cons] at dQ2
  have dP2 := O.flat.nodup_iff.1 dP
  rw [List.nodup_cons] at dP2
  have hgetQ : ∀ i, (Q.set g a).getD i [] = if i = g then a else Q.getD i [] := by
    intro i
    simp only [List.getD_eq_getElem?_getD, List.getElem?_set]
    by_cases h : g = i
    · subst h
      simp [hg]
    · have h' : ¬ i = g := fun e => h e.symm
      simp [h, h']
  have hgd : (G' ++ [g]).getD n 0 = g := hGg
  have htk : (G' ++ [g]).take n = G' := by rw [← hGl, List.take_left]
  rw [hgd, htk]
  refine ⟨hgP, fun j hj e => ?_, O.len, fun i => by have := O.lens i; omega, a, O.tab, dP2.2, tQ', ?_, ?_, dQ2.2, ?_, hGl, ?_⟩
  · have h1 := tab_len_le tP (g - j) j
    rw [show j + (g - j) = g by omega] at h1
    omega
  · exact (fun i => by
        have h1 := O.lens i
        have h2 := hl i
        rw [tlen_set hg]
        by_cases e : i = g
        · subst e
          have h3 : tlen Q i = a.length + 1 := by unfold tlen; rw [hab]; simp
          rw [if_pos rfl] at h1 ⊢
          omega
        · rw [if_neg e] at h1 ⊢
          omega)
  · rw [O.len, List.length_set]; exact hle
  · exact (fun y => by
        have h1 := hm y
        have h2 := fQ.mem_iff (a := y)
        rw [List.mem_cons] at h2
        constructor
        · intro h3
          have h4 := h1.1 (h2.2 (.inr h3))
          have h5 : y ≠ (n : Int) := fun e => dQ2.1 (e ▸ h3)
          omega
        · intro h3
          rcases h2.1 (h1.2 (by omega)) with h4 | h4
          · omega
          · exact h4)
  · exact (fun i y hy => by
        have hyQ : y ∈ Q.getD i [] := by
          rw [hgetQ i] at hy
          by_cases e : i = g
          · subst e
            rw [if_pos rfl] at hy
            rw [hab]
            exact List.mem_append_left _ hy
          · rwa [if_neg e] at hy
        have h1 := hr i y hyQ
        have h2 := (hm y).1 (flat_mem hyQ)
        have h3 : y ≠ (n : Int) := by
          rintro rfl
          exact dQ2.1 (flat_mem hy)
        rw [List.getD_eq_getElem?_getD, List.getElem?_append_left (by omega), ← List.getD_eq_getElem?_getD] at h1
        exact h1)


theorem sameBy_lens : ∀ (P Q : List (List Int)), sameBy sameLenB P Q = decide (P.map List.length = Q.map List.length)
  | [], [] => rfl
  | [], _ :: _ => rfl
  | _ :: _, [] => rfl
  | a :: P, b :: Q => by
    rw [sameBy, sameBy_lens P Q]
    unfold sameLenB
    by_cases h1 : a.length = b.length
    · by_cases h2 : P.map List.length = Q.map List.length
      · simp [h1, h2]
      · simp [h1, h2]
    · simp [h1]
/-- P39: what goes wrong. -/
def backE (P Q : List (List Int)) : Int := if tabErr P ≠ 0 then tabErr P else if tabErr Q ≠ 0 then tabErr Q else if P.map List.length = Q.map List.length then 0 else 1

/-- State behind some rounds. -/
def trs : List (List Int) → List Nat → List (List Int)
  | P, [] => P
  | P, g :: gs => trs (trem P g).1 gs
theorem tbk_app : ∀ (P : List (List Int)) (gs hs : List Nat), tbk P (gs ++ hs) = tbk P gs ++ tbk (trs P gs) hs
  | P, [], hs => rfl
  | P, g :: gs, hs => by
    rw [List.cons_append, tbk, tbk, trs, List.cons_append, tbk_app _ gs hs]
theorem trs_app : ∀ (P : List (List Int)) (gs : List Nat) (h : Nat), trs P (gs ++ [h]) = (trem (trs P gs) h).1
  | P, [], h => rfl
  | P, g :: gs, h => by
    rw [List.cons_append, trs, trs, trs_app _ gs h]
theorem tbk_length : ∀ (P : List (List Int)) (gs : List Nat), (tbk P gs).length = gs.length
  | P, [] => rfl
  | P, g :: gs => by rw [tbk, List.length_cons, List.length_cons, tbk_length]
/-- The rows with k numbers to go. -/
def rowsAt (P : List (List Int)) (G : List Nat) (k : Nat) : List (List Int) := trs P (G.drop k).reverse
theorem dropN_cons {G : List Nat} {j : Nat} (hj : j < G.length) : G.drop j = G.getD j 0 :: G.drop (j + 1) := by
  rw [List.drop_eq_getElem_cons hj, List.getD_eq_getElem?_getD, List.getElem?_eq_getElem hj]
  rfl
theorem rowsAt_step {P : List (List Int)} {G : List Nat} {j : Nat} (hj : j < G.length) : rowsAt P G j = (trem (rowsAt P G (j + 1)) (G.getD j 0)).1 := by
  unfold rowsAt
  rw [dropN_cons hj, List.reverse_cons, trs_app]
theorem backL_at {P : List (List Int)} {G : List Nat} {j : Nat} (hj : j < G.length) : (backL P G).getD j 0 = (trem (rowsAt P G (j + 1)) (G.getD j 0)).2 := by
  have e : G.reverse = (G.drop (j + 1)).reverse ++ (G.getD j 0 :: (G.take j).reverse) := by
    conv => lhs; rw [← List.take_append_drop j G, dropN_cons hj, List.reverse_append, List.reverse_cons]
    rw [List.append_assoc]
    rfl
  unfold backL
  rw [e, tbk_app, tbk, List.reverse_append, List.reverse_cons]
  have hl : (tbk (trem (trs P (G.drop (j + 1)).reverse) (G.getD j 0)).1 (G.take j).reverse).reverse.length = j := by
    rw [List.length_reverse, tbk_length, List.length_reverse, List.length_take]
    omega
  rw [List.append_assoc, List.singleton_append]
  conv => lhs; rw [← hl]
  rw [hl]
  have := getD_mid0 (tbk (trem (trs P (G.drop (j + 1)).reverse) (G.getD j 0)).1 (G.take j).reverse).reverse (trem (trs P (G.drop (j + 1)).reverse) (G.getD j 0)).2 (tbk P (G.drop (j + 1)).reverse).reverse
  rw [hl] at this
  exact this
theorem backL_length (P : List (List Int)) (G : List Nat) : (backL P G).length = G.length := by
  unfold backL
  rw [List.length_reverse, tbk_length, List.length_reverse]

/-- Rows just made, all nil. -/
theorem Grid.made (w : World) (n : Nat) (base : Nat) (hb : base ≤ w.heap.size) (hn : n ≤ 1000) : Grid (w.alloc (.cells (madeCells #[.slice none 0 0] n) 22)) base (fun k => k = w.heap.size) (.slice (some ⟨w.heap.size, 0, none⟩) n n) (List.replicate n []) := by
  have hcs : (madeCells #[Value.slice none 0 0] n).toList = List.replicate n (Value.slice none 0 0) := by
    apply List.ext_getElem
    · simp [madeCells]
    · intro i h1 h2
      simp [madeCells, Nat.mod_one]
  refine ⟨List.replicate n (.slice none 0 0), by simp, ?_, fun j hj => ?_, fun i j hi hj _ k hk => ?_, fun k hk => ?_, fun j hj k hk => ?_, fun k hk => ?_⟩
  · rw [List.length_replicate, ← hcs]
    exact World.ownsRow_lit w _ n hb (by unfold maxLen; omega) (by simp [madeCells])
  · rw [List.length_replicate] at hj
    have e1 : (List.replicate n (Value.slice none 0 0)).getD j (.slice none 0 0) = .slice none 0 0 := by simp [List.getD_eq_getElem?_getD, hj]
    have e2 : (List.replicate n ([] : List Int)).getD j [] = [] := by simp [List.getD_eq_getElem?_getD, hj]
    rw [e1, e2]
    exact OwnInts.nil _ _
  · rw [List.length_replicate] at hi
    have e1 : (List.replicate n (Value.slice none 0 0)).getD i (.slice none 0 0) = .slice none 0 0 := by simp [List.getD_eq_getElem?_getD, hi]
    rw [e1] at hk
    cases hk
  · simp only [Value.ownBlock, Option.some.injEq] at hk
    exact hk.symm
  · rw [List.length_replicate] at hj
    have e1 : (List.replicate n (Value.slice none 0 0)).getD j (.slice none 0 0) = .slice none 0 0 := by simp [List.getD_eq_getElem?_getD, hj]
    rw [e1] at hk
    cases hk
  · rw [hk]
    exact ⟨hb, by simp⟩
theorem infoRow2 : (Try.prog.info? 22).map (fun i => (i.zero, i.size, i.bytes)) = some (some (.slice none 0 0), 1, 24) := infoRow

theorem clone_step {P : List (List Int)} {i n : Nat} (hn : P.length = n) (hi : i < n) : (P.take i ++ List.replicate (n - i) []).set i (P.getD i []) = P.take (i + 1) ++ List.replicate (n - (i + 1)) [] := by
  rw [show n - i = (n - (i + 1)) + 1 by omega, List.replicate_succ, set_mid (P.take i) [] (P.getD i []) _ (by rw [List.length_take]; omega)]
  have e : P.take (i + 1) = P.take i ++ [P.getD i []] := by
    rw [List.take_succ_eq_append_getElem (by omega), List.getD_eq_getElem?_getD, List.getElem?_eq_getElem (by omega)]
    rfl
  rw [e, List.append_assoc]
  rfl

end Go.Proofs.Yteffbhdhldilnaa
