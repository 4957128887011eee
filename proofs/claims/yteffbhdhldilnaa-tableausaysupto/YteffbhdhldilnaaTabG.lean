/-
  tableau.rowOfEach: the row of each number.
-/
import Derived.Test.YteffbhdhldilnaaTabF
import Derived.Test.YteffbhdhldilnaaArr
namespace Go.Proofs.Yteffbhdhldilnaa
open Go.RowKit

theorem rows_cross : ∀ {T : List (List Int)}, T.flatten.Nodup → ∀ {i j : Nat} {y z : Int}, i ≠ j → y ∈ T.getD i [] → z ∈ T.getD j [] → y ≠ z
  | [], _, i, j, y, z, _, hy, _ => by simp at hy
  | r :: T, h, 0, 0, _, _, hij, _, _ => absurd rfl hij
  | r :: T, h, 0, j + 1, y, z, _, hy, hz => by
    rw [List.flatten_cons, List.nodup_append] at h
    exact h.2.2 y (by simpa using hy) z (flat_mem (by simpa using hz))
  | r :: T, h, i + 1, 0, y, z, _, hy, hz => by
    rw [List.flatten_cons, List.nodup_append] at h
    exact fun e => h.2.2 z (by simpa using hz) y (flat_mem (by simpa using hy)) e.symm
  | r :: T, h, i + 1, j + 1, y, z, hij, hy, hz => by
    rw [List.flatten_cons, List.nodup_append] at h
    exact rows_cross (T := T) h.2.1 (i := i) (j := j) (by omega) (by simpa using hy) (by simpa using hz)
/-- What rowOfEach knows: of i rows all, of the next one k numbers. -/
def RowsTo (Q : List (List Int)) (i k : Nat) (G : List Nat) : Prop := G.length = Q.flatten.length ∧ ∀ i' y, ((i' < i ∧ y ∈ Q.getD i' []) ∨ (i' = i ∧ y ∈ (Q.getD i []).take k)) → G.getD y.toNat 0 = i'
theorem take_not_mem {r : List Int} (h : r.Nodup) {k : Nat} (hk : k < r.length) : r.getD k 0 ∉ r.take k := by
  intro hm
  obtain ⟨i, hi, e⟩ := List.getElem_of_mem hm
  rw [List.length_take] at hi
  rw [List.getElem_take, List.getD_eq_getElem?_getD, List.getElem?_eq_getElem hk] at e
  exact List.pairwise_iff_getElem.1 h i k (by omega) hk (by omega) e
theorem RowsTo.step {Q : List (List Int)} {i k : Nat} {G : List Nat} (h : RowsTo Q i k G) (hd : Q.flatten.Nodup) (hb : ∀ y ∈ Q.flatten, 0 ≤ y ∧ y < (Q.flatten.length : Int)) (hk : k < (Q.getD i []).length) : RowsTo Q i (k + 1) (G.set ((Q.getD i []).getD k 0).toNat i) := by
  have hzm : (Q.getD i []).getD k 0 ∈ Q.getD i [] := getD_mem0 hk
  have hz := hb _ (flat_mem hzm)
  refine ⟨by rw [List.length_set]; exact h.1, fun i' y hy => ?_⟩
  have hyQ : y ∈ Q.flatten := by
    rcases hy with ⟨_, hy⟩ | ⟨_, hy⟩
    · exact flat_mem hy
    · exact flat_mem (List.mem_of_mem_take hy)
  have hyb := hb y hyQ
  rw [List.getD_eq_getElem?_getD, List.getElem?_set]
  by_cases e : y = (Q.getD i []).getD k 0
  · subst e
    rw [if_pos rfl, if_pos (by rw [h.1]; omega)]
    rcases hy with ⟨h1, hy⟩ | ⟨h1, _⟩
    · exact absurd rfl (rows_cross hd (by omega) hy hzm)
    · exact h1.symm
  · rw [if_neg (by omega), ← List.getD_eq_getElem?_getD]
    refine h.2 i' y ?_
    rcases hy with hy | ⟨h1, hy⟩
    · exact .inl hy
    · refine .inr ⟨h1, ?_⟩
      rw [take_snoc hk] at hy
      rcases List.mem_append.1 hy with h2 | h2
      · exact h2
      · rw [List.mem_singleton] at h2
        exact absurd h2 e
theorem RowsTo.next {Q : List (List Int)} {i : Nat} {G : List Nat} (h : RowsTo Q i (Q.getD i []).length G) : RowsTo Q (i + 1) 0 G := by
  refine ⟨h.1, fun i' y hy => h.2 i' y ?_⟩
  rcases hy with ⟨h1, hy⟩ | ⟨_, hy⟩
  · by_cases e : i' = i
    · subst e
      exact .inr ⟨rfl, by rw [List.take_of_length_le (Nat.le_refl _)]; exact hy⟩
    · exact .inl ⟨by omega, hy⟩
  · simp at hy
theorem RowsTo.done {Q : List (List Int)} {G : List Nat} (h : RowsTo Q Q.length 0 G) : RowsOf Q G := by
  refine ⟨h.1, fun i y hy => h.2 i y (.inl ⟨?_, hy⟩)⟩
  rcases Nat.lt_or_ge i Q.length with h1 | h1
  · exact h1
  · rw [List.getD_eq_getElem?_getD, List.getElem?_eq_none h1] at hy
    simp at hy

def intsOf (G : List Nat) : List Int := G.map (fun n : Nat => (n : Int))
theorem intsOf_set (G : List Nat) (j i : Nat) : intsOf (G.set j i) = (intsOf G).set j (i : Int) := by simp [intsOf, List.map_set]
theorem intsOf_getD (G : List Nat) (j : Nat) : (intsOf G).getD j 0 = ((G.getD j 0 : Nat) : Int) := by
  unfold intsOf
  rw [List.getD_eq_getElem?_getD, List.getD_eq_getElem?_getD, List.getElem?_map]
  rcases G[j]? with _ | x <;> rfl

set_option maxHeartbeats 2000000 in
theorem rowOfEach_any (A : Option Addr) (n c : Nat) (Q : List (List Int)) (w : World) (h : RRows w A n Q) (hQ : IsTab Q) :
    Calls Try.prog 35 #[.slice A n c] w fun e w' => ∃ g G, e = .returned (.slice (some ⟨g, 0, none⟩) Q.flatten.length Q.flatten.length) ∧ RowsOf Q G ∧ w.heap.size ≤ g ∧ Arr w' g (intsOf G) ∧ Below w.heap.size w w' := by
  have H := hid h
  have HL := hid h.len
  have hn10 : n ≤ 10 := by rw [← h.len]; exact hQ.len
  obtain ⟨fl, hfl⟩ : ∃ fl, fl = Q.flatten.length := ⟨_, rfl⟩
  have hf10 : fl ≤ 10 := by rw [hfl]; exact hQ.flat
  have HQ := hid hQ
  have HD : Hid (Q.flatten.Nodup) := hQ.perm.nodup_iff.2 (nodup_iota _)
  have HBD : Hid (∀ y ∈ Q.flatten, 0 ≤ y ∧ y < (Q.flatten.length : Int)) := fun y hy => mem_iota.1 (hQ.perm.mem_iff.1 hy)
  have HFL := hid hfl
  have hmk := fun W => run_make_row' (P := Try.prog) 22 3 (.int .i64 0) 8 Try.underlying22 infoInt rfl .i64 .i64 fl (by omega) (by omega) W
  rw [← hfl]
  clear h hQ hfl
  go_enter Try.func35, Try.ntmps35
  go_wp2_with fail
  refine (concat_any A n c Q _ H.out (by omega) (by rw [← HFL.out]; omega)).mono ?_
  rintro e w1 ⟨v1, rfl, ho1, hb1⟩
  obtain ⟨A1, c1, rfl, _, _⟩ := ho1.ints
  rw [← HFL.out]
  have HB1 := hid hb1
  clear ho1 hb1
  go_wp2_with fail
  clear hmk
  obtain ⟨gb, hgb⟩ : ∃ gb, gb = w1.heap.size := ⟨_, rfl⟩
  have HW0 : Hid (w.heap.size ≤ gb) := by rw [hgb]; exact HB1.out.size
  obtain ⟨w8, hw8⟩ : ∃ w8, w8 = w1.alloc (.cells (madeCells #[.int .i64 0] fl) 3) := ⟨_, rfl⟩
  have HAR0 : Hid (Arr w8 gb (intsOf (List.replicate fl 0))) := by
    rw [hw8, hgb, show intsOf (List.replicate fl 0) = List.replicate fl 0 by simp [intsOf]]
    exact Arr.made w1 fl
  have HB8 : Hid (Below w.heap.size w w8) := by rw [hw8]; exact below_step HB1.out (Nat.le_refl _) (below_alloc _ _)
  rw [← hw8, ← hgb]
  clear hw8 hgb HB1
  go_loopg [14] n (fun g t wr => ∃ (i : Nat) (G : List Nat), i ≤ n ∧ n - i ≤ g ∧ t = .int .i64 (i : Int) ∧ RowsTo Q i 0 G ∧ Arr wr gb (intsOf G) ∧ Below w.heap.size w wr)
  case atStart =>
    refine ⟨0, List.replicate fl 0, Nat.zero_le _, by omega, rfl, ⟨by rw [List.length_replicate, HFL.out], fun i' y hy => ?_⟩, HAR0.out, HB8.out⟩
    rcases hy with ⟨h1, _⟩ | ⟨_, h1⟩
    · omega
    · simp at h1
  case round =>
    obtain ⟨i, G, hi, hg, rfl, hrt, har, hb⟩ := hrel
    have HRT := hid hrt
    have HAR := hid har
    have HB := hid hb
    clear hrt har hb HAR0 HB8
    by_cases hlt : i < n
    · obtain ⟨b1, o1, Aj, nj, cj, rfl, g1, hI1, hc1⟩ := (H.out.keep HB.out).at hlt
      have HLJ := hid hI1.len
      have hnj : nj ≤ 10 := by
        have h1 := length_le_flat2 Q i
        have h2 := hI1.len
        have h3 := HFL.out
        omega
      have HIJ := hid ((H.out).at hlt)
      obtain ⟨b1', o1', Aj', nj', cj', e1, g1', hI1', _⟩ := H.out.at hlt
      have hsame : Aj' = Aj ∧ nj' = nj := by
        injection e1 with e1
        injection e1 with e2 e3
        subst e2
        subst e3
        obtain ⟨b9, o9, e9, hl9, _⟩ := H.out.row (by omega)
        injection e9 with e9
        injection e9 with e9 _
        have := (HB.out.cell (p := ⟨b1, o1 + i, none⟩) (by rw [e9]; exact hl9)).symm.trans g1
        rw [g1'] at this
        injection this with this
        injection this with t1 t2 t3
        exact ⟨t1, t2⟩
      obtain ⟨rfl, rfl⟩ := hsame
      have HI0 := hid hI1'
      clear hI1 hI1' hc1 e1 g1' HIJ
      go_wp2
      obtain ⟨w9, hw9⟩ : ∃ w9, w9 = wr := ⟨_, rfl⟩
      rw [← hw9] at HAR HB
      rw [← hw9]
      clear hw9 g1
      go_loopg [21] nj' (fun g t wq => ∃ (k : Nat) (G2 : List Nat), k ≤ nj' ∧ nj' - k ≤ g ∧ t = .int .i64 (k : Int) ∧ RowsTo Q i k G2 ∧ Arr wq gb (intsOf G2) ∧ Below w.heap.size w wq)
      case atStart => exact ⟨0, G, Nat.zero_le _, by omega, rfl, HRT.out, HAR.out, HB.out⟩
      case round =>
        obtain ⟨k, G2, hk, hg2, rfl, hrt, har, hb⟩ := hrel
        have HRT2 := hid hrt
        have HAR2 := hid har
        have HB2 := hid hb
        clear hrt har hb HRT HAR HB
        by_cases hlt2 : k < nj'
        · obtain ⟨b2, o2, rfl, hbb2, hc2⟩ := (HI0.out.keep HB2.out).row (by omega)
          have g2 := hc2 k hlt2
          have hkl : k < (Q.getD i []).length := by rw [HLJ.out]; exact hlt2
          have HST := hid (HRT2.out.step HD.out HBD.out hkl)
          obtain ⟨y1, y2⟩ := HBD.out _ (flat_mem (getD_mem0 hkl))
          rw [← HFL.out] at y2
          clear hc2
          generalize hyy : (Q.getD i []).getD k 0 = yy at *
          obtain ⟨y, rfl⟩ := Int.eq_ofNat_of_zero_le y1
          have hyf : y < fl := by omega
          have hlen : (intsOf G2).length = fl := by unfold intsOf; rw [List.length_map, HRT2.out.1, HFL.out]
          have g3 := HAR2.out.cell (j := y) (by rw [hlen]; exact hyf)
          have f3 := HAR2.out.frozen y
          have HAS := hid (HAR2.out.set y (i : Int))
          rw [← intsOf_set] at HAS
          have hwl := HW0.out
          clear hyy y1 y2 hkl hlen
          generalize (intsOf G2).getD y 0 = oldv at *
          go_wp2
          go_roundg (nj' - (k + 1))
          case measure => omega
          case rel => exact ⟨k + 1, _, by omega, by omega, by go_num, HST.out, by rw [Int.toNat_natCast]; exact HAS.out, HB2.out.setCell (show w.heap.size ≤ gb from hwl) _⟩
        · have hkj : k = nj' := by omega
          subst hkj
          have HNX := hid (RowsTo.next (Q := Q) (i := i) (G := G2) (by rw [HLJ.out]; exact HRT2.out))
          go_wp2
          go_roundg (n - (i + 1))
          case measure => omega
          case rel => exact ⟨i + 1, G2, by omega, by omega, by go_num, HNX.out, HAR2.out, HB2.out⟩
    · have hin : i = n := by omega
      subst hin
      have HDN := hid (RowsTo.done (Q := Q) (G := G) (by rw [HL.out]; exact HRT.out))
      go_wp2
      go_ret
      exact ⟨gb, G, rfl, HDN.out, HW0.out, HAR.out, HB.out⟩

end Go.Proofs.Yteffbhdhldilnaa
