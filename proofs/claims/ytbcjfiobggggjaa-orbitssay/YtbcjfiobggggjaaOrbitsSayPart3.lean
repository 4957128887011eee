/-
  Texts joined: OrbN, OrbQ, Idx, RefE, RefA, OrbJ, OrbC, SortZ, SortO, RefC, OrbD, OrbF, OrbE, Alk.
-/
import Derived.Test.YtbcjfiobggggjaaOrbitsSayPart2
import Derived.Lib.SliceRun
import Derived.WalkKit
import Derived.Deep.LoopGhost
import Derived.Shelf.Abstract
import Derived.Deep.Draws

/-
  orbits.Least, castref.LeastOf: the least row that the group makes of one.
-/
namespace Go.Proofs.Ytbcjfiobggggjaa
open Go.RowKit

/-! ### 'group[1:]' -/
set_option maxRecDepth 100000 in
theorem sizeRowO : ∀ w, (Go.sizeOf 23).run Try.prog w = .ok 1 w := by
  exact fun _ => by kernel_rfl
theorem run_fromO (A : Option Addr) (n c l : Nat) (L : Int) (hL : L = (l : Int)) (hl : l ≤ n) (W : World) :
    (Instr.slice 22 (.slice A n c) (some (.int .i64 L)) none none).run Try.prog W = .ok (.slice (subA A c l) (n - l) (c - l)) W := by
  subst hL
  have ht' : Try.prog.underlying 22 = some (.slice (Try.prog.elem 22)) := by simp [Program.elem, Try.underlying22]
  have he : Try.prog.elem 22 = 23 := by simp [Program.elem, Try.underlying22]
  rw [run_slice_l W _ _ _ _ ht' .i64 _ (by omega) (by omega), he, sizeRowO]
  simp [Result.andThen, sliced, subA]
theorem RRows.drop {w : World} {A : Option Addr} {n c l : Nat} {T : List (List Int)} (h : RRows w A n T) (hl : l ≤ n) (hc : n ≤ c) : RRows w (subA A c l) (n - l) (T.drop l) := by
  refine ⟨by rw [List.length_drop, h.len], fun hp => ?_⟩
  obtain ⟨b, o, rfl, hb, hcell⟩ := h.row (by omega)
  refine ⟨b, o + l, ?_, hb, fun j hj => ?_⟩
  · unfold subA
    rw [if_neg (by omega)]
    simp only [Option.map_some, Addr.add]
    by_cases h0 : l = 0
    · subst h0
      rfl
    · rw [if_neg h0]
  · have := hcell (l + j) (by omega)
    rw [show o + l + j = o + (l + j) by omega]
    simpa [List.getD_eq_getElem?_getD] using this

theorem LeastOn.length {S : List (List Int)} {row b : List Int} {k : Nat} (h : LeastOn S row b) (hS : ∀ p, p ∈ S → p.length = k) : b.length = k := by
  obtain ⟨p, hp, rfl⟩ := h.orb
  rw [length_mv, hS p hp]

/-- The least row comes back. -/
def RetLeast (w : World) (k : Nat) (L : List (List Int)) (row : List Int) (e : Ending) (w' : World) : Prop := ∃ v b, e = .returned (.tuple #[v, .int .i64 0]) ∧ LeastRow k L row b ∧ OwnInts w' w.heap.size v b ∧ Below w.heap.size w w'

theorem least_bad (A : Option Addr) (m c : Nat) (B : Option Addr) (q d : Nat) (L : List (List Int)) (n : Int) (w : World) (h : RRows w A m L) (hm : m ≤ 9223372036854775807) (he : orbE n L ≠ 0) :
    Calls Try.prog 11 #[.int .i64 n, .slice A m c, .slice B q d] w fun e w' => e = .returned (.tuple #[.slice none 0 0, .int .i64 (orbE n L)]) ∧ Below w.heap.size w w' := by
  have e1 : (orbE n L != 0) = true := by simp [he]
  have hc := group_bad A m c L n w h hm he
  clear h he
  generalize orbE n L = z at *
  go_enter Try.func11, Try.ntmps11
  go_wp2_with fail
  refine hc.mono ?_
  rintro e w1 ⟨rfl, hb1⟩
  have HB1 := hid hb1
  clear hb1
  go_wp2
  go_ret2
  exact ⟨rfl, HB1.out⟩

theorem least_form (A : Option Addr) (m c : Nat) (B : Option Addr) (q d : Nat) (L : List (List Int)) (k : Nat) (w : World) (h : RRows w A m L) (he : orbE (k : Int) L = 0) (hq : q ≠ k) :
    Calls Try.prog 11 #[.int .i64 (k : Int), .slice A m c, .slice B q d] w fun e w' => e = .returned (.tuple #[.slice none 0 0, .int .i64 3]) ∧ Below w.heap.size w w' := by
  have e1 : ((q : Int) != (k : Int)) = true := by simp; omega
  have hc := group_ok A m c L k w h he
  clear h he
  go_enter Try.func11, Try.ntmps11
  go_wp2_with fail
  refine hc.mono ?_
  rintro e w1 ⟨v, T, rfl, _, hr, hb1⟩
  obtain ⟨A1, c1, rfl, _⟩ := hr.form
  have HB1 := hid hb1
  clear hb1 hr hc
  go_wp2
  go_ret2
  exact ⟨rfl, HB1.out⟩

set_option maxRecDepth 100000 in
set_option maxHeartbeats 1600000 in
theorem least_ok (A : Option Addr) (m c : Nat) (B : Option Addr) (d : Nat) (L : List (List Int)) (k : Nat) (row : List Int) (w : World) (h : RRows w A m L) (hB : Ints w B k row) (he : orbE (k : Int) L = 0) :
    Calls Try.prog 11 #[.int .i64 (k : Int), .slice A m c, .slice B k d] w (RetLeast w k L row) := by
  have hc := group_ok A m c L k w h he
  obtain ⟨k', hk1, hk6, _, hgood⟩ := orbE_zero he
  have hkk : k = k' := by omega
  subst hkk
  have HOr := hid (show Orders k L from hgood)
  have HRW := hid hB.len
  clear h he hk1 hgood
  have e1 : ((k : Int) != (k : Int)) = false := by simp
  go_enter Try.func11, Try.ntmps11
  go_wp2_with fail
  refine hc.mono ?_
  rintro e w1 ⟨v, T, rfl, hG, hr, hb1⟩
  have hB1 := hB.keep hb1
  obtain ⟨A1, c1, ev, hR1, hcp1, _⟩ := hr.rrows
  subst ev
  have HG := hid hG
  have HB1 := hid hb1
  have hTL := Nat.le_trans (hG.length_le HOr.out) (Nat.le_trans (fact_mono hk6) (show fact 6 ≤ 720 by decide))
  have hT0 := hG.pos
  have HOK := hid (fun p (hp : p ∈ T) => hG.ok HOr.out hp)
  obtain ⟨b0, off0, Aj, nj, cj, eA, hcell0, hI0, _⟩ := hR1.at hT0
  rw [Nat.add_zero] at hcell0
  have hk0 : k = nj := by rw [← hI0.len, (HOK.out _ (getD_mem_rows hT0)).1]
  subst hk0
  have hfrom := run_fromO A1 T.length c1 1 1 rfl (by omega)
  have HR1 := hid (hR1.drop (l := 1) (by omega) hcp1.1)
  generalize hA2 : subA A1 c1 1 = A2 at hfrom HR1
  have HA2 := hid hA2
  have hm0 := moved_ok B k d Aj cj row (T.getD 0 []) w1 hB1 hI0 (HOK.out _ (getD_mem_rows hT0)).2 (by omega)
  subst eA
  clear hb1 hr hc hG hR1 hB hA2 hI0
  go_wp2_with fail
  refine hm0.mono ?_
  rintro e w2 ⟨v2, rfl, ho2, hb2⟩
  obtain ⟨A3, c3, e3, _⟩ := ho2.ints
  rw [length_mv, (HOK.out _ (getD_mem_rows hT0)).1] at e3
  subst e3
  have HO2 := hid (ho2.mono HB1.out.size)
  have HB2 := hid (below_step HB1.out (Nat.le_refl _) hb2)
  have HR2 := hid (HR1.out.keep hb2)
  have HBI := hid (hB1.keep hb2)
  have HL0 : Hid (LeastOn (T.take 1) row (mv (T.getD 0 []) row)) := by
    show LeastOn (T.take 1) row (mv (T.getD 0 []) row)
    rw [take_snocR hT0]
    exact LeastOn.first _ _
  clear hb2 ho2 hm0 hB1 HR1 hcell0
  have hTl : T.length - 1 ≤ 719 := by omega
  go_wp2_with fail
  go_loopg [10, 35] (T.length - 1) (fun g v s wr => ∃ j b A9 c9, j ≤ T.length - 1 ∧ T.length - 1 - j ≤ g ∧ s = .int .i64 (j : Nat) ∧ v = .slice A9 k c9 ∧ b.length = k ∧ LeastOn (T.take (j + 1)) row b ∧ OwnInts wr w.heap.size v b ∧ Below w2.heap.size w2 wr)
  case atStart => exact ⟨0, _, A3, c3, Nat.zero_le _, by omega, rfl, rfl, by rw [length_mv]; exact (HOK.out _ (getD_mem_rows hT0)).1, HL0.out, HO2.out, Below.refl _ _⟩
  case round =>
    clear HO2 HL0
    obtain ⟨j, b, A9, c9, hj, hg, rfl, rfl, hbl, hlo, hown, hbel⟩ := hrel
    have HLO := hid hlo
    have HOW := hid hown
    have HB := hid (below_step HB2.out (Nat.le_refl _) hbel)
    have HBL := hid hbl
    have hbel0 := hid hbel
    have hBI := HBI.out.keep hbel
    have hRR := HR2.out.keep hbel
    clear hlo hown hbel hbl
    by_cases hlt : j < T.length - 1
    · obtain ⟨b5, off5, Aj, nj, cj, eA, hcell, hI, hcap⟩ := hRR.at hlt
      subst eA
      have hj1 : j + 1 < T.length := by omega
      have hgd : (T.drop 1).getD j [] = T.getD (j + 1) [] := by simp [List.getD_eq_getElem?_getD]
      rw [hgd] at hI
      have hOk := HOK.out _ (getD_mem_rows hj1)
      have hk0 : k = nj := by rw [← hI.len, hOk.1]
      subst hk0
      have hm0 := moved_ok B k d Aj cj row (T.getD (j + 1) []) wr hBI hI hOk.2 (by omega)
      have HP := hid hOk
      have HTS := hid (take_snocR hj1)
      clear hOk hI hcap hgd hRR hBI
      generalize T.getD (j + 1) [] = p at *
      go_wp2_with fail
      refine hm0.mono ?_
      rintro e w4 ⟨v4, rfl, ho4, hb4⟩
      obtain ⟨A4, c4, e4, hI4, _⟩ := ho4.ints
      rw [length_mv, HP.out.1] at e4 hI4
      subst e4
      have HO4 := hid (ho4.mono HB.out.size)
      have HOW4 := hid (HOW.out.keep hb4)
      have hI8 := HOW4.out.asInts.1
      have HB4 := hid (below_step HB.out (Nat.le_refl _) hb4)
      have HBW := hid ((below_step hbel0.out (Nat.le_refl _) hb4))
      have hcp := compareL_any A4 k c4 A9 c9 (mv p row) b w4 hI4 hI8 (by omega)
      have HYES := hid (fun h9 : cmpL (mv p row) b < 0 => HLO.out.less h9)
      have HNO := hid (fun h9 : ¬ cmpL (mv p row) b < 0 => HLO.out.more h9)
      have HLM : Hid ((mv p row).length = k) := by show (mv p row).length = k; rw [length_mv, HP.out.1]
      clear hb4 ho4 hm0 hI4 hI8 hcell HLO
      generalize hcv : cmpL (mv p row) b = cv at *
      by_cases hneg : cv < 0
      · have d0 : decide (cv < 0) = true := by simp [hneg]
        have HY2 := hid (HYES.out hneg)
        clear hneg HYES HNO hcv
        go_wp2_with fail
        refine hcp.mono ?_
        rintro e w5 ⟨rfl, rfl⟩
        clear hcp
        go_wp2
        go_roundg (T.length - 1 - (j + 1))
        case measure => omega
        case rel => exact ⟨j + 1, _, A4, c4, by omega, by omega, by go_num, rfl, HLM.out, by rw [HTS.out]; exact HY2.out, HO4.out, HBW.out⟩
      · have d0 : decide (cv < 0) = false := by simp; omega
        have HN2 := hid (HNO.out hneg)
        clear hneg HYES HNO hcv
        go_wp2_with fail
        refine hcp.mono ?_
        rintro e w5 ⟨rfl, rfl⟩
        clear hcp
        go_wp2
        go_roundg (T.length - 1 - (j + 1))
        case measure => omega
        case rel => exact ⟨j + 1, b, A9, c9, by omega, by omega, by go_num, rfl, HBL.out, by rw [HTS.out]; exact HN2.out, HOW4.out, HBW.out⟩
    · have hjl : j = T.length - 1 := by omega
      subst hjl
      have HE : Hid (LeastRow k L row b) := by
        have := HLO.out
        rw [show T.length - 1 + 1 = T.length by omega, List.take_length] at this
        exact this.whole HG.out
      clear hRR hBI
      go_wp2
      go_ret2
      exact ⟨_, b, rfl, HE.out, HOW.out, HB.out⟩

def RetOwnLeast (w : World) (k : Nat) (L : List (List Int)) (row : List Int) (e : Ending) (w' : World) : Prop := ∃ b, LeastRow k L row b ∧ RetOwn w b e w'

set_option maxRecDepth 100000 in
set_option maxHeartbeats 1600000 in
theorem refLeast_ok (A : Option Addr) (c : Nat) (B : Option Addr) (d : Nat) (L T : List (List Int)) (k : Nat) (row : List Int) (w : World) (h : RRows w A T.length T) (hB : Ints w B k row) (hG : GroupOf k L T) (hL : Orders k L) (hk6 : k ≤ 6) :
    Calls Try.prog 18 #[.slice A T.length c, .slice B k d] w (RetOwnLeast w k L row) := by
  have HG := hid hG
  have hTL := Nat.le_trans (hG.length_le hL) (Nat.le_trans (fact_mono hk6) (show fact 6 ≤ 720 by decide))
  have HOK := hid (fun p (hp : p ∈ T) => hG.ok hL hp)
  have HRW := hid hB.len
  have hc := clone_any B k d row w hB (by omega)
  have HH := hid h
  have HBI := hid hB
  clear h hB hG hL
  go_enter Try.func18, Try.ntmps18
  go_wp2_with fail
  refine hc.mono ?_
  rintro e w2 ⟨v2, rfl, ho2, hb2⟩
  obtain ⟨A3, c3, e3, _⟩ := ho2.ints
  rw [HRW.out] at e3
  subst e3
  have HO2 := hid ho2
  have HB2 := hid hb2
  clear hc hb2 ho2
  go_wp2_with fail
  go_loopg [5, 13] T.length (fun g v s wr => ∃ j b A9 c9, j ≤ T.length ∧ T.length - j ≤ g ∧ s = .int .i64 (j : Nat) ∧ v = .slice A9 k c9 ∧ b.length = k ∧ LeastOn (iota k :: T.take j) row b ∧ OwnInts wr w.heap.size v b ∧ Below w.heap.size w wr)
  case atStart => exact ⟨0, row, A3, c3, Nat.zero_le _, by omega, rfl, rfl, HRW.out, by have := LeastOn.first (iota k) row; rwa [mv_one HRW.out] at this, HO2.out, HB2.out⟩
  case round =>
    clear HO2 HB2
    obtain ⟨j, b, A9, c9, hj, hg, rfl, rfl, hbl, hlo, hown, hbel⟩ := hrel
    have HLO := hid hlo
    have HOW := hid hown
    have HB := hid hbel
    have HBL := hid hbl
    have hBI := HBI.out.keep hbel
    have hRR := HH.out.keep hbel
    clear hlo hown hbel hbl
    by_cases hlt : j < T.length
    · obtain ⟨b5, off5, Aj, nj, cj, eA, hcell, hI, hcap⟩ := hRR.at hlt
      subst eA
      have hOk := HOK.out _ (getD_mem_rows hlt)
      have hk0 : k = nj := by rw [← hI.len, hOk.1]
      subst hk0
      have hm0 := refMoved_ok B k d Aj cj row (T.getD j []) wr hBI hI hOk.2 (by omega)
      have HP := hid hOk
      have HTS := hid (take_snocR hlt)
      clear hOk hI hcap hRR hBI
      generalize T.getD j [] = p at *
      go_wp2_with fail
      refine hm0.mono ?_
      rintro e w4 ⟨v4, rfl, ho4, hb4⟩
      obtain ⟨A4, c4, e4, hI4, _⟩ := ho4.ints
      rw [length_mv, HP.out.1] at e4 hI4
      subst e4
      have HO4 := hid (ho4.mono HB.out.size)
      have HOW4 := hid (HOW.out.keep hb4)
      have hI8 := HOW4.out.asInts.1
      have HB4 := hid (below_step HB.out (Nat.le_refl _) hb4)
      have hcp := compareL_any A4 k c4 A9 c9 (mv p row) b w4 hI4 hI8 (by omega)
      have HYES := hid (fun h9 : cmpL (mv p row) b < 0 => HLO.out.less h9)
      have HNO := hid (fun h9 : ¬ cmpL (mv p row) b < 0 => HLO.out.more h9)
      have HLM : Hid ((mv p row).length = k) := by show (mv p row).length = k; rw [length_mv, HP.out.1]
      clear hb4 ho4 hm0 hI4 hI8 hcell HLO
      generalize hcv : cmpL (mv p row) b = cv at *
      by_cases hneg : cv < 0
      · have d0 : decide (cv < 0) = true := by simp [hneg]
        have HY2 := hid (HYES.out hneg)
        clear hneg HYES HNO hcv
        go_wp2_with fail
        refine hcp.mono ?_
        rintro e w5 ⟨rfl, rfl⟩
        clear hcp
        go_wp2
        go_roundg (T.length - (j + 1))
        case measure => omega
        case rel => exact ⟨j + 1, _, A4, c4, by omega, by omega, by go_num, rfl, HLM.out, by rw [HTS.out]; exact HY2.out, HO4.out, HB4.out⟩
      · have d0 : decide (cv < 0) = false := by simp; omega
        have HN2 := hid (HNO.out hneg)
        clear hneg HYES HNO hcv
        go_wp2_with fail
        refine hcp.mono ?_
        rintro e w5 ⟨rfl, rfl⟩
        clear hcp
        go_wp2
        go_roundg (T.length - (j + 1))
        case measure => omega
        case rel => exact ⟨j + 1, b, A9, c9, by omega, by omega, by go_num, rfl, HBL.out, by rw [HTS.out]; exact HN2.out, HOW4.out, HB4.out⟩
    · have hjl : j = T.length := by omega
      subst hjl
      have HE : Hid (LeastRow k L row b) := by
        have h1 := HLO.out
        rw [List.take_length] at h1
        have h2 : LeastOn T row b := ⟨by
          obtain ⟨p, hp, e⟩ := h1.orb
          rcases List.mem_cons.1 hp with e2 | h3
          · exact ⟨p, by rw [e2]; exact HG.out.one, e⟩
          · exact ⟨p, h3, e⟩, fun p hp => h1.le p (List.mem_cons_of_mem _ hp)⟩
        exact h2.whole HG.out
      clear hRR hBI
      go_wp2
      go_ret
      exact ⟨b, HE.out, _, rfl, HOW.out, HB.out⟩

end Go.Proofs.Ytbcjfiobggggjaa

/-
  Rows of the call's own: one of them put in another's place; the first ones of them; slices.CompactFunc by slices.Equal.
-/
namespace Go.Proofs.Ytbcjfiobggggjaa
open Go.RowKit

/-! ### What is left of a list when no row stands behind its like -/
def cpU (T : List (List Int)) : Nat → List (List Int)
  | 0 => []
  | j + 1 => if 0 < j ∧ T.getD j [] = T.getD (j - 1) [] then cpU T j else cpU T j ++ [T.getD j []]

theorem cpU_one (T : List (List Int)) : cpU T 1 = [T.getD 0 []] := by simp [cpU]
theorem cpU_same {T : List (List Int)} {j : Nat} (h0 : 0 < j) (h : T.getD j [] = T.getD (j - 1) []) : cpU T (j + 1) = cpU T j := by
  show (if 0 < j ∧ T.getD j [] = T.getD (j - 1) [] then cpU T j else _) = _
  rw [if_pos ⟨h0, h⟩]
theorem cpU_new {T : List (List Int)} {j : Nat} (h : T.getD j [] ≠ T.getD (j - 1) []) : cpU T (j + 1) = cpU T j ++ [T.getD j []] := by
  show (if 0 < j ∧ T.getD j [] = T.getD (j - 1) [] then cpU T j else _) = _
  rw [if_neg (fun h' => h h'.2)]
theorem length_cpU (T : List (List Int)) : ∀ j, (cpU T j).length ≤ j
  | 0 => Nat.le_refl _
  | j + 1 => by
    have := length_cpU T j
    simp only [cpU]
    split
    · omega
    · rw [List.length_append, List.length_singleton]; omega
theorem mem_cpU {T : List (List Int)} {x : List Int} : ∀ j, j ≤ T.length → (x ∈ cpU T j ↔ x ∈ T.take j)
  | 0, _ => by simp [cpU]
  | j + 1, h => by
    have ih := mem_cpU (T := T) (x := x) j (by omega)
    rw [take_snocR (T := T) (j := j) (by omega), List.mem_append, List.mem_singleton]
    by_cases e : 0 < j ∧ T.getD j [] = T.getD (j - 1) []
    · rw [cpU_same e.1 e.2, ih]
      constructor
      · exact Or.inl
      · rintro (h1 | h1)
        · exact h1
        · rw [h1, e.2]
          have hj : j - 1 < T.length := by omega
          have : T.getD (j - 1) [] ∈ T.take (j - 1 + 1) := by rw [take_snocR hj]; simp
          rwa [show j - 1 + 1 = j by omega] at this
    · have e2 : cpU T (j + 1) = cpU T j ++ [T.getD j []] := by
        show (if 0 < j ∧ T.getD j [] = T.getD (j - 1) [] then cpU T j else _) = _
        rw [if_neg e]
      rw [e2, List.mem_append, List.mem_singleton, ih]
/-- While no two neighbours are alike, all stay. -/
theorem cpU_take {T : List (List Int)} : ∀ {k : Nat}, k ≤ T.length → (∀ i, 0 < i → i < k → T.getD i [] ≠ T.getD (i - 1) []) → cpU T k = T.take k
  | 0, _, _ => by simp [cpU]
  | k + 1, hk, h => by
    have ih := cpU_take (T := T) (k := k) (by omega) (fun i h0 hi => h i h0 (by omega))
    rw [take_snocR (T := T) (j := k) (by omega)]
    rcases Nat.eq_zero_or_pos k with e | e
    · subst e
      simp [cpU]
    · rw [cpU_new (h k e (by omega)), ih]

/-- Of rows in order, those that are left rise. -/
theorem cpU_rises {n : Nat} {T : List (List Int)} (hr : Rising T) (ho : Orders n T) : ∀ j, j < T.length → ∃ I, cpU T (j + 1) = I ++ [T.getD j []] ∧ (cpU T (j + 1)).Pairwise (fun a b => rk a < rk b)
  | 0, h => ⟨[], by simp [cpU], by simp [cpU]⟩
  | j + 1, h => by
    obtain ⟨I, hI, hp⟩ := cpU_rises hr ho j (by omega)
    by_cases e : T.getD (j + 1) [] = T.getD (j + 1 - 1) []
    · rw [cpU_same (by omega) e]
      exact ⟨I, by rw [e]; exact hI, hp⟩
    · rw [cpU_new e]
      refine ⟨_, rfl, List.pairwise_append.2 ⟨hp, by simp, fun a ha b hb => ?_⟩⟩
      rw [List.mem_singleton.1 hb]
      have hA := ho _ (getD_mem_rows (show j < T.length by omega))
      have hB := ho _ (getD_mem_rows h)
      have hlt : rk (T.getD j []) < rk (T.getD (j + 1) []) := by
        have h1 := List.pairwise_iff_getElem.1 hr j (j + 1) (by omega) h (by omega)
        have e1 : T[j]'(by omega) = T.getD j [] := by rw [List.getD_eq_getElem?_getD, List.getElem?_eq_getElem (by omega)]; rfl
        have e2 : T[j + 1] = T.getD (j + 1) [] := by rw [List.getD_eq_getElem?_getD, List.getElem?_eq_getElem h]; rfl
        rw [e1, e2, cmp_lt (hB.2.perm hA.2 (hB.1.trans hA.1.symm))] at h1
        have h2 : rk (T.getD j []) ≠ rk (T.getD (j + 1) []) := fun e3 => e (rk_inj (hB.2.perm hA.2 (hB.1.trans hA.1.symm)) e3.symm)
        omega
      rw [hI] at ha hp
      rcases List.mem_append.1 ha with h3 | h3
      · have := (List.pairwise_append.1 hp).2.2 a h3 (T.getD j []) (by simp)
        omega
      · rw [List.mem_singleton.1 h3]
        exact hlt

/-! ### Rows in their block -/
/-- Another row at place j. -/
theorem BRows.set {w : World} {base g n cap : Nat} {T : List (List Int)} (h : BRows w base (.slice (some ⟨g, 0, none⟩) n cap) T) {j : Nat} (hj : j < T.length) {u : Value} {ys : List Int} (hu : OwnInts w base u ys) : BRows (w.setCell ⟨g, j, none⟩ u) base (.slice (some ⟨g, 0, none⟩) n cap) (T.set j ys) := by
  obtain ⟨vals, hl, ho, hr⟩ := h
  obtain rfl : n = vals.length := by
    rcases ho.2 with ⟨e, _⟩ | ⟨g', cap', cur, e, _⟩
    · cases e
    · injection e
  have hst := World.ownsRow.stored ho j u
  refine ⟨vals.set j u, by simp [hl], by rw [List.length_set]; exact hst.1, fun i hi => ?_⟩
  rw [List.length_set] at hi
  have hg : w.grownBy (w.setCell ⟨g, j, none⟩ u) (Value.slice (some ⟨g, 0, none⟩) vals.length cap).ownBlock := only_set (one_refl w _) j u
  rw [getD_setV u (by rw [hl]; exact hj), getD_setT ys hj]
  by_cases e : i = j
  · rw [if_pos e, if_pos e]
    exact hu.other ho hg
  · rw [if_neg e, if_neg e]
    exact (hr i hi).other ho hg

/-- The first ones. -/
theorem BRows.first {w : World} {base g n cap : Nat} {T : List (List Int)} (h : BRows w base (.slice (some ⟨g, 0, none⟩) n cap) T) {k : Nat} (hk : k ≤ T.length) : BRows w base (.slice (some ⟨g, 0, none⟩) k cap) (T.take k) := by
  obtain ⟨vals, hl, ho, hr⟩ := h
  have hlk : (vals.take k).length = k := by rw [List.length_take]; omega
  refine ⟨vals.take k, by rw [hlk, List.length_take]; omega, ?_, fun i hi => ?_⟩
  · rw [hlk]
    rcases ho.2 with ⟨e, _⟩ | ⟨g', cap', cur, e, hb, hh, h1, h2, h3, h4⟩
    · cases e
    · injection e with e1 e2 e3
      injection e1 with e1
      injection e1 with e1
      subst e1
      subst e3
      refine ⟨by rw [hlk, Nat.mul_one], .inr ⟨g, cap, cur, rfl, hb, hh, by omega, h2, h3, ?_⟩⟩
      rw [Nat.mul_one] at h4 ⊢
      rw [← h4, List.take_take, Nat.min_eq_left (by omega)]
  · rw [List.length_take] at hi
    have := hr i (by omega)
    have e1 : (vals.take k).getD i (.slice none 0 0) = vals.getD i (.slice none 0 0) := by
      simp only [List.getD_eq_getElem?_getD, List.getElem?_take]
      rw [if_pos (by omega)]
    have e2 : (T.take k).getD i [] = T.getD i [] := by
      simp only [List.getD_eq_getElem?_getD, List.getElem?_take]
      rw [if_pos (by omega)]
    rw [e1, e2]
    exact this

/-- What stands behind them is something else now. -/
theorem BRows.behind {w : World} {base g k cap : Nat} {T : List (List Int)} (h : BRows w base (.slice (some ⟨g, 0, none⟩) k cap) T) {i : Nat} (hi : k ≤ i) (u : Value) : BRows (w.setCell ⟨g, i, none⟩ u) base (.slice (some ⟨g, 0, none⟩) k cap) T := by
  obtain ⟨vals, hl, ho, hr⟩ := h
  have hg : w.grownBy (w.setCell ⟨g, i, none⟩ u) (Value.slice (some ⟨g, 0, none⟩) k cap).ownBlock := only_set (one_refl w _) i u
  have hkl : k = vals.length := by
    rcases ho.2 with ⟨e, _⟩ | ⟨g', cap', cur, e, _⟩
    · cases e
    · injection e
  subst hkl
  have hst := (World.ownsRow.stored ho i u).1
  rw [List.set_eq_of_length_le (by omega)] at hst
  exact ⟨vals, hl, hst, fun j hj => (hr j hj).other ho hg⟩
theorem BRows.behinds {base g k cap : Nat} {T : List (List Int)} : ∀ {us : List Value} {w : World} {i : Nat}, BRows w base (.slice (some ⟨g, 0, none⟩) k cap) T → k ≤ i → BRows (w.setCells g i us) base (.slice (some ⟨g, 0, none⟩) k cap) T
  | [], _, _, h, _ => h
  | u :: us, _, i, h, hi => BRows.behinds (us := us) (h.behind hi u) (by omega)

theorem getD_drop_eq {T U : List (List Int)} {k : Nat} (h : T.drop k = U.drop k) {i : Nat} (hi : k ≤ i) : T.getD i [] = U.getD i [] := by
  have e : (T.drop k).getD (i - k) [] = (U.drop k).getD (i - k) [] := by rw [h]
  simp only [List.getD_eq_getElem?_getD, List.getElem?_drop] at e ⊢
  rwa [show k + (i - k) = i by omega] at e

theorem take_set_one {T : List (List Int)} {k : Nat} (x : List Int) (hk : k < T.length) : (T.set k x).take (k + 1) = T.take k ++ [x] := by
  rw [take_snocR (by rw [List.length_set]; exact hk), List.take_set_of_le (Nat.le_refl _), getD_setT x hk, if_pos rfl]

/-! ### slices.CompactFunc -/
def RetCompact (w : World) (base : Nat) (v : Value) (T : List (List Int)) (e : Ending) (w' : World) : Prop := ∃ v', e = .returned v' ∧ BRows w' base v' (cpU T T.length) ∧ w.grownBy w' v.ownBlock

theorem run_sliceAt (g N cap k : Nat) (hk : k < cap) (hkN : k ≤ N) (W : World) :
    (Instr.slice 22 (.slice (some ⟨g, 0, none⟩) N cap) (some (.int .i64 (k : Int))) none none).run Try.prog W = .ok (.slice (some ⟨g, k, none⟩) (N - k) (cap - k)) W := by
  rw [run_fromO (some ⟨g, 0, none⟩) N cap k (k : Int) rfl hkN]
  unfold subA
  rw [if_neg (by omega)]
  simp only [Option.map_some, Addr.add]
  by_cases h0 : k = 0
  · subst h0
    rfl
  · rw [if_neg h0, Nat.zero_add]

set_option maxRecDepth 100000 in
set_option maxHeartbeats 1600000 in
theorem compactF_any (base n : Nat) (v : Value) (T : List (List Int)) (w : World) (h : BRows w base v T) (h0 : 0 < T.length) (hN : T.length ≤ 1000000) (hn : n ≤ 1000000) (hT : ∀ j, j < T.length → (T.getD j []).length = n) :
    Calls Try.prog 51 #[v, .func (.func 15) #[] #[]] w (RetCompact w base v T) := by
  obtain ⟨g, cap, u0, ev, hbg, hgl, _⟩ := h.at h0
  subst ev
  have hcap : T.length ≤ cap ∧ cap ≤ 9223372036854775807 := by
    obtain ⟨A, c, e, hc⟩ := h.form
    injection e with e1 e2 e3
    rw [e3]
    exact hc
  obtain ⟨hc1, hc2⟩ := hcap
  have HT := hid hT
  have HR := hid h
  clear h hT
  by_cases h1 : T.length = 1
  · have HE : Hid (cpU T T.length = T) := by
      show cpU T T.length = T
      rw [cpU_take (Nat.le_refl _) (fun i hi hi2 => by omega), List.take_length]
    go_enter Try.func51, Try.ntmps51
    go_wp2
    go_ret
    exact ⟨_, rfl, by rw [HE.out]; exact HR.out, one_refl _ _⟩
  have h2 : 2 ≤ T.length := by omega
  clear h0 h1
  go_enter Try.func51, Try.ntmps51
  go_wp2_with fail
  go_loopg [5] T.length (fun gg s wr => ∃ k : Nat, 1 ≤ k ∧ k ≤ T.length ∧ T.length - k ≤ gg ∧ s = .int .i64 (k : Nat) ∧ (∀ i, 0 < i → i < k → T.getD i [] ≠ T.getD (i - 1) []) ∧ BRows wr base (.slice (some ⟨g, 0, none⟩) T.length cap) T ∧ w.grownBy wr (some g))
  case atStart => exact ⟨1, Nat.le_refl _, by omega, by omega, rfl, fun i h3 h4 => by omega, HR.out, one_refl _ _⟩
  case round =>
    obtain ⟨k, hk1, hk, hg, rfl, hne, hrw, hq⟩ := hrel
    have HNE := hid hne
    have HR1 := hid hrw
    have HQ := hid hq
    clear hne hq hrw
    by_cases hlt : k < T.length
    · obtain ⟨g1, cap1, u1, e1, _, _, g1c, _, ho1⟩ := HR1.out.at hlt
      injection e1 with e1 e0 e3
      clear e0
      injection e1 with e1
      injection e1 with e1
      subst e1
      subst e3
      obtain ⟨g2, cap2, u2, e2, _, _, g2c, _, ho2⟩ := HR1.out.at (show k - 1 < T.length by omega)
      injection e2 with e2 e0 e4
      clear e0
      injection e2 with e2
      injection e2 with e2
      subst e2
      subst e4
      obtain ⟨A1, d1, e5, hI1, _⟩ := ho1.ints
      obtain ⟨A2, d2, e6, hI2, _⟩ := ho2.ints
      rw [HT.out k hlt] at e5 hI1
      rw [HT.out (k - 1) (by omega)] at e6 hI2
      subst e5
      subst e6
      have HEQ := hid (fun z => equal_any A1 n d1 A2 n d2 (T.getD k []) (T.getD (k - 1) []) (wr.drewN z) (hI1.drewN z) (hI2.drewN z) hn hn)
      have hkm : IntKind.i64.wrap ((k : Int) - 1) = ((k - 1 : Nat) : Int) := by
        rw [IntWalk.i64_in _ (by omega)]
        omega
      have hkm2 : ((k - 1 : Nat) : Int) < (T.length : Int) := by omega
      have hkN : (k : Int) < (T.length : Int) := by omega
      clear ho1 ho2 hI1 hI2
      by_cases hsame : T.getD k [] = T.getD (k - 1) []
      · rw [decide_eq_true hsame] at HEQ
        have HSM := hid hsame
        clear hsame
        go_wp2_with fail
        go_quiet ((go_at_call 15; exact Calls.quiet_of (HEQ.out _)))
        clear HEQ
        have HR2 := hid (HR1.out.drewN nq)
        have HQ2 := hid (one_drewN HQ.out nq)
        generalize wr.drewN nq = wz at *
        have hsl := run_sliceAt g T.length cap k (by omega) hk
        have HST : Hid (cpU T (k + 1) = T.take k) := by
          show cpU T (k + 1) = T.take k
          rw [cpU_same (by omega) HSM.out, cpU_take hk HNE.out]
        clear g1c g2c HR1 HQ
        go_wp2_with fail
        go_loopg [5, 7] (T.length - k) (fun gg s5 s7 wq => ∃ (t kk : Nat) (T' : List (List Int)), 1 ≤ t ∧ t ≤ T.length - k ∧ T.length - k - t ≤ gg ∧ s7 = .int .i64 (t : Nat) ∧ s5 = .int .i64 (kk : Nat) ∧ k ≤ kk ∧ kk + 1 ≤ k + t ∧ T'.length = T.length ∧ T'.take kk = cpU T (k + t) ∧ T'.drop kk = T.drop kk ∧ BRows wq base (.slice (some ⟨g, 0, none⟩) T.length cap) T' ∧ w.grownBy wq (some g))
        case atStart => exact ⟨1, k, T, Nat.le_refl _, by omega, by omega, rfl, rfl, Nat.le_refl _, Nat.le_refl _, rfl, HST.out.symm, rfl, HR2.out, HQ2.out⟩
        case round =>
          clear HR2 HQ2 HST
          obtain ⟨t, kk, T', ht1, ht, hgt, rfl, rfl, hkk, hkk2, hTl, htk, hdr, hrw, hq⟩ := hrel
          have HTK := hid htk
          have HDR := hid hdr
          have HRW := hid hrw
          have HQ := hid hq
          have HTL := hid hTl
          clear htk hdr hrw hq hTl hsl
          by_cases hlt2 : t < T.length - k
          · have hj : k + t < T'.length := by rw [HTL.out]; omega
            have hj1 : k + (t - 1) < T'.length := by rw [HTL.out]; omega
            have HEJ := hid (getD_drop_eq HDR.out (i := k + t) (by omega))
            have HEJ1 := hid (getD_drop_eq HDR.out (i := k + (t - 1)) (by omega))
            obtain ⟨g1, cap1, u1, e1, _, _, g1c, _, ho1⟩ := HRW.out.at hj
            injection e1 with e1 e0 e3
            clear e0
            injection e1 with e1
            injection e1 with e1
            subst e1
            subst e3
            obtain ⟨g2, cap2, u2, e2, _, _, g2c, _, ho2⟩ := HRW.out.at hj1
            injection e2 with e2 e0 e4
            clear e0
            injection e2 with e2
            injection e2 with e2
            subst e2
            subst e4
            rw [HEJ.out] at ho1
            rw [HEJ1.out] at ho2
            have HO1 := hid ho1
            obtain ⟨A1, d1, e5, hI1, _⟩ := ho1.ints
            obtain ⟨A2, d2, e6, hI2, _⟩ := ho2.ints
            rw [HTL.out] at hj hj1
            rw [HT.out _ hj] at e5 hI1
            rw [HT.out _ hj1] at e6 hI2
            subst e5
            subst e6
            have HEQ := hid (fun z => equal_any A1 n d1 A2 n d2 (T.getD (k + t) []) (T.getD (k + (t - 1)) []) (wr.drewN z) (hI1.drewN z) (hI2.drewN z) hn hn)
            have htm : IntKind.i64.wrap ((t : Int) - 1) = ((t - 1 : Nat) : Int) := by
              rw [IntWalk.i64_in _ (by omega)]
              omega
            have htm2 : ((t - 1 : Nat) : Int) < ((T.length - k : Nat) : Int) := by omega
            have htN : (t : Int) < ((T.length - k : Nat) : Int) := by omega
            have HJE : Hid (k + t - 1 = k + (t - 1)) := by show k + t - 1 = k + (t - 1); omega
            obtain ⟨g3, cap3, u3, e7, _, _, g3c, f3, _⟩ := HRW.out.at (show kk < T'.length by rw [HTL.out]; omega)
            injection e7 with e7 e0 e9
            clear e0
            injection e7 with e7
            injection e7 with e7
            subst e7
            subst e9
            clear ho1 ho2 hI1 hI2
            by_cases hsame : T.getD (k + t) [] = T.getD (k + (t - 1)) []
            · rw [decide_eq_true hsame] at HEQ
              have HCS : Hid (cpU T (k + (t + 1)) = cpU T (k + t)) := by
                show cpU T (k + t + 1) = cpU T (k + t)
                exact cpU_same (by omega) (by rw [HJE.out]; exact hsame)
              clear hsame
              go_wp2_with fail
              go_quiet ((go_at_call 15; exact Calls.quiet_of (HEQ.out _)))
              clear HEQ
              go_wp2
              go_roundg (T.length - k - (t + 1))
              case measure => omega
              case rel => exact ⟨t + 1, kk, T', by omega, by omega, by omega, by go_num, rfl, hkk, by omega, HTL.out, by rw [HCS.out]; exact HTK.out, HDR.out, HRW.out.drewN _, one_drewN HQ.out _⟩
            · rw [decide_eq_false hsame] at HEQ
              have HCS : Hid (cpU T (k + (t + 1)) = cpU T (k + t) ++ [T.getD (k + t) []]) := by
                show cpU T (k + t + 1) = _
                exact cpU_new (by rw [HJE.out]; exact hsame)
              clear hsame
              go_wp2_with fail
              go_quiet ((go_at_call 15; exact Calls.quiet_of (HEQ.out _)))
              clear HEQ
              have HRW3 := hid ((HRW.out.drewN nq).set (j := kk) (by rw [HTL.out]; omega) (HO1.out.drewN nq))
              have HQ3 := hid (one_set (one_drewN HQ.out nq) kk (.slice A1 n d1))
              have HTK3 : Hid ((T'.set kk (T.getD (k + t) [])).take (kk + 1) = cpU T (k + (t + 1))) := by
                show (T'.set kk (T.getD (k + t) [])).take (kk + 1) = cpU T (k + (t + 1))
                rw [HCS.out, ← HTK.out]
                exact take_set_one _ (by rw [HTL.out]; omega)
              have HDR3 : Hid ((T'.set kk (T.getD (k + t) [])).drop (kk + 1) = T.drop (kk + 1)) := by
                show (T'.set kk (T.getD (k + t) [])).drop (kk + 1) = T.drop (kk + 1)
                rw [List.drop_set_of_lt (by omega), ← List.drop_drop, HDR.out, List.drop_drop]
              have HTL3 : Hid ((T'.set kk (T.getD (k + t) [])).length = T.length) := by show (T'.set kk (T.getD (k + t) [])).length = T.length; rw [List.length_set]; exact HTL.out
              go_wp2
              go_roundg (T.length - k - (t + 1))
              case measure => omega
              case rel => exact ⟨t + 1, kk + 1, T'.set kk (T.getD (k + t) []), by omega, by omega, by omega, by go_num, by go_num, by omega, by omega, HTL3.out, HTK3.out, HDR3.out, HRW3.out, HQ3.out⟩
          · have htT : t = T.length - k := by omega
            subst htT
            have hkkN : kk < T.length := by omega
            have hkc : kk ≤ cap := by omega
            have hsl2 := run_sliceAt g T.length cap kk (by omega) (by omega)
            have hcl : ∀ ty, (Builtin.clear_ #[22] ty #[.slice (some ⟨g, kk, none⟩) (T.length - kk) (cap - kk)]).run Try.prog wr = .ok (.tuple #[]) (wr.setCells g kk (List.replicate (T.length - kk) (.slice none 0 0))) :=
              fun ty => Lib.run_clear_slice wr 22 23 ty (.slice none 0 0) Try.underlying22 (fun _ => by kernel_rfl) rfl rfl g kk _ _ (by omega) (fun i hi => by
                obtain ⟨g5, cap5, u5, e5, _, _, hc5, _, _⟩ := HRW.out.at (show kk + i < T'.length by rw [HTL.out]; omega)
                injection e5 with e5 _ _
                injection e5 with e5
                injection e5 with e5
                rw [e5, hc5]
                rfl) (fun i hi => by
                obtain ⟨g5, cap5, u5, e5, _, _, _, hf5, _⟩ := HRW.out.at (show kk + i < T'.length by rw [HTL.out]; omega)
                injection e5 with e5 _ _
                injection e5 with e5
                injection e5 with e5
                rw [e5, hf5])
            have HRZ : Hid (BRows (wr.setCells g kk (List.replicate (T.length - kk) (.slice none 0 0))) base (.slice (some ⟨g, 0, none⟩) kk cap) (cpU T T.length)) := by
              have h1 := (HRW.out.first (k := kk) (by rw [HTL.out]; omega)).behinds (us := List.replicate (T.length - kk) (.slice none 0 0)) (Nat.le_refl kk)
              rw [HTK.out, show k + (T.length - k) = T.length by omega] at h1
              exact h1
            have HQZ := hid (one_sets (g := g) (vs := List.replicate (T.length - kk) (.slice none 0 0)) (o := kk) HQ.out)
            generalize wr.setCells g kk (List.replicate (T.length - kk) (.slice none 0 0)) = wf at *
            go_wp2
            go_ret
            exact ⟨_, rfl, HRZ.out, HQZ.out⟩
      · rw [decide_eq_false hsame] at HEQ
        have HSM := hid hsame
        clear hsame
        go_wp2_with fail
        go_quiet ((go_at_call 15; exact Calls.quiet_of (HEQ.out _)))
        clear HEQ
        go_wp2
        go_roundg (T.length - (k + 1))
        case measure => omega
        case rel =>
          refine ⟨k + 1, by omega, by omega, by omega, by go_num, fun i h3 h4 => ?_, HR1.out.drewN _, one_drewN HQ.out _⟩
          by_cases e : i = k
          · subst e
            exact HSM.out
          · exact HNE.out i h3 (by omega)
    · have hkT : k = T.length := by omega
      subst hkT
      have HE : Hid (cpU T T.length = T) := by
        show cpU T T.length = T
        rw [cpU_take (Nat.le_refl _) HNE.out, List.take_length]
      go_wp2
      go_ret
      exact ⟨_, rfl, by rw [HE.out]; exact HR1.out, HQ.out⟩

end Go.Proofs.Ytbcjfiobggggjaa

/-
  slices.Index, slices.Contains at []int.
-/
namespace Go.Proofs.Ytbcjfiobggggjaa
open Go.RowKit

/-- It stands first at r. -/
def FirstAt (xs : List Int) (v : Int) (r : Nat) : Prop := r < xs.length ∧ xs.getD r 0 = v ∧ ∀ j, j < r → xs.getD j 0 ≠ v
/-- The place at which it stands first, or -1. -/
def IdxIs (xs : List Int) (v : Int) (w : World) (e : Ending) (w' : World) : Prop := ∃ r : Int, e = .returned (.int .i64 r) ∧ decide (0 ≤ r) = decide (v ∈ xs) ∧ w = w' ∧ (v ∈ xs → ∃ k : Nat, r = k ∧ FirstAt xs v k)

set_option maxHeartbeats 800000 in
theorem index_any (A : Option Addr) (n c : Nat) (xs : List Int) (v : Int) (w : World) (h : Ints w A n xs) (hn : n ≤ 1000000) :
    Calls Try.prog 71 #[.slice A n c, .int .i64 v] w (IdxIs xs v w) := by
  go_enter Try.func71, Try.ntmps71
  go_wp2
  go_loopg [8] n (fun g s wr => ∃ k : Nat, k ≤ n ∧ n - k ≤ g ∧ s = .int .i64 k ∧ w = wr ∧ ∀ j, j < k → xs.getD j 0 ≠ v)
  case atStart => exact ⟨0, Nat.zero_le _, by omega, rfl, rfl, fun j hj => absurd hj (Nat.not_lt_zero _)⟩
  case round =>
    obtain ⟨k, hk, hg, rfl, rfl, hall⟩ := hrel
    have HA := hid hall
    have HL := hid h.len
    clear hall
    by_cases hlt : k < n
    · obtain ⟨b, o, rfl, hb, hc⟩ := h.row (by omega)
      have g1 := hc k hlt
      have HM := hid (getD_mem (show k < xs.length by rw [HL.out]; exact hlt))
      clear hc h
      generalize hx : xs.getD k 0 = x at g1 HM
      have HX := hid hx
      clear hx
      by_cases hz : v = x
      · have hz' : (v == x) = true := by simpa using hz
        have HZ := hid hz
        clear hz
        go_wp2
        go_ret
        exact ⟨_, rfl, by rw [HZ.out, decide_eq_true HM.out]; simp, rfl, fun _ => ⟨k, rfl, by rw [HL.out]; exact hlt, by rw [HX.out, HZ.out], HA.out⟩⟩
      · have hz' : (v == x) = false := by simpa using hz
        go_wp2
        go_roundg (n - (k + 1))
        case measure => omega
        case rel =>
          refine ⟨k + 1, by omega, by omega, by go_num, rfl, fun j hj => ?_⟩
          by_cases e : j = k
          · subst e
            rw [HX.out]
            exact fun e => hz e.symm
          · exact HA.out j (by omega)
    · go_wp2
      go_ret
      have hv : ¬ v ∈ xs := fun hm => by
        obtain ⟨i, hi, e⟩ := mem_getD hm
        exact HA.out i (by rw [HL.out] at hi; omega) e
      exact ⟨_, rfl, by rw [decide_eq_false hv]; rfl, rfl, fun h => absurd h hv⟩

set_option maxHeartbeats 400000 in
theorem contains_any (A : Option Addr) (n c : Nat) (xs : List Int) (v : Int) (w : World) (h : Ints w A n xs) (hn : n ≤ 1000000) :
    Calls Try.prog 41 #[.slice A n c, .int .i64 v] w fun e w' => e = .returned (.bool (decide (v ∈ xs))) ∧ w = w' := by
  go_enter Try.func41, Try.ntmps41
  go_wp2_with fail
  refine (index_any A n c xs v _ h hn).mono ?_
  rintro e w' ⟨r, rfl, hr, rfl, _⟩
  have HR := hid hr
  clear hr
  go_wp2
  go_ret
  exact ⟨by rw [← HR.out]; rfl, rfl⟩

theorem contains_yes (A : Option Addr) (n c : Nat) (xs : List Int) (v : Int) (w : World) (h : Ints w A n xs) (hn : n ≤ 1000000) (hv : v ∈ xs) :
    Calls Try.prog 41 #[.slice A n c, .int .i64 v] w fun e w' => e = .returned (.bool true) ∧ w' = w := by
  refine (contains_any A n c xs v w h hn).mono ?_
  rintro e w' ⟨rfl, rfl⟩
  rw [decide_eq_true hv]
  exact ⟨rfl, rfl⟩
theorem contains_no (A : Option Addr) (n c : Nat) (xs : List Int) (v : Int) (w : World) (h : Ints w A n xs) (hn : n ≤ 1000000) (hv : ¬ v ∈ xs) :
    Calls Try.prog 41 #[.slice A n c, .int .i64 v] w fun e w' => e = .returned (.bool false) ∧ w' = w := by
  refine (contains_any A n c xs v w h hn).mono ?_
  rintro e w' ⟨rfl, rfl⟩
  rw [decide_eq_false hv]
  exact ⟨rfl, rfl⟩

end Go.Proofs.Ytbcjfiobggggjaa

/-
  castref.PermErr: its answer is permErr of the list.
-/
namespace Go.Proofs.Ytbcjfiobggggjaa
open Go.RowKit

set_option maxHeartbeats 400000 in
theorem refErr_large (A : Option Addr) (n c : Nat) (w : World) (hn : 10 < n) (hm : n ≤ 9223372036854775807) :
    Calls Try.prog 48 #[.slice A n c] w fun e w' => e = .returned (.int .i64 2) ∧ w = w' := by
  go_enter Try.func48, Try.ntmps48
  go_wp2
  go_ret
  exact ⟨rfl, rfl⟩

set_option maxHeartbeats 800000 in
theorem refErr_small (A : Option Addr) (n c : Nat) (xs : List Int) (w : World) (h : Ints w A n xs) (hn : n ≤ 10) :
    Calls Try.prog 48 #[.slice A n c] w fun e w' => e = .returned (.int .i64 (permErr xs)) ∧ w = w' := by
  have h10 : decide (10 < (n : Int)) = false := by simp; omega
  go_enter Try.func48, Try.ntmps48
  go_wp2
  go_loopg [9] n (fun g s wr => ∃ k : Nat, k ≤ n ∧ n - k ≤ g ∧ s = .int .i64 k ∧ w = wr ∧ ∀ j : Nat, j < k → (j : Int) ∈ xs)
  case atStart => exact ⟨0, Nat.zero_le _, by omega, rfl, rfl, fun j hj => absurd hj (Nat.not_lt_zero _)⟩
  case round =>
    obtain ⟨k, hk, hg, rfl, rfl, hall⟩ := hrel
    have HA := hid hall
    have HL := hid h.len
    clear hall
    by_cases hlt : k < n
    · by_cases hm : (k : Int) ∈ xs
      · have hd : decide ((k : Int) ∈ xs) = true := decide_eq_true hm
        have HM := hid hm
        clear hm
        go_wp2_with (go_at_call 41; refine (contains_any A n c xs k _ h (by omega)).mono ?_; rintro e w' ⟨rfl, rfl⟩)
        go_roundg (n - (k + 1))
        case measure => omega
        case rel =>
          refine ⟨k + 1, by omega, by omega, by go_num, rfl, fun j hj => ?_⟩
          by_cases e : j = k
          · subst e
            exact HM.out
          · exact HA.out j (by omega)
      · have hd : decide ((k : Int) ∈ xs) = false := decide_eq_false hm
        have HM := hid hm
        clear hm
        go_wp2_with (go_at_call 41; refine (contains_any A n c xs k _ h (by omega)).mono ?_; rintro e w' ⟨rfl, rfl⟩)
        go_ret
        rw [permErr_bad (by rw [HL.out]; exact hn) (fun hp => HM.out (hp.all k (by rw [HL.out]; exact hlt)))]
        exact ⟨rfl, rfl⟩
    · go_wp2
      go_ret
      rw [permErr_ok.2 ⟨by rw [HL.out]; exact hn, isPerm_of_all (fun i hi => HA.out i (by rw [HL.out] at hi; omega))⟩]
      exact ⟨rfl, rfl⟩

theorem refErr_any (A : Option Addr) (n c : Nat) (xs : List Int) (w : World) (h : Ints w A n xs) (hm : n ≤ 9223372036854775807) :
    Calls Try.prog 48 #[.slice A n c] w fun e w' => e = .returned (.int .i64 (permErr xs)) ∧ w = w' := by
  by_cases hn : 10 < n
  · refine (refErr_large A n c w hn hm).mono ?_
    rintro e w' ⟨rfl, rfl⟩
    have e : permErr xs = 2 := if_pos (by rw [h.len]; exact hn)
    rw [e]
    exact ⟨rfl, rfl⟩
  · exact refErr_small A n c xs w h (by omega)

end Go.Proofs.Ytbcjfiobggggjaa

/-
  The verifier's castref.After, castref.Crossed.
-/
namespace Go.Proofs.Ytbcjfiobggggjaa
open Go.RowKit

/-! ### After -/

theorem times_take_snoc {a b : List Int} {k : Nat} (hk : k < b.length) : times a (b.take (k + 1)) = times a (b.take k) ++ [a.getD (b.getD k 0).toNat 0] := by
  rw [take_snoc hk]
  simp [times]

set_option maxHeartbeats 800000 in
/-- After(a, b), where each number of b is a place of a. -/
theorem after_any (A : Option Addr) (n c : Nat) (B : Option Addr) (m d : Nat) (a b : List Int) (w : World) (hA : Ints w A n a) (hB : Ints w B m b) (hr : ∀ x, x ∈ b → 0 ≤ x ∧ x < n) (hm : m ≤ 1000000) (hn : n ≤ 1000000) :
    Calls Try.prog 50 #[.slice A n c, .slice B m d] w (RetOwn w (times a b)) := by
  have HR := hid hr
  clear hr
  go_enter Try.func50, Try.ntmps50
  go_wp2
  go_loopg [5, 10] m (fun g v s wr => ∃ k : Nat, k ≤ m ∧ m - k ≤ g ∧ s = .int .i64 k ∧ OwnInts wr w.heap.size v (times a (b.take k)) ∧ Below w.heap.size w wr)
  case atStart => exact ⟨0, Nat.zero_le _, by omega, rfl, OwnInts.nil _ _, Below.refl _ _⟩
  case round =>
    obtain ⟨k, hk, hg, rfl, hown, hbel⟩ := hrel
    have HO := hid hown
    have HB := hid hbel
    have HL := hid hB.len
    clear hown hbel
    by_cases hlt : k < m
    · obtain ⟨b2, o2, rfl, hlt2, hc2⟩ := hB.row (by omega)
      have hx := HR.out _ (getD_mem (show k < b.length by rw [HL.out]; exact hlt))
      have g1 : wr.cell? ⟨b2, o2 + k, none⟩ = some (.int .i64 (b.getD k 0)) := (HB.out.cell (p := ⟨b2, o2 + k, none⟩) hlt2).trans (hc2 k hlt)
      have HS := hid (times_take_snoc (a := a) (show k < b.length by rw [HL.out]; exact hlt))
      have HD : Hid ((times a (b.take k)).length = k) := by rw [length_times, List.length_take, HL.out]; exact Nat.min_eq_left hk
      clear hc2
      generalize b.getD k 0 = x at g1 hx HS
      obtain ⟨j, rfl⟩ := Int.eq_ofNat_of_zero_le hx.1
      have hj : j < n := by omega
      obtain ⟨b1, o1, rfl, hlt1, hc1⟩ := hA.row (by omega)
      have g2 : wr.cell? ⟨b1, o1 + j, none⟩ = some (.int .i64 (a.getD j 0)) := (HB.out.cell (p := ⟨b1, o1 + j, none⟩) hlt1).trans (hc1 j hj)
      rw [Int.toNat_natCast] at HS
      clear hx hc1
      generalize a.getD j 0 = y at g2 HS
      generalize times a (b.take k) = p at HO HD HS
      go_wp2_with (at_builtin; refine wpList_app1 _ rfl (.tmp 14) (.tmp 19) rfl w.heap.size _ p y rfl rfl HO.out (by rw [HD.out]; omega) HB.out.size ?_)
      intro v' w1 hown1 _ hbel1
      have HB1 := hid (HB.out.trans hbel1)
      have HO1 := hid hown1
      clear hown1 hbel1
      go_wp2
      go_roundg (m - (k + 1))
      case measure => omega
      case rel => exact ⟨k + 1, by omega, by omega, by go_num, by rw [HS.out]; exact HO1.out, HB1.out⟩
    · have hkn : k = m := by omega
      subst hkn
      have HT : Hid (b.take k = b) := List.take_of_length_le (by rw [HL.out]; exact Nat.le_refl _)
      rw [HT.out] at HO
      go_wp2
      go_ret
      exact ⟨_, rfl, HO.out, HB.out⟩

/-! ### Crossed -/

theorem inv_snoc (l : List Int) (x : Int) : inv (l ++ [x]) = inv l + l.countP (fun y => decide (x < y)) := by
  induction l with
  | nil => rfl
  | cons a t ih =>
    simp only [List.cons_append, inv, ih, List.countP_append, List.countP_cons, List.countP_nil]
    omega
/-- The pairs counted after m rounds of the inner loop at place k. -/
def crossUpto (p : List Int) (k m : Nat) : Nat := inv (p.take k) + (p.take m).countP (fun y => decide (p.getD k 0 < y))
theorem crossUpto_yes {p : List Int} {k m : Nat} (h : m < p.length) (hlt : p.getD k 0 < p.getD m 0) : crossUpto p k (m + 1) = crossUpto p k m + 1 := by
  unfold crossUpto
  rw [take_snoc h, List.countP_append]
  simp only [List.countP_cons, List.countP_nil, hlt, decide_true, if_true]
  omega
theorem crossUpto_no {p : List Int} {k m : Nat} (h : m < p.length) (hlt : ¬ p.getD k 0 < p.getD m 0) : crossUpto p k (m + 1) = crossUpto p k m := by
  unfold crossUpto
  rw [take_snoc h, List.countP_append]
  simp only [List.countP_cons, List.countP_nil, hlt, decide_false, Nat.zero_add]
  simp
theorem crossUpto_end {p : List Int} {k : Nat} (h : k < p.length) : crossUpto p k k = inv (p.take (k + 1)) := by
  unfold crossUpto
  rw [take_snoc h, inv_snoc]
theorem crossUpto_le (p : List Int) (k m : Nat) : crossUpto p k m ≤ inv (p.take k) + m := by
  unfold crossUpto
  have h1 := List.countP_le_length (p := fun y => decide (p.getD k 0 < y)) (l := p.take m)
  have h2 : (p.take m).length ≤ m := List.length_take_le _ _
  omega
theorem inv_le (l : List Int) : inv l ≤ l.length * l.length := by
  induction l with
  | nil => simp [inv]
  | cons a t ih =>
    simp only [inv, List.length_cons]
    have h1 := List.countP_le_length (p := fun y => decide (y < a)) (l := t)
    have : (t.length + 1) * (t.length + 1) = t.length * t.length + t.length + t.length + 1 := by rw [Nat.add_mul, Nat.mul_add]; omega
    omega

end Go.Proofs.Ytbcjfiobggggjaa

/-
  castref.GroupOf: each time all that are there, and one more behind each, until nothing is new.
-/
namespace Go.Proofs.Ytbcjfiobggggjaa
open Go.RowKit

/-- 'out = append(out, rows...)', all of it the call's own. -/
theorem wpList_appBB {ops : Array Oper} {rest : List Oper} {o : Oper} {a : Act} {Q : Exit → Act → World → Prop} (W : World) (hgd : o.guard = none) (s x : Operand)
    (ho : o.op = .call { callee := .builtin .append, args := #[s, x], argTypes := #[22, 22] })
    (base : Nat) (v : Value) (T : List (List Int)) (g n c : Nat) (U : List (List Int)) (hs : a.eval s = v) (hx : a.eval x = .slice (some ⟨g, 0, none⟩) n c) (hown : BRows W base v T) (hU : BRows W base (.slice (some ⟨g, 0, none⟩) n c) U)
    (hlen : T.length + U.length ≤ 1000000000000) (hbase : base ≤ W.heap.size)
    (h : ∀ v' w', BRows w' base v' (T ++ U) → Below base W w' → wpList Try.prog ops Q rest (a.put o.dst v') w') :
    wpList Try.prog ops Q (o :: rest) a W := by
  obtain ⟨i0, hi, hz0, hz1, hz2⟩ := info_parts infoRow
  obtain ⟨vals, hl, hv, he⟩ := hown
  obtain ⟨us, hul, huo, hue⟩ := hU
  have hnl : n = us.length := by
    rcases huo.2 with ⟨e, _⟩ | ⟨g', cap', cur, e, _⟩
    · cases e
    · injection e
  subst hnl
  refine wpList_append_own _ hgd s x 22 ho base 23 i0 (.slice none 0 0) 1 24 Try.underlying22 hi hz0 hz1 hz2 rfl (by decide) v vals.length vals hs hv
    ⟨g, 0, none⟩ us.length c us hx (by rw [Nat.mul_one]) (fun j u hj => ?_) (fun u hu => ?_) (by unfold maxLen; omega) (by omega) hbase ?_
  · have hj' : j < us.length := by
      rcases Nat.lt_or_ge j us.length with h1 | h1
      · exact h1
      · rw [List.getElem?_eq_none h1] at hj
        cases hj
    have ha : (⟨g, 0, none⟩ : Addr).add j = ⟨g, j, none⟩ := by unfold Addr.add; split <;> simp_all
    rw [ha, World.ownsRow.cellAt huo j (by omega)]
    exact hj
  · obtain ⟨j, hj, rfl⟩ := List.getElem_of_mem hu
    have h1 := hue j (by omega)
    rw [List.getD_eq_getElem?_getD, List.getElem?_eq_getElem hj] at h1
    exact own_oneCell h1
  · intro v' w' h1 h2 _
    refine h v' w' ⟨vals ++ us, by simp [hl, hul], by simpa using h1, fun j hj => ?_⟩ ?_
    · rw [List.length_append] at hj
      by_cases e : j < T.length
      · have := (he j e).other hv h2
        simpa [List.getD_eq_getElem?_getD, List.getElem?_append_left (hl ▸ e), List.getElem?_append_left e] using this
      · have h3 := (hue (j - T.length) (by omega)).other hv h2
        rw [List.getD_eq_getElem?_getD, List.getD_eq_getElem?_getD, List.getElem?_append_right (by omega), List.getElem?_append_right (by omega), hl]
        simpa [List.getD_eq_getElem?_getD] using h3
    · refine ⟨h2.os, h2.tape, h2.output, h2.size, fun k hk => h2.block k (by omega) (fun e => ?_)⟩
      have := World.ownsRow.lt hv k e.symm
      omega

/-! ### What one round makes -/
def prodU (U l : List (List Int)) (i : Nat) : List (List Int) := ((U.take i).map (fun a => l.map (times a))).flatten
theorem prodU_zero (U l : List (List Int)) : prodU U l 0 = [] := rfl
theorem prodU_step {U l : List (List Int)} {i : Nat} (hi : i < U.length) : prodU U l (i + 1) = prodU U l i ++ l.map (times (U.getD i [])) := by
  unfold prodU
  rw [take_snocR hi, List.map_append, List.flatten_append]
  simp
theorem length_prodU (U l : List (List Int)) : ∀ i, (prodU U l i).length ≤ i * l.length
  | 0 => by simp [prodU]
  | i + 1 => by
    have ih := length_prodU U l i
    rcases Nat.lt_or_ge i U.length with h | h
    · rw [prodU_step h, List.length_append, List.length_map, Nat.succ_mul]
      omega
    · have e : prodU U l (i + 1) = prodU U l i := by unfold prodU; rw [List.take_of_length_le (by omega), List.take_of_length_le h]
      rw [e, Nat.succ_mul]
      omega
theorem mem_prodU {U l : List (List Int)} {x : List Int} : x ∈ prodU U l U.length ↔ ∃ a, a ∈ U ∧ ∃ p, p ∈ l ∧ times a p = x := by
  unfold prodU
  rw [List.take_length]
  simp only [List.mem_flatten, List.mem_map]
  constructor
  · rintro ⟨_, ⟨a, ha, rfl⟩, hx⟩
    obtain ⟨p, hp, rfl⟩ := List.mem_map.1 hx
    exact ⟨a, ha, p, hp, rfl⟩
  · rintro ⟨a, ha, p, hp, rfl⟩
    exact ⟨_, ⟨a, ha, rfl⟩, List.mem_map.2 ⟨p, hp, rfl⟩⟩

/-- What the rounds keep. -/
structure Grw (n : Nat) (l U : List (List Int)) : Prop where
  one : iota n ∈ U
  gen : ∀ p, p ∈ U → Gen n l p
  sorted : U.Pairwise (fun a b => rk a < rk b)

section
variable {n : Nat} {l U : List (List Int)}
theorem Grw.start (n : Nat) (l : List (List Int)) : Grw n l [iota n] := ⟨by simp, fun p hp => by rw [List.mem_singleton.1 hp]; exact .one, by simp⟩
theorem Grw.orders (h : Grw n l U) (hl : Orders n l) : Orders n U := fun p hp => (h.gen p hp).ok hl
theorem Grw.len (h : Grw n l U) (hl : Orders n l) : U.length ≤ fact n := rk_length_le h.sorted fun p hp => ((h.gen p hp).ok hl).1
theorem Grw.all (h : Grw n l U) (hl : Orders n l) : ∀ x, x ∈ prodU U l U.length ++ U → Gen n l x := by
  intro x hx
  rcases List.mem_append.1 hx with h1 | h1
  · obtain ⟨a, ha, p, hp, rfl⟩ := mem_prodU.1 h1
    exact (h.gen a ha).mul hl (.of hl hp)
  · exact h.gen x h1
theorem Grw.next (h : Grw n l U) (hl : Orders n l) {T' : List (List Int)} (hp : T'.Perm (prodU U l U.length ++ U)) (hr : Rising T') :
    Grw n l (cpU T' T'.length) ∧ U.length ≤ (cpU T' T'.length).length ∧ ((cpU T' T'.length).length = U.length → GroupOf n l (cpU T' T'.length)) := by
  have hm : ∀ x, x ∈ cpU T' T'.length ↔ x ∈ prodU U l U.length ++ U := fun x => by
    rw [mem_cpU _ (Nat.le_refl _), List.take_length]
    exact hp.mem_iff
  have ho : Orders n T' := fun x hx => (h.all hl x (hp.mem_iff.1 hx)).ok hl
  have hpos : 0 < T'.length := List.length_pos_of_mem (hp.mem_iff.2 (List.mem_append_right _ h.one))
  obtain ⟨_, _, hs⟩ := cpU_rises hr ho (T'.length - 1) (by omega)
  rw [show T'.length - 1 + 1 = T'.length by omega] at hs
  have hsub : ∀ x, x ∈ U → x ∈ cpU T' T'.length := fun x hx => (hm x).2 (List.mem_append_right _ hx)
  have hle := length_le_of_subset (rk_nodup h.sorted) hsub
  refine ⟨⟨hsub _ h.one, fun x hx => h.all hl x ((hm x).1 hx), hs⟩, hle, fun he => ⟨hs, fun x => ⟨fun hx => h.all hl x ((hm x).1 hx), fun hx => ?_⟩⟩⟩
  have hperm := perm_of_nodup_subset (rk_nodup h.sorted) hsub (by omega)
  refine Gen.subR hl (G := fun x => x ∈ cpU T' T'.length) (fun x hx => (h.all hl x ((hm x).1 hx)).ok hl) (hsub _ h.one) (fun g p hg hpx => ?_) hx
  exact (hm _).2 (List.mem_append_left _ (mem_prodU.2 ⟨p, hperm.mem_iff.1 hpx, g, hg, rfl⟩))
end

/-- The group comes back, as the document's own reckoning has it. -/
def RetGroupR (w : World) (k : Nat) (L : List (List Int)) (e : Ending) (w' : World) : Prop := ∃ v T, e = .returned v ∧ GroupOf k L T ∧ BRows w' w.heap.size v T ∧ Below w.heap.size w w'

set_option maxRecDepth 100000 in
set_option maxHeartbeats 2000000 in
theorem refGroup_ok (A : Option Addr) (m c : Nat) (L : List (List Int)) (k : Nat) (w : World) (h : RRows w A m L) (he : orbE (k : Int) L = 0) :
    Calls Try.prog 14 #[.int .i64 (k : Int), .slice A m c] w (RetGroupR w k L) := by
  obtain ⟨k', hk1, hk6, hl6, hgood⟩ := orbE_zero he
  have hkk : k' = k := by omega
  subst hkk
  have HOr := hid (show Orders k' L from hgood)
  have HL := hid h.len
  have hm6 : m ≤ 6 := by rw [← h.len]; exact hl6
  have HF := hid (show fact k' ≤ 720 from Nat.le_trans (fact_mono hk6) (by decide))
  have HH := hid h
  clear he hk1 hgood hl6 h
  go_enter Try.func14, Try.ntmps14
  go_wp2_with fail
  go_loopg [5, 15] k' (fun g v s wr => ∃ j : Nat, j ≤ k' ∧ k' - j ≤ g ∧ s = .int .i64 j ∧ OwnInts wr w.heap.size v ((iota k').take j) ∧ Below w.heap.size w wr)
  case atStart => exact ⟨0, Nat.zero_le _, by omega, rfl, World.ownsRow_made w #[] 0 (Nat.le_refl _) (Nat.zero_le _) rfl, below_alloc _ _⟩
  case round =>
    obtain ⟨j, hj, hg, rfl, hown, hbel⟩ := hrel
    have HO := hid hown
    have HB := hid hbel
    clear hown hbel
    by_cases hlt : j < k'
    · have htl : ((iota k').take j).length = j := by rw [List.length_take, length_iota]; omega
      have HTL := hid htl
      clear htl
      go_wp2_with (at_builtin; refine wpList_app1 _ rfl (.tmp 18) (.tmp 20) rfl w.heap.size _ ((iota k').take j) (j : Int) rfl rfl HO.out (by rw [HTL.out]; omega) HB.out.size ?_)
      intro v' w4 hown4 _ hbel4
      have HO4 : Hid (OwnInts w4 w.heap.size v' ((iota k').take (j + 1))) := by
        show OwnInts w4 w.heap.size v' ((iota k').take (j + 1))
        rw [take_snoc (by rw [length_iota]; exact hlt), getD_iota hlt]
        exact hown4
      have HB4 := hid (HB.out.trans hbel4)
      clear hown4 hbel4
      go_wp2
      go_roundg (k' - (j + 1))
      case measure => omega
      case rel => exact ⟨j + 1, by omega, by omega, by go_num, HO4.out, HB4.out⟩
    · have hjn : j = k' := by omega
      subst hjn
      have HO4 : Hid (OwnInts wr w.heap.size u5 (iota j)) := by
        have := HO.out
        rwa [List.take_of_length_le (by rw [length_iota]; exact Nat.le_refl _)] at this
      obtain ⟨A4, c4, e4, _⟩ := HO4.out.ints
      rw [length_iota] at e4
      subst e4
      have HR0 := hid (BRows.one HO4.out HB.out.size)
      have HB0 := hid (HB.out.alloc HB.out.size (.cells #[.slice A4 j c4] 23))
      clear HO HO4
      go_wp2_with fail
      go_loopg [7] (fact j) (fun g v wq => ∃ U : List (List Int), fact j - U.length ≤ g ∧ Grw j L U ∧ BRows wq w.heap.size v U ∧ Below w.heap.size w wq)
      case atStart => exact ⟨[iota j], by simp, Grw.start _ _, HR0.out, HB0.out⟩
      case round =>
        clear HR0 HB0 HB
        obtain ⟨U, hgU, hgrw, hrows, hbel⟩ := hrel
        have HGW := hid hgrw
        have HRW := hid hrows
        have HB := hid hbel
        have hU0 := List.length_pos_of_mem hgrw.one
        have hUF := hgrw.len HOr.out
        have hU7 := Nat.le_trans hUF HF.out
        obtain ⟨gU, capU, uU, eU, _, _, _⟩ := hrows.at hU0
        subst eU
        obtain ⟨w8, rfl⟩ : ∃ w8, w8 = wr := ⟨wr, rfl⟩
        clear hgrw hrows hbel
        go_wp2_with fail
        go_loopg [8, 27] U.length (fun g v s wq => ∃ i : Nat, i ≤ U.length ∧ U.length - i ≤ g ∧ s = .int .i64 i ∧ BRows wq w8.heap.size v (prodU U L i) ∧ Below w8.heap.size w8 wq)
        case atStart => exact ⟨0, Nat.zero_le _, by omega, rfl, BRows.nil _ _, Below.refl _ _⟩
        case round =>
          obtain ⟨i, hi, hgi, rfl, hrm, hbel⟩ := hrel
          have HRM := hid hrm
          have HB2 := hid hbel
          clear hrm hbel
          by_cases hiU : i < U.length
          · obtain ⟨g1, cap1, ua, e1, _, hg1l, g1c0, _, hoa⟩ := HRW.out.at hiU
            injection e1 with e1 e0 e3
            clear e0
            injection e1 with e1
            injection e1 with e1
            subst e1
            subst e3
            have HAOK := hid (HGW.out.orders HOr.out _ (getD_mem_rows hiU))
            obtain ⟨Aa, ca, e5, hIa, _⟩ := hoa.ints
            rw [HAOK.out.1] at e5 hIa
            subst e5
            have HIA := hid hIa
            have g1c := (HB2.out.cell (p := ⟨gU, i, none⟩) hg1l).trans g1c0
            clear g1c0 hg1l
            have HPL := hid (Nat.le_trans (length_prodU U L i) (Nat.mul_le_mul (show i ≤ 720 by omega) (show L.length ≤ 6 by rw [HL.out]; exact hm6)))
            have HPS := hid (prodU_step (l := L) hiU)
            clear hoa hIa
            generalize U.getD i [] = ra at *
            go_wp2_with fail
            go_loopg [8, 33] m (fun g v s wq => ∃ t : Nat, t ≤ m ∧ m - t ≤ g ∧ s = .int .i64 t ∧ BRows wq w8.heap.size v (prodU U L i ++ (L.take t).map (times ra)) ∧ Below w8.heap.size w8 wq)
            case atStart => exact ⟨0, Nat.zero_le _, by omega, rfl, by simpa using HRM.out, HB2.out⟩
            case round =>
              clear HRM HB2
              obtain ⟨t, ht, hgt, rfl, hrm, hbel⟩ := hrel
              have HRM := hid hrm
              have HB2 := hid hbel
              clear hrm hbel
              by_cases htm : t < m
              · obtain ⟨b, off, Aj, nj, cj, eA, hcell, hI, hcap⟩ := (HH.out.keep (below_step HB.out (Nat.le_refl _) HB2.out)).at htm
                subst eA
                have htL : t < L.length := by rw [HL.out]; exact htm
                have hPOK := HOr.out _ (getD_mem_rows htL)
                have hnj : j = nj := by rw [← hI.len, hPOK.1]
                subst hnj
                have haf := after_any Aa j ca Aj j cj ra (L.getD t []) _ (HIA.out.keep HB2.out) hI (fun x hx => by have := hPOK.2.range hx; rw [hPOK.1] at this; exact this) (by omega) (by omega)
                have HTS := hid (take_snocR htL)
                have HTT := hid (show ((L.take t).map (times ra)).length ≤ 6 by rw [List.length_map, List.length_take]; omega)
                have HPO := hid hPOK
                clear hPOK hI
                generalize L.getD t [] = rp at *
                go_wp2_with (go_at_call 50; refine haf.mono ?_)
                rintro e w5 ⟨v5, rfl, ho5, hb5⟩
                obtain ⟨A5, c5, e5, _⟩ := ho5.ints
                rw [length_times, HPO.out.1] at e5
                subst e5
                have HO5 := hid (ho5.mono HB2.out.size)
                have HRM5 := hid (HRM.out.keep hb5)
                have HB25 := hid (below_step HB2.out (Nat.le_refl _) hb5)
                clear haf ho5 hb5 hcell HRM
                go_wp2_with (at_builtin; refine wpList_appBR _ rfl (.tmp 37) (.tmp 41) rfl w8.heap.size _ (prodU U L i ++ (L.take t).map (times ra)) _ (times ra rp) rfl rfl HRM5.out HO5.out (by have h1 := HPL.out; have h2 := HTT.out; rw [List.length_append]; omega) HB25.out.size ?_)
                intro v7 w7 hr7 _ hb7
                have HR7 : Hid (BRows w7 w8.heap.size v7 (prodU U L i ++ (L.take (t + 1)).map (times ra))) := by
                  show BRows w7 w8.heap.size v7 (prodU U L i ++ (L.take (t + 1)).map (times ra))
                  have e9 : (L.take (t + 1)).map (times ra) = (L.take t).map (times ra) ++ [times ra rp] := by rw [HTS.out, List.map_append]; rfl
                  rw [e9]
                  simpa using hr7
                have HB7 := hid (HB25.out.trans hb7)
                clear hr7 hb7
                go_wp2
                go_roundg (m - (t + 1))
                case measure => omega
                case rel => exact ⟨t + 1, by omega, by omega, by go_num, HR7.out, HB7.out⟩
              · have htm' : t = m := by omega
                subst htm'
                have HR7 : Hid (BRows wr w8.heap.size u8 (prodU U L (i + 1))) := by
                  have := HRM.out
                  rwa [List.take_of_length_le (by rw [HL.out]; exact Nat.le_refl _), ← HPS.out] at this
                go_wp2
                go_roundg (U.length - (i + 1))
                case measure => omega
                case rel => exact ⟨i + 1, by omega, by omega, by go_num, HR7.out, HB2.out⟩
          · have hiU' : i = U.length := by omega
            subst hiU'
            have HPL := hid (Nat.le_trans (length_prodU U L U.length) (Nat.mul_le_mul (show U.length ≤ 720 by omega) (show L.length ≤ 6 by rw [HL.out]; exact hm6)))
            have HBA := hid (below_step HB.out (Nat.le_refl _) HB2.out)
            have HRA := hid (HRM.out.mono HB.out.size)
            have HRU := hid (HRW.out.keep HB2.out)
            have HPA := hid (fun x hx => (HGW.out.all HOr.out x hx).ok HOr.out)
            clear HRM
            go_wp2_with (at_builtin; refine wpList_appBB _ rfl (.tmp 45) (.tmp 46) rfl w.heap.size _ (prodU U L U.length) gU U.length capU U rfl rfl HRA.out HRU.out (by have h1 := HPL.out; omega) HBA.out.size ?_)
            intro v6 w6 hr6 hb6
            obtain ⟨M, hM⟩ : ∃ M, M = prodU U L U.length ++ U := ⟨_, rfl⟩
            rw [← hM] at hr6 HPA
            have hM0 : 0 < M.length := by rw [hM, List.length_append]; omega
            have hMN : M.length ≤ 1000000 := by have h1 := HPL.out; rw [hM, List.length_append]; omega
            have HMM := hid hM
            have HB6 := hid (HBA.out.trans hb6)
            have HR6 := hid hr6
            have hso := sortRows_any w.heap.size j v6 M w6 hr6 hM0 hMN (by omega) (fun i hi => (HPA.out _ (getD_mem_rows hi)).1)
            clear hr6 hb6 hM HRA HRU HBA
            go_wp2_with (go_at_call 44; refine hso.mono ?_)
            rintro e w7 ⟨T', rfl, hperm, hris, hr7, hgr7⟩
            have hT0 : 0 < T'.length := by rw [hperm.length_eq]; exact hM0
            have hTN : T'.length ≤ 1000000 := by rw [hperm.length_eq]; exact hMN
            have HNX := hid (HGW.out.next HOr.out (T' := T') (by rw [← HMM.out]; exact hperm) hris)
            have HB7 := hid (HB6.out.grown hgr7 HB6.out.size (fun k hk => (HR6.out.lt k hk).1))
            have HR7 := hid hr7
            have hco := compactF_any w.heap.size j v6 T' w7 hr7 hT0 hTN (by omega) (fun i hi => (HPA.out _ (hperm.mem_iff.1 (getD_mem_rows hi))).1)
            clear hso hperm hris hr7 hgr7 HB6 HR6
            go_wp2_with (go_at_call 51; refine hco.mono ?_)
            rintro e w9 ⟨v9, rfl, hr9, hgr9⟩
            have HB9 := hid (HB7.out.grown hgr9 HB7.out.size (fun k hk => (HR7.out.lt k hk).1))
            obtain ⟨A9, c9, e9, _⟩ := hr9.form
            subst e9
            have HR9 := hid hr9
            clear hco hr9 hgr9 HB7 HR7
            generalize cpU T' T'.length = U' at *
            have hge := HNX.out.2.1
            by_cases heq : U'.length = U.length
            · have HG := hid (HNX.out.2.2 heq)
              have hd : (((U'.length : Nat) : Int) == (U.length : Int)) = true := by simp [heq]
              clear heq HNX
              go_wp2
              go_ret
              exact ⟨_, U', rfl, HG.out, HR9.out, HB9.out⟩
            · have HG := hid HNX.out.1
              have hd : (((U'.length : Nat) : Int) == (U.length : Int)) = false := beq_eq_false_iff_ne.2 (by omega)
              have hUF' := HG.out.len HOr.out
              clear HNX
              go_wp2
              go_roundg (fact j - U'.length)
              case measure => omega
              case rel => exact ⟨U', by omega, HG.out, HR9.out, HB9.out⟩

end Go.Proofs.Ytbcjfiobggggjaa

/-
  orbits.unmovedRows, Colours: by how many rows each order leaves as they are.
-/
namespace Go.Proofs.Ytbcjfiobggggjaa
open Go.RowKit

set_option maxRecDepth 100000 in
set_option maxHeartbeats 800000 in
theorem unmoved_ok (A : Option Addr) (n c : Nat) (p : List Int) (k : Nat) (w : World) (hI : Ints w A n p) (hp : IsPerm p) (hn : n ≤ 6) (hk : k ≤ 10) :
    Calls Try.prog 45 #[.slice A n c, .int .i64 (k : Int)] w fun e w' => e = .returned (.int .i64 ((k ^ cyc p : Nat) : Int)) ∧ Below w.heap.size w w' := by
  have HCL := hid (Nat.le_trans (cyc_le p) (by rw [hI.len]; exact hn))
  go_enter Try.func45, Try.ntmps45
  go_wp2_with fail
  refine (cycles_perm A n c p _ hI hp (by omega)).mono ?_
  rintro e w1 ⟨ys, l, A1, c1, rfl, hcy, hl10, hI1, hcap1, hb1⟩
  have hlc : l = cyc p := by rw [← hI1.len]; exact cyc_of hcy
  have HB1 := hid hb1
  clear hcy hI1 hb1 hI hp
  have hl6 : l ≤ 6 := by rw [hlc]; exact HCL.out
  have HLC := hid hlc
  clear hlc
  go_wp2_with fail
  go_loopg [7, 15] l (fun g v s wr => ∃ j : Nat, j ≤ l ∧ l - j ≤ g ∧ s = .int .i64 j ∧ v = .int .i64 ((k ^ j : Nat) : Int) ∧ w1 = wr)
  case atStart => exact ⟨0, Nat.zero_le _, by omega, rfl, by simp, rfl⟩
  case round =>
    obtain ⟨j, hj, hg, rfl, rfl, rfl⟩ := hrel
    by_cases hlt : j < l
    · have hP := pow_six hk (show j ≤ 6 by omega)
      have hQ := pow_six hk (show j + 1 ≤ 6 by omega)
      have hPQ : ((k ^ j : Nat) : Int) * (k : Int) = ((k ^ (j + 1) : Nat) : Int) := by rw [← Int.natCast_mul, ← Nat.pow_succ]
      have HQ := hid (show k ^ (j + 1) = k ^ (j + 1) from rfl)
      generalize k ^ j = P at *
      generalize hq : k ^ (j + 1) = Q at *
      have HQ2 := hid hq
      clear hq HQ
      go_wp2
      go_roundg (l - (j + 1))
      case measure => omega
      case rel => exact ⟨j + 1, by omega, by omega, by go_num, by rw [HQ2.out], rfl⟩
    · have hjl : j = l := by omega
      subst hjl
      have HE : Hid (k ^ j = k ^ cyc p) := by show k ^ j = k ^ cyc p; rw [HLC.out]
      generalize k ^ j = P at *
      go_wp2
      go_ret
      exact ⟨by rw [← HE.out]; rfl, HB1.out⟩

/-- What comes back of Colours. -/
def RetCol (w : World) (k : Nat) (L : List (List Int)) (x : Nat) (e : Ending) (w' : World) : Prop := ∃ T, GroupOf k L T ∧ e = .returned (.tuple #[.int .i64 ((colN T x : Nat) : Int), .int .i64 0]) ∧ Below w.heap.size w w'

theorem colours_bad (A : Option Addr) (m c : Nat) (L : List (List Int)) (n x : Int) (w : World) (h : RRows w A m L) (hm : m ≤ 9223372036854775807) (he : orbE n L ≠ 0) :
    Calls Try.prog 10 #[.int .i64 n, .slice A m c, .int .i64 x] w fun e w' => e = .returned (.tuple #[.int .i64 0, .int .i64 (orbE n L)]) ∧ Below w.heap.size w w' := by
  have e1 : (orbE n L != 0) = true := by simp [he]
  have hc := group_bad A m c L n w h hm he
  clear h he
  generalize orbE n L = z at *
  go_enter Try.func10, Try.ntmps10
  go_wp2_with fail
  refine hc.mono ?_
  rintro e w1 ⟨rfl, hb1⟩
  have HB1 := hid hb1
  clear hb1
  go_wp2
  go_ret2
  exact ⟨rfl, HB1.out⟩

theorem colours_arg (A : Option Addr) (m c : Nat) (L : List (List Int)) (k : Nat) (x : Int) (w : World) (h : RRows w A m L) (he : orbE (k : Int) L = 0) (hx : x < 0 ∨ 10 < x) :
    Calls Try.prog 10 #[.int .i64 (k : Int), .slice A m c, .int .i64 x] w fun e w' => e = .returned (.tuple #[.int .i64 0, .int .i64 1]) ∧ Below w.heap.size w w' := by
  have hc := group_ok A m c L k w h he
  clear h he
  go_enter Try.func10, Try.ntmps10
  go_wp2_with fail
  refine hc.mono ?_
  rintro e w1 ⟨v, T, rfl, _, hr, hb1⟩
  obtain ⟨A1, c1, rfl, _⟩ := hr.form
  have HB1 := hid hb1
  clear hb1 hr hc
  rcases hx with h0 | h0
  · have d0 : decide (x < 0) = true := by simp [h0]
    go_wp2
    go_ret2
    exact ⟨rfl, HB1.out⟩
  · have d0 : decide (x < 0) = false := by simp; omega
    have d1 : decide (10 < x) = true := by simp [h0]
    go_wp2
    go_ret2
    exact ⟨rfl, HB1.out⟩

set_option maxRecDepth 100000 in
set_option maxHeartbeats 800000 in
theorem colours_ok (A : Option Addr) (m c : Nat) (L : List (List Int)) (k x : Nat) (w : World) (h : RRows w A m L) (he : orbE (k : Int) L = 0) (hx : x ≤ 10) :
    Calls Try.prog 10 #[.int .i64 (k : Int), .slice A m c, .int .i64 (x : Int)] w (RetCol w k L x) := by
  have hc := group_ok A m c L k w h he
  obtain ⟨k', hk1, hk6, _, hgood⟩ := orbE_zero he
  have hkk : k = k' := by omega
  subst hkk
  have HOr := hid (show Orders k L from hgood)
  clear h he hk1 hgood
  have d0 : decide ((x : Int) < 0) = false := by simp
  have d1 : decide (10 < (x : Int)) = false := by simp; omega
  go_enter Try.func10, Try.ntmps10
  go_wp2_with fail
  refine hc.mono ?_
  rintro e w1 ⟨v, T, rfl, hG, hr, hb1⟩
  obtain ⟨A1, c1, rfl, hR1, _⟩ := hr.rrows
  have HG := hid hG
  have HR1 := hid hR1
  have HB1 := hid hb1
  have HTL := hid (Nat.le_trans (hG.length_le HOr.out) (Nat.le_trans (fact_mono hk6) (show fact 6 ≤ 720 by decide)))
  have hTL := HTL.out
  have hT0 := hG.pos
  have HT6 := hid (show ∀ j, j < T.length → (T.getD j []).length ≤ 6 from fun j hj => by rw [(hG.ok HOr.out (getD_mem_rows hj)).1]; exact hk6)
  clear hb1 hr hc hG hR1
  go_wp2_with fail
  go_loopg [10, 30] T.length (fun g v s wr => ∃ j : Nat, j ≤ T.length ∧ T.length - j ≤ g ∧ s = .int .i64 j ∧ v = .int .i64 ((colS (T.take j) x : Nat) : Int) ∧ Below w1.heap.size w1 wr)
  case atStart => exact ⟨0, Nat.zero_le _, by omega, rfl, rfl, Below.refl _ _⟩
  case round =>
    obtain ⟨j, hj, hg, rfl, rfl, hbel⟩ := hrel
    have HB := hid hbel
    clear hbel
    by_cases hlt : j < T.length
    · obtain ⟨b, off, Aj, nj, cj, eA, hcell, hI, hcap⟩ := (HR1.out.keep HB.out).at hlt
      subst eA
      have hOk := HG.out.ok HOr.out (getD_mem_rows hlt)
      have hnj : k = nj := by rw [← hI.len, hOk.1]
      subst hnj
      have HST := hid (colS_step hlt x)
      have hS := colS_le hx HT6.out j hj
      have hS2 : colS (T.take j) x ≤ 720000000 := by omega
      have hP := pow_six hx (Nat.le_trans (cyc_le (T.getD j [])) (HT6.out j hlt))
      have hu := unmoved_ok Aj k cj (T.getD j []) x wr hI hOk.2 hk6 hx
      clear hOk hI hcap hS
      generalize x ^ cyc (T.getD j []) = P at *
      generalize hs1 : colS (T.take j) x = S at *
      clear hs1
      go_wp2_with fail
      refine hu.mono ?_
      rintro e w2 ⟨rfl, hb2⟩
      have HB2 := hid (below_step HB.out (Nat.le_refl _) hb2)
      clear hb2 hu hcell
      go_wp2
      go_roundg (T.length - (j + 1))
      case measure => omega
      case rel => exact ⟨j + 1, by omega, by omega, by go_num, by rw [HST.out]; go_num, HB2.out⟩
    · have hjl : j = T.length := by omega
      subst hjl
      have HE : Hid (colS (T.take T.length) x = colS T x) := by show colS (T.take T.length) x = colS T x; rw [List.take_length]
      have hS := colS_le hx HT6.out T.length (Nat.le_refl _)
      have HN := hid (show colN T x = colS (T.take T.length) x / T.length by rw [HE.out]; rfl)
      have HBB := hid (below_step HB1.out (Nat.le_refl _) HB.out)
      generalize colS (T.take T.length) x = S at *
      have HD := hid (Nat.div_le_self S T.length)
      generalize hN : T.length = N at *
      have hS2 : S ≤ 720000000 := by omega
      go_wp2
      go_ret2
      refine ⟨T, HG.out, ?_, HBB.out⟩
      show Ending.returned (.tuple #[.int .i64 (wrap64 ((S : Int) / (N : Int))), .int .i64 0]) = _
      have hD := HD.out
      have h0 : (0 : Int) ≤ (S : Int) / (N : Int) := Int.ediv_nonneg (by omega) (by omega)
      rw [HN.out, ← Int.natCast_ediv, IntWalk.wrap64_in _ (by omega)]

end Go.Proofs.Ytbcjfiobggggjaa

/-
  slices.Reverse at []int.
-/
namespace Go.Proofs.Ytbcjfiobggggjaa
open Go.RowKit

/-- The first k and the last k numbers have changed places. -/
def revUpto (xs : List Int) (k : Nat) : List Int := (List.range xs.length).map (fun u => if u < k ∨ xs.length - k ≤ u then xs.getD (xs.length - 1 - u) 0 else xs.getD u 0)

theorem length_revUpto (xs : List Int) (k : Nat) : (revUpto xs k).length = xs.length := by simp [revUpto]

theorem getD_revUpto {xs : List Int} {u : Nat} (hu : u < xs.length) (k : Nat) : (revUpto xs k).getD u 0 = if u < k ∨ xs.length - k ≤ u then xs.getD (xs.length - 1 - u) 0 else xs.getD u 0 := by
  simp [revUpto, List.getD_eq_getElem?_getD, hu]

theorem revUpto_zero (xs : List Int) : revUpto xs 0 = xs := by
  apply ext_getD (length_revUpto xs 0)
  intro u hu
  rw [length_revUpto] at hu
  rw [getD_revUpto hu, if_neg (by omega)]

theorem revUpto_step {xs : List Int} {k m : Nat} (hm : m + k + 1 = xs.length) (hk : k < m) : swapAt (revUpto xs k) k m = revUpto xs (k + 1) := by
  apply ext_getD (by rw [length_swapAt, length_revUpto, length_revUpto])
  intro u hu
  rw [length_swapAt, length_revUpto] at hu
  rw [getD_swapAt (by rw [length_revUpto]; omega) (by rw [length_revUpto]; omega), getD_revUpto hu, getD_revUpto (show k < xs.length by omega), getD_revUpto (show m < xs.length by omega), getD_revUpto hu]
  by_cases h1 : u = m
  · subst h1
    rw [if_pos rfl, if_neg (by omega), if_pos (by omega), show xs.length - 1 - u = k by omega]
  · rw [if_neg h1]
    by_cases h2 : u = k
    · subst h2
      rw [if_pos rfl, if_neg (by omega), if_pos (by omega), show xs.length - 1 - u = m by omega]
    · rw [if_neg h2]
      by_cases h3 : u < k ∨ xs.length - k ≤ u
      · rw [if_pos h3, if_pos (by omega)]
      · rw [if_neg h3, if_neg (by omega)]

theorem revUpto_end {xs : List Int} {k : Nat} (h : xs.length ≤ k + k + 1) : revUpto xs k = xs.reverse := by
  apply ext_getD (by rw [length_revUpto, List.length_reverse])
  intro u hu
  rw [length_revUpto] at hu
  have e : xs.reverse.getD u 0 = xs.getD (xs.length - 1 - u) 0 := by
    rw [List.getD_eq_getElem?_getD, List.getElem?_reverse hu, List.getD_eq_getElem?_getD]
  rw [getD_revUpto hu, e]
  by_cases h3 : u < k ∨ xs.length - k ≤ u
  · rw [if_pos h3]
  · rw [if_neg h3, show xs.length - 1 - u = u by omega]

/-- In place: the slice holds other numbers; nothing else that was there has turned. -/
def RetPut (w : World) (base : Nat) (v : Value) (ys : List Int) (e : Ending) (w' : World) : Prop := e = .returned (.tuple #[]) ∧ OwnInts w' base v ys ∧ w.grownBy w' v.ownBlock

set_option maxHeartbeats 800000 in
theorem reverse_any (base : Nat) (v : Value) (xs : List Int) (w : World) (h : OwnInts w base v xs) (hn : xs.length ≤ 1000000) :
    Calls Try.prog 77 #[v] w (RetPut w base v xs.reverse) := by
  obtain ⟨A, c, rfl, _, _⟩ := h.ints
  have HO := hid h
  clear h
  generalize hm : xs.length = n at *
  have HL := hid hm
  clear hm
  go_enter Try.func77, Try.ntmps77
  go_wp2
  go_loopg [2, 3] n (fun g s t wr => ∃ k : Nat, k ≤ n ∧ n - k ≤ g ∧ s = .int .i64 k ∧ t = .int .i64 ((n : Int) - 1 - k) ∧ OwnInts wr base (.slice A n c) (revUpto xs k) ∧ w.grownBy wr (Value.slice A n c).ownBlock)
  case atStart => exact ⟨0, Nat.zero_le _, by omega, rfl, by go_num, by rw [revUpto_zero]; exact HO.out, only_refl _ _⟩
  case round =>
    obtain ⟨k, hk, hg, rfl, rfl, hown, hgrow⟩ := hrel
    have HO2 := hid hown
    have HG2 := hid hgrow
    clear hown hgrow
    by_cases hlt : k + k + 1 < n
    · obtain ⟨m, hmk⟩ : ∃ m, m + k + 1 = n := ⟨n - 1 - k, by omega⟩
      have hkm : k < m := by omega
      have hj : (n : Int) - 1 - k = m := by omega
      have HJ := hid hj
      have HMK := hid hmk
      have hmn : m < n := by omega
      have hkn : k < n := by omega
      have hlr : (revUpto xs k).length = n := by rw [length_revUpto, HL.out]
      obtain ⟨gb, cap, hv, hb, hgl, hcap⟩ := HO2.out.form (by rw [hlr]; omega)
      rw [hlr] at hv
      injection hv with hA _ hc
      subst hA
      subst hc
      rw [HJ.out]
      have hO : OwnInts wr base (.slice (some ⟨gb, 0, none⟩) (revUpto xs k).length c) (revUpto xs k) := by rw [hlr]; exact HO2.out
      have g1 : wr.cell? ⟨gb, k, none⟩ = some (.int .i64 ((revUpto xs k).getD k 0)) := hO.cell (by omega)
      have g2 : wr.cell? ⟨gb, m, none⟩ = some (.int .i64 ((revUpto xs k).getD m 0)) := hO.cell (by omega)
      have f1 : wr.frozen? ⟨gb, k, none⟩ = false := hO.frozen k
      have f2 : wr.frozen? ⟨gb, m, none⟩ = false := hO.frozen m
      have HSW : Hid (swapAt (revUpto xs k) k m = ((revUpto xs k).set k ((revUpto xs k).getD m 0)).set m ((revUpto xs k).getD k 0)) := rfl
      have HLR := hid hlr
      have HST := hid (revUpto_step (xs := xs) (k := k) (m := m) (by rw [HL.out]; exact hmk) hkm)
      clear hO hlr hj hmk
      generalize (revUpto xs k).getD k 0 = x at g1 HSW
      generalize (revUpto xs k).getD m 0 = y at g2 HSW
      go_wp2_with fail
      go_region
      go_wp2
      have hmk := HMK.out
      go_roundg (n - (k + 1))
      case measure => omega
      case rel =>
        refine ⟨k + 1, by omega, by omega, by go_num, by go_num, ?_, ?_⟩
        · rw [← HST.out, HSW.out]
          exact ((HO2.out.set HLR.out.symm k y).set (by rw [List.length_set]; exact HLR.out.symm) m x).drew
        · exact only_drewN (only_set (only_set HG2.out k _) m _) 1
    · have hd : ¬ ((k : Int) < (n : Int) - 1 - k) := by omega
      go_wp2
      go_end0
      exact ⟨rfl, by rw [← revUpto_end (xs := xs) (k := k) (by rw [HL.out]; omega)]; exact HO2.out, HG2.out⟩

end Go.Proofs.Ytbcjfiobggggjaa

/-
  slices.Sort at []int, up to twelve numbers: in rising order; slices.Reverse at []int.
-/
namespace Go.Proofs.Ytbcjfiobggggjaa
open Go.RowKit

def climbs (a b : Int) : Prop := a ≤ b

set_option maxHeartbeats 1600000 in
theorem insertionO_any (base g n cap : Nat) (xs : List Int) (w : World) (h : OwnInts w base (.slice (some ⟨g, 0, none⟩) n cap) xs) (hl : xs.length = n) (hn : n ≤ 1000000) (hn1 : 1 ≤ n) :
    Calls Try.prog 81 #[.slice (some ⟨g, 0, none⟩) n cap, .int .i64 0, .int .i64 n] w (RetSort climbs w base g n cap xs) := by
  go_enter Try.func81, Try.ntmps81
  go_wp2
  go_loopg [6] n (fun gh s wr => ∃ (i : Nat) (zs : List Int), i ≤ n ∧ 1 ≤ i ∧ n - i ≤ gh ∧ s = .int .i64 i ∧ OwnInts wr base (.slice (some ⟨g, 0, none⟩) n cap) zs ∧ zs.Perm xs ∧ SortedTo climbs zs i ∧ w.grownBy wr (some g))
  case atStart => exact ⟨1, xs, hn1, Nat.le_refl _, by omega, rfl, h, List.Perm.refl _, fun u v huv hv => by omega, only_refl _ _⟩
  case round =>
    obtain ⟨i, zs, hi, hi1, hg, rfl, hown, hperm, hsort, hgrow⟩ := hrel
    have HO := hid hown
    have HP := hid hperm
    have HS := hid hsort
    have HG := hid hgrow
    clear hown hperm hsort hgrow h
    by_cases hlt : i < n
    · go_wp2
      go_loopg [7] i (fun gh s wr => ∃ (j : Nat) (ys : List Int), j ≤ i ∧ j ≤ gh ∧ s = .int .i64 j ∧ OwnInts wr base (.slice (some ⟨g, 0, none⟩) n cap) ys ∧ ys.Perm xs ∧ InsInv climbs ys i j ∧ w.grownBy wr (some g))
      case atStart => exact ⟨i, zs, Nat.le_refl _, Nat.le_refl _, rfl, HO.out, HP.out, ins_start HS.out, HG.out⟩
      case round =>
        obtain ⟨j, ys, hj, hgj, rfl, hown, hperm, hins, hgrow⟩ := hrel
        have HO2 := hid hown
        have HP2 := hid hperm
        have HI2 := hid hins
        have HG2 := hid hgrow
        clear hown hperm hins hgrow HO HP HS HG
        have hly : ys.length = n := by rw [HP2.out.length_eq, hl]
        have HLY := hid hly
        by_cases hj0 : j = 0
        · subst hj0
          have hd : decide ((0 : Int) < 0) = false := by simp
          go_wp2_with fail
          go_quiet (fail)
          go_wp2
          go_roundg (n - (i + 1))
          case measure => omega
          case rel => exact ⟨i + 1, ys, by omega, by omega, by omega, by go_num, HO2.out.drewN _, HP2.out, ins_zero HI2.out, only_drewN HG2.out _⟩
        · obtain ⟨m, hjm⟩ : ∃ m, j = m + 1 := ⟨j - 1, by omega⟩
          have HJ := hid hjm
          have hmj : m < j := by omega
          have hpos : 0 < j := by omega
          have hd : decide (0 < j) = true := by simp; omega
          have hwr : IntKind.i64.wrap ((j : Int) - 1) = (m : Int) := by rw [IntWalk.i64_in _ (by omega)]; omega
          have hjN : (j : Int) < (n : Int) := by omega
          have hmN : (m : Int) < (n : Int) := by omega
          have hjn : j < n := by omega
          have hmn : m < n := by omega
          have hO : OwnInts wr base (.slice (some ⟨g, 0, none⟩) ys.length cap) ys := by rw [hly]; exact HO2.out
          have g1 : wr.cell? ⟨g, j, none⟩ = some (.int .i64 (ys.getD j 0)) := hO.cell (by omega)
          have g2 : wr.cell? ⟨g, m, none⟩ = some (.int .i64 (ys.getD m 0)) := hO.cell (by omega)
          have f1 : wr.frozen? ⟨g, j, none⟩ = false := hO.frozen j
          have f2 : wr.frozen? ⟨g, m, none⟩ = false := hO.frozen m
          have HSW : Hid (swapAt ys j m = (ys.set j (ys.getD m 0)).set m (ys.getD j 0)) := rfl
          clear hO hly hjm
          generalize hx : ys.getD j 0 = x at g1 HSW
          generalize hy : ys.getD m 0 = y at g2 HSW
          have HX := hid hx
          have HY := hid hy
          clear hx hy
          by_cases hyx : x < y
          · have hc : decide (x < y) = true := by simpa using hyx
            go_wp2_with fail
            go_quiet ((go_at_call 87; exact Calls.quiet_of_same (quiet_left (less_any _ _ _))))
            go_wp2_with fail
            go_region
            go_wp2
            have hjm := HJ.out
            go_roundg m
            case measure => omega
            case rel =>
              refine ⟨m, swapAt ys j m, by omega, Nat.le_refl _, by go_num, ?_, (perm_swapAt (by rw [HLY.out]; exact hjn) (by rw [HLY.out]; exact hmn)).trans HP2.out, ?_, ?_⟩
              · rw [HSW.out]
                exact (((HO2.out.set HLY.out.symm j y).set (by rw [List.length_set]; exact HLY.out.symm) m x).drewN _)
              · have hI := HI2.out
                rw [hjm] at hI ⊢
                refine ins_step hI (by omega) (by rw [HLY.out]; exact hlt) ?_
                rw [← hjm, HX.out, HY.out]
                unfold climbs
                omega
              · exact only_drewN (only_set (only_set HG2.out j _) m _) _
          · have hc : decide (x < y) = false := by simpa using hyx
            go_wp2_with fail
            go_quiet ((go_at_call 87; exact Calls.quiet_of_same (quiet_left (less_any _ _ _))))
            go_wp2
            go_roundg (n - (i + 1))
            case measure => omega
            case rel =>
              refine ⟨i + 1, ys, by omega, by omega, by omega, by go_num, HO2.out.drewN _, HP2.out, ?_, only_drewN HG2.out _⟩
              have hI := HI2.out
              rw [HJ.out] at hI
              refine ins_done (fun a b c h1 h2 => by unfold climbs at *; omega) hI ?_
              rw [← HJ.out, HX.out, HY.out]
              unfold climbs
              omega
    · have hin : i = n := by omega
      subst hin
      go_wp2
      go_end0
      exact ⟨rfl, zs, HO.out, HP.out, HS.out, HG.out⟩

set_option maxHeartbeats 1600000 in
set_option maxRecDepth 100000 in
theorem pdqO_any (base g n cap : Nat) (xs : List Int) (r : Int) (w : World) (h : OwnInts w base (.slice (some ⟨g, 0, none⟩) n cap) xs) (hl : xs.length = n) (hn : n ≤ 12) (hn1 : 1 ≤ n) :
    Calls Try.prog 60 #[.slice (some ⟨g, 0, none⟩) n cap, .int .i64 0, .int .i64 n, .int .i64 r] w (RetSort climbs w base g n cap xs) := by
  go_enter Try.func60, Try.ntmps60
  go_wp2
  go_loopg [1, 2] 0 (fun _ s1 s2 wr => s1 = .int .i64 0 ∧ s2 = .int .i64 n ∧ w = wr)
  case atStart => exact ⟨rfl, rfl, rfl⟩
  case round =>
    obtain ⟨rfl, rfl, rfl⟩ := hrel
    go_wp2_with fail
    refine (insertionO_any base g n cap xs _ h hl (by omega) hn1).mono ?_
    rintro e w' ⟨rfl, hys⟩
    have HYS := hid hys
    clear hys
    go_wp2
    go_end0
    exact ⟨rfl, HYS.out⟩


set_option maxHeartbeats 400000 in
theorem insertionO_zero (A : Option Addr) (c : Nat) (w : World) :
    Calls Try.prog 81 #[.slice A 0 c, .int .i64 0, .int .i64 0] w (RetNone w) := by
  go_enter Try.func81, Try.ntmps81
  go_wp2
  go_loopg [6] 0 (fun _ s wr => s = .int .i64 1 ∧ w = wr)
  case atStart => exact ⟨rfl, rfl⟩
  case round =>
    obtain ⟨rfl, rfl⟩ := hrel
    go_wp2
    go_end0
    exact ⟨rfl, rfl⟩

set_option maxHeartbeats 1600000 in
set_option maxRecDepth 100000 in
theorem pdqO_zero (A : Option Addr) (c : Nat) (r : Int) (w : World) :
    Calls Try.prog 60 #[.slice A 0 c, .int .i64 0, .int .i64 0, .int .i64 r] w (RetNone w) := by
  go_enter Try.func60, Try.ntmps60
  go_wp2
  go_loopg [1, 2] 0 (fun _ s1 s2 wr => s1 = .int .i64 0 ∧ s2 = .int .i64 0 ∧ w = wr)
  case atStart => exact ⟨rfl, rfl, rfl⟩
  case round =>
    obtain ⟨rfl, rfl, rfl⟩ := hrel
    go_wp2_with fail
    refine (insertionO_zero A c _).mono ?_
    rintro e w' ⟨rfl, rfl⟩
    go_wp2
    go_end0
    exact ⟨rfl, rfl⟩

set_option maxHeartbeats 800000 in
theorem sort_any (base : Nat) (v : Value) (xs : List Int) (w : World) (h : OwnInts w base v xs) (hn : xs.length ≤ 12) :
    Calls Try.prog 31 #[v] w (RetSorted climbs w base v xs) := by
  by_cases h0 : xs.length = 0
  · obtain ⟨A, c, rfl, _, _⟩ := h.ints
    have HO := hid h
    clear h
    have hx : xs = [] := List.eq_nil_of_length_eq_zero h0
    subst hx
    go_enter Try.func31, Try.ntmps31
    go_wp2_with fail
    refine (len_small 0 _ (by omega) (by omega)).mono ?_
    rintro e w' ⟨r, rfl, rfl⟩
    go_wp2_with fail
    refine (pdqO_zero A c r _).mono ?_
    rintro e w' ⟨rfl, rfl⟩
    go_wp2
    go_end0
    exact ⟨rfl, [], HO.out, List.Perm.refl _, fun u v huv hv => by simp at hv, only_refl _ _⟩
  · obtain ⟨g, cap, rfl, hb, hg, hc⟩ := h.form (by omega)
    have HO := hid h
    clear h
    generalize hm : xs.length = m at *
    have HM := hid hm
    clear hm
    go_enter Try.func31, Try.ntmps31
    go_wp2_with fail
    refine (len_small m _ (by omega) (by omega)).mono ?_
    rintro e w' ⟨r, rfl, rfl⟩
    go_wp2_with fail
    refine (pdqO_any base g m cap xs r _ HO.out HM.out hn (by omega)).mono ?_
    rintro e w1 ⟨rfl, ys, hown, hperm, hsort, hgrow⟩
    have HY := hid (And.intro hown (And.intro hperm (And.intro hsort hgrow)))
    clear hown hperm hsort hgrow
    go_wp2
    go_end0
    refine ⟨rfl, ys, HY.out.1, HY.out.2.1, ?_, HY.out.2.2.2⟩
    rw [HY.out.2.1.length_eq, HM.out]
    exact HY.out.2.2.1


/-! ### slices.Reverse -/

end Go.Proofs.Ytbcjfiobggggjaa

/-
  The verifier's castref.CyclesOf and castref.OrderOf.
-/
namespace Go.Proofs.Ytbcjfiobggggjaa
open Go.RowKit

/-- The least of the first m numbers met from i on. -/
def lw (p : List Int) (i : Nat) : Nat → Nat
  | 0 => i
  | m + 1 => min (lw p i m) (it p m i)
theorem lw_le (p : List Int) (i : Nat) : ∀ m k, k < m → lw p i m ≤ it p k i
  | m + 1, k, hk => by
    simp only [lw]
    by_cases h : k = m
    · subst h
      exact Nat.min_le_right _ _
    · exact Nat.le_trans (Nat.min_le_left _ _) (lw_le p i m k (by omega))
theorem lw_mem (p : List Int) (i : Nat) : ∀ m, ∃ k, lw p i m = it p k i
  | 0 => ⟨0, rfl⟩
  | m + 1 => by
    simp only [lw]
    rcases Nat.le_total (lw p i m) (it p m i) with h | h
    · rw [Nat.min_eq_left h]
      exact lw_mem p i m
    · rw [Nat.min_eq_right h]
      exact ⟨m, rfl⟩
theorem lw_per {p : List Int} (h : IsPerm p) {i : Nat} (hi : i < p.length) : lw p i (per p i) = lo p i := by
  apply Nat.le_antisymm
  · obtain ⟨k, e⟩ := lo_mem p i
    rw [e, it_mod h hi k]
    exact lw_le p i _ _ (Nat.mod_lt _ (by have := (per_spec h hi).1; omega))
  · obtain ⟨k, e⟩ := lw_mem p i (per p i)
    rw [e]
    exact lo_le h hi k

theorem run_min2 {P : Program} (x y : Nat) (ts : Array TypeId) (t : TypeId) (W : World) :
    (Builtin.min_ ts t #[.int .i64 (x : Int), .int .i64 (y : Int)]).run P W = .ok (.int .i64 ((min x y : Nat) : Int)) W := by
  have e : (if (y : Int) < x then (y : Int) else x) = ((min x y : Nat) : Int) := by split <;> omega
  simp only [Builtin.min_, Builtin.min2, List.foldlM_cons, List.foldlM_nil, pure_bind]
  simp only [e]
  rfl

theorem sorted_reverse {ys : List Int} (h : SortedTo climbs ys ys.length) : SortedTo falls ys.reverse ys.reverse.length := by
  intro u v huv hv
  rw [List.length_reverse] at hv
  have e : ∀ j, j < ys.length → ys.reverse.getD j 0 = ys.getD (ys.length - 1 - j) 0 := fun j hj => by
    rw [List.getD_eq_getElem?_getD, List.getElem?_reverse hj, List.getD_eq_getElem?_getD]
  rw [e u (by omega), e v hv]
  exact h _ _ (by omega) (by omega)

def RetOwnCyc (w : World) (p : List Int) (e : Ending) (w' : World) : Prop := ∃ ys, IsCycles p ys ∧ RetOwn w ys e w'

set_option maxHeartbeats 1600000 in
theorem cyclesOf_any (A : Option Addr) (n c : Nat) (p : List Int) (w : World) (h : Ints w A n p) (hp : IsPerm p) (hn : n ≤ 10) :
    Calls Try.prog 52 #[.slice A n c] w (RetOwnCyc w p) := by
  have HP := hid hp
  have HL := hid h.len
  clear hp
  go_enter Try.func52, Try.ntmps52
  go_wp2
  go_loopg [3, 10] n (fun g v s wr => ∃ k : Nat, k ≤ n ∧ n - k ≤ g ∧ s = .int .i64 k ∧ OwnInts wr w.heap.size v (cycL p k) ∧ Below w.heap.size w wr)
  case atStart => exact ⟨0, Nat.zero_le _, by omega, rfl, OwnInts.nil _ _, Below.refl _ _⟩
  case round =>
    obtain ⟨k, hk, hg, rfl, hown, hbel⟩ := hrel
    have HO := hid hown
    have HB := hid hbel
    clear hown hbel
    by_cases hlt : k < n
    · obtain ⟨b, o, rfl, hb, hc⟩ := h.row (by omega)
      have HC := hid hc
      have hkl : k < p.length := by rw [HL.out]; exact hlt
      have HPS := hid (per_spec HP.out hkl)
      have hstep : ∀ m, p.getD (it p m k) 0 = ((it p (m + 1) k : Nat) : Int) := fun m => by
        have := HP.out.range (getD_mem (it_lt HP.out hkl m))
        show _ = ((nx p (it p m k) : Nat) : Int)
        unfold nx
        omega
      have g0 : wr.cell? ⟨b, o + k, none⟩ = some (.int .i64 ((it p 1 k : Nat) : Int)) := by
        have e := hstep 0
        rw [← e]
        exact (HB.out.cell (p := ⟨b, o + k, none⟩) hb).trans (HC.out k hlt)
      have HST := hid hstep
      clear hc h hkl hstep
      have hp1 := HPS.out.1
      have hpn := HPS.out.2.1
      rw [HL.out] at hpn
      have HLW : Hid (lw p k 1 = k) := by simp [lw, it, Hid]
      have hkk := HLW.out
      clear hkk
      go_wp2
      go_loopg [5, 6, 7] (per p k) (fun g s5 s6 s7 wq => ∃ m : Nat, 1 ≤ m ∧ m ≤ per p k ∧ per p k - m ≤ g ∧ s5 = .int .i64 m ∧ s6 = .int .i64 (lw p k m : Nat) ∧ s7 = .int .i64 (it p m k : Nat) ∧ wr = wq)
      case atStart => exact ⟨1, Nat.le_refl _, hp1, by omega, rfl, by rw [HLW.out], rfl, rfl⟩
      case round =>
        obtain ⟨m, hm1, hm, hgm, rfl, rfl, rfl, rfl⟩ := hrel
        have hkl : k < p.length := by rw [HL.out]; exact hlt
        have hi := it_lt HP.out hkl m
        rw [HL.out] at hi
        by_cases hmp : m < per p k
        · have hne := HPS.out.2.2.2 m hm1 hmp
          have hne' : (((it p m k : Nat) : Int) != (k : Int)) = true := by simp; omega
          have g1 : wr.cell? ⟨b, o + it p m k, none⟩ = some (.int .i64 ((it p (m + 1) k : Nat) : Int)) := by
            rw [← HST.out m]
            exact (HB.out.cell (p := ⟨b, o + it p m k, none⟩) hb).trans (HC.out _ hi)
          have hmin := run_min2 (P := Try.prog) (lw p k m) (it p m k)
          have HW : Hid (min (lw p k m) (it p m k) = lw p k (m + 1)) := rfl
          rw [HW.out] at hmin
          clear hne hkl
          go_wp2
          go_roundg (per p k - (m + 1))
          case measure => omega
          case rel => exact ⟨m + 1, by omega, by omega, by omega, by go_num, rfl, rfl, rfl⟩
        · have hme : m = per p k := by omega
          subst hme
          have hback := HPS.out.2.2.1
          have hlo := lw_per HP.out hkl
          rw [hback, hlo]
          have e1 : (((k : Nat) : Int) != (k : Int)) = false := by simp
          have HLC : Hid ((cycL p k).length ≤ 10) := Nat.le_trans (length_cycL_le p k) (by omega)
          clear hback hlo hi hkl
          by_cases hl : lo p k = k
          · have e2 : (((lo p k : Nat) : Int) == (k : Int)) = true := by simp; omega
            have HLO := hid hl
            clear hl
            go_wp2_with (at_builtin; refine wpList_app1 _ rfl (.tmp 33) (.tmp 35) rfl w.heap.size _ (cycL p k) (per p k : Nat) rfl rfl HO.out (Nat.le_trans HLC.out (by omega)) HB.out.size ?_)
            intro v' w1 hown1 hgrow1 hbel1
            have HO1 := hid hown1
            have HB1 := hid (HB.out.trans hbel1)
            clear hown1 hbel1 hgrow1
            go_wp2
            go_roundg (n - (k + 1))
            case measure => omega
            case rel => exact ⟨k + 1, by omega, by omega, by go_num, by rw [cycL_yes HLO.out]; exact HO1.out, HB1.out⟩
          · have e2 : (((lo p k : Nat) : Int) == (k : Int)) = false := by simp; omega
            have HLO := hid hl
            clear hl
            go_wp2
            go_roundg (n - (k + 1))
            case measure => omega
            case rel => exact ⟨k + 1, by omega, by omega, by go_num, by rw [cycL_no HLO.out]; exact HO.out, HB.out⟩
    · have hkn : k = n := by omega
      subst hkn
      have hl10 := Nat.le_trans (length_cycL_le p k) hn
      go_wp2_with fail
      refine (sort_any w.heap.size _ _ _ HO.out (by omega)).mono ?_
      rintro e w3 ⟨rfl, ys, hown3, hperm, hsort, hgrow⟩
      have HB3 := hid (HB.out.grown hgrow HB.out.size (fun k hk => (World.ownsRow.lt HO.out k hk).1))
      have HO3 := hid hown3
      have HPM := hid hperm
      have HSO := hid hsort
      have hl3 : ys.length ≤ 10 := by rw [hperm.length_eq]; exact hl10
      clear hown3 hperm hsort hgrow
      go_wp2_with fail
      refine (reverse_any w.heap.size _ _ _ HO3.out (by omega)).mono ?_
      rintro e w4 ⟨rfl, hown4, hgrow⟩
      have HB4 := hid (HB3.out.grown hgrow HB3.out.size (fun k hk => (World.ownsRow.lt HO3.out k hk).1))
      have HO4 := hid hown4
      clear hown4 hgrow
      go_wp2
      go_ret
      exact ⟨ys.reverse, ⟨(List.reverse_perm ys).trans (by rw [HL.out]; exact HPM.out), sorted_reverse HSO.out⟩, _, rfl, HO4.out, HB4.out⟩

/-! ### OrderOf -/

/-- p, m times. -/
def pw (p : List Int) (m : Nat) : List Int := (List.range p.length).map (fun i => ((it p m i : Nat) : Int))
theorem length_pw (p : List Int) (m : Nat) : (pw p m).length = p.length := by simp [pw]
theorem getD_pw {p : List Int} {i : Nat} (h : i < p.length) (m : Nat) : (pw p m).getD i 0 = ((it p m i : Nat) : Int) := by simp [pw, List.getD_eq_getElem?_getD, h]
theorem pw_one {p : List Int} (h : IsPerm p) : pw p 1 = p := by
  apply ext_getD (length_pw p 1)
  intro i hi
  rw [length_pw] at hi
  rw [getD_pw hi]
  have := h.range (getD_mem hi)
  show ((nx p i : Nat) : Int) = _
  unfold nx
  omega
theorem pw_succ {p : List Int} (h : IsPerm p) (m : Nat) : times p (pw p m) = pw p (m + 1) := by
  apply ext_getD (by rw [length_times, length_pw, length_pw])
  intro i hi
  rw [length_times, length_pw] at hi
  rw [getD_times (by rw [length_pw]; exact hi), getD_pw hi, getD_pw hi, Int.toNat_natCast]
  have := h.range (getD_mem (it_lt h hi m))
  show _ = ((nx p (it p m i) : Nat) : Int)
  unfold nx
  omega
theorem isPerm_pw {p : List Int} (h : IsPerm p) : ∀ m, 1 ≤ m → IsPerm (pw p m)
  | 1, _ => by rw [pw_one h]; exact h
  | m + 2, _ => by
    rw [← pw_succ h]
    exact isPerm_times h (isPerm_pw h (m + 1) (by omega)) (by rw [length_pw])
theorem pw_range {p : List Int} (h : IsPerm p) (m : Nat) {x : Int} (hx : x ∈ pw p m) : 0 ≤ x ∧ x < p.length := by
  obtain ⟨i, hi, rfl⟩ := List.mem_map.1 hx
  have := it_lt h (List.mem_range.1 hi) m
  omega

theorem sortedTo_of_sortedB {xs : List Int} (h : sortedB xs = true) : SortedTo climbs xs xs.length := by
  have h' := sortedB_true.1 h
  intro u v huv hv
  induction v with
  | zero => omega
  | succ v ih =>
    by_cases e : u = v
    · subst e
      exact h' u hv
    · have h1 := ih (by omega) (by omega)
      have h2 := h' v hv
      unfold climbs at *
      omega
theorem climbs_anti (a b : Int) (h : climbs a b) (h' : climbs b a) : a = b := by unfold climbs at *; omega
theorem sorted_perm {p : List Int} (hp : IsPerm p) (h : sortedB p = true) : p = iota p.length :=
  sorted_unique climbs_anti (pairwise_of_sortedTo (sortedTo_of_sortedB h)) (pairwise_iota _) hp

theorem it_dvd {p : List Int} (h : IsPerm p) {i : Nat} (hi : i < p.length) (m : Nat) : it p m i = i ↔ per p i ∣ m := by
  have hs := per_spec h hi
  rw [it_mod h hi]
  constructor
  · intro e
    apply Nat.dvd_of_mod_eq_zero
    apply Classical.byContradiction
    intro hne
    exact hs.2.2.2 (m % per p i) (by omega) (Nat.mod_lt _ (by omega)) e
  · intro hd
    rw [Nat.mod_eq_zero_of_dvd hd]
    rfl

theorem foldl_lcm_dvd (l : List Int) (a m : Nat) : l.foldl (fun a x => Nat.lcm a x.toNat) a ∣ m ↔ a ∣ m ∧ ∀ x, x ∈ l → x.toNat ∣ m := by
  induction l generalizing a with
  | nil => simp
  | cons y t ih =>
    rw [List.foldl_cons, ih]
    constructor
    · rintro ⟨h1, h2⟩
      refine ⟨Nat.dvd_trans (Nat.dvd_lcm_left _ _) h1, fun x hx => ?_⟩
      rcases List.mem_cons.1 hx with rfl | hx
      · exact Nat.dvd_trans (Nat.dvd_lcm_right _ _) h1
      · exact h2 x hx
    · rintro ⟨h1, h2⟩
      exact ⟨Nat.lcm_dvd h1 (h2 y (by simp)), fun x hx => h2 x (by simp [hx])⟩
theorem ordL_dvd (l : List Int) (m : Nat) : ordL l ∣ m ↔ ∀ x, x ∈ l → x.toNat ∣ m := by
  unfold ordL
  rw [foldl_lcm_dvd]
  simp

/-- p done m times lets each go to itself just where its order divides m. -/
theorem pw_sorted {p : List Int} (h : IsPerm p) {m : Nat} (hm : 1 ≤ m) : sortedB (pw p m) = true ↔ ordL (cycL p p.length) ∣ m := by
  rw [ordL_dvd]
  constructor
  · intro hs x hx
    obtain ⟨i, hi, rfl⟩ := List.mem_map.1 hx
    have hi' := List.mem_range.1 (List.mem_filter.1 hi).1
    rw [Int.toNat_natCast]
    rw [← it_dvd h hi']
    have e := sorted_perm (isPerm_pw h m hm) hs
    have e2 := congrArg (fun l : List Int => l.getD i 0) e
    simp only [length_pw] at e2
    rw [getD_pw hi', getD_iota hi'] at e2
    omega
  · intro hd
    have e : pw p m = iota p.length := by
      apply ext_getD (by rw [length_pw, length_iota])
      intro i hi
      rw [length_pw] at hi
      rw [getD_pw hi, getD_iota hi]
      have hl := lo_eq h hi rfl
      have hmem : ((per p (lo p i) : Nat) : Int) ∈ cycL p p.length := List.mem_map.2 ⟨lo p i, List.mem_filter.2 ⟨List.mem_range.2 hl.1, by simp [hl.2.1]⟩, rfl⟩
      have h1 := hd _ hmem
      rw [Int.toNat_natCast] at h1
      obtain ⟨_, _, k, _, ek⟩ := hl
      have h2 := per_it h (lo_lt h hi) k
      rw [ek] at h2
      rw [← h2] at h1
      rw [(it_dvd h hi m).2 h1]
    rw [e]
    exact sorted_iota _

theorem ordL_bound {p : List Int} (h : IsPerm p) (hl : p.length ≤ 10) : 1 ≤ ordL (cycL p p.length) ∧ ordL (cycL p p.length) ≤ 10000000000 := by
  have hb := ordL_take_bound (l := cycL p p.length) (fun x hx => by have := mem_cycL h hx; omega) (cycL p p.length).length (Nat.le_refl _)
  rw [List.take_of_length_le (Nat.le_refl _)] at hb
  refine ⟨hb.1, Nat.le_trans hb.2 ?_⟩
  have : 10 ^ (cycL p p.length).length ≤ 10 ^ 10 := Nat.pow_le_pow_right (by omega) (Nat.le_trans (length_cycL_le p p.length) hl)
  simpa using this

end Go.Proofs.Ytbcjfiobggggjaa

/-
  castref.ColoursOf.
-/
namespace Go.Proofs.Ytbcjfiobggggjaa
open Go.RowKit

def RetC (w : World) (N : Nat) (e : Ending) (w' : World) : Prop := e = .returned (.int .i64 (N : Int)) ∧ Below w.heap.size w w'

set_option maxRecDepth 100000 in
set_option maxHeartbeats 1600000 in
theorem refColours_ok (A : Option Addr) (c : Nat) (T : List (List Int)) (x : Nat) (w : World) (h : RRows w A T.length T) (hx : x ≤ 10) (hT0 : 0 < T.length) (hTL : T.length ≤ 720) (hok : ∀ j, j < T.length → (T.getD j []).length ≤ 6 ∧ IsPerm (T.getD j [])) :
    Calls Try.prog 16 #[.slice A T.length c, .int .i64 (x : Int)] w (RetC w (colN T x)) := by
  have HR1 := hid h
  have HOK := hid hok
  have HT6 := hid (show ∀ j, j < T.length → (T.getD j []).length ≤ 6 from fun j hj => (hok j hj).1)
  clear h hok
  go_enter Try.func16, Try.ntmps16
  go_wp2_with fail
  go_loopg [5, 11] T.length (fun g v s wr => ∃ j : Nat, j ≤ T.length ∧ T.length - j ≤ g ∧ s = .int .i64 j ∧ v = .int .i64 ((colS (T.take j) x : Nat) : Int) ∧ Below w.heap.size w wr)
  case atStart => exact ⟨0, Nat.zero_le _, by omega, rfl, rfl, Below.refl _ _⟩
  case round =>
    obtain ⟨j, hj, hg, rfl, rfl, hbel⟩ := hrel
    have HB := hid hbel
    clear hbel
    by_cases hlt : j < T.length
    · obtain ⟨b, off, Aj, nj, cj, eA, hcell, hI, hcap⟩ := (HR1.out.keep HB.out).at hlt
      subst eA
      have hOk := HOK.out j hlt
      have hnj : nj ≤ 6 := by rw [← hI.len]; exact hOk.1
      have HST := hid (colS_step hlt x)
      have hS := colS_le hx HT6.out j hj
      have hS2 : colS (T.take j) x ≤ 720000000 := by omega
      have HP6 := hid (fun i (hi : i ≤ 6) => pow_six hx hi)
      have HC6 := hid (Nat.le_trans (cyc_le (T.getD j [])) hOk.1)
      have hu := cyclesOf_any Aj nj cj (T.getD j []) wr hI hOk.2 (by omega)
      clear hOk hI hcap hS
      generalize hs1 : colS (T.take j) x = S at *
      clear hs1
      go_wp2_with fail
      refine hu.mono ?_
      rintro e w2 ⟨ys, hcy, vy, rfl, hoy, hb2⟩
      obtain ⟨A2, c2, rfl, _, hcap2⟩ := hoy.ints
      have hlc := cyc_of hcy
      have hyl : ys.length ≤ 6 := by rw [hlc]; exact HC6.out
      have HLC := hid hlc
      have HB2 := hid (below_step HB.out (Nat.le_refl _) hb2)
      clear hb2 hu hcell hcy hoy hlc
      generalize ys.length = l at *
      go_wp2_with fail
      go_loopg [8, 18] l (fun g v s wq => ∃ i : Nat, i ≤ l ∧ l - i ≤ g ∧ s = .int .i64 i ∧ v = .int .i64 ((x ^ i : Nat) : Int) ∧ w2 = wq)
      case atStart => exact ⟨0, Nat.zero_le _, by omega, rfl, by simp, rfl⟩
      case round =>
        obtain ⟨i, hi, hgi, rfl, rfl, rfl⟩ := hrel
        by_cases hil : i < l
        · have hP := HP6.out i (by omega)
          have hQ := HP6.out (i + 1) (by omega)
          have hPQ : ((x ^ i : Nat) : Int) * (x : Int) = ((x ^ (i + 1) : Nat) : Int) := by rw [← Int.natCast_mul, ← Nat.pow_succ]
          generalize x ^ i = P at *
          generalize hq : x ^ (i + 1) = Q at *
          have HQ2 := hid hq
          clear hq
          go_wp2
          go_roundg (l - (i + 1))
          case measure => omega
          case rel => exact ⟨i + 1, by omega, by omega, by go_num, by rw [HQ2.out], rfl⟩
        · have hil' : i = l := by omega
          subst hil'
          have hP := HP6.out i hyl
          have HE : Hid (x ^ i = x ^ cyc (T.getD j [])) := by show x ^ i = _; rw [HLC.out]
          generalize x ^ i = P at *
          go_wp2
          go_roundg (T.length - (j + 1))
          case measure => omega
          case rel => exact ⟨j + 1, by omega, by omega, by go_num, by rw [HST.out, ← HE.out]; go_num, HB2.out⟩
    · have hjl : j = T.length := by omega
      subst hjl
      have HE : Hid (colS (T.take T.length) x = colS T x) := by show colS (T.take T.length) x = colS T x; rw [List.take_length]
      have hS := colS_le hx HT6.out T.length (Nat.le_refl _)
      have HN := hid (show colN T x = colS (T.take T.length) x / T.length by rw [HE.out]; rfl)
      generalize colS (T.take T.length) x = S at *
      have HD := hid (Nat.div_le_self S T.length)
      generalize hN : T.length = N at *
      have hS2 : S ≤ 720000000 := by omega
      go_wp2
      go_ret
      refine ⟨?_, HB.out⟩
      show Ending.returned (.int .i64 (wrap64 ((S : Int) / (N : Int)))) = _
      have hD := HD.out
      have h0 : (0 : Int) ≤ (S : Int) / (N : Int) := Int.ediv_nonneg (by omega) (by omega)
      rw [HN.out, ← Int.natCast_ediv, IntWalk.wrap64_in _ (by omega)]

end Go.Proofs.Ytbcjfiobggggjaa

/-
  slices.IndexFunc, ContainsFunc at rows: is something so of one of them?
-/
namespace Go.Proofs.Ytbcjfiobggggjaa
open Go.RowKit

/-- What the function value (function F, bound to env) says of each row. -/
def RowPred (F : Nat) (env : Array Value) (q : List Int → Bool) (L : List (List Int)) (w : World) : Prop :=
  ∀ (A : Option Addr) (n c : Nat) (xs : List Int) (w' : World), xs ∈ L → Below w.heap.size w w' → Ints w' A n xs → Cap n c →
    Calls Try.prog F (#[.slice A n c] ++ env) w' fun e w'' => e = .returned (.bool (q xs)) ∧ Below w'.heap.size w' w''

/-- A place, or none: and is it there? -/
def RetIdx (w : World) (b : Bool) (e : Ending) (w' : World) : Prop := ∃ x : Int, e = .returned (.int .i64 x) ∧ decide (0 ≤ x) = b ∧ Below w.heap.size w w'

theorem getD_memR {L : List (List Int)} {j : Nat} (hj : j < L.length) : L.getD j [] ∈ L := by
  rw [List.getD_eq_getElem?_getD, List.getElem?_eq_getElem hj]
  exact List.getElem_mem hj
theorem any_of_at {L : List (List Int)} {q : List Int → Bool} {j : Nat} (hj : j < L.length) (h : q (L.getD j []) = true) : L.any q = true := List.any_eq_true.2 ⟨_, getD_memR hj, h⟩
theorem any_none {L : List (List Int)} {q : List Int → Bool} (h : ∀ j, j < L.length → q (L.getD j []) = false) : L.any q = false := by
  rw [List.any_eq_false]
  intro x hx
  obtain ⟨j, hj, rfl⟩ := List.getElem_of_mem hx
  have := h j hj
  rw [List.getD_eq_getElem?_getD, List.getElem?_eq_getElem hj] at this
  simpa using this

set_option maxRecDepth 100000 in
set_option maxHeartbeats 800000 in
theorem indexFuncR (F : Nat) (env : Array Value) (eg : ∀ args w, (callFunc F args).run Try.prog w = .ok (.enter F args) w) (q : List Int → Bool) (A : Option Addr) (m c : Nat) (L : List (List Int)) (w : World) (h : RRows w A m L) (hm : m ≤ 9223372036854775807) (hq : RowPred F env q L w) :
    Calls Try.prog 58 #[.slice A m c, .func (.func F) #[] env] w (RetIdx w (L.any q)) := by
  have HQ := hid hq
  have HL := hid h.len
  clear hq
  go_enter Try.func58, Try.ntmps58
  go_wp2
  go_loopg [5, 8] m (fun g _ s wr => ∃ j : Nat, j ≤ m ∧ m - j ≤ g ∧ s = .int .i64 j ∧ (∀ i, i < j → q (L.getD i []) = false) ∧ Below w.heap.size w wr)
  case atStart => exact ⟨0, Nat.zero_le _, by omega, rfl, fun i hi => absurd hi (Nat.not_lt_zero _), Below.refl _ _⟩
  case round =>
    obtain ⟨j, hj, hg, rfl, hok, hbel⟩ := hrel
    have HO := hid hok
    have HB := hid hbel
    have hR := h.keep hbel
    clear hok hbel
    by_cases hlt : j < m
    · obtain ⟨b, off, Aj, nj, cj, rfl, hcell, hI, hcap⟩ := hR.at hlt
      have HJ : Hid (j < L.length) := by show j < L.length; rw [HL.out]; exact hlt
      have hcall := HQ.out Aj nj cj (L.getD j []) wr (getD_memR HJ.out) HB.out hI hcap
      have HT := hid (any_of_at (q := q) HJ.out)
      have HR := hid (show q (L.getD j []) = q (L.getD j []) from rfl)
      clear hR hI h
      cases hb : q (L.getD j []) with
      | true =>
        rw [hb] at hcall
        have HT2 := hid (HT.out hb)
        clear HT HR hb
        go_wp2_with (go_at_fn F; refine hcall.mono ?_; rintro e w1 ⟨rfl, hb1⟩)
        have HB1 := hid (below_step HB.out (Nat.le_refl _) hb1)
        clear hb1
        go_wp2
        go_ret
        exact ⟨j, rfl, by rw [HT2.out]; simp, HB1.out⟩
      | false =>
        rw [hb] at hcall
        have HF := hid hb
        clear HT HR hb
        go_wp2_with (go_at_fn F; refine hcall.mono ?_; rintro e w1 ⟨rfl, hb1⟩)
        have HB1 := hid (below_step HB.out (Nat.le_refl _) hb1)
        clear hb1
        go_wp2
        go_roundg (m - (j + 1))
        case measure => omega
        case rel =>
          refine ⟨j + 1, by omega, by omega, by go_num, fun i hi => ?_, HB1.out⟩
          by_cases e : i = j
          · subst e; exact HF.out
          · exact HO.out i (by omega)
    · have hjm : j = m := by omega
      subst hjm
      clear h hR
      go_wp2
      go_ret
      exact ⟨-1, rfl, by rw [any_none (by rw [HL.out]; exact HO.out)]; rfl, HB.out⟩

set_option maxRecDepth 100000 in
set_option maxHeartbeats 800000 in
theorem containsFuncR (F : Nat) (env : Array Value) (eg : ∀ args w, (callFunc F args).run Try.prog w = .ok (.enter F args) w) (q : List Int → Bool) (A : Option Addr) (m c : Nat) (L : List (List Int)) (w : World) (h : RRows w A m L) (hm : m ≤ 9223372036854775807) (hq : RowPred F env q L w) :
    Calls Try.prog 27 #[.slice A m c, .func (.func F) #[] env] w fun e w' => e = .returned (.bool (L.any q)) ∧ Below w.heap.size w w' := by
  have hc := indexFuncR F env eg q A m c L w h hm hq
  clear h hq
  go_enter Try.func27, Try.ntmps27
  go_wp2_with (go_at_call 58; refine hc.mono ?_)
  rintro e w1 ⟨x, rfl, hx, hb⟩
  have HX := hid hx
  have HB := hid hb
  clear hx hb
  go_wp2
  go_ret
  exact ⟨by rw [HX.out]; rfl, HB.out⟩

end Go.Proofs.Ytbcjfiobggggjaa

/-
  castref.OrbitErr.
-/
namespace Go.Proofs.Ytbcjfiobggggjaa
open Go.RowKit

set_option maxRecDepth 100000 in
set_option maxHeartbeats 800000 in
theorem errRow (b k : Nat) (A : Option Addr) (n c : Nat) (p : List Int) (w : World) (hk : k ≤ 6) (hcell : w.cell? ⟨b, 0, none⟩ = some (.int .i64 (k : Int))) (hI : Ints w A n p) (hn : n ≤ 9223372036854775807) :
    Calls Try.prog 47 #[.slice A n c, .pointer (some ⟨b, 0, none⟩)] w fun e w' => e = .returned (.bool (!okRow k p)) ∧ Below w.heap.size w w' := by
  have HE := hid hI.len
  by_cases hnk : n = k
  · subst hnk
    have e1 : (((n : Nat) : Int) != (n : Int)) = false := by simp
    have hz : (permErr p != 0) = !okRow n p := by unfold okRow; rw [HE.out]; by_cases h : permErr p = 0 <;> simp [h]
    have HZ := hid hz
    clear hz
    go_enter Try.func47, Try.ntmps47
    go_wp2_with fail
    refine (refErr_any A n c p _ hI (by omega)).mono ?_
    rintro e w1 ⟨rfl, rfl⟩
    generalize permErr p = z at HZ
    go_wp2
    go_ret
    exact ⟨by rw [← HZ.out]; rfl, Below.refl _ _⟩
  · have e1 : (((n : Nat) : Int) != (k : Int)) = true := by simp; omega
    have HZ : Hid (okRow k p = false) := by
      show okRow k p = false
      unfold okRow
      rw [HE.out]
      simp [hnk]
    clear hI
    go_enter Try.func47, Try.ntmps47
    go_wp2
    go_ret
    exact ⟨by rw [HZ.out]; rfl, Below.refl _ _⟩

theorem all_not {L : List (List Int)} {k : Nat} : L.any (fun p => !okRow k p) = !L.all (okRow k) := by
  induction L with
  | nil => rfl
  | cons a L ih => simp only [List.any_cons, List.all_cons, ih, Bool.not_and]

theorem orbE_any {L : List (List Int)} {k : Nat} (hk : k ≤ 6) (hl : L.length ≤ 6) : orbE (k : Int) L = if L.any (fun p => !okRow k p) = true then 3 else 0 := by
  unfold orbE
  rw [if_neg (by omega), if_neg (by omega), all_not, show ((k : Int)).toNat = k by omega]
  cases L.all (okRow k) <;> rfl

set_option maxRecDepth 100000 in
set_option maxHeartbeats 800000 in
theorem orbitErr_any (A : Option Addr) (m c : Nat) (L : List (List Int)) (n : Int) (w : World) (h : RRows w A m L) (hm : m ≤ 9223372036854775807) :
    Calls Try.prog 12 #[.int .i64 n, .slice A m c] w fun e w' => e = .returned (.int .i64 (orbE n L)) ∧ Below w.heap.size w w' := by
  have HBA := fun o => hid (below_alloc w o)
  by_cases h0 : n < 0
  · rw [orbE_arg (Or.inl h0)]
    have d0 : decide (n < 0) = true := by simp [h0]
    go_enter Try.func12, Try.ntmps12
    go_wp2
    go_ret
    exact ⟨rfl, (HBA _).out⟩
  by_cases h6 : 6 < n
  · rw [orbE_arg (Or.inr h6)]
    have d0 : decide (n < 0) = false := by simp; omega
    have d1 : decide (6 < n) = true := by simp [h6]
    go_enter Try.func12, Try.ntmps12
    go_wp2
    go_ret
    exact ⟨rfl, (HBA _).out⟩
  obtain ⟨k, rfl⟩ := Int.eq_ofNat_of_zero_le (show 0 ≤ n by omega)
  have hk : k ≤ 6 := by omega
  clear h0 h6
  have d0 : decide ((k : Int) < 0) = false := by simp
  have d1 : decide (6 < (k : Int)) = false := by simp; omega
  have HL := hid h.len
  by_cases hl : 6 < m
  · rw [orbE_large hk (by rw [HL.out]; exact hl)]
    clear h
    go_enter Try.func12, Try.ntmps12
    go_wp2
    go_ret
    exact ⟨rfl, (HBA _).out⟩
  have hl6 : m ≤ 6 := by omega
  clear hl
  have HOE := hid (orbE_any (L := L) hk (by rw [HL.out]; exact hl6))
  have eg : ∀ args w, (callFunc 47 args).run Try.prog w = .ok (.enter 47 args) w := enters_of Try.func47 (by kernel_rfl) rfl
  have HC := fun (ty : TypeId) => hid (containsFuncR 47 #[.pointer (some ⟨w.heap.size, 0, none⟩)] eg (fun p => !okRow k p) A m c L (w.alloc (.cells #[.int .i64 (k : Int)] ty)) (h.keep (below_alloc w _)) hm (by
    intro A' n' c' xs w' _ hb hI hcap
    refine errRow w.heap.size k A' n' c' xs w' hk ?_ hI (Nat.le_trans hcap.1 hcap.2)
    rw [hb.cell (p := ⟨w.heap.size, 0, none⟩) (by simp)]
    simp))
  clear h eg
  go_enter Try.func12, Try.ntmps12
  go_wp2_with (go_at_call 27; refine (HC _).out.mono ?_)
  rintro e w1 ⟨rfl, hb⟩
  have HB := hid ((HBA _).out.trans (hb.mono (by simp)))
  clear hb
  rcases hx : L.any (fun p => !okRow k p) with _ | _
  · rw [hx] at HOE
    clear hx
    go_wp2
    go_ret
    rw [HOE.out]
    exact ⟨rfl, HB.out⟩
  · rw [hx] at HOE
    clear hx
    go_wp2
    go_ret
    rw [HOE.out]
    exact ⟨rfl, HB.out⟩

end Go.Proofs.Ytbcjfiobggggjaa

/-
  castlaw.alike at ints.
-/
namespace Go.Proofs.Ytbcjfiobggggjaa
open Go.RowKit

set_option maxHeartbeats 400000 in
theorem alike_bel (A1 : Option Addr) (n c : Nat) (A2 : Option Addr) (m d : Nat) (xs ys : List Int) (w : World) (h1 : Ints w A1 n xs) (h2 : Ints w A2 m ys) (hn : n ≤ 1000000) (hm : m ≤ 1000000) :
    Calls Try.prog 17 #[.slice A1 n c, .slice A2 m d] w fun e w' => e = .returned (.bool (decide (xs = ys))) ∧ Below w.heap.size w w' := by
  have H1 := hid h1
  have H2 := hid h2
  clear h1 h2
  go_enter Try.func17, Try.ntmps17
  go_wp2_with fail
  refine (equal_bel A1 n c A2 m d xs ys _ H1.out H2.out hn hm).mono ?_
  rintro e w1 ⟨rfl, hb⟩
  have HB := hid hb
  clear hb
  go_wp2
  go_ret
  exact ⟨rfl, HB.out⟩

end Go.Proofs.Ytbcjfiobggggjaa
