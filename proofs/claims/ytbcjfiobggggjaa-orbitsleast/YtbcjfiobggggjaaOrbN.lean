/-
  orbits.Least, castref.LeastOf: the least row that the group makes of one.
-/
import Derived.Test.YtbcjfiobggggjaaOrbL
import Derived.Test.YtbcjfiobggggjaaOrbG
import Derived.Test.YtbcjfiobggggjaaClone
namespace Go.Proofs.Ytbcjfiobggggjaa
open Go.RowKit

/-! ### 'group[1:]' -/
set_option maxRecDepth 100000 in
theorem sizeRowO : ∀ w, (Go.sizeOf 23).run Try.prog w = .ok 1 w := by
  exact fun _ => by kernel_rfl
theorem run_fromO (A : Option Addr) (n c l : Nat) (L : Int) (hL : L = (l : Int)) (hl : l ≤ n) (W : World) :
    (Instr.slice 22 (.slice A n c) (some (.int .i64 L)) none none).run Try.prog W = .ok (.slice (subA A c l) (n - l) (c - l)) W := by
  subst hL
  have ht' : Try.prog.underlying 22 = some (.slice (Try.prog.elem 22)) := by simp [Program.elem, Try.underlying22]
  have he : Try.prog.elem 22 = 23 := by simp [Program.elem, Try.underlying22]
  rw [run_slice_l W _ _ _ _ ht' .i64 _ (by omega) (by omega), he, sizeRowO]
  simp [Result.andThen, sliced, subA]
theorem RRows.drop {w : World} {A : Option Addr} {n c l : Nat} {T : List (List Int)} (h : RRows w A n T) (hl : l ≤ n) (hc : n ≤ c) : RRows w (subA A c l) (n - l) (T.drop l) := by
  refine ⟨by rw [List.length_drop, h.len], fun hp => ?_⟩
  obtain ⟨b, o, rfl, hb, hcell⟩ := h.row (by omega)
  refine ⟨b, o + l, ?_, hb, fun j hj => ?_⟩
  · unfold subA
    rw [if_neg (by omega)]
    simp only [Option.map_some, Addr.add]
    by_cases h0 : l = 0
    · subst h0
      rfl
    · rw [if_neg h0]
  · have := hcell (l + j) (by omega)
    rw [show o + l + j = o + (l + j) by omega]
    simpa [List.getD_eq_getElem?_getD] using this

theorem LeastOn.length {S : List (List Int)} {row b : List Int} {k : Nat} (h : LeastOn S row b) (hS : ∀ p, p ∈ S → p.length = k) : b.length = k := by
  obtain ⟨p, hp, rfl⟩ := h.orb
  rw [length_mv, hS p hp]

/-- The least row comes back. -/
def RetLeast (w : World) (k : Nat) (L : List (List Int)) (row : List Int) (e : Ending) (w' : World) : Prop := ∃ v b, e = .returned (.tuple #[v, .int .i64 0]) ∧ LeastRow k L row b ∧ OwnInts w' w.heap.size v b ∧ Below w.heap.size w w'

theorem least_bad (A : Option Addr) (m c : Nat) (B : Option Addr) (q d : Nat) (L : List (List Int)) (n : Int) (w : World) (h : RRows w A m L) (hm : m ≤ 9223372036854775807) (he : orbE n L ≠ 0) :
    Calls Try.prog 11 #[.int .i64 n, .slice A m c, .slice B q d] w fun e w' => e = .returned (.tuple #[.slice none 0 0, .int .i64 (orbE n L)]) ∧ Below w.heap.size w w' := by
  have e1 : (orbE n L != 0) = true := by simp [he]
  have hc := group_bad A m c L n w h hm he
  clear h he
  generalize orbE n L = z at *
  go_enter Try.func11, Try.ntmps11
  go_wp2_with fail
  refine hc.mono ?_
  rintro e w1 ⟨rfl, hb1⟩
  have HB1 := hid hb1
  clear hb1
  go_wp2
  go_ret2
  exact ⟨rfl, HB1.out⟩

theorem least_form (A : Option Addr) (m c : Nat) (B : Option Addr) (q d : Nat) (L : List (List Int)) (k : Nat) (w : World) (h : RRows w A m L) (he : orbE (k : Int) L = 0) (hq : q ≠ k) :
    Calls Try.prog 11 #[.int .i64 (k : Int), .slice A m c, .slice B q d] w fun e w' => e = .returned (.tuple #[.slice none 0 0, .int .i64 3]) ∧ Below w.heap.size w w' := by
  have e1 : ((q : Int) != (k : Int)) = true := by simp; omega
  have hc := group_ok A m c L k w h he
  clear h he
  go_enter Try.func11, Try.ntmps11
  go_wp2_with fail
  refine hc.mono ?_
  rintro e w1 ⟨v, T, rfl, _, hr, hb1⟩
  obtain ⟨A1, c1, rfl, _⟩ := hr.form
  have HB1 := hid hb1
  clear hb1 hr hc
  go_wp2
  go_ret2
  exact ⟨rfl, HB1.out⟩

set_option maxRecDepth 100000 in
set_option maxHeartbeats 1600000 in
theorem least_ok (A : Option Addr) (m c : Nat) (B : Option Addr) (d : Nat) (L : List (List Int)) (k : Nat) (row : List Int) (w : World) (h : RRows w A m L) (hB : Ints w B k row) (he : orbE (k : Int) L = 0) :
    Calls Try.prog 11 #[.int .i64 (k : Int), .slice A m c, .slice B k d] w (RetLeast w k L row) := by
  have hc := group_ok A m c L k w h he
  obtain ⟨k', hk1, hk6, _, hgood⟩ := orbE_zero he
  have hkk : k = k' := by omega
  subst hkk
  have HOr := hid (show Orders k L from hgood)
  have HRW := hid hB.len
  clear h he hk1 hgood
  have e1 : ((k : Int) != (k : Int)) = false := by simp
  go_enter Try.func11, Try.ntmps11
  go_wp2_with fail
  refine hc.mono ?_
  rintro e w1 ⟨v, T, rfl, hG, hr, hb1⟩
  have hB1 := hB.keep hb1
  obtain ⟨A1, c1, ev, hR1, hcp1, _⟩ := hr.rrows
  subst ev
  have HG := hid hG
  have HB1 := hid hb1
  have hTL := Nat.le_trans (hG.length_le HOr.out) (Nat.le_trans (fact_mono hk6) (show fact 6 ≤ 720 by decide))
  have hT0 := hG.pos
  have HOK := hid (fun p (hp : p ∈ T) => hG.ok HOr.out hp)
  obtain ⟨b0, off0, Aj, nj, cj, eA, hcell0, hI0, _⟩ := hR1.at hT0
  rw [Nat.add_zero] at hcell0
  have hk0 : k = nj := by rw [← hI0.len, (HOK.out _ (getD_mem_rows hT0)).1]
  subst hk0
  have hfrom := run_fromO A1 T.length c1 1 1 rfl (by omega)
  have HR1 := hid (hR1.drop (l := 1) (by omega) hcp1.1)
  generalize hA2 : subA A1 c1 1 = A2 at hfrom HR1
  have HA2 := hid hA2
  have hm0 := moved_ok B k d Aj cj row (T.getD 0 []) w1 hB1 hI0 (HOK.out _ (getD_mem_rows hT0)).2 (by omega)
  subst eA
  clear hb1 hr hc hG hR1 hB hA2 hI0
  go_wp2_with fail
  refine hm0.mono ?_
  rintro e w2 ⟨v2, rfl, ho2, hb2⟩
  obtain ⟨A3, c3, e3, _⟩ := ho2.ints
  rw [length_mv, (HOK.out _ (getD_mem_rows hT0)).1] at e3
  subst e3
  have HO2 := hid (ho2.mono HB1.out.size)
  have HB2 := hid (below_step HB1.out (Nat.le_refl _) hb2)
  have HR2 := hid (HR1.out.keep hb2)
  have HBI := hid (hB1.keep hb2)
  have HL0 : Hid (LeastOn (T.take 1) row (mv (T.getD 0 []) row)) := by
    show LeastOn (T.take 1) row (mv (T.getD 0 []) row)
    rw [take_snocR hT0]
    exact LeastOn.first _ _
  clear hb2 ho2 hm0 hB1 HR1 hcell0
  have hTl : T.length - 1 ≤ 719 := by omega
  go_wp2_with fail
  go_loopg [10, 35] (T.length - 1) (fun g v s wr => ∃ j b A9 c9, j ≤ T.length - 1 ∧ T.length - 1 - j ≤ g ∧ s = .int .i64 (j : Nat) ∧ v = .slice A9 k c9 ∧ b.length = k ∧ LeastOn (T.take (j + 1)) row b ∧ OwnInts wr w.heap.size v b ∧ Below w2.heap.size w2 wr)
  case atStart => exact ⟨0, _, A3, c3, Nat.zero_le _, by omega, rfl, rfl, by rw [length_mv]; exact (HOK.out _ (getD_mem_rows hT0)).1, HL0.out, HO2.out, Below.refl _ _⟩
  case round =>
    clear HO2 HL0
    obtain ⟨j, b, A9, c9, hj, hg, rfl, rfl, hbl, hlo, hown, hbel⟩ := hrel
    have HLO := hid hlo
    have HOW := hid hown
    have HB := hid (below_step HB2.out (Nat.le_refl _) hbel)
    have HBL := hid hbl
    have hbel0 := hid hbel
    have hBI := HBI.out.keep hbel
    have hRR := HR2.out.keep hbel
    clear hlo hown hbel hbl
    by_cases hlt : j < T.length - 1
    · obtain ⟨b5, off5, Aj, nj, cj, eA, hcell, hI, hcap⟩ := hRR.at hlt
      subst eA
      have hj1 : j + 1 < T.length := by omega
      have hgd : (T.drop 1).getD j [] = T.getD (j + 1) [] := by simp [List.getD_eq_getElem?_getD]
      rw [hgd] at hI
      have hOk := HOK.out _ (getD_mem_rows hj1)
      have hk0 : k = nj := by rw [← hI.len, hOk.1]
      subst hk0
      have hm0 := moved_ok B k d Aj cj row (T.getD (j + 1) []) wr hBI hI hOk.2 (by omega)
      have HP := hid hOk
      have HTS := hid (take_snocR hj1)
      clear hOk hI hcap hgd hRR hBI
      generalize T.getD (j + 1) [] = p at *
      go_wp2_with fail
      refine hm0.mono ?_
      rintro e w4 ⟨v4, rfl, ho4, hb4⟩
      obtain ⟨A4, c4, e4, hI4, _⟩ := ho4.ints
      rw [length_mv, HP.out.1] at e4 hI4
      subst e4
      have HO4 := hid (ho4.mono HB.out.size)
      have HOW4 := hid (HOW.out.keep hb4)
      have hI8 := HOW4.out.asInts.1
      have HB4 := hid (below_step HB.out (Nat.le_refl _) hb4)
      have HBW := hid ((below_step hbel0.out (Nat.le_refl _) hb4))
      have hcp := compareL_any A4 k c4 A9 c9 (mv p row) b w4 hI4 hI8 (by omega)
      have HYES := hid (fun h9 : cmpL (mv p row) b < 0 => HLO.out.less h9)
      have HNO := hid (fun h9 : ¬ cmpL (mv p row) b < 0 => HLO.out.more h9)
      have HLM : Hid ((mv p row).length = k) := by show (mv p row).length = k; rw [length_mv, HP.out.1]
      clear hb4 ho4 hm0 hI4 hI8 hcell HLO
      generalize hcv : cmpL (mv p row) b = cv at *
      by_cases hneg : cv < 0
      · have d0 : decide (cv < 0) = true := by simp [hneg]
        have HY2 := hid (HYES.out hneg)
        clear hneg HYES HNO hcv
        go_wp2_with fail
        refine hcp.mono ?_
        rintro e w5 ⟨rfl, rfl⟩
        clear hcp
        go_wp2
        go_roundg (T.length - 1 - (j + 1))
        case measure => omega
        case rel => exact ⟨j + 1, _, A4, c4, by omega, by omega, by go_num, rfl, HLM.out, by rw [HTS.out]; exact HY2.out, HO4.out, HBW.out⟩
      · have d0 : decide (cv < 0) = false := by simp; omega
        have HN2 := hid (HNO.out hneg)
        clear hneg HYES HNO hcv
        go_wp2_with fail
        refine hcp.mono ?_
        rintro e w5 ⟨rfl, rfl⟩
        clear hcp
        go_wp2
        go_roundg (T.length - 1 - (j + 1))
        case measure => omega
        case rel => exact ⟨j + 1, b, A9, c9, by omega, by omega, by go_num, rfl, HBL.out, by rw [HTS.out]; exact HN2.out, HOW4.out, HBW.out⟩
    · have hjl : j = T.length - 1 := by omega
      subst hjl
      have HE : Hid (LeastRow k L row b) := by
        have := HLO.out
        rw [show T.length - 1 + 1 = T.length by omega, List.take_length] at this
        exact this.whole HG.out
      clear hRR hBI
      go_wp2
      go_ret2
      exact ⟨_, b, rfl, HE.out, HOW.out, HB.out⟩

def RetOwnLeast (w : World) (k : Nat) (L : List (List Int)) (row : List Int) (e : Ending) (w' : World) : Prop := ∃ b, LeastRow k L row b ∧ RetOwn w b e w'

set_option maxRecDepth 100000 in
set_option maxHeartbeats 1600000 in
theorem refLeast_ok (A : Option Addr) (c : Nat) (B : Option Addr) (d : Nat) (L T : List (List Int)) (k : Nat) (row : List Int) (w : World) (h : RRows w A T.length T) (hB : Ints w B k row) (hG : GroupOf k L T) (hL : Orders k L) (hk6 : k ≤ 6) :
    Calls Try.prog 18 #[.slice A T.length c, .slice B k d] w (RetOwnLeast w k L row) := by
  have HG := hid hG
  have hTL := Nat.le_trans (hG.length_le hL) (Nat.le_trans (fact_mono hk6) (show fact 6 ≤ 720 by decide))
  have HOK := hid (fun p (hp : p ∈ T) => hG.ok hL hp)
  have HRW := hid hB.len
  have hc := clone_any B k d row w hB (by omega)
  have HH := hid h
  have HBI := hid hB
  clear h hB hG hL
  go_enter Try.func18, Try.ntmps18
  go_wp2_with fail
  refine hc.mono ?_
  rintro e w2 ⟨v2, rfl, ho2, hb2⟩
  obtain ⟨A3, c3, e3, _⟩ := ho2.ints
  rw [HRW.out] at e3
  subst e3
  have HO2 := hid ho2
  have HB2 := hid hb2
  clear hc hb2 ho2
  go_wp2_with fail
  go_loopg [5, 13] T.length (fun g v s wr => ∃ j b A9 c9, j ≤ T.length ∧ T.length - j ≤ g ∧ s = .int .i64 (j : Nat) ∧ v = .slice A9 k c9 ∧ b.length = k ∧ LeastOn (iota k :: T.take j) row b ∧ OwnInts wr w.heap.size v b ∧ Below w.heap.size w wr)
  case atStart => exact ⟨0, row, A3, c3, Nat.zero_le _, by omega, rfl, rfl, HRW.out, by have := LeastOn.first (iota k) row; rwa [mv_one HRW.out] at this, HO2.out, HB2.out⟩
  case round =>
    clear HO2 HB2
    obtain ⟨j, b, A9, c9, hj, hg, rfl, rfl, hbl, hlo, hown, hbel⟩ := hrel
    have HLO := hid hlo
    have HOW := hid hown
    have HB := hid hbel
    have HBL := hid hbl
    have hBI := HBI.out.keep hbel
    have hRR := HH.out.keep hbel
    clear hlo hown hbel hbl
    by_cases hlt : j < T.length
    · obtain ⟨b5, off5, Aj, nj, cj, eA, hcell, hI, hcap⟩ := hRR.at hlt
      subst eA
      have hOk := HOK.out _ (getD_mem_rows hlt)
      have hk0 : k = nj := by rw [← hI.len, hOk.1]
      subst hk0
      have hm0 := refMoved_ok B k d Aj cj row (T.getD j []) wr hBI hI hOk.2 (by omega)
      have HP := hid hOk
      have HTS := hid (take_snocR hlt)
      clear hOk hI hcap hRR hBI
      generalize T.getD j [] = p at *
      go_wp2_with fail
      refine hm0.mono ?_
      rintro e w4 ⟨v4, rfl, ho4, hb4⟩
      obtain ⟨A4, c4, e4, hI4, _⟩ := ho4.ints
      rw [length_mv, HP.out.1] at e4 hI4
      subst e4
      have HO4 := hid (ho4.mono HB.out.size)
      have HOW4 := hid (HOW.out.keep hb4)
      have hI8 := HOW4.out.asInts.1
      have HB4 := hid (below_step HB.out (Nat.le_refl _) hb4)
      have hcp := compareL_any A4 k c4 A9 c9 (mv p row) b w4 hI4 hI8 (by omega)
      have HYES := hid (fun h9 : cmpL (mv p row) b < 0 => HLO.out.less h9)
      have HNO := hid (fun h9 : ¬ cmpL (mv p row) b < 0 => HLO.out.more h9)
      have HLM : Hid ((mv p row).length = k) := by show (mv p row).length = k; rw [length_mv, HP.out.1]
      clear hb4 ho4 hm0 hI4 hI8 hcell HLO
      generalize hcv : cmpL (mv p row) b = cv at *
      by_cases hneg : cv < 0
      · have d0 : decide (cv < 0) = true := by simp [hneg]
        have HY2 := hid (HYES.out hneg)
        clear hneg HYES HNO hcv
        go_wp2_with fail
        refine hcp.mono ?_
        rintro e w5 ⟨rfl, rfl⟩
        clear hcp
        go_wp2
        go_roundg (T.length - (j + 1))
        case measure => omega
        case rel => exact ⟨j + 1, _, A4, c4, by omega, by omega, by go_num, rfl, HLM.out, by rw [HTS.out]; exact HY2.out, HO4.out, HB4.out⟩
      · have d0 : decide (cv < 0) = false := by simp; omega
        have HN2 := hid (HNO.out hneg)
        clear hneg HYES HNO hcv
        go_wp2_with fail
        refine hcp.mono ?_
        rintro e w5 ⟨rfl, rfl⟩
        clear hcp
        go_wp2
        go_roundg (T.length - (j + 1))
        case measure => omega
        case rel => exact ⟨j + 1, b, A9, c9, by omega, by omega, by go_num, rfl, HBL.out, by rw [HTS.out]; exact HN2.out, HOW4.out, HB4.out⟩
    · have hjl : j = T.length := by omega
      subst hjl
      have HE : Hid (LeastRow k L row b) := by
        have h1 := HLO.out
        rw [List.take_length] at h1
        have h2 : LeastOn T row b := ⟨by
          obtain ⟨p, hp, e⟩ := h1.orb
          rcases List.mem_cons.1 hp with e2 | h3
          · exact ⟨p, by rw [e2]; exact HG.out.one, e⟩
          · exact ⟨p, h3, e⟩, fun p hp => h1.le p (List.mem_cons_of_mem _ hp)⟩
        exact h2.whole HG.out
      clear hRR hBI
      go_wp2
      go_ret
      exact ⟨b, HE.out, _, rfl, HOW.out, HB.out⟩

end Go.Proofs.Ytbcjfiobggggjaa
