/-
  Texts joined: OrbL, OrbN, OrbP, OrbB, SortZ, SortO, OrbitsLeast, TabW, TabN.
-/
import Derived.Test.YtbcjfiobggggjaaOrbitsLeastPart2
import Derived.Deep.Matrix
import Derived.Lib.SmallJoins
import Derived.SizedLaws

/-
  orbits.moved, castref.Moved: a row by an order.
-/
namespace Go.Proofs.Ytbcjfiobggggjaa
open Go.RowKit

/-- The cells when the first k have moved. -/
def mvCell (p row : List Int) (k j : Nat) : Value := if ((vs p).getD j 0) < (k : Int) then .int .i64 ((mv p row).getD j 0) else .int .i64 0

theorem vs_at {p : List Int} (h : IsPerm p) {i m : Nat} (hi : i < p.length) (e : p.getD i 0 = (m : Int)) : (vs p).getD m 0 = (i : Int) := by
  have := (isInv_vs h).2 i hi
  rwa [e, Int.toNat_natCast] at this
theorem mvCell_start {p : List Int} (h : IsPerm p) (row : List Int) {j : Nat} (hj : j < p.length) : Value.int .i64 0 = mvCell p row 0 j := by
  obtain ⟨i, hi, e⟩ := h.pre hj
  unfold mvCell
  rw [vs_at h hi e, if_neg (by omega)]
theorem mvCell_step {p : List Int} (h : IsPerm p) (row : List Int) {k m : Nat} (hk : k < p.length) (e : p.getD k 0 = (m : Int)) {j : Nat} (hj : j < p.length) :
    (if j = m then Value.int .i64 (row.getD k 0) else mvCell p row k j) = mvCell p row (k + 1) j := by
  obtain ⟨i, hi, e2⟩ := h.pre hj
  unfold mvCell
  rw [vs_at h hi e2]
  by_cases hjm : j = m
  · subst hjm
    have hik : i = k := nx_inj h hi hk (by unfold nx; rw [e, e2])
    subst hik
    have := getD_mv (row := row) h hk
    rw [e, Int.toNat_natCast] at this
    rw [if_pos rfl, if_pos (by omega), this]
  · rw [if_neg hjm]
    have hik : i ≠ k := by
      intro e3
      subst e3
      rw [e] at e2
      omega
    by_cases hlt : i < k
    · rw [if_pos (by omega), if_pos (by omega)]
    · rw [if_neg (by omega), if_neg (by omega)]
theorem mvCell_end {p : List Int} (h : IsPerm p) (row : List Int) {j : Nat} (hj : j < p.length) : mvCell p row p.length j = .int .i64 ((mv p row).getD j 0) := by
  obtain ⟨i, hi, e⟩ := h.pre hj
  unfold mvCell
  rw [vs_at h hi e, if_pos (by omega)]

set_option maxRecDepth 100000 in
set_option maxHeartbeats 800000 in
theorem moved_ok (A : Option Addr) (n c : Nat) (B : Option Addr) (d : Nat) (row p : List Int) (w : World) (hA : Ints w A n row) (hB : Ints w B n p) (hp : IsPerm p) (hn : n ≤ 1000000) :
    Calls Try.prog 46 #[.slice A n c, .slice B n d] w (RetOwn w (mv p row)) := by
  have HP := hid hp
  have HL := hid hB.len
  have HLR := hid hA.len
  have hmk := fun W => run_make_row' (P := Try.prog) 23 3 (.int .i64 0) 8 Try.underlying23 infoInt rfl .i64 .i64 n (by omega) (by omega) W
  clear hp
  go_enter Try.func46, Try.ntmps46
  go_wp2_with fail
  go_loopg [13] n (fun g s wr => ∃ k : Nat, k ≤ n ∧ n - k ≤ g ∧ s = .int .i64 k ∧ wr.rowIs w.heap.size 3 n (mvCell p row k) ∧ Below w.heap.size w wr)
  case atStart => exact ⟨0, Nat.zero_le _, by omega, rfl, (World.rowIs_made w _ n _).congr (fun j hj => mvCell_start HP.out row (by rw [HL.out]; exact hj)), (Below.refl _ _).alloc (Nat.le_refl _) _⟩
  case round =>
    obtain ⟨k, hk, hg, rfl, hrow, hbel⟩ := hrel
    have HR := hid hrow
    have HB := hid hbel
    clear hrow hbel hmk
    by_cases hlt : k < n
    · obtain ⟨b2, o2, rfl, hlt2, hc2⟩ := hB.row (by omega)
      obtain ⟨b1, o1, rfl, hlt1, hc1⟩ := hA.row (by omega)
      have hkl : k < p.length := by rw [HL.out]; exact hlt
      have hr := HP.out.range (getD_mem hkl)
      rw [HL.out] at hr
      have g1 : wr.cell? ⟨b2, o2 + k, none⟩ = some (.int .i64 (p.getD k 0)) := (HB.out.cell (p := ⟨b2, o2 + k, none⟩) hlt2).trans (hc2 k hlt)
      have g2 : wr.cell? ⟨b1, o1 + k, none⟩ = some (.int .i64 (row.getD k 0)) := (HB.out.cell (p := ⟨b1, o1 + k, none⟩) hlt1).trans (hc1 k hlt)
      have HS := hid (fun m (e : p.getD k 0 = ((m : Nat) : Int)) j (hj : j < p.length) => mvCell_step HP.out row hkl e hj)
      generalize hxk : p.getD k 0 = x at g1 hr HS
      obtain ⟨m, rfl⟩ := Int.eq_ofNat_of_zero_le hr.1
      have hm : m < n := by omega
      have g3 : wr.cell? ⟨w.heap.size, m, none⟩ = some (mvCell p row k m) := HR.out.cell hm
      have g4 : wr.frozen? ⟨w.heap.size, m, none⟩ = false := HR.out.frozen m
      have HS2 := hid (HS.out m rfl)
      clear hc1 hc2 hr hA hB hkl HS hxk
      generalize row.getD k 0 = y at g2 HS2
      go_wp2
      go_roundg (n - (k + 1))
      case measure => omega
      case rel =>
        refine ⟨k + 1, by omega, by omega, by go_num, ?_, HB.out.setCell (Nat.le_refl _) _⟩
        exact (HR.out.set m (.int .i64 y)).congr (fun j hj => HS2.out j (by rw [HL.out]; exact hj))
    · have hkn : k = n := by omega
      subst hkn
      go_wp2
      go_ret
      refine ⟨_, rfl, own_of_rowIs HR.out (by rw [length_mv]; exact HL.out) (fun j hj => ?_) (Nat.le_refl _) (by unfold maxLen; omega), HB.out⟩
      have := mvCell_end HP.out row (j := j) (by rw [HL.out]; exact hj)
      rwa [HL.out] at this

set_option maxRecDepth 100000 in
set_option maxHeartbeats 800000 in
theorem refMoved_ok (A : Option Addr) (n c : Nat) (B : Option Addr) (d : Nat) (row p : List Int) (w : World) (hA : Ints w A n row) (hB : Ints w B n p) (hp : IsPerm p) (hn : n ≤ 1000000) :
    Calls Try.prog 53 #[.slice B n d, .slice A n c] w (RetOwn w (mv p row)) := by
  have HP := hid hp
  have HL := hid hB.len
  have HLR := hid hA.len
  have hmk := fun W => run_make_row' (P := Try.prog) 23 3 (.int .i64 0) 8 Try.underlying23 infoInt rfl .i64 .i64 n (by omega) (by omega) W
  clear hp
  go_enter Try.func53, Try.ntmps53
  go_wp2_with fail
  go_loopg [13] n (fun g s wr => ∃ k : Nat, k ≤ n ∧ n - k ≤ g ∧ s = .int .i64 k ∧ wr.rowIs w.heap.size 3 n (mvCell p row k) ∧ Below w.heap.size w wr)
  case atStart => exact ⟨0, Nat.zero_le _, by omega, rfl, (World.rowIs_made w _ n _).congr (fun j hj => mvCell_start HP.out row (by rw [HL.out]; exact hj)), (Below.refl _ _).alloc (Nat.le_refl _) _⟩
  case round =>
    obtain ⟨k, hk, hg, rfl, hrow, hbel⟩ := hrel
    have HR := hid hrow
    have HB := hid hbel
    clear hrow hbel hmk
    by_cases hlt : k < n
    · obtain ⟨b2, o2, rfl, hlt2, hc2⟩ := hB.row (by omega)
      obtain ⟨b1, o1, rfl, hlt1, hc1⟩ := hA.row (by omega)
      have hkl : k < p.length := by rw [HL.out]; exact hlt
      have hr := HP.out.range (getD_mem hkl)
      rw [HL.out] at hr
      have g1 : wr.cell? ⟨b2, o2 + k, none⟩ = some (.int .i64 (p.getD k 0)) := (HB.out.cell (p := ⟨b2, o2 + k, none⟩) hlt2).trans (hc2 k hlt)
      have g2 : wr.cell? ⟨b1, o1 + k, none⟩ = some (.int .i64 (row.getD k 0)) := (HB.out.cell (p := ⟨b1, o1 + k, none⟩) hlt1).trans (hc1 k hlt)
      have HS := hid (fun m (e : p.getD k 0 = ((m : Nat) : Int)) j (hj : j < p.length) => mvCell_step HP.out row hkl e hj)
      generalize hxk : p.getD k 0 = x at g1 hr HS
      obtain ⟨m, rfl⟩ := Int.eq_ofNat_of_zero_le hr.1
      have hm : m < n := by omega
      have g3 : wr.cell? ⟨w.heap.size, m, none⟩ = some (mvCell p row k m) := HR.out.cell hm
      have g4 : wr.frozen? ⟨w.heap.size, m, none⟩ = false := HR.out.frozen m
      have HS2 := hid (HS.out m rfl)
      clear hc1 hc2 hr hA hB hkl HS hxk
      generalize row.getD k 0 = y at g2 HS2
      go_wp2
      go_roundg (n - (k + 1))
      case measure => omega
      case rel =>
        refine ⟨k + 1, by omega, by omega, by go_num, ?_, HB.out.setCell (Nat.le_refl _) _⟩
        exact (HR.out.set m (.int .i64 y)).congr (fun j hj => HS2.out j (by rw [HL.out]; exact hj))
    · have hkn : k = n := by omega
      subst hkn
      go_wp2
      go_ret
      refine ⟨_, rfl, own_of_rowIs HR.out (by rw [length_mv]; exact HL.out) (fun j hj => ?_) (Nat.le_refl _) (by unfold maxLen; omega), HB.out⟩
      have := mvCell_end HP.out row (j := j) (by rw [HL.out]; exact hj)
      rwa [HL.out] at this

end Go.Proofs.Ytbcjfiobggggjaa

/-
  orbits.Least, castref.LeastOf: the least row that the group makes of one.
-/
namespace Go.Proofs.Ytbcjfiobggggjaa
open Go.RowKit

/-! ### 'group[1:]' -/
set_option maxRecDepth 100000 in
theorem sizeRowO : ∀ w, (Go.sizeOf 23).run Try.prog w = .ok 1 w := by
  exact fun _ => by kernel_rfl
theorem run_fromO (A : Option Addr) (n c l : Nat) (L : Int) (hL : L = (l : Int)) (hl : l ≤ n) (W : World) :
    (Instr.slice 22 (.slice A n c) (some (.int .i64 L)) none none).run Try.prog W = .ok (.slice (subA A c l) (n - l) (c - l)) W := by
  subst hL
  have ht' : Try.prog.underlying 22 = some (.slice (Try.prog.elem 22)) := by simp [Program.elem, Try.underlying22]
  have he : Try.prog.elem 22 = 23 := by simp [Program.elem, Try.underlying22]
  rw [run_slice_l W _ _ _ _ ht' .i64 _ (by omega) (by omega), he, sizeRowO]
  simp [Result.andThen, sliced, subA]
theorem RRows.drop {w : World} {A : Option Addr} {n c l : Nat} {T : List (List Int)} (h : RRows w A n T) (hl : l ≤ n) (hc : n ≤ c) : RRows w (subA A c l) (n - l) (T.drop l) := by
  refine ⟨by rw [List.length_drop, h.len], fun hp => ?_⟩
  obtain ⟨b, o, rfl, hb, hcell⟩ := h.row (by omega)
  refine ⟨b, o + l, ?_, hb, fun j hj => ?_⟩
  · unfold subA
    rw [if_neg (by omega)]
    simp only [Option.map_some, Addr.add]
    by_cases h0 : l = 0
    · subst h0
      rfl
    · rw [if_neg h0]
  · have := hcell (l + j) (by omega)
    rw [show o + l + j = o + (l + j) by omega]
    simpa [List.getD_eq_getElem?_getD] using this

theorem LeastOn.length {S : List (List Int)} {row b : List Int} {k : Nat} (h : LeastOn S row b) (hS : ∀ p, p ∈ S → p.length = k) : b.length = k := by
  obtain ⟨p, hp, rfl⟩ := h.orb
  rw [length_mv, hS p hp]

/-- The least row comes back. -/
def RetLeast (w : World) (k : Nat) (L : List (List Int)) (row : List Int) (e : Ending) (w' : World) : Prop := ∃ v b, e = .returned (.tuple #[v, .int .i64 0]) ∧ LeastRow k L row b ∧ OwnInts w' w.heap.size v b ∧ Below w.heap.size w w'

theorem least_bad (A : Option Addr) (m c : Nat) (B : Option Addr) (q d : Nat) (L : List (List Int)) (n : Int) (w : World) (h : RRows w A m L) (hm : m ≤ 9223372036854775807) (he : orbE n L ≠ 0) :
    Calls Try.prog 11 #[.int .i64 n, .slice A m c, .slice B q d] w fun e w' => e = .returned (.tuple #[.slice none 0 0, .int .i64 (orbE n L)]) ∧ Below w.heap.size w w' := by
  have e1 : (orbE n L != 0) = true := by simp [he]
  have hc := group_bad A m c L n w h hm he
  clear h he
  generalize orbE n L = z at *
  go_enter Try.func11, Try.ntmps11
  go_wp2_with fail
  refine hc.mono ?_
  rintro e w1 ⟨rfl, hb1⟩
  have HB1 := hid hb1
  clear hb1
  go_wp2
  go_ret2
  exact ⟨rfl, HB1.out⟩

theorem least_form (A : Option Addr) (m c : Nat) (B : Option Addr) (q d : Nat) (L : List (List Int)) (k : Nat) (w : World) (h : RRows w A m L) (he : orbE (k : Int) L = 0) (hq : q ≠ k) :
    Calls Try.prog 11 #[.int .i64 (k : Int), .slice A m c, .slice B q d] w fun e w' => e = .returned (.tuple #[.slice none 0 0, .int .i64 3]) ∧ Below w.heap.size w w' := by
  have e1 : ((q : Int) != (k : Int)) = true := by simp; omega
  have hc := group_ok A m c L k w h he
  clear h he
  go_enter Try.func11, Try.ntmps11
  go_wp2_with fail
  refine hc.mono ?_
  rintro e w1 ⟨v, T, rfl, _, hr, hb1⟩
  obtain ⟨A1, c1, rfl, _⟩ := hr.form
  have HB1 := hid hb1
  clear hb1 hr hc
  go_wp2
  go_ret2
  exact ⟨rfl, HB1.out⟩

set_option maxRecDepth 100000 in
set_option maxHeartbeats 1600000 in
theorem least_ok (A : Option Addr) (m c : Nat) (B : Option Addr) (d : Nat) (L : List (List Int)) (k : Nat) (row : List Int) (w : World) (h : RRows w A m L) (hB : Ints w B k row) (he : orbE (k : Int) L = 0) :
    Calls Try.prog 11 #[.int .i64 (k : Int), .slice A m c, .slice B k d] w (RetLeast w k L row) := by
  have hc := group_ok A m c L k w h he
  obtain ⟨k', hk1, hk6, _, hgood⟩ := orbE_zero he
  have hkk : k = k' := by omega
  subst hkk
  have HOr := hid (show Orders k L from hgood)
  have HRW := hid hB.len
  clear h he hk1 hgood
  have e1 : ((k : Int) != (k : Int)) = false := by simp
  go_enter Try.func11, Try.ntmps11
  go_wp2_with fail
  refine hc.mono ?_
  rintro e w1 ⟨v, T, rfl, hG, hr, hb1⟩
  have hB1 := hB.keep hb1
  obtain ⟨A1, c1, ev, hR1, hcp1, _⟩ := hr.rrows
  subst ev
  have HG := hid hG
  have HB1 := hid hb1
  have hTL := Nat.le_trans (hG.length_le HOr.out) (Nat.le_trans (fact_mono hk6) (show fact 6 ≤ 720 by decide))
  have hT0 := hG.pos
  have HOK := hid (fun p (hp : p ∈ T) => hG.ok HOr.out hp)
  obtain ⟨b0, off0, Aj, nj, cj, eA, hcell0, hI0, _⟩ := hR1.at hT0
  rw [Nat.add_zero] at hcell0
  have hk0 : k = nj := by rw [← hI0.len, (HOK.out _ (getD_mem_rows hT0)).1]
  subst hk0
  have hfrom := run_fromO A1 T.length c1 1 1 rfl (by omega)
  have HR1 := hid (hR1.drop (l := 1) (by omega) hcp1.1)
  generalize hA2 : subA A1 c1 1 = A2 at hfrom HR1
  have HA2 := hid hA2
  have hm0 := moved_ok B k d Aj cj row (T.getD 0 []) w1 hB1 hI0 (HOK.out _ (getD_mem_rows hT0)).2 (by omega)
  subst eA
  clear hb1 hr hc hG hR1 hB hA2 hI0
  go_wp2_with fail
  refine hm0.mono ?_
  rintro e w2 ⟨v2, rfl, ho2, hb2⟩
  obtain ⟨A3, c3, e3, _⟩ := ho2.ints
  rw [length_mv, (HOK.out _ (getD_mem_rows hT0)).1] at e3
  subst e3
  have HO2 := hid (ho2.mono HB1.out.size)
  have HB2 := hid (below_step HB1.out (Nat.le_refl _) hb2)
  have HR2 := hid (HR1.out.keep hb2)
  have HBI := hid (hB1.keep hb2)
  have HL0 : Hid (LeastOn (T.take 1) row (mv (T.getD 0 []) row)) := by
    show LeastOn (T.take 1) row (mv (T.getD 0 []) row)
    rw [take_snocR hT0]
    exact LeastOn.first _ _
  clear hb2 ho2 hm0 hB1 HR1 hcell0
  have hTl : T.length - 1 ≤ 719 := by omega
  go_wp2_with fail
  go_loopg [10, 35] (T.length - 1) (fun g v s wr => ∃ j b A9 c9, j ≤ T.length - 1 ∧ T.length - 1 - j ≤ g ∧ s = .int .i64 (j : Nat) ∧ v = .slice A9 k c9 ∧ b.length = k ∧ LeastOn (T.take (j + 1)) row b ∧ OwnInts wr w.heap.size v b ∧ Below w2.heap.size w2 wr)
  case atStart => exact ⟨0, _, A3, c3, Nat.zero_le _, by omega, rfl, rfl, by rw [length_mv]; exact (HOK.out _ (getD_mem_rows hT0)).1, HL0.out, HO2.out, Below.refl _ _⟩
  case round =>
    clear HO2 HL0
    obtain ⟨j, b, A9, c9, hj, hg, rfl, rfl, hbl, hlo, hown, hbel⟩ := hrel
    have HLO := hid hlo
    have HOW := hid hown
    have HB := hid (below_step HB2.out (Nat.le_refl _) hbel)
    have HBL := hid hbl
    have hbel0 := hid hbel
    have hBI := HBI.out.keep hbel
    have hRR := HR2.out.keep hbel
    clear hlo hown hbel hbl
    by_cases hlt : j < T.length - 1
    · obtain ⟨b5, off5, Aj, nj, cj, eA, hcell, hI, hcap⟩ := hRR.at hlt
      subst eA
      have hj1 : j + 1 < T.length := by omega
      have hgd : (T.drop 1).getD j [] = T.getD (j + 1) [] := by simp [List.getD_eq_getElem?_getD]
      rw [hgd] at hI
      have hOk := HOK.out _ (getD_mem_rows hj1)
      have hk0 : k = nj := by rw [← hI.len, hOk.1]
      subst hk0
      have hm0 := moved_ok B k d Aj cj row (T.getD (j + 1) []) wr hBI hI hOk.2 (by omega)
      have HP := hid hOk
      have HTS := hid (take_snocR hj1)
      clear hOk hI hcap hgd hRR hBI
      generalize T.getD (j + 1) [] = p at *
      go_wp2_with fail
      refine hm0.mono ?_
      rintro e w4 ⟨v4, rfl, ho4, hb4⟩
      obtain ⟨A4, c4, e4, hI4, _⟩ := ho4.ints
      rw [length_mv, HP.out.1] at e4 hI4
      subst e4
      have HO4 := hid (ho4.mono HB.out.size)
      have HOW4 := hid (HOW.out.keep hb4)
      have hI8 := HOW4.out.asInts.1
      have HB4 := hid (below_step HB.out (Nat.le_refl _) hb4)
      have HBW := hid ((below_step hbel0.out (Nat.le_refl _) hb4))
      have hcp := compareL_any A4 k c4 A9 c9 (mv p row) b w4 hI4 hI8 (by omega)
      have HYES := hid (fun h9 : cmpL (mv p row) b < 0 => HLO.out.less h9)
      have HNO := hid (fun h9 : ¬ cmpL (mv p row) b < 0 => HLO.out.more h9)
      have HLM : Hid ((mv p row).length = k) := by show (mv p row).length = k; rw [length_mv, HP.out.1]
      clear hb4 ho4 hm0 hI4 hI8 hcell HLO
      generalize hcv : cmpL (mv p row) b = cv at *
      by_cases hneg : cv < 0
      · have d0 : decide (cv < 0) = true := by simp [hneg]
        have HY2 := hid (HYES.out hneg)
        clear hneg HYES HNO hcv
        go_wp2_with fail
        refine hcp.mono ?_
        rintro e w5 ⟨rfl, rfl⟩
        clear hcp
        go_wp2
        go_roundg (T.length - 1 - (j + 1))
        case measure => omega
        case rel => exact ⟨j + 1, _, A4, c4, by omega, by omega, by go_num, rfl, HLM.out, by rw [HTS.out]; exact HY2.out, HO4.out, HBW.out⟩
      · have d0 : decide (cv < 0) = false := by simp; omega
        have HN2 := hid (HNO.out hneg)
        clear hneg HYES HNO hcv
        go_wp2_with fail
        refine hcp.mono ?_
        rintro e w5 ⟨rfl, rfl⟩
        clear hcp
        go_wp2
        go_roundg (T.length - 1 - (j + 1))
        case measure => omega
        case rel => exact ⟨j + 1, b, A9, c9, by omega, by omega, by go_num, rfl, HBL.out, by rw [HTS.out]; exact HN2.out, HOW4.out, HBW.out⟩
    · have hjl : j = T.length - 1 := by omega
      subst hjl
      have HE : Hid (LeastRow k L row b) := by
        have := HLO.out
        rw [show T.length - 1 + 1 = T.length by omega, List.take_length] at this
        exact this.whole HG.out
      clear hRR hBI
      go_wp2
      go_ret2
      exact ⟨_, b, rfl, HE.out, HOW.out, HB.out⟩

def RetOwnLeast (w : World) (k : Nat) (L : List (List Int)) (row : List Int) (e : Ending) (w' : World) : Prop := ∃ b, LeastRow k L row b ∧ RetOwn w b e w'

set_option maxRecDepth 100000 in
set_option maxHeartbeats 1600000 in
theorem refLeast_ok (A : Option Addr) (c : Nat) (B : Option Addr) (d : Nat) (L T : List (List Int)) (k : Nat) (row : List Int) (w : World) (h : RRows w A T.length T) (hB : Ints w B k row) (hG : GroupOf k L T) (hL : Orders k L) (hk6 : k ≤ 6) :
    Calls Try.prog 18 #[.slice A T.length c, .slice B k d] w (RetOwnLeast w k L row) := by
  have HG := hid hG
  have hTL := Nat.le_trans (hG.length_le hL) (Nat.le_trans (fact_mono hk6) (show fact 6 ≤ 720 by decide))
  have HOK := hid (fun p (hp : p ∈ T) => hG.ok hL hp)
  have HRW := hid hB.len
  have hc := clone_any B k d row w hB (by omega)
  have HH := hid h
  have HBI := hid hB
  clear h hB hG hL
  go_enter Try.func18, Try.ntmps18
  go_wp2_with fail
  refine hc.mono ?_
  rintro e w2 ⟨v2, rfl, ho2, hb2⟩
  obtain ⟨A3, c3, e3, _⟩ := ho2.ints
  rw [HRW.out] at e3
  subst e3
  have HO2 := hid ho2
  have HB2 := hid hb2
  clear hc hb2 ho2
  go_wp2_with fail
  go_loopg [5, 13] T.length (fun g v s wr => ∃ j b A9 c9, j ≤ T.length ∧ T.length - j ≤ g ∧ s = .int .i64 (j : Nat) ∧ v = .slice A9 k c9 ∧ b.length = k ∧ LeastOn (iota k :: T.take j) row b ∧ OwnInts wr w.heap.size v b ∧ Below w.heap.size w wr)
  case atStart => exact ⟨0, row, A3, c3, Nat.zero_le _, by omega, rfl, rfl, HRW.out, by have := LeastOn.first (iota k) row; rwa [mv_one HRW.out] at this, HO2.out, HB2.out⟩
  case round =>
    clear HO2 HB2
    obtain ⟨j, b, A9, c9, hj, hg, rfl, rfl, hbl, hlo, hown, hbel⟩ := hrel
    have HLO := hid hlo
    have HOW := hid hown
    have HB := hid hbel
    have HBL := hid hbl
    have hBI := HBI.out.keep hbel
    have hRR := HH.out.keep hbel
    clear hlo hown hbel hbl
    by_cases hlt : j < T.length
    · obtain ⟨b5, off5, Aj, nj, cj, eA, hcell, hI, hcap⟩ := hRR.at hlt
      subst eA
      have hOk := HOK.out _ (getD_mem_rows hlt)
      have hk0 : k = nj := by rw [← hI.len, hOk.1]
      subst hk0
      have hm0 := refMoved_ok B k d Aj cj row (T.getD j []) wr hBI hI hOk.2 (by omega)
      have HP := hid hOk
      have HTS := hid (take_snocR hlt)
      clear hOk hI hcap hRR hBI
      generalize T.getD j [] = p at *
      go_wp2_with fail
      refine hm0.mono ?_
      rintro e w4 ⟨v4, rfl, ho4, hb4⟩
      obtain ⟨A4, c4, e4, hI4, _⟩ := ho4.ints
      rw [length_mv, HP.out.1] at e4 hI4
      subst e4
      have HO4 := hid (ho4.mono HB.out.size)
      have HOW4 := hid (HOW.out.keep hb4)
      have hI8 := HOW4.out.asInts.1
      have HB4 := hid (below_step HB.out (Nat.le_refl _) hb4)
      have hcp := compareL_any A4 k c4 A9 c9 (mv p row) b w4 hI4 hI8 (by omega)
      have HYES := hid (fun h9 : cmpL (mv p row) b < 0 => HLO.out.less h9)
      have HNO := hid (fun h9 : ¬ cmpL (mv p row) b < 0 => HLO.out.more h9)
      have HLM : Hid ((mv p row).length = k) := by show (mv p row).length = k; rw [length_mv, HP.out.1]
      clear hb4 ho4 hm0 hI4 hI8 hcell HLO
      generalize hcv : cmpL (mv p row) b = cv at *
      by_cases hneg : cv < 0
      · have d0 : decide (cv < 0) = true := by simp [hneg]
        have HY2 := hid (HYES.out hneg)
        clear hneg HYES HNO hcv
        go_wp2_with fail
        refine hcp.mono ?_
        rintro e w5 ⟨rfl, rfl⟩
        clear hcp
        go_wp2
        go_roundg (T.length - (j + 1))
        case measure => omega
        case rel => exact ⟨j + 1, _, A4, c4, by omega, by omega, by go_num, rfl, HLM.out, by rw [HTS.out]; exact HY2.out, HO4.out, HB4.out⟩
      · have d0 : decide (cv < 0) = false := by simp; omega
        have HN2 := hid (HNO.out hneg)
        clear hneg HYES HNO hcv
        go_wp2_with fail
        refine hcp.mono ?_
        rintro e w5 ⟨rfl, rfl⟩
        clear hcp
        go_wp2
        go_roundg (T.length - (j + 1))
        case measure => omega
        case rel => exact ⟨j + 1, b, A9, c9, by omega, by omega, by go_num, rfl, HBL.out, by rw [HTS.out]; exact HN2.out, HOW4.out, HB4.out⟩
    · have hjl : j = T.length := by omega
      subst hjl
      have HE : Hid (LeastRow k L row b) := by
        have h1 := HLO.out
        rw [List.take_length] at h1
        have h2 : LeastOn T row b := ⟨by
          obtain ⟨p, hp, e⟩ := h1.orb
          rcases List.mem_cons.1 hp with e2 | h3
          · exact ⟨p, by rw [e2]; exact HG.out.one, e⟩
          · exact ⟨p, h3, e⟩, fun p hp => h1.le p (List.mem_cons_of_mem _ hp)⟩
        exact h2.whole HG.out
      clear hRR hBI
      go_wp2
      go_ret
      exact ⟨b, HE.out, _, rfl, HOW.out, HB.out⟩

end Go.Proofs.Ytbcjfiobggggjaa

/-
  castkeep.moved: orders of n numbers, of any numbers.
-/
namespace Go.Proofs.Ytbcjfiobggggjaa
open Go.RowKit

/-- min(x, 6). -/
theorem run_minSix {P : Program} (x m : Nat) (hm : m = min x 6) (ts : Array TypeId) (t : TypeId) (W : World) :
    (Builtin.min_ ts t #[.int .i64 (x : Int), .int .i64 6]).run P W = .ok (.int .i64 (m : Int)) W := by
  have e : (if (6 : Int) < (x : Int) then (6 : Int) else (x : Int)) = (m : Int) := by
    subst hm
    split <;> omega
  simp only [Builtin.min_, Builtin.min2, List.foldlM_cons, List.foldlM_nil, pure_bind]
  simp only [e]
  rfl

/-- Orders come back, all of it in the call's own memory. -/
def RetMoved (w : World) (k : Nat) (e : Ending) (w' : World) : Prop := ∃ v L, e = .returned v ∧ BRows w' w.heap.size v L ∧ L.length ≤ 6 ∧ Orders k L ∧ Below w.heap.size w w'

theorem orbE_orders {k : Nat} {L : List (List Int)} (hk : k ≤ 6) (hl : L.length ≤ 6) (h : Orders k L) : orbE (k : Int) L = 0 := by
  refine orbE_ok hk hl fun j hj => ?_
  have hm : L.getD j [] ∈ L := by
    rw [List.getD_eq_getElem?_getD, List.getElem?_eq_getElem hj]
    exact List.getElem_mem hj
  have := h _ hm
  unfold okRow
  rw [permErr_ok.2 ⟨by omega, this.2⟩, this.1]
  simp

set_option maxRecDepth 100000 in
set_option maxHeartbeats 1600000 in
theorem moved_any (A : Option Addr) (m c : Nat) (L : List (List Int)) (k : Nat) (w : World) (h : RRows w A m L) (hc : m ≤ c) (hk : k ≤ 6) (hm : c ≤ 9223372036854775807) (hrow : ∀ j, (L.getD j []).length ≤ 17592186044416) :
    Calls Try.prog 21 #[.int .i64 (k : Int), .slice A m c] w (RetMoved w k) := by
  have HH := hid h
  have HRL := hid hrow
  obtain ⟨q, hq⟩ : ∃ q, q = min m 6 := ⟨_, rfl⟩
  have hmin := run_minSix (P := Try.prog) m q hq
  have hq6 : q ≤ 6 := by omega
  have hqm : q ≤ m := by omega
  have hqc : q ≤ c := by omega
  clear h hrow hq
  go_enter Try.func21, Try.ntmps21
  go_wp2_with fail
  go_loopg [5, 14] q (fun g v s wr => ∃ j T, j ≤ q ∧ q - j ≤ g ∧ s = .int .i64 (j : Nat) ∧ T.length = j ∧ Orders k T ∧ BRows wr w.heap.size v T ∧ Below w.heap.size w wr)
  case atStart => exact ⟨0, [], Nat.zero_le _, by omega, rfl, rfl, fun _ h => by simp at h, BRows.nil _ _, Below.refl _ _⟩
  case round =>
    obtain ⟨j, T, hj, hg, rfl, hTl, hor, hrows, hbel⟩ := hrel
    have HTL := hid hTl
    have HOR := hid hor
    have HRW := hid hrows
    have HB := hid hbel
    have hRR := HH.out.keep hbel
    clear hTl hor hrows hbel hmin
    obtain ⟨w9, rfl⟩ : ∃ w9, w9 = wr := ⟨wr, rfl⟩
    by_cases hlt : j < q
    · obtain ⟨b, off, Aj, nj, cj, eA, hcell, hI, hcap⟩ := hRR.at (show j < m by omega)
      subst eA
      have hnj : nj ≤ 17592186044416 := by rw [← hI.len]; exact HRL.out j
      have hcl := clone_big Aj nj cj _ w9 hI hnj
      clear hI hcap hRR
      go_wp2_with fail
      refine hcl.mono ?_
      rintro e w2 ⟨v2, rfl, ho2, hb2⟩
      have HO2 := hid ho2
      have HB2 := hid hb2
      obtain ⟨A2, c2, e2, _⟩ := ho2.ints
      subst e2
      have hl2 : (L.getD j []).length ≤ 17592186044416 := HRL.out j
      clear hcl hb2 ho2 hcell
      generalize L.getD j [] = xs0 at *
      go_wp2_with fail
      go_loopg [7] k (fun g v wq => ∃ xs A9 c9, xs.length ≤ 17592186044416 ∧ k - xs.length ≤ g ∧ v = .slice A9 xs.length c9 ∧ OwnInts wq w9.heap.size v xs ∧ Below w9.heap.size w9 wq)
      case atStart => exact ⟨xs0, A2, c2, hl2, by omega, rfl, HO2.out, HB2.out⟩
      case round =>
        clear HO2 HB2
        obtain ⟨xs, A9, c9, hxl, hgx, rfl, hown, hbel⟩ := hrel
        have HOW := hid hown
        have HB3 := hid hbel
        clear hown hbel
        by_cases hxk : xs.length < k
        · go_wp2_with (at_builtin; refine wpList_app1 _ rfl (.tmp 24) (.tmp 25) rfl w9.heap.size _ xs 0 rfl rfl HOW.out (by omega) HB3.out.size ?_)
          intro v' w4 hown4 hgr4 hbel4
          have hlen4 : (xs ++ [0]).length = xs.length + 1 := by simp
          obtain ⟨A4, c4, e4, _⟩ := hown4.ints
          subst e4
          have HOW4 := hid hown4
          have HB4 := hid (HB3.out.trans hbel4)
          clear hown4 hgr4 hbel4
          go_wp2
          go_roundg (k - (xs.length + 1))
          case measure => omega
          case rel => exact ⟨xs ++ [0], A4, c4, by omega, by omega, rfl, HOW4.out, HB4.out⟩
        · have hxk2 : k ≤ xs.length := by omega
          have hAs := HOW.out.asInts
          have hpo := permOf_any A9 xs.length c9 k xs _ hAs.1 hAs.2.1 (by omega) (k : Int) (by omega)
          clear hAs
          go_wp2_with (go_at_call 55; refine hpo.mono ?_)
          rintro e w5 ⟨v5, rfl, ho5, hb5⟩
          have hlk : (dealt (lotsOf (xs.take k))).length = k := by rw [length_dealt, length_lotsOf, List.length_take]; omega
          have hip := isPerm_dealt (isLots_lotsOf (xs.take k))
          obtain ⟨A5, c5, e5, _⟩ := ho5.ints
          rw [hlk] at e5
          subst e5
          have hb35 := below_step HB3.out (Nat.le_refl _) hb5
          have HB5 := hid (below_step HB.out (Nat.le_refl _) hb35)
          have HO5 := hid (ho5.mono (Nat.le_trans HB.out.size HB3.out.size))
          have HRW5 := hid (HRW.out.keep hb35)
          have HK := hid (show (dealt (lotsOf (xs.take k))).length = k ∧ IsPerm (dealt (lotsOf (xs.take k))) from ⟨hlk, hip⟩)
          have hTl := HTL.out
          clear hpo hlk hip ho5 hb5 hb35
          generalize dealt (lotsOf (xs.take k)) = ys at *
          go_wp2_with (at_builtin; refine wpList_appBR _ rfl (.tmp 27) (.tmp 31) rfl w.heap.size _ T _ ys rfl rfl HRW5.out HO5.out (by omega) HB5.out.size ?_)
          intro v8 w8 hrows8 _ hbel8
          have HR8 := hid hrows8
          have HB8 := hid (HB5.out.trans hbel8)
          have HOR8 : Hid (Orders k (T ++ [ys])) := by
            intro p hp
            rcases List.mem_append.1 hp with h9 | h9
            · exact HOR.out p h9
            · rw [List.mem_singleton.1 h9]
              exact HK.out
          clear hrows8 hbel8
          go_wp2
          go_roundg (q - (j + 1))
          case measure => omega
          case rel => exact ⟨j + 1, T ++ [ys], by omega, by omega, by go_num, by simp [hTl], HOR8.out, HR8.out, HB8.out⟩
    · have hjq : j = q := by omega
      subst hjq
      clear hRR
      go_wp2
      go_ret
      exact ⟨_, T, rfl, HRW.out, by rw [HTL.out]; exact hq6, HOR.out, HB.out⟩

end Go.Proofs.Ytbcjfiobggggjaa

/-
  Plain facts: BURNSIDE: there are as many colourings as rows that are the least of their own. No program, no memory.
-/
namespace Go.Proofs.Ytbcjfiobggggjaa

/-! ### All rows of n numbers below k -/
def dig : Nat → Nat → Nat → List Int
  | 0, _, _ => []
  | n + 1, k, x => ((x % k : Nat) : Int) :: dig n k (x / k)
def rowsL (n k : Nat) : List (List Int) := (List.range (k ^ n)).map (dig n k)

theorem length_dig : ∀ n k x, (dig n k x).length = n
  | 0, _, _ => rfl
  | n + 1, k, x => by simp [dig, length_dig n k]
theorem dig_range {k : Nat} (hk : 0 < k) : ∀ n x v, v ∈ dig n k x → 0 ≤ v ∧ v < k
  | 0, _, _, h => by simp [dig] at h
  | n + 1, x, v, h => by
    simp only [dig, List.mem_cons] at h
    rcases h with rfl | h
    · have := Nat.mod_lt x hk
      omega
    · exact dig_range hk n _ v h
theorem dig_inj {k : Nat} : ∀ n x y, x < k ^ n → y < k ^ n → dig n k x = dig n k y → x = y
  | 0, x, y, hx, hy, _ => by simp at hx hy; omega
  | n + 1, x, y, hx, hy, h => by
    simp only [dig, List.cons.injEq] at h
    rw [Nat.pow_succ] at hx hy
    have hx' : x / k < k ^ n := Nat.div_lt_of_lt_mul (by rwa [Nat.mul_comm] at hx)
    have hy' : y / k < k ^ n := Nat.div_lt_of_lt_mul (by rwa [Nat.mul_comm] at hy)
    have h1 := dig_inj n _ _ hx' hy' h.2
    have h2 := Nat.div_add_mod x k
    have h3 := Nat.div_add_mod y k
    have h4 : x % k = y % k := by omega
    rw [← h2, ← h3, h1, h4]
theorem dig_all {k : Nat} : ∀ (r : List Int), (∀ v, v ∈ r → 0 ≤ v ∧ v < (k : Int)) → ∃ x, x < k ^ r.length ∧ dig r.length k x = r
  | [], _ => ⟨0, by simp, rfl⟩
  | v :: r, h => by
    obtain ⟨x, hx, e⟩ := dig_all r (fun u hu => h u (by simp [hu]))
    have hv := h v (by simp)
    have hk : 0 < k := by omega
    refine ⟨v.toNat + k * x, ?_, ?_⟩
    · rw [List.length_cons, Nat.pow_succ]
      have : (x + 1) * k ≤ k ^ r.length * k := Nat.mul_le_mul_right k hx
      rw [Nat.succ_mul, Nat.mul_comm x k] at this
      omega
    · have h1 : (v.toNat + k * x) % k = v.toNat := by rw [Nat.add_mul_mod_self_left, Nat.mod_eq_of_lt (by omega)]
      have h2 : (v.toNat + k * x) / k = x := by rw [Nat.add_mul_div_left _ _ hk, Nat.div_eq_of_lt (by omega), Nat.zero_add]
      simp only [List.length_cons, dig, h1, h2, e]
      rw [show ((v.toNat : Nat) : Int) = v by omega]

theorem nodup_rowsL (n k : Nat) : (rowsL n k).Nodup := nodup_map_on List.nodup_range fun a ha b hb e => dig_inj n a b (List.mem_range.1 ha) (List.mem_range.1 hb) e
theorem mem_rowsL {n k : Nat} {r : List Int} : r ∈ rowsL n k ↔ r.length = n ∧ ∀ v, v ∈ r → 0 ≤ v ∧ v < (k : Int) := by
  constructor
  · intro h
    obtain ⟨x, hx, rfl⟩ := List.mem_map.1 h
    refine ⟨length_dig n k x, fun v hv => ?_⟩
    rcases Nat.eq_zero_or_pos k with h0 | h0
    · subst h0
      match n, hx, hv with
      | 0, _, hv => simp [dig] at hv
      | n + 1, hx, _ => simp at hx
    · exact dig_range h0 n x v hv
  · rintro ⟨rfl, h⟩
    obtain ⟨x, hx, e⟩ := dig_all r h
    exact List.mem_map.2 ⟨x, List.mem_range.2 hx, e⟩

/-- An order moves them among themselves. -/
theorem rowsL_mv {n k : Nat} {p : List Int} (hp : IsPerm p) (hl : p.length = n) : ((rowsL n k).map (mv p)).Perm (rowsL n k) := by
  refine (perm_of_nodup_subset (nodup_map_on (nodup_rowsL n k) fun a ha b hb e => ?_) (fun x hx => ?_) (by simp)).symm
  · exact mv_inj hp ((mem_rowsL.1 ha).1.trans hl.symm) ((mem_rowsL.1 hb).1.trans hl.symm) e
  · obtain ⟨r, hr, rfl⟩ := List.mem_map.1 hx
    have hR := mem_rowsL.1 hr
    refine mem_rowsL.2 ⟨by rw [length_mv, hl], fun v hv => hR.2 v ?_⟩
    exact (mv_perm hp (hR.1.trans hl.symm)).mem_iff.1 hv

/-! ### The least one, by a fold -/
def lstF (S : List (List Int)) (row b : List Int) : List Int := S.foldl (fun b p => if cmpL (mv p row) b < 0 then mv p row else b) b
def lst (T : List (List Int)) (row : List Int) : List Int := lstF T row row
theorem lstF_least : ∀ (S S0 : List (List Int)) (row b : List Int), LeastOn S0 row b → LeastOn (S0 ++ S) row (lstF S row b)
  | [], S0, row, b, h => by rw [List.append_nil]; exact h
  | p :: S, S0, row, b, h => by
    have e : S0 ++ p :: S = (S0 ++ [p]) ++ S := by simp
    rw [e]
    simp only [lstF, List.foldl_cons]
    by_cases hc : cmpL (mv p row) b < 0
    · rw [if_pos hc]
      exact lstF_least S _ row _ (h.less hc)
    · rw [if_neg hc]
      exact lstF_least S _ row _ (h.more hc)

section
variable {n : Nat} {l T : List (List Int)}
theorem lst_least (hT : GroupOf n l T) {row : List Int} (hr : row.length = n) : LeastRow n l row (lst T row) := by
  have h0 := LeastOn.first (iota n) row
  rw [mv_one hr] at h0
  have h1 := lstF_least T [iota n] row row h0
  have h2 : LeastOn T row (lst T row) := ⟨by
    obtain ⟨p, hp, e⟩ := h1.orb
    rcases List.mem_append.1 hp with h3 | h3
    · exact ⟨p, by rw [List.mem_singleton.1 h3]; exact hT.one, e⟩
    · exact ⟨p, h3, e⟩, fun p hp => h1.le p (List.mem_append_right _ hp)⟩
  exact h2.whole hT
theorem lst_mv (hT : GroupOf n l T) (hl : Orders n l) {row p : List Int} (hr : row.length = n) (hp : p ∈ T) : lst T (mv p row) = lst T row := by
  have hP := hT.ok hl hp
  exact (lst_least hT (by rw [length_mv, hP.1])).unique ((lst_least hT hr).moved hT hl hr ((hT.mem p).1 hp))

/-! ### Sums turned -/
theorem sum_turned {α β : Type} (q : α → β → Bool) : ∀ (T : List α) (R : List β), (T.map (fun p => R.countP (q p))).sum = (R.map (fun r => T.countP (fun p => q p r))).sum
  | [], R => by
    induction R with
    | nil => rfl
    | cons r R ih => simpa using ih
  | p :: T, R => by
    have ih := sum_turned q T R
    rw [List.map_cons, List.sum_cons, ih]
    clear ih
    induction R with
    | nil => rfl
    | cons r R ih =>
      simp only [List.countP_cons, List.map_cons, List.sum_cons] at ih ⊢
      omega
theorem sum_same {α : Type} {f g : α → Nat} {T : List α} (h : ∀ a, a ∈ T → f a = g a) : (T.map f).sum = (T.map g).sum := by rw [List.map_congr_left h]
theorem sum_const {α : Type} (c : Nat) : ∀ T : List α, (T.map (fun _ => c)).sum = T.length * c
  | [] => by simp
  | a :: T => by rw [List.map_cons, List.sum_cons, sum_const c T, List.length_cons, Nat.succ_mul, Nat.add_comm]

/-- How many rows an order leaves as they are. -/
def fixRw (n k : Nat) (p : List Int) : Nat := (rowsL n k).countP (fun r => decide (mv p r = r))
/-- How many rows are the least of their own. -/
def leastN (n k : Nat) (T : List (List Int)) : Nat := (rowsL n k).countP (fun r => decide (r = lst T r))

theorem countP_map_perm {α : Type} {f : α → α} {L : List α} (h : (L.map f).Perm L) (g : α → Bool) : L.countP g = L.countP (fun a => g (f a)) := by
  rw [← h.countP_eq, List.countP_map]
  rfl

theorem countP_same {α : Type} {f g : α → Bool} {L : List α} (h : ∀ a, a ∈ L → f a = g a) : L.countP f = L.countP g := by
  induction L with
  | nil => rfl
  | cons a L ih => rw [List.countP_cons, List.countP_cons, h a (by simp), ih (fun b hb => h b (by simp [hb]))]

/-- BURNSIDE. -/
theorem burnside (hT : GroupOf n l T) (hl : Orders n l) (k : Nat) : (T.map (fixRw n k)).sum = T.length * leastN n k T := by
  have e1 : (T.map (fixRw n k)).sum = ((rowsL n k).map (fun r => T.countP (fun p => decide (mv p r = r)))).sum := sum_turned (fun p r => decide (mv p r = r)) T (rowsL n k)
  have e2 : ((rowsL n k).map (fun r => T.countP (fun p => decide (mv p r = r)))).sum = ((rowsL n k).map (fun r => T.countP (fun p => decide (mv p r = lst T r)))).sum := by
    refine sum_same fun r hr => ?_
    have hR := (mem_rowsL.1 hr).1
    obtain ⟨c, hc, e⟩ := (lst_least hT hR).orb
    have hcT := (hT.mem c).2 hc
    have hC := hT.ok hl hcT
    rw [countP_map_perm (hT.map_mul hl hcT) (fun p => decide (mv p r = lst T r))]
    refine countP_same fun p hp => ?_
    have hP := hT.ok hl hp
    rw [decide_eq_decide, mv_mul r hP.2 hC.2 (hC.1.trans hP.1.symm), e]
    exact ⟨fun h => by rw [h], fun h => mv_inj hC.2 (by rw [length_mv, hP.1, hC.1]) (hR.trans hC.1.symm) h⟩
  have e3 : ((rowsL n k).map (fun r => T.countP (fun p => decide (mv p r = lst T r)))).sum = (T.map (fun p => (rowsL n k).countP (fun r => decide (mv p r = lst T r)))).sum := (sum_turned (fun p r => decide (mv p r = lst T r)) T (rowsL n k)).symm
  have e4 : (T.map (fun p => (rowsL n k).countP (fun r => decide (mv p r = lst T r)))).sum = (T.map (fun _ => leastN n k T)).sum := by
    refine sum_same fun p hp => ?_
    have hP := hT.ok hl hp
    unfold leastN
    rw [countP_map_perm (rowsL_mv (k := k) hP.2 hP.1) (fun r => decide (r = lst T r))]
    refine countP_same fun r hr => ?_
    rw [lst_mv hT hl (mem_rowsL.1 hr).1 hp]
  rw [e1, e2, e3, e4, sum_const]
end

/-- Each order of up to four numbers, of up to three colours: reckoned. -/
theorem fix_all : ∀ n, n < 5 → ∀ k, k < 4 → ∀ j, j < fact n → fixRw n k (atL n j) = k ^ cyc (atL n j) := by decide +kernel

theorem colN_least {n k : Nat} {l T : List (List Int)} (hT : GroupOf n l T) (hl : Orders n l) (hn : n < 5) (hk : k < 4) : colN T k = leastN n k T := by
  have h := burnside hT hl k
  have e : (T.map (fixRw n k)).sum = colS T k := by
    unfold colS
    refine sum_same fun p hp => ?_
    have hP := hT.ok hl hp
    have h1 := rk_lt p
    rw [hP.1] at h1
    have h2 := fix_all n hn k hk (rk p) h1
    have h3 := atL_rk hP.2
    rw [hP.1] at h3
    rwa [h3] at h2
  unfold colN
  rw [← e, h]
  exact Nat.mul_div_cancel_left _ hT.pos

end Go.Proofs.Ytbcjfiobggggjaa

/-
  slices.Reverse at []int.
-/
namespace Go.Proofs.Ytbcjfiobggggjaa
open Go.RowKit

/-- The first k and the last k numbers have changed places. -/
def revUpto (xs : List Int) (k : Nat) : List Int := (List.range xs.length).map (fun u => if u < k ∨ xs.length - k ≤ u then xs.getD (xs.length - 1 - u) 0 else xs.getD u 0)

theorem length_revUpto (xs : List Int) (k : Nat) : (revUpto xs k).length = xs.length := by simp [revUpto]

theorem getD_revUpto {xs : List Int} {u : Nat} (hu : u < xs.length) (k : Nat) : (revUpto xs k).getD u 0 = if u < k ∨ xs.length - k ≤ u then xs.getD (xs.length - 1 - u) 0 else xs.getD u 0 := by
  simp [revUpto, List.getD_eq_getElem?_getD, hu]

theorem revUpto_zero (xs : List Int) : revUpto xs 0 = xs := by
  apply ext_getD (length_revUpto xs 0)
  intro u hu
  rw [length_revUpto] at hu
  rw [getD_revUpto hu, if_neg (by omega)]

theorem revUpto_step {xs : List Int} {k m : Nat} (hm : m + k + 1 = xs.length) (hk : k < m) : swapAt (revUpto xs k) k m = revUpto xs (k + 1) := by
  apply ext_getD (by rw [length_swapAt, length_revUpto, length_revUpto])
  intro u hu
  rw [length_swapAt, length_revUpto] at hu
  rw [getD_swapAt (by rw [length_revUpto]; omega) (by rw [length_revUpto]; omega), getD_revUpto hu, getD_revUpto (show k < xs.length by omega), getD_revUpto (show m < xs.length by omega), getD_revUpto hu]
  by_cases h1 : u = m
  · subst h1
    rw [if_pos rfl, if_neg (by omega), if_pos (by omega), show xs.length - 1 - u = k by omega]
  · rw [if_neg h1]
    by_cases h2 : u = k
    · subst h2
      rw [if_pos rfl, if_neg (by omega), if_pos (by omega), show xs.length - 1 - u = m by omega]
    · rw [if_neg h2]
      by_cases h3 : u < k ∨ xs.length - k ≤ u
      · rw [if_pos h3, if_pos (by omega)]
      · rw [if_neg h3, if_neg (by omega)]

theorem revUpto_end {xs : List Int} {k : Nat} (h : xs.length ≤ k + k + 1) : revUpto xs k = xs.reverse := by
  apply ext_getD (by rw [length_revUpto, List.length_reverse])
  intro u hu
  rw [length_revUpto] at hu
  have e : xs.reverse.getD u 0 = xs.getD (xs.length - 1 - u) 0 := by
    rw [List.getD_eq_getElem?_getD, List.getElem?_reverse hu, List.getD_eq_getElem?_getD]
  rw [getD_revUpto hu, e]
  by_cases h3 : u < k ∨ xs.length - k ≤ u
  · rw [if_pos h3]
  · rw [if_neg h3, show xs.length - 1 - u = u by omega]

/-- In place: the slice holds other numbers; nothing else that was there has turned. -/
def RetPut (w : World) (base : Nat) (v : Value) (ys : List Int) (e : Ending) (w' : World) : Prop := e = .returned (.tuple #[]) ∧ OwnInts w' base v ys ∧ w.grownBy w' v.ownBlock

set_option maxHeartbeats 800000 in
theorem reverse_any (base : Nat) (v : Value) (xs : List Int) (w : World) (h : OwnInts w base v xs) (hn : xs.length ≤ 1000000) :
    Calls Try.prog 77 #[v] w (RetPut w base v xs.reverse) := by
  obtain ⟨A, c, rfl, _, _⟩ := h.ints
  have HO := hid h
  clear h
  generalize hm : xs.length = n at *
  have HL := hid hm
  clear hm
  go_enter Try.func77, Try.ntmps77
  go_wp2
  go_loopg [2, 3] n (fun g s t wr => ∃ k : Nat, k ≤ n ∧ n - k ≤ g ∧ s = .int .i64 k ∧ t = .int .i64 ((n : Int) - 1 - k) ∧ OwnInts wr base (.slice A n c) (revUpto xs k) ∧ w.grownBy wr (Value.slice A n c).ownBlock)
  case atStart => exact ⟨0, Nat.zero_le _, by omega, rfl, by go_num, by rw [revUpto_zero]; exact HO.out, only_refl _ _⟩
  case round =>
    obtain ⟨k, hk, hg, rfl, rfl, hown, hgrow⟩ := hrel
    have HO2 := hid hown
    have HG2 := hid hgrow
    clear hown hgrow
    by_cases hlt : k + k + 1 < n
    · obtain ⟨m, hmk⟩ : ∃ m, m + k + 1 = n := ⟨n - 1 - k, by omega⟩
      have hkm : k < m := by omega
      have hj : (n : Int) - 1 - k = m := by omega
      have HJ := hid hj
      have HMK := hid hmk
      have hmn : m < n := by omega
      have hkn : k < n := by omega
      have hlr : (revUpto xs k).length = n := by rw [length_revUpto, HL.out]
      obtain ⟨gb, cap, hv, hb, hgl, hcap⟩ := HO2.out.form (by rw [hlr]; omega)
      rw [hlr] at hv
      injection hv with hA _ hc
      subst hA
      subst hc
      rw [HJ.out]
      have hO : OwnInts wr base (.slice (some ⟨gb, 0, none⟩) (revUpto xs k).length c) (revUpto xs k) := by rw [hlr]; exact HO2.out
      have g1 : wr.cell? ⟨gb, k, none⟩ = some (.int .i64 ((revUpto xs k).getD k 0)) := hO.cell (by omega)
      have g2 : wr.cell? ⟨gb, m, none⟩ = some (.int .i64 ((revUpto xs k).getD m 0)) := hO.cell (by omega)
      have f1 : wr.frozen? ⟨gb, k, none⟩ = false := hO.frozen k
      have f2 : wr.frozen? ⟨gb, m, none⟩ = false := hO.frozen m
      have HSW : Hid (swapAt (revUpto xs k) k m = ((revUpto xs k).set k ((revUpto xs k).getD m 0)).set m ((revUpto xs k).getD k 0)) := rfl
      have HLR := hid hlr
      have HST := hid (revUpto_step (xs := xs) (k := k) (m := m) (by rw [HL.out]; exact hmk) hkm)
      clear hO hlr hj hmk
      generalize (revUpto xs k).getD k 0 = x at g1 HSW
      generalize (revUpto xs k).getD m 0 = y at g2 HSW
      go_wp2_with fail
      go_region
      go_wp2
      have hmk := HMK.out
      go_roundg (n - (k + 1))
      case measure => omega
      case rel =>
        refine ⟨k + 1, by omega, by omega, by go_num, by go_num, ?_, ?_⟩
        · rw [← HST.out, HSW.out]
          exact ((HO2.out.set HLR.out.symm k y).set (by rw [List.length_set]; exact HLR.out.symm) m x).drew
        · exact only_drewN (only_set (only_set HG2.out k _) m _) 1
    · have hd : ¬ ((k : Int) < (n : Int) - 1 - k) := by omega
      go_wp2
      go_end0
      exact ⟨rfl, by rw [← revUpto_end (xs := xs) (k := k) (by rw [HL.out]; omega)]; exact HO2.out, HG2.out⟩

end Go.Proofs.Ytbcjfiobggggjaa

/-
  slices.Sort at []int, up to twelve numbers: in rising order; slices.Reverse at []int.
-/
namespace Go.Proofs.Ytbcjfiobggggjaa
open Go.RowKit

def climbs (a b : Int) : Prop := a ≤ b

set_option maxHeartbeats 1600000 in
theorem insertionO_any (base g n cap : Nat) (xs : List Int) (w : World) (h : OwnInts w base (.slice (some ⟨g, 0, none⟩) n cap) xs) (hl : xs.length = n) (hn : n ≤ 1000000) (hn1 : 1 ≤ n) :
    Calls Try.prog 81 #[.slice (some ⟨g, 0, none⟩) n cap, .int .i64 0, .int .i64 n] w (RetSort climbs w base g n cap xs) := by
  go_enter Try.func81, Try.ntmps81
  go_wp2
  go_loopg [6] n (fun gh s wr => ∃ (i : Nat) (zs : List Int), i ≤ n ∧ 1 ≤ i ∧ n - i ≤ gh ∧ s = .int .i64 i ∧ OwnInts wr base (.slice (some ⟨g, 0, none⟩) n cap) zs ∧ zs.Perm xs ∧ SortedTo climbs zs i ∧ w.grownBy wr (some g))
  case atStart => exact ⟨1, xs, hn1, Nat.le_refl _, by omega, rfl, h, List.Perm.refl _, fun u v huv hv => by omega, only_refl _ _⟩
  case round =>
    obtain ⟨i, zs, hi, hi1, hg, rfl, hown, hperm, hsort, hgrow⟩ := hrel
    have HO := hid hown
    have HP := hid hperm
    have HS := hid hsort
    have HG := hid hgrow
    clear hown hperm hsort hgrow h
    by_cases hlt : i < n
    · go_wp2
      go_loopg [7] i (fun gh s wr => ∃ (j : Nat) (ys : List Int), j ≤ i ∧ j ≤ gh ∧ s = .int .i64 j ∧ OwnInts wr base (.slice (some ⟨g, 0, none⟩) n cap) ys ∧ ys.Perm xs ∧ InsInv climbs ys i j ∧ w.grownBy wr (some g))
      case atStart => exact ⟨i, zs, Nat.le_refl _, Nat.le_refl _, rfl, HO.out, HP.out, ins_start HS.out, HG.out⟩
      case round =>
        obtain ⟨j, ys, hj, hgj, rfl, hown, hperm, hins, hgrow⟩ := hrel
        have HO2 := hid hown
        have HP2 := hid hperm
        have HI2 := hid hins
        have HG2 := hid hgrow
        clear hown hperm hins hgrow HO HP HS HG
        have hly : ys.length = n := by rw [HP2.out.length_eq, hl]
        have HLY := hid hly
        by_cases hj0 : j = 0
        · subst hj0
          have hd : decide ((0 : Int) < 0) = false := by simp
          go_wp2_with fail
          go_quiet (fail)
          go_wp2
          go_roundg (n - (i + 1))
          case measure => omega
          case rel => exact ⟨i + 1, ys, by omega, by omega, by omega, by go_num, HO2.out.drewN _, HP2.out, ins_zero HI2.out, only_drewN HG2.out _⟩
        · obtain ⟨m, hjm⟩ : ∃ m, j = m + 1 := ⟨j - 1, by omega⟩
          have HJ := hid hjm
          have hmj : m < j := by omega
          have hpos : 0 < j := by omega
          have hd : decide (0 < j) = true := by simp; omega
          have hwr : IntKind.i64.wrap ((j : Int) - 1) = (m : Int) := by rw [IntWalk.i64_in _ (by omega)]; omega
          have hjN : (j : Int) < (n : Int) := by omega
          have hmN : (m : Int) < (n : Int) := by omega
          have hjn : j < n := by omega
          have hmn : m < n := by omega
          have hO : OwnInts wr base (.slice (some ⟨g, 0, none⟩) ys.length cap) ys := by rw [hly]; exact HO2.out
          have g1 : wr.cell? ⟨g, j, none⟩ = some (.int .i64 (ys.getD j 0)) := hO.cell (by omega)
          have g2 : wr.cell? ⟨g, m, none⟩ = some (.int .i64 (ys.getD m 0)) := hO.cell (by omega)
          have f1 : wr.frozen? ⟨g, j, none⟩ = false := hO.frozen j
          have f2 : wr.frozen? ⟨g, m, none⟩ = false := hO.frozen m
          have HSW : Hid (swapAt ys j m = (ys.set j (ys.getD m 0)).set m (ys.getD j 0)) := rfl
          clear hO hly hjm
          generalize hx : ys.getD j 0 = x at g1 HSW
          generalize hy : ys.getD m 0 = y at g2 HSW
          have HX := hid hx
          have HY := hid hy
          clear hx hy
          by_cases hyx : x < y
          · have hc : decide (x < y) = true := by simpa using hyx
            go_wp2_with fail
            go_quiet ((go_at_call 87; exact Calls.quiet_of_same (quiet_left (less_any _ _ _))))
            go_wp2_with fail
            go_region
            go_wp2
            have hjm := HJ.out
            go_roundg m
            case measure => omega
            case rel =>
              refine ⟨m, swapAt ys j m, by omega, Nat.le_refl _, by go_num, ?_, (perm_swapAt (by rw [HLY.out]; exact hjn) (by rw [HLY.out]; exact hmn)).trans HP2.out, ?_, ?_⟩
              · rw [HSW.out]
                exact (((HO2.out.set HLY.out.symm j y).set (by rw [List.length_set]; exact HLY.out.symm) m x).drewN _)
              · have hI := HI2.out
                rw [hjm] at hI ⊢
                refine ins_step hI (by omega) (by rw [HLY.out]; exact hlt) ?_
                rw [← hjm, HX.out, HY.out]
                unfold climbs
                omega
              · exact only_drewN (only_set (only_set HG2.out j _) m _) _
          · have hc : decide (x < y) = false := by simpa using hyx
            go_wp2_with fail
            go_quiet ((go_at_call 87; exact Calls.quiet_of_same (quiet_left (less_any _ _ _))))
            go_wp2
            go_roundg (n - (i + 1))
            case measure => omega
            case rel =>
              refine ⟨i + 1, ys, by omega, by omega, by omega, by go_num, HO2.out.drewN _, HP2.out, ?_, only_drewN HG2.out _⟩
              have hI := HI2.out
              rw [HJ.out] at hI
              refine ins_done (fun a b c h1 h2 => by unfold climbs at *; omega) hI ?_
              rw [← HJ.out, HX.out, HY.out]
              unfold climbs
              omega
    · have hin : i = n := by omega
      subst hin
      go_wp2
      go_end0
      exact ⟨rfl, zs, HO.out, HP.out, HS.out, HG.out⟩

set_option maxHeartbeats 1600000 in
set_option maxRecDepth 100000 in
theorem pdqO_any (base g n cap : Nat) (xs : List Int) (r : Int) (w : World) (h : OwnInts w base (.slice (some ⟨g, 0, none⟩) n cap) xs) (hl : xs.length = n) (hn : n ≤ 12) (hn1 : 1 ≤ n) :
    Calls Try.prog 60 #[.slice (some ⟨g, 0, none⟩) n cap, .int .i64 0, .int .i64 n, .int .i64 r] w (RetSort climbs w base g n cap xs) := by
  go_enter Try.func60, Try.ntmps60
  go_wp2
  go_loopg [1, 2] 0 (fun _ s1 s2 wr => s1 = .int .i64 0 ∧ s2 = .int .i64 n ∧ w = wr)
  case atStart => exact ⟨rfl, rfl, rfl⟩
  case round =>
    obtain ⟨rfl, rfl, rfl⟩ := hrel
    go_wp2_with fail
    refine (insertionO_any base g n cap xs _ h hl (by omega) hn1).mono ?_
    rintro e w' ⟨rfl, hys⟩
    have HYS := hid hys
    clear hys
    go_wp2
    go_end0
    exact ⟨rfl, HYS.out⟩


set_option maxHeartbeats 400000 in
theorem insertionO_zero (A : Option Addr) (c : Nat) (w : World) :
    Calls Try.prog 81 #[.slice A 0 c, .int .i64 0, .int .i64 0] w (RetNone w) := by
  go_enter Try.func81, Try.ntmps81
  go_wp2
  go_loopg [6] 0 (fun _ s wr => s = .int .i64 1 ∧ w = wr)
  case atStart => exact ⟨rfl, rfl⟩
  case round =>
    obtain ⟨rfl, rfl⟩ := hrel
    go_wp2
    go_end0
    exact ⟨rfl, rfl⟩

set_option maxHeartbeats 1600000 in
set_option maxRecDepth 100000 in
theorem pdqO_zero (A : Option Addr) (c : Nat) (r : Int) (w : World) :
    Calls Try.prog 60 #[.slice A 0 c, .int .i64 0, .int .i64 0, .int .i64 r] w (RetNone w) := by
  go_enter Try.func60, Try.ntmps60
  go_wp2
  go_loopg [1, 2] 0 (fun _ s1 s2 wr => s1 = .int .i64 0 ∧ s2 = .int .i64 0 ∧ w = wr)
  case atStart => exact ⟨rfl, rfl, rfl⟩
  case round =>
    obtain ⟨rfl, rfl, rfl⟩ := hrel
    go_wp2_with fail
    refine (insertionO_zero A c _).mono ?_
    rintro e w' ⟨rfl, rfl⟩
    go_wp2
    go_end0
    exact ⟨rfl, rfl⟩

set_option maxHeartbeats 800000 in
theorem sort_any (base : Nat) (v : Value) (xs : List Int) (w : World) (h : OwnInts w base v xs) (hn : xs.length ≤ 12) :
    Calls Try.prog 31 #[v] w (RetSorted climbs w base v xs) := by
  by_cases h0 : xs.length = 0
  · obtain ⟨A, c, rfl, _, _⟩ := h.ints
    have HO := hid h
    clear h
    have hx : xs = [] := List.eq_nil_of_length_eq_zero h0
    subst hx
    go_enter Try.func31, Try.ntmps31
    go_wp2_with fail
    refine (len_small 0 _ (by omega) (by omega)).mono ?_
    rintro e w' ⟨r, rfl, rfl⟩
    go_wp2_with fail
    refine (pdqO_zero A c r _).mono ?_
    rintro e w' ⟨rfl, rfl⟩
    go_wp2
    go_end0
    exact ⟨rfl, [], HO.out, List.Perm.refl _, fun u v huv hv => by simp at hv, only_refl _ _⟩
  · obtain ⟨g, cap, rfl, hb, hg, hc⟩ := h.form (by omega)
    have HO := hid h
    clear h
    generalize hm : xs.length = m at *
    have HM := hid hm
    clear hm
    go_enter Try.func31, Try.ntmps31
    go_wp2_with fail
    refine (len_small m _ (by omega) (by omega)).mono ?_
    rintro e w' ⟨r, rfl, rfl⟩
    go_wp2_with fail
    refine (pdqO_any base g m cap xs r _ HO.out HM.out hn (by omega)).mono ?_
    rintro e w1 ⟨rfl, ys, hown, hperm, hsort, hgrow⟩
    have HY := hid (And.intro hown (And.intro hperm (And.intro hsort hgrow)))
    clear hown hperm hsort hgrow
    go_wp2
    go_end0
    refine ⟨rfl, ys, HY.out.1, HY.out.2.1, ?_, HY.out.2.2.2⟩
    rw [HY.out.2.1.length_eq, HM.out]
    exact HY.out.2.2.1


/-! ### slices.Reverse -/

end Go.Proofs.Ytbcjfiobggggjaa

/-
  castkeep.OrbitsLeast: whatever the input: true.
-/
namespace Go.Proofs.Ytbcjfiobggggjaa
open Go.RowKit

theorem run_minN {P : Program} (x y q : Nat) (hq : q = min x y) (ts : Array TypeId) (t : TypeId) (W : World) :
    (Builtin.min_ ts t #[.int .i64 (x : Int), .int .i64 (y : Int)]).run P W = .ok (.int .i64 (q : Int)) W := by
  have e : (if (y : Int) < (x : Int) then (y : Int) else (x : Int)) = (q : Int) := by
    subst hq
    split <;> omega
  simp only [Builtin.min_, Builtin.min2, List.foldlM_cons, List.foldlM_nil, pure_bind]
  simp only [e]
  rfl

theorem own_apart2 {w w' : World} {b : Nat} {v u : Value} {xs ys : List Int} (hx : OwnInts w b v xs) (hy : OwnInts w' w.heap.size u ys) : ∀ k, v.ownBlock = some k → u.ownBlock ≠ some k := by
  intro k hk e
  have h1 := World.ownsRow.lt hx k hk
  have h2 := World.ownsRow.lt hy k e
  omega
theorem own_keptA {w w' : World} {b : Nat} {v u : Value} {xs : List Int} (h : OwnInts w b v xs) (hg : w.grownBy w' u.ownBlock) (ha : ∀ k, v.ownBlock = some k → u.ownBlock ≠ some k) : OwnInts w' b v xs := by
  refine World.ownsRow.kept h hg ?_
  rcases e : v.ownBlock with _ | k
  · exact .inl rfl
  · right
    intro e2
    exact ha k e e2.symm
theorem climbs_antiO (a b : Int) (h : climbs a b) (h' : climbs b a) : a = b := by
  unfold climbs at *
  omega

theorem lst_three : lst [[0, 1, 2], [1, 2, 0], [2, 0, 1]] [2, 1, 0] = [0, 2, 1] := by decide +kernel
theorem least_three {b : List Int} (h : LeastRow 3 [[1, 2, 0]] [2, 1, 0] b) : b = [0, 2, 1] := by
  rw [← lst_three]
  exact h.unique (lst_least group_three rfl)

set_option maxRecDepth 100000 in
set_option maxHeartbeats 4000000 in
theorem orbitsLeast_any (a : Int) (A : Option Addr) (m c : Nat) (L : List (List Int)) (B : Option Addr) (q d : Nat) (row0 : List Int) (b : Int) (w : World) (h : RRows w A m L) (hc : Cap m c) (hrow : ∀ j, (L.getD j []).length ≤ 17592186044416) (hB : Ints w B q row0) (hqd : q ≤ d) :
    Calls Try.prog 6 #[.int .i64 a, .slice A m c, .slice B q d, .int .i64 b] w fun e w' => e = .returned (.bool true) ∧ Below w.heap.size w w' := by
  have HH := hid h
  have HRL := hid hrow
  have HBI := hid hB
  clear h hrow hB
  obtain ⟨hmc, hcm⟩ := hc
  have hsz2 : ((w.alloc (.cells #[.int .i64 1, .int .i64 2, .int .i64 0] 3)).alloc (.cells #[.slice (some ⟨w.heap.size, 0, none⟩) 3 3] 23)).heap.size = w.heap.size + 2 := by simp
  have hlit := ints_lit ((w.alloc (.cells #[.int .i64 1, .int .i64 2, .int .i64 0] 3)).alloc (.cells #[.slice (some ⟨w.heap.size, 0, none⟩) 3 3] 23)) #[.int .i64 2, .int .i64 1, .int .i64 0] 3 3 [2, 1, 0] rfl rfl
  rw [hsz2] at hlit
  have hl0 := hid (least_ok (some ⟨w.heap.size + 1, 0, none⟩) 1 1 (some ⟨w.heap.size + 2, 0, none⟩) 3 [[1, 2, 0]] 3 [2, 1, 0] _ ((rrows_three w).keep (below_alloc _ (.cells #[.int .i64 2, .int .i64 1, .int .i64 0] 3))) hlit orbE_three)
  have HBL := hid (below_step (below_three w) (Nat.le_refl _) (below_alloc _ (.cells #[.int .i64 2, .int .i64 1, .int .i64 0] 3)))
  clear hlit hsz2
  go_enter Try.func6, Try.ntmps6
  go_wp2_with fail
  refine hl0.out.mono ?_
  rintro e w1 ⟨v1, r1, rfl, hlr1, ho1, hb1⟩
  have hr1 := least_three hlr1
  subst hr1
  obtain ⟨A1, c1, e1, hI1, _⟩ := ho1.ints
  have HB1 := hid (below_step HBL.out (Nat.le_refl _) hb1)
  subst e1
  clear hlr1 ho1 hb1 HBL hl0
  have heq := equal_bel A1 3 c1 (some ⟨w1.heap.size, 0, none⟩) 3 3 [0, 2, 1] [0, 2, 1] (w1.alloc (.cells #[.int .i64 0, .int .i64 2, .int .i64 1] 3)) (hI1.keep (below_alloc w1 _)) (ints_lit w1 _ _ 3 [0, 2, 1] rfl rfl) (by omega) (by omega)
  rw [decide_eq_true rfl] at heq
  go_wp2_with fail
  refine heq.mono ?_
  rintro e w2 ⟨rfl, hb2⟩
  have HB2 := hid (below_step HB1.out (Nat.le_refl _) (below_step (below_alloc w1 _) (Nat.le_refl _) hb2))
  clear hb2 heq hI1 HB1
  go_wp2_with fail
  refine (turns_any _).mono ?_
  rintro e w3 ⟨rfl, hb3⟩
  have HB3 := hid (below_step HB2.out (Nat.le_refl _) hb3)
  clear hb3 HB2
  go_wp2_with fail
  refine (within_any a 7 _ (by omega) (by omega)).mono ?_
  rintro e w4 ⟨rfl, rfl⟩
  obtain ⟨n, hn⟩ := Int.eq_ofNat_of_zero_le (Int.emod_nonneg a (show (7 : Int) ≠ 0 by omega))
  have hn7 : n < 7 := by have := Int.emod_lt_of_pos a (show (0 : Int) < 7 by omega); omega
  rw [hn]
  clear hn
  obtain ⟨s, hs⟩ : ∃ s, s = min q n := ⟨_, rfl⟩
  have hmin := run_minN (P := Try.prog) q n s hs
  have hsq : s ≤ q := by omega
  have hsn : s ≤ n := by omega
  have hsd : s ≤ d := by omega
  have hcl := clone_any B s d (row0.take s) _ ((HBI.out.keep HB3.out).take hsq) (by omega)
  have HSL : Hid ((row0.take s).length = s) := by show (row0.take s).length = s; rw [List.length_take, HBI.out.len]; omega
  clear hs
  go_wp2_with fail
  refine hcl.mono ?_
  rintro e w5 ⟨v5, rfl, ho5, hb5⟩
  have HO5 := hid ho5
  have HB5 := hid hb5
  obtain ⟨A5, c5, e5, _⟩ := ho5.ints
  subst e5
  clear hcl ho5 hb5 hmin
  generalize row0.take s = xs0 at *
  have hx0 : xs0.length ≤ n := by rw [HSL.out]; exact hsn
  go_wp2_with fail
  go_loopg [2] n (fun g v wq => ∃ xs A9 c9, xs.length ≤ n ∧ n - xs.length ≤ g ∧ v = .slice A9 xs.length c9 ∧ OwnInts wq w3.heap.size v xs ∧ Below w3.heap.size w3 wq)
  case atStart => exact ⟨xs0, A5, c5, hx0, by omega, rfl, HO5.out, HB5.out⟩
  case round =>
    clear HO5 HB5
    obtain ⟨xs, A9, c9, hxl, hgx, rfl, hown, hbel⟩ := hrel
    have HOW := hid hown
    have HB6 := hid hbel
    clear hown hbel
    by_cases hxk : xs.length < n
    · go_wp2_with (at_builtin; refine wpList_app1 _ rfl (.tmp 58) (.tmp 59) rfl w3.heap.size _ xs 0 rfl rfl HOW.out (by omega) HB6.out.size ?_)
      intro v' w4 hown4 hgr4 hbel4
      have hlen4 : (xs ++ [0]).length = xs.length + 1 := by simp
      obtain ⟨A4, c4, e4, _⟩ := hown4.ints
      subst e4
      have HOW4 := hid hown4
      have HB4 := hid (HB6.out.trans hbel4)
      clear hown4 hgr4 hbel4
      go_wp2
      go_roundg (n - (xs.length + 1))
      case measure => omega
      case rel => exact ⟨xs ++ [0], A4, c4, by omega, by omega, rfl, HOW4.out, HB4.out⟩
    · have hxn : xs.length = n := by omega
      have HBW := hid (below_step HB3.out (Nat.le_refl _) HB6.out)
      rw [hxn]
      have HXN := hid hxn
      have HRI := hid (show Ints _ A9 n xs by have := HOW.out.asInts.1; rwa [hxn] at this)
      clear HOW HB6 hxn hgx hxk hxl hx0
      obtain ⟨w8, rfl⟩ : ∃ w8, w8 = wr := ⟨wr, rfl⟩
      have hmv := moved_any A m c L n w8 (HH.out.keep HBW.out) hmc (by omega) hcm HRL.out
      go_wp2_with fail
      refine hmv.mono ?_
      rintro e w9 ⟨v9, L3, rfl, hr3, hl3, ho3, hb9⟩
      have HE3 := hid (orbE_orders (by omega) hl3 ho3)
      have HO3 := hid ho3
      obtain ⟨A3, c3, e3, hR3, _⟩ := hr3.rrows
      subst e3
      have HB9 := hid (below_step HBW.out (Nat.le_refl _) hb9)
      have HRI9 := hid (HRI.out.keep hb9)
      have HR3 := hid hR3
      clear hmv hr3 hb9 hR3 ho3 HRI HBW HH HRL HBI
      generalize hm3 : L3.length = m3 at *
      have HM3 := hid hm3
      clear hm3
      have hgo := group_ok A3 m3 c3 L3 n w9 HR3.out HE3.out
      go_wp2_with fail
      refine hgo.mono ?_
      rintro e w10 ⟨v10, T, rfl, hT, hrT, hb10⟩
      have HT := hid hT
      obtain ⟨AT, cT, eT, hRT, _⟩ := hrT.rrows
      subst eT
      have HRT := hid hRT
      have hTpos := hT.pos
      have HTL := hid (Nat.le_trans (hT.length_le HO3.out) (Nat.le_trans (fact_mono (show n ≤ 6 by omega)) (show fact 6 ≤ 720 by decide)))
      have hTl := HTL.out
      have HB10 := hid (below_step HB9.out (Nat.le_refl _) hb10)
      have HRI10 := hid (HRI9.out.keep hb10)
      have HR10 := hid (HR3.out.keep hb10)
      clear hgo hT hrT hb10 hRT HR3 HRI9 HB9
      have hle := least_ok A3 m3 c3 A9 c9 L3 n xs w10 HR10.out HRI10.out HE3.out
      go_wp2_with fail
      refine hle.mono ?_
      rintro e w11 ⟨v11, bb, rfl, hlb, hob, hb11⟩
      have HLB := hid hlb
      have HBL2 := hid (hlb.length HO3.out)
      obtain ⟨AB, cB, eB, hIB, _⟩ := hob.ints
      rw [HBL2.out] at eB hIB
      subst eB
      have HIB := hid hIB
      have HB11 := hid (below_step HB10.out (Nat.le_refl _) hb11)
      have HRI11 := hid (HRI10.out.keep hb11)
      have HR11 := hid (HR10.out.keep hb11)
      have HRT11 := hid (HRT.out.keep hb11)
      clear hle hlb hob hb11 hIB HR10 HRI10 HB10 HRT
      have hgd := fun t => good_bel w11 #[.int .i64 0, .int .i64 0] t 2 [0, 0] rfl rfl (by omega)
      rw [show allOK [0, 0] = true by decide] at hgd
      have htz : (((T.length : Nat) : Int) == 0) = false := beq_eq_false_iff_ne.2 (by omega)
      go_wp2_with fail
      refine (hgd _).mono ?_
      rintro e w12 ⟨rfl, hb12⟩
      have HB12 := hid (below_step HB11.out (Nat.le_refl _) hb12)
      have HRI12 := hid (HRI11.out.keep hb12)
      have HR12 := hid (HR11.out.keep hb12)
      have HRT12 := hid (HRT11.out.keep hb12)
      have HIB12 := hid (HIB.out.keep hb12)
      clear hgd hb12 HR11 HRI11 HB11 HRT11 HIB
      go_wp2_with fail
      refine (within_any b (T.length : Int) _ (by omega) (by omega)).mono ?_
      rintro e w13 ⟨rfl, rfl⟩
      obtain ⟨t, ht⟩ := Int.eq_ofNat_of_zero_le (Int.emod_nonneg b (show (T.length : Int) ≠ 0 by omega))
      have htT : t < T.length := by have := Int.emod_lt_of_pos b (show (0 : Int) < (T.length : Int) by omega); rw [ht] at this; omega
      rw [ht]
      clear ht
      obtain ⟨bT, offT, AP, nP, cP, eT, hcellT, hIP, _⟩ := HRT12.out.at htT
      subst eT
      have HPOK := hid (HT.out.ok HO3.out (getD_mem_rows htT))
      have HPT := hid ((HT.out.mem _).1 (getD_mem_rows htT))
      have hnP : n = nP := by rw [← hIP.len, HPOK.out.1]
      subst hnP
      generalize T.getD t [] = p at *
      have hmk := fun W => run_make_row' (P := Try.prog) 23 3 (.int .i64 0) 8 Try.underlying23 infoInt rfl .i64 .i64 n (by omega) (by omega) W
      have hnn : ((n : Int) != (n : Int)) = false := by simp
      have HIP := hid hIP
      clear hIP
      go_wp2_with fail
      go_loopg [102] n (fun g s wq => ∃ i : Nat, i ≤ n ∧ n - i ≤ g ∧ s = .int .i64 i ∧ wq.rowIs w12.heap.size 3 n (mvCell p xs i) ∧ Below w12.heap.size w12 wq)
      case atStart => exact ⟨0, Nat.zero_le _, by omega, rfl, (World.rowIs_made w12 _ n _).congr (fun j hj => mvCell_start HPOK.out.2 xs (by rw [HPOK.out.1]; exact hj)), (Below.refl _ _).alloc (Nat.le_refl _) _⟩
      case round =>
        obtain ⟨i, hi, hgi, rfl, hrow, hbel⟩ := hrel
        have HR := hid hrow
        have HB := hid hbel
        clear hrow hbel hmk
        by_cases hlt : i < n
        · obtain ⟨b2, o2, e2, hlt2, hc2⟩ := HIP.out.row (by omega)
          subst e2
          obtain ⟨b1, o1, e1, hlt1, hc1⟩ := HRI12.out.row (by omega)
          subst e1
          have hkl : i < p.length := by rw [HPOK.out.1]; exact hlt
          have hr := HPOK.out.2.range (getD_mem hkl)
          rw [HPOK.out.1] at hr
          have g1 : wr.cell? ⟨b2, o2 + i, none⟩ = some (.int .i64 (p.getD i 0)) := (HB.out.cell (p := ⟨b2, o2 + i, none⟩) hlt2).trans (hc2 i hlt)
          have g2 : wr.cell? ⟨b1, o1 + i, none⟩ = some (.int .i64 (xs.getD i 0)) := (HB.out.cell (p := ⟨b1, o1 + i, none⟩) hlt1).trans (hc1 i hlt)
          have HS := hid (fun m (e : p.getD i 0 = ((m : Nat) : Int)) j (hj : j < p.length) => mvCell_step HPOK.out.2 xs hkl e hj)
          generalize hxk : p.getD i 0 = x at g1 hr HS
          obtain ⟨z, rfl⟩ := Int.eq_ofNat_of_zero_le hr.1
          have hz : z < n := by omega
          have dz0 : decide ((z : Int) < 0) = false := by simp
          have dz1 : decide ((n : Int) ≤ (z : Int)) = false := by simp; omega
          have g3 : wr.cell? ⟨w12.heap.size, z, none⟩ = some (mvCell p xs i z) := HR.out.cell hz
          have g4 : wr.frozen? ⟨w12.heap.size, z, none⟩ = false := HR.out.frozen z
          have HS2 := hid (HS.out z rfl)
          clear hc1 hc2 hr hkl HS hxk
          generalize xs.getD i 0 = y at g2 HS2
          go_wp2
          go_roundg (n - (i + 1))
          case measure => omega
          case rel =>
            refine ⟨i + 1, by omega, by omega, by go_num, ?_, HB.out.setCell (Nat.le_refl _) _⟩
            exact (HR.out.set z (.int .i64 y)).congr (fun j hj => HS2.out j (by rw [HPOK.out.1]; exact hj))
        · have hin : i = n := by omega
          subst hin
          have HOT : Hid (Ints wr (some ⟨w12.heap.size, 0, none⟩) i (mv p xs)) := by
            have := own_of_rowIs (base := w12.heap.size) HR.out (xs := mv p xs) (by rw [length_mv]; exact HPOK.out.1) (fun j hj => by
              have := mvCell_end HPOK.out.2 xs (j := j) (by rw [HPOK.out.1]; exact hj)
              rwa [HPOK.out.1] at this) (Nat.le_refl _) (by unfold maxLen; omega)
            exact this.asInts.1
          have HBZ := hid (below_step HB12.out (Nat.le_refl _) HB.out)
          have HRIz := hid (HRI12.out.keep HB.out)
          have HRz := hid (HR12.out.keep HB.out)
          have HIBz := hid (HIB12.out.keep HB.out)
          clear HR HB HB12 HRI12 HR12 HIB12 HIP HRT12
          obtain ⟨w13, rfl⟩ : ∃ w13, w13 = wr := ⟨wr, rfl⟩
          have hle := least_ok A3 m3 c3 (some ⟨w12.heap.size, 0, none⟩) i L3 i (mv p xs) w13 HRz.out HOT.out HE3.out
          go_wp2_with fail
          refine hle.mono ?_
          rintro e w14 ⟨v14, cc, rfl, hlc, hoc, hb14⟩
          have hcb := (HLB.out.moved HT.out HO3.out HXN.out HPT.out).unique hlc
          subst hcb
          obtain ⟨AC, cC, eC, hIC, _⟩ := hoc.ints
          rw [HBL2.out] at eC hIC
          subst eC
          have HIC := hid hIC
          have HB14 := hid (below_step HBZ.out (Nat.le_refl _) hb14)
          have HRI14 := hid (HRIz.out.keep hb14)
          have HR14 := hid (HRz.out.keep hb14)
          have HIB14 := hid (HIBz.out.keep hb14)
          clear hle hlc hoc hb14 hIC HRIz HRz HIBz HBZ HOT
          have hle := least_ok A3 m3 c3 AB cB L3 i bb w14 HR14.out HIB14.out HE3.out
          go_wp2_with fail
          refine hle.mono ?_
          rintro e w15 ⟨v15, dd, rfl, hld, hod, hb15⟩
          have hdb := (HLB.out.own HT.out HO3.out HXN.out).unique hld
          subst hdb
          obtain ⟨AD, cD, eD, hID, _⟩ := hod.ints
          rw [HBL2.out] at eD hID
          subst eD
          have HID := hid hID
          have HB15 := hid (below_step HB14.out (Nat.le_refl _) hb15)
          have HRI15 := hid (HRI14.out.keep hb15)
          have HIB15 := hid (HIB14.out.keep hb15)
          have HIC15 := hid (HIC.out.keep hb15)
          clear hle hld hod hb15 hID HRI14 HR14 HIB14 HB14 HIC
          have hcl := clone_any A9 i c9 xs w15 HRI15.out (by omega)
          go_wp2_with fail
          refine hcl.mono ?_
          rintro e w16 ⟨v16, rfl, ho16, hb16⟩
          obtain ⟨AX, cX, eX, _⟩ := ho16.ints
          rw [HXN.out] at eX
          subst eX
          have HOX := hid ho16
          have HSZ := hid hb16.size
          have HBX := hid hb16
          have HIB16 := hid (HIB15.out.keep hb16)
          clear hcl ho16 hb16
          have hcl := clone_any AB i cB bb w16 HIB16.out (by omega)
          go_wp2_with fail
          refine hcl.mono ?_
          rintro e w17 ⟨v17, rfl, ho17, hb17⟩
          obtain ⟨AY, cY, eY, _⟩ := ho17.ints
          rw [HBL2.out] at eY
          subst eY
          have HOY := hid ho17
          have HBY := hid hb17
          have HOX17 := hid (HOX.out.keep hb17)
          clear hcl ho17 hb17 HIB16
          have hso := sort_any w15.heap.size (.slice AX i cX) xs w17 HOX17.out (by rw [HXN.out]; omega)
          go_wp2_with fail
          refine hso.mono ?_
          rintro e w18 ⟨rfl, xs', hox18, hpx, hsx, hgx⟩
          have HAP := hid (own_apart2 HOX.out HOY.out)
          have HOX18 := hid hox18
          have HOY18 := hid (own_keptA HOY.out hgx (fun k hk e => HAP.out k e hk))
          have hBX17 := below_step HBX.out (Nat.le_refl _) HBY.out
          have HBX18 := hid (hBX17.grown hgx hBX17.size (fun k hk => (World.ownsRow.lt HOX17.out k hk).1))
          have HXS := hid (show xs'.Perm xs ∧ xs'.Pairwise climbs from ⟨hpx, pairwise_of_sortedTo hsx⟩)
          clear hso hox18 hpx hsx hgx hBX17 HOX17 HOY HBX HBY
          have hso := sort_any w16.heap.size (.slice AY i cY) bb w18 HOY18.out (by rw [HBL2.out]; omega)
          go_wp2_with fail
          refine hso.mono ?_
          rintro e w19 ⟨rfl, ys', hoy19, hpy, hsy, hgy⟩
          have HOX19 := hid (own_keptA HOX18.out hgy HAP.out)
          have HB19 := hid (HBX18.out.grown hgy HBX18.out.size (fun k hk => Nat.le_trans HSZ.out ((World.ownsRow.lt HOY18.out k hk).1)))
          have hxy : xs' = ys' := by
            refine sorted_unique climbs_antiO HXS.out.2 (pairwise_of_sortedTo hsy) ?_
            exact HXS.out.1.trans ((HLB.out.perm HO3.out HXN.out).symm.trans hpy.symm)
          subst hxy
          have HOY19 := hid hoy19
          have HXL : Hid (xs'.length = i) := by show xs'.length = i; rw [HXS.out.1.length_eq, HXN.out]
          have HIBf := hid (HIB15.out.keep HB19.out)
          have HICf := hid (HIC15.out.keep HB19.out)
          have HIDf := hid (HID.out.keep HB19.out)
          have HRIf := hid (HRI15.out.keep HB19.out)
          have HIXf := hid HOX19.out.asInts.1
          have HIYf := hid HOY19.out.asInts.1
          have HBf := hid (below_step HB15.out (Nat.le_refl _) HB19.out)
          have HLE := hid (HLB.out.le_row HXN.out)
          clear hso hoy19 hpy hsy hgy HXS HAP HOX18 HOY18 HBX18 HIB15 HIC15 HID HRI15 HB15 HB19 HOX19 HOY19 HOX HSZ HLB
          have hgd := fun t => good_bel w19 #[.int .i64 0, .int .i64 0] t 2 [0, 0] rfl rfl (by omega)
          rw [show allOK [0, 0] = true by decide] at hgd
          go_wp2_with fail
          refine (hgd _).mono ?_
          rintro e w20 ⟨rfl, hb20⟩
          have HB20 := hid hb20
          clear hgd hb20
          have h1 := equal_bel AB i cB AC i cC bb bb w20 (HIBf.out.keep HB20.out) (HICf.out.keep HB20.out) (by omega) (by omega)
          rw [decide_eq_true rfl] at h1
          go_wp2_with fail
          refine h1.mono ?_
          rintro e w21 ⟨rfl, hb21⟩
          have HB21 := hid (below_step HB20.out (Nat.le_refl _) hb21)
          clear h1 hb21 HB20
          have h1 := equal_bel AB i cB AD i cD bb bb w21 (HIBf.out.keep HB21.out) (HIDf.out.keep HB21.out) (by omega) (by omega)
          rw [decide_eq_true rfl] at h1
          go_wp2_with fail
          refine h1.mono ?_
          rintro e w22 ⟨rfl, hb22⟩
          have HB22 := hid (below_step HB21.out (Nat.le_refl _) hb22)
          clear h1 hb22 HB21
          have h1 := equal_bel AX i cX AY i cY xs' xs' w22 (HIXf.out.keep HB22.out) (HIYf.out.keep HB22.out) (by omega) (by omega)
          rw [decide_eq_true rfl] at h1
          go_wp2_with fail
          refine h1.mono ?_
          rintro e w23 ⟨rfl, hb23⟩
          have HB23 := hid (below_step HB22.out (Nat.le_refl _) hb23)
          clear h1 hb23 HB22
          have h1 := compareL_any AB i cB A9 c9 bb xs w23 (HIBf.out.keep HB23.out) (HRIf.out.keep HB23.out) (by omega)
          have hcle := HLE.out
          generalize cmpL bb xs = cv at *
          have hcd : decide (cv ≤ 0) = true := by simpa using hcle
          go_wp2_with fail
          refine h1.mono ?_
          rintro e w24 ⟨rfl, rfl⟩
          have HBZ := hid (below_step HBf.out (Nat.le_refl _) HB23.out)
          clear h1
          go_wp2
          go_ret
          exact ⟨rfl, HBZ.out⟩

end Go.Proofs.Ytbcjfiobggggjaa

/-
  A pair of tableaux that came in, opened to rows that are only read.
-/
namespace Go.Proofs.Ytbcjfiobggggjaa
open Go.RowKit Go.ChangeShapes Go.WideShapes Go.Deep

theorem weightsAll_mem {H : Type} {P : Program} {e : TypeId} : ∀ {l : List (DataW H)} {d : DataW H}, d ∈ l → ∀ n ∈ d.weights P e, n ∈ DataW.weightsAll P e l
  | d' :: r, d, hd, n, hn => by
    simp only [DataW.weightsAll, List.mem_append]
    rcases List.mem_cons.1 hd with rfl | h
    · exact Or.inl hn
    · exact Or.inr (weightsAll_mem h n hn)
theorem bytesInt : Try.prog.bytesOf 3 = 8 := by kernel_rfl
theorem cellsInt : Try.prog.cellsOf 3 = 1 := by kernel_rfl
theorem cellsRow : Try.prog.cellsOf 23 = 1 := by kernel_rfl
theorem lits_length {H : Type} (k : IntKind) (zs : List Int) : (lits (H := H) k zs).length = zs.length := by simp [lits]

/-- One field: rows of rows. 'b' bounds the weights of its datum. -/
theorem rrows_of_trod {H : Type} {enc : TypeId × Value → H} {W : World} {fuel : Nat} {v : Value} {y : DataW H × List MemPlace} (h : DataW.trod enc Try.prog W 0 (fun _ => true) true fuel 22 [v] = some y) :
    ∃ A n c T, v = .slice A n c ∧ RRows W A n T ∧ n ≤ 9223372036854775807 ∧ ((∀ b ∈ y.1.weights Try.prog 22, b ≤ reachBytes) → ∀ j, (T.getD j []).length ≤ 4611686018427387904) := by
  rcases open_int_rows Try.underlying22 Try.underlying23 Try.underlying3 cellsRow cellsInt h with ⟨hcs, _⟩ | ⟨a, len, cap, A, L, C, Z, hcs, _, hl, hm, hx, hrow⟩
  · simp only [List.cons.injEq, and_true] at hcs
    exact ⟨none, 0, 0, [], hcs, RRows.nil _ _, by omega, fun _ j => by simp⟩
  · simp only [List.cons.injEq, and_true] at hcs
    have hgd : ∀ j, j < len → ((List.range len).map (fun r => (Z r).take (L r))).getD j [] = (Z j).take (L j) := fun j hj => by
      rw [List.getD_eq_getElem?_getD, List.getElem?_map, List.getElem?_range hj]
      rfl
    have hlen : ∀ j, j < len → ((Z j).take (L j)).length = L j := fun j hj => by
      obtain ⟨_, h1, _, h2, _⟩ := hrow j (by omega)
      rw [List.length_take]
      omega
    refine ⟨some a, len, cap, (List.range len).map (fun r => (Z r).take (L r)), hcs, ⟨by simp, fun hp => ?_⟩, by unfold maxLen at hm; omega, fun hb j => ?_⟩
    · obtain ⟨b, off, sp⟩ := a
      have h0 := (hrow 0 (by omega)).1
      have hsp : sp = none := by simpa [Addr.add] using World.cell?_spot h0
      subst hsp
      have hblk := block_lt_of_cell h0
      refine ⟨b, off, rfl, by simpa [Addr.add] using hblk, fun j hj => ?_⟩
      obtain ⟨h1, h2, h3, h4, _, h6, h7⟩ := hrow j (by omega)
      have ha : (⟨b, off, none⟩ : Addr).add j = ⟨b, off + j, none⟩ := by unfold Addr.add; split <;> simp_all
      rw [ha] at h1
      refine ⟨A j, L j, C j, h1, ?_, ⟨h2, by unfold maxLen at h3; exact h3⟩, h6⟩
      rw [hgd j hj]
      refine ⟨hlen j hj, fun hL => ?_⟩
      rcases hA : A j with _ | a'
      · have := h6 hA
        omega
      · obtain ⟨_, hc⟩ := h7 a' hA
        obtain ⟨b', off', sp'⟩ := a'
        have hc0 := hc 0 (by omega)
        have hsp' : sp' = none := by simpa [Addr.add] using World.cell?_spot hc0
        subst hsp'
        have hblk' := block_lt_of_cell hc0
        refine ⟨b', off', rfl, by simpa [Addr.add] using hblk', fun i hi => ?_⟩
        have hci := hc i (by omega)
        have ha' : (⟨b', off', none⟩ : Addr).add i = ⟨b', off' + i, none⟩ := by unfold Addr.add; split <;> simp_all
        rw [ha'] at hci
        rw [hci]
        simp [List.getD_eq_getElem?_getD, hi]
    · rcases Nat.lt_or_ge j len with hj | hj
      · rw [hgd j hj, hlen j hj]
        obtain ⟨_, h2, _, h4, _, h6, _⟩ := hrow j (by omega)
        rcases hA : A j with _ | a'
        · have := h6 hA
          omega
        · have hmem : (intRow (H := H) .i64 (A j) (L j) (Z j)) ∈ (List.range len).map (fun r => intRow .i64 (A r) (L r) (Z r)) := List.mem_map.2 ⟨j, List.mem_range.2 hj, rfl⟩
          have hw := hb ((C j) * 8) (by
            rw [hx]
            simp only [DataW.weights, Try.underlying22, List.mem_cons, List.mem_append]
            refine Or.inr (Or.inl (weightsAll_mem hmem _ ?_))
            rw [hA]
            simp only [intRow, DataW.weights, Try.underlying23, lits_length, bytesInt, List.length_take, List.length_drop, List.mem_cons]
            left
            congr 1
            omega)
          have : reachBytes = 140737488351232 := rfl
          omega
      · rw [List.getD_eq_getElem?_getD, List.getElem?_eq_none (by simpa using hj)]
        simp

end Go.Proofs.Ytbcjfiobggggjaa

/-
  Rows of rows that came in, opened: rows that are only read, none of them longer than memory lets it be.
-/
namespace Go.Proofs.Ytbcjfiobggggjaa
open Go.RowKit Go.ChangeShapes Go.WideShapes Go.Deep

theorem rrows_of_trodN {H : Type} {enc : TypeId × Value → H} {W : World} {fuel : Nat} {v : Value} {y : DataW H × List MemPlace} (h : DataW.trod enc Try.prog W 0 (fun _ => true) true fuel 22 [v] = some y) :
    ∃ A n c T, v = .slice A n c ∧ RRows W A n T ∧ Cap n c ∧ ((∀ b ∈ y.1.weights Try.prog 22, b ≤ reachBytes) → ∀ j, (T.getD j []).length ≤ 17592186044416) := by
  rcases open_int_rows Try.underlying22 Try.underlying23 Try.underlying3 cellsRow cellsInt h with ⟨hcs, _⟩ | ⟨a, len, cap, A, L, C, Z, hcs, _, hl, hm, hx, hrow⟩
  · simp only [List.cons.injEq, and_true] at hcs
    exact ⟨none, 0, 0, [], hcs, RRows.nil _ _, ⟨Nat.le_refl _, by omega⟩, fun _ j => by simp⟩
  · simp only [List.cons.injEq, and_true] at hcs
    have hgd : ∀ j, j < len → ((List.range len).map (fun r => (Z r).take (L r))).getD j [] = (Z j).take (L j) := fun j hj => by
      rw [List.getD_eq_getElem?_getD, List.getElem?_map, List.getElem?_range hj]
      rfl
    have hlen : ∀ j, j < len → ((Z j).take (L j)).length = L j := fun j hj => by
      obtain ⟨_, h1, _, h2, _⟩ := hrow j (by omega)
      rw [List.length_take]
      omega
    refine ⟨some a, len, cap, (List.range len).map (fun r => (Z r).take (L r)), hcs, ⟨by simp, fun hp => ?_⟩, ⟨hl, by unfold maxLen at hm; omega⟩, fun hb j => ?_⟩
    · obtain ⟨b, off, sp⟩ := a
      have h0 := (hrow 0 (by omega)).1
      have hsp : sp = none := by simpa [Addr.add] using World.cell?_spot h0
      subst hsp
      have hblk := block_lt_of_cell h0
      refine ⟨b, off, rfl, by simpa [Addr.add] using hblk, fun j hj => ?_⟩
      obtain ⟨h1, h2, h3, h4, _, h6, h7⟩ := hrow j (by omega)
      have ha : (⟨b, off, none⟩ : Addr).add j = ⟨b, off + j, none⟩ := by unfold Addr.add; split <;> simp_all
      rw [ha] at h1
      refine ⟨A j, L j, C j, h1, ?_, ⟨h2, by unfold maxLen at h3; exact h3⟩, h6⟩
      rw [hgd j hj]
      refine ⟨hlen j hj, fun hL => ?_⟩
      rcases hA : A j with _ | a'
      · have := h6 hA
        omega
      · obtain ⟨_, hc⟩ := h7 a' hA
        obtain ⟨b', off', sp'⟩ := a'
        have hc0 := hc 0 (by omega)
        have hsp' : sp' = none := by simpa [Addr.add] using World.cell?_spot hc0
        subst hsp'
        have hblk' := block_lt_of_cell hc0
        refine ⟨b', off', rfl, by simpa [Addr.add] using hblk', fun i hi => ?_⟩
        have hci := hc i (by omega)
        have ha' : (⟨b', off', none⟩ : Addr).add i = ⟨b', off' + i, none⟩ := by unfold Addr.add; split <;> simp_all
        rw [ha'] at hci
        rw [hci]
        simp [List.getD_eq_getElem?_getD, hi]
    · rcases Nat.lt_or_ge j len with hj | hj
      · rw [hgd j hj, hlen j hj]
        obtain ⟨_, h2, _, h4, _, h6, _⟩ := hrow j (by omega)
        rcases hA : A j with _ | a'
        · have := h6 hA
          omega
        · have hmem : (intRow (H := H) .i64 (A j) (L j) (Z j)) ∈ (List.range len).map (fun r => intRow .i64 (A r) (L r) (Z r)) := List.mem_map.2 ⟨j, List.mem_range.2 hj, rfl⟩
          have hw := hb ((C j) * 8) (by
            rw [hx]
            simp only [DataW.weights, Try.underlying22, List.mem_cons, List.mem_append]
            refine Or.inr (Or.inl (weightsAll_mem hmem _ ?_))
            rw [hA]
            simp only [intRow, DataW.weights, Try.underlying23, lits_length, bytesInt, List.length_take, List.length_drop, List.mem_cons]
            left
            congr 1
            omega)
          have : reachBytes = 140737488351232 := rfl
          omega
      · rw [List.getD_eq_getElem?_getD, List.getElem?_eq_none (by simpa using hj)]
        simp

end Go.Proofs.Ytbcjfiobggggjaa
