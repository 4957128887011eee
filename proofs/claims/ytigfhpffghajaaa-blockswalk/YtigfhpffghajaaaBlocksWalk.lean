/-
  Proved: castkeep.BlocksWalk returns true whatever its argument.
-/
import Derived.Test.YtigfhpffghajaaaBlkB
import Derived.Test.YtigfhpffghajaaaBlkC
import Derived.Test.YtigfhpffghajaaaMx
namespace Go.Proofs.Ytigfhpffghajaaa
open Go.RowKit

theorem wk_pos {r : Nat} {g o want : List Int} (h : wkGood r g o want = true) : 0 < r := by
  cases r with
  | zero => exact absurd h (by unfold wkGood; decide)
  | succ r => omega
theorem wk_none {r : Nat} {g o want : List Int} (h : wkGood (r + 1) g o want = true) (hl : ltg g g.length < 0) : r = 0 ∧ o.set (bk g) (o.getD (bk g) 0 + 1) = want := by
  unfold wkGood at h
  rw [if_pos hl] at h
  simpa using h
theorem wk_some {r L : Nat} {g o want : List Int} (h : wkGood (r + 1) g o want = true) (hl : ltg g g.length = (L : Int)) : wkGood r (nextL g L) (o.set (bk g) (o.getD (bk g) 0 + 1)) want = true := by
  unfold wkGood at h
  rw [if_neg (by omega), hl, Int.toNat_natCast] at h
  exact h
theorem bk_max {g : List Int} {x : Int} (hr : Rgs g) (hm : x ∈ g) (hall : ∀ y ∈ g, y ≤ x) : x + 1 = ((bk g : Nat) : Int) := by
  have h := mem_rgs (g := g) (k := g.length) (Nat.le_refl _) hr
  rw [List.take_of_length_le (Nat.le_refl _)] at h
  have h1 := (h x).1 hm
  have h2 := hall _ ((h ((bk g : Nat) - 1)).2 (by omega))
  omega
theorem rgs_zeros (n : Nat) : Rgs (List.replicate n 0) := by
  intro j hj
  have e : (List.replicate n (0 : Int)).getD j 0 = 0 := by
    simp only [List.getD_eq_getElem?_getD, List.getElem?_replicate]
    split <;> rfl
  rw [e]
  omega
theorem getD_wkWant {n k : Nat} (h : k ≤ n) : (wkWant n).getD k 0 = ((stir n k : Nat) : Int) := by
  simp [wkWant, List.getD_eq_getElem?_getD, show k < n + 1 by omega]
theorem length_wkWant (n : Nat) : (wkWant n).length = n + 1 := by simp [wkWant]
/-- Where the loop stands: what stands in g, how often each number of heaps has been met. -/
def WkInv (w : World) (n m i : Nat) (want : List Int) (v : Value) (wr : World) : Prop :=
  ∃ (b c : Nat) (g o : List Int), v = .slice (some ⟨b, 0, none⟩) n c ∧ w.heap.size + 1 ≤ b ∧ Ints wr (some ⟨b, 0, none⟩) n g ∧ Rgs g ∧ Arr wr w.heap.size o ∧ o.length = n + 1 ∧ (∀ k, 0 ≤ o.getD k 0 ∧ o.getD k 0 ≤ (i : Int)) ∧ wkGood (m - i) g o want = true ∧ Below w.heap.size w wr
theorem wk_up {o : List Int} {i p : Nat} (h : ∀ k, 0 ≤ o.getD k 0 ∧ o.getD k 0 ≤ (i : Int)) (k : Nat) : 0 ≤ (o.set p (o.getD p 0 + 1)).getD k 0 ∧ (o.set p (o.getD p 0 + 1)).getD k 0 ≤ ((i + 1 : Nat) : Int) := by
  have h1 := h k
  have h2 := h p
  rw [getD_set]
  split <;> omega
theorem ints_other {w : World} {a b n : Nat} {g : List Int} (h : Ints w (some ⟨b, 0, none⟩) n g) (hne : a ≠ b) (j : Nat) (v : Value) : Ints (w.setCell ⟨a, j, none⟩ v) (some ⟨b, 0, none⟩) n g := by
  refine ⟨h.len, fun hp => ?_⟩
  obtain ⟨b', o', e, hb, hc⟩ := h.row hp
  injection e with e
  injection e with e1 e2
  subst e1
  subst e2
  refine ⟨b, 0, rfl, by simpa [World.setCell] using hb, fun t ht => ?_⟩
  rw [← hc t ht]
  exact World.cell?_of_block (a := ⟨b, 0 + t, none⟩) (Below.heap_setCell w ⟨a, j, none⟩ v b (fun e => hne e.symm))
theorem wk_start (w2 : World) (n m : Nat) (want : List Int) (h : wkGood m (List.replicate (n + 1) 0) (List.replicate (n + 2) 0) want = true) :
    WkInv w2 (n + 1) m 0 want (.slice (some ⟨w2.heap.size + 1, 0, none⟩) (n + 1) (n + 1)) ((w2.alloc (.cells (madeCells #[.int .i64 0] (n + 2)) 3)).alloc (.cells (madeCells #[.int .i64 0] (n + 1)) 3)) := by
  have a1 := (Arr.made w2 (n + 2)).alloc (.cells (madeCells #[.int .i64 0] (n + 1)) 3)
  have a2 := Arr.made (w2.alloc (.cells (madeCells #[.int .i64 0] (n + 2)) 3)) (n + 1)
  rw [show (w2.alloc (.cells (madeCells #[.int .i64 0] (n + 2)) 3)).heap.size = w2.heap.size + 1 by simp] at a2
  have i2 := a2.ints0 (n + 1) (by rw [List.length_replicate]; exact Nat.le_refl _)
  rw [List.take_of_length_le (by rw [List.length_replicate]; exact Nat.le_refl _)] at i2
  have h3 : wkGood (m - 0) (List.replicate (n + 1) 0) (List.replicate (n + 2) 0) want = true := by
    rw [Nat.sub_zero]
    exact h
  have h4 : ∀ k, 0 ≤ (List.replicate (n + 2) (0 : Int)).getD k 0 ∧ (List.replicate (n + 2) (0 : Int)).getD k 0 ≤ ((0 : Nat) : Int) := by
    intro k
    have e : (List.replicate (n + 2) (0 : Int)).getD k 0 = 0 := by
      simp only [List.getD_eq_getElem?_getD, List.getElem?_replicate]
      split <;> rfl
    rw [e]
    omega
  have h5 : (List.replicate (n + 2) (0 : Int)).length = n + 1 + 1 := List.length_replicate
  have h6 := ((Below.refl w2.heap.size w2).alloc (Nat.le_refl _) (.cells (madeCells #[.int .i64 0] (n + 2)) 3)).alloc (by simp) (.cells (madeCells #[.int .i64 0] (n + 1)) 3)
  generalize hz : List.replicate (n + 1) (0 : Int) = z1 at *
  have hr1 : Rgs z1 := by rw [← hz]; exact rgs_zeros _
  generalize List.replicate (n + 2) (0 : Int) = z2 at *
  exact ⟨w2.heap.size + 1, n + 1, z1, z2, rfl, Nat.le_refl _, i2, hr1, a1, h5, h4, h3, h6⟩

set_option maxHeartbeats 1000000 in
set_option maxRecDepth 100000 in
theorem blocksWalk_any (K : Int) (w : World)  :
    Calls Try.prog 8 #[.int .i64 K] w fun e w' => e = .returned (.bool true) ∧ Below w.heap.size w w' := by
  have HB0 := hid (Below.refl w.heap.size w)
  have HA0 : Hid (All w []) := trivial
  go_enter Try.func8, Try.ntmps8
  go_wp2_with fail
  refine (heaps_any _).mono ?_
  rintro e w1 ⟨rfl, hb⟩
  have HB1 := hid (below_step HB0.out (Nat.le_refl _) hb)
  have HA1 : Hid (All w1 []) := HA0.out.keep hb
  clear HA0 HB0
  clear hb
  go_wp2_with fail
  refine (within_any K 7 _ (by omega) (by omega)).mono ?_
  rintro e w' ⟨rfl, rfl⟩
  have hk1 := Int.emod_nonneg K (show (7 : Int) ≠ 0 by omega)
  have hk2 := Int.emod_lt_of_pos K (show (0 : Int) < 7 by omega)
  generalize K % 7 = N1 at hk1 hk2 ⊢
  obtain ⟨n, rfl⟩ := Int.eq_ofNat_of_zero_le hk1
  have hn : n < 7 := by omega
  clear hk1 hk2
  go_wp2_with fail
  refine (ball_of _ (n + 1) (by omega) _ (by omega)).mono ?_
  rintro e w2 ⟨rfl, hb⟩
  have HB2 := hid (below_step HB1.out (Nat.le_refl _) hb)
  have HA2 : Hid (All w2 []) := HA1.out.keep hb
  clear HA1 HB1
  clear hb
  have HWK := hid (wk_all hn)
  have hbl := bell_le (n := n + 1) (by omega)
  have HWL := hid (length_wkWant (n + 1))
  have HWG := hid (fun k h => @getD_wkWant (n + 1) k h)
  generalize bell (n + 1) = m at *
  generalize wkWant (n + 1) = want at *
  have hmk1 : ∀ W : World, (Instr.makeSlice 22 (.int .i64 (1 + (n : Int) + 1)) (.int .i64 (1 + (n : Int) + 1))).run Try.prog W = .ok (.slice (some ⟨W.heap.size, 0, none⟩) (n + 2) (n + 2)) (W.alloc (.cells (madeCells #[.int .i64 0] (n + 2)) 3)) :=
    fun W => by rw [show (1 + (n : Int) + 1) = ((n + 2 : Nat) : Int) by omega]; exact run_make_row' (P := Try.prog) 22 3 (.int .i64 0) 8 Try.underlying22 infoInt rfl .i64 .i64 (n + 2) (by omega) (by omega) W
  have hmk2 : ∀ W : World, (Instr.makeSlice 22 (.int .i64 (1 + (n : Int))) (.int .i64 (1 + (n : Int)))).run Try.prog W = .ok (.slice (some ⟨W.heap.size, 0, none⟩) (n + 1) (n + 1)) (W.alloc (.cells (madeCells #[.int .i64 0] (n + 1)) 3)) :=
    fun W => by rw [show (1 + (n : Int)) = ((n + 1 : Nat) : Int) by omega]; exact run_make_row' (P := Try.prog) 22 3 (.int .i64 0) 8 Try.underlying22 infoInt rfl .i64 .i64 (n + 1) (by omega) (by omega) W
  have HST := hid (wk_start w2 n m want HWK.out)
  go_wp2_with fail
  clear hmk1 hmk2
  go_loopg [6, 32] m (fun g v s wr => ∃ i : Nat, i ≤ m ∧ m - i ≤ g ∧ s = .int .i64 i ∧ WkInv w2 (n + 1) m i want v wr)
  case atStart => exact ⟨0, by omega, by omega, rfl, HST.out⟩
  case round =>
    obtain ⟨i, hi, hg, rfl, b, c, g, o, rfl, hbb, hgI, hgR, hoA, hoL, hoB, hwk, hbel⟩ := hrel
    have hpos := wk_pos hwk
    obtain ⟨r, hr⟩ : ∃ r, m - i = r + 1 := ⟨m - i - 1, by omega⟩
    rw [hr] at hwk
    have hlt : i < m := by omega
    have hltI : (i : Int) < (m : Int) := by omega
    have HGI := hid hgI
    have HGR := hid hgR
    have HOA := hid hoA
    have HOL := hid hoL
    have HOB := hid hoB
    have HWK2 := hid hwk
    have HBB := hid hbb
    have HBE := hid hbel
    have HGL : Hid (g.length = n + 1) := hgI.len
    clear hgI hgR hoA hoL hoB hwk hbb hbel HST HWK
    go_wp2_with fail
    refine (max_any _ (n + 1) c g _ HGI.out (by omega) (by omega)).mono ?_
    rintro e w' ⟨x, rfl, hx1, hx2, rfl⟩
    have hxb := bk_max HGR.out hx1 hx2
    clear hx1 hx2
    have hbk : bk g ≤ n + 1 := by
      have := bk_le g g.length
      rw [List.take_of_length_le (Nat.le_refl _)] at this
      rw [HGL.out] at this
      exact this
    have hxe : x = ((bk g : Nat) : Int) - 1 := by omega
    subst hxe
    clear hxb
    have g1 : wr.cell? ⟨w2.heap.size, bk g, none⟩ = some (.int .i64 (o.getD (bk g) 0)) := HOA.out.cell (by rw [HOL.out]; omega)
    have f1 : wr.frozen? ⟨w2.heap.size, bk g, none⟩ = false := HOA.out.frozen (bk g)
    have hy := HOB.out (bk g)
    have HO2 := hid (HOA.out.set (bk g) (o.getD (bk g) 0 + 1))
    have HU := hid (wk_up (p := bk g) HOB.out)
    have HI2 := hid (ints_other (a := w2.heap.size) HGI.out (by have := HBB.out; omega) (bk g) (.int .i64 (o.getD (bk g) 0 + 1)))
    have HB3 := hid (HBE.out.setCell (p := ⟨w2.heap.size, bk g, none⟩) (Nat.le_refl _) (.int .i64 (o.getD (bk g) 0 + 1)))
    have HL2 : Hid ((o.set (bk g) (o.getD (bk g) 0 + 1)).length = n + 1 + 1) := by rw [List.length_set]; exact HOL.out
    have HNO := hid (fun hl => wk_none HWK2.out hl)
    have HYES := hid (fun L hl => wk_some (L := L) HWK2.out hl)
    rw [HGL.out] at HNO HYES
    clear HOA HOB HGI HBE HOL HWK2
    generalize o.set (bk g) (o.getD (bk g) 0 + 1) = o2 at *
    generalize o.getD (bk g) 0 = y at *
    generalize bk g = q at *
    have hqe : IntKind.i64.wrap ((q : Int) - 1 + 1) = (q : Int) := by rw [IntWalk.i64_in _ (by omega)]; omega
    have hy1 := hy.1
    have hy2 := hy.2
    clear hy
    have hqn : (q : Int) < ((n + 2 : Nat) : Int) := by omega
    go_wp2_with fail
    generalize hWS : wr.setCell ⟨w2.heap.size, q, none⟩ (.int .i64 (y + 1)) = wS at *
    clear hWS g1 f1
    by_cases hL : ltg g (n + 1) < 0
    · obtain ⟨hr0, hwant⟩ := HNO.out hL
      have hmi : m = i + 1 := by omega
      rw [hwant] at HO2
      clear HNO HYES HU HL2 hwant hqe hqn hy1 hy2
      refine (bnext_none _ (n + 1) c g _ HI2.out (by omega) HGR.out hL).mono ?_
      rintro e w' ⟨rfl, rfl⟩
      have him : ((i : Int) != (m : Int) - 1) = false := by simp; omega
      go_wp2_with fail
      clear him hltI hpos hr hr0
      go_loopg [77] (n + 2) (fun gh s wq => ∃ k : Nat, k ≤ n + 2 ∧ n + 2 - k ≤ gh ∧ s = .int .i64 k ∧ Arr wq w2.heap.size want ∧ Below w2.heap.size w2 wq)
      case atStart => exact ⟨0, by omega, by omega, rfl, HO2.out, HB3.out⟩
      case round =>
        obtain ⟨k, hk, hgk, rfl, hA, hB⟩ := hrel
        have HA5 := hid hA
        have HB5 := hid hB
        clear hA hB
        by_cases hkn : k < n + 2
        · have g1 := HA5.out.cell (j := k) (by rw [HWL.out]; omega)
          rw [HWG.out k (by omega)] at g1
          have hkI : (k : Int) < ((n + 2 : Nat) : Int) := by omega
          go_wp2_with fail
          refine (bcount_of _ _ (n + 1) k (by omega) rfl _ (by omega) (by omega)).mono ?_
          rintro e w6 ⟨rfl, hb⟩
          have HB6 := hid (below_step HB5.out (Nat.le_refl _) hb)
          have HA6 := hid (HA5.out.keep hb)
          clear hb g1
          generalize stir (n + 1) k = z at *
          go_wp2
          go_roundg (n + 2 - (k + 1))
          case measure => omega
          case rel => exact ⟨k + 1, by omega, by omega, by go_num, HA6.out, HB6.out⟩
        · have hkI : ¬ (k : Int) < ((n + 2 : Nat) : Int) := by omega
          go_wp2
          go_ret
          exact ⟨rfl, below_step HB2.out (Nat.le_refl _) HB5.out⟩
    · obtain ⟨L, hL2⟩ := Int.eq_ofNat_of_zero_le (show 0 ≤ ltg g (n + 1) by omega)
      have hwk2 := HYES.out L hL2
      have hr2 := wk_pos hwk2
      have HWK3 := hid hwk2
      have hLn := (ltg_some hL2).1
      have HRN := hid (rgs_nextL (g := g) (L := L) (by rw [HGL.out]; exact hLn) HGR.out (ltg_some hL2).2.1)
      have HLN : Hid ((nextL g L).length = n + 1) := by rw [length_nextL (by rw [HGL.out]; exact hLn)]; exact HGL.out
      have HCK : Hid (heapErr (nextL g L) = 0) := heapErr_ok (by rw [HLN.out]; omega) HRN.out
      clear hwk2 HNO HYES hqe hqn hy1 hy2
      refine (bnext_new _ (n + 1) c L g _ HI2.out (by omega) HGR.out hL2).mono ?_
      rintro e w5 ⟨b5, c5, rfl, hge5, hb5, hI5, _⟩
      have HB5 := hid (below_step HB3.out (Nat.le_refl _) hb5)
      have HO5 := hid (HO2.out.keep hb5)
      have HI5 := hid hI5
      have HGE : Hid (w2.heap.size + 1 ≤ b5) := Nat.le_trans HO2.out.lt hge5
      clear hb5 hI5 hge5 hL hL2 HO2
      have him : ((i : Int) == (m : Int) - 1) = false := by simp; omega
      have hl1 : (((n + 1 : Nat) : Int) != 1 + (n : Int)) = false := by simp; omega
      have hl2 : ((n : Int) + 1 != 1 + (n : Int)) = false := by simp; omega
      go_wp2_with fail
      refine (bcheck_any _ (n + 1) c5 (nextL g L) _ HI5.out (by omega)).mono ?_
      rintro e w' ⟨rfl, rfl⟩
      rw [HCK.out]
      go_wp2
      go_roundg (m - (i + 1))
      case measure => omega
      case rel => exact ⟨i + 1, by omega, by omega, by go_num, b5, c5, nextL g L, o2, rfl, HGE.out, HI5.out, HRN.out, HO5.out, HL2.out, HU.out, by rw [show m - (i + 1) = r by omega]; exact HWK3.out, HB5.out⟩

end Go.Proofs.Ytigfhpffghajaaa
