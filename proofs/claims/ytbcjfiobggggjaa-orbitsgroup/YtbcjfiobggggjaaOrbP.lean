/-
  castkeep.moved: orders of n numbers, of any numbers.
-/
import Derived.Test.YtbcjfiobggggjaaOrbR
import Derived.Test.YtbcjfiobggggjaaOrbM
import Derived.Test.YtbcjfiobggggjaaOrbA
import Derived.Test.YtbcjfiobggggjaaDeal
namespace Go.Proofs.Ytbcjfiobggggjaa
open Go.RowKit

/-- min(x, 6). -/
theorem run_minSix {P : Program} (x m : Nat) (hm : m = min x 6) (ts : Array TypeId) (t : TypeId) (W : World) :
    (Builtin.min_ ts t #[.int .i64 (x : Int), .int .i64 6]).run P W = .ok (.int .i64 (m : Int)) W := by
  have e : (if (6 : Int) < (x : Int) then (6 : Int) else (x : Int)) = (m : Int) := by
    subst hm
    split <;> omega
  simp only [Builtin.min_, Builtin.min2, List.foldlM_cons, List.foldlM_nil, pure_bind]
  simp only [e]
  rfl

/-- Orders come back, all of it in the call's own memory. -/
def RetMoved (w : World) (k : Nat) (e : Ending) (w' : World) : Prop := ∃ v L, e = .returned v ∧ BRows w' w.heap.size v L ∧ L.length ≤ 6 ∧ Orders k L ∧ Below w.heap.size w w'

theorem orbE_orders {k : Nat} {L : List (List Int)} (hk : k ≤ 6) (hl : L.length ≤ 6) (h : Orders k L) : orbE (k : Int) L = 0 := by
  refine orbE_ok hk hl fun j hj => ?_
  have hm : L.getD j [] ∈ L := by
    rw [List.getD_eq_getElem?_getD, List.getElem?_eq_getElem hj]
    exact List.getElem_mem hj
  have := h _ hm
  unfold okRow
  rw [permErr_ok.2 ⟨by omega, this.2⟩, this.1]
  simp

set_option maxRecDepth 100000 in
set_option maxHeartbeats 1600000 in
theorem moved_any (A : Option Addr) (m c : Nat) (L : List (List Int)) (k : Nat) (w : World) (h : RRows w A m L) (hc : m ≤ c) (hk : k ≤ 6) (hm : c ≤ 9223372036854775807) (hrow : ∀ j, (L.getD j []).length ≤ 17592186044416) :
    Calls Try.prog 21 #[.int .i64 (k : Int), .slice A m c] w (RetMoved w k) := by
  have HH := hid h
  have HRL := hid hrow
  obtain ⟨q, hq⟩ : ∃ q, q = min m 6 := ⟨_, rfl⟩
  have hmin := run_minSix (P := Try.prog) m q hq
  have hq6 : q ≤ 6 := by omega
  have hqm : q ≤ m := by omega
  have hqc : q ≤ c := by omega
  clear h hrow hq
  go_enter Try.func21, Try.ntmps21
  go_wp2_with fail
  go_loopg [5, 14] q (fun g v s wr => ∃ j T, j ≤ q ∧ q - j ≤ g ∧ s = .int .i64 (j : Nat) ∧ T.length = j ∧ Orders k T ∧ BRows wr w.heap.size v T ∧ Below w.heap.size w wr)
  case atStart => exact ⟨0, [], Nat.zero_le _, by omega, rfl, rfl, fun _ h => by simp at h, BRows.nil _ _, Below.refl _ _⟩
  case round =>
    obtain ⟨j, T, hj, hg, rfl, hTl, hor, hrows, hbel⟩ := hrel
    have HTL := hid hTl
    have HOR := hid hor
    have HRW := hid hrows
    have HB := hid hbel
    have hRR := HH.out.keep hbel
    clear hTl hor hrows hbel hmin
    obtain ⟨w9, rfl⟩ : ∃ w9, w9 = wr := ⟨wr, rfl⟩
    by_cases hlt : j < q
    · obtain ⟨b, off, Aj, nj, cj, eA, hcell, hI, hcap⟩ := hRR.at (show j < m by omega)
      subst eA
      have hnj : nj ≤ 17592186044416 := by rw [← hI.len]; exact HRL.out j
      have hcl := clone_big Aj nj cj _ w9 hI hnj
      clear hI hcap hRR
      go_wp2_with fail
      refine hcl.mono ?_
      rintro e w2 ⟨v2, rfl, ho2, hb2⟩
      have HO2 := hid ho2
      have HB2 := hid hb2
      obtain ⟨A2, c2, e2, _⟩ := ho2.ints
      subst e2
      have hl2 : (L.getD j []).length ≤ 17592186044416 := HRL.out j
      clear hcl hb2 ho2 hcell
      generalize L.getD j [] = xs0 at *
      go_wp2_with fail
      go_loopg [7] k (fun g v wq => ∃ xs A9 c9, xs.length ≤ 17592186044416 ∧ k - xs.length ≤ g ∧ v = .slice A9 xs.length c9 ∧ OwnInts wq w9.heap.size v xs ∧ Below w9.heap.size w9 wq)
      case atStart => exact ⟨xs0, A2, c2, hl2, by omega, rfl, HO2.out, HB2.out⟩
      case round =>
        clear HO2 HB2
        obtain ⟨xs, A9, c9, hxl, hgx, rfl, hown, hbel⟩ := hrel
        have HOW := hid hown
        have HB3 := hid hbel
        clear hown hbel
        by_cases hxk : xs.length < k
        · go_wp2_with (at_builtin; refine wpList_app1 _ rfl (.tmp 24) (.tmp 25) rfl w9.heap.size _ xs 0 rfl rfl HOW.out (by omega) HB3.out.size ?_)
          intro v' w4 hown4 hgr4 hbel4
          have hlen4 : (xs ++ [0]).length = xs.length + 1 := by simp
          obtain ⟨A4, c4, e4, _⟩ := hown4.ints
          subst e4
          have HOW4 := hid hown4
          have HB4 := hid (HB3.out.trans hbel4)
          clear hown4 hgr4 hbel4
          go_wp2
          go_roundg (k - (xs.length + 1))
          case measure => omega
          case rel => exact ⟨xs ++ [0], A4, c4, by omega, by omega, rfl, HOW4.out, HB4.out⟩
        · have hxk2 : k ≤ xs.length := by omega
          have hAs := HOW.out.asInts
          have hpo := permOf_any A9 xs.length c9 k xs _ hAs.1 hAs.2.1 (by omega) (k : Int) (by omega)
          clear hAs
          go_wp2_with (go_at_call 55; refine hpo.mono ?_)
          rintro e w5 ⟨v5, rfl, ho5, hb5⟩
          have hlk : (dealt (lotsOf (xs.take k))).length = k := by rw [length_dealt, length_lotsOf, List.length_take]; omega
          have hip := isPerm_dealt (isLots_lotsOf (xs.take k))
          obtain ⟨A5, c5, e5, _⟩ := ho5.ints
          rw [hlk] at e5
          subst e5
          have hb35 := below_step HB3.out (Nat.le_refl _) hb5
          have HB5 := hid (below_step HB.out (Nat.le_refl _) hb35)
          have HO5 := hid (ho5.mono (Nat.le_trans HB.out.size HB3.out.size))
          have HRW5 := hid (HRW.out.keep hb35)
          have HK := hid (show (dealt (lotsOf (xs.take k))).length = k ∧ IsPerm (dealt (lotsOf (xs.take k))) from ⟨hlk, hip⟩)
          have hTl := HTL.out
          clear hpo hlk hip ho5 hb5 hb35
          generalize dealt (lotsOf (xs.take k)) = ys at *
          go_wp2_with (at_builtin; refine wpList_appBR _ rfl (.tmp 27) (.tmp 31) rfl w.heap.size _ T _ ys rfl rfl HRW5.out HO5.out (by omega) HB5.out.size ?_)
          intro v8 w8 hrows8 _ hbel8
          have HR8 := hid hrows8
          have HB8 := hid (HB5.out.trans hbel8)
          have HOR8 : Hid (Orders k (T ++ [ys])) := by
            intro p hp
            rcases List.mem_append.1 hp with h9 | h9
            · exact HOR.out p h9
            · rw [List.mem_singleton.1 h9]
              exact HK.out
          clear hrows8 hbel8
          go_wp2
          go_roundg (q - (j + 1))
          case measure => omega
          case rel => exact ⟨j + 1, T ++ [ys], by omega, by omega, by go_num, by simp [hTl], HOR8.out, HR8.out, HB8.out⟩
    · have hjq : j = q := by omega
      subst hjq
      clear hRR
      go_wp2
      go_ret
      exact ⟨_, T, rfl, HRW.out, by rw [HTL.out]; exact hq6, HOR.out, HB.out⟩

end Go.Proofs.Ytbcjfiobggggjaa
