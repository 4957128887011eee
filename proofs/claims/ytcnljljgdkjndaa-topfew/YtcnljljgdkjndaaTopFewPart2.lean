/-
  Texts joined: NestA, Perms, All, Arr, RankA, RankB, Clone, SortZ, Sgn, Sign, SgnSwap, Ins, SortF, SortG, SortO, RankC, PartF.
-/
import Derived.Test.YtcnljljgdkjndaaTopFewPart1
import Derived.Deep.WholeRow
import Derived.Deep.OwnRows
import Derived.Laws.IdiomCopy
import Derived.Deep.RegionLaw
import Derived.Lib.SliceRun
import Derived.Laws.AppendOwnNone
import Derived.Maps.AppendAt

/-
  nests.inNest, endings, Count, Ahead.
-/
namespace Go.Proofs.Ytcnljljgdkjndaa
open Go.RowKit

/-- The cells below N done. -/
def cellB (N j : Nat) : Value := .int .i64 ((if j < N then bal (j / 16) (j % 16) else 0 : Nat) : Int)
def zero256 : Array Value := Array.replicate 256 (.int .i64 0)
theorem zero_ends : (∀ w, (zeroValue 65).run Try.prog w = .ok (.agg zero256) w) ∧ (Try.prog.info? 65).map (·.size) = some 256 :=
  zero_of_info (by kernel_rfl)
theorem cellB_step {N j : Nat} {x : Nat} (hx : x = bal (N / 16) (N % 16)) : (if j = N then Value.int .i64 (x : Int) else cellB N j) = cellB (N + 1) j := by
  unfold cellB
  by_cases e : j = N
  · subst e
    rw [if_pos rfl, if_pos (by omega), hx]
  · rw [if_neg e]
    by_cases h : j < N
    · rw [if_pos h, if_pos (by omega)]
    · rw [if_neg h, if_neg (by omega)]
theorem cellB_skip {o j : Nat} (ho : o < 16) : cellB (16 * o) j = cellB (16 * o + o) j := by
  unfold cellB
  by_cases h : j < 16 * o
  · rw [if_pos h, if_pos (by omega)]
  · rw [if_neg h]
    by_cases h2 : j < 16 * o + o
    · rw [if_pos h2, show j / 16 = o by omega, bal_low ho (by omega) (by omega)]
    · rw [if_neg h2]

def balCells : Array Value := ((List.range 256).map (fun k => Value.int .i64 ((bal (k / 16) (k % 16) : Nat) : Int))).toArray
theorem size_balCells : balCells.size = 256 := by simp [balCells]
theorem at_balCells {j : Nat} (h : j < 256) : balCells[j]? = some (.int .i64 ((bal (j / 16) (j % 16) : Nat) : Int)) := by
  simp [balCells, h]
theorem one_balCells : balCells.all (·.oneCell') = true := by
  rw [Array.all_eq_true_iff_forall_mem]
  intro v hv
  simp only [balCells, List.mem_toArray, List.mem_map] at hv
  obtain ⟨k, _, rfl⟩ := hv
  rfl
theorem row_bal {w : World} {b : Nat} (h : w.rowIs b 65 256 (cellB 256)) : w.heap[b]? = some (.cells balCells 65 (0, 0)) := by
  obtain ⟨c, h1, h2, h3⟩ := h
  have e : c = balCells := by
    apply Array.ext_getElem?
    intro i
    rcases Nat.lt_or_ge i 256 with hi | hi
    · rw [h3 i hi, at_balCells hi]
      unfold cellB
      rw [if_pos hi]
    · rw [Array.getElem?_eq_none (by omega), Array.getElem?_eq_none (by rw [size_balCells]; omega)]
  rw [h1, e]
theorem zero_start (w : World) : (w.alloc (.cells zero256 65)).rowIs w.heap.size 65 256 (cellB 0) := by
  have := World.rowIs_alloc w zero256 65 (cellB 0) (fun i hi => by
    have hi' : i < 256 := by simpa [zero256] using hi
    simp [zero256, cellB, hi'])
  simpa [zero256] using this
theorem nheap_setRow {w : World} {g t : Nat} {old cs : Array Value} (h : w.heap[g]? = some (.cells old t (0, 0))) : (w.setRow g cs).heap[g]? = some (.cells cs t (0, 0)) := by
  simp [World.setRow, Array.getElem?_modify, h]
theorem nbelow_setRow {B g : Nat} {a w : World} (h : Below B a w) (hg : B ≤ g) (cs : Array Value) : Below B a (w.setRow g cs) := by
  refine ⟨h.os, h.tape, h.output, by simpa [World.setRow] using h.size, fun i hi => ?_⟩
  rw [← h.block i hi]
  simp only [World.setRow, Array.getElem?_modify]
  rw [if_neg (by omega)]

set_option maxHeartbeats 1600000 in
set_option maxRecDepth 100000 in
theorem endings_ok (w : World) :
    Calls Try.prog 55 #[] w fun e w' => e = .returned (.agg balCells) ∧ Below w.heap.size w w' := by
  have hz := zero_ends.1
  have HS := hid (zero_start (w.alloc (.cells zero256 65)))
  have HZS : Hid (zero256.size = 256) := rfl
  generalize zero256 = Z at *
  go_enter Try.func55, Try.ntmps55
  go_wp2_with fail
  go_loopg [2, 5] 16 (fun g _ s wr => ∃ i : Nat, i ≤ 16 ∧ 16 - i ≤ g ∧ s = .int .i64 i ∧ wr.rowIs (w.heap.size + 1) 65 256 (cellB i) ∧ wr.heap[w.heap.size]? = some (.cells Z 65 (0, 0)) ∧ Below w.heap.size w wr)
  case atStart =>
    refine ⟨0, by omega, by omega, rfl, ?_, ?_, ((Below.refl _ _).alloc (Nat.le_refl _) _).alloc (by simp) _⟩
    · have := HS.out
      rw [show (w.alloc (.cells Z 65)).heap.size = w.heap.size + 1 by simp] at this
      exact this
    · rw [Below.heap_alloc _ _ _ (by simp)]
      exact heap_alloc_last w _
  case round =>
    obtain ⟨i, hi, hg, rfl, hrow, hzer, hbel⟩ := hrel
    have HR := hid hrow
    have HZ := hid hzer
    have HB := hid hbel
    clear hrow hzer hbel HS
    by_cases hlt : i < 16
    · have f1 : wr.frozen? ⟨w.heap.size + 1, i, none⟩ = false := HR.out.frozen i
      have g1 : wr.cell? ⟨w.heap.size + 1, i, none⟩ = some (cellB i i) := HR.out.cell (by omega)
      have HN := hid ((HR.out.set i (.int .i64 ((1 : Nat) : Int))).congr (fun j _ => cellB_step (N := i) (j := j) (x := 1) (by rw [show i / 16 = 0 by omega, show i % 16 = i by omega, bal_zero hlt])))
      have hiN : (i : Int) < 16 := by omega
      go_wp2
      go_roundg (16 - (i + 1))
      case measure => omega
      case rel =>
        refine ⟨i + 1, by omega, by omega, by go_num, HN.out, ?_, HB.out.setCell (Nat.le_succ _) _⟩
        rw [Below.heap_setCell _ _ _ _ (by simp)]
        exact HZ.out
    · have hi16 : i = 16 := by omega
      subst hi16
      go_wp2_with fail
      go_loopg [3, 4] 16 (fun g s _ wr => ∃ o : Nat, 1 ≤ o ∧ o ≤ 16 ∧ 16 - o ≤ g ∧ s = .int .i64 o ∧ wr.rowIs (w.heap.size + 1) 65 256 (cellB (16 * o)) ∧ wr.heap[w.heap.size]? = some (.cells Z 65 (0, 0)) ∧ Below w.heap.size w wr)
      case atStart => exact ⟨1, by omega, by omega, by omega, rfl, HR.out, HZ.out, HB.out⟩
      case round =>
        clear HR HZ HB
        obtain ⟨o, ho1, ho, hg, rfl, hrow, hzer, hbel⟩ := hrel
        have HR := hid hrow
        have HZ := hid hzer
        have HB := hid hbel
        clear hrow hzer hbel
        by_cases hlt : o < 16
        · have hd : decide (o ≤ 15) = true := decide_eq_true (by omega)
          go_wp2_with fail
          go_loopg [4] 16 (fun g s wr => ∃ c : Nat, o ≤ c ∧ c ≤ 16 ∧ 16 - c ≤ g ∧ s = .int .i64 c ∧ wr.rowIs (w.heap.size + 1) 65 256 (cellB (16 * o + c)) ∧ wr.heap[w.heap.size]? = some (.cells Z 65 (0, 0)) ∧ Below w.heap.size w wr)
          case atStart => exact ⟨o, by omega, by omega, by omega, rfl, HR.out.congr (fun j _ => cellB_skip hlt), HZ.out, HB.out⟩
          case round =>
            clear HR HZ HB
            obtain ⟨c, hoc, hc, hgc, rfl, hrow, hzer, hbel⟩ := hrel
            have HR := hid hrow
            have HZ := hid hzer
            have HB := hid hbel
            clear hrow hzer hbel
            by_cases hltc : c < 16
            · obtain ⟨p, rfl⟩ : ∃ p, o = p + 1 := ⟨o - 1, by omega⟩
              obtain ⟨q, rfl⟩ : ∃ q, c = q + 1 := ⟨c - 1, by omega⟩
              have g1 : wr.drew.cell? ⟨w.heap.size + 1, p * 16 + (q + 1), none⟩ = some (.int .i64 ((bal p (q + 1) : Nat) : Int)) := by
                rw [show wr.drew.cell? ⟨w.heap.size + 1, p * 16 + (q + 1), none⟩ = wr.cell? ⟨w.heap.size + 1, p * 16 + (q + 1), none⟩ from rfl, HR.out.cell (by omega)]
                unfold cellB
                rw [if_pos (by omega), show (p * 16 + (q + 1)) / 16 = p by omega, show (p * 16 + (q + 1)) % 16 = q + 1 by omega]
              have g2 : wr.drew.cell? ⟨w.heap.size + 1, (p + 1) * 16 + q, none⟩ = some (.int .i64 ((bal (p + 1) q : Nat) : Int)) := by
                rw [show wr.drew.cell? ⟨w.heap.size + 1, (p + 1) * 16 + q, none⟩ = wr.cell? ⟨w.heap.size + 1, (p + 1) * 16 + q, none⟩ from rfl, HR.out.cell (by omega)]
                unfold cellB
                rw [if_pos (by omega), show ((p + 1) * 16 + q) / 16 = p + 1 by omega, show ((p + 1) * 16 + q) % 16 = q by omega]
              have f1 : wr.drew.frozen? ⟨w.heap.size + 1, (p + 1) * 16 + (q + 1), none⟩ = false := HR.out.frozen _
              have g3 : wr.drew.cell? ⟨w.heap.size + 1, (p + 1) * 16 + (q + 1), none⟩ = some (cellB (16 * (p + 1) + (q + 1)) ((p + 1) * 16 + (q + 1))) := HR.out.cell (by omega)
              have c1 := bal_le (o := p) (c := q + 1) (by omega) (by omega)
              have c2 := bal_le (o := p + 1) (c := q) (by omega) (by omega)
              have HN : Hid ((wr.setCell ⟨w.heap.size + 1, (p + 1) * 16 + (q + 1), none⟩ (.int .i64 (((bal p (q + 1) : Nat) : Int) + ((bal (p + 1) q : Nat) : Int)))).rowIs (w.heap.size + 1) 65 256 (cellB (16 * (p + 1) + (q + 2)))) :=
                (HR.out.set ((p + 1) * 16 + (q + 1)) (.int .i64 (((bal p (q + 1) : Nat) : Int) + ((bal (p + 1) q : Nat) : Int)))).congr (fun j _ => by
                  rw [show (p + 1) * 16 + (q + 1) = 16 * (p + 1) + (q + 1) by omega, show 16 * (p + 1) + (q + 2) = 16 * (p + 1) + (q + 1) + 1 by omega, ← cellB_step (N := 16 * (p + 1) + (q + 1)) (j := j) (x := bal p (q + 1) + bal (p + 1) q) (by rw [show (16 * (p + 1) + (q + 1)) / 16 = p + 1 by omega, show (16 * (p + 1) + (q + 1)) % 16 = q + 1 by omega, bal_step (by omega) (by omega)]), Int.natCast_add])
              have hpN : (p : Int) + 1 < 16 := by omega
              have hqN : (q : Int) + 1 < 16 := by omega
              generalize bal p (q + 1) = x1 at *
              generalize bal (p + 1) q = x2 at *
              go_wp2_with fail
              go_region
              go_wp2
              go_roundg (16 - (q + 2))
              case measure => omega
              case rel =>
                refine ⟨q + 2, by omega, by omega, by omega, by go_num, HN.out, ?_, HB.out.drew.setCell (Nat.le_succ _) _⟩
                refine (Below.heap_setCell wr ⟨w.heap.size + 1, _, none⟩ _ w.heap.size (by simp)).trans ?_
                exact HZ.out
            · have hc16 : c = 16 := by omega
              subst hc16
              go_wp2
              go_roundg (16 - (o + 1))
              case measure => omega
              case rel => exact ⟨o + 1, by omega, by omega, by omega, by go_num, HR.out, HZ.out, HB.out⟩
        · have ho16 : o = 16 := by omega
          subst ho16
          have HG := hid (row_bal HR.out)
          have hi : (Try.prog.info? 65).map (·.size) = some balCells.size := by rw [size_balCells]; exact zero_ends.2
          have hzs : balCells.size = Z.size := by rw [size_balCells, HZS.out]
          have HO := hid one_balCells
          generalize hX : balCells = X at *
          have HX := hid hX
          clear hX
          go_wp2_with (first
            | refine wpList_load_row rfl 65 _ rfl (w.heap.size + 1) rfl 65 X (0, 0) _ HG.out Try.underlying65 rfl hi ?_
            | refine wpList_store_row rfl 65 _ _ rfl w.heap.size X rfl rfl 65 Z HZ.out hi hzs.symm HO.out ?_)
          (try simp only [Exit.inBlock, Exit.then])
          refine bodyPost_ret (results_cell_row rfl _ _ w.heap.size 65 X (0, 0) _ rfl (nheap_setRow HZ.out) Try.underlying65 rfl hi) rfl ⟨by rw [HX.out], nbelow_setRow HB.out (Nat.le_refl _) _⟩

theorem inNest_yes (n : Int) (w : World) (h0 : 0 ≤ n) (h1 : n ≤ 15) :
    Calls Try.prog 54 #[.int .i64 n] w fun e w' => e = .returned (.bool true) ∧ w = w' := by
  go_enter Try.func54, Try.ntmps54
  go_wp2
  go_ret
  exact ⟨rfl, rfl⟩
theorem nret_bool {a b : Bool} (h : a = b) : Ending.returned (.bool a) = .returned (.bool b) := by rw [h]
theorem inNest_no (n : Int) (w : World) (h : n < 0 ∨ 15 < n) :
    Calls Try.prog 54 #[.int .i64 n] w fun e w' => e = .returned (.bool false) ∧ w = w' := by
  rcases h with h | h
  · go_enter Try.func54, Try.ntmps54
    go_wp2
    go_ret
    exact ⟨rfl, rfl⟩
  · have HD : Hid (decide (n ≤ 15) = false) := decide_eq_false (by omega)
    go_enter Try.func54, Try.ntmps54
    go_wp2
    go_ret
    exact ⟨nret_bool HD.out, rfl⟩

/-- The table in its box, in the world that lays it. -/
def Box (w : World) (g : Nat) : Prop := w.heap[g]? = some (.cells balCells 65 (0, 0))
theorem Box.cell {w : World} {g : Nat} (h : Box w g) {o c : Nat} (ho : o < 16) (hc : c < 16) : w.cell? ⟨g, o * 16 + c, none⟩ = some (.int .i64 ((bal o c : Nat) : Int)) := by
  unfold Box at h
  have hj : o * 16 + c < 256 := by omega
  rw [cell_of_row w g _ _ _ _ h, at_balCells hj, show (o * 16 + c) / 16 = o by omega, show (o * 16 + c) % 16 = c by omega]
theorem box_new (w : World) : Box ((w.alloc (.cells zero256 65)).setRow w.heap.size balCells) w.heap.size := by
  unfold Box
  rw [World.setRow_alloc_new]
  exact heap_alloc_last w _
theorem below_box (w : World) : Below w.heap.size w ((w.alloc (.cells zero256 65)).setRow w.heap.size balCells) := by
  rw [World.setRow_alloc_new]
  exact (Below.refl _ _).alloc (Nat.le_refl _) _
/-- 'ends := endings()': the array is laid into its box. -/
theorem wpList_box {ops : Array Oper} {rest : List Oper} {o : Oper} {a : Act} {W : World} {Q : Exit → Act → World → Prop} (hgd : o.guard = none) (x y : Operand) (ho : o.op = .store 65 x y) (hd : o.dst = none)
    (hx : a.eval x = .pointer (some ⟨W.heap.size, 0, none⟩)) (hy : a.eval y = .agg balCells)
    (h : ∀ w', Box w' W.heap.size → Below W.heap.size W w' → wpList Try.prog ops Q rest (a.put none undef) w') : wpList Try.prog ops Q (o :: rest) a (W.alloc (.cells zero256 65)) := by
  refine wpList_store_row hgd 65 x y ho W.heap.size balCells hx hy 65 zero256 (heap_alloc_last W _) (by rw [size_balCells]; exact zero_ends.2) (by rw [size_balCells]; simp [zero256]) one_balCells ?_
  rw [hd]
  exact h _ (box_new W) (below_box W)

set_option maxHeartbeats 800000 in
theorem ncount_ok (n : Nat) (w : World) (hn : n ≤ 15) :
    Calls Try.prog 32 #[.int .i64 (n : Int)] w fun e w' => e = .returned (.tuple #[.int .i64 ((bal n n : Nat) : Int), .int .i64 0]) ∧ Below w.heap.size w w' := by
  have hz := zero_ends.1
  go_enter Try.func32, Try.ntmps32
  go_wp2_with fail
  refine (inNest_yes _ _ (by omega) (by omega)).mono ?_
  rintro e w' ⟨rfl, rfl⟩
  go_wp2_with fail
  refine (endings_ok _).mono ?_
  rintro e w1 ⟨rfl, hb⟩
  have HB := hid hb
  clear hb
  go_wp2_with (refine wpList_box rfl _ _ rfl rfl rfl rfl ?_)
  intro w2 hbox hb2
  have g1 := hbox.cell (o := n) (c := n) (by omega) (by omega)
  have HB2 := hid (below_step HB.out (Nat.le_refl _) hb2)
  clear hb2 HB hbox
  have hnN : (n : Int) < 16 := by omega
  generalize hx : bal n n = x at *
  have HX := hid hx
  clear hx
  go_wp2
  go_ret2
  exact ⟨by rw [HX.out]; rfl, HB2.out⟩
theorem ncount_bad (n : Int) (w : World) (h : n < 0 ∨ 15 < n) :
    Calls Try.prog 32 #[.int .i64 n] w fun e w' => e = .returned (.tuple #[.int .i64 0, .int .i64 1]) ∧ w = w' := by
  go_enter Try.func32, Try.ntmps32
  go_wp2_with fail
  refine (inNest_no _ _ h).mono ?_
  rintro e w' ⟨rfl, rfl⟩
  go_wp2
  go_ret2
  exact ⟨rfl, rfl⟩
theorem ncount_of (N : Int) (n : Nat) (hN : N = n) (w : World) (hn : n ≤ 15) :
    Calls Try.prog 32 #[.int .i64 N] w fun e w' => e = .returned (.tuple #[.int .i64 ((bal n n : Nat) : Int), .int .i64 0]) ∧ Below w.heap.size w w' := by
  subst hN
  exact ncount_ok n w hn

def aheadN (a b : Nat) : Nat := if a = 0 then 0 else bal b (a - 1)
end Go.Proofs.Ytcnljljgdkjndaa

/-
  castkeep.perms: the closed look at three numbers, turned.
-/
namespace Go.Proofs.Ytcnljljgdkjndaa
open Go.RowKit

end Go.Proofs.Ytcnljljgdkjndaa

/-
  Several slices known at once; what a law over permutations takes and gives.
-/
namespace Go.Proofs.Ytcnljljgdkjndaa
open Go.RowKit

theorem permErr_of {p : List Int} (h : IsPerm p) (hl : p.length ≤ 10) : permErr p = 0 := permErr_ok.2 ⟨hl, h⟩

/-- A permutation of m numbers comes back, in new memory. -/
def RetPerm (w : World) (m : Nat) (e : Ending) (w' : World) : Prop := ∃ A c p, e = .returned (.slice A m c) ∧ IsPerm p ∧ Ints w' A m p ∧ Cap m c ∧ Below w.heap.size w w'

/-- A list of n numbers comes back with OK. -/
def RetP (w : World) (n : Nat) (ys : List Int) (e : Ending) (w' : World) : Prop := ∃ A c, e = .returned (.tuple #[.slice A n c, .int .i64 0]) ∧ Ints w' A n ys ∧ Cap n c ∧ Below w.heap.size w w'

def RetPInv (w : World) (n : Nat) (p : List Int) (e : Ending) (w' : World) : Prop := ∃ q, IsInv p q ∧ RetP w n q e w'

/-! The same contracts, the world told by 'Below' alone. -/
end Go.Proofs.Ytcnljljgdkjndaa

/-
  A block of ints known whole; a slice from a place on; only one block has turned. Nothing of the program is proved here.
-/
namespace Go.Proofs.Ytcnljljgdkjndaa
open Go.RowKit

/-- Block g is a row of ints, and holds xs. -/
def Arr (w : World) (g : Nat) (xs : List Int) : Prop := w.rowIs g 3 xs.length (fun j => .int .i64 (xs.getD j 0))

namespace Arr
variable {w : World} {g : Nat} {xs : List Int}
theorem cell (h : Arr w g xs) {j : Nat} (hj : j < xs.length) : w.cell? ⟨g, j, none⟩ = some (.int .i64 (xs.getD j 0)) := World.rowIs.cell h hj
theorem frozen (h : Arr w g xs) (j : Nat) : w.frozen? ⟨g, j, none⟩ = false := World.rowIs.frozen h j
theorem lt (h : Arr w g xs) : g < w.heap.size := World.rowIs.lt h
theorem set (h : Arr w g xs) (i : Nat) (x : Int) : Arr (w.setCell ⟨g, i, none⟩ (.int .i64 x)) g (xs.set i x) := by
  unfold Arr
  rw [List.length_set]
  refine (World.rowIs.set h i (.int .i64 x)).congr fun j hj => ?_
  rw [getD_set]
  by_cases e : j = i
  · subst e
    rw [if_pos rfl, if_pos ⟨rfl, hj⟩]
  · rw [if_neg e, if_neg (fun h => e h.1)]
theorem setOther (h : Arr w g xs) {a : Addr} (ha : g ≠ a.block) (v : Value) : Arr (w.setCell a v) g xs := World.rowIs.setOther h ha v
theorem of_block {w' : World} (h : Arr w g xs) (e : w'.heap[g]? = w.heap[g]?) : Arr w' g xs := World.rowIs.of_block h e
theorem keep {w' : World} (h : Arr w g xs) (hb : Below w.heap.size w w') : Arr w' g xs := h.of_block (hb.block g h.lt)
theorem kept {w' : World} (h : Arr w g xs) {r : Nat} (hb : w.grownBy w' (some r)) (hne : g ≠ r) : Arr w' g xs := h.of_block (hb.block g h.lt (fun e => hne (by injection e)))
theorem alloc (h : Arr w g xs) (o : Obj) : Arr (w.alloc o) g xs := World.rowIs.alloc h o
theorem drewN (h : Arr w g xs) (k : Nat) : Arr (w.drewN k) g xs := h
theorem drew (h : Arr w g xs) : Arr w.drew g xs := h
theorem made (w : World) (n : Nat) : Arr (w.alloc (.cells (madeCells #[.int .i64 0] n) 3)) w.heap.size (List.replicate n 0) := by
  unfold Arr
  rw [List.length_replicate]
  refine (World.rowIs_made w _ n _).congr fun j hj => ?_
  simp [List.getD_eq_getElem?_getD, hj]
/-- As a slice that is read, from o on. -/
theorem ints (h : Arr w g xs) (o m : Nat) (hm : o + m ≤ xs.length) : Ints w (some ⟨g, o, none⟩) m ((xs.drop o).take m) := by
  refine ⟨by rw [List.length_take, List.length_drop]; omega, fun _ => ⟨g, o, rfl, h.lt, fun j hj => ?_⟩⟩
  rw [h.cell (by omega)]
  simp [List.getD_eq_getElem?_getD, hj]
theorem ints0 (h : Arr w g xs) (m : Nat) (hm : m ≤ xs.length) : Ints w (some ⟨g, 0, none⟩) m (xs.take m) := by
  have := h.ints 0 m (by omega)
  rwa [List.drop_zero] at this
theorem setCells : ∀ {ys : List Int} {w : World} {xs : List Int} {o : Nat}, Arr w g xs → o + ys.length ≤ xs.length →
    Arr (w.setCells g o (ys.map (Value.int .i64))) g (xs.take o ++ ys ++ xs.drop (o + ys.length))
  | [], w, xs, o, h, _ => by simpa [World.setCells] using h
  | y :: ys, w, xs, o, h, hl => by
    rw [List.length_cons] at hl
    have ih := setCells (ys := ys) (o := o + 1) (h.set o y) (by rw [List.length_set]; omega)
    rw [List.map_cons, World.setCells]
    have e : (xs.set o y).take (o + 1) ++ ys ++ (xs.set o y).drop (o + 1 + ys.length) = xs.take o ++ (y :: ys) ++ xs.drop (o + (y :: ys).length) := by
      rw [take_snoc (by rw [List.length_set]; omega), getD_set, if_pos ⟨rfl, by omega⟩, List.take_set_of_le (by omega), List.drop_set_of_lt (by omega), List.length_cons]
      simp [Nat.add_assoc, Nat.add_comm 1]
    rw [← e]
    exact ih
end Arr

/-! ### Only one block has turned -/
theorem one_refl (a : World) (row : Option Nat) : a.grownBy a row := ⟨rfl, rfl, rfl, Nat.le_refl _, fun _ _ _ => rfl⟩
theorem one_drewN {a w : World} {row : Option Nat} (h : a.grownBy w row) (n : Nat) : a.grownBy (w.drewN n) row := ⟨h.os, h.tape, h.output, h.size, h.block⟩
theorem one_drew {a w : World} {row : Option Nat} (h : a.grownBy w row) : a.grownBy w.drew row := ⟨h.os, h.tape, h.output, h.size, h.block⟩
theorem one_set {a w : World} {g : Nat} (h : a.grownBy w (some g)) (j : Nat) (u : Value) : a.grownBy (w.setCell ⟨g, j, none⟩ u) (some g) :=
  ⟨h.os, h.tape, h.output, by simpa [World.setCell] using h.size, fun i hi hne => (Below.heap_setCell w ⟨g, j, none⟩ u i (by rintro rfl; exact hne rfl)).trans (h.block i hi hne)⟩
theorem one_sets {a : World} {g : Nat} : ∀ {vs : List Value} {w : World} {o : Nat}, a.grownBy w (some g) → a.grownBy (w.setCells g o vs) (some g)
  | [], _, _, h => h
  | v :: vs, _, _, h => one_sets (vs := vs) (one_set h _ v)
/-- A block of the call's own has turned: nothing below. -/
theorem below_one {B g : Nat} {a b c : World} (h : Below B a b) (hg : B ≤ g) (hB : B ≤ b.heap.size) (k : b.grownBy c (some g)) : Below B a c :=
  h.trans ⟨k.os, k.tape, k.output, k.size, fun i hi => k.block i (Nat.lt_of_lt_of_le hi hB) (fun e => by injection e with e; omega)⟩

/-! ### 'xs[l:]' -/
def subA (A : Option Addr) (c l : Nat) : Option Addr := if c = l then A else A.map (·.add l)
theorem Ints.drop {w : World} {A : Option Addr} {n c l : Nat} {xs : List Int} (h : Ints w A n xs) (hl : l ≤ n) (hc : n ≤ c) : Ints w (subA A c l) (n - l) (xs.drop l) := by
  refine ⟨by rw [List.length_drop, h.len], fun hp => ?_⟩
  obtain ⟨b, o, rfl, hb, hcell⟩ := h.row (by omega)
  refine ⟨b, o + l, ?_, hb, fun j hj => ?_⟩
  · unfold subA
    rw [if_neg (by omega)]
    simp only [Option.map_some, Addr.add]
    by_cases h0 : l = 0
    · subst h0
      rfl
    · rw [if_neg h0]
  · rw [show o + l + j = o + (l + j) by omega, hcell (l + j) (by omega)]
    simp [List.getD_eq_getElem?_getD]
set_option maxRecDepth 100000 in
theorem sizeInt : ∀ w, (Go.sizeOf 3).run Try.prog w = .ok 1 w := by
  exact fun _ => by kernel_rfl
theorem run_from (A : Option Addr) (n c l : Nat) (L : Int) (hL : L = (l : Int)) (hl : l ≤ n) (W : World) :
    (Instr.slice 44 (.slice A n c) (some (.int .i64 L)) none none).run Try.prog W = .ok (.slice (subA A c l) (n - l) (c - l)) W := by
  subst hL
  have ht' : Try.prog.underlying 44 = some (.slice (Try.prog.elem 44)) := by simp [Program.elem, Try.underlying44]
  have he : Try.prog.elem 44 = 3 := by simp [Program.elem, Try.underlying44]
  rw [run_slice_l W _ _ _ _ ht' .i64 _ (by omega) (by omega), he, sizeInt]
  simp [Result.andThen, sliced, subA]

end Go.Proofs.Ytcnljljgdkjndaa

/-
  package rank: Count, Code, Of.
-/
namespace Go.Proofs.Ytcnljljgdkjndaa
open Go.RowKit

/-! ### Count -/

theorem fact_mul (k : Nat) : ((fact (k + 1) : Nat) : Int) * ((k : Int) + 2) = ((fact (k + 2) : Nat) : Int) := by
  rw [show fact (k + 2) = (k + 2) * fact (k + 1) from rfl, Int.natCast_mul, Int.mul_comm]
  rfl

set_option maxHeartbeats 400000 in
theorem count_ok (n : Nat) (w : World) (hn : n ≤ 10) :
    Calls Try.prog 24 #[.int .i64 (n : Int)] w fun e w' => e = .returned (.tuple #[.int .i64 ((fact n : Nat) : Int), .int .i64 0]) ∧ w = w' := by
  go_enter Try.func24, Try.ntmps24
  go_wp2
  go_loopg [4, 5] n (fun g u s wr => ∃ k : Nat, (k + 1 ≤ n ∨ k = 0) ∧ n - k ≤ g ∧ u = .int .i64 ((fact (k + 1) : Nat) : Int) ∧ s = .int .i64 ((k : Int) + 2) ∧ w = wr)
  case atStart => exact ⟨0, Or.inr rfl, by omega, rfl, rfl, rfl⟩
  case round =>
    obtain ⟨k, hk, hg, rfl, rfl, rfl⟩ := hrel
    by_cases hlt : k + 2 ≤ n
    · have HM := hid (fact_mul k)
      have h1 : ((fact (k + 1) : Nat) : Int) * ((k : Int) + 2) ≤ 3628800 := by have := fact_ten (n := k + 2) (by omega); rw [HM.out]; omega
      have h0 : 0 ≤ ((fact (k + 1) : Nat) : Int) * ((k : Int) + 2) := by rw [HM.out]; omega
      generalize fact (k + 1) = F at HM h1 h0 ⊢
      go_wp2
      go_roundg (n - (k + 1))
      case measure => omega
      case rel => exact ⟨k + 1, by omega, by omega, by rw [HM.out], by go_num, rfl⟩
    · have HE : Hid (fact (k + 1) = fact n) := by
        rcases hk with h | h
        · rw [show n = k + 1 by omega]; exact rfl
        · subst h
          have : n = 0 ∨ n = 1 := by omega
          rcases this with rfl | rfl <;> rfl
      have h2 : ¬ (k : Int) + 2 ≤ (n : Int) := by omega
      rw [HE.out]
      go_wp2
      go_ret2
      exact ⟨rfl, rfl⟩

theorem count_bad (n : Int) (w : World) (hn : n < 0 ∨ 10 < n) :
    Calls Try.prog 24 #[.int .i64 n] w fun e w' => e = .returned (.tuple #[.int .i64 0, .int .i64 1]) ∧ w = w' := by
  rcases hn with h | h
  all_goals
    go_enter Try.func24, Try.ntmps24
    go_wp2
    go_ret2
    exact ⟨rfl, rfl⟩

/-! ### Code -/

/-- The cells of the code when k numbers are done, and m behind the next one are looked at. -/
def cellK (p : List Int) (k m j : Nat) : Value := .int .i64 (if j < k then (codeL p).getD j 0 else if j = k then (less (p.getD k 0) ((p.drop (k + 1)).take m) : Int) else 0)
theorem cellK_start (p : List Int) (j : Nat) : Value.int .i64 0 = cellK p 0 0 j := by
  unfold cellK
  rw [if_neg (by omega)]
  split <;> rfl
theorem take_drop_snoc' {p : List Int} {a m : Nat} (h : a + m < p.length) : (p.drop a).take (m + 1) = (p.drop a).take m ++ [p.getD (a + m) 0] := by
  rw [take_snoc (by rw [List.length_drop]; omega)]
  congr 1
  simp [List.getD_eq_getElem?_getD]
theorem less_step {p : List Int} {k m : Nat} (h : k + 1 + m < p.length) : less (p.getD k 0) ((p.drop (k + 1)).take (m + 1)) = less (p.getD k 0) ((p.drop (k + 1)).take m) + if p.getD (k + 1 + m) 0 < p.getD k 0 then 1 else 0 := by
  rw [take_drop_snoc' h, less_append, less_cons]
  simp [less]
theorem cellK_yes {p : List Int} {k m : Nat} (h : k + 1 + m < p.length) (hlt : p.getD (k + 1 + m) 0 < p.getD k 0) (j : Nat) :
    (if j = k then Value.int .i64 ((less (p.getD k 0) ((p.drop (k + 1)).take m) : Int) + 1) else cellK p k m j) = cellK p k (m + 1) j := by
  unfold cellK
  by_cases e : j = k
  · subst e
    rw [if_pos rfl, if_neg (by omega), if_pos rfl, less_step h, if_pos hlt]
    rfl
  · rw [if_neg e, if_neg e, if_neg e]
theorem cellK_no {p : List Int} {k m : Nat} (h : k + 1 + m < p.length) (hlt : ¬ p.getD (k + 1 + m) 0 < p.getD k 0) (j : Nat) : cellK p k m j = cellK p k (m + 1) j := by
  unfold cellK
  rw [less_step h, if_neg hlt]
  rfl
theorem cellK_end {p : List Int} {k m : Nat} (hk : k < p.length) (h : k + 1 + m = p.length) (j : Nat) : cellK p k m j = cellK p (k + 1) 0 j := by
  unfold cellK
  rw [List.take_of_length_le (by rw [List.length_drop]; omega), List.take_zero, ← getD_codeL p k hk]
  by_cases h1 : j < k
  · rw [if_pos h1, if_pos (by omega)]
  · rw [if_neg h1]
    by_cases h2 : j = k
    · subst h2
      rw [if_pos rfl, if_pos (by omega)]
    · rw [if_neg h2, if_neg (by omega)]
      split <;> rfl

/-! ### Of -/

end Go.Proofs.Ytcnljljgdkjndaa

/-
  package rank: digits, decode, At; slices.Delete of one number.
-/
namespace Go.Proofs.Ytcnljljgdkjndaa
open Go.RowKit

/-! ### digits -/

/-- The cells when j digits are laid, from the end on. -/
def cellD (n k j i : Nat) : Value := .int .i64 (if n - j ≤ i then (digL n k).getD i 0 else 0)
theorem cellD_step {n k j m : Nat} (hm : m + j + 1 = n) (x : Int) (hx : x = ((k / fact j % (j + 1) : Nat) : Int)) (i : Nat) (_hi : i < n) :
    (if i = m then Value.int .i64 x else cellD n k j i) = cellD n k (j + 1) i := by
  unfold cellD
  by_cases e : i = m
  · subst e
    rw [if_pos rfl, if_pos (by omega), getD_digL n k i (by omega), hx, show n - 1 - i = j by omega, show n - i = j + 1 by omega]
  · rw [if_neg e]
    by_cases h : n - j ≤ i
    · rw [if_pos h, if_pos (by omega)]
    · rw [if_neg h, if_neg (by omega)]

set_option maxHeartbeats 800000 in
theorem digits_any (n k : Nat) (w : World) (hn : n ≤ 10) (hk : k ≤ 1000000000) :
    Calls Try.prog 57 #[.int .i64 (n : Int), .int .i64 (k : Int)] w fun e w' => e = .returned (.slice (some ⟨w.heap.size, 0, none⟩) n n) ∧ Ints w' (some ⟨w.heap.size, 0, none⟩) n (digL n k) ∧ Below w.heap.size w w' := by
  have hmk := fun W => run_make_row' (P := Try.prog) 44 3 (.int .i64 0) 8 Try.underlying44 infoInt rfl .i64 .i64 n (by omega) (by omega) W
  go_enter Try.func57, Try.ntmps57
  go_wp2_with fail
  go_loopg [1, 6] n (fun g u s wr => ∃ j : Nat, j ≤ n ∧ n - j ≤ g ∧ u = .int .i64 ((k / fact j : Nat) : Int) ∧ s = .int .i64 ((n : Int) - 1 - j) ∧ wr.rowIs w.heap.size 3 n (cellD n k j) ∧ Below w.heap.size w wr)
  case atStart => exact ⟨0, Nat.zero_le _, by omega, by simp [fact], by go_num, (World.rowIs_made w _ n _).congr (fun i hi => by unfold cellD; rw [if_neg (by omega)]), (Below.refl _ _).alloc (Nat.le_refl _) _⟩
  case round =>
    obtain ⟨j, hj, hg, rfl, rfl, hrow, hbel⟩ := hrel
    have HR := hid hrow
    have HB := hid hbel
    clear hrow hbel hmk
    by_cases hlt : j < n
    · obtain ⟨m, hm⟩ : ∃ m, m + j + 1 = n := ⟨n - 1 - j, by omega⟩
      have hi : (n : Int) - 1 - j = m := by omega
      have HI := hid hi
      have HM := hid hm
      have hmn : m < n := by omega
      have hq : k / fact j ≤ k := Nat.div_le_self _ _
      have f1 : wr.frozen? ⟨w.heap.size, m, none⟩ = false := HR.out.frozen m
      have g1 := HR.out.cell (i := m) (by omega)
      have HC : Hid (∀ x : Int, x = ((k / fact j % (j + 1) : Nat) : Int) → (wr.setCell ⟨w.heap.size, m, none⟩ (.int .i64 x)).rowIs w.heap.size 3 n (cellD n k (j + 1))) :=
        fun x hx => (HR.out.set m (.int .i64 x)).congr (cellD_step hm x hx)
      have HF := hid (fact_step k j)
      rw [HI.out]
      clear hi hm
      generalize cellD n k j m = v1 at g1
      generalize k / fact j = q at hq HC HF ⊢
      have HN : Hid ((n : Int) - (m : Int) = ((j + 1 : Nat) : Int)) := by have := HM.out; show (n : Int) - m = _; omega
      have e1 : (q : Int) % ((n : Int) - (m : Int)) = ((q % (j + 1) : Nat) : Int) := by rw [HN.out]; exact (Int.natCast_emod q (j + 1)).symm
      have e2 : (q : Int) / ((n : Int) - (m : Int)) = ((q / (j + 1) : Nat) : Int) := by rw [HN.out]; exact (Int.natCast_ediv q (j + 1)).symm
      have E1 := hid e1
      have E2 := hid e2
      clear e1 e2
      go_wp2
      have hm := HM.out
      go_roundg (n - (j + 1))
      case measure => omega
      case rel => exact ⟨j + 1, by omega, by omega, by have := Nat.div_le_self k (fact (j + 1)); rw [E2.out, HF.out]; generalize k / fact (j + 1) = z at *; rw [IntWalk.wrap64_in _ (by omega)], by go_num, HC.out _ E1.out, HB.out.setCell (Nat.le_refl _) _⟩
    · have hjn : j = n := by omega
      subst hjn
      have hneg : ¬ (0 : Int) ≤ (j : Int) - 1 - j := by omega
      go_wp2
      go_ret
      exact ⟨rfl, ints_of_row HR.out (length_digL j k) (fun i _ => by unfold cellD; rw [if_pos (by omega)]), HB.out⟩

/-! ### Delete -/

theorem drop_app_one {a b : List Int} {k : Nat} (h : a.length = k) : (a ++ b).drop (k + [(0 : Int)].length) = b.drop 1 := by
  subst h
  simp

set_option maxRecDepth 100000 in
set_option maxHeartbeats 1600000 in
/-- 'slices.Delete(s, i, i+1)' in a block that is known whole. -/
theorem delete_one (g m cap i : Nat) (L : Int) (xs : List Int) (w : World) (h : Arr w g xs) (hcap : xs.length = cap) (hm : m ≤ cap) (hi : i < m) (_hc2 : cap ≤ 1000000) (hL : L = (i : Int) + 1) :
    Calls Try.prog 71 #[.slice (some ⟨g, 0, none⟩) m cap, .int .i64 (i : Int), .int .i64 L] w fun e w' =>
      e = .returned (.slice (some ⟨g, 0, none⟩) (m - 1) cap) ∧ Arr w' g (xs.take i ++ (xs.take m).drop (i + 1) ++ 0 :: xs.drop m) ∧ w.grownBy w' (some g) := by
  subst hL
  obtain ⟨i0, hi0, hz0, hz1, hz2⟩ := info_parts infoInt
  obtain ⟨news, hnews⟩ : ∃ news, news = ((xs.take m).drop (i + 1)).map (Value.int .i64) := ⟨_, rfl⟩
  have hlen : news.length = m - (i + 1) := by rw [hnews]; simp; omega
  have HX := hid hcap
  obtain ⟨A, hA, hsrc⟩ : ∃ A : Addr, subA (some ⟨g, 0, none⟩) cap (i + 1) = some A ∧ Hid (∀ t u, news[t]? = some u → w.drew.cell? (A.add t) = some u) := by
    by_cases hc : cap = i + 1
    · refine ⟨⟨g, 0, none⟩, by unfold subA; rw [if_pos hc], fun t u hu => ?_⟩
      have h0 : news.length = 0 := by rw [hlen]; omega
      rw [List.length_eq_zero_iff.1 h0] at hu
      simp at hu
    · refine ⟨⟨g, i + 1, none⟩, by unfold subA; rw [if_neg hc]; simp [Addr.add], fun t u hu => ?_⟩
      have ht : t < m - (i + 1) := by
        have := (List.getElem?_eq_some_iff.1 hu).1
        rwa [hlen] at this
      rw [Addr.add_lit]
      have hcell := h.cell (j := i + 1 + t) (by omega)
      show w.cell? _ = _
      rw [hcell, ← hu, hnews, List.getElem?_map, List.getElem?_drop, List.getElem?_take, if_pos (by omega), List.getElem?_eq_getElem (by omega), List.getD_eq_getElem?_getD, List.getElem?_eq_getElem (by omega)]
      rfl
  have hsl := fun W => run_from (some ⟨g, 0, none⟩) m cap (i + 1) ((i : Int) + 1) (by omega) (by omega) W
  simp only [hA] at hsl
  have s1 : Hid (news.length = (m - (i + 1)) * 1) := by rw [Nat.mul_one]; exact hlen
  have s2 : Hid (∀ u ∈ news, u.oneCell' = true) := by
    intro u hu
    rw [hnews] at hu
    obtain ⟨x, _, rfl⟩ := List.mem_map.1 hu
    rfl
  have s3 : Hid (∀ t, t < news.length → (w.drew.cell? ⟨g, 0 + i * 1 + t, none⟩).isSome = true ∧ w.drew.frozen? ⟨g, 0 + i * 1 + t, none⟩ = false) := by
    intro t ht
    rw [hlen] at ht
    refine ⟨?_, h.frozen _⟩
    show (w.cell? _).isSome = true
    rw [h.cell (by omega)]
    rfl
  obtain ⟨W1, hW1⟩ : ∃ W1, W1 = w.drew.setCells g (0 + i * 1) news := ⟨_, rfl⟩
  have hnl : ((xs.take m).drop (i + 1)).length = m - (i + 1) := by simp; omega
  have a1 : Arr W1 g (xs.take i ++ (xs.take m).drop (i + 1) ++ xs.drop (i + (m - (i + 1)))) := by
    have := h.drew.setCells (o := i) (ys := (xs.take m).drop (i + 1)) (by rw [hnl]; omega)
    rw [hnl] at this
    rw [hW1, hnews, show 0 + i * 1 = i by omega]
    exact this
  have o1 : w.grownBy W1 (some g) := by rw [hW1]; exact one_sets (one_drew (one_refl w _))
  have A1 := hid a1
  have O1 := hid o1
  have hyl : (xs.take i ++ (xs.take m).drop (i + 1) ++ xs.drop (i + (m - (i + 1)))).length = cap := by
    simp only [List.length_append, hnl, List.length_take, List.length_drop]; omega
  have HYL := hid hyl
  have hcl : ∀ ty, (Builtin.clear_ #[44] ty #[.slice (some ⟨g, i + (m - (i + 1)), none⟩) (m - (i + (m - (i + 1)))) (cap - (i + (m - (i + 1))))]).run Try.prog W1 = .ok (.tuple #[]) (W1.setCells g (i + (m - (i + 1))) (List.replicate (m - (i + (m - (i + 1)))) (.int .i64 0))) :=
    fun ty => Lib.run_clear_slice W1 44 3 ty (.int .i64 0) Try.underlying44 (fun _ => by kernel_rfl) rfl rfl g (i + (m - (i + 1))) _ _ (by omega) (fun t ht => by rw [a1.cell (by rw [hyl]; omega)]; rfl) (fun t ht => a1.frozen _)
  have hW := hid hW1
  have HN := hid hnews
  clear hW1 a1 o1 hyl hnews hnl hlen hcap h hA
  have hic : i ≤ cap := by omega
  go_enter Try.func71, Try.ntmps71
  go_wp2_with fail
  go_region_law (refine step_append_room rfl (.tmp 22) (.tmp 25) 44 rfl 3 i0 1 Try.underlying44 hi0 hz1 g 0 i cap (by simp [Act.eval, Act.put]) A (m - (i + 1)) (cap - (i + 1)) news (by simp [Act.eval, Act.put]) s1.out hsrc.out s2.out (by omega) s3.out ?_; rw [← hW.out])
  go_wp2
  go_ret
  have hl2 : (xs.take i ++ (xs.take m).drop (i + 1)).length = i + (m - (i + 1)) := by
    have := HX.out
    simp only [List.length_append, List.length_take, List.length_drop]; omega
  refine ⟨by rw [show m - 1 = i + (m - (i + 1)) by omega]; rfl, ?_, one_sets O1.out⟩
  have a2 := A1.out.setCells (o := i + (m - (i + 1))) (ys := [0]) (by rw [HYL.out]; simp; omega)
  rw [show m - (i + (m - (i + 1))) = 1 by omega]
  rw [List.take_left' hl2, drop_app_one hl2, List.drop_drop, show i + (m - (i + 1)) + 1 = m by omega, List.append_assoc] at a2
  exact a2

/-! ### decode -/

/-- The first k cells hold their own number. -/
def ownUpto (n k : Nat) : List Int := iota k ++ List.replicate (n - k) 0
theorem length_ownUpto {n k : Nat} (h : k ≤ n) : (ownUpto n k).length = n := by simp [ownUpto, length_iota]; omega
theorem iota_succ (k : Nat) : iota (k + 1) = iota k ++ [(k : Int)] := by simp [iota, List.range_succ]
theorem ownUpto_step {n k : Nat} (h : k < n) : (ownUpto n k).set k (k : Int) = ownUpto n (k + 1) := by
  unfold ownUpto
  obtain ⟨m, rfl⟩ : ∃ m, n = k + 1 + m := ⟨n - (k + 1), by omega⟩
  rw [show k + 1 + m - k = m + 1 by omega, show k + 1 + m - (k + 1) = m by omega, List.replicate_succ, List.set_append_right _ _ (by rw [length_iota]; exact Nat.le_refl _), length_iota, Nat.sub_self, List.set_cons_zero, iota_succ, List.append_assoc]
  rfl
theorem ownUpto_end (n : Nat) : ownUpto n n = iota n := by simp [ownUpto]

theorem pick_step {left ds : List Int} {k : Nat} (hk : k < ds.length) : pick left (ds.drop k) = left.getD (ds.getD k 0).toNat 0 :: pick (left.eraseIdx (ds.getD k 0).toNat) (ds.drop (k + 1)) := by
  have e : ds.getD k 0 = ds[k] := by rw [List.getD_eq_getElem?_getD, List.getElem?_eq_getElem hk]; rfl
  rw [List.drop_eq_getElem_cons hk, e]
  rfl
theorem erase_take (xs : List Int) {m i : Nat} (hi : i < m) (hm : m ≤ xs.length) : (xs.take i ++ (xs.take m).drop (i + 1) ++ 0 :: xs.drop m).take (m - 1) = (xs.take m).eraseIdx i := by
  rw [List.take_left' (by simp only [List.length_append, List.length_take, List.length_drop]; omega), List.eraseIdx_eq_take_drop_succ, List.take_take, Nat.min_eq_left (by omega)]

theorem dec_step {L P ds Z : List Int} {k t y : Nat} (hL : L.length = k) (hP : P.length = k) (hds : ds.length = k) (hZ : Z.length = k) (ht : t < k) (hy : ds.getD t 0 = (y : Int)) (hyl : y < k - t)
    (h1 : P.take t = Z.take t) (h2 : pick (L.take (k - t)) (ds.drop t) = Z.drop t) :
    (P.set t (L.getD y 0)).take (t + 1) = Z.take (t + 1) ∧ pick ((L.take y ++ (L.take (k - t)).drop (y + 1) ++ 0 :: L.drop (k - t)).take (k - (t + 1))) (ds.drop (t + 1)) = Z.drop (t + 1) := by
  have hzd : Z.drop t = Z[t]'(by omega) :: Z.drop (t + 1) := List.drop_eq_getElem_cons (by omega)
  rw [pick_step (by omega), hy, Int.toNat_natCast, hzd] at h2
  injection h2 with h3 h4
  have e1 : (L.take (k - t)).getD y 0 = L.getD y 0 := by simp [List.getD_eq_getElem?_getD, hyl]
  have e2 : Z.getD t 0 = Z[t] := by rw [List.getD_eq_getElem?_getD, List.getElem?_eq_getElem (by omega)]; rfl
  constructor
  · rw [take_snoc (by rw [List.length_set]; omega), getD_set, if_pos ⟨rfl, by omega⟩, List.take_set_of_le (by omega), h1, take_snoc (by omega), e2, ← h3, e1]
  · rw [show k - (t + 1) = k - t - 1 by omega, erase_take L hyl (by omega), h4]

/-- What holds of the two blocks when t numbers are laid. -/
def DecInv (w : World) (g2 : Nat) (k t : Nat) (ds : List Int) (wq : World) : Prop :=
  Below w.heap.size w wq ∧ ∃ L P : List Int, Arr wq w.heap.size L ∧ L.length = k ∧ Arr wq g2 P ∧ P.length = k ∧ P.take t = (pick (iota k) ds).take t ∧ pick (L.take (k - t)) (ds.drop t) = (pick (iota k) ds).drop t

def RetAt (w : World) (n : Nat) (ys : List Int) (e : Ending) (w' : World) : Prop := ∃ g, e = .returned (.slice (some ⟨g, 0, none⟩) n n) ∧ Ints w' (some ⟨g, 0, none⟩) n ys ∧ Below w.heap.size w w'

def RetAtO (w : World) (n : Nat) (ys : List Int) (e : Ending) (w' : World) : Prop := ∃ g, e = .returned (.slice (some ⟨g, 0, none⟩) n n) ∧ w.heap.size ≤ g ∧ Arr w' g ys ∧ ys.length = n ∧ Below w.heap.size w w'

set_option maxHeartbeats 1600000 in
theorem decode_own (A : Option Addr) (n c : Nat) (ds : List Int) (w : World) (hA : Ints w A n ds) (hd : IsDig ds) (hn : n ≤ 10) :
    Calls Try.prog 56 #[.slice A n c] w (RetAtO w n (pick (iota n) ds)) := by
  have hmk := fun W => run_make_row' (P := Try.prog) 44 3 (.int .i64 0) 8 Try.underlying44 infoInt rfl .i64 .i64 n (by omega) (by omega) W
  have HL := hid hA.len
  go_enter Try.func56, Try.ntmps56
  go_wp2_with fail
  go_loopg [13] n (fun g s wr => ∃ k : Nat, k ≤ n ∧ n - k ≤ g ∧ s = .int .i64 k ∧ Arr wr w.heap.size (ownUpto n k) ∧ Below w.heap.size w wr)
  case atStart => exact ⟨0, Nat.zero_le _, by omega, rfl, by simpa [ownUpto, iota] using Arr.made w n, below_alloc _ _⟩
  case round =>
    obtain ⟨k, hk, hg, rfl, harr, hbel⟩ := hrel
    have HR := hid harr
    have HB := hid hbel
    clear harr hbel
    by_cases hlt : k < n
    · have f1 : wr.frozen? ⟨w.heap.size, k, none⟩ = false := HR.out.frozen k
      have g1 := HR.out.cell (j := k) (by rw [length_ownUpto hk]; exact hlt)
      have HS := hid (ownUpto_step hlt)
      have HW := hid (HR.out.set k (k : Int))
      generalize (ownUpto n k).getD k 0 = v1 at g1
      go_wp2
      go_roundg (n - (k + 1))
      case measure => omega
      case rel => exact ⟨k + 1, by omega, by omega, by go_num, by rw [← HS.out]; exact HW.out, HB.out.setCell (Nat.le_refl _) _⟩
    · have hkn : k = n := by omega
      subst hkn
      obtain ⟨w1, rfl⟩ : ∃ w1, w1 = wr := ⟨wr, rfl⟩
      have HI : Hid (Arr w1 w.heap.size (iota k)) := by have := HR.out; rw [ownUpto_end] at this; exact this
      have HZ := hid HB.out.size
      have hz : w.heap.size < w1.heap.size := HR.out.lt
      clear HR
      go_wp2_with fail
      go_loopg [3, 26] k (fun g v s wq => ∃ t : Nat, t ≤ k ∧ k - t ≤ g ∧ s = .int .i64 t ∧ v = .slice (some ⟨w.heap.size, 0, none⟩) (k - t) k ∧ DecInv w w1.heap.size k t ds wq)
      case atStart => exact ⟨0, Nat.zero_le _, by omega, rfl, rfl, HB.out.alloc HZ.out _, iota k, _, HI.out.alloc _, length_iota k, Arr.made w1 k, List.length_replicate, rfl, by rw [Nat.sub_zero, List.take_of_length_le (by rw [length_iota]; exact Nat.le_refl _)]; rfl⟩
      case round =>
        clear HB
        obtain ⟨t, ht, hgt, rfl, rfl, hinv⟩ := hrel
        obtain ⟨hbel, L, P, aL, hL, aP, hP, e1, e2⟩ := hinv
        have HB := hid hbel
        have AL := hid aL
        have AP := hid aP
        have HLL := hid hL
        have HPL := hid hP
        have E1 := hid e1
        have E2 := hid e2
        clear hbel aL aP hL hP e1 e2 hmk HI
        by_cases htk : t < k
        · obtain ⟨b, o, rfl, hb, hcell⟩ := (hA.keep HB.out).row (by omega)
          have g1 := hcell t htk
          have hdt := hd.getD t (by rw [HL.out]; exact htk)
          obtain ⟨y, hy⟩ := Int.eq_ofNat_of_zero_le hdt.1
          have hyl : y < k - t := by rw [hy, HL.out] at hdt; omega
          have HS := hid (dec_step (Z := pick (iota k) ds) HLL.out HPL.out HL.out (by rw [length_pick, HL.out]) htk hy hyl E1.out E2.out)
          rw [hy] at g1
          have g2 := AL.out.cell (j := y) (by rw [HLL.out]; omega)
          have g3 := AP.out.cell (j := t) (by rw [HPL.out]; exact htk)
          have f3 := AP.out.frozen t
          have HP2 := hid (AP.out.set t (L.getD y 0))
          have HL2 := hid (AL.out.setOther (a := ⟨w1.heap.size, t, none⟩) (by show _ ≠ w1.heap.size; omega) (.int .i64 (L.getD y 0)))
          have HB2 := hid (HB.out.setCell (p := ⟨w1.heap.size, t, none⟩) (show w.heap.size ≤ w1.heap.size by omega) (.int .i64 (L.getD y 0)))
          clear hcell hdt hy hb E1 E2
          generalize L.getD y 0 = x at g2 HP2 HL2 HB2 HS
          generalize P.getD t 0 = z at g3
          go_wp2_with fail
          refine (delete_one w.heap.size (k - t) k y _ L _ HL2.out HLL.out (by omega) hyl (by omega) rfl).mono ?_
          rintro e w3 ⟨rfl, aL3, hone⟩
          have HL3 := hid aL3
          have HP3 := hid (HP2.out.kept hone (show w1.heap.size ≠ w.heap.size by omega))
          have HB3 := hid (below_one HB2.out (Nat.le_refl _) HB2.out.size hone)
          clear aL3 hone HB2 HP2 HL2
          go_wp2
          go_roundg (k - (t + 1))
          case measure => omega
          case rel =>
            refine ⟨t + 1, by omega, by omega, by go_num, by rw [show k - t - 1 = k - (t + 1) by omega], HB3.out, _, _, HL3.out, ?_, HP3.out, ?_, HS.out.1, HS.out.2⟩
            · have := HLL.out
              simp only [List.length_append, List.length_take, List.length_drop, List.length_cons]; omega
            · rw [List.length_set]; exact HPL.out
        · have htn : t = k := by omega
          subst htn
          have HE : Hid (P = pick (iota t) ds) := by
            have := E1.out
            rw [List.take_of_length_le (by rw [HPL.out]; exact Nat.le_refl _), List.take_of_length_le (by rw [length_pick, HL.out]; exact Nat.le_refl _)] at this
            exact this
          go_wp2
          go_ret
          refine ⟨_, rfl, HZ.out, ?_, by rw [← HE.out]; exact HPL.out, HB.out⟩
          rw [← HE.out]
          exact AP.out

theorem decode_any (A : Option Addr) (n c : Nat) (ds : List Int) (w : World) (hA : Ints w A n ds) (hd : IsDig ds) (hn : n ≤ 10) :
    Calls Try.prog 56 #[.slice A n c] w (RetAt w n (pick (iota n) ds)) := by
  refine (decode_own A n c ds w hA hd hn).mono ?_
  rintro e w' ⟨g, rfl, _, ha, hl, hb⟩
  have := ha.ints0 n (by omega)
  rw [List.take_of_length_le (by omega)] at this
  exact ⟨g, rfl, this, hb⟩

/-! ### At -/

def RetAt2 (w : World) (n : Nat) (ys : List Int) (e : Ending) (w' : World) : Prop := ∃ g, e = .returned (.tuple #[.slice (some ⟨g, 0, none⟩) n n, .int .i64 0]) ∧ Ints w' (some ⟨g, 0, none⟩) n ys ∧ Below w.heap.size w w'

def RetAt3 (w : World) (n : Nat) (ys : List Int) (e : Ending) (w' : World) : Prop := ∃ g, e = .returned (.tuple #[.slice (some ⟨g, 0, none⟩) n n, .int .i64 0]) ∧ w.heap.size ≤ g ∧ Arr w' g ys ∧ ys.length = n ∧ Below w.heap.size w w'

set_option maxHeartbeats 800000 in
theorem at_own (n k : Nat) (w : World) (hn : n ≤ 10) (hk : k < fact n) :
    Calls Try.prog 33 #[.int .i64 (n : Int), .int .i64 (k : Int)] w (RetAt3 w n (atL n k)) := by
  have hf := fact_ten hn
  have hk2 : (k : Int) < (fact n : Nat) := by omega
  go_enter Try.func33, Try.ntmps33
  go_wp2_with fail
  refine (count_ok n _ hn).mono ?_
  rintro e w' ⟨rfl, rfl⟩
  generalize fact n = F at hk hf hk2
  go_wp2_with fail
  refine (digits_any n k _ hn (by omega)).mono ?_
  rintro e w1 ⟨rfl, hI, hb1⟩
  have HB1 := hid hb1
  have HI := hid hI
  clear hb1 hI
  go_wp2_with fail
  refine (decode_own _ n n _ _ HI.out (isDig_digL n k) hn).mono ?_
  rintro e w2 ⟨g, rfl, hg2, hI2, hl2, hb2⟩
  have HG2 := hid (Nat.le_trans HB1.out.size hg2)
  have HB2 := hid (below_step HB1.out (Nat.le_refl _) hb2)
  have HI2 := hid hI2
  have HL2 := hid hl2
  clear hb2 hI2 HB1 HI hg2 hl2
  go_wp2
  go_ret2
  exact ⟨g, rfl, HG2.out, HI2.out, HL2.out, HB2.out⟩

theorem at_ok (n k : Nat) (w : World) (hn : n ≤ 10) (hk : k < fact n) :
    Calls Try.prog 33 #[.int .i64 (n : Int), .int .i64 (k : Int)] w (RetAt2 w n (atL n k)) := by
  refine (at_own n k w hn hk).mono ?_
  rintro e w' ⟨g, rfl, _, ha, hl, hb⟩
  have := ha.ints0 n (by omega)
  rw [List.take_of_length_le (by omega)] at this
  exact ⟨g, rfl, this, hb⟩

/-- The first order, in memory of the call's own. -/
theorem at_first (n : Nat) (w : World) (hn : n ≤ 10) :
    Calls Try.prog 33 #[.int .i64 (n : Int), .int .i64 0] w (RetOwnE w (iota n) 0) := by
  refine (at_own n 0 w hn (fact_pos n)).mono ?_
  rintro e w' ⟨g, rfl, hg, ha, hl, hb⟩
  have e0 : atL n 0 = iota n := by
    have h1 := atL_rk (p := iota n) (by unfold IsPerm; rw [length_iota])
    rwa [length_iota, rk_rises (sorted_iotaP n)] at h1
  have := own_of_rowIs (base := w.heap.size) ha rfl (fun _ _ => rfl) hg (by rw [hl]; unfold maxLen; omega)
  rw [hl, e0] at this
  exact ⟨_, rfl, this, hb⟩

set_option maxHeartbeats 800000 in
theorem at_bad1 (n k : Int) (w : World) (hn : n < 0 ∨ 10 < n) :
    Calls Try.prog 33 #[.int .i64 n, .int .i64 k] w fun e w' => e = .returned (.tuple #[.slice none 0 0, .int .i64 1]) ∧ w = w' := by
  go_enter Try.func33, Try.ntmps33
  go_wp2_with fail
  refine (count_bad n _ hn).mono ?_
  rintro e w' ⟨rfl, rfl⟩
  go_wp2
  go_ret2
  exact ⟨rfl, rfl⟩

set_option maxHeartbeats 800000 in
theorem at_bad2 (n : Nat) (k : Int) (w : World) (hn : n ≤ 10) (hk : k < 0 ∨ ((fact n : Nat) : Int) ≤ k) :
    Calls Try.prog 33 #[.int .i64 (n : Int), .int .i64 k] w fun e w' => e = .returned (.tuple #[.slice none 0 0, .int .i64 1]) ∧ w = w' := by
  go_enter Try.func33, Try.ntmps33
  go_wp2_with fail
  refine (count_ok n _ hn).mono ?_
  rintro e w' ⟨rfl, rfl⟩
  generalize fact n = F at hk
  rcases hk with h | h
  all_goals
    go_wp2
    go_ret2
    exact ⟨rfl, rfl⟩

end Go.Proofs.Ytcnljljgdkjndaa

/-
  slices.Clone at []int: the same numbers in new memory.
-/
namespace Go.Proofs.Ytcnljljgdkjndaa
open Go.RowKit

theorem cells_of_ints {w : World} {ad : Addr} {n : Nat} {xs : List Int} (h : Ints w (some ad) n xs) : ∀ j u, (xs.map (Value.int .i64))[j]? = some u → w.cell? (ad.add j) = some u := by
  intro j u hu
  have hj : j < xs.length := by
    rcases Nat.lt_or_ge j xs.length with hlt | hge
    · exact hlt
    · rw [List.getElem?_eq_none (by simpa using hge)] at hu
      cases hu
  obtain ⟨b, o, e, _, hc⟩ := h.row (by rw [← h.len]; omega)
  injection e with e
  subst e
  have ha : (⟨b, o, none⟩ : Addr).add j = ⟨b, o + j, none⟩ := by unfold Addr.add; split <;> simp_all
  rw [ha, hc j (by rw [← h.len]; exact hj)]
  rw [List.getElem?_map, List.getElem?_eq_getElem hj] at hu
  rw [List.getD_eq_getElem?_getD, List.getElem?_eq_getElem hj]
  exact hu

/-- 'out = append(out, xs...)', out the call's own, xs not nil. -/
theorem wpList_appNB {ops : Array Oper} {rest : List Oper} {o : Oper} {a : Act} {Q : Exit → Act → World → Prop} (W : World) (hgd : o.guard = none) (s x : Operand)
    (ho : o.op = .call { callee := .builtin .append, args := #[s, x], argTypes := #[44, 44] })
    (base : Nat) (v : Value) (xs : List Int) (hs : a.eval s = v) (ad : Addr) (n c : Nat) (ys : List Int) (hx : a.eval x = .slice (some ad) n c) (hown : OwnInts W base v xs) (hI : Ints W (some ad) n ys)
    (hlen : xs.length + n ≤ 17592186044416) (hbase : base ≤ W.heap.size)
    (h : ∀ v' w', OwnInts w' base v' (xs ++ ys) → W.grownBy w' v.ownBlock → Below base W w' → wpList Try.prog ops Q rest (a.put o.dst v') w') :
    wpList Try.prog ops Q (o :: rest) a W := by
  obtain ⟨i0, hi, hz0, hz1, hz2⟩ := info_parts infoInt
  refine wpList_append_own _ hgd s x 44 ho base 3 i0 (.int .i64 0) 1 8 Try.underlying44 hi hz0 hz1 hz2 rfl (by decide) v xs.length (xs.map (Value.int .i64)) hs hown
    ad n c (ys.map (Value.int .i64)) hx (by rw [List.length_map, hI.len, Nat.mul_one]) (cells_of_ints hI) (by intro u hu; obtain ⟨y, _, rfl⟩ := List.mem_map.1 hu; rfl) (by unfold maxLen; omega) (by omega) hbase ?_
  intro v' w' h1 h2 _
  refine h v' w' ?_ h2 ?_
  · unfold OwnInts
    rw [List.length_append, List.map_append, hI.len]
    exact h1
  · refine ⟨h2.os, h2.tape, h2.output, h2.size, fun k hk => h2.block k (by omega) (fun e => ?_)⟩
    have := World.ownsRow.lt hown k e.symm
    omega

theorem wpList_appN {ops : Array Oper} {rest : List Oper} {o : Oper} {a : Act} {Q : Exit → Act → World → Prop} (W : World) (hgd : o.guard = none) (s x : Operand)
    (ho : o.op = .call { callee := .builtin .append, args := #[s, x], argTypes := #[44, 44] })
    (base : Nat) (v : Value) (xs : List Int) (hs : a.eval s = v) (ad : Addr) (n c : Nat) (ys : List Int) (hx : a.eval x = .slice (some ad) n c) (hown : OwnInts W base v xs) (hI : Ints W (some ad) n ys)
    (hlen : xs.length + n ≤ 1000000000000) (hbase : base ≤ W.heap.size)
    (h : ∀ v' w', OwnInts w' base v' (xs ++ ys) → W.grownBy w' v.ownBlock → Below base W w' → wpList Try.prog ops Q rest (a.put o.dst v') w') :
    wpList Try.prog ops Q (o :: rest) a W := wpList_appNB W hgd s x ho base v xs hs ad n c ys hx hown hI (Nat.le_trans hlen (by omega)) hbase h

set_option maxHeartbeats 800000 in
theorem clone_big (A : Option Addr) (n c : Nat) (xs : List Int) (w : World) (h : Ints w A n xs) (hn : n ≤ 17592186044416) :
    Calls Try.prog 31 #[.slice A n c] w (RetOwn w xs) := by
  rcases A with _ | ad
  · have hn0 : n = 0 := by
      rcases Nat.eq_zero_or_pos n with h0 | h0
      · exact h0
      · obtain ⟨b, o, e, _⟩ := h.row h0
        cases e
    subst hn0
    have hxs : xs = [] := List.eq_nil_of_length_eq_zero h.len
    subst hxs
    have heq := fun W => Lib.run_eql_slice_nil (P := Try.prog) W 44 3 none 0 c 0 0 Try.underlying44
    simp only [Option.isNone_none] at heq
    go_enter Try.func31, Try.ntmps31
    go_wp2
    go_ret
    exact ⟨_, rfl, OwnInts.nil _ _, Below.refl _ _⟩
  · have heq := fun W => Lib.run_eql_slice_nil (P := Try.prog) W 44 3 (some ad) n c 0 0 Try.underlying44
    simp only [Option.isNone_some] at heq
    go_enter Try.func31, Try.ntmps31
    go_wp2_with (at_builtin; refine wpList_appNB _ rfl (.tmp 5) (.tmp 6) rfl w.heap.size _ [] rfl ad n c xs rfl (World.ownsRow_made w #[] 0 (Nat.le_refl _) (Nat.zero_le _) rfl) (h.keep (below_alloc _ _)) (by simp; omega) (by simp) ?_)
    intro v' w1 hown1 _ hbel1
    have HO1 := hid hown1
    have HB1 := hid ((below_alloc w _).trans hbel1)
    clear hown1 hbel1 heq
    go_wp2
    go_ret
    exact ⟨_, rfl, HO1.out, HB1.out⟩

theorem clone_any (A : Option Addr) (n c : Nat) (xs : List Int) (w : World) (h : Ints w A n xs) (hn : n ≤ 1000000) :
    Calls Try.prog 31 #[.slice A n c] w (RetOwn w xs) := clone_big A n c xs w h (by omega)

theorem below_own {B base : Nat} {a b c : World} {v : Value} {xs : List Int} (h : Below B a b) (ho : OwnInts b base v xs) (hB : B ≤ base) (hBa : B ≤ a.heap.size) (k : b.grownBy c v.ownBlock) : Below B a c :=
  h.trans ⟨k.os, k.tape, k.output, k.size, fun i hi => k.block i (Nat.lt_of_lt_of_le hi (Nat.le_trans hBa h.size)) (fun e => by have := World.ownsRow.lt ho i e.symm; omega)⟩

end Go.Proofs.Ytcnljljgdkjndaa

/-
  slices.Reverse at []int.
-/
namespace Go.Proofs.Ytcnljljgdkjndaa
open Go.RowKit

/-- The first k and the last k numbers have changed places. -/
def revUpto (xs : List Int) (k : Nat) : List Int := (List.range xs.length).map (fun u => if u < k ∨ xs.length - k ≤ u then xs.getD (xs.length - 1 - u) 0 else xs.getD u 0)

theorem length_revUpto (xs : List Int) (k : Nat) : (revUpto xs k).length = xs.length := by simp [revUpto]

theorem getD_revUpto {xs : List Int} {u : Nat} (hu : u < xs.length) (k : Nat) : (revUpto xs k).getD u 0 = if u < k ∨ xs.length - k ≤ u then xs.getD (xs.length - 1 - u) 0 else xs.getD u 0 := by
  simp [revUpto, List.getD_eq_getElem?_getD, hu]

theorem revUpto_zero (xs : List Int) : revUpto xs 0 = xs := by
  apply ext_getD (length_revUpto xs 0)
  intro u hu
  rw [length_revUpto] at hu
  rw [getD_revUpto hu, if_neg (by omega)]

theorem revUpto_step {xs : List Int} {k m : Nat} (hm : m + k + 1 = xs.length) (hk : k < m) : swapAt (revUpto xs k) k m = revUpto xs (k + 1) := by
  apply ext_getD (by rw [length_swapAt, length_revUpto, length_revUpto])
  intro u hu
  rw [length_swapAt, length_revUpto] at hu
  rw [getD_swapAt (by rw [length_revUpto]; omega) (by rw [length_revUpto]; omega), getD_revUpto hu, getD_revUpto (show k < xs.length by omega), getD_revUpto (show m < xs.length by omega), getD_revUpto hu]
  by_cases h1 : u = m
  · subst h1
    rw [if_pos rfl, if_neg (by omega), if_pos (by omega), show xs.length - 1 - u = k by omega]
  · rw [if_neg h1]
    by_cases h2 : u = k
    · subst h2
      rw [if_pos rfl, if_neg (by omega), if_pos (by omega), show xs.length - 1 - u = m by omega]
    · rw [if_neg h2]
      by_cases h3 : u < k ∨ xs.length - k ≤ u
      · rw [if_pos h3, if_pos (by omega)]
      · rw [if_neg h3, if_neg (by omega)]

theorem revUpto_end {xs : List Int} {k : Nat} (h : xs.length ≤ k + k + 1) : revUpto xs k = xs.reverse := by
  apply ext_getD (by rw [length_revUpto, List.length_reverse])
  intro u hu
  rw [length_revUpto] at hu
  have e : xs.reverse.getD u 0 = xs.getD (xs.length - 1 - u) 0 := by
    rw [List.getD_eq_getElem?_getD, List.getElem?_reverse hu, List.getD_eq_getElem?_getD]
  rw [getD_revUpto hu, e]
  by_cases h3 : u < k ∨ xs.length - k ≤ u
  · rw [if_pos h3]
  · rw [if_neg h3, show xs.length - 1 - u = u by omega]

/-- In place: the slice holds other numbers; nothing else that was there has turned. -/
def RetPut (w : World) (base : Nat) (v : Value) (ys : List Int) (e : Ending) (w' : World) : Prop := e = .returned (.tuple #[]) ∧ OwnInts w' base v ys ∧ w.grownBy w' v.ownBlock

set_option maxHeartbeats 800000 in
theorem reverse_any (base : Nat) (v : Value) (xs : List Int) (w : World) (h : OwnInts w base v xs) (hn : xs.length ≤ 1000000) :
    Calls Try.prog 64 #[v] w (RetPut w base v xs.reverse) := by
  obtain ⟨A, c, rfl, _, _⟩ := h.ints
  have HO := hid h
  clear h
  generalize hm : xs.length = n at *
  have HL := hid hm
  clear hm
  go_enter Try.func64, Try.ntmps64
  go_wp2
  go_loopg [2, 3] n (fun g s t wr => ∃ k : Nat, k ≤ n ∧ n - k ≤ g ∧ s = .int .i64 k ∧ t = .int .i64 ((n : Int) - 1 - k) ∧ OwnInts wr base (.slice A n c) (revUpto xs k) ∧ w.grownBy wr (Value.slice A n c).ownBlock)
  case atStart => exact ⟨0, Nat.zero_le _, by omega, rfl, by go_num, by rw [revUpto_zero]; exact HO.out, only_refl _ _⟩
  case round =>
    obtain ⟨k, hk, hg, rfl, rfl, hown, hgrow⟩ := hrel
    have HO2 := hid hown
    have HG2 := hid hgrow
    clear hown hgrow
    by_cases hlt : k + k + 1 < n
    · obtain ⟨m, hmk⟩ : ∃ m, m + k + 1 = n := ⟨n - 1 - k, by omega⟩
      have hkm : k < m := by omega
      have hj : (n : Int) - 1 - k = m := by omega
      have HJ := hid hj
      have HMK := hid hmk
      have hmn : m < n := by omega
      have hkn : k < n := by omega
      have hlr : (revUpto xs k).length = n := by rw [length_revUpto, HL.out]
      obtain ⟨gb, cap, hv, hb, hgl, hcap⟩ := HO2.out.form (by rw [hlr]; omega)
      rw [hlr] at hv
      injection hv with hA _ hc
      subst hA
      subst hc
      rw [HJ.out]
      have hO : OwnInts wr base (.slice (some ⟨gb, 0, none⟩) (revUpto xs k).length c) (revUpto xs k) := by rw [hlr]; exact HO2.out
      have g1 : wr.cell? ⟨gb, k, none⟩ = some (.int .i64 ((revUpto xs k).getD k 0)) := hO.cell (by omega)
      have g2 : wr.cell? ⟨gb, m, none⟩ = some (.int .i64 ((revUpto xs k).getD m 0)) := hO.cell (by omega)
      have f1 : wr.frozen? ⟨gb, k, none⟩ = false := hO.frozen k
      have f2 : wr.frozen? ⟨gb, m, none⟩ = false := hO.frozen m
      have HSW : Hid (swapAt (revUpto xs k) k m = ((revUpto xs k).set k ((revUpto xs k).getD m 0)).set m ((revUpto xs k).getD k 0)) := rfl
      have HLR := hid hlr
      have HST := hid (revUpto_step (xs := xs) (k := k) (m := m) (by rw [HL.out]; exact hmk) hkm)
      clear hO hlr hj hmk
      generalize (revUpto xs k).getD k 0 = x at g1 HSW
      generalize (revUpto xs k).getD m 0 = y at g2 HSW
      go_wp2_with fail
      go_region
      go_wp2
      have hmk := HMK.out
      go_roundg (n - (k + 1))
      case measure => omega
      case rel =>
        refine ⟨k + 1, by omega, by omega, by go_num, by go_num, ?_, ?_⟩
        · rw [← HST.out, HSW.out]
          exact ((HO2.out.set HLR.out.symm k y).set (by rw [List.length_set]; exact HLR.out.symm) m x).drew
        · exact only_drewN (only_set (only_set HG2.out k _) m _) 1
    · have hd : ¬ ((k : Int) < (n : Int) - 1 - k) := by omega
      go_wp2
      go_end0
      exact ⟨rfl, by rw [← revUpto_end (xs := xs) (k := k) (by rw [HL.out]; omega)]; exact HO2.out, HG2.out⟩

end Go.Proofs.Ytcnljljgdkjndaa

/-
  Plain facts on inversions and the sign of a list of numbers.
-/
namespace Go.Proofs.Ytcnljljgdkjndaa

/-- 1 or -1, by parity. -/
def sg (k : Nat) : Int := if k % 2 = 0 then 1 else -1
theorem sg_succ (k : Nat) : sg (k + 1) = - sg k := by unfold sg; split <;> split <;> omega
theorem sg_bd (k : Nat) : -1 ≤ sg k ∧ sg k ≤ 1 ∧ sg k ≠ 0 := by unfold sg; split <;> omega
theorem sg_add (a b : Nat) : sg (a + b) = sg a * sg b := by unfold sg; split <;> split <;> split <;> omega
theorem sg_sq (a : Nat) : sg a * sg a = 1 := by unfold sg; split <;> rfl

/-- How many pairs: the greater one ahead. -/
def inv : List Int → Nat
  | [] => 0
  | x :: t => t.countP (fun y => decide (y < x)) + inv t
def sgn (p : List Int) : Int := sg (inv p)

/-- The pairs whose first place is below i. -/
def invUpto (p : List Int) : Nat → Nat
  | 0 => 0
  | i + 1 => invUpto p i + (p.drop (i + 1)).countP (fun y => decide (y < p.getD i 0))

theorem drop_cons {p : List Int} {i : Nat} (h : i < p.length) : p.drop i = p.getD i 0 :: p.drop (i + 1) := by
  rw [List.drop_eq_getElem_cons h, List.getD_eq_getElem?_getD, List.getElem?_eq_getElem h]
  rfl
theorem inv_upto (p : List Int) : ∀ i, i ≤ p.length → inv p = invUpto p i + inv (p.drop i)
  | 0, _ => by simp [invUpto]
  | i + 1, h => by
    rw [inv_upto p i (by omega), drop_cons (show i < p.length by omega)]
    simp only [inv, invUpto]
    omega
theorem inv_all (p : List Int) : inv p = invUpto p p.length := by
  have h := inv_upto p p.length (Nat.le_refl _)
  rw [List.drop_length] at h
  simpa [inv] using h

/-! ### The sign of a product -/

theorem inv_swap (x y : Int) (l : List Int) (h : x < y) : inv (y :: x :: l) = inv (x :: y :: l) + 1 := by
  have h1 : ¬ y < x := by omega
  simp only [inv, List.countP_cons, h, h1, decide_true, decide_false, if_true]
  simp
  omega
theorem sgn_swap {x y : Int} (l : List Int) (h : x ≠ y) : sgn (y :: x :: l) = - sgn (x :: y :: l) := by
  unfold sgn
  rcases Int.lt_or_gt_of_ne h with hlt | hgt
  · rw [inv_swap x y l hlt, sg_succ]
  · rw [inv_swap y x l hgt, sg_succ, Int.neg_neg]
theorem sgn_cons (x : Int) (l : List Int) : sgn (x :: l) = sg (l.countP (fun y => decide (y < x))) * sgn l := by
  unfold sgn
  rw [← sg_add]
  rfl
theorem sgn_bd (l : List Int) : sgn l = 1 ∨ sgn l = -1 := by have := sg_bd (inv l); unfold sgn; omega
theorem sgn_sq (l : List Int) : sgn l * sgn l = 1 := sg_sq _

theorem mul_four (a b c d : Int) : a * b * (c * d) = a * c * (b * d) := by
  rw [Int.mul_assoc, Int.mul_assoc, ← Int.mul_assoc b, ← Int.mul_assoc c, Int.mul_comm b c]

/-- Under any renaming that keeps numbers apart, lists of the same numbers have the same 'sign times sign of the renamed list'. -/
theorem sgn_map {f : Int → Int} {l l' : List Int} (h : l.Perm l') : l.Nodup → (∀ x, x ∈ l → ∀ y, y ∈ l → f x = f y → x = y) → sgn (l.map f) * sgn l = sgn (l'.map f) * sgn l' := by
  induction h with
  | nil => intros; rfl
  | cons x h ih =>
    rename_i l1 l2
    intro hn hf
    have hn' := List.nodup_cons.1 hn
    have ih' := ih hn'.2 (fun a ha b hb => hf a (by simp [ha]) b (by simp [hb]))
    have e1 : (l1.map f).countP (fun y => decide (y < f x)) = (l2.map f).countP (fun y => decide (y < f x)) := (h.map f).countP_eq _
    have e2 : l1.countP (fun y => decide (y < x)) = l2.countP (fun y => decide (y < x)) := h.countP_eq _
    simp only [List.map_cons, sgn_cons]
    rw [e1, e2, mul_four, ih', ← mul_four]
  | swap x y l =>
    intro hn hf
    have hxy : x ≠ y := by
      intro e
      subst e
      simp at hn
    have hfxy : f x ≠ f y := fun e => hxy (hf x (by simp) y (by simp) e)
    simp only [List.map_cons]
    rw [sgn_swap _ hxy, sgn_swap _ hfxy, Int.neg_mul_neg]
  | trans h1 h2 ih1 ih2 =>
    intro hn hf
    rw [ih1 hn hf]
    exact ih2 (h1.nodup_iff.1 hn) (fun a ha b hb => hf a (h1.mem_iff.2 ha) b (h1.mem_iff.2 hb))

theorem countP_zero_of {l : List Int} {x : Int} (h : ∀ y, y ∈ l → x ≤ y) : l.countP (fun y => decide (y < x)) = 0 := by
  rw [List.countP_eq_zero]
  intro y hy
  have := h y hy
  simp
  omega
theorem inv_sorted : ∀ {l : List Int}, l.Pairwise (· ≤ ·) → inv l = 0
  | [], _ => rfl
  | x :: t, h => by
    have h' := List.pairwise_cons.1 h
    simp only [inv]
    rw [countP_zero_of h'.1, inv_sorted h'.2]
theorem pairwise_iota (n : Nat) : (iota n).Pairwise (· ≤ ·) := by
  unfold iota
  rw [List.pairwise_map]
  exact List.pairwise_lt_range.imp (fun h => by omega)
theorem sgn_iota (n : Nat) : sgn (iota n) = 1 := by unfold sgn; rw [inv_sorted (pairwise_iota n)]; rfl

theorem map_iota (a : List Int) : (iota a.length).map (fun v => a.getD v.toNat 0) = a := by
  apply ext_getD (by simp [length_iota])
  intro j hj
  simp only [List.length_map, length_iota] at hj
  simp [iota, List.getD_eq_getElem?_getD, hj]

theorem sgn_times {a b : List Int} (ha : IsPerm a) (hb : IsPerm b) (hl : a.length = b.length) : sgn (times a b) = sgn a * sgn b := by
  have h := sgn_map (f := fun v => a.getD v.toNat 0) (l := b) (l' := iota b.length) hb hb.nodup (by
    intro x hx y hy e
    have h1 := hb.range hx
    have h2 := hb.range hy
    have hn := nodup_iff_getD.1 ha.nodup
    rcases Nat.lt_trichotomy x.toNat y.toNat with hlt | he | hgt
    · exact absurd e (hn _ _ hlt (by omega))
    · omega
    · exact absurd e.symm (hn _ _ hgt (by omega)))
  rw [← hl, map_iota, sgn_iota, Int.mul_one] at h
  have : sgn (times a b) * sgn b * sgn b = sgn a * sgn b := by rw [← h]; rfl
  rwa [Int.mul_assoc, sgn_sq, Int.mul_one] at this

theorem sgn_inv {a va : List Int} (h : IsInv a va) (ha : IsPerm a) : sgn va = sgn a := by
  have h1 := sgn_times ha (h.isPerm ha) h.1.symm
  rw [h.right ha, sgn_iota] at h1
  have h2 : sgn a * (sgn a * sgn va) = sgn a * 1 := by rw [← h1]
  rwa [← Int.mul_assoc, sgn_sq, Int.one_mul, Int.mul_one] at h2

/-! ### A change of two places -/

theorem sgn_move (x : Int) (m v : List Int) (h : x ∉ m) : sgn (x :: (m ++ v)) = sg m.length * sgn (m ++ x :: v) := by
  induction m with
  | nil => simp [sg]
  | cons y t ih =>
    have hxy : x ≠ y := fun e => h (by simp [e])
    have ht : x ∉ t := fun e => h (by simp [e])
    have e0 : (t ++ x :: v).countP (fun z => decide (z < y)) = (x :: (t ++ v)).countP (fun z => decide (z < y)) := by
      simp only [List.countP_append, List.countP_cons]
      omega
    have e1 : sgn (y :: x :: (t ++ v)) = sg t.length * sgn (y :: (t ++ x :: v)) := by
      rw [sgn_cons y, ih ht, sgn_cons y (t ++ x :: v), e0, ← Int.mul_assoc, ← Int.mul_assoc, Int.mul_comm (sg _) (sg t.length)]
    have e2 : sgn (x :: y :: (t ++ v)) = - sgn (y :: x :: (t ++ v)) := by rw [sgn_swap _ hxy, Int.neg_neg]
    show sgn (x :: y :: (t ++ v)) = sg (t.length + 1) * sgn (y :: (t ++ x :: v))
    rw [e2, e1, sg_succ, Int.neg_mul]

theorem sgn_front (u : List Int) {l l' : List Int} (h : l.Perm l') (s : Int) (e : sgn l = s * sgn l') : sgn (u ++ l) = s * sgn (u ++ l') := by
  induction u with
  | nil => exact e
  | cons x t ih =>
    show sgn (x :: (t ++ l)) = s * sgn (x :: (t ++ l'))
    have e0 : (t ++ l).countP (fun z => decide (z < x)) = (t ++ l').countP (fun z => decide (z < x)) := (h.append_left t).countP_eq _
    rw [sgn_cons, sgn_cons, ih, e0, ← Int.mul_assoc, ← Int.mul_assoc, Int.mul_comm s]

theorem sgn_exchange (u m v : List Int) (x y : Int) (hxy : x ≠ y) (hx : x ∉ m) (hy : y ∉ m) : sgn (u ++ y :: (m ++ x :: v)) = - sgn (u ++ x :: (m ++ y :: v)) := by
  have h1 : sgn (y :: (m ++ x :: v)) = sg m.length * sgn (m ++ y :: x :: v) := sgn_move y m (x :: v) hy
  have h2 : sgn (x :: (m ++ y :: v)) = sg m.length * sgn (m ++ x :: y :: v) := sgn_move x m (y :: v) hx
  have h3 : sgn (m ++ y :: x :: v) = -1 * sgn (m ++ x :: y :: v) := sgn_front m (List.Perm.swap x y v) (-1) (by rw [sgn_swap _ hxy]; omega)
  have h4 : sgn (y :: (m ++ x :: v)) = -1 * sgn (x :: (m ++ y :: v)) := by
    rw [h1, h2, h3, ← Int.mul_assoc, ← Int.mul_assoc, Int.mul_comm (sg _) (-1)]
  have hp : (y :: (m ++ x :: v)).Perm (x :: (m ++ y :: v)) :=
    (List.perm_middle (a := x) (l₁ := y :: m) (l₂ := v)).trans (List.Perm.cons x (List.perm_middle (a := y) (l₁ := m) (l₂ := v)).symm)
  have := sgn_front u hp (-1) h4
  omega

end Go.Proofs.Ytcnljljgdkjndaa

/-
  perm.Sign: the parity of the inversions.
-/
namespace Go.Proofs.Ytcnljljgdkjndaa
open Go.RowKit

theorem take_drop_snoc {p : List Int} {a m : Nat} (h : a + m < p.length) : (p.drop a).take (m + 1) = (p.drop a).take m ++ [p.getD (a + m) 0] := by
  rw [take_snoc (by rw [List.length_drop]; omega)]
  congr 1
  simp [List.getD_eq_getElem?_getD]

/-- The pairs counted after m rounds of the inner loop. -/
def cntUpto (p : List Int) (k m : Nat) : Nat := invUpto p k + ((p.drop (k + 1)).take m).countP (fun y => decide (y < p.getD k 0))
theorem cntUpto_yes {p : List Int} {k m : Nat} (h : k + 1 + m < p.length) (hlt : p.getD (k + 1 + m) 0 < p.getD k 0) : sg (cntUpto p k (m + 1)) = - sg (cntUpto p k m) := by
  unfold cntUpto
  rw [take_drop_snoc h, List.countP_append, ← Nat.add_assoc]
  simp only [List.countP_cons, List.countP_nil, hlt, decide_true, if_true, Nat.zero_add]
  exact sg_succ _
theorem cntUpto_no {p : List Int} {k m : Nat} (h : k + 1 + m < p.length) (hlt : ¬ p.getD (k + 1 + m) 0 < p.getD k 0) : cntUpto p k (m + 1) = cntUpto p k m := by
  unfold cntUpto
  rw [take_drop_snoc h, List.countP_append]
  simp only [List.countP_cons, List.countP_nil, hlt, decide_false, Nat.zero_add]
  simp
theorem cntUpto_end {p : List Int} {k m : Nat} (h : k + 1 + m = p.length) : cntUpto p k m = invUpto p (k + 1) := by
  unfold cntUpto
  rw [List.take_of_length_le (by rw [List.length_drop]; omega)]
  rfl

end Go.Proofs.Ytcnljljgdkjndaa

/-
  The sign behind a change of two places.
-/
namespace Go.Proofs.Ytcnljljgdkjndaa
open Go.RowKit

theorem swapAt_split (u m v : List Int) (x y : Int) : swapAt (u ++ x :: (m ++ y :: v)) u.length (u.length + 1 + m.length) = u ++ y :: (m ++ x :: v) := by
  have h1 : (u ++ x :: (m ++ y :: v)).getD u.length 0 = x := by simp [List.getD_eq_getElem?_getD]
  have h2 : (u ++ x :: (m ++ y :: v)).getD (u.length + 1 + m.length) 0 = y := by
    rw [List.getD_eq_getElem?_getD, List.getElem?_append_right (by omega), show u.length + 1 + m.length - u.length = m.length + 1 by omega]
    simp
  unfold swapAt
  rw [h1, h2, List.set_append_right _ _ (Nat.le_refl _), Nat.sub_self, List.set_cons_zero, List.set_append_right _ _ (by omega), show u.length + 1 + m.length - u.length = m.length + 1 by omega, List.set_cons_succ,
    List.set_append_right _ _ (Nat.le_refl _), Nat.sub_self, List.set_cons_zero]

theorem split_at {l : List Int} {i k : Nat} (hik : i < k) (hk : k < l.length) : l = l.take i ++ l.getD i 0 :: ((l.drop (i + 1)).take (k - i - 1) ++ l.getD k 0 :: l.drop (k + 1)) := by
  have h1 : l.drop (i + 1) = (l.drop (i + 1)).take (k - i - 1) ++ (l.drop (i + 1)).drop (k - i - 1) := (List.take_append_drop _ _).symm
  rw [List.drop_drop, show i + 1 + (k - i - 1) = k by omega, drop_cons hk] at h1
  rw [← h1, ← drop_cons (by omega)]
  exact (List.take_append_drop _ _).symm

theorem swapAt_comm {l : List Int} {i k : Nat} (hi : i < l.length) (hk : k < l.length) : swapAt l i k = swapAt l k i := by
  apply ext_getD (by rw [length_swapAt, length_swapAt])
  intro j _
  rw [getD_swapAt hi hk, getD_swapAt hk hi]
  by_cases h1 : j = k
  · by_cases h2 : j = i
    · rw [if_pos h1, if_pos h2, ← h1, ← h2]
    · rw [if_pos h1, if_neg h2, if_pos h1]
  · by_cases h2 : j = i
    · rw [if_neg h1, if_pos h2, if_pos h2]
    · rw [if_neg h1, if_neg h2, if_neg h2, if_neg h1]
theorem swapAt_self {l : List Int} {i : Nat} (hi : i < l.length) : swapAt l i i = l := by
  apply ext_getD (by rw [length_swapAt])
  intro j _
  rw [getD_swapAt hi hi]
  by_cases h1 : j = i
  · rw [if_pos h1, h1]
  · rw [if_neg h1, if_neg h1]

theorem sgn_swapAt_lt {l : List Int} {i k : Nat} (hn : l.Nodup) (hik : i < k) (hk : k < l.length) : sgn (swapAt l i k) = - sgn l := by
  have hs := split_at hik hk
  have hlu : (l.take i).length = i := by rw [List.length_take]; omega
  have hlm : ((l.drop (i + 1)).take (k - i - 1)).length = k - i - 1 := by rw [List.length_take, List.length_drop]; omega
  generalize l.take i = u at hs hlu
  generalize (l.drop (i + 1)).take (k - i - 1) = m at hs hlm
  generalize l.getD i 0 = x at hs
  generalize l.getD k 0 = y at hs
  generalize l.drop (k + 1) = v at hs
  subst hs
  have e : swapAt (u ++ x :: (m ++ y :: v)) i k = u ++ y :: (m ++ x :: v) := by
    have := swapAt_split u m v x y
    rwa [hlu, hlm, show i + 1 + (k - i - 1) = k by omega] at this
  rw [e]
  have h1 := (List.nodup_append.1 hn).2.1
  have h2 := List.nodup_cons.1 h1
  have h3 := List.nodup_append.1 h2.2
  refine sgn_exchange u m v x y (fun e => ?_) (fun e => ?_) (fun e => ?_)
  · exact h2.1 (by simp [e])
  · exact h2.1 (by simp [e])
  · exact h3.2.2 y e y (by simp) rfl
theorem sgn_swapAt {l : List Int} {i k : Nat} (hn : l.Nodup) (hi : i < l.length) (hk : k < l.length) (hne : i ≠ k) : sgn (swapAt l i k) = - sgn l := by
  rcases Nat.lt_or_gt_of_ne hne with h | h
  · exact sgn_swapAt_lt hn h hk
  · rw [swapAt_comm hi hk]
    exact sgn_swapAt_lt hn h hi

theorem sgn_short {l : List Int} (h : l.length < 2) : sgn l = 1 := by
  match l, h with
  | [], _ => rfl
  | [x], _ => rfl

end Go.Proofs.Ytcnljljgdkjndaa

/-
  Plain facts on insertion into a sorted list, by changes of neighbours.
-/
namespace Go.Proofs.Ytcnljljgdkjndaa

/-- The first i numbers stand in order. -/
def SortedTo (r : Int → Int → Prop) (zs : List Int) (i : Nat) : Prop := ∀ u v, u < v → v < i → r (zs.getD u 0) (zs.getD v 0)
/-- All up to place i stand in order, but for who stands at j: he may have to go further ahead. -/
def InsInv (r : Int → Int → Prop) (zs : List Int) (i j : Nat) : Prop := ∀ u v, u < v → v ≤ i → v ≠ j → r (zs.getD u 0) (zs.getD v 0)

theorem ins_start {r : Int → Int → Prop} {zs : List Int} {i : Nat} (h : SortedTo r zs i) : InsInv r zs i i := fun u v huv hv hne => h u v huv (by omega)

theorem ins_step {r : Int → Int → Prop} {zs : List Int} {i j : Nat} (h : InsInv r zs i (j + 1)) (hj : j + 1 ≤ i) (hi : i < zs.length) (hr : r (zs.getD (j + 1) 0) (zs.getD j 0)) : InsInv r (swapAt zs (j + 1) j) i j := by
  intro u v huv hv hne
  rw [getD_swapAt (by omega) (by omega), getD_swapAt (by omega) (by omega), if_neg hne]
  by_cases h1 : v = j + 1
  · subst h1
    rw [if_pos rfl]
    by_cases h2 : u = j
    · rw [if_pos h2]
      exact hr
    · rw [if_neg h2, if_neg (by omega)]
      exact h u j (by omega) (by omega) (by omega)
  · rw [if_neg h1]
    by_cases h2 : u = j
    · rw [if_pos h2]
      exact h (j + 1) v (by omega) hv h1
    · rw [if_neg h2]
      by_cases h3 : u = j + 1
      · rw [if_pos h3]
        exact h j v (by omega) hv h1
      · rw [if_neg h3]
        exact h u v huv hv h1

theorem ins_zero {r : Int → Int → Prop} {zs : List Int} {i : Nat} (h : InsInv r zs i 0) : SortedTo r zs (i + 1) := fun u v huv hv => h u v huv (by omega) (by omega)
theorem ins_done {r : Int → Int → Prop} (ht : ∀ a b c, r a b → r b c → r a c) {zs : List Int} {i j : Nat} (h : InsInv r zs i (j + 1)) (hr : r (zs.getD j 0) (zs.getD (j + 1) 0)) : SortedTo r zs (i + 1) := by
  intro u v huv hv
  by_cases h1 : v = j + 1
  · subst h1
    by_cases h2 : u = j
    · rw [h2]
      exact hr
    · exact ht _ _ _ (h u j (by omega) (by omega) (by omega)) hr
  · exact h u v huv (by omega) h1

theorem perm_swapAt_lt {l : List Int} {i k : Nat} (hik : i < k) (hk : k < l.length) : (swapAt l i k).Perm l := by
  have hs := split_at hik hk
  have hlu : (l.take i).length = i := by rw [List.length_take]; omega
  have hlm : ((l.drop (i + 1)).take (k - i - 1)).length = k - i - 1 := by rw [List.length_take, List.length_drop]; omega
  generalize l.take i = u at hs hlu
  generalize (l.drop (i + 1)).take (k - i - 1) = m at hs hlm
  generalize l.getD i 0 = x at hs
  generalize l.getD k 0 = y at hs
  generalize l.drop (k + 1) = v at hs
  subst hs
  have e : swapAt (u ++ x :: (m ++ y :: v)) i k = u ++ y :: (m ++ x :: v) := by
    have := swapAt_split u m v x y
    rwa [hlu, hlm, show i + 1 + (k - i - 1) = k by omega] at this
  rw [e]
  exact ((List.perm_middle (a := x) (l₁ := y :: m) (l₂ := v)).trans (List.Perm.cons x (List.perm_middle (a := y) (l₁ := m) (l₂ := v)).symm)).append_left u
theorem perm_swapAt {l : List Int} {i k : Nat} (hi : i < l.length) (hk : k < l.length) : (swapAt l i k).Perm l := by
  rcases Nat.lt_trichotomy i k with h | h | h
  · exact perm_swapAt_lt h hk
  · subst h
    rw [swapAt_self hi]
  · rw [swapAt_comm hi hk]
    exact perm_swapAt_lt h hi

/-- Two lists of the same numbers, both in order, are one. -/
theorem sorted_unique {r : Int → Int → Prop} (ha : ∀ a b, r a b → r b a → a = b) : ∀ {l l' : List Int}, l.Pairwise r → l'.Pairwise r → l.Perm l' → l = l'
  | [], l', _, _, h => by simpa using h.symm
  | x :: t, l', h1, h2, h => by
    have hx : x ∈ l' := h.mem_iff.1 (by simp)
    match l', h2, h, hx with
    | y :: t', h2, h, hx =>
      have p1 := List.pairwise_cons.1 h1
      have p2 := List.pairwise_cons.1 h2
      have hxy : x = y := by
        rcases List.mem_cons.1 hx with e | e
        · exact e
        · have hy : y ∈ x :: t := h.mem_iff.2 (by simp)
          rcases List.mem_cons.1 hy with e' | e'
          · exact e'.symm
          · exact ha _ _ (p1.1 y e') (p2.1 x e)
      subst hxy
      rw [sorted_unique ha p1.2 p2.2 ((List.perm_cons x).1 h)]

theorem pairwise_of_sortedTo {r : Int → Int → Prop} {zs : List Int} (h : SortedTo r zs zs.length) : zs.Pairwise r := by
  rw [List.pairwise_iff_getElem]
  intro i j hi hj hij
  have := h i j hij hj
  simpa [List.getD_eq_getElem?_getD, List.getElem?_eq_getElem hi, List.getElem?_eq_getElem hj] using this

end Go.Proofs.Ytcnljljgdkjndaa

/-
  slices.SortFunc at []int with perm.Cycles's comparison, up to twelve numbers: in falling order.
-/
namespace Go.Proofs.Ytcnljljgdkjndaa
open Go.RowKit

/-- The slice's numbers have been put in order; nothing else that was there has turned. -/
def RetSort (r : Int → Int → Prop) (w : World) (base g n cap : Nat) (xs : List Int) (e : Ending) (w' : World) : Prop :=
  e = .returned (.tuple #[]) ∧ ∃ ys, OwnInts w' base (.slice (some ⟨g, 0, none⟩) n cap) ys ∧ ys.Perm xs ∧ SortedTo r ys n ∧ w.grownBy w' (some g)

def falls (a b : Int) : Prop := b ≤ a

end Go.Proofs.Ytcnljljgdkjndaa

/-
  math/bits.Len at small numbers; slices.pdqsortCmpFunc, slices.SortFunc up to twelve numbers.
-/
namespace Go.Proofs.Ytcnljljgdkjndaa
open Go.RowKit

def SomeInt (w : World) (e : Ending) (w' : World) : Prop := ∃ r : Int, e = .returned (.int .i64 r) ∧ w = w'

/-- Nothing to put in order. -/
def RetNone (w : World) (e : Ending) (w' : World) : Prop := e = .returned (.tuple #[]) ∧ w = w'

/-- The slice's numbers have been put in order, in place. -/
def RetSorted (r : Int → Int → Prop) (w : World) (base : Nat) (v : Value) (xs : List Int) (e : Ending) (w' : World) : Prop :=
  e = .returned (.tuple #[]) ∧ ∃ ys, OwnInts w' base v ys ∧ ys.Perm xs ∧ SortedTo r ys ys.length ∧ w.grownBy w' v.ownBlock

/-! ### perm.Cycles -/

/-- The lengths of the cycles, the greatest first. -/
def IsCycles (p : List Int) (ys : List Int) : Prop := ys.Perm (cycL p p.length) ∧ SortedTo falls ys ys.length

def RetCycles (w : World) (p : List Int) (e : Ending) (w' : World) : Prop := ∃ ys, IsCycles p ys ∧ RetInts w ys 0 e w'

theorem below_grown {B : Nat} {a w w' : World} {row : Option Nat} (h : Below B a w) (hg : w.grownBy w' row) (hB : B ≤ w.heap.size) (hr : ∀ k, row = some k → B ≤ k) : Below B a w' := h.grown hg hB hr

end Go.Proofs.Ytcnljljgdkjndaa

/-
  slices.Sort at []int, up to twelve numbers: in rising order; slices.Reverse at []int.
-/
namespace Go.Proofs.Ytcnljljgdkjndaa
open Go.RowKit

def climbs (a b : Int) : Prop := a ≤ b

/-! ### slices.Reverse -/

end Go.Proofs.Ytcnljljgdkjndaa

/-
  package rank: fallingTail, Next; slices.Reverse of the end of a block; slices.Compare.
-/
namespace Go.Proofs.Ytcnljljgdkjndaa
open Go.RowKit

/-! ### fallingTail -/

theorem run_max2 {P : Program} (x : Int) (m : Nat) (hm : (m : Int) = if 0 > x then 0 else x) (ts : Array TypeId) (t : TypeId) (W : World) :
    (Builtin.max_ ts t #[.int .i64 x, .int .i64 0]).run P W = .ok (.int .i64 (m : Int)) W := by
  simp only [Builtin.max_, Builtin.max2, List.foldlM_cons, List.foldlM_nil, pure_bind]
  simp only [hm]
  rfl

/-- From t on p falls, and it did not where it could have gone on. -/
def IsTail (p : List Int) (t : Nat) : Prop := t ≤ p.length - 1 ∧ (∀ j, t < j → j < p.length → p.getD j 0 < p.getD (j - 1) 0) ∧ (0 < t → p.getD (t - 1) 0 ≤ p.getD t 0)

def RetTail (w : World) (p : List Int) (e : Ending) (w' : World) : Prop := ∃ t q : Nat, e = .returned (.int .i64 (t : Int)) ∧ IsTail p t ∧ w' = w.drewN q

set_option maxHeartbeats 800000 in
theorem fallingTail_any (A : Option Addr) (n c : Nat) (p : List Int) (w : World) (hA : Ints w A n p) (hn : n ≤ 1000000) :
    Calls Try.prog 63 #[.slice A n c] w (RetTail w p) := by
  have HL := hid hA.len
  have hmax := run_max2 (P := Try.prog) ((n : Int) - 1) (n - 1) (by split <;> omega)
  go_enter Try.func63, Try.ntmps63
  go_wp2_with fail
  go_loopg [3] n (fun g s wr => ∃ t q : Nat, t ≤ n - 1 ∧ t ≤ g ∧ s = .int .i64 t ∧ wr = w.drewN q ∧ ∀ j, t < j → j < n → p.getD j 0 < p.getD (j - 1) 0)
  case atStart => exact ⟨n - 1, 0, Nat.le_refl _, by omega, rfl, rfl, fun j h1 h2 => by omega⟩
  case round =>
    obtain ⟨t, q, ht, hg, rfl, rfl, hall⟩ := hrel
    have HA := hid hall
    clear hall hmax
    rcases Nat.eq_zero_or_pos t with h0 | h0
    · subst h0
      go_wp2_with fail
      go_region
      go_wp2
      go_ret
      exact ⟨0, q + 1, rfl, ⟨Nat.zero_le _, fun j h1 h2 => HA.out j h1 (by rw [← HL.out]; exact h2), fun h => absurd h (by omega)⟩, rfl⟩
    · obtain ⟨s, rfl⟩ : ∃ s, t = s + 1 := ⟨t - 1, by omega⟩
      obtain ⟨b, o, rfl, hb, hcell⟩ := hA.row (by omega)
      have g1 := hcell s (by omega)
      have g2 := hcell (s + 1) (by omega)
      clear hcell hb
      generalize hx : p.getD s 0 = x at g1
      generalize hy : p.getD (s + 1) 0 = y at g2
      have HX := hid hx
      have HY := hid hy
      clear hx hy
      have hd : decide (0 < ((s + 1 : Nat) : Int)) = true := by simp
      have hd2 : decide (0 < s + 1) = true := by simp
      by_cases hxy : y < x
      · have hd3 : decide (y < x) = true := decide_eq_true hxy
        go_wp2_with fail
        go_region
        go_wp2
        go_roundg s
        case measure => omega
        case rel =>
          refine ⟨s, q + 1, by omega, by omega, by go_num, rfl, fun j h1 h2 => ?_⟩
          by_cases e : j = s + 1
          · subst e
            rw [HY.out, Nat.add_sub_cancel, HX.out]
            exact hxy
          · exact HA.out j (by omega) h2
      · have hd3 : decide (y < x) = false := decide_eq_false hxy
        go_wp2_with fail
        go_region
        go_wp2
        go_ret
        refine ⟨s + 1, q + 1, rfl, ⟨by rw [HL.out]; exact ht, fun j h1 h2 => HA.out j h1 (by rw [← HL.out]; exact h2), fun _ => ?_⟩, rfl⟩
        rw [HY.out, Nat.add_sub_cancel, HX.out]
        omega

/-! ### The next list -/

theorem IsTail.falls {p : List Int} {t : Nat} (h : IsTail p t) : (p.drop t).Pairwise (· > ·) := by
  refine pairwise_of_sortedTo (r := (· > ·)) ?_
  have key : ∀ d i, t + i + d + 1 < p.length → p.getD (t + i + d + 1) 0 < p.getD (t + i) 0 := by
    intro d
    induction d with
    | zero => intro i hi; have := h.2.1 (t + i + 1) (by omega) (by omega); rwa [Nat.add_sub_cancel] at this
    | succ d ih =>
      intro i hi
      have h1 := ih i (by omega)
      have h2 := h.2.1 (t + i + d + 1 + 1) (by omega) (by omega)
      rw [Nat.add_sub_cancel] at h2
      rw [show t + i + (d + 1) + 1 = t + i + d + 1 + 1 by omega]
      omega
  intro a b hab hb
  rw [List.length_drop] at hb
  have := key (b - a - 1) a (by omega)
  rw [show t + a + (b - a - 1) + 1 = t + b by omega] at this
  simpa [List.getD_eq_getElem?_getD] using this

theorem swapAt_mid (pre u v : List Int) (x y : Int) : swapAt (pre ++ x :: (u ++ y :: v)) pre.length (pre.length + 1 + u.length) = pre ++ y :: (u ++ x :: v) := by
  unfold swapAt
  have e1 : (pre ++ x :: (u ++ y :: v)).getD pre.length 0 = x := by simp [List.getD_eq_getElem?_getD]
  have e2 : (pre ++ x :: (u ++ y :: v)).getD (pre.length + 1 + u.length) 0 = y := by
    rw [List.getD_eq_getElem?_getD, List.getElem?_append_right (by omega), show pre.length + 1 + u.length - pre.length = u.length + 1 by omega, List.getElem?_cons_succ, List.getElem?_append_right (Nat.le_refl _)]
    simp
  rw [e1, e2, List.set_append_right _ _ (Nat.le_refl _), Nat.sub_self, List.set_cons_zero, List.set_append_right _ _ (by omega), show pre.length + 1 + u.length - pre.length = u.length + 1 by omega, List.set_cons_succ,
    List.set_append_right _ _ (Nat.le_refl _), Nat.sub_self, List.set_cons_zero]

/-- The end of a list, from t on, the other way round. -/
def revFrom (xs : List Int) (t : Nat) : List Int := xs.take t ++ (xs.drop t).reverse

theorem next_list {p : List Int} {t l : Nat} (h : IsTail p t) (ht : 0 < t) (hl : t ≤ l) (hln : l < p.length) (hx : p.getD (t - 1) 0 < p.getD l 0) (hv : ∀ j, l < j → j < p.length → p.getD j 0 < p.getD (t - 1) 0) :
    (revFrom (swapAt p (t - 1) l) t).Perm p ∧ rk (revFrom (swapAt p (t - 1) l) t) = rk p + 1 := by
  have e1 : p.drop (t - 1) = p.getD (t - 1) 0 :: p.drop t := by
    rw [List.drop_eq_getElem_cons (by omega), show t - 1 + 1 = t by omega, List.getD_eq_getElem?_getD, List.getElem?_eq_getElem (by omega)]; rfl
  have e2 : p.drop l = p.getD l 0 :: p.drop (l + 1) := by
    rw [List.drop_eq_getElem_cons hln, List.getD_eq_getElem?_getD, List.getElem?_eq_getElem hln]; rfl
  have e3 : p.drop t = (p.drop t).take (l - t) ++ p.getD l 0 :: p.drop (l + 1) := by
    rw [← e2]
    have := (List.take_append_drop (l - t) (p.drop t)).symm
    rwa [List.drop_drop, show t + (l - t) = l by omega] at this
  have hf := h.falls
  have hv2 : ∀ z, z ∈ p.drop (l + 1) → z < p.getD (t - 1) 0 := fun z hz => by
    obtain ⟨i, hi, rfl⟩ := mem_getD hz
    rw [List.length_drop] at hi
    have := hv (l + 1 + i) (by omega) (by omega)
    simpa [List.getD_eq_getElem?_getD] using this
  have hul : ((p.drop t).take (l - t)).length = l - t := by rw [List.length_take, List.length_drop]; omega
  have hpl : (p.take (t - 1)).length = t - 1 := by rw [List.length_take]; omega
  have e0 : p = p.take (t - 1) ++ p.getD (t - 1) 0 :: ((p.drop t).take (l - t) ++ p.getD l 0 :: p.drop (l + 1)) := by
    rw [← e3, ← e1, List.take_append_drop]
  rw [e3] at hf
  generalize p.getD (t - 1) 0 = x at *
  generalize p.getD l 0 = y at *
  generalize p.drop (l + 1) = v at *
  generalize (p.drop t).take (l - t) = u at *
  generalize p.take (t - 1) = pre at *
  clear e1 e2 e3 h hv
  have hs : swapAt p (t - 1) l = pre ++ y :: (u ++ x :: v) := by
    have := swapAt_mid pre u v x y
    rwa [hpl, hul, show t - 1 + 1 + (l - t) = l by omega, ← e0] at this
  have hr : revFrom (swapAt p (t - 1) l) t = pre ++ y :: (u ++ x :: v).reverse := by
    rw [hs]
    unfold revFrom
    have : pre ++ y :: (u ++ x :: v) = (pre ++ [y]) ++ (u ++ x :: v) := by simp
    rw [this, List.take_left' (by simp; omega), List.drop_left' (by simp; omega)]
    simp
  have hp : (y :: (u ++ x :: v).reverse).Perm (x :: (u ++ y :: v)) := by
    refine ((List.reverse_perm (u ++ x :: v)).cons y).trans ?_
    refine (List.perm_middle.cons y).trans ((List.Perm.swap _ _ _).trans ((List.perm_middle.symm).cons x))
  have hb := rk_behind pre hp
  have hc := next_core hf hx hv2
  rw [hr]
  constructor
  · rw [e0]
    exact hp.append_left pre
  · have : rk p = rk (pre ++ x :: (u ++ y :: v)) := by rw [← e0]
    omega

theorem swapAt_append {a b : List Int} {s i j : Nat} (hs : a.length = s) : swapAt (a ++ b) (s + i) (s + j) = a ++ swapAt b i j := by
  subst hs
  unfold swapAt
  have e : ∀ k, (a ++ b).getD (a.length + k) 0 = b.getD k 0 := fun k => by
    rw [List.getD_eq_getElem?_getD, List.getElem?_append_right (by omega), Nat.add_sub_cancel_left, List.getD_eq_getElem?_getD]
  rw [e, e, List.set_append_right _ _ (by omega), Nat.add_sub_cancel_left, List.set_append_right _ _ (by omega), Nat.add_sub_cancel_left]

set_option maxHeartbeats 800000 in
/-- 'slices.Reverse(s[t:])', s the call's own. -/
theorem reverse_sub (base g n cap t c : Nat) (xs : List Int) (w : World) (h : OwnInts w base (.slice (some ⟨g, 0, none⟩) n cap) xs) (hl : xs.length = n) (htn : t ≤ n) (_hn : n ≤ 1000000) :
    Calls Try.prog 64 #[.slice (some ⟨g, t, none⟩) (n - t) c] w fun e w' =>
      e = .returned (.tuple #[]) ∧ OwnInts w' base (.slice (some ⟨g, 0, none⟩) n cap) (revFrom xs t) ∧ w.grownBy w' (some g) := by
  have HO := hid h
  have HL := hid hl
  obtain ⟨m0, hm0⟩ : ∃ m0, n - t = m0 := ⟨_, rfl⟩
  have HD : Hid ((xs.drop t).length = m0) := by rw [List.length_drop, hl]; exact hm0
  have HT : Hid ((xs.take t).length = t) := by rw [List.length_take, hl]; exact Nat.min_eq_left htn
  have hm1 : m0 + t ≤ n := by omega
  rw [hm0]
  clear h hl hm0
  go_enter Try.func64, Try.ntmps64
  go_wp2
  go_loopg [2, 3] m0 (fun gh s u wr => ∃ k : Nat, k ≤ m0 ∧ m0 - k ≤ gh ∧ s = .int .i64 k ∧ u = .int .i64 ((m0 : Int) - 1 - k) ∧ OwnInts wr base (.slice (some ⟨g, 0, none⟩) n cap) (xs.take t ++ revUpto (xs.drop t) k) ∧ w.grownBy wr (some g))
  case atStart => exact ⟨0, Nat.zero_le _, by omega, rfl, by go_num, by rw [revUpto_zero, List.take_append_drop]; exact HO.out, one_refl _ _⟩
  case round =>
    obtain ⟨k, hk, hg, rfl, rfl, hown, hgrow⟩ := hrel
    have HO2 := hid hown
    have HG2 := hid hgrow
    clear hown hgrow
    by_cases hlt : k + k + 1 < m0
    · obtain ⟨m, hmk⟩ : ∃ m, m + k + 1 = m0 := ⟨m0 - 1 - k, by omega⟩
      have hkm : k < m := by omega
      have hj : (m0 : Int) - 1 - k = m := by omega
      have HJ := hid hj
      have HMK := hid hmk
      have hmn : m < m0 := by omega
      have hkn : k < m0 := by omega
      have hlr : (xs.take t ++ revUpto (xs.drop t) k).length = n := by rw [List.length_append, length_revUpto, HT.out, HD.out]; have := HL.out; have := HD.out; rw [List.length_drop] at this; omega
      rw [HJ.out]
      have hO : OwnInts wr base (.slice (some ⟨g, 0, none⟩) (xs.take t ++ revUpto (xs.drop t) k).length cap) (xs.take t ++ revUpto (xs.drop t) k) := by rw [hlr]; exact HO2.out
      have g1 : wr.cell? ⟨g, t + k, none⟩ = some (.int .i64 ((xs.take t ++ revUpto (xs.drop t) k).getD (t + k) 0)) := hO.cell (by omega)
      have g2 : wr.cell? ⟨g, t + m, none⟩ = some (.int .i64 ((xs.take t ++ revUpto (xs.drop t) k).getD (t + m) 0)) := hO.cell (by omega)
      have f1 : wr.frozen? ⟨g, t + k, none⟩ = false := hO.frozen _
      have f2 : wr.frozen? ⟨g, t + m, none⟩ = false := hO.frozen _
      have HST : Hid (swapAt (xs.take t ++ revUpto (xs.drop t) k) (t + k) (t + m) = xs.take t ++ revUpto (xs.drop t) (k + 1)) := by
        rw [swapAt_append HT.out, revUpto_step (by rw [HD.out]; exact hmk) hkm]; exact rfl
      have HSW : Hid (swapAt (xs.take t ++ revUpto (xs.drop t) k) (t + k) (t + m) = ((xs.take t ++ revUpto (xs.drop t) k).set (t + k) ((xs.take t ++ revUpto (xs.drop t) k).getD (t + m) 0)).set (t + m) ((xs.take t ++ revUpto (xs.drop t) k).getD (t + k) 0)) := rfl
      have HLR := hid hlr
      clear hO hlr hj hmk
      generalize (xs.take t ++ revUpto (xs.drop t) k).getD (t + k) 0 = x at g1 HSW
      generalize (xs.take t ++ revUpto (xs.drop t) k).getD (t + m) 0 = y at g2 HSW
      go_wp2_with fail
      go_region
      go_wp2
      have hmk := HMK.out
      go_roundg (m0 - (k + 1))
      case measure => omega
      case rel =>
        refine ⟨k + 1, by omega, by omega, by go_num, by go_num, ?_, ?_⟩
        · rw [← HST.out, HSW.out]
          exact ((HO2.out.set HLR.out.symm (t + k) y).set (by rw [List.length_set]; exact HLR.out.symm) (t + m) x).drew
        · exact one_drewN (one_set (one_set HG2.out (t + k) _) (t + m) _) 1
    · have hd : ¬ ((k : Int) < (m0 : Int) - 1 - k) := by omega
      go_wp2
      go_end0
      refine ⟨rfl, ?_, HG2.out⟩
      unfold revFrom
      rw [← revUpto_end (xs := xs.drop t) (k := k) (by rw [HD.out]; omega)]
      exact HO2.out

/-! ### Next -/

/-- There is a last one behind the tail that is greater. -/
theorem find_last {p : List Int} (hp : IsPerm p) {t : Nat} (h : IsTail p t) (ht : 0 < t) : ∀ d, d ≤ p.length - 1 - t → (∀ j, p.length - 1 - d < j → j < p.length → p.getD j 0 < p.getD (t - 1) 0) →
    ∃ l, t ≤ l ∧ l < p.length ∧ p.getD (t - 1) 0 < p.getD l 0 ∧ ∀ j, l < j → j < p.length → p.getD j 0 < p.getD (t - 1) 0 := by
  have hlen : t < p.length := by have := h.1; omega
  have hnd := nodup_iff_getD.1 hp.nodup
  intro d
  generalize he : p.length - 1 - t - d = r
  induction r generalizing d with
  | zero =>
    intro hd hall
    refine ⟨t, Nat.le_refl _, hlen, ?_, fun j h1 h2 => hall j (by omega) h2⟩
    have h1 := h.2.2 ht
    have h2 := hnd (t - 1) t (by omega) hlen
    omega
  | succ r ih =>
    intro hd hall
    by_cases hc : p.getD (t - 1) 0 < p.getD (p.length - 1 - d) 0
    · exact ⟨p.length - 1 - d, by omega, by omega, hc, fun j h1 h2 => hall j h1 h2⟩
    · refine ih (d + 1) (by omega) (by omega) fun j h1 h2 => ?_
      by_cases e : j = p.length - 1 - d
      · subst e
        have := hnd (t - 1) (p.length - 1 - d) (by omega) (by omega)
        omega
      · exact hall j (by omega) h2
theorem last_tail {p : List Int} (hp : IsPerm p) {t : Nat} (h : IsTail p t) (ht : 0 < t) (hl : rk p + 1 = fact p.length) : False := by
  obtain ⟨l, h1, h2, h3, h4⟩ := find_last hp h ht 0 (by omega) (fun j h1 h2 => by omega)
  have h5 := next_list h ht h1 h2 h3 h4
  have h6 := rk_lt (revFrom (swapAt p (t - 1) l) t)
  rw [h5.1.length_eq] at h6
  omega

def RetNext (w : World) (p : List Int) (e : Ending) (w' : World) : Prop := ∃ A c q, e = .returned (.tuple #[.slice A p.length c, .int .i64 0]) ∧ Ints w' A p.length q ∧ Cap p.length c ∧ Below w.heap.size w w' ∧ q.Perm p ∧ rk q = rk p + 1

/-- The same; the list lies in a block that is new. -/
def RetNextO (w : World) (p : List Int) (e : Ending) (w' : World) : Prop := ∃ g c q, e = .returned (.tuple #[.slice (some ⟨g, 0, none⟩) p.length c, .int .i64 0]) ∧ w.heap.size ≤ g ∧ Ints w' (some ⟨g, 0, none⟩) p.length q ∧ Cap p.length c ∧ Below w.heap.size w w' ∧ q.Perm p ∧ rk q = rk p + 1

set_option maxHeartbeats 1600000 in
theorem next_own (A : Option Addr) (n c : Nat) (p : List Int) (w : World) (hA : Ints w A n p) (hp : permErr p = 0) (hlast : rk p + 1 < fact n) :
    Calls Try.prog 36 #[.slice A n c] w (RetNextO w p) := by
  have hn10 : n ≤ 10 := by rw [← hA.len]; exact (permErr_ok.1 hp).1
  have HPP := hid (permErr_ok.1 hp).2
  have HL := hid hA.len
  go_enter Try.func36, Try.ntmps36
  go_wp2_with fail
  refine (check_any A n c p _ hA (by omega)).mono ?_
  rintro e w1 ⟨rfl, hb1⟩
  have hA1 := hA.keep hb1
  have HB1 := hid hb1
  clear hA hb1
  go_wp2_with fail
  refine (fallingTail_any A n c p _ hA1 (by omega)).mono ?_
  rintro e w2 ⟨t, q, rfl, htail, rfl⟩
  have hA2 := hA1.drewN q
  have HB2 := hid (below_drewN HB1.out q)
  have HTL := hid htail
  have ht0 : 0 < t := by
    rcases Nat.eq_zero_or_pos t with h0 | h0
    · subst h0
      have := rk_falls (HTL.out.falls)
      rw [List.drop_zero, HL.out] at this
      omega
    · exact h0
  have htn : t ≤ n - 1 := by rw [← HL.out]; exact htail.1
  have ht1 : ((t : Int) == 0) = false := by simp; omega
  clear htail hA1 HB1
  generalize w1.drewN q = w2 at hA2 HB2 ⊢
  go_wp2_with fail
  refine (clone_any A n c p _ hA2 (by omega)).mono ?_
  rintro e w3 ⟨v, rfl, hown, hb3⟩
  have HB3 := hid (below_step HB2.out (Nat.le_refl _) hb3)
  have hlp : p.length = n := HL.out
  obtain ⟨g, cap, rfl, hgb, hgs, hcap⟩ := hown.form (by omega)
  rw [hlp] at hown hcap
  have HO := hid hown
  have hgw : w.heap.size ≤ g := Nat.le_trans HB2.out.size hgb
  have HGW := hid hgw
  have HNE := hid hlp
  rw [hlp]
  clear hown hb3 hlp hgb hgw HB2 hA2
  obtain ⟨s, rfl⟩ : ∃ s, t = s + 1 := ⟨t - 1, by omega⟩
  have HC : Hid (∀ j, j < n → w3.cell? ⟨g, j, none⟩ = some (.int .i64 (p.getD j 0))) := fun j hj => by
    have h := HO.out
    rw [← HL.out] at h
    exact h.cell (by rw [HL.out]; exact hj)
  have HF : Hid (∀ j, w3.frozen? ⟨g, j, none⟩ = false) := fun j => by
    have h := HO.out
    rw [← HL.out] at h
    exact h.frozen j
  have g1 := HC.out s (by omega)
  have HND := hid (nodup_iff_getD.1 HPP.out.nodup)
  go_wp2_with fail
  go_loopg [7] n (fun gh u wr => ∃ l q : Nat, s + 1 ≤ l ∧ l < n ∧ l ≤ gh ∧ u = .int .i64 l ∧ wr = w3.drewN q ∧ ∀ j, l < j → j < n → p.getD j 0 < p.getD s 0)
  case atStart => exact ⟨n - 1, 0, by omega, by omega, by omega, by go_num, rfl, fun j h1 h2 => by omega⟩
  case round =>
    obtain ⟨l, q, hl1, hl2, hg, rfl, hq, hall⟩ := hrel
    have HQ := hid hq
    have HA := hid hall
    have g1' : wr.cell? ⟨g, s, none⟩ = some (.int .i64 (p.getD s 0)) := by rw [hq]; exact g1
    have g2' : wr.cell? ⟨g, l, none⟩ = some (.int .i64 (p.getD l 0)) := by rw [hq]; exact HC.out l hl2
    have f1' : wr.frozen? ⟨g, s, none⟩ = false := by rw [hq]; exact HF.out s
    have f2' : wr.frozen? ⟨g, l, none⟩ = false := by rw [hq]; exact HF.out l
    clear hq hall g1
    generalize hx : p.getD s 0 = x at g1'
    generalize hy : p.getD l 0 = y at g2'
    have HX := hid hx
    have HY := hid hy
    clear hx hy
    by_cases hyx : y < x
    · have hsl : s + 1 < l := by
        rcases Nat.lt_or_ge (s + 1) l with h | h
        · exact h
        · have e : l = s + 1 := by omega
          have := HTL.out.2.2 (by omega)
          rw [← e, HY.out, show l - 1 = s by omega, HX.out] at this
          omega
      go_wp2_with fail
      go_region
      go_wp2
      go_roundg (l - 1)
      case measure => omega
      case rel =>
        refine ⟨l - 1, q + 1, by omega, by omega, by omega, by go_num, by rw [HQ.out]; rfl, fun j h1 h2 => ?_⟩
        rw [HX.out]
        by_cases e : j = l
        · subst e
          rw [HY.out]
          exact hyx
        · have := HA.out j (by omega) h2
          rwa [HX.out] at this
    · have HLT : Hid (x < y) := by
        have := HND.out s l (by omega) (by rw [HL.out]; exact hl2)
        rw [HX.out, HY.out] at this
        show x < y
        omega
      have HNX : Hid ((revFrom (swapAt p s l) (s + 1)).Perm p ∧ rk (revFrom (swapAt p s l) (s + 1)) = rk p + 1) := by
        have := next_list (p := p) (t := s + 1) (l := l) HTL.out (by omega) hl1 (by rw [HL.out]; exact hl2) (by rw [Nat.add_sub_cancel, HX.out, HY.out]; exact HLT.out) (fun j h1 h2 => by rw [Nat.add_sub_cancel]; exact HA.out j h1 (by rw [← HL.out]; exact h2))
        rwa [Nat.add_sub_cancel] at this
      have HSW : Hid (swapAt p s l = (p.set s y).set l x) := by unfold swapAt; rw [HX.out, HY.out]; exact rfl
      have HOW : Hid (OwnInts wr w2.heap.size (.slice (some ⟨g, 0, none⟩) n cap) p) := by rw [HQ.out]; exact HO.out
      have HBW : Hid (Below w.heap.size w wr) := by rw [HQ.out]; exact below_drewN HB3.out q
      have hne : l ≠ s := by omega
      have hle : s < l := by omega
      clear HQ HA HC HF HO HB3 HTL
      go_wp2_with fail
      go_region
      go_wp2_with fail
      go_region
      have hfr := fun W => run_from (some ⟨g, 0, none⟩) n cap (s + 1) ((s : Int) + 1) (by omega) (by omega) W
      have hsA : subA (some ⟨g, 0, none⟩) cap (s + 1) = some ⟨g, s + 1, none⟩ := by unfold subA; rw [if_neg (by omega)]; simp [Addr.add]
      simp only [hsA] at hfr
      clear hsA
      go_wp2_with fail
      refine (reverse_sub w2.heap.size g n cap (s + 1) _ ((p.set s y).set l x) _ ((HOW.out.set HNE.out.symm s y).set (by rw [List.length_set]; exact HNE.out.symm) l x).drew.drew (by rw [List.length_set, List.length_set]; exact HNE.out) (by omega) (by omega)).mono ?_
      rintro e w4 ⟨rfl, hown4, hone⟩
      have hb3 := ((HBW.out.setCell (p := ⟨g, s, none⟩) HGW.out (.int .i64 y)).setCell (p := ⟨g, l, none⟩) HGW.out (.int .i64 x)).drew.drew
      have HB4 := hid (below_one hb3 HGW.out hb3.size hone)
      obtain ⟨A', c', hv, hI, hcp⟩ := hown4.ints
      rw [← HSW.out] at hI hv hcp
      have hl4 : (revFrom (swapAt p s l) (s + 1)).length = n := by rw [HNX.out.1.length_eq]; exact HNE.out
      rw [hl4] at hI hv hcp
      injection hv with hv1 _ hv2
      subst hv1
      subst hv2
      have HI := hid hI
      have HCP := hid hcp
      clear hone hown4 hb3 hfr hI hcp hl4
      go_wp2
      go_ret2
      exact ⟨g, cap, revFrom (swapAt p s l) (s + 1), by rw [HNE.out]; rfl, HGW.out, by rw [HNE.out]; exact HI.out, by rw [HNE.out]; exact HCP.out, HB4.out, HNX.out.1, HNX.out.2⟩
theorem next_ok (A : Option Addr) (n c : Nat) (p : List Int) (w : World) (hA : Ints w A n p) (hp : permErr p = 0) (hlast : rk p + 1 < fact n) :
    Calls Try.prog 36 #[.slice A n c] w (RetNext w p) :=
  (next_own A n c p w hA hp hlast).mono fun _ _ ⟨_, c', q, he, _, hI, hc, hb, hp', hr⟩ => ⟨_, c', q, he, hI, hc, hb, hp', hr⟩

set_option maxHeartbeats 800000 in
theorem next_last (A : Option Addr) (n c : Nat) (p : List Int) (w : World) (hA : Ints w A n p) (hp : permErr p = 0) (hlast : rk p + 1 = fact n) :
    Calls Try.prog 36 #[.slice A n c] w fun e w' => e = .returned (.tuple #[.slice none 0 0, .int .i64 4]) ∧ Below w.heap.size w w' := by
  have hn10 : n ≤ 10 := by rw [← hA.len]; exact (permErr_ok.1 hp).1
  have HPP := hid (permErr_ok.1 hp).2
  have HL := hid hA.len
  have HLA := hid hlast
  clear hlast
  go_enter Try.func36, Try.ntmps36
  go_wp2_with fail
  refine (check_any A n c p _ hA (by omega)).mono ?_
  rintro e w1 ⟨rfl, hb1⟩
  have hA1 := hA.keep hb1
  have HB1 := hid hb1
  clear hA hb1
  go_wp2_with fail
  refine (fallingTail_any A n c p _ hA1 (by omega)).mono ?_
  rintro e w2 ⟨t, q, rfl, htail, rfl⟩
  have ht0 : t = 0 := by
    rcases Nat.eq_zero_or_pos t with h0 | h0
    · exact h0
    · exfalso
      exact last_tail HPP.out htail h0 (by rw [HL.out]; exact HLA.out)
  subst ht0
  go_wp2
  go_ret2
  exact ⟨rfl, below_drewN HB1.out q⟩

end Go.Proofs.Ytcnljljgdkjndaa

/-
  Words of my own for a row of rows of ints that the call made.
-/
namespace Go.Proofs.Ytcnljljgdkjndaa
open Go.RowKit

/-- v is the call's own row of rows; each of them lies in memory of its own. -/
def Rows2 (w : World) (base : Nat) (v : Value) (xss : List (List Int)) : Prop :=
  ∃ vals : List Value, vals.length = xss.length ∧ w.ownsRow base 44 1 v vals.length vals ∧ ∀ j, j < xss.length → OwnInts w 0 (vals.getD j (.slice none 0 0)) (xss.getD j [])

theorem infoRow : (Try.prog.info? 44).map (fun i => (i.zero, i.size, i.bytes)) = some (some (.slice none 0 0), 1, 24) := by kernel_rfl

theorem Rows2.nil (w : World) (base : Nat) : Rows2 w base (.slice none 0 0) [] := ⟨[], rfl, World.ownsRow_nil w base 44 1, fun _ hj => absurd hj (Nat.not_lt_zero _)⟩

theorem own_keep {w w' : World} {base e size n : Nat} {v : Value} {xs : List Value} (h : w.ownsRow base e size v n xs) (hb : Below w.heap.size w w') : w'.ownsRow base e size v n xs := by
  refine ⟨h.1, ?_⟩
  rcases h.2 with h0 | ⟨g, cap, cur, hv, hg, hh, r⟩
  · exact .inl h0
  · exact .inr ⟨g, cap, cur, hv, hg, (hb.block g (Array.getElem?_eq_some_iff.1 hh).1).trans hh, r⟩
theorem own_mono {w : World} {base base' e size n : Nat} {v : Value} {xs : List Value} (h : w.ownsRow base e size v n xs) (hb : base' ≤ base) : w.ownsRow base' e size v n xs := by
  refine ⟨h.1, ?_⟩
  rcases h.2 with h0 | ⟨g, cap, cur, hv, hg, r⟩
  · exact .inl h0
  · exact .inr ⟨g, cap, cur, hv, Nat.le_trans hb hg, r⟩
theorem Rows2.keep {w w' : World} {base : Nat} {v : Value} {xss : List (List Int)} (h : Rows2 w base v xss) (hb : Below w.heap.size w w') : Rows2 w' base v xss := by
  obtain ⟨vals, hl, ho, hv⟩ := h
  exact ⟨vals, hl, own_keep ho hb, fun j hj => (hv j hj).keep hb⟩
theorem Rows2.mono {w : World} {base base' : Nat} {v : Value} {xss : List (List Int)} (h : Rows2 w base v xss) (hb : base' ≤ base) : Rows2 w base' v xss := by
  obtain ⟨vals, hl, ho, hv⟩ := h
  exact ⟨vals, hl, own_mono ho hb, hv⟩
/-- Another kind of row has grown: this one is as it was. -/
theorem OwnInts.other {w w' : World} {base base2 n : Nat} {v u : Value} {xs : List Int} {ys : List Value} (h : OwnInts w base v xs) (ho : w.ownsRow base2 44 1 u n ys) (hg : w.grownBy w' u.ownBlock) : OwnInts w' base v xs := by
  refine World.ownsRow.kept h hg ?_
  rcases h.2 with ⟨rfl, _⟩ | ⟨g, cap, cur, rfl, _, hh, _⟩
  · exact .inl rfl
  · right
    rcases ho.2 with ⟨rfl, _⟩ | ⟨g2, cap2, cur2, rfl, _, hh2, _⟩
    · simp [Value.ownBlock]
    · simp only [Value.ownBlock, ne_eq, Option.some.injEq]
      intro e
      rw [e, hh2] at hh
      injection hh with hh
      injection hh with _ hh
      exact absurd hh (by decide)

/-- What lies at place j. -/
theorem Rows2.at {w : World} {base : Nat} {v : Value} {xss : List (List Int)} (h : Rows2 w base v xss) {j : Nat} (hj : j < xss.length) :
    ∃ g cap u, v = .slice (some ⟨g, 0, none⟩) xss.length cap ∧ w.cell? ⟨g, j, none⟩ = some u ∧ OwnInts w 0 u (xss.getD j []) := by
  obtain ⟨vals, hl, ho, hv⟩ := h
  rcases ho.2 with ⟨_, h0⟩ | ⟨g, cap, cur, rfl, _, hh, _⟩
  · omega
  · refine ⟨g, cap, vals.getD j (.slice none 0 0), by rw [hl], ?_, hv j hj⟩
    rw [World.ownsRow.cellAt ho j (by omega), List.getD_eq_getElem?_getD, List.getElem?_eq_getElem (by omega)]
    rfl
/-- The row's own length. -/
theorem Rows2.form {w : World} {base : Nat} {v : Value} {xss : List (List Int)} (h : Rows2 w base v xss) : ∃ A c, v = .slice A xss.length c ∧ Cap xss.length c := by
  obtain ⟨vals, hl, ho, _⟩ := h
  rw [hl] at ho
  rcases ho.2 with ⟨rfl, h0⟩ | ⟨g, cap, cur, rfl, _, _, h1, h2, _⟩
  · exact ⟨none, 0, by rw [h0], by rw [h0]; exact ⟨Nat.le_refl _, by omega⟩⟩
  · exact ⟨_, _, rfl, h1, by unfold maxLen at h2; exact h2⟩

theorem cell_oneV (W : World) (y : Value) : ∀ j u, [y][j]? = some u → (W.alloc (.cells #[y] 44)).cell? ((⟨W.heap.size, 0, none⟩ : Addr).add j) = some u := by
  intro j u hj
  match j, hj with
  | 0, hj => simp at hj; subst hj; simp [Addr.add]
theorem own_oneCell {w : World} {base : Nat} {v : Value} {xs : List Int} (h : OwnInts w base v xs) : v.oneCell' = true := by
  obtain ⟨A, c, rfl, _⟩ := h.ints
  rfl

/-- Two rows that do not lie in one block. -/
def ApartV (v u : Value) : Prop := ∀ k, v.ownBlock = some k → u.ownBlock ≠ some k
theorem Rows2.other {w w' : World} {base base2 n : Nat} {v u : Value} {xss : List (List Int)} {ys : List Value} (h : Rows2 w base v xss) (ho : w.ownsRow base2 44 1 u n ys) (ha : ApartV u v) (hg : w.grownBy w' u.ownBlock) : Rows2 w' base v xss := by
  obtain ⟨vals, hl, hv, he⟩ := h
  refine ⟨vals, hl, World.ownsRow.kept hv hg ?_, fun j hj => (he j hj).other ho hg⟩
  rcases e : v.ownBlock with _ | k
  · exact .inl rfl
  · right
    intro e2
    exact ha k e2.symm e
theorem Rows2.lt {w : World} {base : Nat} {v : Value} {xss : List (List Int)} (h : Rows2 w base v xss) : ∀ k, v.ownBlock = some k → base ≤ k ∧ k < w.heap.size := by
  obtain ⟨vals, _, hv, _⟩ := h
  exact World.ownsRow.lt hv

/-- 'out = append(out, y)', y a row of ints: the world has laid y in a block of its own first; another row of rows stays as it was. -/
theorem wpList_appRow {ops : Array Oper} {rest : List Oper} {o : Oper} {a : Act} {Q : Exit → Act → World → Prop} (W : World) (hgd : o.guard = none) (s x : Operand)
    (ho : o.op = .call { callee := .builtin .append, args := #[s, x], argTypes := #[51, 51] })
    (base : Nat) (v : Value) (xss : List (List Int)) (y : Value) (ys : List Int) (hs : a.eval s = v) (hx : a.eval x = .slice (some ⟨W.heap.size, 0, none⟩) 1 1) (hown : Rows2 W base v xss) (hy : OwnInts W 0 y ys)
    (v1 : Value) (L : List (List Int)) (hv1 : Rows2 W 0 v1 L) (hap : ApartV v v1)
    (hlen : xss.length ≤ 1000000000000) (hbase : base ≤ W.heap.size)
    (h : ∀ v' w', Rows2 w' base v' (xss ++ [ys]) → Rows2 w' 0 v1 L → ApartV v' v1 → Below base W w' → wpList Try.prog ops Q rest (a.put o.dst v') w') :
    wpList Try.prog ops Q (o :: rest) a (W.alloc (.cells #[y] 44)) := by
  obtain ⟨i0, hi, hz0, hz1, hz2⟩ := info_parts infoRow
  obtain ⟨vals, hl, hv, he⟩ := hown
  refine wpList_append_own_at _ hgd s x 51 ho base 44 i0 (.slice none 0 0) 1 24 Try.underlying51 hi hz0 hz1 hz2 rfl (by decide) v vals.length vals hs (World.ownsRow.alloc hv _)
    ⟨W.heap.size, 0, none⟩ 1 1 [y] hx rfl (cell_oneV W y) (by intro u hu; simp at hu; subst hu; exact own_oneCell hy) (by unfold maxLen; omega) (by omega) (by simp; omega) ?_
  intro v' w' h1 h2 _ hat
  have hg : W.grownBy w' v.ownBlock := ⟨h2.os, h2.tape, h2.output, Nat.le_trans (by simp) h2.size, fun k hk hne => (h2.block k (by simp; omega) hne).trans (Below.heap_alloc W _ k hk)⟩
  refine h v' w' ⟨vals ++ [y], by simp [hl], by simpa using h1, fun j hj => ?_⟩ (hv1.other hv hap hg) ?_ ?_
  · rw [List.length_append] at hj
    simp only [List.length_cons, List.length_nil] at hj
    by_cases e : j < xss.length
    · have := (he j e).other hv hg
      simpa [List.getD_eq_getElem?_getD, List.getElem?_append_left (hl ▸ e), List.getElem?_append_left e] using this
    · have ej : j = xss.length := by omega
      subst ej
      have := hy.other hv hg
      rw [List.getD_eq_getElem?_getD, List.getD_eq_getElem?_getD, List.getElem?_append_right (by omega), List.getElem?_append_right (Nat.le_refl _), hl]
      simpa using this
  · intro k hk
    rcases hat with e | e
    · exact hap k (by rw [← e]; exact hk)
    · intro e2
      have h3 := hv1.lt k e2
      rw [e] at hk
      injection hk with hk
      have h4 : (W.alloc (.cells #[y] 44)).heap.size = W.heap.size + 1 := by simp
      omega
  · refine ⟨hg.os, hg.tape, hg.output, hg.size, fun k hk => hg.block k (by omega) (fun e => ?_)⟩
    have := World.ownsRow.lt hv k e.symm
    omega

/-- 'append([]int{X}, ys...)'. -/
theorem wpList_consL {ops : Array Oper} {rest : List Oper} {o : Oper} {a : Act} {Q : Exit → Act → World → Prop} (W : World) (hgd : o.guard = none) (s x : Operand)
    (ho : o.op = .call { callee := .builtin .append, args := #[s, x], argTypes := #[44, 44] })
    (X : Int) (hs : a.eval s = .slice (some ⟨W.heap.size, 0, none⟩) 1 1) (y : Value) (ys : List Int) (hx : a.eval x = y) (hy : OwnInts W 0 y ys) (hlen : ys.length ≤ 1000000)
    (h : ∀ v' w', OwnInts w' W.heap.size v' (X :: ys) → Below W.heap.size W w' → wpList Try.prog ops Q rest (a.put o.dst v') w') :
    wpList Try.prog ops Q (o :: rest) a (W.alloc (.cells #[.int .i64 X] 3)) := by
  have hO : OwnInts (W.alloc (.cells #[.int .i64 X] 3)) W.heap.size (.slice (some ⟨W.heap.size, 0, none⟩) 1 1) [X] := World.ownsRow_lit W #[.int .i64 X] 1 (Nat.le_refl _) (by unfold maxLen; omega) rfl
  have hB := below_alloc W (.cells #[.int .i64 X] 3)
  rcases hy.2 with ⟨rfl, h0⟩ | ⟨g, cap, cur, rfl, _, hh, _⟩
  · have hy0 : ys = [] := List.eq_nil_of_length_eq_zero h0
    subst hy0
    obtain ⟨i0, hi, _⟩ := info_parts infoInt
    refine wpList_append_own_none hgd s x 44 ho W.heap.size 3 i0 1 Try.underlying44 hi _ 1 _ hs hO hx ?_
    exact h _ _ hO hB
  · obtain ⟨A', c', e, hI, _⟩ := hy.ints
    injection e with e1 _ e3
    subst e1
    subst e3
    refine wpList_appN _ hgd s x ho W.heap.size _ [X] hs _ _ _ ys hx hO (hI.keep hB) (by simp; omega) (by simp) ?_
    intro v' w' h1 _ h3
    exact h v' w' h1 (hB.trans h3)

/-- One row, which is nil. -/
theorem Rows2.one (w : World) : Rows2 (w.alloc (.cells #[.slice none 0 0] 44)) w.heap.size (.slice (some ⟨w.heap.size, 0, none⟩) 1 1) [[]] :=
  ⟨[.slice none 0 0], rfl, World.ownsRow_lit w #[.slice none 0 0] 1 (Nat.le_refl _) (by unfold maxLen; omega) rfl, fun j hj => by
    have : j = 0 := by simpa using hj
    subst this
    exact OwnInts.nil _ _⟩

end Go.Proofs.Ytcnljljgdkjndaa
