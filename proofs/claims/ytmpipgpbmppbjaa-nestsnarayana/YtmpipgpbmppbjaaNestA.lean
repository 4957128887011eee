/-
  nests.inNest, endings, Count, Ahead.
-/
import Derived.Test.YtmpipgpbmppbjaaNestM
import Derived.Test.YtmpipgpbmppbjaaGen
import Derived.Deep.WholeRow
import Derived.Deep.OwnRows
namespace Go.Proofs.Ytmpipgpbmppbjaa
open Go.RowKit

/-- The cells below N done. -/
def cellB (N j : Nat) : Value := .int .i64 ((if j < N then bal (j / 16) (j % 16) else 0 : Nat) : Int)
def zero256 : Array Value := Array.replicate 256 (.int .i64 0)
theorem zero_ends : (∀ w, (zeroValue 41).run Try.prog w = .ok (.agg zero256) w) ∧ (Try.prog.info? 41).map (·.size) = some 256 :=
  zero_of_info (by kernel_rfl)
theorem cellB_step {N j : Nat} {x : Nat} (hx : x = bal (N / 16) (N % 16)) : (if j = N then Value.int .i64 (x : Int) else cellB N j) = cellB (N + 1) j := by
  unfold cellB
  by_cases e : j = N
  · subst e
    rw [if_pos rfl, if_pos (by omega), hx]
  · rw [if_neg e]
    by_cases h : j < N
    · rw [if_pos h, if_pos (by omega)]
    · rw [if_neg h, if_neg (by omega)]
theorem cellB_skip {o j : Nat} (ho : o < 16) : cellB (16 * o) j = cellB (16 * o + o) j := by
  unfold cellB
  by_cases h : j < 16 * o
  · rw [if_pos h, if_pos (by omega)]
  · rw [if_neg h]
    by_cases h2 : j < 16 * o + o
    · rw [if_pos h2, show j / 16 = o by omega, bal_low ho (by omega) (by omega)]
    · rw [if_neg h2]

def balCells : Array Value := ((List.range 256).map (fun k => Value.int .i64 ((bal (k / 16) (k % 16) : Nat) : Int))).toArray
theorem size_balCells : balCells.size = 256 := by simp [balCells]
theorem at_balCells {j : Nat} (h : j < 256) : balCells[j]? = some (.int .i64 ((bal (j / 16) (j % 16) : Nat) : Int)) := by
  simp [balCells, h]
theorem one_balCells : balCells.all (·.oneCell') = true := by
  rw [Array.all_eq_true_iff_forall_mem]
  intro v hv
  simp only [balCells, List.mem_toArray, List.mem_map] at hv
  obtain ⟨k, _, rfl⟩ := hv
  rfl
theorem row_bal {w : World} {b : Nat} (h : w.rowIs b 41 256 (cellB 256)) : w.heap[b]? = some (.cells balCells 41 (0, 0)) := by
  obtain ⟨c, h1, h2, h3⟩ := h
  have e : c = balCells := by
    apply Array.ext_getElem?
    intro i
    rcases Nat.lt_or_ge i 256 with hi | hi
    · rw [h3 i hi, at_balCells hi]
      unfold cellB
      rw [if_pos hi]
    · rw [Array.getElem?_eq_none (by omega), Array.getElem?_eq_none (by rw [size_balCells]; omega)]
  rw [h1, e]
theorem zero_start (w : World) : (w.alloc (.cells zero256 41)).rowIs w.heap.size 41 256 (cellB 0) := by
  have := World.rowIs_alloc w zero256 41 (cellB 0) (fun i hi => by
    have hi' : i < 256 := by simpa [zero256] using hi
    simp [zero256, cellB, hi'])
  simpa [zero256] using this
theorem nheap_setRow {w : World} {g t : Nat} {old cs : Array Value} (h : w.heap[g]? = some (.cells old t (0, 0))) : (w.setRow g cs).heap[g]? = some (.cells cs t (0, 0)) := by
  simp [World.setRow, Array.getElem?_modify, h]
theorem nbelow_setRow {B g : Nat} {a w : World} (h : Below B a w) (hg : B ≤ g) (cs : Array Value) : Below B a (w.setRow g cs) := by
  refine ⟨h.os, h.tape, h.output, by simpa [World.setRow] using h.size, fun i hi => ?_⟩
  rw [← h.block i hi]
  simp only [World.setRow, Array.getElem?_modify]
  rw [if_neg (by omega)]

set_option maxHeartbeats 1600000 in
set_option maxRecDepth 100000 in
theorem endings_ok (w : World) :
    Calls Try.prog 24 #[] w fun e w' => e = .returned (.agg balCells) ∧ Below w.heap.size w w' := by
  have hz := zero_ends.1
  have HS := hid (zero_start (w.alloc (.cells zero256 41)))
  have HZS : Hid (zero256.size = 256) := rfl
  generalize zero256 = Z at *
  go_enter Try.func24, Try.ntmps24
  go_wp2_with fail
  go_loopg [2, 5] 16 (fun g _ s wr => ∃ i : Nat, i ≤ 16 ∧ 16 - i ≤ g ∧ s = .int .i64 i ∧ wr.rowIs (w.heap.size + 1) 41 256 (cellB i) ∧ wr.heap[w.heap.size]? = some (.cells Z 41 (0, 0)) ∧ Below w.heap.size w wr)
  case atStart =>
    refine ⟨0, by omega, by omega, rfl, ?_, ?_, ((Below.refl _ _).alloc (Nat.le_refl _) _).alloc (by simp) _⟩
    · have := HS.out
      rw [show (w.alloc (.cells Z 41)).heap.size = w.heap.size + 1 by simp] at this
      exact this
    · rw [Below.heap_alloc _ _ _ (by simp)]
      exact heap_alloc_last w _
  case round =>
    obtain ⟨i, hi, hg, rfl, hrow, hzer, hbel⟩ := hrel
    have HR := hid hrow
    have HZ := hid hzer
    have HB := hid hbel
    clear hrow hzer hbel HS
    by_cases hlt : i < 16
    · have f1 : wr.frozen? ⟨w.heap.size + 1, i, none⟩ = false := HR.out.frozen i
      have g1 : wr.cell? ⟨w.heap.size + 1, i, none⟩ = some (cellB i i) := HR.out.cell (by omega)
      have HN := hid ((HR.out.set i (.int .i64 ((1 : Nat) : Int))).congr (fun j _ => cellB_step (N := i) (j := j) (x := 1) (by rw [show i / 16 = 0 by omega, show i % 16 = i by omega, bal_zero hlt])))
      have hiN : (i : Int) < 16 := by omega
      go_wp2
      go_roundg (16 - (i + 1))
      case measure => omega
      case rel =>
        refine ⟨i + 1, by omega, by omega, by go_num, HN.out, ?_, HB.out.setCell (Nat.le_succ _) _⟩
        rw [Below.heap_setCell _ _ _ _ (by simp)]
        exact HZ.out
    · have hi16 : i = 16 := by omega
      subst hi16
      go_wp2_with fail
      go_loopg [3, 4] 16 (fun g s _ wr => ∃ o : Nat, 1 ≤ o ∧ o ≤ 16 ∧ 16 - o ≤ g ∧ s = .int .i64 o ∧ wr.rowIs (w.heap.size + 1) 41 256 (cellB (16 * o)) ∧ wr.heap[w.heap.size]? = some (.cells Z 41 (0, 0)) ∧ Below w.heap.size w wr)
      case atStart => exact ⟨1, by omega, by omega, by omega, rfl, HR.out, HZ.out, HB.out⟩
      case round =>
        clear HR HZ HB
        obtain ⟨o, ho1, ho, hg, rfl, hrow, hzer, hbel⟩ := hrel
        have HR := hid hrow
        have HZ := hid hzer
        have HB := hid hbel
        clear hrow hzer hbel
        by_cases hlt : o < 16
        · have hd : decide (o ≤ 15) = true := decide_eq_true (by omega)
          go_wp2_with fail
          go_loopg [4] 16 (fun g s wr => ∃ c : Nat, o ≤ c ∧ c ≤ 16 ∧ 16 - c ≤ g ∧ s = .int .i64 c ∧ wr.rowIs (w.heap.size + 1) 41 256 (cellB (16 * o + c)) ∧ wr.heap[w.heap.size]? = some (.cells Z 41 (0, 0)) ∧ Below w.heap.size w wr)
          case atStart => exact ⟨o, by omega, by omega, by omega, rfl, HR.out.congr (fun j _ => cellB_skip hlt), HZ.out, HB.out⟩
          case round =>
            clear HR HZ HB
            obtain ⟨c, hoc, hc, hgc, rfl, hrow, hzer, hbel⟩ := hrel
            have HR := hid hrow
            have HZ := hid hzer
            have HB := hid hbel
            clear hrow hzer hbel
            by_cases hltc : c < 16
            · obtain ⟨p, rfl⟩ : ∃ p, o = p + 1 := ⟨o - 1, by omega⟩
              obtain ⟨q, rfl⟩ : ∃ q, c = q + 1 := ⟨c - 1, by omega⟩
              have g1 : wr.drew.cell? ⟨w.heap.size + 1, p * 16 + (q + 1), none⟩ = some (.int .i64 ((bal p (q + 1) : Nat) : Int)) := by
                rw [show wr.drew.cell? ⟨w.heap.size + 1, p * 16 + (q + 1), none⟩ = wr.cell? ⟨w.heap.size + 1, p * 16 + (q + 1), none⟩ from rfl, HR.out.cell (by omega)]
                unfold cellB
                rw [if_pos (by omega), show (p * 16 + (q + 1)) / 16 = p by omega, show (p * 16 + (q + 1)) % 16 = q + 1 by omega]
              have g2 : wr.drew.cell? ⟨w.heap.size + 1, (p + 1) * 16 + q, none⟩ = some (.int .i64 ((bal (p + 1) q : Nat) : Int)) := by
                rw [show wr.drew.cell? ⟨w.heap.size + 1, (p + 1) * 16 + q, none⟩ = wr.cell? ⟨w.heap.size + 1, (p + 1) * 16 + q, none⟩ from rfl, HR.out.cell (by omega)]
                unfold cellB
                rw [if_pos (by omega), show ((p + 1) * 16 + q) / 16 = p + 1 by omega, show ((p + 1) * 16 + q) % 16 = q by omega]
              have f1 : wr.drew.frozen? ⟨w.heap.size + 1, (p + 1) * 16 + (q + 1), none⟩ = false := HR.out.frozen _
              have g3 : wr.drew.cell? ⟨w.heap.size + 1, (p + 1) * 16 + (q + 1), none⟩ = some (cellB (16 * (p + 1) + (q + 1)) ((p + 1) * 16 + (q + 1))) := HR.out.cell (by omega)
              have c1 := bal_le (o := p) (c := q + 1) (by omega) (by omega)
              have c2 := bal_le (o := p + 1) (c := q) (by omega) (by omega)
              have HN : Hid ((wr.setCell ⟨w.heap.size + 1, (p + 1) * 16 + (q + 1), none⟩ (.int .i64 (((bal p (q + 1) : Nat) : Int) + ((bal (p + 1) q : Nat) : Int)))).rowIs (w.heap.size + 1) 41 256 (cellB (16 * (p + 1) + (q + 2)))) :=
                (HR.out.set ((p + 1) * 16 + (q + 1)) (.int .i64 (((bal p (q + 1) : Nat) : Int) + ((bal (p + 1) q : Nat) : Int)))).congr (fun j _ => by
                  rw [show (p + 1) * 16 + (q + 1) = 16 * (p + 1) + (q + 1) by omega, show 16 * (p + 1) + (q + 2) = 16 * (p + 1) + (q + 1) + 1 by omega, ← cellB_step (N := 16 * (p + 1) + (q + 1)) (j := j) (x := bal p (q + 1) + bal (p + 1) q) (by rw [show (16 * (p + 1) + (q + 1)) / 16 = p + 1 by omega, show (16 * (p + 1) + (q + 1)) % 16 = q + 1 by omega, bal_step (by omega) (by omega)]), Int.natCast_add])
              have hpN : (p : Int) + 1 < 16 := by omega
              have hqN : (q : Int) + 1 < 16 := by omega
              generalize bal p (q + 1) = x1 at *
              generalize bal (p + 1) q = x2 at *
              go_wp2_with fail
              go_region
              go_wp2
              go_roundg (16 - (q + 2))
              case measure => omega
              case rel =>
                refine ⟨q + 2, by omega, by omega, by omega, by go_num, HN.out, ?_, HB.out.drew.setCell (Nat.le_succ _) _⟩
                refine (Below.heap_setCell wr ⟨w.heap.size + 1, _, none⟩ _ w.heap.size (by simp)).trans ?_
                exact HZ.out
            · have hc16 : c = 16 := by omega
              subst hc16
              go_wp2
              go_roundg (16 - (o + 1))
              case measure => omega
              case rel => exact ⟨o + 1, by omega, by omega, by omega, by go_num, HR.out, HZ.out, HB.out⟩
        · have ho16 : o = 16 := by omega
          subst ho16
          have HG := hid (row_bal HR.out)
          have hi : (Try.prog.info? 41).map (·.size) = some balCells.size := by rw [size_balCells]; exact zero_ends.2
          have hzs : balCells.size = Z.size := by rw [size_balCells, HZS.out]
          have HO := hid one_balCells
          generalize hX : balCells = X at *
          have HX := hid hX
          clear hX
          go_wp2_with (first
            | refine wpList_load_row rfl 41 _ rfl (w.heap.size + 1) rfl 41 X (0, 0) _ HG.out Try.underlying41 rfl hi ?_
            | refine wpList_store_row rfl 41 _ _ rfl w.heap.size X rfl rfl 41 Z HZ.out hi hzs.symm HO.out ?_)
          (try simp only [Exit.inBlock, Exit.then])
          refine bodyPost_ret (results_cell_row rfl _ _ w.heap.size 41 X (0, 0) _ rfl (nheap_setRow HZ.out) Try.underlying41 rfl hi) rfl ⟨by rw [HX.out], nbelow_setRow HB.out (Nat.le_refl _) _⟩

theorem inNest_yes (n : Int) (w : World) (h0 : 0 ≤ n) (h1 : n ≤ 15) :
    Calls Try.prog 23 #[.int .i64 n] w fun e w' => e = .returned (.bool true) ∧ w = w' := by
  go_enter Try.func23, Try.ntmps23
  go_wp2
  go_ret
  exact ⟨rfl, rfl⟩
theorem nret_bool {a b : Bool} (h : a = b) : Ending.returned (.bool a) = .returned (.bool b) := by rw [h]
theorem inNest_no (n : Int) (w : World) (h : n < 0 ∨ 15 < n) :
    Calls Try.prog 23 #[.int .i64 n] w fun e w' => e = .returned (.bool false) ∧ w = w' := by
  rcases h with h | h
  · go_enter Try.func23, Try.ntmps23
    go_wp2
    go_ret
    exact ⟨rfl, rfl⟩
  · have HD : Hid (decide (n ≤ 15) = false) := decide_eq_false (by omega)
    go_enter Try.func23, Try.ntmps23
    go_wp2
    go_ret
    exact ⟨nret_bool HD.out, rfl⟩

/-- The table in its box, in the world that lays it. -/
def Box (w : World) (g : Nat) : Prop := w.heap[g]? = some (.cells balCells 41 (0, 0))
theorem Box.cell {w : World} {g : Nat} (h : Box w g) {o c : Nat} (ho : o < 16) (hc : c < 16) : w.cell? ⟨g, o * 16 + c, none⟩ = some (.int .i64 ((bal o c : Nat) : Int)) := by
  unfold Box at h
  have hj : o * 16 + c < 256 := by omega
  rw [cell_of_row w g _ _ _ _ h, at_balCells hj, show (o * 16 + c) / 16 = o by omega, show (o * 16 + c) % 16 = c by omega]
theorem box_new (w : World) : Box ((w.alloc (.cells zero256 41)).setRow w.heap.size balCells) w.heap.size := by
  unfold Box
  rw [World.setRow_alloc_new]
  exact heap_alloc_last w _
theorem below_box (w : World) : Below w.heap.size w ((w.alloc (.cells zero256 41)).setRow w.heap.size balCells) := by
  rw [World.setRow_alloc_new]
  exact (Below.refl _ _).alloc (Nat.le_refl _) _
/-- 'ends := endings()': the array is laid into its box. -/
theorem wpList_box {ops : Array Oper} {rest : List Oper} {o : Oper} {a : Act} {W : World} {Q : Exit → Act → World → Prop} (hgd : o.guard = none) (x y : Operand) (ho : o.op = .store 41 x y) (hd : o.dst = none)
    (hx : a.eval x = .pointer (some ⟨W.heap.size, 0, none⟩)) (hy : a.eval y = .agg balCells)
    (h : ∀ w', Box w' W.heap.size → Below W.heap.size W w' → wpList Try.prog ops Q rest (a.put none undef) w') : wpList Try.prog ops Q (o :: rest) a (W.alloc (.cells zero256 41)) := by
  refine wpList_store_row hgd 41 x y ho W.heap.size balCells hx hy 41 zero256 (heap_alloc_last W _) (by rw [size_balCells]; exact zero_ends.2) (by rw [size_balCells]; simp [zero256]) one_balCells ?_
  rw [hd]
  exact h _ (box_new W) (below_box W)

set_option maxHeartbeats 800000 in
theorem ncount_ok (n : Nat) (w : World) (hn : n ≤ 15) :
    Calls Try.prog 9 #[.int .i64 (n : Int)] w fun e w' => e = .returned (.tuple #[.int .i64 ((bal n n : Nat) : Int), .int .i64 0]) ∧ Below w.heap.size w w' := by
  have hz := zero_ends.1
  go_enter Try.func9, Try.ntmps9
  go_wp2_with fail
  refine (inNest_yes _ _ (by omega) (by omega)).mono ?_
  rintro e w' ⟨rfl, rfl⟩
  go_wp2_with fail
  refine (endings_ok _).mono ?_
  rintro e w1 ⟨rfl, hb⟩
  have HB := hid hb
  clear hb
  go_wp2_with (refine wpList_box rfl _ _ rfl rfl rfl rfl ?_)
  intro w2 hbox hb2
  have g1 := hbox.cell (o := n) (c := n) (by omega) (by omega)
  have HB2 := hid (below_step HB.out (Nat.le_refl _) hb2)
  clear hb2 HB hbox
  have hnN : (n : Int) < 16 := by omega
  generalize hx : bal n n = x at *
  have HX := hid hx
  clear hx
  go_wp2
  go_ret2
  exact ⟨by rw [HX.out]; rfl, HB2.out⟩
theorem ncount_bad (n : Int) (w : World) (h : n < 0 ∨ 15 < n) :
    Calls Try.prog 9 #[.int .i64 n] w fun e w' => e = .returned (.tuple #[.int .i64 0, .int .i64 1]) ∧ w = w' := by
  go_enter Try.func9, Try.ntmps9
  go_wp2_with fail
  refine (inNest_no _ _ h).mono ?_
  rintro e w' ⟨rfl, rfl⟩
  go_wp2
  go_ret2
  exact ⟨rfl, rfl⟩
theorem ncount_of (N : Int) (n : Nat) (hN : N = n) (w : World) (hn : n ≤ 15) :
    Calls Try.prog 9 #[.int .i64 N] w fun e w' => e = .returned (.tuple #[.int .i64 ((bal n n : Nat) : Int), .int .i64 0]) ∧ Below w.heap.size w w' := by
  subst hN
  exact ncount_ok n w hn

def aheadN (a b : Nat) : Nat := if a = 0 then 0 else bal b (a - 1)
set_option maxHeartbeats 800000 in
theorem ahead_ok (a b : Nat) (w : World) (ha : a ≤ 15) (hb : b ≤ 15) :
    Calls Try.prog 12 #[.int .i64 (a : Int), .int .i64 (b : Int)] w fun e w' => e = .returned (.tuple #[.int .i64 ((aheadN a b : Nat) : Int), .int .i64 0]) ∧ Below w.heap.size w w' := by
  have hz := zero_ends.1
  go_enter Try.func12, Try.ntmps12
  go_wp2_with fail
  refine (inNest_yes _ _ (by omega) (by omega)).mono ?_
  rintro e w' ⟨rfl, rfl⟩
  go_wp2_with fail
  refine (inNest_yes _ _ (by omega) (by omega)).mono ?_
  rintro e w' ⟨rfl, rfl⟩
  by_cases h0 : a = 0
  · subst h0
    go_wp2
    go_ret2
    exact ⟨rfl, Below.refl _ _⟩
  · obtain ⟨p, rfl⟩ : ∃ p, a = p + 1 := ⟨a - 1, by omega⟩
    have hne : (((p + 1 : Nat) : Int) == 0) = false := by simp; omega
    go_wp2_with fail
    refine (endings_ok _).mono ?_
    rintro e w1 ⟨rfl, hb1⟩
    have HB := hid hb1
    clear hb1
    go_wp2_with (refine wpList_box rfl _ _ rfl rfl rfl rfl ?_)
    intro w2 hbox hb2
    have g1 := hbox.cell (o := b) (c := p) (by omega) (by omega)
    have HB2 := hid (below_step HB.out (Nat.le_refl _) hb2)
    clear hb2 HB hbox
    have hbN : (b : Int) < 16 := by omega
    have hpN : (p : Int) < 16 := by omega
    have HX : Hid (aheadN (p + 1) b = bal b p) := rfl
    generalize bal b p = x at *
    go_wp2
    go_ret2
    exact ⟨by rw [HX.out]; rfl, HB2.out⟩
theorem ahead_bad (a b : Int) (w : World) (h : (a < 0 ∨ 15 < a) ∨ (b < 0 ∨ 15 < b)) :
    Calls Try.prog 12 #[.int .i64 a, .int .i64 b] w fun e w' => e = .returned (.tuple #[.int .i64 0, .int .i64 1]) ∧ w = w' := by
  by_cases h1 : a < 0 ∨ 15 < a
  · go_enter Try.func12, Try.ntmps12
    go_wp2_with fail
    refine (inNest_no _ _ h1).mono ?_
    rintro e w' ⟨rfl, rfl⟩
    go_wp2
    go_ret2
    exact ⟨rfl, rfl⟩
  · have h2 : b < 0 ∨ 15 < b := h.resolve_left h1
    go_enter Try.func12, Try.ntmps12
    go_wp2_with fail
    refine (inNest_yes _ _ (by omega) (by omega)).mono ?_
    rintro e w' ⟨rfl, rfl⟩
    go_wp2_with fail
    refine (inNest_no _ _ h2).mono ?_
    rintro e w' ⟨rfl, rfl⟩
    go_wp2
    go_ret2
    exact ⟨rfl, rfl⟩
theorem ahead_of (A B : Int) (a b : Nat) (hA : A = a) (hB : B = b) (w : World) (ha : a ≤ 15) (hb : b ≤ 15) :
    Calls Try.prog 12 #[.int .i64 A, .int .i64 B] w fun e w' => e = .returned (.tuple #[.int .i64 ((aheadN a b : Nat) : Int), .int .i64 0]) ∧ Below w.heap.size w w' := by
  subst hA
  subst hB
  exact ahead_ok a b w ha hb
end Go.Proofs.Ytmpipgpbmppbjaa
