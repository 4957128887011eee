/-
  parts.Count: how many sums there are.
-/
import Derived.Test.YteegddpoekphoaaDoorPartM
import Derived.Test.YteegddpoekphoaaDoorPartN
import Derived.Deep.OwnRows
namespace Go.Proofs.YteegddpoekphoaaDoor
open Go.RowKit

theorem counts_start (w : World) : (w.alloc (Obj.cells #[Value.int .i64 1, Value.int .i64 0, Value.int .i64 0, Value.int .i64 0, Value.int .i64 0, Value.int .i64 0, Value.int .i64 0, Value.int .i64 0, Value.int .i64 0, Value.int .i64 0, Value.int .i64 0, Value.int .i64 0, Value.int .i64 0, Value.int .i64 0, Value.int .i64 0, Value.int .i64 0, Value.int .i64 0, Value.int .i64 0, Value.int .i64 0, Value.int .i64 0, Value.int .i64 0, Value.int .i64 0, Value.int .i64 0, Value.int .i64 0, Value.int .i64 0, Value.int .i64 0, Value.int .i64 0, Value.int .i64 0, Value.int .i64 0, Value.int .i64 0, Value.int .i64 0, Value.int .i64 0, Value.int .i64 0, Value.int .i64 0, Value.int .i64 0, Value.int .i64 0, Value.int .i64 0, Value.int .i64 0, Value.int .i64 0, Value.int .i64 0, Value.int .i64 0] 40)).rowIs w.heap.size 40 41 (fun j => .int .i64 (if j = 0 then 1 else 0)) := by
  refine World.rowIs_alloc w _ _ _ fun i hi => ?_
  have hi' : i < 41 := by simpa using hi
  clear hi
  rcases i with _ | i
  · rfl
  iterate 40
    rcases i with _ | i
    · rfl
  omega
/-- One number laid anew. -/
def updRow (f : Nat → Int) (t : Nat) (v : Int) (j : Nat) : Int := if j = t then v else f j
theorem rowIs_updRow {w : World} {g T n : Nat} {f : Nat → Int} (h : w.rowIs g T n (fun j => .int .i64 (f j))) (t : Nat) (v : Int) : (w.setCell ⟨g, t, none⟩ (.int .i64 v)).rowIs g T n (fun j => .int .i64 (updRow f t v j)) := by
  refine (h.set t (.int .i64 v)).congr fun j _ => ?_
  unfold updRow
  by_cases e : j = t
  · rw [if_pos e, if_pos e]
  · rw [if_neg e, if_neg e]

set_option maxHeartbeats 800000 in
theorem count_off (n m : Int) (w : World) (h : n < 0 ∨ 40 < n ∨ m < 0 ∨ 40 < m) :
    Calls Tryd.prog 5 #[.int .i64 n, .int .i64 m] w fun e w' => e = .returned (.tuple #[.int .i64 0, .int .i64 1]) ∧ w = w' := by
  by_cases h0 : n < 0
  · go_enter Tryd.func5, Tryd.ntmps5
    go_wp2
    go_ret2
    exact ⟨rfl, rfl⟩
  · by_cases h1 : 40 < n
    · go_enter Tryd.func5, Tryd.ntmps5
      go_wp2
      go_ret2
      exact ⟨rfl, rfl⟩
    · by_cases h2 : m < 0
      · go_enter Tryd.func5, Tryd.ntmps5
        go_wp2
        go_ret2
        exact ⟨rfl, rfl⟩
      · have h3 : 40 < m := by omega
        clear h
        go_enter Tryd.func5, Tryd.ntmps5
        go_wp2
        go_ret2
        exact ⟨rfl, rfl⟩

set_option maxHeartbeats 1600000 in
set_option maxRecDepth 100000 in
theorem count_any (n m : Nat) (w : World) (hn : n ≤ 40) (hm : m ≤ 40) :
    Calls Tryd.prog 5 #[.int .i64 (n : Int), .int .i64 (m : Int)] w fun e w' => e = .returned (.tuple #[.int .i64 ((pcnt m n : Nat) : Int), .int .i64 0]) ∧ Below w.heap.size w w' := by
  go_enter Tryd.func5, Tryd.ntmps5
  go_wp2
  go_loopg [7] m (fun g s wr => ∃ (q : Nat) (f : Nat → Int), 1 ≤ q ∧ q ≤ m + 1 ∧ m + 1 - q ≤ g ∧ s = .int .i64 (q : Int) ∧ wr.rowIs w.heap.size 40 41 (fun j => .int .i64 (f j)) ∧ Below w.heap.size w wr ∧ ∀ j, j ≤ n → f j = ((pcnt (q - 1) j : Nat) : Int))
  case atStart => exact ⟨1, _, by omega, by omega, by omega, rfl, counts_start w, (Below.refl _ _).alloc (Nat.le_refl _) _, fun j _ => by simp only [Nat.sub_self, pcnt_zero]; split <;> rfl⟩
  case round =>
    obtain ⟨q, f, hq1, hq2, hg, rfl, hrow, hbel, hf⟩ := hrel
    have HR := hid hrow
    have HB := hid hbel
    have HF := hid hf
    clear hrow hbel hf
    by_cases hlt : q ≤ m
    · go_wp2
      obtain ⟨w8, hw8⟩ : ∃ w8, w8 = wr := ⟨_, rfl⟩
      rw [← hw8] at HR HB
      rw [← hw8]
      clear hw8
      go_loopg [8] n (fun g s wr => ∃ (t : Nat) (f : Nat → Int), q ≤ t ∧ (t ≤ n + 1 ∨ t = q) ∧ n + 1 - t ≤ g ∧ s = .int .i64 (t : Int) ∧ wr.rowIs w.heap.size 40 41 (fun j => .int .i64 (f j)) ∧ Below w.heap.size w wr ∧ ∀ j, j ≤ n → f j = if j < t then ((pcnt q j : Nat) : Int) else ((pcnt (q - 1) j : Nat) : Int))
      case atStart =>
        refine ⟨q, f, Nat.le_refl _, Or.inr rfl, by omega, rfl, HR.out, HB.out, fun j hj => ?_⟩
        rw [HF.out j hj]
        split
        · rename_i h
          obtain ⟨p, rfl⟩ : ∃ p, q = p + 1 := ⟨q - 1, by omega⟩
          rw [pcnt_lt h]
          rfl
        · rfl
      case round =>
        obtain ⟨t, f2, ht1, ht2, hg2, rfl, hrow, hbel, hf⟩ := hrel
        have HR2 := hid hrow
        have HB2 := hid hbel
        have HF2 := hid hf
        clear hrow hbel hf HR HB HF
        by_cases hlt2 : t ≤ n
        · obtain ⟨u, htu⟩ : ∃ u, t = u + q := ⟨t - q, by omega⟩
          have hsub : IntKind.i64.wrap ((t : Int) - (q : Int)) = (u : Int) := by rw [IntWalk.i64_in _ (by omega)]; omega
          have g1 : wr.cell? ⟨w.heap.size, t, none⟩ = some (.int .i64 (f2 t)) := HR2.out.cell (by omega)
          have g2 : wr.cell? ⟨w.heap.size, u, none⟩ = some (.int .i64 (f2 u)) := HR2.out.cell (by omega)
          have f1 : wr.frozen? ⟨w.heap.size, t, none⟩ = false := HR2.out.frozen t
          have e1 : f2 t = ((pcnt (q - 1) t : Nat) : Int) := by rw [HF2.out t hlt2, if_neg (by omega)]
          have e2 : f2 u = ((pcnt q u : Nat) : Int) := by rw [HF2.out u (by omega), if_pos (by omega)]
          have b1 := pcnt_le (m := q - 1) (s := t) (by omega) (by omega)
          have b2 := pcnt_le (m := q) (s := u) (by omega) (by omega)
          have HC : Hid (pcnt q t = pcnt (q - 1) t + pcnt q u) := by
            obtain ⟨p, rfl⟩ : ∃ p, q = p + 1 := ⟨q - 1, by omega⟩
            have := pcnt_ge (m := p) (s := t) (by omega)
            rwa [show t - (p + 1) = u by omega] at this
          rw [e1] at g1
          rw [e2] at g2
          have HTU := hid htu
          have htN : (t : Int) < 41 := by omega
          have huN : (u : Int) < 41 := by omega
          have hun : u < 41 := by omega
          clear e1 e2 htu
          generalize pcnt (q - 1) t = x at *
          generalize pcnt q u = y at *
          go_wp2_with fail
          go_region
          go_wp2
          go_roundg (n - t)
          case measure => omega
          case rel =>
            refine ⟨t + 1, updRow f2 t ((x : Int) + (y : Int)), by omega, by omega, by omega, by go_num, ?_, ?_, fun j hj => ?_⟩
            · exact rowIs_updRow HR2.out t _
            · exact (HB2.out.setCell (Nat.le_refl _) _).drew
            · unfold updRow
              by_cases e : j = t
              · subst e
                rw [if_pos rfl, if_pos (by omega), HC.out]
                omega
              · rw [if_neg e, HF2.out j hj]
                by_cases h : j < t
                · rw [if_pos h, if_pos (by omega)]
                · rw [if_neg h, if_neg (by omega)]
        · go_wp2
          go_roundg (m - q)
          case measure => omega
          case rel =>
            refine ⟨q + 1, f2, by omega, by omega, by omega, by go_num, HR2.out, HB2.out, fun j hj => ?_⟩
            rw [HF2.out j hj, if_pos (by omega)]
            rfl
    · have hqm : q = m + 1 := by omega
      have g1 : wr.cell? ⟨w.heap.size, n, none⟩ = some (.int .i64 (f n)) := HR.out.cell (by omega)
      have e1 := HF.out n (Nat.le_refl _)
      rw [e1, hqm, Nat.add_sub_cancel] at g1
      clear e1
      go_wp2
      go_ret2
      exact ⟨rfl, HB.out⟩

end Go.Proofs.YteegddpoekphoaaDoor
