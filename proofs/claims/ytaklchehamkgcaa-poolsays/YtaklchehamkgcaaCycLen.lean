/-
  perm.cycleLengths: the lengths of all cycles, by their least numbers.
-/
import Derived.Test.YtaklchehamkgcaaCyc
import Derived.Test.YtaklchehamkgcaaDeal
namespace Go.Proofs.Ytaklchehamkgcaa
open Go.RowKit

theorem seen0 (w : World) (p : List Int) : (w.alloc (Obj.cells #[Value.bool false, Value.bool false, Value.bool false, Value.bool false, Value.bool false, Value.bool false,
      Value.bool false, Value.bool false, Value.bool false, Value.bool false] 82)).rowIs w.heap.size 82 10 (fun j => .bool (snB p 0 0 j)) := by
  refine World.rowIs_alloc w _ _ _ fun i hi => ?_
  simp only [snB_zero]
  match i, hi with
  | 0, _ | 1, _ | 2, _ | 3, _ | 4, _ | 5, _ | 6, _ | 7, _ | 8, _ | 9, _ => rfl

theorem rowIs_below {w w' : World} {B b t n : Nat} {f : Nat → Value} (h : w.rowIs b t n f) (hb : Below B w w') (hlt : b < B) : w'.rowIs b t n f := h.of_block (hb.block b hlt)

set_option maxHeartbeats 1600000 in
theorem cycleLengths_any (A : Option Addr) (n c : Nat) (p : List Int) (w : World) (h : Ints w A n p) (hp : IsPerm p) (hn : n ≤ 10) :
    Calls Try.prog 52 #[.slice A n c] w (RetOwn w (cycL p n)) := by
  have HP := hid hp
  have HL := hid h.len
  clear hp
  go_enter Try.func52, Try.ntmps52
  go_wp2
  go_loopg [3, 10] n (fun g v s wr => ∃ k : Nat, k ≤ n ∧ n - k ≤ g ∧ s = .int .i64 k ∧ OwnInts wr (w.heap.size + 1) v (cycL p k) ∧ wr.rowIs w.heap.size 82 10 (fun j => .bool (snB p k 0 j)) ∧ Below w.heap.size w wr ∧ w.heap.size < wr.heap.size)
  case atStart => exact ⟨0, Nat.zero_le _, by omega, rfl, OwnInts.nil _ _, seen0 w p, (Below.refl _ _).alloc (Nat.le_refl _) _, by simp⟩
  case round =>
    obtain ⟨k, hk, hg, rfl, hown, hrow, hbel, hsz⟩ := hrel
    have HO := hid hown
    have HR := hid hrow
    have HB := hid hbel
    clear hown hrow hbel
    by_cases hlt : k < n
    · obtain ⟨b, o, rfl, hb, hc⟩ := h.row (by omega)
      have HC := hid hc
      clear hc h
      by_cases hl : lo p k = k
      · have HLO := hid hl
        clear hl
        have HPS := hid (per_spec HP.out (show k < p.length by rw [HL.out]; exact hlt))
        go_wp2
        go_loopg [6, 7] (per p k) (fun g u v wq => ∃ m : Nat, m ≤ per p k ∧ per p k - m ≤ g ∧ u = .int .i64 m ∧ v = .int .i64 (it p m k) ∧ OwnInts wq (w.heap.size + 1) u3 (cycL p k) ∧ wq.rowIs w.heap.size 82 10 (fun j => .bool (snB p k m j)) ∧ Below w.heap.size w wq ∧ w.heap.size < wq.heap.size)
        case atStart => exact ⟨0, Nat.zero_le _, by omega, rfl, rfl, HO.out, HR.out, HB.out, hsz⟩
        case round =>
          obtain ⟨m, hm, hgm, rfl, rfl, hownq, hrowq, hbelq, hszq⟩ := hrel
          have HOq := hid hownq
          have HRq := hid hrowq
          have HBq := hid hbelq
          clear hownq hrowq hbelq HO HR HB
          have hkl : k < p.length := by rw [HL.out]; exact hlt
          have hi := it_lt HP.out hkl m
          have hpn := HPS.out.2.1
          have hp1 := HPS.out.1
          rw [HL.out] at hi hpn
          have hrd : p.getD (it p m k) 0 = ((it p (m + 1) k : Nat) : Int) := by
            have := HP.out.range (getD_mem (show it p m k < p.length by rw [HL.out]; exact hi))
            show _ = ((nx p (it p m k) : Nat) : Int)
            unfold nx
            omega
          have g1 : wr.cell? ⟨b, o + it p m k, none⟩ = some (.int .i64 ((it p (m + 1) k : Nat) : Int)) := by
            rw [← hrd]
            exact (HBq.out.cell (p := ⟨b, o + it p m k, none⟩) hb).trans (HC.out _ hi)
          have g2 : wr.cell? ⟨w.heap.size, it p m k, none⟩ = some (.bool (snB p k m (it p m k))) := HRq.out.cell (by omega)
          have g3 : wr.frozen? ⟨w.heap.size, it p m k, none⟩ = false := HRq.out.frozen _
          clear hrd
          by_cases hmp : m < per p k
          · rw [snB_go HP.out hkl HLO.out hmp] at g2
            go_wp2
            go_roundg (per p k - (m + 1))
            case measure => omega
            case rel =>
              exact ⟨m + 1, by omega, by omega, by go_num, rfl, ownsRow_setCell_below HOq.out (by exact Nat.lt_succ_self _) _,
                (HRq.out.set (it p m k) (.bool true)).congr (fun j _ => snB_step (by rw [HL.out]; exact hi) rfl j), HBq.out.setCell (Nat.le_refl _) _, by simpa [World.setCell] using hszq⟩
          · have hme : m = per p k := by omega
            subst hme
            rw [snB_stop HP.out hkl] at g2
            have hpos : decide (0 < ((per p k : Nat) : Int)) = true := by simp; omega
            have hpos' : (0 : Int) < ((per p k : Nat) : Int) := by omega
            have HLC : Hid ((cycL p k).length ≤ 10) := Nat.le_trans (length_cycL_le p k) (by omega)
            go_wp2_with (at_builtin; refine wpList_app1 _ rfl (.tmp 28) (.tmp 30) rfl (w.heap.size + 1) _ (cycL p k) (per p k : Nat) rfl rfl HOq.out (Nat.le_trans HLC.out (by omega)) hszq ?_)
            intro v' w1 hown1 hgrow1 hbel1
            have HO1 := hid hown1
            have HB1 := hid hbel1
            clear hown1 hbel1 hgrow1
            go_wp2
            go_roundg (n - (k + 1))
            case measure => omega
            case rel =>
              exact ⟨k + 1, by omega, by omega, by go_num, by rw [cycL_yes HLO.out]; exact HO1.out,
                (rowIs_below HRq.out HB1.out (Nat.lt_succ_self _)).congr (fun j _ => by rw [snB_end HP.out hkl HLO.out]), HBq.out.trans (HB1.out.mono (Nat.le_succ _)), Nat.lt_of_lt_of_le hszq HB1.out.size⟩
      · have hkl : k < p.length := by rw [HL.out]; exact hlt
        have g2 : wr.cell? ⟨w.heap.size, k, none⟩ = some (.bool (snB p k 0 k)) := HR.out.cell (by omega)
        rw [snB_seen HP.out hkl hl] at g2
        have HLO := hid hl
        clear hl
        go_wp2
        go_loopg [6, 7] 0 (fun g u v wq => u = .int .i64 0 ∧ v = .int .i64 k ∧ wr = wq)
        case atStart => exact ⟨rfl, rfl, rfl⟩
        case round =>
          obtain ⟨rfl, rfl, rfl⟩ := hrel
          go_wp2
          go_roundg (n - (k + 1))
          case measure => omega
          case rel => exact ⟨k + 1, by omega, by omega, by go_num, by rw [cycL_no HLO.out]; exact HO.out, HR.out.congr (fun j _ => by rw [snB_skip HP.out HLO.out]), HB.out, hsz⟩
    · have hkn : k = n := by omega
      subst hkn
      go_wp2
      go_ret
      exact ⟨_, rfl, HO.out.mono (Nat.le_succ _), HB.out⟩

end Go.Proofs.Ytaklchehamkgcaa
