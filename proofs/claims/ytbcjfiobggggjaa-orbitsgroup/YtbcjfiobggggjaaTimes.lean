/-
  perm.Times: the composition, or the error.
-/
import Derived.Test.YtbcjfiobggggjaaOwn
import Derived.Test.YtbcjfiobggggjaaCheck
namespace Go.Proofs.Ytbcjfiobggggjaa
open Go.RowKit

/-- The composition: i goes to a[b[i]]. -/
def times (a b : List Int) : List Int := b.map (fun v => a.getD v.toNat 0)
/-- P4's error of Times. -/
def timesErr (a b : List Int) : Int := if permErr a = 0 then (if permErr b = 0 then (if a.length = b.length then 0 else 1) else permErr b) else permErr a
def timesRes (a b : List Int) : List Int := if timesErr a b = 0 then times a b else []

theorem getD_times {a b : List Int} {k : Nat} (hk : k < b.length) : (times a b).getD k 0 = a.getD (b.getD k 0).toNat 0 := by
  simp [times, List.getD_eq_getElem?_getD, List.getElem?_eq_getElem hk]
theorem length_times (a b : List Int) : (times a b).length = b.length := by simp [times]

set_option maxHeartbeats 800000 in
theorem times_own (A : Option Addr) (n c : Nat) (B : Option Addr) (d : Nat) (a b : List Int) (w : World) (hA : Ints w A n a) (hB : Ints w B n b) (ha : permErr a = 0) (hb : permErr b = 0) :
    Calls Try.prog 24 #[.slice A n c, .slice B n d] w (RetOwnE w (times a b) 0) := by
  have hn10 : n ≤ 10 := by rw [← hA.len]; exact (permErr_ok.1 ha).1
  have hpb := (permErr_ok.1 hb).2
  have HPB := hid hpb
  clear hpb
  have hnn : ((n : Int) != (n : Int)) = false := by simp
  go_enter Try.func24, Try.ntmps24
  go_wp2_with fail
  refine (check_any A n c a _ hA (by omega)).mono ?_
  rintro e w1 ⟨rfl, hb1⟩
  have hA1 := hA.keep hb1
  have hB1 := hB.keep hb1
  have HB1 := hid hb1
  clear hA hB hb1
  go_wp2_with fail
  refine (check_any B n d b _ hB1 (by omega)).mono ?_
  rintro e w2 ⟨rfl, hb2⟩
  have hA2 := hA1.keep hb2
  have hB2 := hB1.keep hb2
  have HB2 := hid (HB1.out.trans (hb2.mono HB1.out.size))
  clear hA1 hB1 hb2 HB1
  have hmk := fun W => run_make_row' (P := Try.prog) 23 3 (.int .i64 0) 8 Try.underlying23 infoInt rfl .i64 .i64 n (by omega) (by omega) W
  go_wp2_with fail
  go_loopg [31] n (fun g s wr => ∃ k : Nat, k ≤ n ∧ n - k ≤ g ∧ s = .int .i64 k ∧ wr.rowIs w2.heap.size 3 n (partCell (times a b) k) ∧ Below w2.heap.size w2 wr)
  case atStart => exact ⟨0, Nat.zero_le _, by omega, rfl, (World.rowIs_made w2 _ n _).congr (fun j _ => by simp [partCell]), (Below.refl _ _).alloc (Nat.le_refl _) _⟩
  case round =>
    obtain ⟨k, hk, hg, rfl, hrow, hbel⟩ := hrel
    have HR := hid hrow
    have HB := hid hbel
    clear hrow hbel hmk
    by_cases hlt : k < n
    · obtain ⟨b2, o2, rfl, hlt2, hc2⟩ := hB2.row (by omega)
      obtain ⟨b1, o1, rfl, hlt1, hc1⟩ := hA2.row (by omega)
      have HL := hid hB2.len
      have hkl : k < b.length := by rw [HL.out]; exact hlt
      have hr := HPB.out.range (getD_mem hkl)
      rw [HL.out] at hr
      have g1 : wr.cell? ⟨b2, o2 + k, none⟩ = some (.int .i64 (b.getD k 0)) := (HB.out.cell (p := ⟨b2, o2 + k, none⟩) hlt2).trans (hc2 k hlt)
      have hst := getD_times (a := a) hkl
      generalize hxk : b.getD k 0 = x at g1 hr hst
      obtain ⟨m, rfl⟩ := Int.eq_ofNat_of_zero_le hr.1
      have hm : m < n := by omega
      have g2 : wr.cell? ⟨b1, o1 + m, none⟩ = some (.int .i64 (a.getD m 0)) := (HB.out.cell (p := ⟨b1, o1 + m, none⟩) hlt1).trans (hc1 m hm)
      have g3 : wr.cell? ⟨w2.heap.size, k, none⟩ = some (partCell (times a b) k k) := HR.out.cell hlt
      have g4 : wr.frozen? ⟨w2.heap.size, k, none⟩ = false := HR.out.frozen k
      rw [Int.toNat_natCast] at hst
      have HS := hid hst
      clear hst hxk hc1 hc2 hr hA2 hB2 hkl
      generalize a.getD m 0 = y at g2 HS
      go_wp2
      go_roundg (n - (k + 1))
      case measure => omega
      case rel =>
        refine ⟨k + 1, by omega, by omega, by go_num, ?_, HB.out.setCell (Nat.le_refl _) _⟩
        exact (HR.out.set k (.int .i64 y)).congr (fun j _ => by rw [← HS.out]; exact partCell_step _ _ _)
    · have hkn : k = n := by omega
      subst hkn
      go_wp2
      go_ret2
      refine ⟨_, rfl, own_of_rowIs HR.out (by rw [length_times, hB2.len]) (fun j hj => ?_) HB2.out.size (by unfold maxLen; omega), HB2.out.trans (HB.out.mono HB2.out.size)⟩
      unfold partCell
      rw [if_pos hj]

theorem times_ok (A : Option Addr) (n c : Nat) (B : Option Addr) (d : Nat) (a b : List Int) (w : World) (hA : Ints w A n a) (hB : Ints w B n b) (ha : permErr a = 0) (hb : permErr b = 0) :
    Calls Try.prog 24 #[.slice A n c, .slice B n d] w (RetInts w (times a b) 0) := by
  refine (times_own A n c B d a b w hA hB ha hb).mono ?_
  rintro e w' ⟨v, rfl, ho, hbel⟩
  obtain ⟨A', c', rfl, hI, hc⟩ := ho.ints
  exact ⟨_, _, _, rfl, hbel, hI, hc⟩

end Go.Proofs.Ytbcjfiobggggjaa
