/-
  blocks.Of.
-/
import Derived.Test.YtigfhpffghajaaaBlkM
import Derived.Test.YtigfhpffghajaaaGen
namespace Go.Proofs.Ytigfhpffghajaaa
open Go.RowKit

set_option maxHeartbeats 400000 in
theorem bof_large (A : Option Addr) (n c : Nat) (w : World) (hn : 10 < n) (hm : n ≤ 9223372036854775807) :
    Calls Try.prog 12 #[.slice A n c] w fun e w' => e = .returned (.tuple #[.slice none 0 0, .int .i64 2]) ∧ w = w' := by
  go_enter Try.func12, Try.ntmps12
  go_wp2
  go_ret2
  exact ⟨rfl, rfl⟩

set_option maxHeartbeats 1600000 in
theorem bof_ok (A : Option Addr) (n c : Nat) (xs : List Int) (w : World) (h : Ints w A n xs) (hn : n ≤ 10) :
    Calls Try.prog 12 #[.slice A n c] w (RetInts w (ofL xs) 0) := by
  have hmk : ∀ W : World, (Instr.makeSlice 22 (.int .i64 (n : Int)) (.int .i64 (n : Int))).run Try.prog W = .ok (.slice (some ⟨W.heap.size, 0, none⟩) n n) (W.alloc (.cells (madeCells #[.int .i64 0] n) 3)) :=
    fun W => run_make_row' (P := Try.prog) 22 3 (.int .i64 0) 8 Try.underlying22 infoInt rfl .i64 .i64 n (by omega) (by omega) W
  have HMD := hid (World.rowIs_made w (.int .i64 0) n 3)
  have h10 : decide (10 < (n : Int)) = false := by simp; omega
  have HL := hid h.len
  have HI := hid h
  clear h
  go_enter Try.func12, Try.ntmps12
  go_wp2_with fail
  clear hmk h10
  go_loopg [5, 17] n (fun g u s wr => ∃ k : Nat, k ≤ n ∧ n - k ≤ g ∧ u = .int .i64 ((nf xs k : Nat) : Int) ∧ s = .int .i64 k ∧ wr.rowIs w.heap.size 3 n (partCell (ofL xs) k) ∧ Below w.heap.size w wr)
  case atStart => exact ⟨0, Nat.zero_le _, by omega, rfl, rfl, HMD.out.congr (fun j _ => by unfold partCell; rw [if_neg (Nat.not_lt_zero _)]), (Below.refl _ _).alloc (Nat.le_refl _) _⟩
  case round =>
    obtain ⟨k, hk, hg, rfl, rfl, hrow, hbel⟩ := hrel
    have HR := hid hrow
    have HB := hid hbel
    clear hrow hbel HMD
    by_cases hlt : k < n
    · have hkx : k < xs.length := by rw [HL.out]; exact hlt
      obtain ⟨b, o, hA, hb, hc⟩ := (HI.out.keep HB.out).row (by omega)
      have g1 := hc k hlt
      have HF := hid (ix_first hkx)
      have HLE := hid (ix_le hkx)
      have HGO := hid (getD_ofL hkx)
      have HNF := hid (nf_le xs k)
      have HIX := hid (ix_ix hkx)
      have HGI := hid (fun h => getD_ofL (l := xs) (i := ix xs k) h)
      have hfr : wr.frozen? ⟨w.heap.size, k, none⟩ = false := HR.out.frozen k
      have gk1 : wr.cell? ⟨w.heap.size, k, none⟩ = some (partCell (ofL xs) k k) := HR.out.cell hlt
      have HI2 := hid (HI.out.keep HB.out)
      have HM := hid (getD_mem hkx)
      have hnf := nf_le xs k
      subst hA
      clear hc hkx
      generalize hx : xs.getD k 0 = x at *
      by_cases hnew : ix xs k = k
      · have HW := hid ((HR.out.set k (.int .i64 ((ofL xs).getD k 0))).congr (fun j _ => partCell_step (ofL xs) k j))
        have HN := hid (nf_new hnew)
        rw [HGO.out, hnew] at HW
        have HNEW := hid hnew
        have hx' := hid hx
        clear hx hnew
        generalize nf xs k = y at *
        go_wp2_with fail
        refine (index_any _ n c xs x _ HI2.out (by omega)).mono ?_
        rintro e w' ⟨r, rfl, _, rfl, hr⟩
        obtain ⟨r', rfl, hfst⟩ := hr HM.out
        have hrk : r' = k := (hfst.only HF.out).trans HNEW.out
        subst hrk
        clear hr hfst
        have hkk : ¬ (r' : Int) < (r' : Int) := by omega
        go_wp2
        go_roundg (n - (r' + 1))
        case measure => omega
        case rel => exact ⟨r' + 1, by omega, by omega, by rw [HN.out]; go_num, by go_num, HW.out, HB.out.setCell (Nat.le_refl _) _⟩
      · have hle := HLE.out
        have HW := hid ((HR.out.set k (.int .i64 ((ofL xs).getD k 0))).congr (fun j _ => partCell_step (ofL xs) k j))
        have HN := hid (nf_old hnew)
        have gi : wr.cell? ⟨w.heap.size, ix xs k, none⟩ = some (.int .i64 ((nf xs (ix xs k) : Nat) : Int)) := by
          rw [HR.out.cell (by omega)]
          unfold partCell
          rw [if_pos (by omega), HGI.out (by rw [HL.out]; omega), HIX.out]
        rw [HGO.out] at HW
        have hilt : ((ix xs k : Nat) : Int) < (k : Int) := by omega
        have hix := hid HF.out
        clear HGO HGI HIX
        generalize nf xs (ix xs k) = z at *
        generalize ix xs k = i at *
        have hx' := hid hx
        clear hx
        generalize nf xs k = y at *
        go_wp2_with fail
        refine (index_any _ n c xs x _ HI2.out (by omega)).mono ?_
        rintro e w' ⟨r, rfl, _, rfl, hr⟩
        obtain ⟨r', rfl, hfst⟩ := hr HM.out
        have hrk : r' = i := hfst.only hix.out
        subst hrk
        clear hr hfst
        go_wp2
        go_roundg (n - (k + 1))
        case measure => omega
        case rel => exact ⟨k + 1, by omega, by omega, by rw [HN.out], by go_num, HW.out, HB.out.setCell (Nat.le_refl _) _⟩
    · have hkn : k = n := by omega
      subst hkn
      go_wp2
      go_ret2
      refine ⟨_, _, _, rfl, HB.out, ints_of_row HR.out (by rw [length_ofL]; exact HL.out) (fun j hj => ?_), Nat.le_refl _, by omega⟩
      unfold partCell
      rw [if_pos hj]

end Go.Proofs.Ytigfhpffghajaaa
