/-
  perm.Inverse: the inverse, or the error.
-/
import Derived.Test.YtbcjfiobggggjaaTimes
namespace Go.Proofs.Ytbcjfiobggggjaa
open Go.RowKit

/-- q undoes p. -/
def IsInv (p q : List Int) : Prop := q.length = p.length ∧ ∀ i, i < p.length → q.getD (p.getD i 0).toNat 0 = (i : Int)

/-- f, but for one place. -/
def upd (f : Nat → Int) (m : Nat) (x : Int) (j : Nat) : Int := if j = m then x else f j
theorem upd_same (f : Nat → Int) (m : Nat) (x : Int) : upd f m x m = x := if_pos rfl
theorem upd_other (f : Nat → Int) {m j : Nat} (x : Int) (h : j ≠ m) : upd f m x j = f j := if_neg h

def RetInv (w : World) (p : List Int) (e : Ending) (w' : World) : Prop := ∃ q, IsInv p q ∧ RetInts w q 0 e w'

set_option maxHeartbeats 800000 in
theorem inverse_ok (A : Option Addr) (n c : Nat) (p : List Int) (w : World) (hA : Ints w A n p) (hp : permErr p = 0) :
    Calls Try.prog 25 #[.slice A n c] w (RetInv w p) := by
  have hn10 : n ≤ 10 := by rw [← hA.len]; exact (permErr_ok.1 hp).1
  have HP := hid (permErr_ok.1 hp).2
  go_enter Try.func25, Try.ntmps25
  go_wp2_with fail
  refine (check_any A n c p _ hA (by omega)).mono ?_
  rintro e w1 ⟨rfl, hb1⟩
  have hA1 := hA.keep hb1
  have HB1 := hid hb1
  clear hA hb1
  have hmk := fun W => run_make_row' (P := Try.prog) 23 3 (.int .i64 0) 8 Try.underlying23 infoInt rfl .i64 .i64 n (by omega) (by omega) W
  go_wp2_with fail
  go_loopg [18] n (fun g s wr => ∃ (k : Nat) (f : Nat → Int), k ≤ n ∧ n - k ≤ g ∧ s = .int .i64 k ∧ wr.rowIs w1.heap.size 3 n (fun j => .int .i64 (f j)) ∧ Below w1.heap.size w1 wr ∧
      ∀ i, i < k → f (p.getD i 0).toNat = (i : Int))
  case atStart => exact ⟨0, fun _ => 0, Nat.zero_le _, by omega, rfl, World.rowIs_made w1 _ n _, (Below.refl _ _).alloc (Nat.le_refl _) _, fun i hi => absurd hi (Nat.not_lt_zero _)⟩
  case round =>
    obtain ⟨k, f, hk, hg, rfl, hrow, hbel, hall⟩ := hrel
    have HR := hid hrow
    have HB := hid hbel
    have HF := hid hall
    clear hrow hbel hmk hall
    by_cases hlt : k < n
    · obtain ⟨b1, o1, rfl, hlt1, hc1⟩ := hA1.row (by omega)
      have HL := hid hA1.len
      have hkl : k < p.length := by rw [HL.out]; exact hlt
      have hr := HP.out.range (getD_mem hkl)
      rw [HL.out] at hr
      have g1 : wr.cell? ⟨b1, o1 + k, none⟩ = some (.int .i64 (p.getD k 0)) := (HB.out.cell (p := ⟨b1, o1 + k, none⟩) hlt1).trans (hc1 k hlt)
      generalize hxk : p.getD k 0 = x at g1 hr
      obtain ⟨m, rfl⟩ := Int.eq_ofNat_of_zero_le hr.1
      have hm : m < n := by omega
      have HX := hid hxk
      have g3 : wr.cell? ⟨w1.heap.size, m, none⟩ = some (.int .i64 (f m)) := HR.out.cell hm
      have g4 : wr.frozen? ⟨w1.heap.size, m, none⟩ = false := HR.out.frozen m
      clear hxk hc1 hr hA1 hkl
      go_wp2
      go_roundg (n - (k + 1))
      case measure => omega
      case rel =>
        refine ⟨k + 1, upd f m k, by omega, by omega, by go_num, ?_, HB.out.setCell (Nat.le_refl _) _, fun i hi => ?_⟩
        · refine (HR.out.set m (.int .i64 k)).congr (fun j _ => ?_)
          by_cases e : j = m
          · rw [if_pos e, e, upd_same]
          · rw [if_neg e, upd_other _ _ e]
        · by_cases e : i = k
          · subst e
            rw [HX.out, Int.toNat_natCast, upd_same]
          · have hne : (p.getD i 0).toNat ≠ m := by
              intro e2
              have hr := HP.out.range (getD_mem (show i < p.length by rw [HL.out]; omega))
              have : p.getD i 0 = p.getD k 0 := by rw [HX.out]; omega
              exact nodup_iff_getD.1 HP.out.nodup i k (by omega) (by rw [HL.out]; exact hlt) this
            rw [upd_other _ _ hne]
            exact HF.out i (by omega)
    · have hkn : k = n := by omega
      subst hkn
      go_wp2
      go_ret2
      have hlen : ((List.range k).map f).length = k := by simp
      refine ⟨(List.range k).map f, ⟨by rw [hlen, hA1.len], fun i hi => ?_⟩, _, _, _, rfl, HB1.out.trans (HB.out.mono HB1.out.size), ints_of_row HR.out hlen (fun j hj => by simp [List.getD_eq_getElem?_getD, hj]), Nat.le_refl _, by omega⟩
      have hr := HP.out.range (getD_mem hi)
      rw [hA1.len] at hr hi
      rw [← HF.out i hi]
      simp [List.getD_eq_getElem?_getD, show (p[i]?.getD 0).toNat < k by rw [← List.getD_eq_getElem?_getD]; omega]

end Go.Proofs.Ytbcjfiobggggjaa
