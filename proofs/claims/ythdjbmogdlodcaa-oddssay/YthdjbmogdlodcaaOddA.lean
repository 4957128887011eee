/-
  A distribution in a block; odds.Check.
-/
import Derived.Test.YthdjbmogdlodcaaOddM
import Derived.Test.YthdjbmogdlodcaaRatB
namespace Go.Proofs.Ythdjbmogdlodcaa
open Go.RowKit

/-- Block b holds two slices. -/
structure OddsAt (w : World) (b : Nat) (A : Option Addr) (n c : Nat) (B : Option Addr) (m d : Nat) : Prop where
  p0 : w.cell? ⟨b, 0, none⟩ = some (.slice A n c)
  p1 : w.cell? ⟨b, 1, none⟩ = some (.slice B m d)
  f0 : w.frozen? ⟨b, 0, none⟩ = false
  f1 : w.frozen? ⟨b, 1, none⟩ = false
  lt : b < w.heap.size
theorem OddsAt.new (w : World) (t : TypeId) (A : Option Addr) (n c : Nat) (B : Option Addr) (m d : Nat) : OddsAt (w.alloc (.cells #[.slice A n c, .slice B m d] t)) w.heap.size A n c B m d := by
  have hr := rat_row (w := w) (b := t) (x := .slice A n c) (y := .slice B m d)
  exact ⟨(hr.cell (i := 0) (by omega)).trans rfl, (hr.cell (i := 1) (by omega)).trans rfl, hr.frozen 0, hr.frozen 1, hr.lt⟩
theorem OddsAt.keep {w w' : World} {b : Nat} {A : Option Addr} {n c : Nat} {B : Option Addr} {m d : Nat} (h : OddsAt w b A n c B m d) (hb : Below w.heap.size w w') : OddsAt w' b A n c B m d := by
  have e := hb.block b h.lt
  exact ⟨(hb.cell (p := ⟨b, 0, none⟩) h.lt).trans h.p0, (hb.cell (p := ⟨b, 1, none⟩) h.lt).trans h.p1, (World.frozen?_of_block (a := ⟨b, 0, none⟩) e).trans h.f0, (World.frozen?_of_block (a := ⟨b, 1, none⟩) e).trans h.f1, Nat.lt_of_lt_of_le h.lt hb.size⟩
theorem OddsAt.keep_alloc {w : World} {b : Nat} {A : Option Addr} {n c : Nat} {B : Option Addr} {m d : Nat} (h : OddsAt w b A n c B m d) (o : Obj) : OddsAt (w.alloc o) b A n c B m d := h.keep (below_alloc w o)

set_option maxHeartbeats 1600000 in
set_option maxRecDepth 100000 in
theorem ocheck_any (A : Option Addr) (n c : Nat) (B : Option Addr) (m d : Nat) (vs ws : List Int) (w : World) (hI : Ints w A n vs) (hJ : Ints w B m ws) :
    Calls Try.prog 15 #[.agg #[.slice A n c, .slice B m d]] w (RetE w (oddErr vs ws)) := by
  have HB0 : Hid (Below w.heap.size w (w.alloc (.cells #[.slice A n c, .slice B m d] 24))) := below_alloc w _
  have hl := hI.len
  have hm := hJ.len
  have HI := hid hI
  have HJ := hid hJ
  clear hI hJ
  by_cases h1 : n < 1
  · have HE : Hid (oddErr vs ws = 2) := oddErr_large (by omega)
    have h1I : (n : Int) < 1 := by omega
    clear hl hm
    go_enter Try.func15, Try.ntmps15
    go_wp2
    go_ret
    exact ⟨by rw [HE.out]; rfl, HB0.out⟩
  · by_cases h2 : 12 < n
    · have HE : Hid (oddErr vs ws = 2) := oddErr_large (by omega)
      have h1I : ¬ (n : Int) < 1 := by omega
      have h2I : 12 < (n : Int) := by omega
      clear hl hm
      go_enter Try.func15, Try.ntmps15
      go_wp2
      go_ret
      exact ⟨by rw [HE.out]; rfl, HB0.out⟩
    · have h1I : ¬ (n : Int) < 1 := by omega
      have h2I : ¬ 12 < (n : Int) := by omega
      by_cases h3 : m = n
      · subst h3
        have HL := hid hl
        have HM := hid hm
        clear hl hm
        go_enter Try.func15, Try.ntmps15
        go_wp2_with fail
        obtain ⟨W, hW⟩ : ∃ W, W = w.alloc (.cells #[.slice A m c, .slice B m d] 24) := ⟨_, rfl⟩
        have HO : Hid (OddsAt W w.heap.size A m c B m d) := by rw [hW]; exact OddsAt.new w _ A m c B m d
        have HI1 : Hid (Ints W A m vs) := by rw [hW]; exact HI.out.keep (below_alloc _ _)
        have HJ1 : Hid (Ints W B m ws) := by rw [hW]; exact HJ.out.keep (below_alloc _ _)
        rw [← hW] at HB0 ⊢
        clear hW HI HJ
        have g0 := HO.out.p0
        have g1 := HO.out.p1
        go_loopg [25, 3, 4] m (fun g s _ _ wr => ∃ k : Nat, k ≤ m ∧ m - k ≤ g ∧ s = .int .i64 k ∧ W = wr ∧ ∀ j, j < k → oneOk (vs.getD j 0) (ws.getD j 0) = true)
        case atStart => exact ⟨0, Nat.zero_le _, by omega, rfl, rfl, fun j hj => absurd hj (Nat.not_lt_zero _)⟩
        case round =>
          obtain ⟨k, hk, hg, rfl, rfl, hall⟩ := hrel
          have HA := hid hall
          clear hall
          by_cases hlt : k < m
          · obtain ⟨b, o, rfl, hb, hc⟩ := HI1.out.row (by omega)
            obtain ⟨b', o', rfl, hb', hc'⟩ := HJ1.out.row (by omega)
            have g2 := hc k hlt
            have g3 := hc' k hlt
            have HR : Hid (oneOk (vs.getD k 0) (ws.getD k 0) = false → oddErr vs ws = 1) := fun h => oddErr_arg (by rw [HL.out]; omega) (by rw [HL.out]; omega) (by rw [HL.out, HM.out]) (j := k) (by rw [HL.out]; exact hlt) h
            have HY : Hid (-20 ≤ vs.getD k 0 ∧ vs.getD k 0 ≤ 20 ∧ 1 ≤ ws.getD k 0 ∧ ws.getD k 0 ≤ 100 → ∀ j, j < k + 1 → oneOk (vs.getD j 0) (ws.getD j 0) = true) := fun h j hj => by
              by_cases e : j = k
              · subst e
                exact decide_eq_true h
              · exact HA.out j (by omega)
            have hkI : (k : Int) < (m : Int) := by omega
            have HNO : Hid (¬ (-20 ≤ vs.getD k 0 ∧ vs.getD k 0 ≤ 20 ∧ 1 ≤ ws.getD k 0 ∧ ws.getD k 0 ≤ 100) → oneOk (vs.getD k 0) (ws.getD k 0) = false) := fun h => decide_eq_false h
            clear hc hc' HA
            generalize vs.getD k 0 = x at *
            generalize ws.getD k 0 = y at *
            by_cases c1 : x < -20
            · have HX := hid (HR.out (HNO.out (by omega)))
              go_wp2
              go_ret
              exact ⟨by rw [HX.out]; rfl, HB0.out⟩
            · by_cases c2 : 20 < x
              · have HX := hid (HR.out (HNO.out (by omega)))
                go_wp2
                go_ret
                exact ⟨by rw [HX.out]; rfl, HB0.out⟩
              · by_cases c3 : y < 1
                · have HX := hid (HR.out (HNO.out (by omega)))
                  go_wp2
                  go_ret
                  exact ⟨by rw [HX.out]; rfl, HB0.out⟩
                · by_cases c4 : 100 < y
                  · have HX := hid (HR.out (HNO.out (by omega)))
                    go_wp2
                    go_ret
                    exact ⟨by rw [HX.out]; rfl, HB0.out⟩
                  · have HX := hid (HY.out (by omega))
                    go_wp2
                    go_roundg (m - (k + 1))
                    case measure => omega
                    case rel => exact ⟨k + 1, by omega, by omega, by go_num, rfl, HX.out⟩
          · obtain rfl : k = m := by omega
            have HE : Hid (oddErr vs ws = 0) := oddErr_ok (by rw [HL.out]; omega) (by rw [HL.out]; omega) (by rw [HL.out, HM.out]) (by rw [HL.out]; exact HA.out)
            go_wp2
            go_ret
            exact ⟨by rw [HE.out]; rfl, HB0.out⟩
      · have HE : Hid (oddErr vs ws = 3) := oddErr_form (by omega) (by omega) (by omega)
        have h3I : ¬ (m : Int) = (n : Int) := by omega
        clear hl hm
        go_enter Try.func15, Try.ntmps15
        go_wp2
        go_ret
        exact ⟨by rw [HE.out]; rfl, HB0.out⟩
end Go.Proofs.Ythdjbmogdlodcaa
