/-
  alias.Build's two closures; slices.MinFunc and MaxFunc with the first of them.
-/
import Derived.Test.YteahhjakchcmkaaAliU
import Derived.Test.YteahhjakchcmkaaCmp
import Derived.Shelf.Abstract
namespace Go.Proofs.Yteahhjakchcmkaa
open Go.RowKit

theorem cmpI_pos {a b : Int} : decide (0 < cmpI a b) = decide (b < a) := by
  unfold cmpI
  split
  · simp; omega
  · split <;> simp <;> omega

theorem compareQ (a b : Int) (w : World) : Calls Try.prog 18 #[.int .i64 a, .int .i64 b] w fun e w' => e = .returned (.int .i64 (cmpI a b)) ∧ w' = w :=
  (compare_any a b w).mono fun _ _ ⟨he, hw⟩ => ⟨he, hw.symm⟩
set_option maxHeartbeats 800000 in
theorem byLeft_any (b n c i j : Nat) (A : Option Addr) (ls : List Int) (w : World) (hb : w.cell? ⟨b, 0, none⟩ = some (.slice A n c)) (h : Ints w A n ls) (hi : i < n) (hj : j < n) :
    Calls Try.prog 17 #[.int .i64 (i : Int), .int .i64 (j : Int), .pointer (some ⟨b, 0, none⟩)] w fun e w' => e = .returned (.int .i64 (cmpI (ls.getD i 0) (ls.getD j 0))) ∧ ∃ m, w' = w.drewN m := by
  obtain ⟨g, o, rfl, hlt, hc⟩ := h.row (by omega)
  have g1 := hc i hi
  have g2 := hc j hj
  have hiI : (i : Int) < (n : Int) := by omega
  have hjI : (j : Int) < (n : Int) := by omega
  clear hc h
  generalize ls.getD i 0 = x at *
  generalize ls.getD j 0 = y at *
  go_enter Try.func17, Try.ntmps17
  go_wp2_with fail
  go_quiet ((go_at_call 18; exact Calls.quiet_of_same (compareQ _ _ _)))
  go_wp2
  go_ret
  exact ⟨rfl, _, rfl⟩

theorem isPoor_any (b : Nat) (x p : Int) (w : World) (hb : w.cell? ⟨b, 0, none⟩ = some (.int .i64 p)) :
    Calls Try.prog 23 #[.int .i64 x, .pointer (some ⟨b, 0, none⟩)] w fun e w' => e = .returned (.bool (x == p)) ∧ w = w' := by
  go_enter Try.func23, Try.ntmps23
  go_wp2
  go_ret
  exact ⟨rfl, rfl⟩

set_option maxHeartbeats 1600000 in
set_option maxRecDepth 100000 in
theorem minFunc_any (A : Option Addr) (n c b m cl : Nat) (B : Option Addr) (os ls : List Int) (w : World) (h : Ints w A n os) (hn : 0 < n) (hn2 : n ≤ 12) (hb : w.cell? ⟨b, 0, none⟩ = some (.slice B m cl)) (hl : Ints w B m ls) (hos : ∀ x ∈ os, 0 ≤ x ∧ x < m) :
    Calls Try.prog 20 #[.slice A n c, .func (.func 17) #[] #[.pointer (some ⟨b, 0, none⟩)]] w fun e w' => ∃ p q : Nat, e = .returned (.int .i64 (p : Int)) ∧ w' = w.drewN q ∧ (p : Int) ∈ os ∧ ∀ j : Nat, (j : Int) ∈ os → ls.getD p 0 ≤ ls.getD j 0 := by
  have eg : ∀ args w, (callFunc 17 args).run Try.prog w = .ok (.enter 17 args) w := enters_of Try.func17 (by kernel_rfl) rfl
  have HL := hid h.len
  have HI := hid h
  have HS := hid hl
  have HO := hid hos
  have HBX := hid hb
  obtain ⟨p0, hp0⟩ : ∃ p0 : Nat, os.getD 0 0 = (p0 : Int) := ⟨(os.getD 0 0).toNat, by have := hos _ (getD_mem (xs := os) (i := 0) (by rw [HL.out]; exact hn)); omega⟩
  have HP0 := hid hp0
  obtain ⟨ba, oa, rfl, hlt, hc⟩ := h.row hn
  have g0 := hc 0 hn
  rw [hp0, Nat.add_zero] at g0
  have hn1 : ¬ (n : Int) < 1 := by omega
  clear h hl hos hb hc hp0
  go_enter Try.func20, Try.ntmps20
  go_wp2_with fail
  go_loopg [5, 6] n (fun g s5 s6 wr => ∃ t p q : Nat, s5 = .int .i64 (p : Int) ∧ s6 = .int .i64 ((t : Int) + 1) ∧ t + 1 ≤ n ∧ n - (t + 1) ≤ g ∧ wr = w.drewN q ∧ (p : Int) ∈ os ∧ ∀ j, j < t + 1 → ls.getD p 0 ≤ ls.getD (os.getD j 0).toNat 0)
  case atStart => exact ⟨0, p0, 0, rfl, rfl, by omega, by omega, rfl, by rw [← HP0.out]; exact getD_mem (by rw [HL.out]; exact hn), fun j hj => by
    obtain rfl : j = 0 := by omega
    rw [HP0.out]
    exact Int.le_refl _⟩
  case round =>
    obtain ⟨t, p, q, rfl, rfl, htn, hg, rfl, hp, hmin⟩ := hrel
    have HP := hid hp
    have HM := hid hmin
    clear hp hmin
    by_cases hlt2 : t + 1 < n
    · obtain ⟨ba2, oa2, he2, hlt3, hc⟩ := (HI.out.drewN q).row (by omega)
      injection he2 with he2
      injection he2 with he2 he3
      subst he2
      subst he3
      obtain ⟨x, hx⟩ : ∃ x : Nat, os.getD (t + 1) 0 = (x : Int) := ⟨(os.getD (t + 1) 0).toNat, by have := HO.out _ (getD_mem (xs := os) (i := t + 1) (by rw [HL.out]; exact hlt2)); omega⟩
      have g1 := hc (t + 1) hlt2
      rw [hx] at g1
      have hxm : x < m := by have := HO.out _ (getD_mem (xs := os) (i := t + 1) (by rw [HL.out]; exact hlt2)); omega
      have hpm : p < m := by have := HO.out _ HP.out; omega
      have hcall := byLeft_any b m cl x p B ls (w.drewN q) HBX.out (HS.out.drewN q) hxm hpm
      have hti : (t : Int) + 1 < (n : Int) := by omega
      have HX := hid hx
      have HXO : Hid ((x : Int) ∈ os) := by rw [Hid, ← hx]; exact getD_mem (by rw [HL.out]; exact hlt2)
      have gall : ∀ u, (w.drewN u).cell? ⟨ba, oa + (t + 1), none⟩ = some (.int .i64 (x : Int)) := fun u => g1
      clear hc hx
      by_cases hb : ls.getD x 0 < ls.getD p 0
      · have hz : decide ( cmpI (ls.getD x 0) (ls.getD p 0) < 0) = true := by rw [cmpI_neg]; exact decide_eq_true hb
        have HB2 := hid hb
        have hz2 := of_decide_eq_true hz
        clear hb hz
        generalize cmpI (ls.getD x 0) (ls.getD p 0) = r at *
        go_wp2_with (go_at_fn 17; refine hcall.mono ?_; rintro e w1 ⟨rfl, q1, rfl⟩)
        go_roundg (n - (t + 1 + 1))
        case measure => omega
        case rel =>
          refine ⟨t + 1, x, _, rfl, by go_num, by omega, by omega, rfl, HXO.out, fun j hj => ?_⟩
          by_cases e : j = t + 1
          · subst e
            rw [HX.out]
            exact Int.le_refl _
          · have := HM.out j (by omega)
            have := HB2.out
            omega
      · have hz : decide ( cmpI (ls.getD x 0) (ls.getD p 0) < 0) = false := by rw [cmpI_neg]; exact decide_eq_false hb
        have HB2 := hid hb
        have hz2 := of_decide_eq_false hz
        clear hb hz
        generalize cmpI (ls.getD x 0) (ls.getD p 0) = r at *
        go_wp2_with (go_at_fn 17; refine hcall.mono ?_; rintro e w1 ⟨rfl, q1, rfl⟩)
        go_roundg (n - (t + 1 + 1))
        case measure => omega
        case rel =>
          refine ⟨t + 1, p, _, rfl, by go_num, by omega, by omega, rfl, HP.out, fun j hj => ?_⟩
          by_cases e : j = t + 1
          · subst e
            rw [HX.out]
            have := HB2.out
            simp only [Int.toNat_natCast]
            omega
          · exact HM.out j (by omega)
    · obtain rfl : n = t + 1 := by omega
      go_wp2
      go_ret
      refine ⟨p, q, rfl, rfl, HP.out, fun j hj => ?_⟩
      obtain ⟨i, hi, he⟩ := mem_getD hj
      have := HM.out i (by rw [HL.out] at hi; exact hi)
      rw [he] at this
      exact this

set_option maxHeartbeats 1600000 in
set_option maxRecDepth 100000 in
theorem maxFunc_any (A : Option Addr) (n c b m cl : Nat) (B : Option Addr) (os ls : List Int) (w : World) (h : Ints w A n os) (hn : 0 < n) (hn2 : n ≤ 12) (hb : w.cell? ⟨b, 0, none⟩ = some (.slice B m cl)) (hl : Ints w B m ls) (hos : ∀ x ∈ os, 0 ≤ x ∧ x < m) :
    Calls Try.prog 21 #[.slice A n c, .func (.func 17) #[] #[.pointer (some ⟨b, 0, none⟩)]] w fun e w' => ∃ p q : Nat, e = .returned (.int .i64 (p : Int)) ∧ w' = w.drewN q ∧ (p : Int) ∈ os ∧ ∀ j : Nat, (j : Int) ∈ os → ls.getD j 0 ≤ ls.getD p 0 := by
  have eg : ∀ args w, (callFunc 17 args).run Try.prog w = .ok (.enter 17 args) w := enters_of Try.func17 (by kernel_rfl) rfl
  have HL := hid h.len
  have HI := hid h
  have HS := hid hl
  have HO := hid hos
  have HBX := hid hb
  obtain ⟨p0, hp0⟩ : ∃ p0 : Nat, os.getD 0 0 = (p0 : Int) := ⟨(os.getD 0 0).toNat, by have := hos _ (getD_mem (xs := os) (i := 0) (by rw [HL.out]; exact hn)); omega⟩
  have HP0 := hid hp0
  obtain ⟨ba, oa, rfl, hlt, hc⟩ := h.row hn
  have g0 := hc 0 hn
  rw [hp0, Nat.add_zero] at g0
  have hn1 : ¬ (n : Int) < 1 := by omega
  clear h hl hos hb hc hp0
  go_enter Try.func21, Try.ntmps21
  go_wp2_with fail
  go_loopg [5, 6] n (fun g s5 s6 wr => ∃ t p q : Nat, s5 = .int .i64 (p : Int) ∧ s6 = .int .i64 ((t : Int) + 1) ∧ t + 1 ≤ n ∧ n - (t + 1) ≤ g ∧ wr = w.drewN q ∧ (p : Int) ∈ os ∧ ∀ j, j < t + 1 → ls.getD (os.getD j 0).toNat 0 ≤ ls.getD p 0)
  case atStart => exact ⟨0, p0, 0, rfl, rfl, by omega, by omega, rfl, by rw [← HP0.out]; exact getD_mem (by rw [HL.out]; exact hn), fun j hj => by
    obtain rfl : j = 0 := by omega
    rw [HP0.out]
    exact Int.le_refl _⟩
  case round =>
    obtain ⟨t, p, q, rfl, rfl, htn, hg, rfl, hp, hmin⟩ := hrel
    have HP := hid hp
    have HM := hid hmin
    clear hp hmin
    by_cases hlt2 : t + 1 < n
    · obtain ⟨ba2, oa2, he2, hlt3, hc⟩ := (HI.out.drewN q).row (by omega)
      injection he2 with he2
      injection he2 with he2 he3
      subst he2
      subst he3
      obtain ⟨x, hx⟩ : ∃ x : Nat, os.getD (t + 1) 0 = (x : Int) := ⟨(os.getD (t + 1) 0).toNat, by have := HO.out _ (getD_mem (xs := os) (i := t + 1) (by rw [HL.out]; exact hlt2)); omega⟩
      have g1 := hc (t + 1) hlt2
      rw [hx] at g1
      have hxm : x < m := by have := HO.out _ (getD_mem (xs := os) (i := t + 1) (by rw [HL.out]; exact hlt2)); omega
      have hpm : p < m := by have := HO.out _ HP.out; omega
      have hcall := byLeft_any b m cl x p B ls (w.drewN q) HBX.out (HS.out.drewN q) hxm hpm
      have hti : (t : Int) + 1 < (n : Int) := by omega
      have HX := hid hx
      have HXO : Hid ((x : Int) ∈ os) := by rw [Hid, ← hx]; exact getD_mem (by rw [HL.out]; exact hlt2)
      have gall : ∀ u, (w.drewN u).cell? ⟨ba, oa + (t + 1), none⟩ = some (.int .i64 (x : Int)) := fun u => g1
      clear hc hx
      by_cases hb : ls.getD p 0 < ls.getD x 0
      · have hz : decide (0 < cmpI (ls.getD x 0) (ls.getD p 0)) = true := by rw [cmpI_pos]; exact decide_eq_true hb
        have HB2 := hid hb
        have hz2 := of_decide_eq_true hz
        clear hb hz
        generalize cmpI (ls.getD x 0) (ls.getD p 0) = r at *
        go_wp2_with (go_at_fn 17; refine hcall.mono ?_; rintro e w1 ⟨rfl, q1, rfl⟩)
        go_roundg (n - (t + 1 + 1))
        case measure => omega
        case rel =>
          refine ⟨t + 1, x, _, rfl, by go_num, by omega, by omega, rfl, HXO.out, fun j hj => ?_⟩
          by_cases e : j = t + 1
          · subst e
            rw [HX.out]
            exact Int.le_refl _
          · have := HM.out j (by omega)
            have := HB2.out
            omega
      · have hz : decide (0 < cmpI (ls.getD x 0) (ls.getD p 0)) = false := by rw [cmpI_pos]; exact decide_eq_false hb
        have HB2 := hid hb
        have hz2 := of_decide_eq_false hz
        clear hb hz
        generalize cmpI (ls.getD x 0) (ls.getD p 0) = r at *
        go_wp2_with (go_at_fn 17; refine hcall.mono ?_; rintro e w1 ⟨rfl, q1, rfl⟩)
        go_roundg (n - (t + 1 + 1))
        case measure => omega
        case rel =>
          refine ⟨t + 1, p, _, rfl, by go_num, by omega, by omega, rfl, HP.out, fun j hj => ?_⟩
          by_cases e : j = t + 1
          · subst e
            rw [HX.out]
            have := HB2.out
            simp only [Int.toNat_natCast]
            omega
          · exact HM.out j (by omega)
    · obtain rfl : n = t + 1 := by omega
      go_wp2
      go_ret
      refine ⟨p, q, rfl, rfl, HP.out, fun j hj => ?_⟩
      obtain ⟨i, hi, he⟩ := mem_getD hj
      have := HM.out i (by rw [HL.out] at hi; exact hi)
      rw [he] at this
      exact this
end Go.Proofs.Yteahhjakchcmkaa
