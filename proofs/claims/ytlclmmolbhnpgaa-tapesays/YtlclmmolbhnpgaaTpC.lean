/-
  castref.BitsOf; tape.Draw, Row.
-/
import Derived.Test.YtlclmmolbhnpgaaTpB
namespace Go.Proofs.Ytlclmmolbhnpgaa
open Go.RowKit

theorem refBitsOf_ok (w : World) : ∀ (m n : Nat), n ≤ m → 1 ≤ n → n ≤ 1024 → Calls Try.prog 10 #[.int .i64 (n : Int)] w fun e w' => e = .returned (.int .i64 ((wd n : Nat) : Int)) ∧ w = w' := by
  intro m
  induction m with
  | zero => intro n h1 h2; omega
  | succ m ih =>
    intro n hm h1 h2
    by_cases h : n = 1
    · subst h
      have HE := hid wd_one
      clear ih
      go_enter Try.func10, Try.ntmps10
      go_wp2
      go_ret
      exact ⟨by rw [HE.out]; rfl, rfl⟩
    · have HC := hid (ih ((n + 1) / 2) (by omega) (by omega) (by omega))
      have HE := hid (wd_rec (n := n) (by omega) h2)
      have hw := wd_le (n := (n + 1) / 2) (by omega) (by omega)
      have c1 : ((n : Int) == 1) = false := by simp; omega
      have hq : ((n : Int) + 1).tdiv 2 = (((n + 1) / 2 : Nat) : Int) := by rw [Int.tdiv_eq_ediv_of_nonneg (by omega)]; omega
      have hz : (n + 1) / 2 ≤ 1000 := by omega
      clear ih
      generalize wd ((n + 1) / 2) = v at *
      generalize (n + 1) / 2 = z at *
      go_enter Try.func10, Try.ntmps10
      go_wp2_with fail
      refine HC.out.mono ?_
      rintro e w' ⟨rfl, rfl⟩
      go_wp2
      go_ret
      exact ⟨by rw [HE.out]; go_num, rfl⟩

/-- A number, how many bits, an error. -/
def RetDraw (r : Nat × Nat × Int) (w : World) (e : Ending) (w' : World) : Prop := e = .returned (.tuple #[.int .i64 (r.1 : Int), .int .i64 (r.2.1 : Int), .int .i64 r.2.2]) ∧ w = w'

theorem tpDraw_err (A : Option Addr) (n c : Nat) (xs : List Nat) (m : Int) (w : World) (h : Byts w A n xs) (he : tapeErr xs ≠ 0) :
    Calls Try.prog 8 #[.slice A n c, .int .i64 m] w (RetDraw (0, 0, tapeErr xs) w) := by
  have HC := hid (tpCheck_any A n c xs w h)
  have hz : (tapeErr xs != 0) = true := by simpa using he
  clear h he
  generalize tapeErr xs = E at *
  go_enter Try.func8, Try.ntmps8
  go_wp2_with fail
  refine HC.out.mono ?_
  rintro e w' ⟨rfl, rfl⟩
  go_wp2
  go_ret3
  exact ⟨rfl, rfl⟩
theorem tpDraw_arg (A : Option Addr) (n c : Nat) (xs : List Nat) (m : Int) (w : World) (h : Byts w A n xs) (he : tapeErr xs = 0) (hm : m < 1 ∨ 1024 < m) :
    Calls Try.prog 8 #[.slice A n c, .int .i64 m] w (RetDraw (0, 0, 1) w) := by
  have HC := hid (tpCheck_any A n c xs w h)
  have HB := hid (tpBits_bad m w hm)
  rw [he] at HC
  clear h he hm
  go_enter Try.func8, Try.ntmps8
  go_wp2_with fail
  refine HC.out.mono ?_
  rintro e w' ⟨rfl, rfl⟩
  go_wp2_with fail
  refine HB.out.mono ?_
  rintro e w' ⟨rfl, rfl⟩
  go_wp2
  go_ret3
  exact ⟨rfl, rfl⟩

/-- After some tries. -/
def DrawTo (m : Nat) (xs : List Nat) (s : Nat) : Prop := drx m xs = match drw m (xs.drop s) with
  | none => (0, 0, 6)
  | some p => (p.1, p.2 + s, 0)
theorem drawTo_zero {m : Nat} (h1 : 1 ≤ m) (h2 : m ≤ 1024) (xs : List Nat) : DrawTo m xs 0 := by
  unfold DrawTo
  rw [List.drop_zero]
  cases h : drw m xs with
  | none => exact drx_none h1 h2 h
  | some p => exact drx_some h1 h2 h
theorem drawTo_hit {m : Nat} {xs : List Nat} {s : Nat} (h : DrawTo m xs s) (hl : s + wd m ≤ xs.length) (hb : bvl 0 ((xs.drop s).take (wd m)) < m) : drx m xs = (bvl 0 ((xs.drop s).take (wd m)), s + wd m, 0) := by
  unfold DrawTo at h
  rw [drw_hit (by rw [List.length_drop]; omega) hb] at h
  rw [h, Nat.add_comm s]
theorem drawTo_miss {m : Nat} {xs : List Nat} {s : Nat} (h1 : 1 ≤ m) (h : DrawTo m xs s) (hl : s + wd m ≤ xs.length) (hb : ¬ bvl 0 ((xs.drop s).take (wd m)) < m) : DrawTo m xs (s + wd m) ∧ 0 < wd m := by
  have h0 := miss_pos h1 hb
  refine ⟨?_, h0⟩
  unfold DrawTo at h ⊢
  rw [drw_miss (by rw [List.length_drop]; omega) hb h0, List.drop_drop] at h
  rw [h]
  cases drw m (xs.drop (s + wd m)) with
  | none => rfl
  | some p => simp [Nat.add_assoc, Nat.add_comm s]
theorem drawTo_short {m : Nat} {xs : List Nat} {s : Nat} (h : DrawTo m xs s) (hl : xs.length < s + wd m) (hs : s ≤ xs.length) : drx m xs = (0, 0, 6) := by
  unfold DrawTo at h
  rw [drw_short (by rw [List.length_drop]; omega)] at h
  exact h

set_option maxHeartbeats 1600000 in
set_option maxRecDepth 100000 in
theorem tpDraw_good (A : Option Addr) (n c : Nat) (xs : List Nat) (m : Nat) (w : World) (h : Byts w A n xs) (hc : Cap n c) (he : tapeErr xs = 0) (h1 : 1 ≤ m) (h2 : m ≤ 1024) :
    Calls Try.prog 8 #[.slice A n c, .int .i64 (m : Int)] w (RetDraw (drx m xs) w) := by
  have hz := tapeErr_zero he
  have HL := hid h.len
  have hn : n ≤ 200 := by rw [← h.len]; exact hz.1
  have HBN := hid hz.2
  have HC := hid (tpCheck_any A n c xs w h)
  have HB := hid (tpBits_ok m w h1 h2)
  rw [he] at HC
  have hk := wd_le h1 h2
  have HH := hid h
  have HCP := hid hc
  have HM := hid (And.intro h1 h2)
  have H0 := hid (drawTo_zero h1 h2 xs)
  clear h he hz hc
  have HST := hid (fun s (h : DrawTo m xs s) (hl : s + wd m ≤ xs.length) => (drawTo_hit h hl))
  have HMS := hid (fun s (h : DrawTo m xs s) (hl : s + wd m ≤ xs.length) => (drawTo_miss h1 h hl))
  have HSH := hid (fun s (h : DrawTo m xs s) => drawTo_short h)
  generalize hkk : wd m = k at *
  clear hkk
  go_enter Try.func8, Try.ntmps8
  go_wp2_with fail
  refine HC.out.mono ?_
  rintro e w' ⟨rfl, rfl⟩
  go_wp2_with fail
  refine HB.out.mono ?_
  rintro e w' ⟨rfl, rfl⟩
  go_wp2
  clear HC HB
  go_loopg [10, 11] (n + 1) (fun g sv _ wr => ∃ s : Nat, s ≤ n ∧ n + 1 - s ≤ g ∧ sv = .int .i64 (s : Int) ∧ w = wr ∧ DrawTo m xs s)
  case atStart => exact ⟨0, Nat.zero_le _, by omega, rfl, rfl, H0.out⟩
  case round =>
    clear H0
    obtain ⟨s, hs, hg, rfl, rfl, hto⟩ := hrel
    have HT := hid hto
    clear hto
    by_cases hlt : s + k ≤ n
    · have hI : (s : Int) + (k : Int) ≤ (n : Int) := by omega
      have hlx : s + k ≤ xs.length := by rw [HL.out]; exact hlt
      have hcap := HCP.out
      unfold Cap at hcap
      have hrun : ∀ W, (Instr.slice 22 (.slice A n c) (some (.int .i64 (s : Int))) (some (.int .i64 ((s : Int) + (k : Int)))) none).run Try.prog W = .ok (.slice (subA A c s) k (c - s)) W := fun W => by
        have := run_midB A n c s (s + k) (s : Int) ((s : Int) + (k : Int)) rfl (by omega) (by omega) (by omega) W
        rw [Nat.add_sub_cancel_left] at this
        exact this
      have HV := hid (tpValue_any (subA A c s) k (c - s) ((xs.drop s).take k) w ((HH.out.drop hs hcap.1).take (by omega)) ((HBN.out.drop s).take k) hk)
      have HX := hid (HST.out s HT.out hlx)
      have HY := hid (HMS.out s HT.out hlx)
      have hv := bvl_take_le (HBN.out.drop s) hk
      have HRUN := hid hrun
      clear hrun hcap hlx
      generalize bvl 0 ((xs.drop s).take k) = x at *
      have hr2 := HRUN.out
      by_cases hx : x < m
      · have HE := hid (HX.out hx)
        have hxI : (x : Int) < (m : Int) := by omega
        clear HX HY
        go_wp2_with (go_at_call 25; refine HV.out.mono ?_; rintro e w' ⟨rfl, rfl⟩)
        go_ret3
        exact ⟨by rw [HE.out]; exact rfl, rfl⟩
      · have HE := hid (HY.out hx)
        have hp := HE.out.2
        have hxI : ¬ (x : Int) < (m : Int) := by omega
        clear HX HY
        go_wp2_with (go_at_call 25; refine HV.out.mono ?_; rintro e w' ⟨rfl, rfl⟩)
        go_roundg (n + 1 - (s + k))
        case measure => omega
        case rel => exact ⟨s + k, by omega, by omega, by go_num, rfl, HE.out.1⟩
    · have hI : ¬ (s : Int) + (k : Int) ≤ (n : Int) := by omega
      have HE := hid (HSH.out s HT.out (by rw [HL.out]; omega) (by rw [HL.out]; omega))
      go_wp2
      go_ret3
      exact ⟨by rw [HE.out]; exact rfl, rfl⟩

theorem tpDraw_any (A : Option Addr) (n c : Nat) (xs : List Nat) (m : Int) (w : World) (h : Byts w A n xs) (hc : Cap n c) :
    Calls Try.prog 8 #[.slice A n c, .int .i64 m] w (RetDraw (drawX m xs) w) := by
  by_cases he : tapeErr xs = 0
  · rw [drawX_ok he]
    by_cases hm : m < 1 ∨ 1024 < m
    · rw [drx_arg xs hm]
      exact tpDraw_arg A n c xs m w h he hm
    · obtain ⟨k, rfl⟩ := Int.eq_ofNat_of_zero_le (show 0 ≤ m by omega)
      exact tpDraw_good A n c xs k w h hc he (by omega) (by omega)
  · rw [drawX_bad he]
    exact tpDraw_err A n c xs m w h he
end Go.Proofs.Ytlclmmolbhnpgaa
