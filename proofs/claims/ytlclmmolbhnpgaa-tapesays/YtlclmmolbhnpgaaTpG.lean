/-
  castref.DrawOf.
-/
import Derived.Test.YtlclmmolbhnpgaaTpC
namespace Go.Proofs.Ytlclmmolbhnpgaa
open Go.RowKit

/-- What the tape's front tells after i bits, of k. -/
def frt (xs : List Nat) (k i : Nat) : Nat := bvl 0 (xs.take i) * 2 ^ (k - i)
theorem frt_step {xs : List Nat} {k i : Nat} (hi : i < k) (hk : i < xs.length) : frt xs k (i + 1) = frt xs k i + xs.getD i 0 * 2 ^ (k - 1 - i) := by
  rw [frt, frt, bvl_step hk, show k - i = (k - 1 - i) + 1 by omega, show k - (i + 1) = k - 1 - i by omega, Nat.pow_succ, Nat.add_mul]
  generalize 2 ^ (k - 1 - i) = z
  generalize bvl 0 (xs.take i) = y
  rw [Nat.mul_comm 2 y, Nat.mul_assoc, Nat.mul_comm 2 z]
theorem frt_all (xs : List Nat) (k : Nat) : frt xs k k = bvl 0 (xs.take k) := by rw [frt, Nat.sub_self, Nat.pow_zero, Nat.mul_one]
theorem frt_lt {xs : List Nat} (h : Bin xs) {k i : Nat} (hi : i ≤ k) (hk : k ≤ 10) : frt xs k i < 1024 := by
  have h1 := bvl_lt0 (h.take i)
  have h2 : 2 ^ (xs.take i).length ≤ 2 ^ i := Nat.pow_le_pow_right (by omega) (by rw [List.length_take]; omega)
  have h3 : 2 ^ i * 2 ^ (k - i) ≤ 2 ^ 10 := by
    rw [← Nat.pow_add]
    exact Nat.pow_le_pow_right (by omega) (by omega)
  have h4 : frt xs k i < 2 ^ i * 2 ^ (k - i) := Nat.mul_lt_mul_of_pos_right (by omega) (Nat.two_pow_pos _)
  omega

theorem refDrawOf_arg (A : Option Addr) (n c : Nat) (m : Int) (w : World) (hm : m < 1 ∨ 1024 < m) :
    Calls Try.prog 13 #[.slice A n c, .int .i64 m] w (RetDraw (0, 0, 1) w) := by
  rcases hm with hm | hm
  · go_enter Try.func13, Try.ntmps13
    go_wp2
    go_ret3
    exact ⟨rfl, rfl⟩
  · have h1 : ¬ m < 1 := by omega
    go_enter Try.func13, Try.ntmps13
    go_wp2
    go_ret3
    exact ⟨rfl, rfl⟩

set_option maxHeartbeats 400000 in
set_option maxRecDepth 100000 in
theorem refDrawOf_step (A : Option Addr) (n c : Nat) (xs : List Nat) (m : Nat) (w : World) (h : Byts w A n xs) (hc : Cap n c) (hb : Bin xs) (hn : n ≤ 200) (h1 : 1 ≤ m) (h2 : m ≤ 1024)
    (ih : 0 < wd m → wd m ≤ n → Calls Try.prog 13 #[.slice (subA A c (wd m)) (n - wd m) (c - wd m), .int .i64 (m : Int)] w (RetDraw (drx m (xs.drop (wd m))) w)) :
    Calls Try.prog 13 #[.slice A n c, .int .i64 (m : Int)] w (RetDraw (drx m xs) w) := by
  have HL := hid h.len
  have HBN := hid hb
  have HB := hid (refBitsOf_ok w m m (Nat.le_refl _) h1 h2)
  have hk := wd_le h1 h2
  have HH := hid h
  have HIH := hid ih
  have hcap := hc
  unfold Cap at hcap
  have HSH : Hid (n < wd m → drx m xs = (0, 0, 6)) := fun hh => drx_none h1 h2 (drw_short (by rw [HL.out]; exact hh))
  have HHT : Hid (wd m ≤ n → bvl 0 (xs.take (wd m)) < m → drx m xs = (bvl 0 (xs.take (wd m)), wd m, 0)) := fun hh hq => drx_some h1 h2 (drw_hit (by rw [HL.out]; exact hh) hq)
  have HMS : Hid (wd m ≤ n → ¬ bvl 0 (xs.take (wd m)) < m → 0 < wd m ∧ ((∃ e, drx m (xs.drop (wd m)) = (0, 0, e) ∧ e ≠ 0 ∧ drx m xs = (0, 0, e)) ∨ ∃ x u, drx m (xs.drop (wd m)) = (x, u, 0) ∧ x < 1024 ∧ u ≤ 200 ∧ drx m xs = (x, u + wd m, 0))) := fun hh hq => by
    have h0 := miss_pos h1 hq
    refine ⟨h0, ?_⟩
    have hm := drw_miss (n := m) (xs := xs) (by rw [HL.out]; exact hh) hq h0
    cases hd : drw m (xs.drop (wd m)) with
    | none =>
      rw [hd] at hm
      exact .inl ⟨6, drx_none h1 h2 hd, by decide, drx_none h1 h2 hm⟩
    | some p =>
      obtain ⟨x, u⟩ := p
      rw [hd] at hm
      have h3 := drw_lt h1 hd
      rw [List.length_drop, HL.out] at h3
      exact .inr ⟨x, u, drx_some h1 h2 hd, by omega, by omega, drx_some h1 h2 hm⟩
  have HF := hid (fun i (hi : i < wd m) (hl : i < xs.length) => frt_step (xs := xs) hi hl)
  have HFL := hid (fun i (hi : i ≤ wd m) => frt_lt HBN.out hi hk)
  have HFA := hid (frt_all xs (wd m))
  have HF0 : Hid (frt xs (wd m) 0 = 0) := by rw [Hid, frt, List.take_zero, bvl_nil, Nat.zero_mul]
  have c1 : ¬ (m : Int) < 1 := by omega
  have c2 : ¬ (m : Int) > 1024 := by omega
  clear h hb ih hc
  generalize hkk : wd m = k at *
  clear hkk
  by_cases hs : n < k
  · have HE := hid (HSH.out hs)
    have hI : (n : Int) < (k : Int) := by omega
    clear HSH HHT HMS HF HFL HFA HF0 HIH
    go_enter Try.func13, Try.ntmps13
    go_wp2_with fail
    refine HB.out.mono ?_
    rintro e w' ⟨rfl, rfl⟩
    go_wp2
    go_ret3
    exact ⟨by rw [HE.out]; exact rfl, rfl⟩
  · have hI : ¬ (n : Int) < (k : Int) := by omega
    have hto := fun W => run_toB A n c k (k : Int) rfl (by omega) W
    go_enter Try.func13, Try.ntmps13
    go_wp2_with fail
    refine HB.out.mono ?_
    rintro e w' ⟨rfl, rfl⟩
    go_wp2
    clear hto HB
    go_loopg [8, 30] k (fun g xv sv wr => ∃ i : Nat, i ≤ k ∧ k - i ≤ g ∧ sv = .int .i64 (i : Int) ∧ xv = .int .i64 ((frt xs k i : Nat) : Int) ∧ w = wr)
    case atStart => exact ⟨0, by omega, by omega, rfl, by rw [HF0.out]; rfl, rfl⟩
    case round =>
      obtain ⟨i, hi, hg, rfl, rfl, rfl⟩ := hrel
      by_cases hlt : i < k
      · obtain ⟨b, o, rfl, hbb, hcc⟩ := HH.out.row (by omega)
        have g1 := hcc i (by omega)
        have hil : i < xs.length := by rw [HL.out]; omega
        have HS := hid (HF.out i hlt hil)
        have hd := HBN.out _ (getD_memT hil)
        have hf1 := HFL.out i (by omega)
        have hf2 := HFL.out (i + 1) (by omega)
        rw [HS.out] at hf2
        obtain ⟨j, hj⟩ : ∃ j : Nat, (k : Int) - 1 - (i : Int) = (j : Int) := ⟨k - 1 - i, by omega⟩
        have hj2 : k - 1 - i = j := by omega
        rw [hj2] at HS hf2
        clear hcc HF HFL HSH HHT HMS HIH HFA HF0 hil hj2
        generalize xs.getD i 0 = x at *
        generalize frt xs k i = y at *
        have HW : Hid (wrap64 ((y : Int) + wrap64 ((x : Int) * 2 ^ j)) = ((y + x * 2 ^ j : Nat) : Int)) := by
          rw [Hid, show ((2 : Int) ^ j) = ((2 ^ j : Nat) : Int) by simp, ← Int.natCast_mul]
          generalize x * 2 ^ j = z at *
          rw [IntWalk.wrap64_in (z : Int) (by omega), IntWalk.wrap64_in _ (by omega)]
          omega
        go_wp2
        go_roundg (k - (i + 1))
        case measure => omega
        case rel => exact ⟨i + 1, by omega, by omega, by go_num, by rw [HS.out, ← HW.out], rfl⟩
      · obtain rfl : k = i := by omega
        rw [HFA.out]
        have hx := HHT.out (by omega)
        have hy := HMS.out (by omega)
        have hf := bvl_take_le HBN.out (k := k) hk
        have HX := hid hx
        have HY := hid hy
        have HR := hid (fun (W : World) => run_fromB A n c k (k : Int) rfl (by omega) W)
        clear hx hy HHT HMS HF HFL HFA HF0 HSH
        generalize bvl 0 (xs.take k) = x at *
        by_cases hxm : x < m
        · have HE := hid (HX.out hxm)
          have hxI : (x : Int) < (m : Int) := by omega
          clear HX HY HIH HR
          go_wp2
          go_ret3
          exact ⟨by rw [HE.out]; exact rfl, rfl⟩
        · have hxI : ¬ (x : Int) < (m : Int) := by omega
          obtain ⟨hp, hcs⟩ := HY.out hxm
          have HC := hid (HIH.out hp (by omega))
          have hrun := HR.out
          clear HX HY HIH HR
          rcases hcs with ⟨e, hd, hne, hr⟩ | ⟨y, u, hd, hy, hu, hr⟩
          · rw [hd] at HC
            have HE := hid hr
            have hz : (e != 0) = true := by simpa using hne
            clear hr hd hne
            go_wp2_with fail
            refine HC.out.mono ?_
            rintro e' w' ⟨rfl, rfl⟩
            go_wp2
            go_ret3
            exact ⟨by rw [HE.out]; exact rfl, rfl⟩
          · rw [hd] at HC
            have HE := hid hr
            clear hr hd
            go_wp2_with fail
            refine HC.out.mono ?_
            rintro e' w' ⟨rfl, rfl⟩
            go_wp2
            go_ret3
            exact ⟨by rw [HE.out]; go_num, rfl⟩

theorem refDrawOf_good (m : Nat) (h1 : 1 ≤ m) (h2 : m ≤ 1024) (w : World) : ∀ (L : Nat) (A : Option Addr) (n c : Nat) (xs : List Nat), n ≤ L → Byts w A n xs → Cap n c → Bin xs → n ≤ 200 →
    Calls Try.prog 13 #[.slice A n c, .int .i64 (m : Int)] w (RetDraw (drx m xs) w) := by
  intro L
  induction L with
  | zero =>
    intro A n c xs hl h hc hb hn
    exact refDrawOf_step A n c xs m w h hc hb hn h1 h2 (fun h3 h4 => by omega)
  | succ L ih =>
    intro A n c xs hl h hc hb hn
    have hcap := hc
    unfold Cap at hcap
    exact refDrawOf_step A n c xs m w h hc hb hn h1 h2 (fun h3 h4 => ih _ _ _ _ (by omega) (h.drop h4 hcap.1) ⟨by omega, by omega⟩ (hb.drop _) (by omega))
theorem refDrawOf_any (A : Option Addr) (n c : Nat) (xs : List Nat) (m : Int) (w : World) (h : Byts w A n xs) (hc : Cap n c) (he : tapeErr xs = 0) :
    Calls Try.prog 13 #[.slice A n c, .int .i64 m] w (RetDraw (drx m xs) w) := by
  by_cases hm : m < 1 ∨ 1024 < m
  · rw [drx_arg xs hm]
    exact refDrawOf_arg A n c m w hm
  · obtain ⟨k, rfl⟩ := Int.eq_ofNat_of_zero_le (show 0 ≤ m by omega)
    have hz := tapeErr_zero he
    exact refDrawOf_good k (by omega) (by omega) w n A n c xs (Nat.le_refl _) h hc hz.2 (by rw [← h.len]; exact hz.1)
end Go.Proofs.Ytlclmmolbhnpgaa
