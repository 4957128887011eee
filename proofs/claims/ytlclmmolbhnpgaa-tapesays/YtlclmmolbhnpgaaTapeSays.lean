/-
  castlaw.TapeSays, walked.
-/
import Derived.Test.YtlclmmolbhnpgaaTpH
import Derived.Test.YtlclmmolbhnpgaaTpI
import Derived.Test.YtlclmmolbhnpgaaAlk
import Derived.Deep.CutBlock
import Derived.Deep.DeepCutAuto
namespace Go.Proofs.Ytlclmmolbhnpgaa
open Go.RowKit

/-- What Bits answers, and whether it refuses. -/
def BitsFact (N : Int) (bb : Bool) (kv : Int) (ev : Int) : Prop := (bb = true ∧ (N < 1 ∨ 1024 < N) ∧ kv = 0 ∧ ev = 1) ∨ (bb = false ∧ ∃ n : Nat, N = n ∧ 1 ≤ n ∧ n ≤ 1024 ∧ kv = ((wd n : Nat) : Int) ∧ ev = 0)
theorem tpBits_any (N : Int) (w : World) : ∃ bb kv ev, BitsFact N bb kv ev ∧ Calls Try.prog 7 #[.int .i64 N] w fun e w' => e = .returned (.tuple #[.int .i64 kv, .int .i64 ev]) ∧ w = w' := by
  by_cases h : N < 1 ∨ 1024 < N
  · exact ⟨true, 0, 1, .inl ⟨rfl, h, rfl, rfl⟩, tpBits_bad N w h⟩
  · obtain ⟨n, rfl⟩ := Int.eq_ofNat_of_zero_le (show 0 ≤ N by omega)
    exact ⟨false, _, 0, .inr ⟨rfl, n, rfl, by omega, by omega, rfl, rfl⟩, tpBits_ok n w (by omega) (by omega)⟩

set_option maxHeartbeats 1000000 in
set_option maxRecDepth 100000 in
theorem tapeSays_any (A : Option Addr) (n c : Nat) (xs : List Nat) (N : Int) (B : Option Addr) (m d : Nat) (ms : List Int) (w : World) (hx : Byts w A n xs) (hc : Cap n c) (hy : Ints w B m ms) :
    Calls Try.prog 3 #[.slice A n c, .int .i64 N, .slice B m d] w fun e w' => e = .returned (.bool true) ∧ Below w.heap.size w w' := by
  obtain ⟨bb, kv, ev, hbf, hbc⟩ := tpBits_any N w
  have HBF := hid hbf
  have HBC := hid hbc
  have HDR := hid (tpDraw_any A n c xs N w hx hc)
  have HRW := hid (tpRow_any A n c xs B m d ms w hx hc hy)
  have HX := hid hx
  have HY := hid hy
  have HC := hid hc
  have HMl := hid hy.len
  clear hbf hbc hx hy hc
  obtain ⟨X, U, F, hXU⟩ : ∃ (X U : Nat) (F : Int), drawX N xs = (X, U, F) := ⟨_, _, _, rfl⟩
  obtain ⟨R, V, G, hRV⟩ : ∃ (R : List Int) (V : Nat) (G : Int), rowX ms xs = (R, V, G) := ⟨_, _, _, rfl⟩
  rw [hXU] at HDR
  rw [hRV] at HRW
  have HXU := hid hXU
  have HRV := hid hRV
  clear hXU hRV
  go_enter Try.func3, Try.ntmps3
  go_wp2_with fail
  refine HBC.out.mono ?_
  rintro e w' ⟨rfl, rfl⟩
  go_wp2_with fail
  refine HDR.out.mono ?_
  rintro e w' ⟨rfl, rfl⟩
  go_wp2_with fail
  refine HRW.out.mono ?_
  rintro e w1 ⟨v1, rfl, ho, hb⟩
  have HB1 := hid hb
  obtain ⟨A1, c1, rfl, hI1, hk1, -⟩ := ho.ints0
  have HI1 := hid hI1
  have HK1 := hid hk1
  clear ho hb hI1 hk1 HBC HDR HRW
  go_upto_region 4 with fail
  go_cut [46] from 41 to 46 (fun t wx => t = .bool bb ∧ w1 = wx)
  case first =>
    rcases HBF.out with ⟨h1, h2 | h2, -, -⟩ | ⟨h1, q, h2, h3, h4, -, -⟩
    · go_wp2
      go_meet
      exact ⟨by rw [h1], rfl⟩
    · have h3 : ¬ N < 1 := by omega
      go_wp2
      go_meet
      exact ⟨by rw [h1], rfl⟩
    · have h5 : ¬ N < 1 := by omega
      have h6 : ¬ N > 1024 := by omega
      clear h2 h3 h4
      go_wp2
      go_meet
      exact ⟨by rw [h1], rfl⟩
  case rest =>
    obtain ⟨rfl, rfl⟩ := hcut
    go_upto_if 46 with fail
    go_cut [] from 47 to 60 (fun wx => w1 = wx)
    case first =>
      rcases HBF.out with ⟨rfl, -, rfl, rfl⟩ | ⟨rfl, q, rfl, h3, h4, rfl, rfl⟩
      · go_wp2
        go_meet
        rfl
      · have HQ := hid (refBitsOf_ok w1 q q (Nat.le_refl _) h3 h4)
        go_wp2_with fail
        refine HQ.out.mono ?_
        rintro e w' ⟨rfl, rfl⟩
        go_wp2
        go_meet
        rfl
    case rest =>
      obtain rfl := hcut
      have HTE := hid (refTapeErr_any A n c xs w1 (HX.out.keep HB1.out))
      have HCE := hid (tpCheck_any A n c xs w1 (HX.out.keep HB1.out))
      by_cases he : tapeErr xs = 0
      · have e1 := HXU.out
        rw [drawX_ok he] at e1
        have HDO := hid (refDrawOf_any A n c xs N w1 (HX.out.keep HB1.out) HC.out he)
        rw [e1] at HDO
        rw [he] at HTE HCE
        have nF : (F != F) = false := bne_self_eq_false _
        have nX : ((X : Int) != (X : Int)) = false := bne_self_eq_false _
        have nU : ((U : Int) != (U : Int)) = false := bne_self_eq_false _
        have NF := hid (And.intro nF (And.intro nX nU))
        clear e1 HXU
        by_cases h30 : 30 < m
        · have e2 := HRV.out
          rw [rowX_large he (by rw [HMl.out]; exact h30)] at e2
          injection e2 with ed e2
          injection e2 with ef eg
          subst ed ef eg
          have hI : (m : Int) > 30 := by omega
          clear he HRV HI1 HK1
          go_wp2_with fail
          refine HTE.out.mono ?_
          rintro e w' ⟨rfl, rfl⟩
          go_wp2_with fail
          refine HCE.out.mono ?_
          rintro e w' ⟨rfl, rfl⟩
          go_wp2_with fail
          refine HDO.out.mono ?_
          rintro e w' ⟨rfl, rfl⟩
          go_wp2
          go_ret
          exact ⟨rfl, HB1.out⟩
        · have e2 := HRV.out
          rw [rowX_ok he (by rw [HMl.out]; exact h30)] at e2
          have HRO := hid (refRowOf_any A n c xs B m d ms w1 (HX.out.keep HB1.out) HC.out (HY.out.keep HB1.out) he (by omega))
          rw [e2] at HRO
          have hI : ¬ (m : Int) > 30 := by omega
          have hR : R.length ≤ 30 := by
            have hm : ms.length ≤ 30 := by rw [HMl.out]; omega
            rcases rowx_cases ms xs with ⟨e, h, -, -⟩ | ⟨r, u, h, hl, -, -⟩
            · rw [e2] at h
              injection h with h _
              rw [h]
              simp
            · rw [e2] at h
              injection h with h _
              rw [h, hl]
              exact hm
          have gG : (G == G) = true := beq_self_eq_true _
          have gV : ((V : Int) == (V : Int)) = true := beq_self_eq_true _
          clear he HRV e2
          go_wp2_with fail
          refine HTE.out.mono ?_
          rintro e w' ⟨rfl, rfl⟩
          go_wp2_with fail
          refine HCE.out.mono ?_
          rintro e w' ⟨rfl, rfl⟩
          go_wp2_with fail
          refine HDO.out.mono ?_
          rintro e w' ⟨rfl, rfl⟩
          go_wp2_with fail
          refine HRO.out.mono ?_
          rintro e w2 ⟨v2, rfl, ho, hb⟩
          have HB2 := hid (below_step HB1.out (Nat.le_refl _) hb)
          have HI2 := hid (HI1.out.keep hb)
          obtain ⟨A2, c2, rfl, hI2, -, -⟩ := ho.ints0
          have HAL := hid (alike_bel A1 R.length c1 A2 R.length c2 R R w2 HI2.out hI2 (by omega) (by omega))
          rw [show decide (R = R) = true from decide_eq_true rfl] at HAL
          clear ho hb hI2 HRO HDO HTE HCE HI1 HI2 HK1
          go_wp2_with fail
          refine HAL.out.mono ?_
          rintro e w3 ⟨rfl, hb⟩
          have HB3 := hid (below_step HB2.out (Nat.le_refl _) hb)
          clear hb
          go_wp2
          go_ret
          exact ⟨rfl, HB3.out⟩
      · have e1 := HXU.out
        rw [drawX_bad he] at e1
        have e2 := HRV.out
        rw [rowX_bad he] at e2
        injection e1 with ea e1
        injection e1 with eb ec
        injection e2 with ed e2
        injection e2 with ef eg
        subst ea eb ed ef
        have hz : (tapeErr xs != 0) = true := by simpa using he
        have HZ := hid (And.intro ec eg)
        clear he ec eg HXU HRV HI1 HK1
        generalize tapeErr xs = E at *
        obtain ⟨rfl, rfl⟩ := HZ.out
        go_wp2_with fail
        refine HTE.out.mono ?_
        rintro e w' ⟨rfl, rfl⟩
        go_wp2_with fail
        refine HCE.out.mono ?_
        rintro e w' ⟨rfl, rfl⟩
        go_wp2
        go_ret
        exact ⟨rfl, HB1.out⟩
end Go.Proofs.Ytlclmmolbhnpgaa
