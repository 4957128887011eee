/-
  package event: occurring, Some.
-/
import Derived.Test.YtlepgeipcofapaaEvB
import Derived.Test.YtlepgeipcofapaaSubC
namespace Go.Proofs.Ytlepgeipcofapaa
open Go.RowKit

/-- How many of the events have the case i. -/
def occ : List Nat → Nat → Nat
  | [], _ => 0
  | s :: t, i => s / 2 ^ i % 2 + occ t i
theorem occ_take : ∀ {l : List Nat} (i : Nat) {k : Nat}, k < l.length → occ (l.take (k + 1)) i = occ (l.take k) i + l.getD k 0 / 2 ^ i % 2
  | [], _, _, h => absurd h (by simp)
  | x :: l, i, 0, _ => by simp [occ]
  | x :: l, i, k + 1, h => by
    have h1 := occ_take (l := l) i (k := k) (by simpa using h)
    simp only [List.take_succ_cons, occ, List.getD_cons_succ] at h1 ⊢
    rw [h1]
    omega
theorem occ_le : ∀ (l : List Nat) (i : Nat), occ l i ≤ l.length
  | [], _ => Nat.le_refl _
  | x :: l, i => by
    have h := occ_le l i
    have h2 : x / 2 ^ i % 2 < 2 := Nat.mod_lt _ (by omega)
    simp only [occ, List.length_cons]
    omega
/-- The cases below k that at least so many of the events have. -/
def enM (l : List Nat) (least : Int) : Nat → Nat
  | 0 => 0
  | k + 1 => if least ≤ (occ l k : Int) then enM l least k ||| 2 ^ k else enM l least k
theorem enM_lt (l : List Nat) (least : Int) : ∀ k, enM l least k < 2 ^ k
  | 0 => by simp [enM]
  | k + 1 => by
    have h := enM_lt l least k
    have h2 : 2 ^ (k + 1) = 2 ^ k * 2 := Nat.pow_succ 2 k
    unfold enM
    split
    · exact Nat.or_lt_two_pow (by omega) (by have := Nat.two_pow_pos k; omega)
    · omega
theorem enM_bit (l : List Nat) (least : Int) (i : Nat) : ∀ k, (enM l least k).testBit i = (decide (i < k) && decide (least ≤ (occ l i : Int)))
  | 0 => by simp [enM]
  | k + 1 => by
    have h := enM_bit l least i k
    unfold enM
    by_cases e : i = k
    · subst e
      by_cases c : least ≤ (occ l i : Int)
      · rw [if_pos c, Nat.testBit_or, h]
        simp [c]
      · rw [if_neg c, h]
        simp [c]
    · have e2 : decide (i < k + 1) = decide (i < k) := by
        by_cases c : i < k
        · rw [decide_eq_true c, decide_eq_true (by omega)]
        · rw [decide_eq_false c, decide_eq_false (by omega)]
      rw [e2]
      split
      · rw [Nat.testBit_or, h, Nat.testBit_two_pow]
        simp
        intro h1
        omega
      · exact h
/-- 1 where at least so many of the events have the case. -/
def enI (l : List Nat) (least : Int) (i : Nat) : Int := if least ≤ (occ l i : Int) then 1 else 0
theorem wgt_enM (ws : List Int) (l : List Nat) (least : Int) : wgt ws (enM l least ws.length) = cw ws (enI l least) := by
  refine cw_congr (fun i hi => ?_)
  unfold bt enI
  rw [enM_bit, decide_eq_true hi, Bool.true_and]
  by_cases c : least ≤ (occ l i : Int)
  · rw [if_pos c, if_pos (by simpa using c)]
  · rw [if_neg c, if_neg (by simpa using c)]

set_option maxHeartbeats 1600000 in
theorem occurring_ok (B : Option Addr) (m d i : Nat) (l : List Nat) (w : World) (hJ : Sets w B m l) (hm : m ≤ 12) (hi : i ≤ 12) :
    Calls Try.prog 24 #[.int .i64 (i : Int), .slice B m d] w fun e w' => e = .returned (.int .i64 ((occ l i : Nat) : Int)) ∧ w = w' := by
  have HL := hid hJ.len
  have HJ := hid hJ
  clear hJ
  go_enter Try.func24, Try.ntmps24
  go_wp2
  go_loopg [5, 7, 10] m (fun g u _ z wr => ∃ k : Nat, k ≤ m ∧ m - k ≤ g ∧ u = .int .i64 ((occ (l.take k) i : Nat) : Int) ∧ z = .int .i64 (k : Int) ∧ w = wr)
  case atStart => exact ⟨0, by omega, by omega, rfl, rfl, rfl⟩
  case round =>
    obtain ⟨k, hk, hg, rfl, rfl, rfl⟩ := hrel
    by_cases hlt : k < m
    · obtain ⟨b, o, rfl, hb, hc⟩ := HJ.out.row (by omega)
      have g1 := hc k hlt
      have h1 := shr_one (k := i) (HJ.out.get hlt)
      have hkl : k < l.length := by rw [HL.out]; exact hlt
      have HM := hid (occ_take i hkl)
      have h2 : l.getD k 0 / 2 ^ i % 2 < 2 := Nat.mod_lt _ (by omega)
      have h3 := occ_le (l.take k) i
      rw [List.length_take] at h3
      clear hc hkl
      generalize l.getD k 0 / 2 ^ i % 2 = q at *
      generalize occ (l.take k) i = x at *
      generalize l.getD k 0 = y at *
      go_wp2
      go_roundg (m - (k + 1))
      case measure => omega
      case rel => exact ⟨k + 1, by omega, by omega, by rw [HM.out]; go_num, by go_num, rfl⟩
    · obtain rfl : k = m := by omega
      have HE : Hid (l.take k = l) := by rw [← HL.out]; exact List.take_length
      go_wp2
      go_ret
      exact ⟨by rw [HE.out]; rfl, rfl⟩

set_option maxHeartbeats 800000 in
theorem evSome_bad (A : Option Addr) (n c : Nat) (B : Option Addr) (m d : Nat) (ws : List Int) (l : List Nat) (least : Int) (w : World) (hI : Ints w A n ws) (hJ : Sets w B m l) (hm : m ≤ 9223372036854775807) (h : casesErr ws l ≠ 0) :
    Calls Try.prog 11 #[.slice A n c, .slice B m d, .int .i64 least] w (RetR w 0 0 (casesErr ws l)) := by
  have HB0 : Hid (Below w.heap.size w (w.alloc (.cells #[.int .i64 0, .int .i64 0] 26))) := below_alloc w _
  have HZ : Hid (RatAt (w.alloc (.cells #[.int .i64 0, .int .i64 0] 26)) w.heap.size 0 0) := RatAt.new w _ 0 0
  have HC := hid (evCheck_any A n c B m d ws l _ (hI.keep HB0.out) (hJ.keep HB0.out) hm)
  have hne : (casesErr ws l != 0) = true := by simpa using h
  clear h hI hJ
  generalize casesErr ws l = er at *
  have hz := HZ.out
  have g0 := hz.p0
  have g1 := hz.p1
  have f0 := hz.f0
  have f1 := hz.f1
  clear hz HZ
  go_enter Try.func11, Try.ntmps11
  go_wp2_with fail
  refine HC.out.mono ?_
  rintro e w' ⟨rfl, hw⟩
  rw [hw] at HB0 g0 g1 f0 f1
  clear hw HC
  go_wp2
  (try simp only [Exit.inBlock, Exit.then])
  refine bodyPost_ret (v := .tuple #[.agg #[.int .i64 0, .int .i64 0], .int .i64 er]) ?_ rfl ⟨rfl, HB0.out.trans (below_set2 (by omega))⟩
  rw [results_cell_tmp rfl]
  go_simp

set_option maxHeartbeats 800000 in
theorem evSome_large (A : Option Addr) (n c : Nat) (B : Option Addr) (m d : Nat) (ws : List Int) (l : List Nat) (least : Int) (w : World) (hI : Ints w A n ws) (hJ : Sets w B m l) (hm : m ≤ 9223372036854775807) (h : casesErr ws l = 0) (h2 : 12 < m) :
    Calls Try.prog 11 #[.slice A n c, .slice B m d, .int .i64 least] w (RetR w 0 0 2) := by
  have HB0 : Hid (Below w.heap.size w (w.alloc (.cells #[.int .i64 0, .int .i64 0] 26))) := below_alloc w _
  have HZ : Hid (RatAt (w.alloc (.cells #[.int .i64 0, .int .i64 0] 26)) w.heap.size 0 0) := RatAt.new w _ 0 0
  have hc := evCheck_any A n c B m d ws l _ (hI.keep HB0.out) (hJ.keep HB0.out) hm
  rw [h] at hc
  have HC := hid hc
  clear h hI hJ hc
  have hz := HZ.out
  have g0 := hz.p0
  have g1 := hz.p1
  have f0 := hz.f0
  have f1 := hz.f1
  clear hz HZ
  go_enter Try.func11, Try.ntmps11
  go_wp2_with fail
  refine HC.out.mono ?_
  rintro e w' ⟨rfl, hw⟩
  rw [hw] at HB0 g0 g1 f0 f1
  clear hw HC
  go_wp2
  (try simp only [Exit.inBlock, Exit.then])
  refine bodyPost_ret (v := .tuple #[.agg #[.int .i64 0, .int .i64 0], .int .i64 2]) ?_ rfl ⟨rfl, HB0.out.trans (below_set2 (by omega))⟩
  rw [results_cell_tmp rfl]
  go_simp

set_option maxHeartbeats 1600000 in
set_option maxRecDepth 100000 in
theorem evSome_ok (A : Option Addr) (n c : Nat) (B : Option Addr) (m d : Nat) (ws : List Int) (l : List Nat) (least : Int) (w : World) (hI : Ints w A n ws) (hJ : Sets w B m l) (hS : Space ws) (hl : ∀ s ∈ l, s < 2 ^ n) (hm : m ≤ 12) :
    Calls Try.prog 11 #[.slice A n c, .slice B m d, .int .i64 least] w (RetR w (chR ws (enM l least n)).num ((chR ws (enM l least n)).den : Int) 0) := by
  have hn : n ≤ 12 := by have := hS.hi; have := hI.len; omega
  have HB0 : Hid (Below w.heap.size w (w.alloc (.cells #[.int .i64 0, .int .i64 0] 26))) := below_alloc w _
  have HZ : Hid (RatAt (w.alloc (.cells #[.int .i64 0, .int .i64 0] 26)) w.heap.size 0 0) := RatAt.new w _ 0 0
  have hc := evCheck_any A n c B m d ws l _ (hI.keep HB0.out) (hJ.keep HB0.out) (by omega)
  rw [casesErr_space hS (by rw [hI.len]; exact hl)] at hc
  have HC := hid hc
  have HO := hid (fun (i : Nat) (hi : i ≤ 12) => occurring_ok B m d i l _ (hJ.keep HB0.out) hm hi)
  have HX := hid (evChance_ok A n c ws (enM l least n) _ (hI.keep HB0.out) hS (enM_lt l least n))
  generalize (chR ws (enM l least n)).num = P at *
  generalize ((chR ws (enM l least n)).den : Int) = Q at *
  clear hc hI hJ hS hl
  go_enter Try.func11, Try.ntmps11
  go_wp2_with fail
  refine HC.out.mono ?_
  rintro e w' ⟨rfl, hw⟩
  rw [hw] at HB0 HZ HO HX
  clear hw HC
  go_wp2_with fail
  go_loopg [9, 10, 24] n (fun g u _ z wr => ∃ k : Nat, k ≤ n ∧ n - k ≤ g ∧ u = .int .u16 ((enM l least k : Nat) : Int) ∧ z = .int .i64 (k : Int) ∧ w' = wr)
  case atStart => exact ⟨0, by omega, by omega, rfl, rfl, rfl⟩
  case round =>
    obtain ⟨k, hk, hg, rfl, rfl, rfl⟩ := hrel
    by_cases hlt : k < n
    · have h1 := enM_lt l least k
      have h2 : 2 ^ k ≤ 4096 := Nat.pow_le_pow_right (n := 2) (by omega) (show k ≤ 12 by omega)
      have h3 : IntKind.u16.wrap ((2 : Int) ^ k) = ((2 ^ k : Nat) : Int) := wrap_pow16 (by omega)
      have h4 : bits .or .u16 ((enM l least k : Nat) : Int) ((2 ^ k : Nat) : Int) = ((enM l least k ||| 2 ^ k : Nat) : Int) := u16_or_nat _ _ (by omega) (by omega)
      have HE : Hid (enM l least (k + 1) = if least ≤ (occ l k : Int) then enM l least k ||| 2 ^ k else enM l least k) := rfl
      have h5 := HO.out k (by omega)
      have HO5 := hid h5
      rw [← h3] at h4
      clear h1 h2 h3 h5
      generalize occ l k = t at *
      generalize enM l least k = v at *
      go_wp2_with fail
      refine HO5.out.mono ?_
      rintro e w1 ⟨rfl, rfl⟩
      by_cases hc : least ≤ (t : Int)
      · rw [if_pos hc] at HE
        go_wp2
        go_roundg (n - (k + 1))
        case measure => omega
        case rel => exact ⟨k + 1, by omega, by omega, by rw [HE.out], by go_num, rfl⟩
      · rw [if_neg hc] at HE
        go_wp2
        go_roundg (n - (k + 1))
        case measure => omega
        case rel => exact ⟨k + 1, by omega, by omega, by rw [HE.out], by go_num, rfl⟩
    · obtain rfl : k = n := by omega
      go_wp2_with fail
      refine HX.out.mono ?_
      rintro e w1 ⟨rfl, hb⟩
      have hz := HZ.out.keep hb
      have g0 := hz.p0
      have g1 := hz.p1
      have f0 := hz.f0
      have f1 := hz.f1
      have HB1 := hid (below_step HB0.out (Nat.le_refl _) hb)
      clear hz hb HB0 HZ HX
      go_wp2
      (try simp only [Exit.inBlock, Exit.then])
      refine bodyPost_ret (v := .tuple #[.agg #[.int .i64 P, .int .i64 Q], .int .i64 0]) ?_ rfl ⟨rfl, HB1.out.trans (below_set2 (by omega))⟩
      rw [results_cell_tmp rfl]
      go_simp
end Go.Proofs.Ytlepgeipcofapaa
