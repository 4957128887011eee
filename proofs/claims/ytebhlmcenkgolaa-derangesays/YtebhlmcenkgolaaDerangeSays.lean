/-
  castlaw.DerangeSays, walked by cases.
-/
import Derived.Test.YtebhlmcenkgolaaDerA
import Derived.Test.YtebhlmcenkgolaaDerB
import Derived.Test.YtebhlmcenkgolaaDerC
import Derived.Test.YtebhlmcenkgolaaRefE
import Derived.Test.YtebhlmcenkgolaaGen
namespace Go.Proofs.Ytebhlmcenkgolaa
open Go.RowKit

set_option maxHeartbeats 2000000 in
set_option maxRecDepth 100000 in
theorem derangeSays_AY (A2 : Option Addr) (n2 c2 : Nat) (p : List Int) (n : Int) (k : Int) (w : World) (h2 : Ints w A2 n2 p) (hm : n2 ≤ 9223372036854775807) (hn : n < 0) (hp : permErr p = 0) :
    Calls Try.prog 3 #[.int .i64 n, .int .i64 k, .slice A2 n2 c2] w fun e w' => e = .returned (.bool true) ∧ Below w.heap.size w w' := by
  have HB0 := hid (Below.refl w.heap.size w)
  have HP := hid hp
  have HL := hid h2.len
  clear hp
  go_enter Try.func3, Try.ntmps3
  go_wp2_with fail
  refine (dcount_bad n _ (by omega)).mono ?_
  rintro e w' ⟨rfl, rfl⟩
  go_wp2_with fail
  refine (fixed_bad _ _ _ (by omega)).mono ?_
  rintro e w' ⟨rfl, rfl⟩
  go_wp2_with fail
  refine (own_ok A2 n2 c2 p _ h2 HP.out).mono ?_
  rintro e w1 ⟨rfl, hb⟩
  have HB1 := hid (below_step HB0.out (Nat.le_refl _) hb)
  clear HB0
  have HI := hid (h2.keep hb)
  clear hb h2
  go_wp2_with fail
  refine (refErr_any A2 n2 c2 p _ HI.out hm).mono ?_
  rintro e w' ⟨rfl, rfl⟩
  rw [HP.out]
  go_wp2_with fail
  go_loopg [14, 15, 36] n2 (fun g u _ s wr => ∃ j : Nat, j ≤ n2 ∧ n2 - j ≤ g ∧ u = .int .i64 ((ownK p j : Nat) : Int) ∧ s = .int .i64 (j : Int) ∧ w1 = wr)
  case atStart => exact ⟨0, Nat.zero_le _, by omega, rfl, rfl, rfl⟩
  case round =>
    obtain ⟨j, hj, hg, rfl, rfl, rfl⟩ := hrel
    have hle := ownK_le p j
    by_cases hlt : j < n2
    · obtain ⟨b, o, rfl, hb, hc⟩ := HI.out.row (by omega)
      have g1 := hc j hlt
      clear hc
      have hltI : (j : Int) < (n2 : Int) := by omega
      by_cases hx : p.getD j 0 = (j : Int)
      · have HN := hid (ownK_yes hx)
        rw [hx] at g1
        clear hx
        generalize ownK p j = z at *
        go_wp2
        go_roundg (n2 - (j + 1))
        case measure => omega
        case rel => exact ⟨j + 1, by omega, by omega, by rw [HN.out]; go_num, by go_num, rfl⟩
      · have HN := hid (ownK_no hx)
        have he : (p.getD j 0 == (j : Int)) = false := by simpa using hx
        generalize p.getD j 0 = x at *
        clear hx
        generalize ownK p j = z at *
        go_wp2
        go_roundg (n2 - (j + 1))
        case measure => omega
        case rel => exact ⟨j + 1, by omega, by omega, by rw [HN.out], by go_num, rfl⟩
    · have hjn : j = n2 := by omega
      subst hjn
      have HW : Hid (ownK p j = ownN p) := by unfold ownN; rw [HL.out]; exact rfl
      rw [HW.out]
      have e1 : (((ownN p : Nat) : Int) != ((ownN p : Nat) : Int)) = false := by simp
      generalize ownN p = ow at *
      go_wp2
      go_ret
      exact ⟨rfl, HB1.out⟩

set_option maxHeartbeats 2000000 in
set_option maxRecDepth 100000 in
theorem derangeSays_AN (A2 : Option Addr) (n2 c2 : Nat) (p : List Int) (n : Int) (k : Int) (w : World) (h2 : Ints w A2 n2 p) (hm : n2 ≤ 9223372036854775807) (hn : n < 0) (hp : permErr p ≠ 0) :
    Calls Try.prog 3 #[.int .i64 n, .int .i64 k, .slice A2 n2 c2] w fun e w' => e = .returned (.bool true) ∧ Below w.heap.size w w' := by
  have HB0 := hid (Below.refl w.heap.size w)
  have HP := hid hp
  have HL := hid h2.len
  clear hp
  go_enter Try.func3, Try.ntmps3
  go_wp2_with fail
  refine (dcount_bad n _ (by omega)).mono ?_
  rintro e w' ⟨rfl, rfl⟩
  go_wp2_with fail
  refine (fixed_bad _ _ _ (by omega)).mono ?_
  rintro e w' ⟨rfl, rfl⟩
  go_wp2_with fail
  refine (own_err A2 n2 c2 p _ h2 HP.out hm).mono ?_
  rintro e w1 ⟨rfl, hb⟩
  have HB1 := hid (below_step HB0.out (Nat.le_refl _) hb)
  clear HB0
  have HI := hid (h2.keep hb)
  clear hb h2
  go_wp2_with fail
  refine (refErr_any A2 n2 c2 p _ HI.out hm).mono ?_
  rintro e w' ⟨rfl, rfl⟩
  have z1 : (permErr p != 0) = true := by simpa using HP.out
  have z2 : (permErr p == 0) = false := by simpa using HP.out
  have z3 : (permErr p != permErr p) = false := by simp
  generalize permErr p = er at *
  go_wp2_with fail
  go_loopg [14, 15, 36] n2 (fun g u _ s wr => ∃ j : Nat, j ≤ n2 ∧ n2 - j ≤ g ∧ u = .int .i64 ((ownK p j : Nat) : Int) ∧ s = .int .i64 (j : Int) ∧ w1 = wr)
  case atStart => exact ⟨0, Nat.zero_le _, by omega, rfl, rfl, rfl⟩
  case round =>
    obtain ⟨j, hj, hg, rfl, rfl, rfl⟩ := hrel
    have hle := ownK_le p j
    by_cases hlt : j < n2
    · obtain ⟨b, o, rfl, hb, hc⟩ := HI.out.row (by omega)
      have g1 := hc j hlt
      clear hc
      have hltI : (j : Int) < (n2 : Int) := by omega
      by_cases hx : p.getD j 0 = (j : Int)
      · have HN := hid (ownK_yes hx)
        rw [hx] at g1
        clear hx
        generalize ownK p j = z at *
        go_wp2
        go_roundg (n2 - (j + 1))
        case measure => omega
        case rel => exact ⟨j + 1, by omega, by omega, by rw [HN.out]; go_num, by go_num, rfl⟩
      · have HN := hid (ownK_no hx)
        have he : (p.getD j 0 == (j : Int)) = false := by simpa using hx
        generalize p.getD j 0 = x at *
        clear hx
        generalize ownK p j = z at *
        go_wp2
        go_roundg (n2 - (j + 1))
        case measure => omega
        case rel => exact ⟨j + 1, by omega, by omega, by rw [HN.out], by go_num, rfl⟩
    · have hjn : j = n2 := by omega
      subst hjn
      generalize ownK p j = z at *
      go_wp2
      go_ret
      exact ⟨rfl, HB1.out⟩

set_option maxHeartbeats 2000000 in
set_option maxRecDepth 100000 in
theorem derangeSays_BY (A2 : Option Addr) (n2 c2 : Nat) (p : List Int) (n : Int) (k : Int) (w : World) (h2 : Ints w A2 n2 p) (hm : n2 ≤ 9223372036854775807) (hn : 15 < n) (hp : permErr p = 0) :
    Calls Try.prog 3 #[.int .i64 n, .int .i64 k, .slice A2 n2 c2] w fun e w' => e = .returned (.bool true) ∧ Below w.heap.size w w' := by
  have HB0 := hid (Below.refl w.heap.size w)
  have HP := hid hp
  have HL := hid h2.len
  clear hp
  go_enter Try.func3, Try.ntmps3
  go_wp2_with fail
  refine (dcount_bad n _ (by omega)).mono ?_
  rintro e w' ⟨rfl, rfl⟩
  go_wp2_with fail
  refine (fixed_bad _ _ _ (by omega)).mono ?_
  rintro e w' ⟨rfl, rfl⟩
  go_wp2_with fail
  refine (own_ok A2 n2 c2 p _ h2 HP.out).mono ?_
  rintro e w1 ⟨rfl, hb⟩
  have HB1 := hid (below_step HB0.out (Nat.le_refl _) hb)
  clear HB0
  have HI := hid (h2.keep hb)
  clear hb h2
  go_wp2_with fail
  refine (refErr_any A2 n2 c2 p _ HI.out hm).mono ?_
  rintro e w' ⟨rfl, rfl⟩
  rw [HP.out]
  go_wp2_with fail
  go_loopg [14, 15, 36] n2 (fun g u _ s wr => ∃ j : Nat, j ≤ n2 ∧ n2 - j ≤ g ∧ u = .int .i64 ((ownK p j : Nat) : Int) ∧ s = .int .i64 (j : Int) ∧ w1 = wr)
  case atStart => exact ⟨0, Nat.zero_le _, by omega, rfl, rfl, rfl⟩
  case round =>
    obtain ⟨j, hj, hg, rfl, rfl, rfl⟩ := hrel
    have hle := ownK_le p j
    by_cases hlt : j < n2
    · obtain ⟨b, o, rfl, hb, hc⟩ := HI.out.row (by omega)
      have g1 := hc j hlt
      clear hc
      have hltI : (j : Int) < (n2 : Int) := by omega
      by_cases hx : p.getD j 0 = (j : Int)
      · have HN := hid (ownK_yes hx)
        rw [hx] at g1
        clear hx
        generalize ownK p j = z at *
        go_wp2
        go_roundg (n2 - (j + 1))
        case measure => omega
        case rel => exact ⟨j + 1, by omega, by omega, by rw [HN.out]; go_num, by go_num, rfl⟩
      · have HN := hid (ownK_no hx)
        have he : (p.getD j 0 == (j : Int)) = false := by simpa using hx
        generalize p.getD j 0 = x at *
        clear hx
        generalize ownK p j = z at *
        go_wp2
        go_roundg (n2 - (j + 1))
        case measure => omega
        case rel => exact ⟨j + 1, by omega, by omega, by rw [HN.out], by go_num, rfl⟩
    · have hjn : j = n2 := by omega
      subst hjn
      have HW : Hid (ownK p j = ownN p) := by unfold ownN; rw [HL.out]; exact rfl
      rw [HW.out]
      have e1 : (((ownN p : Nat) : Int) != ((ownN p : Nat) : Int)) = false := by simp
      generalize ownN p = ow at *
      go_wp2
      go_ret
      exact ⟨rfl, HB1.out⟩

set_option maxHeartbeats 2000000 in
set_option maxRecDepth 100000 in
theorem derangeSays_BN (A2 : Option Addr) (n2 c2 : Nat) (p : List Int) (n : Int) (k : Int) (w : World) (h2 : Ints w A2 n2 p) (hm : n2 ≤ 9223372036854775807) (hn : 15 < n) (hp : permErr p ≠ 0) :
    Calls Try.prog 3 #[.int .i64 n, .int .i64 k, .slice A2 n2 c2] w fun e w' => e = .returned (.bool true) ∧ Below w.heap.size w w' := by
  have HB0 := hid (Below.refl w.heap.size w)
  have HP := hid hp
  have HL := hid h2.len
  clear hp
  go_enter Try.func3, Try.ntmps3
  go_wp2_with fail
  refine (dcount_bad n _ (by omega)).mono ?_
  rintro e w' ⟨rfl, rfl⟩
  go_wp2_with fail
  refine (fixed_bad _ _ _ (by omega)).mono ?_
  rintro e w' ⟨rfl, rfl⟩
  go_wp2_with fail
  refine (own_err A2 n2 c2 p _ h2 HP.out hm).mono ?_
  rintro e w1 ⟨rfl, hb⟩
  have HB1 := hid (below_step HB0.out (Nat.le_refl _) hb)
  clear HB0
  have HI := hid (h2.keep hb)
  clear hb h2
  go_wp2_with fail
  refine (refErr_any A2 n2 c2 p _ HI.out hm).mono ?_
  rintro e w' ⟨rfl, rfl⟩
  have z1 : (permErr p != 0) = true := by simpa using HP.out
  have z2 : (permErr p == 0) = false := by simpa using HP.out
  have z3 : (permErr p != permErr p) = false := by simp
  generalize permErr p = er at *
  go_wp2_with fail
  go_loopg [14, 15, 36] n2 (fun g u _ s wr => ∃ j : Nat, j ≤ n2 ∧ n2 - j ≤ g ∧ u = .int .i64 ((ownK p j : Nat) : Int) ∧ s = .int .i64 (j : Int) ∧ w1 = wr)
  case atStart => exact ⟨0, Nat.zero_le _, by omega, rfl, rfl, rfl⟩
  case round =>
    obtain ⟨j, hj, hg, rfl, rfl, rfl⟩ := hrel
    have hle := ownK_le p j
    by_cases hlt : j < n2
    · obtain ⟨b, o, rfl, hb, hc⟩ := HI.out.row (by omega)
      have g1 := hc j hlt
      clear hc
      have hltI : (j : Int) < (n2 : Int) := by omega
      by_cases hx : p.getD j 0 = (j : Int)
      · have HN := hid (ownK_yes hx)
        rw [hx] at g1
        clear hx
        generalize ownK p j = z at *
        go_wp2
        go_roundg (n2 - (j + 1))
        case measure => omega
        case rel => exact ⟨j + 1, by omega, by omega, by rw [HN.out]; go_num, by go_num, rfl⟩
      · have HN := hid (ownK_no hx)
        have he : (p.getD j 0 == (j : Int)) = false := by simpa using hx
        generalize p.getD j 0 = x at *
        clear hx
        generalize ownK p j = z at *
        go_wp2
        go_roundg (n2 - (j + 1))
        case measure => omega
        case rel => exact ⟨j + 1, by omega, by omega, by rw [HN.out], by go_num, rfl⟩
    · have hjn : j = n2 := by omega
      subst hjn
      generalize ownK p j = z at *
      go_wp2
      go_ret
      exact ⟨rfl, HB1.out⟩

set_option maxHeartbeats 2000000 in
set_option maxRecDepth 100000 in
theorem derangeSays_CY (A2 : Option Addr) (n2 c2 : Nat) (p : List Int) (n : Nat) (k : Int) (w : World) (h2 : Ints w A2 n2 p) (hm : n2 ≤ 9223372036854775807) (hn : n ≤ 15) (hk : k < 0) (hp : permErr p = 0) :
    Calls Try.prog 3 #[.int .i64 (n : Int), .int .i64 k, .slice A2 n2 c2] w fun e w' => e = .returned (.bool true) ∧ Below w.heap.size w w' := by
  have HB0 := hid (Below.refl w.heap.size w)
  have HP := hid hp
  have HL := hid h2.len
  clear hp
  go_enter Try.func3, Try.ntmps3
  go_wp2_with fail
  refine (dcount_ok _ n rfl _ hn).mono ?_
  rintro e w' ⟨rfl, rfl⟩
  go_wp2_with fail
  refine (fixed_bad _ _ _ (by omega)).mono ?_
  rintro e w' ⟨rfl, rfl⟩
  go_wp2_with fail
  refine (own_ok A2 n2 c2 p _ h2 HP.out).mono ?_
  rintro e w1 ⟨rfl, hb⟩
  have HB1 := hid (below_step HB0.out (Nat.le_refl _) hb)
  clear HB0
  have HI := hid (h2.keep hb)
  clear hb h2
  go_wp2_with fail
  refine (refErr_any A2 n2 c2 p _ HI.out hm).mono ?_
  rintro e w' ⟨rfl, rfl⟩
  rw [HP.out]
  go_wp2_with fail
  go_loopg [14, 15, 36] n2 (fun g u _ s wr => ∃ j : Nat, j ≤ n2 ∧ n2 - j ≤ g ∧ u = .int .i64 ((ownK p j : Nat) : Int) ∧ s = .int .i64 (j : Int) ∧ w1 = wr)
  case atStart => exact ⟨0, Nat.zero_le _, by omega, rfl, rfl, rfl⟩
  case round =>
    obtain ⟨j, hj, hg, rfl, rfl, rfl⟩ := hrel
    have hle := ownK_le p j
    by_cases hlt : j < n2
    · obtain ⟨b, o, rfl, hb, hc⟩ := HI.out.row (by omega)
      have g1 := hc j hlt
      clear hc
      have hltI : (j : Int) < (n2 : Int) := by omega
      by_cases hx : p.getD j 0 = (j : Int)
      · have HN := hid (ownK_yes hx)
        rw [hx] at g1
        clear hx
        generalize ownK p j = z at *
        go_wp2
        go_roundg (n2 - (j + 1))
        case measure => omega
        case rel => exact ⟨j + 1, by omega, by omega, by rw [HN.out]; go_num, by go_num, rfl⟩
      · have HN := hid (ownK_no hx)
        have he : (p.getD j 0 == (j : Int)) = false := by simpa using hx
        generalize p.getD j 0 = x at *
        clear hx
        generalize ownK p j = z at *
        go_wp2
        go_roundg (n2 - (j + 1))
        case measure => omega
        case rel => exact ⟨j + 1, by omega, by omega, by rw [HN.out], by go_num, rfl⟩
    · have hjn : j = n2 := by omega
      subst hjn
      have HW : Hid (ownK p j = ownN p) := by unfold ownN; rw [HL.out]; exact rfl
      rw [HW.out]
      have e1 : (((ownN p : Nat) : Int) != ((ownN p : Nat) : Int)) = false := by simp
      generalize ownN p = ow at *
      have hnI0 : ¬ (n : Int) < 0 := by omega
      have hnI1 : ¬ 15 < (n : Int) := by omega
      go_wp2_with fail
      refine (noneOf_ok n _ hn).mono ?_
      rintro e w2 ⟨rfl, hb⟩
      have HB2 := hid (below_step HB1.out (Nat.le_refl _) hb)
      clear HB1
      clear hb
      have e2 : (((drg n : Nat) : Int) != ((drg n : Nat) : Int)) = false := by simp
      generalize drg n = d at *
      go_wp2
      go_ret
      exact ⟨rfl, HB2.out⟩

set_option maxHeartbeats 2000000 in
set_option maxRecDepth 100000 in
theorem derangeSays_CN (A2 : Option Addr) (n2 c2 : Nat) (p : List Int) (n : Nat) (k : Int) (w : World) (h2 : Ints w A2 n2 p) (hm : n2 ≤ 9223372036854775807) (hn : n ≤ 15) (hk : k < 0) (hp : permErr p ≠ 0) :
    Calls Try.prog 3 #[.int .i64 (n : Int), .int .i64 k, .slice A2 n2 c2] w fun e w' => e = .returned (.bool true) ∧ Below w.heap.size w w' := by
  have HB0 := hid (Below.refl w.heap.size w)
  have HP := hid hp
  have HL := hid h2.len
  clear hp
  go_enter Try.func3, Try.ntmps3
  go_wp2_with fail
  refine (dcount_ok _ n rfl _ hn).mono ?_
  rintro e w' ⟨rfl, rfl⟩
  go_wp2_with fail
  refine (fixed_bad _ _ _ (by omega)).mono ?_
  rintro e w' ⟨rfl, rfl⟩
  go_wp2_with fail
  refine (own_err A2 n2 c2 p _ h2 HP.out hm).mono ?_
  rintro e w1 ⟨rfl, hb⟩
  have HB1 := hid (below_step HB0.out (Nat.le_refl _) hb)
  clear HB0
  have HI := hid (h2.keep hb)
  clear hb h2
  go_wp2_with fail
  refine (refErr_any A2 n2 c2 p _ HI.out hm).mono ?_
  rintro e w' ⟨rfl, rfl⟩
  have z1 : (permErr p != 0) = true := by simpa using HP.out
  have z2 : (permErr p == 0) = false := by simpa using HP.out
  have z3 : (permErr p != permErr p) = false := by simp
  generalize permErr p = er at *
  go_wp2_with fail
  go_loopg [14, 15, 36] n2 (fun g u _ s wr => ∃ j : Nat, j ≤ n2 ∧ n2 - j ≤ g ∧ u = .int .i64 ((ownK p j : Nat) : Int) ∧ s = .int .i64 (j : Int) ∧ w1 = wr)
  case atStart => exact ⟨0, Nat.zero_le _, by omega, rfl, rfl, rfl⟩
  case round =>
    obtain ⟨j, hj, hg, rfl, rfl, rfl⟩ := hrel
    have hle := ownK_le p j
    by_cases hlt : j < n2
    · obtain ⟨b, o, rfl, hb, hc⟩ := HI.out.row (by omega)
      have g1 := hc j hlt
      clear hc
      have hltI : (j : Int) < (n2 : Int) := by omega
      by_cases hx : p.getD j 0 = (j : Int)
      · have HN := hid (ownK_yes hx)
        rw [hx] at g1
        clear hx
        generalize ownK p j = z at *
        go_wp2
        go_roundg (n2 - (j + 1))
        case measure => omega
        case rel => exact ⟨j + 1, by omega, by omega, by rw [HN.out]; go_num, by go_num, rfl⟩
      · have HN := hid (ownK_no hx)
        have he : (p.getD j 0 == (j : Int)) = false := by simpa using hx
        generalize p.getD j 0 = x at *
        clear hx
        generalize ownK p j = z at *
        go_wp2
        go_roundg (n2 - (j + 1))
        case measure => omega
        case rel => exact ⟨j + 1, by omega, by omega, by rw [HN.out], by go_num, rfl⟩
    · have hjn : j = n2 := by omega
      subst hjn
      generalize ownK p j = z at *
      have hnI0 : ¬ (n : Int) < 0 := by omega
      have hnI1 : ¬ 15 < (n : Int) := by omega
      go_wp2_with fail
      refine (noneOf_ok n _ hn).mono ?_
      rintro e w2 ⟨rfl, hb⟩
      have HB2 := hid (below_step HB1.out (Nat.le_refl _) hb)
      clear HB1
      clear hb
      have e2 : (((drg n : Nat) : Int) != ((drg n : Nat) : Int)) = false := by simp
      generalize drg n = d at *
      go_wp2
      go_ret
      exact ⟨rfl, HB2.out⟩

set_option maxHeartbeats 2000000 in
set_option maxRecDepth 100000 in
theorem derangeSays_DY (A2 : Option Addr) (n2 c2 : Nat) (p : List Int) (n : Nat) (k : Int) (w : World) (h2 : Ints w A2 n2 p) (hm : n2 ≤ 9223372036854775807) (hn : n ≤ 15) (hk : 15 < k) (hp : permErr p = 0) :
    Calls Try.prog 3 #[.int .i64 (n : Int), .int .i64 k, .slice A2 n2 c2] w fun e w' => e = .returned (.bool true) ∧ Below w.heap.size w w' := by
  have HB0 := hid (Below.refl w.heap.size w)
  have HP := hid hp
  have HL := hid h2.len
  clear hp
  go_enter Try.func3, Try.ntmps3
  go_wp2_with fail
  refine (dcount_ok _ n rfl _ hn).mono ?_
  rintro e w' ⟨rfl, rfl⟩
  go_wp2_with fail
  refine (fixed_bad _ _ _ (by omega)).mono ?_
  rintro e w' ⟨rfl, rfl⟩
  go_wp2_with fail
  refine (own_ok A2 n2 c2 p _ h2 HP.out).mono ?_
  rintro e w1 ⟨rfl, hb⟩
  have HB1 := hid (below_step HB0.out (Nat.le_refl _) hb)
  clear HB0
  have HI := hid (h2.keep hb)
  clear hb h2
  go_wp2_with fail
  refine (refErr_any A2 n2 c2 p _ HI.out hm).mono ?_
  rintro e w' ⟨rfl, rfl⟩
  rw [HP.out]
  go_wp2_with fail
  go_loopg [14, 15, 36] n2 (fun g u _ s wr => ∃ j : Nat, j ≤ n2 ∧ n2 - j ≤ g ∧ u = .int .i64 ((ownK p j : Nat) : Int) ∧ s = .int .i64 (j : Int) ∧ w1 = wr)
  case atStart => exact ⟨0, Nat.zero_le _, by omega, rfl, rfl, rfl⟩
  case round =>
    obtain ⟨j, hj, hg, rfl, rfl, rfl⟩ := hrel
    have hle := ownK_le p j
    by_cases hlt : j < n2
    · obtain ⟨b, o, rfl, hb, hc⟩ := HI.out.row (by omega)
      have g1 := hc j hlt
      clear hc
      have hltI : (j : Int) < (n2 : Int) := by omega
      by_cases hx : p.getD j 0 = (j : Int)
      · have HN := hid (ownK_yes hx)
        rw [hx] at g1
        clear hx
        generalize ownK p j = z at *
        go_wp2
        go_roundg (n2 - (j + 1))
        case measure => omega
        case rel => exact ⟨j + 1, by omega, by omega, by rw [HN.out]; go_num, by go_num, rfl⟩
      · have HN := hid (ownK_no hx)
        have he : (p.getD j 0 == (j : Int)) = false := by simpa using hx
        generalize p.getD j 0 = x at *
        clear hx
        generalize ownK p j = z at *
        go_wp2
        go_roundg (n2 - (j + 1))
        case measure => omega
        case rel => exact ⟨j + 1, by omega, by omega, by rw [HN.out], by go_num, rfl⟩
    · have hjn : j = n2 := by omega
      subst hjn
      have HW : Hid (ownK p j = ownN p) := by unfold ownN; rw [HL.out]; exact rfl
      rw [HW.out]
      have e1 : (((ownN p : Nat) : Int) != ((ownN p : Nat) : Int)) = false := by simp
      generalize ownN p = ow at *
      have hnI0 : ¬ (n : Int) < 0 := by omega
      have hnI1 : ¬ 15 < (n : Int) := by omega
      go_wp2_with fail
      refine (noneOf_ok n _ hn).mono ?_
      rintro e w2 ⟨rfl, hb⟩
      have HB2 := hid (below_step HB1.out (Nat.le_refl _) hb)
      clear HB1
      clear hb
      have e2 : (((drg n : Nat) : Int) != ((drg n : Nat) : Int)) = false := by simp
      generalize drg n = d at *
      go_wp2
      go_ret
      exact ⟨rfl, HB2.out⟩

set_option maxHeartbeats 2000000 in
set_option maxRecDepth 100000 in
theorem derangeSays_DN (A2 : Option Addr) (n2 c2 : Nat) (p : List Int) (n : Nat) (k : Int) (w : World) (h2 : Ints w A2 n2 p) (hm : n2 ≤ 9223372036854775807) (hn : n ≤ 15) (hk : 15 < k) (hp : permErr p ≠ 0) :
    Calls Try.prog 3 #[.int .i64 (n : Int), .int .i64 k, .slice A2 n2 c2] w fun e w' => e = .returned (.bool true) ∧ Below w.heap.size w w' := by
  have HB0 := hid (Below.refl w.heap.size w)
  have HP := hid hp
  have HL := hid h2.len
  clear hp
  go_enter Try.func3, Try.ntmps3
  go_wp2_with fail
  refine (dcount_ok _ n rfl _ hn).mono ?_
  rintro e w' ⟨rfl, rfl⟩
  go_wp2_with fail
  refine (fixed_bad _ _ _ (by omega)).mono ?_
  rintro e w' ⟨rfl, rfl⟩
  go_wp2_with fail
  refine (own_err A2 n2 c2 p _ h2 HP.out hm).mono ?_
  rintro e w1 ⟨rfl, hb⟩
  have HB1 := hid (below_step HB0.out (Nat.le_refl _) hb)
  clear HB0
  have HI := hid (h2.keep hb)
  clear hb h2
  go_wp2_with fail
  refine (refErr_any A2 n2 c2 p _ HI.out hm).mono ?_
  rintro e w' ⟨rfl, rfl⟩
  have z1 : (permErr p != 0) = true := by simpa using HP.out
  have z2 : (permErr p == 0) = false := by simpa using HP.out
  have z3 : (permErr p != permErr p) = false := by simp
  generalize permErr p = er at *
  go_wp2_with fail
  go_loopg [14, 15, 36] n2 (fun g u _ s wr => ∃ j : Nat, j ≤ n2 ∧ n2 - j ≤ g ∧ u = .int .i64 ((ownK p j : Nat) : Int) ∧ s = .int .i64 (j : Int) ∧ w1 = wr)
  case atStart => exact ⟨0, Nat.zero_le _, by omega, rfl, rfl, rfl⟩
  case round =>
    obtain ⟨j, hj, hg, rfl, rfl, rfl⟩ := hrel
    have hle := ownK_le p j
    by_cases hlt : j < n2
    · obtain ⟨b, o, rfl, hb, hc⟩ := HI.out.row (by omega)
      have g1 := hc j hlt
      clear hc
      have hltI : (j : Int) < (n2 : Int) := by omega
      by_cases hx : p.getD j 0 = (j : Int)
      · have HN := hid (ownK_yes hx)
        rw [hx] at g1
        clear hx
        generalize ownK p j = z at *
        go_wp2
        go_roundg (n2 - (j + 1))
        case measure => omega
        case rel => exact ⟨j + 1, by omega, by omega, by rw [HN.out]; go_num, by go_num, rfl⟩
      · have HN := hid (ownK_no hx)
        have he : (p.getD j 0 == (j : Int)) = false := by simpa using hx
        generalize p.getD j 0 = x at *
        clear hx
        generalize ownK p j = z at *
        go_wp2
        go_roundg (n2 - (j + 1))
        case measure => omega
        case rel => exact ⟨j + 1, by omega, by omega, by rw [HN.out], by go_num, rfl⟩
    · have hjn : j = n2 := by omega
      subst hjn
      generalize ownK p j = z at *
      have hnI0 : ¬ (n : Int) < 0 := by omega
      have hnI1 : ¬ 15 < (n : Int) := by omega
      go_wp2_with fail
      refine (noneOf_ok n _ hn).mono ?_
      rintro e w2 ⟨rfl, hb⟩
      have HB2 := hid (below_step HB1.out (Nat.le_refl _) hb)
      clear HB1
      clear hb
      have e2 : (((drg n : Nat) : Int) != ((drg n : Nat) : Int)) = false := by simp
      generalize drg n = d at *
      go_wp2
      go_ret
      exact ⟨rfl, HB2.out⟩

set_option maxHeartbeats 2000000 in
set_option maxRecDepth 100000 in
theorem derangeSays_OY (A2 : Option Addr) (n2 c2 : Nat) (p : List Int) (n : Nat) (k : Nat) (w : World) (h2 : Ints w A2 n2 p) (hm : n2 ≤ 9223372036854775807) (hn : n ≤ 15) (hk15 : k ≤ 15) (hk : n < k) (hp : permErr p = 0) :
    Calls Try.prog 3 #[.int .i64 (n : Int), .int .i64 (k : Int), .slice A2 n2 c2] w fun e w' => e = .returned (.bool true) ∧ Below w.heap.size w w' := by
  have HB0 := hid (Below.refl w.heap.size w)
  have HP := hid hp
  have HL := hid h2.len
  clear hp
  go_enter Try.func3, Try.ntmps3
  go_wp2_with fail
  refine (dcount_ok _ n rfl _ hn).mono ?_
  rintro e w' ⟨rfl, rfl⟩
  go_wp2_with fail
  refine (fixed_over n k _ hn hk15 hk).mono ?_
  rintro e w' ⟨rfl, rfl⟩
  go_wp2_with fail
  refine (own_ok A2 n2 c2 p _ h2 HP.out).mono ?_
  rintro e w1 ⟨rfl, hb⟩
  have HB1 := hid (below_step HB0.out (Nat.le_refl _) hb)
  clear HB0
  have HI := hid (h2.keep hb)
  clear hb h2
  go_wp2_with fail
  refine (refErr_any A2 n2 c2 p _ HI.out hm).mono ?_
  rintro e w' ⟨rfl, rfl⟩
  rw [HP.out]
  go_wp2_with fail
  go_loopg [14, 15, 36] n2 (fun g u _ s wr => ∃ j : Nat, j ≤ n2 ∧ n2 - j ≤ g ∧ u = .int .i64 ((ownK p j : Nat) : Int) ∧ s = .int .i64 (j : Int) ∧ w1 = wr)
  case atStart => exact ⟨0, Nat.zero_le _, by omega, rfl, rfl, rfl⟩
  case round =>
    obtain ⟨j, hj, hg, rfl, rfl, rfl⟩ := hrel
    have hle := ownK_le p j
    by_cases hlt : j < n2
    · obtain ⟨b, o, rfl, hb, hc⟩ := HI.out.row (by omega)
      have g1 := hc j hlt
      clear hc
      have hltI : (j : Int) < (n2 : Int) := by omega
      by_cases hx : p.getD j 0 = (j : Int)
      · have HN := hid (ownK_yes hx)
        rw [hx] at g1
        clear hx
        generalize ownK p j = z at *
        go_wp2
        go_roundg (n2 - (j + 1))
        case measure => omega
        case rel => exact ⟨j + 1, by omega, by omega, by rw [HN.out]; go_num, by go_num, rfl⟩
      · have HN := hid (ownK_no hx)
        have he : (p.getD j 0 == (j : Int)) = false := by simpa using hx
        generalize p.getD j 0 = x at *
        clear hx
        generalize ownK p j = z at *
        go_wp2
        go_roundg (n2 - (j + 1))
        case measure => omega
        case rel => exact ⟨j + 1, by omega, by omega, by rw [HN.out], by go_num, rfl⟩
    · have hjn : j = n2 := by omega
      subst hjn
      have HW : Hid (ownK p j = ownN p) := by unfold ownN; rw [HL.out]; exact rfl
      rw [HW.out]
      have e1 : (((ownN p : Nat) : Int) != ((ownN p : Nat) : Int)) = false := by simp
      generalize ownN p = ow at *
      have hnI0 : ¬ (n : Int) < 0 := by omega
      have hnI1 : ¬ 15 < (n : Int) := by omega
      go_wp2_with fail
      refine (noneOf_ok n _ hn).mono ?_
      rintro e w2 ⟨rfl, hb⟩
      have HB2 := hid (below_step HB1.out (Nat.le_refl _) hb)
      clear HB1
      clear hb
      have e2 : (((drg n : Nat) : Int) != ((drg n : Nat) : Int)) = false := by simp
      generalize drg n = d at *
      have hd : decide (n < k) = true := decide_eq_true hk
      go_wp2
      go_ret
      exact ⟨rfl, HB2.out⟩

set_option maxHeartbeats 2000000 in
set_option maxRecDepth 100000 in
theorem derangeSays_ON (A2 : Option Addr) (n2 c2 : Nat) (p : List Int) (n : Nat) (k : Nat) (w : World) (h2 : Ints w A2 n2 p) (hm : n2 ≤ 9223372036854775807) (hn : n ≤ 15) (hk15 : k ≤ 15) (hk : n < k) (hp : permErr p ≠ 0) :
    Calls Try.prog 3 #[.int .i64 (n : Int), .int .i64 (k : Int), .slice A2 n2 c2] w fun e w' => e = .returned (.bool true) ∧ Below w.heap.size w w' := by
  have HB0 := hid (Below.refl w.heap.size w)
  have HP := hid hp
  have HL := hid h2.len
  clear hp
  go_enter Try.func3, Try.ntmps3
  go_wp2_with fail
  refine (dcount_ok _ n rfl _ hn).mono ?_
  rintro e w' ⟨rfl, rfl⟩
  go_wp2_with fail
  refine (fixed_over n k _ hn hk15 hk).mono ?_
  rintro e w' ⟨rfl, rfl⟩
  go_wp2_with fail
  refine (own_err A2 n2 c2 p _ h2 HP.out hm).mono ?_
  rintro e w1 ⟨rfl, hb⟩
  have HB1 := hid (below_step HB0.out (Nat.le_refl _) hb)
  clear HB0
  have HI := hid (h2.keep hb)
  clear hb h2
  go_wp2_with fail
  refine (refErr_any A2 n2 c2 p _ HI.out hm).mono ?_
  rintro e w' ⟨rfl, rfl⟩
  have z1 : (permErr p != 0) = true := by simpa using HP.out
  have z2 : (permErr p == 0) = false := by simpa using HP.out
  have z3 : (permErr p != permErr p) = false := by simp
  generalize permErr p = er at *
  go_wp2_with fail
  go_loopg [14, 15, 36] n2 (fun g u _ s wr => ∃ j : Nat, j ≤ n2 ∧ n2 - j ≤ g ∧ u = .int .i64 ((ownK p j : Nat) : Int) ∧ s = .int .i64 (j : Int) ∧ w1 = wr)
  case atStart => exact ⟨0, Nat.zero_le _, by omega, rfl, rfl, rfl⟩
  case round =>
    obtain ⟨j, hj, hg, rfl, rfl, rfl⟩ := hrel
    have hle := ownK_le p j
    by_cases hlt : j < n2
    · obtain ⟨b, o, rfl, hb, hc⟩ := HI.out.row (by omega)
      have g1 := hc j hlt
      clear hc
      have hltI : (j : Int) < (n2 : Int) := by omega
      by_cases hx : p.getD j 0 = (j : Int)
      · have HN := hid (ownK_yes hx)
        rw [hx] at g1
        clear hx
        generalize ownK p j = z at *
        go_wp2
        go_roundg (n2 - (j + 1))
        case measure => omega
        case rel => exact ⟨j + 1, by omega, by omega, by rw [HN.out]; go_num, by go_num, rfl⟩
      · have HN := hid (ownK_no hx)
        have he : (p.getD j 0 == (j : Int)) = false := by simpa using hx
        generalize p.getD j 0 = x at *
        clear hx
        generalize ownK p j = z at *
        go_wp2
        go_roundg (n2 - (j + 1))
        case measure => omega
        case rel => exact ⟨j + 1, by omega, by omega, by rw [HN.out], by go_num, rfl⟩
    · have hjn : j = n2 := by omega
      subst hjn
      generalize ownK p j = z at *
      have hnI0 : ¬ (n : Int) < 0 := by omega
      have hnI1 : ¬ 15 < (n : Int) := by omega
      go_wp2_with fail
      refine (noneOf_ok n _ hn).mono ?_
      rintro e w2 ⟨rfl, hb⟩
      have HB2 := hid (below_step HB1.out (Nat.le_refl _) hb)
      clear HB1
      clear hb
      have e2 : (((drg n : Nat) : Int) != ((drg n : Nat) : Int)) = false := by simp
      generalize drg n = d at *
      have hd : decide (n < k) = true := decide_eq_true hk
      go_wp2
      go_ret
      exact ⟨rfl, HB2.out⟩

set_option maxHeartbeats 2000000 in
set_option maxRecDepth 100000 in
theorem derangeSays_YY (A2 : Option Addr) (n2 c2 : Nat) (p : List Int) (n : Nat) (k : Nat) (w : World) (h2 : Ints w A2 n2 p) (hm : n2 ≤ 9223372036854775807) (hn : n ≤ 15) (hk : k ≤ n) (hp : permErr p = 0) :
    Calls Try.prog 3 #[.int .i64 (n : Int), .int .i64 (k : Int), .slice A2 n2 c2] w fun e w' => e = .returned (.bool true) ∧ Below w.heap.size w w' := by
  have HB0 := hid (Below.refl w.heap.size w)
  have HP := hid hp
  have HL := hid h2.len
  clear hp
  have hf := fixN_le (n := n) (k := k) (by omega) (by omega)
  have hq : ((cho n k : Nat) : Int) * ((drg (n - k) : Nat) : Int) = ((fixN n k : Nat) : Int) := by rw [fixN_eq, Int.natCast_mul]
  have HQ := hid hq
  have HF := hid hf
  clear hq hf
  go_enter Try.func3, Try.ntmps3
  go_wp2_with fail
  refine (dcount_ok _ n rfl _ hn).mono ?_
  rintro e w' ⟨rfl, rfl⟩
  go_wp2_with fail
  refine (fixed_ok _ _ n k rfl rfl _ hn hk).mono ?_
  rintro e w' ⟨rfl, rfl⟩
  go_wp2_with fail
  refine (own_ok A2 n2 c2 p _ h2 HP.out).mono ?_
  rintro e w1 ⟨rfl, hb⟩
  have HB1 := hid (below_step HB0.out (Nat.le_refl _) hb)
  clear HB0
  have HI := hid (h2.keep hb)
  clear hb h2
  go_wp2_with fail
  refine (refErr_any A2 n2 c2 p _ HI.out hm).mono ?_
  rintro e w' ⟨rfl, rfl⟩
  rw [HP.out]
  go_wp2_with fail
  go_loopg [14, 15, 36] n2 (fun g u _ s wr => ∃ j : Nat, j ≤ n2 ∧ n2 - j ≤ g ∧ u = .int .i64 ((ownK p j : Nat) : Int) ∧ s = .int .i64 (j : Int) ∧ w1 = wr)
  case atStart => exact ⟨0, Nat.zero_le _, by omega, rfl, rfl, rfl⟩
  case round =>
    obtain ⟨j, hj, hg, rfl, rfl, rfl⟩ := hrel
    have hle := ownK_le p j
    by_cases hlt : j < n2
    · obtain ⟨b, o, rfl, hb, hc⟩ := HI.out.row (by omega)
      have g1 := hc j hlt
      clear hc
      have hltI : (j : Int) < (n2 : Int) := by omega
      by_cases hx : p.getD j 0 = (j : Int)
      · have HN := hid (ownK_yes hx)
        rw [hx] at g1
        clear hx
        generalize ownK p j = z at *
        go_wp2
        go_roundg (n2 - (j + 1))
        case measure => omega
        case rel => exact ⟨j + 1, by omega, by omega, by rw [HN.out]; go_num, by go_num, rfl⟩
      · have HN := hid (ownK_no hx)
        have he : (p.getD j 0 == (j : Int)) = false := by simpa using hx
        generalize p.getD j 0 = x at *
        clear hx
        generalize ownK p j = z at *
        go_wp2
        go_roundg (n2 - (j + 1))
        case measure => omega
        case rel => exact ⟨j + 1, by omega, by omega, by rw [HN.out], by go_num, rfl⟩
    · have hjn : j = n2 := by omega
      subst hjn
      have HW : Hid (ownK p j = ownN p) := by unfold ownN; rw [HL.out]; exact rfl
      rw [HW.out]
      have e1 : (((ownN p : Nat) : Int) != ((ownN p : Nat) : Int)) = false := by simp
      generalize ownN p = ow at *
      have hnI0 : ¬ (n : Int) < 0 := by omega
      have hnI1 : ¬ 15 < (n : Int) := by omega
      go_wp2_with fail
      refine (noneOf_ok n _ hn).mono ?_
      rintro e w2 ⟨rfl, hb⟩
      have HB2 := hid (below_step HB1.out (Nat.le_refl _) hb)
      clear HB1
      clear hb
      have e2 : (((drg n : Nat) : Int) != ((drg n : Nat) : Int)) = false := by simp
      generalize drg n = d at *
      have hd : decide (n < k) = false := decide_eq_false (by omega)
      go_wp2_with fail
      refine (refChoose_any n k _ (by omega)).mono ?_
      rintro e w3 ⟨rfl, hb⟩
      have HB3 := hid (below_step HB2.out (Nat.le_refl _) hb)
      clear HB2
      clear hb
      go_wp2_with fail
      refine (noneOf_of _ (n - k) (by omega) _ (by omega)).mono ?_
      rintro e w4 ⟨rfl, hb⟩
      have HB4 := hid (below_step HB3.out (Nat.le_refl _) hb)
      clear HB3
      clear hb
      have hq := HQ.out
      have hf := HF.out
      generalize fixN n k = F at *
      generalize cho n k = X at *
      generalize drg (n - k) = Y at *
      go_wp2
      go_ret
      exact ⟨rfl, HB4.out⟩

set_option maxHeartbeats 2000000 in
set_option maxRecDepth 100000 in
theorem derangeSays_YN (A2 : Option Addr) (n2 c2 : Nat) (p : List Int) (n : Nat) (k : Nat) (w : World) (h2 : Ints w A2 n2 p) (hm : n2 ≤ 9223372036854775807) (hn : n ≤ 15) (hk : k ≤ n) (hp : permErr p ≠ 0) :
    Calls Try.prog 3 #[.int .i64 (n : Int), .int .i64 (k : Int), .slice A2 n2 c2] w fun e w' => e = .returned (.bool true) ∧ Below w.heap.size w w' := by
  have HB0 := hid (Below.refl w.heap.size w)
  have HP := hid hp
  have HL := hid h2.len
  clear hp
  have hf := fixN_le (n := n) (k := k) (by omega) (by omega)
  have hq : ((cho n k : Nat) : Int) * ((drg (n - k) : Nat) : Int) = ((fixN n k : Nat) : Int) := by rw [fixN_eq, Int.natCast_mul]
  have HQ := hid hq
  have HF := hid hf
  clear hq hf
  go_enter Try.func3, Try.ntmps3
  go_wp2_with fail
  refine (dcount_ok _ n rfl _ hn).mono ?_
  rintro e w' ⟨rfl, rfl⟩
  go_wp2_with fail
  refine (fixed_ok _ _ n k rfl rfl _ hn hk).mono ?_
  rintro e w' ⟨rfl, rfl⟩
  go_wp2_with fail
  refine (own_err A2 n2 c2 p _ h2 HP.out hm).mono ?_
  rintro e w1 ⟨rfl, hb⟩
  have HB1 := hid (below_step HB0.out (Nat.le_refl _) hb)
  clear HB0
  have HI := hid (h2.keep hb)
  clear hb h2
  go_wp2_with fail
  refine (refErr_any A2 n2 c2 p _ HI.out hm).mono ?_
  rintro e w' ⟨rfl, rfl⟩
  have z1 : (permErr p != 0) = true := by simpa using HP.out
  have z2 : (permErr p == 0) = false := by simpa using HP.out
  have z3 : (permErr p != permErr p) = false := by simp
  generalize permErr p = er at *
  go_wp2_with fail
  go_loopg [14, 15, 36] n2 (fun g u _ s wr => ∃ j : Nat, j ≤ n2 ∧ n2 - j ≤ g ∧ u = .int .i64 ((ownK p j : Nat) : Int) ∧ s = .int .i64 (j : Int) ∧ w1 = wr)
  case atStart => exact ⟨0, Nat.zero_le _, by omega, rfl, rfl, rfl⟩
  case round =>
    obtain ⟨j, hj, hg, rfl, rfl, rfl⟩ := hrel
    have hle := ownK_le p j
    by_cases hlt : j < n2
    · obtain ⟨b, o, rfl, hb, hc⟩ := HI.out.row (by omega)
      have g1 := hc j hlt
      clear hc
      have hltI : (j : Int) < (n2 : Int) := by omega
      by_cases hx : p.getD j 0 = (j : Int)
      · have HN := hid (ownK_yes hx)
        rw [hx] at g1
        clear hx
        generalize ownK p j = z at *
        go_wp2
        go_roundg (n2 - (j + 1))
        case measure => omega
        case rel => exact ⟨j + 1, by omega, by omega, by rw [HN.out]; go_num, by go_num, rfl⟩
      · have HN := hid (ownK_no hx)
        have he : (p.getD j 0 == (j : Int)) = false := by simpa using hx
        generalize p.getD j 0 = x at *
        clear hx
        generalize ownK p j = z at *
        go_wp2
        go_roundg (n2 - (j + 1))
        case measure => omega
        case rel => exact ⟨j + 1, by omega, by omega, by rw [HN.out], by go_num, rfl⟩
    · have hjn : j = n2 := by omega
      subst hjn
      generalize ownK p j = z at *
      have hnI0 : ¬ (n : Int) < 0 := by omega
      have hnI1 : ¬ 15 < (n : Int) := by omega
      go_wp2_with fail
      refine (noneOf_ok n _ hn).mono ?_
      rintro e w2 ⟨rfl, hb⟩
      have HB2 := hid (below_step HB1.out (Nat.le_refl _) hb)
      clear HB1
      clear hb
      have e2 : (((drg n : Nat) : Int) != ((drg n : Nat) : Int)) = false := by simp
      generalize drg n = d at *
      have hd : decide (n < k) = false := decide_eq_false (by omega)
      go_wp2_with fail
      refine (refChoose_any n k _ (by omega)).mono ?_
      rintro e w3 ⟨rfl, hb⟩
      have HB3 := hid (below_step HB2.out (Nat.le_refl _) hb)
      clear HB2
      clear hb
      go_wp2_with fail
      refine (noneOf_of _ (n - k) (by omega) _ (by omega)).mono ?_
      rintro e w4 ⟨rfl, hb⟩
      have HB4 := hid (below_step HB3.out (Nat.le_refl _) hb)
      clear HB3
      clear hb
      have hq := HQ.out
      have hf := HF.out
      generalize fixN n k = F at *
      generalize cho n k = X at *
      generalize drg (n - k) = Y at *
      go_wp2
      go_ret
      exact ⟨rfl, HB4.out⟩

theorem derangeSays_any (n k : Int) (A2 : Option Addr) (n2 c2 : Nat) (p : List Int) (w : World) (h2 : Ints w A2 n2 p) (hc : n2 ≤ c2) (hm0 : c2 ≤ maxLen) :
    Calls Try.prog 3 #[.int .i64 n, .int .i64 k, .slice A2 n2 c2] w fun e w' => e = .returned (.bool true) ∧ Below w.heap.size w w' := by
  unfold maxLen at hm0
  have hm : n2 ≤ 9223372036854775807 := by omega
  by_cases hp : permErr p = 0
  · by_cases h1 : n < 0
    · exact derangeSays_AY A2 n2 c2 p n k w h2 hm h1 hp
    · by_cases h3 : 15 < n
      · exact derangeSays_BY A2 n2 c2 p n k w h2 hm h3 hp
      · obtain ⟨n, rfl⟩ : ∃ x : Nat, n = x := ⟨n.toNat, by omega⟩
        by_cases h4 : k < 0
        · exact derangeSays_CY A2 n2 c2 p n k w h2 hm (by omega) h4 hp
        · by_cases h5 : 15 < k
          · exact derangeSays_DY A2 n2 c2 p n k w h2 hm (by omega) h5 hp
          · obtain ⟨k, rfl⟩ : ∃ x : Nat, k = x := ⟨k.toNat, by omega⟩
            by_cases h6 : n < k
            · exact derangeSays_OY A2 n2 c2 p n k w h2 hm (by omega) (by omega) h6 hp
            · exact derangeSays_YY A2 n2 c2 p n k w h2 hm (by omega) (by omega) hp
  · by_cases h1 : n < 0
    · exact derangeSays_AN A2 n2 c2 p n k w h2 hm h1 hp
    · by_cases h3 : 15 < n
      · exact derangeSays_BN A2 n2 c2 p n k w h2 hm h3 hp
      · obtain ⟨n, rfl⟩ : ∃ x : Nat, n = x := ⟨n.toNat, by omega⟩
        by_cases h4 : k < 0
        · exact derangeSays_CN A2 n2 c2 p n k w h2 hm (by omega) h4 hp
        · by_cases h5 : 15 < k
          · exact derangeSays_DN A2 n2 c2 p n k w h2 hm (by omega) h5 hp
          · obtain ⟨k, rfl⟩ : ∃ x : Nat, k = x := ⟨k.toNat, by omega⟩
            by_cases h6 : n < k
            · exact derangeSays_ON A2 n2 c2 p n k w h2 hm (by omega) (by omega) h6 hp
            · exact derangeSays_YN A2 n2 c2 p n k w h2 hm (by omega) (by omega) hp

end Go.Proofs.Ytebhlmcenkgolaa
