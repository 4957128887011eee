/-
  castkeep.OrbitsFermat: whatever the input: true.
-/
import Derived.Test.YtbcjfiobggggjaaOrbT
namespace Go.Proofs.Ytbcjfiobggggjaa
open Go.RowKit

theorem ring_orbE : orbE 2 [ring 2] = 0 ∧ orbE 3 [ring 3] = 0 ∧ orbE 5 [ring 5] = 0 := by decide +kernel
theorem fermat_num : ∀ n : Nat, n ∈ [2, 3, 5] → ∀ x : Nat, x < 11 → x ≤ x ^ n ∧ (x ^ n - x) % n = 0 ∧ colN (rots n) x = x + (x ^ n - x) / n ∧ x ^ n ≤ 100000 := by decide +kernel
theorem length_ring (n : Nat) : (ring n).length = n := by simp [ring]
theorem getD_ring {n j : Nat} (h : j < n) : (ring n).getD j 0 = (((j + 1) % n : Nat) : Int) := by simp [ring, List.getD_eq_getElem?_getD, h]
theorem two_three_five {t : Nat} (h : t < 3) (w : World) : ∃ n : Nat, n ∈ [2, 3, 5] ∧ (w.alloc (.cells #[.int .i64 2, .int .i64 3, .int .i64 5] 3)).cell? ⟨w.heap.size, t, none⟩ = some (.int .i64 (n : Int)) ∧ orbE (n : Int) [ring n] = 0 ∧ GroupOf n [ring n] (rots n) ∧ 2 ≤ n ∧ n ≤ 5 := by
  match t, h with
  | 0, _ => exact ⟨2, by simp, by simp, ring_orbE.1, groupOf_isGrp rots_grp.1, by omega, by omega⟩
  | 1, _ => exact ⟨3, by simp, by simp, ring_orbE.2.1, groupOf_isGrp rots_grp.2.1, by omega, by omega⟩
  | 2, _ => exact ⟨5, by simp, by simp, ring_orbE.2.2, groupOf_isGrp rots_grp.2.2, by omega, by omega⟩

set_option maxRecDepth 100000 in
set_option maxHeartbeats 1600000 in
theorem orbitsFermat_any (a b : Int) (w : World) : Calls Try.prog 8 #[.int .i64 a, .int .i64 b] w fun e w' => e = .returned (.bool true) ∧ Below w.heap.size w w' := by
  go_enter Try.func8, Try.ntmps8
  go_wp2_with fail
  refine (turns_any _).mono ?_
  rintro e w1 ⟨rfl, hb1⟩
  have HB1 := hid hb1
  clear hb1
  go_wp2_with fail
  refine (within_any a 3 _ (by omega) (by omega)).mono ?_
  rintro e w2 ⟨rfl, rfl⟩
  obtain ⟨t, ht⟩ := Int.eq_ofNat_of_zero_le (Int.emod_nonneg a (show (3 : Int) ≠ 0 by omega))
  have ht3 : t < 3 := by have := Int.emod_lt_of_pos a (show (0 : Int) < 3 by omega); omega
  rw [ht]
  obtain ⟨n, hn, hcell, hE, hG, hn2, hn5⟩ := two_three_five ht3 w1
  have HN := hid hn
  have HE := hid hE
  have HG := hid hG
  clear hn hE hG ht
  go_wp2_with fail
  refine (within_any b 11 _ (by omega) (by omega)).mono ?_
  rintro e w3 ⟨rfl, rfl⟩
  obtain ⟨x, hx⟩ := Int.eq_ofNat_of_zero_le (Int.emod_nonneg b (show (11 : Int) ≠ 0 by omega))
  have hx11 : x < 11 := by have := Int.emod_lt_of_pos b (show (0 : Int) < 11 by omega); omega
  rw [hx]
  clear hx
  have HB2 := hid (HB1.out.trans ((below_alloc w1 (.cells #[.int .i64 2, .int .i64 3, .int .i64 5] 3)).mono HB1.out.size))
  have HSZ := hid HB1.out.size
  generalize w1.alloc (.cells #[.int .i64 2, .int .i64 3, .int .i64 5] 3) = w3 at *
  go_wp2_with fail
  go_loopg [6, 22] n (fun g v s wr => ∃ j : Nat, j ≤ n ∧ n - j ≤ g ∧ s = .int .i64 j ∧ OwnInts wr w.heap.size v ((ring n).take j) ∧ Below w.heap.size w wr)
  case atStart => exact ⟨0, Nat.zero_le _, by omega, rfl, World.ownsRow_made w3 #[] 0 HB2.out.size (Nat.zero_le _) rfl, HB2.out.alloc HB2.out.size _⟩
  case round =>
    obtain ⟨j, hj, hg, rfl, hown, hbel⟩ := hrel
    have HO := hid hown
    have HB := hid hbel
    clear hown hbel
    by_cases hlt : j < n
    · have htl : ((ring n).take j).length = j := by rw [List.length_take, length_ring]; omega
      have HTL := hid htl
      clear htl
      go_wp2_with (at_builtin; refine wpList_app1 _ rfl (.tmp 25) (.tmp 30) rfl w.heap.size _ ((ring n).take j) (((j + 1) % n : Nat) : Int) rfl rfl HO.out (by rw [HTL.out]; omega) HB.out.size ?_)
      intro v' w4 hown4 _ hbel4
      have HO4 : Hid (OwnInts w4 w.heap.size v' ((ring n).take (j + 1))) := by
        show OwnInts w4 w.heap.size v' ((ring n).take (j + 1))
        rw [take_snoc (by rw [length_ring]; exact hlt), getD_ring hlt]
        exact hown4
      have HB4 := hid (HB.out.trans hbel4)
      clear hown4 hbel4
      go_wp2
      go_roundg (n - (j + 1))
      case measure => omega
      case rel => exact ⟨j + 1, by omega, by omega, by go_num, HO4.out, HB4.out⟩
    · have hjn : j = n := by omega
      subst hjn
      have HO4 : Hid (OwnInts wr w.heap.size u6 (ring j)) := by
        have := HO.out
        rwa [List.take_of_length_le (by rw [length_ring]; exact Nat.le_refl _)] at this
      obtain ⟨g, cap, ev, _, _, hcap⟩ := HO4.out.form (by rw [length_ring]; omega)
      rw [length_ring] at ev hcap
      subst ev
      have hAs := HO4.out.asInts
      have hcol := colours_ok (some ⟨wr.heap.size, 0, none⟩) 1 1 [ring j] j x _ (rrows_lit1 hAs.1 hAs.2 (fun e => by cases e)) HE.out (by omega)
      clear HO HO4 hAs
      go_wp2_with fail
      refine hcol.mono ?_
      rintro e w5 ⟨T, hT, rfl, hb5⟩
      have hTT := hT.unique HG.out
      subst hTT
      have HB5 := hid (below_step HB.out (Nat.le_refl _) (below_step (below_alloc wr _) (Nat.le_refl _) hb5))
      have HF := hid (fermat_num j HN.out x hx11)
      clear hT hb5 hcol
      generalize hcl : colN (rots j) x = col at *
      have HCL := hid hcl
      clear hcl
      go_wp2_with fail
      go_loopg [10, 42] j (fun g v s wq => ∃ i : Nat, i ≤ j ∧ j - i ≤ g ∧ s = .int .i64 i ∧ v = .int .i64 ((x ^ i : Nat) : Int) ∧ w5 = wq)
      case atStart => exact ⟨0, Nat.zero_le _, by omega, rfl, by simp, rfl⟩
      case round =>
        obtain ⟨i, hi, hgi, rfl, rfl, rfl⟩ := hrel
        by_cases hil : i < j
        · have hP := pow_six (k := x) (c := i) (by omega) (by omega)
          have hQ := pow_six (k := x) (c := i + 1) (by omega) (by omega)
          have hPQ : ((x ^ i : Nat) : Int) * (x : Int) = ((x ^ (i + 1) : Nat) : Int) := by rw [← Int.natCast_mul, ← Nat.pow_succ]
          generalize x ^ i = P at *
          generalize hq : x ^ (i + 1) = Q at *
          have HQ2 := hid hq
          clear hq
          go_wp2
          go_roundg (j - (i + 1))
          case measure => omega
          case rel => exact ⟨i + 1, by omega, by omega, by go_num, by rw [HQ2.out], rfl⟩
        · have hil' : i = j := by omega
          subst hil'
          have hf := HF.out
          obtain ⟨f1, f2, f3, f4⟩ := hf
          generalize x ^ i = P at *
          obtain ⟨D, hD⟩ : ∃ D, D = P - x := ⟨_, rfl⟩
          have h1 : (P : Int) - (x : Int) = (D : Int) := by omega
          have hDle : D ≤ 100000 := by omega
          rw [← hD] at f2 f3
          have hX : col = x + D / i := by rw [← f3]
          have hDi := Nat.div_le_self D i
          have hm : (D : Int) % (i : Int) = 0 := by omega
          obtain ⟨E, hE⟩ : ∃ E, E = D / i := ⟨_, rfl⟩
          rw [← hE] at hX hDi
          have hdv : (D : Int) / (i : Int) = (E : Int) := by rw [hE, Int.natCast_ediv]
          have he : (((col : Nat) : Int) == (x : Int) + (E : Int)) = true := by rw [hX]; simp
          clear f2 f3 hX hD HF hE
          go_wp2
          go_ret
          exact ⟨rfl, HB5.out⟩

end Go.Proofs.Ytbcjfiobggggjaa
