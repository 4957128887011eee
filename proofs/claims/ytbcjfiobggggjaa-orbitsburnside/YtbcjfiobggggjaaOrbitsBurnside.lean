/-
  castkeep.OrbitsBurnside: whatever the input: true.
-/
import Derived.Test.YtbcjfiobggggjaaOrbT
import Derived.Test.YtbcjfiobggggjaaOrbN
import Derived.Test.YtbcjfiobggggjaaOrbP
import Derived.Test.YtbcjfiobggggjaaOrbB
namespace Go.Proofs.Ytbcjfiobggggjaa
open Go.RowKit

/-- Of the first x rows, how many are the least of their own. -/
def leastU (n k : Nat) (T : List (List Int)) (x : Nat) : Nat := ((List.range x).map (dig n k)).countP (fun r => decide (r = lst T r))
theorem leastU_zero (n k : Nat) (T : List (List Int)) : leastU n k T 0 = 0 := rfl
theorem leastU_step (n k : Nat) (T : List (List Int)) (x : Nat) : leastU n k T (x + 1) = leastU n k T x + if dig n k x = lst T (dig n k x) then 1 else 0 := by
  unfold leastU
  rw [List.range_succ, List.map_append, List.countP_append]
  congr 1
  simp [List.countP_cons]
theorem leastU_le (n k : Nat) (T : List (List Int)) (x : Nat) : leastU n k T x ≤ x := by
  have := List.countP_le_length (p := fun r => decide (r = lst T r)) (l := (List.range x).map (dig n k))
  simpa [leastU] using this
theorem leastU_all (n k : Nat) (T : List (List Int)) : leastU n k T (k ^ n) = leastN n k T := rfl
theorem pow_small {n k : Nat} (hn : n < 5) (hk : k < 4) : k ^ n ≤ 81 := by
  have h1 : k ^ n ≤ 3 ^ n := Nat.pow_le_pow_left (by omega) n
  have h2 : 3 ^ n ≤ 3 ^ 4 := Nat.pow_le_pow_right (by decide) (by omega)
  omega

theorem div_bd (y k : Nat) : (0 : Int) ≤ (y : Int) / (k : Int) ∧ (y : Int) / (k : Int) ≤ (y : Int) := by
  rw [← Int.natCast_ediv]
  have := Nat.div_le_self y k
  generalize y / k = z at *
  omega
theorem wrap_div (y k : Nat) (hy : y ≤ 1000000) : wrap64 ((y : Int) / (k : Int)) = ((y / k : Nat) : Int) := by
  rw [← Int.natCast_ediv]
  have := Nat.div_le_self y k
  generalize y / k = z at *
  exact IntWalk.wrap64_in _ (by omega)

set_option maxRecDepth 100000 in
set_option maxHeartbeats 2000000 in
theorem orbitsBurnside_any (a : Int) (A : Option Addr) (m c : Nat) (L : List (List Int)) (b : Int) (w : World) (h : RRows w A m L) (hc : Cap m c) (hrow : ∀ j, (L.getD j []).length ≤ 17592186044416) :
    Calls Try.prog 5 #[.int .i64 a, .slice A m c, .int .i64 b] w fun e w' => e = .returned (.bool true) ∧ Below w.heap.size w w' := by
  have HH := hid h
  have HRL := hid hrow
  clear h hrow
  obtain ⟨hmc, hcm⟩ := hc
  go_enter Try.func5, Try.ntmps5
  go_wp2_with fail
  refine (turns_any _).mono ?_
  rintro e w1 ⟨rfl, hb1⟩
  have HB1 := hid hb1
  have HH1 := hid (HH.out.keep hb1)
  clear hb1 HH
  go_wp2_with fail
  refine (within_any a 5 _ (by omega) (by omega)).mono ?_
  rintro e w2 ⟨rfl, rfl⟩
  obtain ⟨n, hn⟩ := Int.eq_ofNat_of_zero_le (Int.emod_nonneg a (show (5 : Int) ≠ 0 by omega))
  have hn5 : n < 5 := by have := Int.emod_lt_of_pos a (show (0 : Int) < 5 by omega); omega
  rw [hn]
  clear hn
  go_wp2_with fail
  refine (within_any b 4 _ (by omega) (by omega)).mono ?_
  rintro e w2 ⟨rfl, rfl⟩
  obtain ⟨k, hk⟩ := Int.eq_ofNat_of_zero_le (Int.emod_nonneg b (show (4 : Int) ≠ 0 by omega))
  have hk4 : k < 4 := by have := Int.emod_lt_of_pos b (show (0 : Int) < 4 by omega); omega
  rw [hk]
  clear hk
  go_wp2_with fail
  refine (moved_any A m c L n _ HH1.out hmc (by omega) hcm HRL.out).mono ?_
  rintro e w3 ⟨v3, L3, rfl, hr3, hl3, ho3, hb3⟩
  have hE3 := orbE_orders (by omega) hl3 ho3
  obtain ⟨A3, c3, e3, hR3, _⟩ := hr3.rrows
  subst e3
  have HB3 := hid (below_step HB1.out (Nat.le_refl _) hb3)
  have HR3 := hid hR3
  have HE3 := hid hE3
  have HO3 := hid ho3
  clear hr3 hb3 hR3 hE3 ho3 HH1 HRL
  generalize hm3 : L3.length = m3 at *
  have HM3 := hid hm3
  clear hm3
  have hcol := colours_ok A3 m3 c3 L3 n k w3 HR3.out HE3.out (by omega)
  go_wp2_with fail
  refine hcol.mono ?_
  rintro e w4 ⟨T, hT, rfl, hb4⟩
  have HT := hid hT
  have HCN := hid (colN_least hT HO3.out hn5 hk4)
  have HB4 := hid (below_step HB3.out (Nat.le_refl _) hb4)
  have HR4 := hid (HR3.out.keep hb4)
  clear hT hb4 hcol HR3
  generalize hcl : colN T k = col at *
  have HCL := hid hcl
  clear hcl
  go_wp2_with fail
  go_loopg [10, 35] n (fun g v s wq => ∃ i : Nat, i ≤ n ∧ n - i ≤ g ∧ s = .int .i64 i ∧ v = .int .i64 ((k ^ i : Nat) : Int) ∧ w4 = wq)
  case atStart => exact ⟨0, Nat.zero_le _, by omega, rfl, by simp, rfl⟩
  case round =>
    obtain ⟨i, hi, hgi, rfl, rfl, rfl⟩ := hrel
    by_cases hil : i < n
    · have hP := pow_small (n := i) (k := k) (by omega) hk4
      have hQ := pow_small (n := i + 1) (k := k) (by omega) hk4
      have hPQ : ((k ^ i : Nat) : Int) * (k : Int) = ((k ^ (i + 1) : Nat) : Int) := by rw [← Int.natCast_mul, ← Nat.pow_succ]
      generalize k ^ i = P at *
      generalize hq : k ^ (i + 1) = Q at *
      have HQ2 := hid hq
      clear hq
      go_wp2
      go_roundg (n - (i + 1))
      case measure => omega
      case rel => exact ⟨i + 1, by omega, by omega, by go_num, by rw [HQ2.out], rfl⟩
    · have hil' : i = n := by omega
      subst hil'
      have hM := pow_small hn5 hk4
      generalize hmany : k ^ i = M at *
      have HMM := hid hmany
      clear hmany
      go_wp2_with fail
      go_loopg [11, 42] M (fun g v s wr => ∃ x : Nat, x ≤ M ∧ M - x ≤ g ∧ s = .int .i64 x ∧ v = .int .i64 ((leastU i k T x : Nat) : Int) ∧ Below w4.heap.size w4 wr)
      case atStart => exact ⟨0, Nat.zero_le _, by omega, rfl, rfl, Below.refl _ _⟩
      case round =>
        obtain ⟨x, hx, hg, rfl, rfl, hbel⟩ := hrel
        have HB := hid hbel
        clear hbel
        obtain ⟨w9, rfl⟩ : ∃ w9, w9 = wr := ⟨wr, rfl⟩
        have hlu := leastU_le i k T x
        have HLS := hid (leastU_step i k T x)
        generalize hlue : leastU i k T x = lu at *
        have HLU := hid hlue
        clear hlue
        by_cases hlt : x < M
        · have HK0 : Hid (0 < i → 0 < k) := by
            show 0 < i → 0 < k
            intro h0
            rcases Nat.eq_zero_or_pos k with e | e
            · exfalso
              have := HMM.out
              rw [e, Nat.zero_pow h0] at this
              omega
            · exact e
          go_wp2_with fail
          go_loopg [12, 13, 47] i (fun g vx v s wq => ∃ (t y : Nat) (xs : List Int), t ≤ i ∧ i - t ≤ g ∧ s = .int .i64 t ∧ vx = .int .i64 y ∧ y ≤ x ∧ xs.length = t ∧ xs ++ dig (i - t) k y = dig i k x ∧ OwnInts wq w9.heap.size v xs ∧ Below w9.heap.size w9 wq)
          case atStart => exact ⟨0, x, [], Nat.zero_le _, by omega, rfl, rfl, Nat.le_refl _, rfl, rfl, World.ownsRow_made w9 #[] 0 (Nat.le_refl _) (Nat.zero_le _) rfl, below_alloc _ _⟩
          case round =>
            obtain ⟨t, y, xs, ht, hgt, rfl, rfl, hyx, hxl, hdig, hown, hbel⟩ := hrel
            have HOW := hid hown
            have HB9 := hid hbel
            have HDG := hid hdig
            have HXL := hid hxl
            clear hown hbel hdig hxl
            by_cases hti : t < i
            · have hk0 : 0 < k := HK0.out (by omega)
              have hkz : ((k : Int) == 0) = false := by simp; omega
              have hdk := Nat.div_le_self y k
              go_wp2_with (at_builtin; refine wpList_app1 _ rfl (.tmp 49) (.tmp 53) rfl w9.heap.size _ xs ((y % k : Nat) : Int) rfl rfl HOW.out (by rw [HXL.out]; omega) HB9.out.size ?_)
              intro v' w5 hown5 _ hbel5
              have HO5 := hid hown5
              have HB5 := hid (HB9.out.trans hbel5)
              have HD5 : Hid ((xs ++ [((y % k : Nat) : Int)]) ++ dig (i - (t + 1)) k (y / k) = dig i k x) := by
                show (xs ++ [((y % k : Nat) : Int)]) ++ dig (i - (t + 1)) k (y / k) = dig i k x
                rw [← HDG.out, show i - t = (i - (t + 1)) + 1 by omega]
                simp [dig]
              clear hown5 hbel5
              have HDV := hid (wrap_div y k (by omega))
              have hdn := (div_bd y k).2
              have hd0 := (div_bd y k).1
              go_wp2
              go_roundg (i - (t + 1))
              case measure => omega
              case rel => exact ⟨t + 1, y / k, xs ++ [((y % k : Nat) : Int)], by omega, by omega, by go_num, by first | rw [HDV.out] | rw [Int.natCast_ediv], by omega, by rw [List.length_append, HXL.out]; rfl, HD5.out, HO5.out, HB5.out⟩
            · have hti' : t = i := by omega
              subst hti'
              have HXD : Hid (xs = dig t k x) := by
                show xs = dig t k x
                have := HDG.out
                rw [Nat.sub_self] at this
                simpa [dig] using this
              obtain ⟨A9, c9, e9, hI9, _⟩ := HOW.out.ints
              rw [HXL.out] at e9 hI9
              subst e9
              have HI9 := hid hI9
              have hR9 := HR4.out.keep (below_step HB.out (Nat.le_refl _) HB9.out)
              have hle := least_ok A3 m3 c3 A9 c9 L3 t xs _ hR9 hI9 HE3.out
              clear hI9 hR9
              go_wp2_with fail
              refine hle.mono ?_
              rintro e w6 ⟨v6, r6, rfl, hlr, hown6, hb6⟩
              have hls := (lst_least HT.out HXL.out).unique hlr
              have hrl := hlr.length HO3.out
              obtain ⟨A6, c6, e6, hI6, _⟩ := hown6.ints
              rw [hrl] at e6 hI6
              subst e6
              have hI10 := HI9.out.keep hb6
              have heq := equal_bel A6 t c6 A9 t c9 r6 xs w6 hI6 hI10 (by omega) (by omega)
              have HB6 := hid (below_step HB.out (Nat.le_refl _) (below_step HB9.out (Nat.le_refl _) hb6))
              have HLS2 : Hid (leastU t k T (x + 1) = lu + if r6 = xs then 1 else 0) := by
                show leastU t k T (x + 1) = _
                rw [HLS.out, ← HXD.out, hls]
                congr 1
                by_cases e : r6 = xs
                · rw [if_pos e, if_pos e.symm]
                · rw [if_neg e, if_neg (fun h => e h.symm)]
              clear hlr hls hrl hown6 hI6 hI10 hb6 hle
              by_cases e : r6 = xs
              · rw [decide_eq_true e] at heq
                have HL3 : Hid (leastU t k T (x + 1) = lu + 1) := by
                  show leastU t k T (x + 1) = lu + 1
                  rw [HLS2.out, if_pos e]
                clear e HLS2
                go_wp2_with fail
                refine heq.mono ?_
                rintro e w7 ⟨rfl, hb7⟩
                have HB7 := hid (below_step HB6.out (Nat.le_refl _) hb7)
                clear hb7 heq
                go_wp2
                go_roundg (M - (x + 1))
                case measure => omega
                case rel => exact ⟨x + 1, by omega, by omega, by go_num, by rw [HL3.out]; go_num, HB7.out⟩
              · rw [decide_eq_false e] at heq
                have HL3 : Hid (leastU t k T (x + 1) = lu) := by
                  show leastU t k T (x + 1) = lu
                  rw [HLS2.out, if_neg e]
                  rfl
                clear e HLS2
                go_wp2_with fail
                refine heq.mono ?_
                rintro e w7 ⟨rfl, hb7⟩
                have HB7 := hid (below_step HB6.out (Nat.le_refl _) hb7)
                clear hb7 heq
                go_wp2
                go_roundg (M - (x + 1))
                case measure => omega
                case rel => exact ⟨x + 1, by omega, by omega, by go_num, by rw [HL3.out], HB7.out⟩
        · have hxM : x = M := by omega
          subst hxM
          have hcl : col = lu := by
            rw [HCN.out, ← leastU_all, HMM.out]
            exact HLU.out
          have hd : (((col : Nat) : Int) == (lu : Int)) = true := by simp [hcl]
          have HBE := hid (below_step HB4.out (Nat.le_refl _) HB.out)
          clear hcl
          go_wp2
          go_ret
          exact ⟨rfl, HBE.out⟩

end Go.Proofs.Ytbcjfiobggggjaa
