/-
  castkeep.GrayWalk: the walk.
-/
import Derived.Test.YtlmkkccokemaiaaGrayC
import Derived.Test.YtlmkkccokemaiaaSubC
import Derived.Test.YtlmkkccokemaiaaSixL
namespace Go.Proofs.Ytlmkkccokemaiaa
open Go.RowKit

/-- One step leads from each code to the next one, and from the last one to the first one. -/
theorem step_all : (List.range 11).all (fun n => n == 0 || (List.range (2 ^ n)).all (fun i => ones (gry i ^^^ gry ((i + 1) % 2 ^ n)) == 1)) = true := by decide +kernel
theorem step_one {n i : Nat} (hn : n ≤ 10) (h0 : n ≠ 0) (hi : i < 2 ^ n) : ones (gry i ^^^ gry ((i + 1) % 2 ^ n)) = 1 := by
  have h1 := List.all_eq_true.1 step_all n (List.mem_range.2 (by omega))
  rw [Bool.or_eq_true] at h1
  rcases h1 with h1 | h1
  · simp at h1
    omega
  · have h2 := List.all_eq_true.1 h1 i (List.mem_range.2 hi)
    simpa using h2
theorem bck_low {x n : Nat} (h : x < 2 ^ n) : bck x < 2 ^ n := fold_lt (fold_lt (fold_lt (fold_lt h)))
theorem codes_nodup {n : Nat} (hn : n ≤ 10) : (codes n).Nodup := by
  have h2 : 2 ^ n ≤ 2 ^ 10 := Nat.pow_le_pow_right (by omega) hn
  have h3 := List.nodup_range (n := 2 ^ n)
  rw [List.nodup_iff_pairwise_ne] at h3
  unfold codes
  rw [List.nodup_iff_pairwise_ne, List.pairwise_map]
  refine List.Pairwise.imp_of_mem ?_ h3
  intro a b ha hb hne he
  exact hne (gry_inj (by have := List.mem_range.1 ha; omega) (by have := List.mem_range.1 hb; omega) he)
theorem codes_top {n : Nat} (hn : n ≤ 10) : 2 ^ n - 1 ∈ codes n := by
  have h2 : 2 ^ n ≤ 2 ^ 10 := Nat.pow_le_pow_right (by omega) hn
  have hp := Nat.two_pow_pos n
  refine List.mem_map.2 ⟨bck (2 ^ n - 1), List.mem_range.2 (bck_low (by omega)), gry_bck (by omega)⟩
theorem codes_le {n x : Nat} (hx : x ∈ codes n) : x ≤ 2 ^ n - 1 := by
  obtain ⟨i, hi, rfl⟩ := List.mem_map.1 hx
  have h1 : gry i < 2 ^ n := fold_lt (List.mem_range.1 hi)
  omega
theorem apart_of_nodup {ys : List Nat} (h : ys.Nodup) {j : Nat} (hj : j + 1 < ys.length) : ys.getD (j + 1) 0 ≠ ys.getD j 0 := by
  intro e
  rw [List.getD_eq_getElem?_getD, List.getD_eq_getElem?_getD, List.getElem?_eq_getElem hj, List.getElem?_eq_getElem (show j < ys.length by omega)] at e
  have := (List.getElem_inj h).1 e
  omega
theorem below_at {B g : Nat} {a b c : World} (h : Below B a b) (hg : B ≤ g) (hB : B ≤ b.heap.size) (k : b.grownBy c (some g)) : Below B a c :=
  h.trans ⟨k.os, k.tape, k.output, k.size, fun i hi => k.block i (Nat.lt_of_lt_of_le hi hB) (fun e => by injection e with e; omega)⟩

set_option maxHeartbeats 800000 in
theorem grayWalk_off (n : Int) (w : World) (h : n < 0 ∨ 10 < n) : Calls Try.prog 4 #[.int .i64 n] w fun e w' => e = .returned (.bool true) ∧ Below w.heap.size w w' := by
  have c0 := hid (grays_any w)
  have c1 := hid (walk_off n w h)
  go_enter Try.func4, Try.ntmps4
  go_wp2_with fail
  refine c0.out.mono ?_
  rintro e w' ⟨rfl, rfl⟩
  go_wp2_with fail
  refine c1.out.mono ?_
  rintro e w' ⟨rfl, rfl⟩
  go_wp2
  go_ret
  exact ⟨rfl, Below.refl _ _⟩

set_option maxHeartbeats 3200000 in
theorem grayWalk_on (n : Nat) (w : World) (hn : n ≤ 10) : Calls Try.prog 4 #[.int .i64 (n : Int)] w fun e w' => e = .returned (.bool true) ∧ Below w.heap.size w w' := by
  have c0 := hid (grays_any w)
  have c1 := hid (walk_any n w hn)
  have hN : 2 ^ n ≤ 2 ^ 10 := Nat.pow_le_pow_right (by omega) hn
  have hN0 := Nat.two_pow_pos n
  have hp : (2 : Int) ^ n = ((2 ^ n : Nat) : Int) := by simp
  go_enter Try.func4, Try.ntmps4
  go_wp2_with fail
  refine c0.out.mono ?_
  rintro e w' ⟨rfl, rfl⟩
  go_wp2_with fail
  refine c1.out.mono ?_
  rintro e wz ⟨g, hg, rfl, hU, hbel⟩
  have HU := hid hU
  have HB := hid hbel
  have HS := hid (fun i => step_one (n := n) (i := i) hn)
  have HC := hid (fun (j : Nat) (hj : j < 2 ^ n) => getD_codes (n := n) (i := j) hj)
  have HL := hid (length_codes n)
  have HD := hid (codes_nodup hn)
  have HT := hid (codes_top hn)
  have HX := hid (fun x => codes_le (n := n) (x := x))
  have h1 : n ≠ 0 ↔ 1 < 2 ^ n := by
    constructor
    · intro h
      have : 2 ^ 1 ≤ 2 ^ n := Nat.pow_le_pow_right (by omega) (by omega)
      omega
    · rintro h rfl
      simp at h
  have H1 := hid h1
  clear hU hbel c0 c1 h1
  generalize codes n = cs at *
  generalize 2 ^ n = N at *
  go_wp2_with fail
  go_loopg [28] N (fun gh s wr => ∃ j : Nat, j ≤ N ∧ N - j ≤ gh ∧ s = .int .i64 j ∧ U16 wr g N cs ∧ Below w.heap.size w wr)
  case atStart => exact ⟨0, Nat.zero_le _, by omega, rfl, HU.out, HB.out⟩
  case round =>
    clear HU HB
    obtain ⟨j, hj, hgh, rfl, hU, hbel⟩ := hrel
    have HU := hid hU
    have HB := hid hbel
    clear hU hbel
    by_cases hlt : j < N
    · obtain ⟨r, hr⟩ : ∃ r, r = (j + 1) % N := ⟨_, rfl⟩
      have hrN : r < N := by rw [hr]; exact Nat.mod_lt _ hN0
      have hl := HL.out
      have g1 := HU.out.cell (j := j) (by omega)
      have g2 := HU.out.cell (j := r) (by omega)
      rw [HC.out j hlt] at g1
      rw [HC.out r hrN] at g2
      have hx1 := gry_lt (x := j) (by omega)
      have hx2 := gry_lt (x := r) (by omega)
      have ex := u16_xor_nat (gry j) (gry r) hx1 hx2
      have hx3 : gry j ^^^ gry r < 65536 := Nat.xor_lt_two_pow (n := 16) hx1 hx2
      have hone : 1 < N → ones (gry j ^^^ gry r) = 1 := fun h => by rw [hr]; exact HS.out j (H1.out.2 h) hlt
      have HO := hid hone
      have hrI : ((j : Int) + 1) % (N : Int) = (r : Int) := by rw [hr]; simp
      clear hone hr hl
      generalize gry j ^^^ gry r = X at *
      generalize gry j = x1 at *
      generalize gry r = x2 at *
      by_cases hN1 : 1 < N
      · have CS := hid (size_any X wr hx3)
        rw [HO.out hN1] at CS
        go_wp2_with fail
        refine CS.out.mono ?_
        rintro e w2 ⟨rfl, hb2⟩
        have HU2 := hid (HU.out.keep hb2)
        have HB2 := hid (HB.out.trans (hb2.mono HB.out.size))
        clear CS hb2 HU HB g1 g2
        go_wp2
        go_roundg (N - (j + 1))
        case measure => omega
        case rel => exact ⟨j + 1, by omega, by omega, by go_num, HU2.out, HB2.out⟩
      · go_wp2
        go_roundg (N - (j + 1))
        case measure => omega
        case rel => exact ⟨j + 1, by omega, by omega, by go_num, HU.out, HB.out⟩
    · have C1 := hid (clone16 g N N cs wr HU.out HL.out hN0 (by omega))
      go_wp2_with fail
      refine C1.out.mono ?_
      rintro e w2 ⟨g2, cap2, hg2, rfl, hU2, hb2⟩
      rw [HL.out]
      have hgl := HU.out.lt
      have hne : g ≠ g2 := by omega
      have hwg : w.heap.size ≤ g2 := Nat.le_trans HB.out.size hg2
      have HUl := hid (HU.out.keep hb2)
      have HB2 := hid (HB.out.trans (hb2.mono HB.out.size))
      have C2 := hid (sort16 g2 N cap2 cs w2 hU2 HL.out (by omega))
      clear C1 hU2 hb2 HU HB hgl hg2
      go_wp2_with fail
      refine C2.out.mono ?_
      rintro e w3 ⟨rfl, ys, hU3, hperm, hgr⟩
      have HU3 := hid (HUl.out.kept hgr hne)
      have HB3 := hid (below_at HB2.out hwg HB2.out.size hgr)
      have hly : ys.length = N := by rw [hperm.length_eq, HL.out]
      have C3 := hid (compact16 g2 N cap2 ys w3 hU3 hly (fun j hj => apart_of_nodup (hperm.nodup_iff.2 HD.out) (by rw [hly]; exact hj)) (by omega))
      clear C2 hU3 hperm hgr hly HUl HB2
      go_wp2_with fail
      refine C3.out.mono ?_
      rintro e w4 ⟨rfl, hb4⟩
      have HB4 := hid (HB3.out.trans (hb4.mono HB3.out.size))
      have C4 := hid (max16 g N N (N - 1) cs w4 (HU3.out.keep hb4) HL.out hN0 HT.out (fun x hx => HX.out x hx) (by omega))
      clear C3 hb4 HU3 HB3
      have hw : IntKind.u16.wrap ((N : Int) - 1) = ((N - 1 : Nat) : Int) := by rw [IntKind.wrap_u16]; omega
      obtain ⟨t, ht⟩ : ∃ t, t = N - 1 := ⟨_, rfl⟩
      rw [← ht] at hw C4
      clear ht
      go_wp2_with fail
      refine C4.out.mono ?_
      rintro e w5 ⟨rfl, rfl⟩
      clear C4
      go_wp2
      go_ret
      exact ⟨rfl, HB4.out⟩

theorem grayWalk_any (n : Int) (w : World) : Calls Try.prog 4 #[.int .i64 n] w fun e w' => e = .returned (.bool true) ∧ Below w.heap.size w w' := by
  by_cases h : n < 0 ∨ 10 < n
  · exact grayWalk_off n w h
  · obtain ⟨m, rfl⟩ := Int.eq_ofNat_of_zero_le (show 0 ≤ n by omega)
    exact grayWalk_on m w (by omega)

end Go.Proofs.Ytlmkkccokemaiaa
