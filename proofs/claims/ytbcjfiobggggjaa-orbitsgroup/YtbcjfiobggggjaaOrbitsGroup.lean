/-
  castkeep.OrbitsGroup: whatever the input: true.
-/
import Derived.Test.YtbcjfiobggggjaaOrbT
import Derived.Test.YtbcjfiobggggjaaOrbP
import Derived.Test.YtbcjfiobggggjaaOrbF
import Derived.Test.YtbcjfiobggggjaaOrbG
import Derived.Deep.RegionHeld3
import Derived.Deep.RegionLaw
namespace Go.Proofs.Ytbcjfiobggggjaa
open Go.RowKit

/-! ### Is a row among them? -/
set_option maxRecDepth 100000 in
set_option maxHeartbeats 800000 in
theorem eqRow (b : Nat) (Ax : Option Addr) (nx cx : Nat) (x : List Int) (A : Option Addr) (n c : Nat) (p : List Int) (w : World) (hcell : w.cell? ⟨b, 0, none⟩ = some (.slice Ax nx cx)) (hX : Ints w Ax nx x) (hI : Ints w A n p) (hnx : nx ≤ 1000000) (hn : n ≤ 1000000) :
    Calls Try.prog 28 #[.slice A n c, .pointer (some ⟨b, 0, none⟩)] w fun e w' => e = .returned (.bool (decide (x = p))) ∧ Below w.heap.size w w' := by
  have heq := equal_bel Ax nx cx A n c x p w hX hI hnx hn
  clear hX hI
  go_enter Try.func28, Try.ntmps28
  go_wp2_with fail
  refine heq.mono ?_
  rintro e w1 ⟨rfl, hb⟩
  have HB := hid hb
  clear hb heq
  go_wp2
  go_ret
  exact ⟨rfl, HB.out⟩

theorem any_mem {T : List (List Int)} {x : List Int} : T.any (fun y => decide (x = y)) = decide (x ∈ T) := by
  rw [Bool.eq_iff_iff]
  simp only [List.any_eq_true, decide_eq_true_eq]
  exact ⟨fun ⟨y, hy, e⟩ => e ▸ hy, fun h => ⟨x, h, rfl⟩⟩

set_option maxRecDepth 100000 in
set_option maxHeartbeats 800000 in
theorem hasRow (bg : Nat) (AT : Option Addr) (l cT : Nat) (T : List (List Int)) (Ax : Option Addr) (nx cx : Nat) (x : List Int) (w : World) (hcell : w.cell? ⟨bg, 0, none⟩ = some (.slice AT l cT)) (hbg : bg < w.heap.size) (hR : RRows w AT l T) (hl : l ≤ 1000000) (hT : ∀ p, p ∈ T → p.length ≤ 1000000) (hX : Ints w Ax nx x) (hnx : nx ≤ 1000000) :
    Calls Try.prog 26 #[.slice Ax nx cx, .pointer (some ⟨bg, 0, none⟩)] w fun e w' => e = .returned (.bool (decide (x ∈ T))) ∧ Below w.heap.size w w' := by
  have HBA := fun o => hid (below_alloc w o)
  have g1 := fun o => (below_alloc w o).cell (p := ⟨bg, 0, none⟩) hbg
  have eg : ∀ args w, (callFunc 28 args).run Try.prog w = .ok (.enter 28 args) w := enters_of Try.func28 (by kernel_rfl) rfl
  have HC := fun (ty : TypeId) => hid (containsFuncR 28 #[.pointer (some ⟨w.heap.size, 0, none⟩)] eg (fun p => decide (x = p)) AT l cT T (w.alloc (.cells #[.slice Ax nx cx] ty)) (hR.keep (below_alloc w _)) (by omega) (by
    intro A' n' c' xs w' hm hb hI _
    refine eqRow w.heap.size Ax nx cx x A' n' c' xs w' ?_ ((hX.keep (below_alloc w _)).keep hb) hI hnx (by rw [← hI.len]; exact hT _ hm)
    rw [hb.cell (p := ⟨w.heap.size, 0, none⟩) (by simp)]
    simp))
  rw [hcell] at g1
  rw [any_mem] at HC
  clear hX eg hR hcell
  go_enter Try.func26, Try.ntmps26
  go_wp2_with (go_at_call 27; refine (HC _).out.mono ?_)
  rintro e w1 ⟨rfl, hb⟩
  have HB := hid ((HBA _).out.trans (hb.mono (by simp)))
  clear hb
  go_wp2
  go_ret
  exact ⟨rfl, HB.out⟩

theorem cmp_places {T : List (List Int)} (hT : T.Pairwise (fun a b => rk a < rk b)) {i k : Nat} (hi : i < T.length) (hk : k < T.length) (hik : i ≠ k) (hp : (T.getD i []).Perm (T.getD k [])) :
    (decide (cmpL (T.getD i []) (T.getD k []) < 0) == decide ((i : Int) < (k : Int))) = true := by
  have e1 : ∀ x (hx : x < T.length), T[x] = T.getD x [] := fun x hx => by rw [List.getD_eq_getElem?_getD, List.getElem?_eq_getElem hx]; rfl
  have hlt : ∀ x y, x < T.length → y < T.length → x < y → rk (T.getD x []) < rk (T.getD y []) := fun x y hx hy hxy => by
    have := List.pairwise_iff_getElem.1 hT x y hx hy hxy
    rwa [e1, e1] at this
  have hc := cmp_lt hp
  rcases Nat.lt_or_ge i k with h1 | h1
  · have h2 : cmpL (T.getD i []) (T.getD k []) < 0 := hc.2 (hlt i k hi hk h1)
    rw [decide_eq_true h2, decide_eq_true (by omega)]
    rfl
  · have h3 := hlt k i hk hi (by omega)
    have h2 : ¬ cmpL (T.getD i []) (T.getD k []) < 0 := fun h => by have := hc.1 h; omega
    rw [decide_eq_false h2, decide_eq_false (by omega)]
    rfl

theorem mod_zero {a b : Nat} (h : b ∣ a) : (a : Int) % (b : Int) = 0 := by
  obtain ⟨c, rfl⟩ := h
  rw [Int.natCast_mul]
  exact Int.mul_emod_right _ _

set_option maxRecDepth 100000 in
set_option maxHeartbeats 2000000 in
theorem orbitsGroup_any (a : Int) (A : Option Addr) (m c : Nat) (L : List (List Int)) (bi bk : Int) (w : World) (h : RRows w A m L) (hc : Cap m c) (hrow : ∀ j, (L.getD j []).length ≤ 17592186044416) :
    Calls Try.prog 4 #[.int .i64 a, .slice A m c, .int .i64 bi, .int .i64 bk] w fun e w' => e = .returned (.bool true) ∧ Below w.heap.size w w' := by
  have HH := hid h
  have HRL := hid hrow
  clear h hrow
  obtain ⟨hmc, hcm⟩ := hc
  go_enter Try.func4, Try.ntmps4
  go_wp2_with fail
  refine (turns_any _).mono ?_
  rintro e w1 ⟨rfl, hb1⟩
  have HB1 := hid hb1
  have HH1 := hid (HH.out.keep hb1)
  clear hb1 HH
  go_wp2_with fail
  refine (within_any a 7 _ (by omega) (by omega)).mono ?_
  rintro e w2 ⟨rfl, rfl⟩
  obtain ⟨n, hn⟩ := Int.eq_ofNat_of_zero_le (Int.emod_nonneg a (show (7 : Int) ≠ 0 by omega))
  have hn7 : n < 7 := by have := Int.emod_lt_of_pos a (show (0 : Int) < 7 by omega); omega
  rw [hn]
  clear hn
  go_wp2_with fail
  refine (moved_any A m c L n _ HH1.out hmc (by omega) hcm HRL.out).mono ?_
  rintro e w3 ⟨v3, L3, rfl, hr3, hl3, ho3, hb3⟩
  have HE3 := hid (orbE_orders (by omega) hl3 ho3)
  have HO3 := hid ho3
  obtain ⟨A3, c3, e3, hR3, _⟩ := hr3.rrows
  subst e3
  have HB3 := hid (below_step HB1.out (Nat.le_refl _) hb3)
  generalize hm3 : L3.length = m3 at *
  clear hr3 hb3 ho3 HH1 HRL HB1
  go_wp2_with fail
  refine (group_ok A3 m3 c3 L3 n _ hR3 HE3.out).mono ?_
  rintro e w4 ⟨v4, T, rfl, hT, hrT, hb4⟩
  have HT := hid hT
  have hT0 := hT.pos
  have hTL := Nat.le_trans (hT.length_le HO3.out) (Nat.le_trans (fact_mono (show n ≤ 6 by omega)) (show fact 6 ≤ 720 by decide))
  have HMD := hid (mod_zero (hT.dvd_fact HO3.out))
  obtain ⟨AT, cT, eT, hRT, _⟩ := hrT.rrows
  subst eT
  have HRT := hid hRT
  have HB4 := hid (below_step HB3.out (Nat.le_refl _) hb4)
  have hfb : fact n ≤ 720 := Nat.le_trans (fact_mono (show n ≤ 6 by omega)) (by decide)
  have hct := fun W => count_ok n W (by omega)
  have hmd := HMD.out
  clear hT hrT hb4 hRT hR3 HB3 HMD
  generalize fact n = F at *
  generalize hTl : T.length = N at *
  have HTl := hid hTl
  clear hTl
  have hcell5 : (w4.alloc (.cells #[.slice AT N cT] 22)).cell? ⟨w4.heap.size, 0, none⟩ = some (.slice AT N cT) := by simp
  have hbx5 : w4.heap.size < (w4.alloc (.cells #[.slice AT N cT] 22)).heap.size := by simp
  have HRT5 := hid (HRT.out.keep (below_alloc w4 (.cells #[.slice AT N cT] 22)))
  have HB5 := hid (below_step HB4.out (Nat.le_refl _) (below_alloc w4 (.cells #[.slice AT N cT] 22)))
  clear HB4 HRT
  go_wp2_with fail
  refine (hct _).mono ?_
  rintro e w5 ⟨rfl, rfl⟩
  generalize hw5 : w4.alloc (.cells #[.slice AT N cT] 22) = w5 at *
  generalize hbx : w4.heap.size = bx at *
  clear hw5 hbx hct
  have hgd := fun t => good_bel w5 #[.int .i64 0, .int .i64 0] t 2 [0, 0] rfl rfl (by omega)
  rw [show allOK [0, 0] = true by decide] at hgd
  have hN0 : (((N : Nat) : Int) == 0) = false := beq_eq_false_iff_ne.2 (by omega)
  have hN1 : ¬ ((N : Int) = 0) := by omega
  go_wp2_with fail
  refine (hgd _).mono ?_
  rintro e w6 ⟨rfl, hb6⟩
  have hcell6 := (hb6.cell (p := ⟨bx, 0, none⟩) hbx5).trans hcell5
  have hbx6 := Nat.lt_of_lt_of_le hbx5 hb6.size
  have HRT6 := hid (HRT5.out.keep hb6)
  have HB6 := hid (below_step HB5.out (Nat.le_refl _) hb6)
  clear hgd hb6 hcell5 hbx5 HRT5 HB5
  obtain ⟨i, hi⟩ := Int.eq_ofNat_of_zero_le (Int.emod_nonneg bi (show (N : Int) ≠ 0 by omega))
  have hiN : i < N := by have := Int.emod_lt_of_pos bi (show (0 : Int) < (N : Int) by omega); rw [hi] at this; omega
  obtain ⟨k, hk⟩ := Int.eq_ofNat_of_zero_le (Int.emod_nonneg bk (show (N : Int) ≠ 0 by omega))
  have hkN : k < N := by have := Int.emod_lt_of_pos bk (show (0 : Int) < (N : Int) by omega); rw [hk] at this; omega
  have HW1 := hid (fun z => quiet_left (within_any bi (N : Int) (w6.drewN z) (by omega) (by omega)))
  have HW2 := hid (fun z => quiet_left (within_any bk (N : Int) (w6.drewN z) (by omega) (by omega)))
  rw [hi] at HW1
  rw [hk] at HW2
  clear hi hk
  go_wp2_with fail
  go_quiet (first
    | (go_at_call_of 20 (Value.int .i64 bi); exact Calls.quiet_of_same (HW1.out _))
    | (go_at_call_of 20 (Value.int .i64 bk); exact Calls.quiet_of_same (HW2.out _)))
  clear HW1 HW2
  have HRT7 := hid (HRT6.out.drewN nq)
  have HB7 := hid (below_drewN HB6.out nq)
  have hcell7 : (w6.drewN nq).cell? ⟨bx, 0, none⟩ = some (.slice AT N cT) := hcell6
  have hbx7 : bx < (w6.drewN nq).heap.size := hbx6
  generalize w6.drewN nq = w7 at *
  clear hcell6 hbx6 HRT6 HB6
  obtain ⟨b, off, Ai, ni, ci, eA, hci, hIi, hcapi⟩ := HRT7.out.at hiN
  subst eA
  obtain ⟨b', off', Ak, nk, ck, eA, hck, hIk, hcapk⟩ := HRT7.out.at hkN
  injection eA with eA
  injection eA with eA1 eA2
  subst eA1
  subst eA2
  have HIO := hid (HT.out.ok HO3.out (getD_mem_rows (show i < T.length by rw [HTl.out]; exact hiN)))
  have HKO := hid (HT.out.ok HO3.out (getD_mem_rows (show k < T.length by rw [HTl.out]; exact hkN)))
  have hni : n = ni := by rw [← hIi.len, HIO.out.1]
  subst hni
  have hnk : n = nk := by rw [← hIk.len, HKO.out.1]
  subst hnk
  have HIi := hid hIi
  have HIk := hid hIk
  have hiM : (i : Int) < (N : Int) := by omega
  have hkM : (k : Int) < (N : Int) := by omega
  clear hIi hIk hcapi hcapk
  go_wp2_with fail
  go_region_held3 (fun u => u.cell? ⟨bx, 0, none⟩ = some (.slice (some ⟨b, off, none⟩) N cT) ∧ u.cell? ⟨b, off + i, none⟩ = some (.slice Ai n ci) ∧ u.cell? ⟨b, off + k, none⟩ = some (.slice Ak n ck)) (first | exact ⟨hcell7, hci, hck⟩ | exact ⟨hcell8, hci8, hck8⟩) ((go_at_call 24; refine (times_own Ai n ci Ak ck (T.getD i []) (T.getD k []) w7.drew (HIi.out.drewN 1) (HIk.out.drewN 1) (permErr_of HIO.out.2 (by rw [HIO.out.1]; omega)) (permErr_of HKO.out.2 (by rw [HKO.out.1]; omega))).mono ?_; rintro e w8 ⟨v8, rfl, ho8, hb8⟩; obtain ⟨A8, c8, e8, hI8, _⟩ := ho8.ints; rw [length_times, HKO.out.1] at e8 hI8; subst e8; have HB8 := hid (below_step (below_drewN HB7.out 1) (Nat.le_refl _) hb8); have hcell8 := (hb8.cell (p := ⟨bx, 0, none⟩) hbx7).trans hcell7; have hci8 : w8.cell? ⟨b, off + i, none⟩ = some (.slice Ai n ci) := (hb8.cell (p := ⟨b, off + i, none⟩) (block_lt_of_cell hci)).trans hci; have hck8 : w8.cell? ⟨b, off + k, none⟩ = some (.slice Ak n ck) := (hb8.cell (p := ⟨b, off + k, none⟩) (block_lt_of_cell hck)).trans hck; have HIi8 := hid ((HIi.out.drewN 1).keep hb8); have HIk8 := hid ((HIk.out.drewN 1).keep hb8); have HRT8 := hid ((HRT7.out.drewN 1).keep hb8); have hbx8 := Nat.lt_of_lt_of_le hbx7 hb8.size; have HP8 := hid hI8; clear hb8 ho8 hI8))
  have hni : n ≤ 10 := by omega
  clear hci hck hcell7 hbx7 HIi HIk HRT7 HB7
  go_wp2_with fail
  refine (inverse_perm Ai n ci (T.getD i []) w8 HIi8.out HIO.out.2 hni).mono ?_
  rintro e w9 ⟨q, hq, A9, c9, rfl, hI9, _, hb9⟩
  have HB9 := hid (below_step HB8.out (Nat.le_refl _) hb9)
  have hcell9 := (hb9.cell (p := ⟨bx, 0, none⟩) hbx8).trans hcell8
  have hci9 : w9.cell? ⟨b, off + i, none⟩ = some (.slice Ai n ci) := (hb9.cell (p := ⟨b, off + i, none⟩) (block_lt_of_cell hci8)).trans hci8
  have hck9 : w9.cell? ⟨b, off + k, none⟩ = some (.slice Ak n ck) := (hb9.cell (p := ⟨b, off + k, none⟩) (block_lt_of_cell hck8)).trans hck8
  have HIi9 := hid (HIi8.out.keep hb9)
  have HIk9 := hid (HIk8.out.keep hb9)
  have HRT9 := hid (HRT8.out.keep hb9)
  have HP9 := hid (HP8.out.keep hb9)
  have HQ9 := hid hI9
  have hbx9 := Nat.lt_of_lt_of_le hbx8 hb9.size
  have HPM := hid (HT.out.mul HO3.out (getD_mem_rows (show i < T.length by rw [HTl.out]; exact hiN)) (getD_mem_rows (show k < T.length by rw [HTl.out]; exact hkN)))
  have HQM := hid (HT.out.inv HO3.out (getD_mem_rows (show i < T.length by rw [HTl.out]; exact hiN)) hq)
  have HTB := hid (show ∀ p, p ∈ T → p.length ≤ 1000000 from fun p hp => by rw [(HT.out.ok HO3.out hp).1]; omega)
  have HPL : Hid ((times (T.getD i []) (T.getD k [])).length ≤ 1000000) := by show (times (T.getD i []) (T.getD k [])).length ≤ 1000000; rw [length_times, HKO.out.1]; omega
  have HCMP := hid (fun hik : i ≠ k => cmp_places HT.out.sorted (show i < T.length by rw [HTl.out]; exact hiN) (show k < T.length by rw [HTl.out]; exact hkN) hik (HIO.out.2.perm HKO.out.2 (HIO.out.1.trans HKO.out.1.symm)))
  clear hb9 hI9 hq hcell8 hci8 hck8 HIi8 HIk8 HRT8 HP8 HB8 hbx8
  generalize times (T.getD i []) (T.getD k []) = pr at *
  generalize T.getD i [] = pi at *
  generalize T.getD k [] = pk at *
  have hgd := fun t => good_bel w9.drew #[.int .i64 0, .int .i64 0] t 2 [0, 0] rfl rfl (by omega)
  rw [show allOK [0, 0] = true by decide] at hgd
  have hS9 : ∀ o, (w9.drew.alloc o).cell? ⟨bx, 0, none⟩ = some (.slice (some ⟨b, off, none⟩) N cT) ∧ (w9.drew.alloc o).cell? ⟨b, off + i, none⟩ = some (.slice Ai n ci) ∧ (w9.drew.alloc o).cell? ⟨b, off + k, none⟩ = some (.slice Ak n ck) := fun o =>
    ⟨((below_alloc w9.drew o).cell (p := ⟨bx, 0, none⟩) hbx9).trans hcell9, ((below_alloc w9.drew o).cell (p := ⟨b, off + i, none⟩) (block_lt_of_cell hci9)).trans hci9, ((below_alloc w9.drew o).cell (p := ⟨b, off + k, none⟩) (block_lt_of_cell hck9)).trans hck9⟩
  have hpm : decide (pr ∈ T) = true := decide_eq_true HPM.out
  have hqm : decide (q ∈ T) = true := decide_eq_true HQM.out
  by_cases hik : i = k
  · subst hik
    have hikd : ((i : Int) == (i : Int)) = true := by simp
    go_wp2_with fail
    refine wp_region_noPanic ?_
    refine wp_region_held_drew (S := fun u => u.cell? ⟨bx, 0, none⟩ = some (.slice (some ⟨b, off, none⟩) N cT)) (by kernel_rfl) hcell9 (fun hHeld => ?_)
    refine wpAnyH_take (i := 0) (oi := { dst := some 81, op := Op.move (Operand.tmp 14), type := 24, pos := "mid.go:51", after := #[], guard := none }) (v := ?v1) rfl (by kernel_rfl) (by kernel_rfl) (by kernel_rfl) (fun _ _ _ h => h) (Or.inl ⟨by rfl, ?hy1⟩) (by assumption) ?rest1
    case hy1 => (intro w9 hSw; (try dsimp only at hSw); go_simp; try with_reducible rfl)
    try simp only [Act.put, List.setIfInBounds_toArray, List.set_cons_zero, List.set_cons_succ]
    refine wpAnyH_take (i := 1) (oi := { dst := some 82, op := Op.move (Operand.tmp 16), type := 24, pos := "mid.go:51", after := #[], guard := none }) (v := ?v2) rfl (by kernel_rfl) (by kernel_rfl) (by kernel_rfl) (fun _ _ _ h => h) (Or.inl ⟨by rfl, ?hy2⟩) (by assumption) ?rest2
    case hy2 => (intro w9 hSw; (try dsimp only at hSw); go_simp; try with_reducible rfl)
    try simp only [Act.put, List.setIfInBounds_toArray, List.set_cons_zero, List.set_cons_succ]
    refine wpAnyH_ready (rs := [2]) (by kernel_rfl) (by simp) ?_
    refine AllReadyH.cons (o := { dst := some 83, op := Op.buildSlice 76 2 #[(0, Operand.tmp 81), (1, Operand.tmp 82)], type := 76, pos := "mid.go:51", after := #[{ on := 0, ground := Ground.data }, { on := 1, ground := Ground.data }], guard := none }) rfl (fun K hK => ?_) AllReadyH.nil
    go_simp
    skip
    go_wp2_with fail
    refine hK.out _ _ ?hS3 (fun hHeld => ?rest3)
    case hS3 => (try dsimp only); (exact (hS9 _).1)
    clear hK K
    try simp only [Act.put, List.setIfInBounds_toArray, List.set_cons_zero, List.set_cons_succ]
    refine wpAnyH_ready (rs := [3]) (by kernel_rfl) (by simp) ?_
    refine AllReadyH.cons (o := { dst := some 84, op := Op.call { callee := Callee.value (Operand.func 23), args := #[Operand.tmp 83], argTypes := #[76] }, type := 4, pos := "mid.go:51", after := #[{ on := 2, ground := Ground.data }], guard := none }) rfl (fun K hK => ?_) AllReadyH.nil
    go_simp
    refine (hgd _).mono ?_
    rintro e wA ⟨rfl, hbA⟩
    have hcellA : wA.cell? ⟨bx, 0, none⟩ = some (.slice (some ⟨b, off, none⟩) N cT) := (hbA.cell (p := ⟨bx, 0, none⟩) hbx9).trans hcell9
    have hbxA : bx < wA.heap.size := Nat.lt_of_lt_of_le hbx9 hbA.size
    have HA := hid (Below.trans (below_drewN (Below.refl w9.heap.size w9) 1) hbA)
    clear hbA
    go_wp2_with fail
    refine hK.out _ _ ?hS4 (fun hHeld => ?rest4)
    case hS4 => (try dsimp only); (exact hcellA)
    clear hK K
    try simp only [Act.put, List.setIfInBounds_toArray, List.set_cons_zero, List.set_cons_succ]
    refine wpAnyH_take (i := 4) (oi := { dst := some 85, op := Op.move (Operand.tmp 84), type := 4, pos := "mid.go:51", after := #[{ on := 3, ground := Ground.data }, { on := 3, ground := Ground.chain }], guard := none }) (v := ?v5) rfl (by kernel_rfl) (by kernel_rfl) (by kernel_rfl) (fun _ _ _ h => h) (Or.inl ⟨by rfl, ?hy5⟩) (by assumption) ?rest5
    case hy5 => (intro w9 hSw; (try dsimp only at hSw); go_simp; try with_reducible rfl)
    try simp only [Act.put, List.setIfInBounds_toArray, List.set_cons_zero, List.set_cons_succ]
    refine wpAnyH_take (i := 5) (oi := { dst := some 86, op := Op.move (Operand.tmp 17), type := 44, pos := "mid.go:51", after := #[{ on := 4, ground := Ground.guard }], guard := some (4, true) }) (v := ?v6) rfl (by kernel_rfl) (by kernel_rfl) (by kernel_rfl) (fun _ _ _ h => h) (Or.inl ⟨by rfl, ?hy6⟩) (by assumption) ?rest6
    case hy6 => (intro w9 hSw; (try dsimp only at hSw); go_simp; try with_reducible rfl)
    try simp only [Act.put, List.setIfInBounds_toArray, List.set_cons_zero, List.set_cons_succ]
    refine wpAnyH_take (i := 6) (oi := { dst := some 87, op := Op.move (Operand.tmp 13), type := 23, pos := "mid.go:51", after := #[{ on := 4, ground := Ground.guard }], guard := some (4, true) }) (v := ?v7) rfl (by kernel_rfl) (by kernel_rfl) (by kernel_rfl) (fun _ _ _ h => h) (Or.inl ⟨by rfl, ?hy7⟩) (by assumption) ?rest7
    case hy7 => (intro w9 hSw; (try dsimp only at hSw); go_simp; try with_reducible rfl)
    try simp only [Act.put, List.setIfInBounds_toArray, List.set_cons_zero, List.set_cons_succ]
    refine wpAnyH_ready (rs := [7]) (by kernel_rfl) (by simp) ?_
    refine AllReadyH.cons (o := { dst := some 88, op := Op.call { callee := Callee.value (Operand.tmp 86), args := #[Operand.tmp 87], argTypes := #[23] }, type := 4, pos := "mid.go:51", after := #[{ on := 5, ground := Ground.data }, { on := 6, ground := Ground.data }, { on := 4, ground := Ground.chain }, { on := 4, ground := Ground.guard }], guard := some (4, true) }) rfl (fun K hK => ?_) AllReadyH.nil
    go_simp
    refine (hasRow bx (some ⟨b, off, none⟩) N cT T A8 n c8 pr wA hcellA hbxA (HRT9.out.keep HA.out) (by omega) HTB.out (HP9.out.keep HA.out) (by omega)).mono ?_
    rintro e wB ⟨rfl, hbB⟩
    rw [hpm]
    have hcellB : wB.cell? ⟨bx, 0, none⟩ = some (.slice (some ⟨b, off, none⟩) N cT) := (hbB.cell (p := ⟨bx, 0, none⟩) hbxA).trans hcellA
    have hbxB : bx < wB.heap.size := Nat.lt_of_lt_of_le hbxA hbB.size
    have HB := hid (below_step HA.out (Nat.le_refl _) hbB)
    clear hbB
    go_wp2_with fail
    refine hK.out _ _ ?hS8 (fun hHeld => ?rest8)
    case hS8 => (try dsimp only); (exact hcellB)
    clear hK K
    try simp only [Act.put, List.setIfInBounds_toArray, List.set_cons_zero, List.set_cons_succ]
    refine wpAnyH_take (i := 8) (oi := { dst := some 89, op := Op.pick (Operand.tmp 85) (Operand.tmp 88) (Operand.const (Value.bool false)), type := 4, pos := "mid.go:51", after := #[{ on := 4, ground := Ground.data }, { on := 7, ground := Ground.data }], guard := none }) (v := ?v9) rfl (by kernel_rfl) (by kernel_rfl) (by kernel_rfl) (fun _ _ _ h => h) (Or.inl ⟨by rfl, ?hy9⟩) (by assumption) ?rest9
    case hy9 => (intro w9 hSw; (try dsimp only at hSw); go_simp; try with_reducible rfl)
    try simp only [Act.put, List.setIfInBounds_toArray, List.set_cons_zero, List.set_cons_succ]
    refine wpAnyH_take (i := 9) (oi := { dst := some 90, op := Op.move (Operand.tmp 89), type := 4, pos := "mid.go:51", after := #[{ on := 8, ground := Ground.data }, { on := 7, ground := Ground.chain }], guard := none }) (v := ?v10) rfl (by kernel_rfl) (by kernel_rfl) (by kernel_rfl) (fun _ _ _ h => h) (Or.inl ⟨by rfl, ?hy10⟩) (by assumption) ?rest10
    case hy10 => (intro w9 hSw; (try dsimp only at hSw); go_simp; try with_reducible rfl)
    try simp only [Act.put, List.setIfInBounds_toArray, List.set_cons_zero, List.set_cons_succ]
    refine wpAnyH_take (i := 10) (oi := { dst := some 91, op := Op.move (Operand.tmp 17), type := 44, pos := "mid.go:51", after := #[{ on := 9, ground := Ground.guard }], guard := some (9, true) }) (v := ?v11) rfl (by kernel_rfl) (by kernel_rfl) (by kernel_rfl) (fun _ _ _ h => h) (Or.inl ⟨by rfl, ?hy11⟩) (by assumption) ?rest11
    case hy11 => (intro w9 hSw; (try dsimp only at hSw); go_simp; try with_reducible rfl)
    try simp only [Act.put, List.setIfInBounds_toArray, List.set_cons_zero, List.set_cons_succ]
    refine wpAnyH_take (i := 11) (oi := { dst := some 92, op := Op.move (Operand.tmp 15), type := 23, pos := "mid.go:51", after := #[{ on := 9, ground := Ground.guard }], guard := some (9, true) }) (v := ?v12) rfl (by kernel_rfl) (by kernel_rfl) (by kernel_rfl) (fun _ _ _ h => h) (Or.inl ⟨by rfl, ?hy12⟩) (by assumption) ?rest12
    case hy12 => (intro w9 hSw; (try dsimp only at hSw); go_simp; try with_reducible rfl)
    try simp only [Act.put, List.setIfInBounds_toArray, List.set_cons_zero, List.set_cons_succ]
    refine wpAnyH_ready (rs := [12]) (by kernel_rfl) (by simp) ?_
    refine AllReadyH.cons (o := { dst := some 93, op := Op.call { callee := Callee.value (Operand.tmp 91), args := #[Operand.tmp 92], argTypes := #[23] }, type := 4, pos := "mid.go:51", after := #[{ on := 10, ground := Ground.data }, { on := 11, ground := Ground.data }, { on := 9, ground := Ground.chain }, { on := 9, ground := Ground.guard }], guard := some (9, true) }) rfl (fun K hK => ?_) AllReadyH.nil
    go_simp
    refine (hasRow bx (some ⟨b, off, none⟩) N cT T A9 n c9 q wB hcellB hbxB (HRT9.out.keep HB.out) (by omega) HTB.out (HQ9.out.keep HB.out) (by omega)).mono ?_
    rintro e wC ⟨rfl, hbC⟩
    rw [hqm]
    have hcellC : wC.cell? ⟨bx, 0, none⟩ = some (.slice (some ⟨b, off, none⟩) N cT) := (hbC.cell (p := ⟨bx, 0, none⟩) hbxB).trans hcellB
    have HC := hid (below_step HB.out (Nat.le_refl _) hbC)
    clear hbC
    go_wp2_with fail
    refine hK.out _ _ ?hS13 (fun hHeld => ?rest13)
    case hS13 => (try dsimp only); (exact hcellC)
    clear hK K
    try simp only [Act.put, List.setIfInBounds_toArray, List.set_cons_zero, List.set_cons_succ]
    refine wpAnyH_take (i := 13) (oi := { dst := some 94, op := Op.pick (Operand.tmp 90) (Operand.tmp 93) (Operand.const (Value.bool false)), type := 4, pos := "mid.go:51", after := #[{ on := 9, ground := Ground.data }, { on := 12, ground := Ground.data }], guard := none }) (v := ?v14) rfl (by kernel_rfl) (by kernel_rfl) (by kernel_rfl) (fun _ _ _ h => h) (Or.inl ⟨by rfl, ?hy14⟩) (by assumption) ?rest14
    case hy14 => (intro w9 hSw; (try dsimp only at hSw); go_simp; try with_reducible rfl)
    try simp only [Act.put, List.setIfInBounds_toArray, List.set_cons_zero, List.set_cons_succ]
    refine wpAnyH_take (i := 14) (oi := { dst := some 95, op := Op.move (Operand.tmp 94), type := 4, pos := "mid.go:51", after := #[{ on := 13, ground := Ground.data }, { on := 12, ground := Ground.chain }], guard := none }) (v := ?v15) rfl (by kernel_rfl) (by kernel_rfl) (by kernel_rfl) (fun _ _ _ h => h) (Or.inl ⟨by rfl, ?hy15⟩) (by assumption) ?rest15
    case hy15 => (intro w9 hSw; (try dsimp only at hSw); go_simp; try with_reducible rfl)
    try simp only [Act.put, List.setIfInBounds_toArray, List.set_cons_zero, List.set_cons_succ]
    refine wpAnyH_take (i := 15) (oi := { dst := some 96, op := Op.move (Operand.tmp 2), type := 3, pos := "mid.go:51", after := #[{ on := 14, ground := Ground.guard }], guard := some (14, true) }) (v := ?v16) rfl (by kernel_rfl) (by kernel_rfl) (by kernel_rfl) (fun _ _ _ h => h) (Or.inl ⟨by rfl, ?hy16⟩) (by assumption) ?rest16
    case hy16 => (intro w9 hSw; (try dsimp only at hSw); go_simp; try with_reducible rfl)
    try simp only [Act.put, List.setIfInBounds_toArray, List.set_cons_zero, List.set_cons_succ]
    refine wpAnyH_take (i := 16) (oi := { dst := some 97, op := Op.move (Operand.tmp 3), type := 3, pos := "mid.go:51", after := #[{ on := 14, ground := Ground.guard }], guard := some (14, true) }) (v := ?v17) rfl (by kernel_rfl) (by kernel_rfl) (by kernel_rfl) (fun _ _ _ h => h) (Or.inl ⟨by rfl, ?hy17⟩) (by assumption) ?rest17
    case hy17 => (intro w9 hSw; (try dsimp only at hSw); go_simp; try with_reducible rfl)
    try simp only [Act.put, List.setIfInBounds_toArray, List.set_cons_zero, List.set_cons_succ]
    refine wpAnyH_take (i := 17) (oi := { dst := some 98, op := Op.binOp BinOp.eql 3 (Operand.tmp 96) (Operand.tmp 97) 3, type := 4, pos := "mid.go:51", after := #[{ on := 15, ground := Ground.data }, { on := 16, ground := Ground.data }, { on := 14, ground := Ground.guard }], guard := some (14, true) }) (v := ?v18) rfl (by kernel_rfl) (by kernel_rfl) (by kernel_rfl) (fun _ _ _ h => h) (Or.inl ⟨by rfl, ?hy18⟩) (by assumption) ?rest18
    case hy18 => (intro w9 hSw; (try dsimp only at hSw); go_simp; try with_reducible rfl)
    try simp only [Act.put, List.setIfInBounds_toArray, List.set_cons_zero, List.set_cons_succ]
    refine wpAnyH_take (i := 18) (oi := { dst := some 99, op := Op.move (Operand.tmp 98), type := 4, pos := "mid.go:51", after := #[{ on := 17, ground := Ground.data }, { on := 14, ground := Ground.chain }, { on := 14, ground := Ground.guard }], guard := some (14, true) }) (v := ?v19) rfl (by kernel_rfl) (by kernel_rfl) (by kernel_rfl) (fun _ _ _ h => h) (Or.inl ⟨by rfl, ?hy19⟩) (by assumption) ?rest19
    case hy19 => (intro w9 hSw; (try dsimp only at hSw); go_simp; try with_reducible rfl)
    try simp only [Act.put, List.setIfInBounds_toArray, List.set_cons_zero, List.set_cons_succ]
    refine wpAnyH_take (i := 19) (oi := { dst := some 100, op := Op.load 22 (Operand.tmp 9), type := 22, pos := "mid.go:51", after := #[{ on := 18, ground := Ground.guard }], guard := some (18, false) }) (v := undef) rfl (by kernel_rfl) (by kernel_rfl) (by kernel_rfl) (fun _ _ _ h => h) (Or.inr ⟨by rfl, rfl⟩) (by assumption) ?rest20
    try simp only [Act.put, List.setIfInBounds_toArray, List.set_cons_zero, List.set_cons_succ]
    refine wpAnyH_take (i := 20) (oi := { dst := some 101, op := Op.move (Operand.tmp 2), type := 3, pos := "mid.go:51", after := #[{ on := 18, ground := Ground.guard }], guard := some (18, false) }) (v := undef) rfl (by kernel_rfl) (by kernel_rfl) (by kernel_rfl) (fun _ _ _ h => h) (Or.inr ⟨by rfl, rfl⟩) (by assumption) ?rest21
    try simp only [Act.put, List.setIfInBounds_toArray, List.set_cons_zero, List.set_cons_succ]
    refine wpAnyH_take (i := 21) (oi := { dst := some 102, op := Op.indexAddr 22 (Operand.tmp 100) (Operand.tmp 101), type := 0, pos := "mid.go:51", after := #[{ on := 19, ground := Ground.data }, { on := 20, ground := Ground.data }, { on := 18, ground := Ground.guard }], guard := some (18, false) }) (v := undef) rfl (by kernel_rfl) (by kernel_rfl) (by kernel_rfl) (fun _ _ _ h => h) (Or.inr ⟨by rfl, rfl⟩) (by assumption) ?rest22
    try simp only [Act.put, List.setIfInBounds_toArray, List.set_cons_zero, List.set_cons_succ]
    refine wpAnyH_take (i := 22) (oi := { dst := some 103, op := Op.load 23 (Operand.tmp 102), type := 23, pos := "mid.go:51", after := #[{ on := 21, ground := Ground.data }, { on := 18, ground := Ground.guard }], guard := some (18, false) }) (v := undef) rfl (by kernel_rfl) (by kernel_rfl) (by kernel_rfl) (fun _ _ _ h => h) (Or.inr ⟨by rfl, rfl⟩) (by assumption) ?rest23
    try simp only [Act.put, List.setIfInBounds_toArray, List.set_cons_zero, List.set_cons_succ]
    refine wpAnyH_take (i := 23) (oi := { dst := some 104, op := Op.load 22 (Operand.tmp 9), type := 22, pos := "mid.go:51", after := #[{ on := 18, ground := Ground.guard }], guard := some (18, false) }) (v := undef) rfl (by kernel_rfl) (by kernel_rfl) (by kernel_rfl) (fun _ _ _ h => h) (Or.inr ⟨by rfl, rfl⟩) (by assumption) ?rest24
    try simp only [Act.put, List.setIfInBounds_toArray, List.set_cons_zero, List.set_cons_succ]
    refine wpAnyH_take (i := 24) (oi := { dst := some 105, op := Op.move (Operand.tmp 3), type := 3, pos := "mid.go:51", after := #[{ on := 18, ground := Ground.guard }], guard := some (18, false) }) (v := undef) rfl (by kernel_rfl) (by kernel_rfl) (by kernel_rfl) (fun _ _ _ h => h) (Or.inr ⟨by rfl, rfl⟩) (by assumption) ?rest25
    try simp only [Act.put, List.setIfInBounds_toArray, List.set_cons_zero, List.set_cons_succ]
    refine wpAnyH_take (i := 25) (oi := { dst := some 106, op := Op.indexAddr 22 (Operand.tmp 104) (Operand.tmp 105), type := 0, pos := "mid.go:51", after := #[{ on := 23, ground := Ground.data }, { on := 24, ground := Ground.data }, { on := 18, ground := Ground.guard }], guard := some (18, false) }) (v := undef) rfl (by kernel_rfl) (by kernel_rfl) (by kernel_rfl) (fun _ _ _ h => h) (Or.inr ⟨by rfl, rfl⟩) (by assumption) ?rest26
    try simp only [Act.put, List.setIfInBounds_toArray, List.set_cons_zero, List.set_cons_succ]
    refine wpAnyH_take (i := 26) (oi := { dst := some 107, op := Op.load 23 (Operand.tmp 106), type := 23, pos := "mid.go:51", after := #[{ on := 25, ground := Ground.data }, { on := 18, ground := Ground.guard }], guard := some (18, false) }) (v := undef) rfl (by kernel_rfl) (by kernel_rfl) (by kernel_rfl) (fun _ _ _ h => h) (Or.inr ⟨by rfl, rfl⟩) (by assumption) ?rest27
    try simp only [Act.put, List.setIfInBounds_toArray, List.set_cons_zero, List.set_cons_succ]
    refine wpAnyH_take (i := 27) (oi := { dst := some 108, op := Op.call { callee := Callee.value (Operand.func 29), args := #[Operand.tmp 103, Operand.tmp 107], argTypes := #[23, 23] }, type := 3, pos := "mid.go:51", after := #[{ on := 22, ground := Ground.data }, { on := 26, ground := Ground.data }, { on := 18, ground := Ground.chain }, { on := 18, ground := Ground.guard }], guard := some (18, false) }) (v := undef) rfl (by kernel_rfl) (by kernel_rfl) (by kernel_rfl) (fun _ _ _ h => h) (Or.inr ⟨by rfl, rfl⟩) (by assumption) ?rest28
    try simp only [Act.put, List.setIfInBounds_toArray, List.set_cons_zero, List.set_cons_succ]
    refine wpAnyH_take (i := 28) (oi := { dst := some 109, op := Op.binOp BinOp.lss 3 (Operand.tmp 108) (Operand.const (Value.int IntKind.i64 0)) 3, type := 4, pos := "mid.go:51", after := #[{ on := 27, ground := Ground.data }, { on := 18, ground := Ground.guard }], guard := some (18, false) }) (v := undef) rfl (by kernel_rfl) (by kernel_rfl) (by kernel_rfl) (fun _ _ _ h => h) (Or.inr ⟨by rfl, rfl⟩) (by assumption) ?rest29
    try simp only [Act.put, List.setIfInBounds_toArray, List.set_cons_zero, List.set_cons_succ]
    refine wpAnyH_take (i := 29) (oi := { dst := some 110, op := Op.move (Operand.tmp 2), type := 3, pos := "mid.go:51", after := #[{ on := 18, ground := Ground.guard }], guard := some (18, false) }) (v := undef) rfl (by kernel_rfl) (by kernel_rfl) (by kernel_rfl) (fun _ _ _ h => h) (Or.inr ⟨by rfl, rfl⟩) (by assumption) ?rest30
    try simp only [Act.put, List.setIfInBounds_toArray, List.set_cons_zero, List.set_cons_succ]
    refine wpAnyH_take (i := 30) (oi := { dst := some 111, op := Op.move (Operand.tmp 3), type := 3, pos := "mid.go:51", after := #[{ on := 18, ground := Ground.guard }], guard := some (18, false) }) (v := undef) rfl (by kernel_rfl) (by kernel_rfl) (by kernel_rfl) (fun _ _ _ h => h) (Or.inr ⟨by rfl, rfl⟩) (by assumption) ?rest31
    try simp only [Act.put, List.setIfInBounds_toArray, List.set_cons_zero, List.set_cons_succ]
    refine wpAnyH_take (i := 31) (oi := { dst := some 112, op := Op.binOp BinOp.lss 3 (Operand.tmp 110) (Operand.tmp 111) 3, type := 4, pos := "mid.go:51", after := #[{ on := 29, ground := Ground.data }, { on := 30, ground := Ground.data }, { on := 18, ground := Ground.guard }], guard := some (18, false) }) (v := undef) rfl (by kernel_rfl) (by kernel_rfl) (by kernel_rfl) (fun _ _ _ h => h) (Or.inr ⟨by rfl, rfl⟩) (by assumption) ?rest32
    try simp only [Act.put, List.setIfInBounds_toArray, List.set_cons_zero, List.set_cons_succ]
    refine wpAnyH_take (i := 32) (oi := { dst := some 113, op := Op.binOp BinOp.eql 4 (Operand.tmp 109) (Operand.tmp 112) 4, type := 4, pos := "mid.go:51", after := #[{ on := 28, ground := Ground.data }, { on := 31, ground := Ground.data }, { on := 18, ground := Ground.guard }], guard := some (18, false) }) (v := undef) rfl (by kernel_rfl) (by kernel_rfl) (by kernel_rfl) (fun _ _ _ h => h) (Or.inr ⟨by rfl, rfl⟩) (by assumption) ?rest33
    try simp only [Act.put, List.setIfInBounds_toArray, List.set_cons_zero, List.set_cons_succ]
    refine wpAnyH_take (i := 33) (oi := { dst := some 114, op := Op.pick (Operand.tmp 99) (Operand.const (Value.bool true)) (Operand.tmp 113), type := 4, pos := "mid.go:51", after := #[{ on := 18, ground := Ground.data }, { on := 32, ground := Ground.data }, { on := 14, ground := Ground.guard }], guard := some (14, true) }) (v := ?v34) rfl (by kernel_rfl) (by kernel_rfl) (by kernel_rfl) (fun _ _ _ h => h) (Or.inl ⟨by rfl, ?hy34⟩) (by assumption) ?rest34
    case hy34 => (intro w9 hSw; (try dsimp only at hSw); go_simp; try with_reducible rfl)
    try simp only [Act.put, List.setIfInBounds_toArray, List.set_cons_zero, List.set_cons_succ]
    refine wpAnyH_take (i := 34) (oi := { dst := some 115, op := Op.pick (Operand.tmp 95) (Operand.tmp 114) (Operand.const (Value.bool false)), type := 4, pos := "mid.go:51", after := #[{ on := 14, ground := Ground.data }, { on := 33, ground := Ground.data }], guard := none }) (v := ?v35) rfl (by kernel_rfl) (by kernel_rfl) (by kernel_rfl) (fun _ _ _ h => h) (Or.inl ⟨by rfl, ?hy35⟩) (by assumption) ?rest35
    case hy35 => (intro w9 hSw; (try dsimp only at hSw); go_simp; try with_reducible rfl)
    try simp only [Act.put, List.setIfInBounds_toArray, List.set_cons_zero, List.set_cons_succ]
    refine wpAnyH_take (i := 35) (oi := { dst := some 8, op := Op.assign (Operand.tmp 115), type := 4, pos := "mid.go:51", after := #[{ on := 34, ground := Ground.data }, { on := 27, ground := Ground.chain }, { on := 0, ground := Ground.phase }, { on := 1, ground := Ground.phase }, { on := 2, ground := Ground.phase }, { on := 3, ground := Ground.phase }, { on := 4, ground := Ground.phase }, { on := 5, ground := Ground.phase }, { on := 6, ground := Ground.phase }, { on := 7, ground := Ground.phase }, { on := 8, ground := Ground.phase }, { on := 9, ground := Ground.phase }, { on := 10, ground := Ground.phase }, { on := 11, ground := Ground.phase }, { on := 12, ground := Ground.phase }, { on := 13, ground := Ground.phase }, { on := 14, ground := Ground.phase }, { on := 15, ground := Ground.phase }, { on := 16, ground := Ground.phase }, { on := 17, ground := Ground.phase }, { on := 18, ground := Ground.phase }, { on := 19, ground := Ground.phase }, { on := 20, ground := Ground.phase }, { on := 21, ground := Ground.phase }, { on := 22, ground := Ground.phase }, { on := 23, ground := Ground.phase }, { on := 24, ground := Ground.phase }, { on := 25, ground := Ground.phase }, { on := 26, ground := Ground.phase }, { on := 27, ground := Ground.phase }, { on := 28, ground := Ground.phase }, { on := 29, ground := Ground.phase }, { on := 30, ground := Ground.phase }, { on := 31, ground := Ground.phase }, { on := 32, ground := Ground.phase }, { on := 33, ground := Ground.phase }, { on := 34, ground := Ground.phase }], guard := none }) (v := ?v36) rfl (by kernel_rfl) (by kernel_rfl) (by kernel_rfl) (fun _ _ _ h => h) (Or.inl ⟨by rfl, ?hy36⟩) (by assumption) ?rest36
    case hy36 => (intro w9 hSw; (try dsimp only at hSw); go_simp; try with_reducible rfl)
    try simp only [Act.put, List.setIfInBounds_toArray, List.set_cons_zero, List.set_cons_succ]
    refine wpAnyH_done (by kernel_rfl) ?_ _
    refine NoPanic.normal ?_
    go_wp2_with fail
    have HBf := hid (below_step HB9.out (Nat.le_refl _) HC.out)
    go_ret
    exact ⟨rfl, HBf.out⟩
  · have hikd : ((i : Int) == (k : Int)) = false := beq_eq_false_iff_ne.2 (by omega)
    go_wp2_with fail
    go_region_held3 (fun u => u.cell? ⟨bx, 0, none⟩ = some (.slice (some ⟨b, off, none⟩) N cT) ∧ u.cell? ⟨b, off + i, none⟩ = some (.slice Ai n ci) ∧ u.cell? ⟨b, off + k, none⟩ = some (.slice Ak n ck)) (first | exact ⟨hcell9, hci9, hck9⟩ | exact hS9 _ | exact ⟨hcellA, hciA, hckA⟩ | exact ⟨hcellB, hciB, hckB⟩ | exact ⟨hcellC, hciC, hckC⟩) (first
      | (go_at_call 23; refine (hgd _).mono ?_; rintro e wA ⟨rfl, hbA⟩; have hcellA : wA.cell? ⟨bx, 0, none⟩ = some (.slice (some ⟨b, off, none⟩) N cT) := (hbA.cell (p := ⟨bx, 0, none⟩) hbx9).trans hcell9; have hciA : wA.cell? ⟨b, off + i, none⟩ = some (.slice Ai n ci) := (hbA.cell (p := ⟨b, off + i, none⟩) (block_lt_of_cell hci9)).trans hci9; have hckA : wA.cell? ⟨b, off + k, none⟩ = some (.slice Ak n ck) := (hbA.cell (p := ⟨b, off + k, none⟩) (block_lt_of_cell hck9)).trans hck9; have hbxA : bx < wA.heap.size := Nat.lt_of_lt_of_le hbx9 hbA.size; have HA := hid (Below.trans (below_drewN (Below.refl w9.heap.size w9) 1) hbA); clear hbA)
      | (go_at_call_of 26 (Value.slice A8 n c8); refine (hasRow bx (some ⟨b, off, none⟩) N cT T A8 n c8 pr wA hcellA hbxA (HRT9.out.keep HA.out) (by omega) HTB.out (HP9.out.keep HA.out) (by omega)).mono ?_; rintro e wB ⟨rfl, hbB⟩; rw [hpm]; have hcellB : wB.cell? ⟨bx, 0, none⟩ = some (.slice (some ⟨b, off, none⟩) N cT) := (hbB.cell (p := ⟨bx, 0, none⟩) hbxA).trans hcellA; have hciB : wB.cell? ⟨b, off + i, none⟩ = some (.slice Ai n ci) := (hbB.cell (p := ⟨b, off + i, none⟩) (block_lt_of_cell hciA)).trans hciA; have hckB : wB.cell? ⟨b, off + k, none⟩ = some (.slice Ak n ck) := (hbB.cell (p := ⟨b, off + k, none⟩) (block_lt_of_cell hckA)).trans hckA; have hbxB : bx < wB.heap.size := Nat.lt_of_lt_of_le hbxA hbB.size; have HB := hid (below_step HA.out (Nat.le_refl _) hbB); clear hbB)
      | (go_at_call_of 26 (Value.slice A9 n c9); refine (hasRow bx (some ⟨b, off, none⟩) N cT T A9 n c9 q wB hcellB hbxB (HRT9.out.keep HB.out) (by omega) HTB.out (HQ9.out.keep HB.out) (by omega)).mono ?_; rintro e wC ⟨rfl, hbC⟩; rw [hqm]; have hcellC : wC.cell? ⟨bx, 0, none⟩ = some (.slice (some ⟨b, off, none⟩) N cT) := (hbC.cell (p := ⟨bx, 0, none⟩) hbxB).trans hcellB; have hciC : wC.cell? ⟨b, off + i, none⟩ = some (.slice Ai n ci) := (hbC.cell (p := ⟨b, off + i, none⟩) (block_lt_of_cell hciB)).trans hciB; have hckC : wC.cell? ⟨b, off + k, none⟩ = some (.slice Ak n ck) := (hbC.cell (p := ⟨b, off + k, none⟩) (block_lt_of_cell hckB)).trans hckB; have HC := hid (below_step HB.out (Nat.le_refl _) hbC); clear hbC)
      | (go_at_call 29; refine (compareL_any Ai n ci Ak ck pi pk wC (HIi9.out.keep HC.out) (HIk9.out.keep HC.out) (by omega)).mono ?_; rintro e wD ⟨rfl, rfl⟩))
    have HBf := hid (below_step HB9.out (Nat.le_refl _) HC.out)
    go_wp2
    go_ret
    refine ⟨?_, HBf.out⟩
    show Ending.returned (.bool (decide (cmpL pi pk < 0) == decide (i < k))) = _
    rw [show decide (i < k) = decide ((i : Int) < (k : Int)) by rw [decide_eq_decide]; omega, HCMP.out hik]

end Go.Proofs.Ytbcjfiobggggjaa
