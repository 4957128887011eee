/-
  castkeep.RisesMacMahon, walked.
-/
import Derived.Test.YtcaenahhfhbiaaaRisE
import Derived.Test.YtcaenahhfhbiaaaRankC
namespace Go.Proofs.Ytcaenahhfhbiaaa
open Go.RowKit

/-- Where the loop stands: an order, not the last one gone through; or behind the last. -/
def MacAt (G k j : Nat) (v er : Value) (w : World) : Prop :=
  (j < fact k ∧ er = .int .i64 0 ∧ ∃ g c, v = .slice (some ⟨g, 0, none⟩) k c ∧ Ints w (some ⟨g, 0, none⟩) k (atL k j) ∧ Cap k c ∧ (0 < k → g ≠ G ∧ g ≠ G + 1)) ∨ (j = fact k ∧ er = .int .i64 4)
/-- The two tallies. -/
structure MacRows (G k j : Nat) (w : World) : Prop where
  one : w.rowIs G 42 32 (cell32 (tal majN k j))
  two : w.rowIs (G + 1) 42 32 (cell32 (tal inv k j))
theorem MacRows.keep {G k j : Nat} {w w' : World} (h : MacRows G k j w) (hb : Below w.heap.size w w') : MacRows G k j w' := ⟨row_keep h.one hb, row_keep h.two hb⟩

set_option maxHeartbeats 2000000 in
set_option maxRecDepth 100000 in
theorem risesMacMahon_any (K : Int) (w : World) :
    Calls Try.prog 8 #[.int .i64 K] w fun e w' => e = .returned (.bool true) ∧ Below w.heap.size w w' := by
  have HB0 := hid (Below.refl w.heap.size w)
  go_enter Try.func8, Try.ntmps8
  go_wp2_with fail
  refine (rsum_ok _ 3 3 [1, 2, 0] _ (ints_lit w _ _ 3 [1, 2, 0] rfl rfl) (by decide)).mono ?_
  rintro e w1 ⟨rfl, hb1⟩
  have HB1 := hid (below_step HB0.out (Nat.le_refl _) (below_step (below_alloc w _) (Nat.le_refl _) hb1))
  clear hb1 HB0
  rw [show majN [1, 2, 0] = 2 by decide]
  go_wp2_with fail
  refine (within_any K 7 _ (by omega) (by omega)).mono ?_
  rintro e w' ⟨rfl, rfl⟩
  obtain ⟨k, hk0⟩ : ∃ k : Nat, K % 7 = k := ⟨(K % 7).toNat, by omega⟩
  have hk : k < 7 := by omega
  rw [hk0]
  clear hk0
  go_wp2_with fail
  refine (at_ok k 0 _ (by omega) (fact_pos k)).mono ?_
  rintro e w2 ⟨g2, rfl, hI, hb⟩
  have HB2 := hid (below_step HB1.out (Nat.le_refl _) hb)
  have HI := hid hI
  clear hb hI HB1
  have HF := hid (fact_ten (n := k) (by omega))
  go_wp2_with fail
  go_loopg [5, 6, 9, 10, 11, 12] (fact k + 1) (fun g v er _ _ _ _ wr => ∃ j : Nat, j ≤ fact k ∧ fact k + 1 - j ≤ g ∧ MacAt w2.heap.size k j v er wr ∧ MacRows w2.heap.size k j wr ∧ w2.heap.size + 2 ≤ wr.heap.size ∧ Below w.heap.size w wr)
  case atStart =>
    have a1 := zero_32 w2 _ rfl
    have a2 := zero_32 (w2.alloc (.cells (List.replicate 32 (Value.int .i64 0)).toArray 42)) _ rfl
    rw [show (w2.alloc (.cells (List.replicate 32 (Value.int .i64 0)).toArray 42)).heap.size = w2.heap.size + 1 by simp] at a2
    refine ⟨0, Nat.zero_le _, by omega, Or.inl ⟨fact_pos k, rfl, g2, k, rfl, ?_, ⟨Nat.le_refl _, by omega⟩, fun h => ?_⟩, ⟨row_keep a1 (below_alloc _ _), a2⟩, by simp, ?_⟩
    · exact (HI.out.keep (below_alloc w2 _)).keep (below_alloc _ _)
    · obtain ⟨b, o, e, hb, _⟩ := HI.out.row h
      injection e with e
      injection e with e1 _
      omega
    · exact below_step (below_step HB2.out (Nat.le_refl _) (below_alloc w2 _)) (Nat.le_refl _) (below_alloc _ _)
  case round =>
    clear HI
    obtain ⟨j, hj, hg, hat, hrows, hsz, hbel⟩ := hrel
    have HR := hid hrows
    have HB := hid hbel
    have HSZ := hid hsz
    clear hrows hbel hsz
    rcases hat with ⟨hlt, rfl, g, c, rfl, hI, hcap, hne⟩ | ⟨hje, rfl⟩
    · have HI := hid hI
      have HC := hid hcap.1
      have HC2 := hid hcap.2
      have HNE := hid hne
      clear hI hcap hne
      have HL : Hid ((atL k j).length = k) := length_atL k j
      have HE : Hid (permErr (atL k j) = 0) := permErr_of (isPerm_atL k j) (by rw [HL.out]; omega)
      go_wp2_with fail
      refine (rsum_ok _ k c (atL k j) _ HI.out HE.out).mono ?_
      rintro e w3 ⟨rfl, hb⟩
      have HB3 := hid (below_step HB.out (Nat.le_refl _) hb)
      have HI3 := hid (HI.out.keep hb)
      have HR3 := hid (HR.out.keep hb)
      have HSZ3 := hid (Nat.le_trans HSZ.out hb.size)
      clear hb HB HI HR HSZ
      go_wp2_with fail
      refine (rcrossed_ok _ k c (atL k j) _ HI3.out HE.out HC.out HC2.out).mono ?_
      rintro e w4 ⟨rfl, hb⟩
      have HB4 := hid (below_step HB3.out (Nat.le_refl _) hb)
      have HI4 := hid (HI3.out.keep hb)
      have HR4 := hid (HR3.out.keep hb)
      have HSZ4 := hid (Nat.le_trans HSZ3.out hb.size)
      clear hb HB3 HI3 HR3 HSZ3
      go_wp2_with fail
      refine (good_bel _ _ _ 2 [0, 0] rfl rfl (by omega)).mono ?_
      rintro e w5 ⟨rfl, hb⟩
      have HB5 := hid (below_step HB4.out (Nat.le_refl _) hb)
      have HI5 := hid (HI4.out.keep hb)
      have HR5 := hid (HR4.out.keep hb)
      have HSZ5 := hid (Nat.le_trans HSZ4.out hb.size)
      clear hb HB4 HI4 HR4 HSZ4
      rw [show allOK [0, 0] = true by decide]
      have ha := majN_15 (p := atL k j) (by rw [HL.out]; omega)
      have hb := inv_15 (p := atL k j) (isPerm_atL k j).nodup (by rw [HL.out]; omega)
      have t1 := tal_bd majN k j (majN (atL k j))
      have t2 := tal_bd inv k j (inv (atL k j))
      have hF := HF.out
      have HM1 := hid (cell32_set majN (tal majN k j) (atL k j) (length_tal _ _ _) (by omega))
      have HM2 := hid (cell32_set inv (tal inv k j) (atL k j) (length_tal _ _ _) (by omega))
      have g1 : w5.cell? ⟨w2.heap.size, majN (atL k j), none⟩ = some (.int .i64 ((tal majN k j).getD (majN (atL k j)) 0)) := HR5.out.one.cell (by omega)
      have f1 : w5.frozen? ⟨w2.heap.size, majN (atL k j), none⟩ = false := HR5.out.one.frozen _
      have g2 : w5.cell? ⟨w2.heap.size + 1, inv (atL k j), none⟩ = some (.int .i64 ((tal inv k j).getD (inv (atL k j)) 0)) := HR5.out.two.cell (by omega)
      have f2 : w5.frozen? ⟨w2.heap.size + 1, inv (atL k j), none⟩ = false := HR5.out.two.frozen _
      have HS1 : Hid ((w5.setCell ⟨w2.heap.size, majN (atL k j), none⟩ (.int .i64 ((tal majN k j).getD (majN (atL k j)) 0 + 1))).rowIs w2.heap.size 42 32 (cell32 (tal majN k (j + 1)))) :=
        (HR5.out.one.set _ _).congr (fun v _ => HM1.out v)
      have HS2 : Hid ((w5.setCell ⟨w2.heap.size, majN (atL k j), none⟩ (.int .i64 ((tal majN k j).getD (majN (atL k j)) 0 + 1))).rowIs (w2.heap.size + 1) 42 32 (cell32 (tal inv k j))) :=
        row_off HR5.out.two (by omega) _
      have HI6 : Hid (Ints (w5.setCell ⟨w2.heap.size, majN (atL k j), none⟩ (.int .i64 ((tal majN k j).getD (majN (atL k j)) 0 + 1))) (some ⟨g, 0, none⟩) k (atL k j)) :=
        ints_off HI5.out (fun h => (HNE.out h).1) _ _
      have HT1 := hid (row_off (a := w2.heap.size + 1) (j := inv (atL k j)) HS1.out (by omega) (.int .i64 ((tal inv k j).getD (inv (atL k j)) 0 + 1)))
      have HT2 : Hid (((w5.setCell ⟨w2.heap.size, majN (atL k j), none⟩ (.int .i64 ((tal majN k j).getD (majN (atL k j)) 0 + 1))).setCell ⟨w2.heap.size + 1, inv (atL k j), none⟩ (.int .i64 ((tal inv k j).getD (inv (atL k j)) 0 + 1))).rowIs (w2.heap.size + 1) 42 32 (cell32 (tal inv k (j + 1)))) :=
        (HS2.out.set _ _).congr (fun v _ => HM2.out v)
      have HI7 := hid (ints_off (a := w2.heap.size + 1) HI6.out (fun h => (HNE.out h).2) (inv (atL k j)) (.int .i64 ((tal inv k j).getD (inv (atL k j)) 0 + 1)))
      have HW : Hid (w.heap.size ≤ w2.heap.size) := HB2.out.size
      have HB7 := hid ((HB5.out.setCell (p := ⟨w2.heap.size, majN (atL k j), none⟩) HW.out (.int .i64 ((tal majN k j).getD (majN (atL k j)) 0 + 1))).setCell (p := ⟨w2.heap.size + 1, inv (atL k j), none⟩) (Nat.le_succ_of_le HW.out) (.int .i64 ((tal inv k j).getD (inv (atL k j)) 0 + 1)))
      have HSZ7 : Hid (w2.heap.size + 2 ≤ ((w5.setCell ⟨w2.heap.size, majN (atL k j), none⟩ (.int .i64 ((tal majN k j).getD (majN (atL k j)) 0 + 1))).setCell ⟨w2.heap.size + 1, inv (atL k j), none⟩ (.int .i64 ((tal inv k j).getD (inv (atL k j)) 0 + 1))).heap.size) := by
        have h := HSZ5.out
        simpa [Hid, World.setCell] using h
      clear HM1 HM2 HS1 HS2 HI6 HI5 HR5 HB5 HSZ5
      have haI : ((majN (atL k j) : Nat) : Int) < 32 := by omega
      have hbI : ((inv (atL k j) : Nat) : Int) < 32 := by omega
      generalize (tal majN k j).getD (majN (atL k j)) 0 = x at *
      generalize (tal inv k j).getD (inv (atL k j)) 0 = y at *
      generalize majN (atL k j) = a at *
      generalize inv (atL k j) = b at *
      by_cases hla : j + 1 < fact k
      · go_wp2_with fail
        refine (next_own _ k c (atL k j) _ HI7.out HE.out (by rw [rk_atL hlt]; exact hla)).mono ?_
        rintro e w8 ⟨g8, c8, q, rfl, hg8, hI8, hcap, hb8, hpm, hrk⟩
        rw [HL.out] at hI8 hcap
        rw [HL.out]
        have hq : q = atL k (j + 1) := rk_inj (hpm.trans (((isPerm_atL k j).perm (isPerm_atL k (j + 1)) (by rw [length_atL, length_atL])))) (by rw [hrk, rk_atL hlt, rk_atL hla])
        subst hq
        have HB8 := hid (below_step HB7.out (Nat.le_refl _) hb8)
        have HT8 := hid (row_keep HT1.out hb8)
        have HU8 := hid (row_keep HT2.out hb8)
        have HSZ8 := hid (Nat.le_trans HSZ7.out hb8.size)
        have HI8 := hid hI8
        have HCAP := hid hcap
        have HG8 : Hid (w2.heap.size + 2 ≤ g8) := Nat.le_trans HSZ7.out hg8
        clear hI8 hcap hb8 hpm hrk hg8
        go_wp2
        go_roundg (fact k + 1 - (j + 1))
        case measure => omega
        case rel => exact ⟨j + 1, by omega, by omega, Or.inl ⟨hla, rfl, g8, c8, rfl, HI8.out, HCAP.out, fun _ => by have := HG8.out; omega⟩, ⟨HT8.out, HU8.out⟩, HSZ8.out, HB8.out⟩
      · have hlb : j + 1 = fact k := by omega
        go_wp2_with fail
        refine (next_last _ k c (atL k j) _ HI7.out HE.out (by rw [rk_atL hlt]; exact hlb)).mono ?_
        rintro e w8 ⟨rfl, hb8⟩
        have HB8 := hid (below_step HB7.out (Nat.le_refl _) hb8)
        have HT8 := hid (row_keep HT1.out hb8)
        have HU8 := hid (row_keep HT2.out hb8)
        have HSZ8 := hid (Nat.le_trans HSZ7.out hb8.size)
        clear hb8
        go_wp2
        go_roundg (fact k + 1 - (j + 1))
        case measure => omega
        case rel => exact ⟨j + 1, by omega, by omega, Or.inr ⟨hlb, rfl⟩, ⟨HT8.out, HU8.out⟩, HSZ8.out, HB8.out⟩
    · subst hje
      have hm := mac_all hk
      have HR1 := HR.out.one
      have HR2 := HR.out.two
      rw [hm.1] at HR1
      have hlt := length_tal inv k (fact k)
      have HG1 := hid (row_32 hlt HR1)
      have HG2 := hid (row_32 hlt HR2)
      have g1 : wr.cell? ⟨w2.heap.size, 0, none⟩ = some (.int .i64 1) := by
        rw [HR1.cell (by omega)]
        unfold cell32
        rw [hm.2]
      have HQ := hid (run_same32 (tal inv k (fact k)) hlt)
      have hqt : Try.prog.eqGuardType Try.prog.depth 42 = false := by kernel_rfl
      have hi : (Try.prog.info? 42).map (·.size) = some (cells32 (tal inv k (fact k))).size := by rw [size_cells32, hlt]; kernel_rfl
      clear hm HR1 HR2 hlt
      have hrun := fun W => HQ.out W
      generalize cells32 (tal inv k (fact k)) = cs at *
      go_wp2_with (first
        | refine wpList_load_guarded rfl 42 _ rfl w2.heap.size rfl 42 cs (0, 0) _ HG1.out Try.underlying42 rfl hi ?_
        | refine wpList_load_guarded rfl 42 _ rfl (w2.heap.size + 1) rfl 42 cs (0, 0) _ HG2.out Try.underlying42 rfl hi ?_)
      go_ret
      exact ⟨rfl, HB.out⟩

end Go.Proofs.Ytcaenahhfhbiaaa
