/-
  orbits.unmovedRows, Colours: by how many rows each order leaves as they are.
-/
import Derived.Test.YtbcjfiobggggjaaOrbG
import Derived.Test.YtbcjfiobggggjaaOrbM
namespace Go.Proofs.Ytbcjfiobggggjaa
open Go.RowKit

set_option maxRecDepth 100000 in
set_option maxHeartbeats 800000 in
theorem unmoved_ok (A : Option Addr) (n c : Nat) (p : List Int) (k : Nat) (w : World) (hI : Ints w A n p) (hp : IsPerm p) (hn : n ≤ 6) (hk : k ≤ 10) :
    Calls Try.prog 45 #[.slice A n c, .int .i64 (k : Int)] w fun e w' => e = .returned (.int .i64 ((k ^ cyc p : Nat) : Int)) ∧ Below w.heap.size w w' := by
  have HCL := hid (Nat.le_trans (cyc_le p) (by rw [hI.len]; exact hn))
  go_enter Try.func45, Try.ntmps45
  go_wp2_with fail
  refine (cycles_perm A n c p _ hI hp (by omega)).mono ?_
  rintro e w1 ⟨ys, l, A1, c1, rfl, hcy, hl10, hI1, hcap1, hb1⟩
  have hlc : l = cyc p := by rw [← hI1.len]; exact cyc_of hcy
  have HB1 := hid hb1
  clear hcy hI1 hb1 hI hp
  have hl6 : l ≤ 6 := by rw [hlc]; exact HCL.out
  have HLC := hid hlc
  clear hlc
  go_wp2_with fail
  go_loopg [7, 15] l (fun g v s wr => ∃ j : Nat, j ≤ l ∧ l - j ≤ g ∧ s = .int .i64 j ∧ v = .int .i64 ((k ^ j : Nat) : Int) ∧ w1 = wr)
  case atStart => exact ⟨0, Nat.zero_le _, by omega, rfl, by simp, rfl⟩
  case round =>
    obtain ⟨j, hj, hg, rfl, rfl, rfl⟩ := hrel
    by_cases hlt : j < l
    · have hP := pow_six hk (show j ≤ 6 by omega)
      have hQ := pow_six hk (show j + 1 ≤ 6 by omega)
      have hPQ : ((k ^ j : Nat) : Int) * (k : Int) = ((k ^ (j + 1) : Nat) : Int) := by rw [← Int.natCast_mul, ← Nat.pow_succ]
      have HQ := hid (show k ^ (j + 1) = k ^ (j + 1) from rfl)
      generalize k ^ j = P at *
      generalize hq : k ^ (j + 1) = Q at *
      have HQ2 := hid hq
      clear hq HQ
      go_wp2
      go_roundg (l - (j + 1))
      case measure => omega
      case rel => exact ⟨j + 1, by omega, by omega, by go_num, by rw [HQ2.out], rfl⟩
    · have hjl : j = l := by omega
      subst hjl
      have HE : Hid (k ^ j = k ^ cyc p) := by show k ^ j = k ^ cyc p; rw [HLC.out]
      generalize k ^ j = P at *
      go_wp2
      go_ret
      exact ⟨by rw [← HE.out]; rfl, HB1.out⟩

/-- What comes back of Colours. -/
def RetCol (w : World) (k : Nat) (L : List (List Int)) (x : Nat) (e : Ending) (w' : World) : Prop := ∃ T, GroupOf k L T ∧ e = .returned (.tuple #[.int .i64 ((colN T x : Nat) : Int), .int .i64 0]) ∧ Below w.heap.size w w'

theorem colours_bad (A : Option Addr) (m c : Nat) (L : List (List Int)) (n x : Int) (w : World) (h : RRows w A m L) (hm : m ≤ 9223372036854775807) (he : orbE n L ≠ 0) :
    Calls Try.prog 10 #[.int .i64 n, .slice A m c, .int .i64 x] w fun e w' => e = .returned (.tuple #[.int .i64 0, .int .i64 (orbE n L)]) ∧ Below w.heap.size w w' := by
  have e1 : (orbE n L != 0) = true := by simp [he]
  have hc := group_bad A m c L n w h hm he
  clear h he
  generalize orbE n L = z at *
  go_enter Try.func10, Try.ntmps10
  go_wp2_with fail
  refine hc.mono ?_
  rintro e w1 ⟨rfl, hb1⟩
  have HB1 := hid hb1
  clear hb1
  go_wp2
  go_ret2
  exact ⟨rfl, HB1.out⟩

theorem colours_arg (A : Option Addr) (m c : Nat) (L : List (List Int)) (k : Nat) (x : Int) (w : World) (h : RRows w A m L) (he : orbE (k : Int) L = 0) (hx : x < 0 ∨ 10 < x) :
    Calls Try.prog 10 #[.int .i64 (k : Int), .slice A m c, .int .i64 x] w fun e w' => e = .returned (.tuple #[.int .i64 0, .int .i64 1]) ∧ Below w.heap.size w w' := by
  have hc := group_ok A m c L k w h he
  clear h he
  go_enter Try.func10, Try.ntmps10
  go_wp2_with fail
  refine hc.mono ?_
  rintro e w1 ⟨v, T, rfl, _, hr, hb1⟩
  obtain ⟨A1, c1, rfl, _⟩ := hr.form
  have HB1 := hid hb1
  clear hb1 hr hc
  rcases hx with h0 | h0
  · have d0 : decide (x < 0) = true := by simp [h0]
    go_wp2
    go_ret2
    exact ⟨rfl, HB1.out⟩
  · have d0 : decide (x < 0) = false := by simp; omega
    have d1 : decide (10 < x) = true := by simp [h0]
    go_wp2
    go_ret2
    exact ⟨rfl, HB1.out⟩

set_option maxRecDepth 100000 in
set_option maxHeartbeats 800000 in
theorem colours_ok (A : Option Addr) (m c : Nat) (L : List (List Int)) (k x : Nat) (w : World) (h : RRows w A m L) (he : orbE (k : Int) L = 0) (hx : x ≤ 10) :
    Calls Try.prog 10 #[.int .i64 (k : Int), .slice A m c, .int .i64 (x : Int)] w (RetCol w k L x) := by
  have hc := group_ok A m c L k w h he
  obtain ⟨k', hk1, hk6, _, hgood⟩ := orbE_zero he
  have hkk : k = k' := by omega
  subst hkk
  have HOr := hid (show Orders k L from hgood)
  clear h he hk1 hgood
  have d0 : decide ((x : Int) < 0) = false := by simp
  have d1 : decide (10 < (x : Int)) = false := by simp; omega
  go_enter Try.func10, Try.ntmps10
  go_wp2_with fail
  refine hc.mono ?_
  rintro e w1 ⟨v, T, rfl, hG, hr, hb1⟩
  obtain ⟨A1, c1, rfl, hR1, _⟩ := hr.rrows
  have HG := hid hG
  have HR1 := hid hR1
  have HB1 := hid hb1
  have HTL := hid (Nat.le_trans (hG.length_le HOr.out) (Nat.le_trans (fact_mono hk6) (show fact 6 ≤ 720 by decide)))
  have hTL := HTL.out
  have hT0 := hG.pos
  have HT6 := hid (show ∀ j, j < T.length → (T.getD j []).length ≤ 6 from fun j hj => by rw [(hG.ok HOr.out (getD_mem_rows hj)).1]; exact hk6)
  clear hb1 hr hc hG hR1
  go_wp2_with fail
  go_loopg [10, 30] T.length (fun g v s wr => ∃ j : Nat, j ≤ T.length ∧ T.length - j ≤ g ∧ s = .int .i64 j ∧ v = .int .i64 ((colS (T.take j) x : Nat) : Int) ∧ Below w1.heap.size w1 wr)
  case atStart => exact ⟨0, Nat.zero_le _, by omega, rfl, rfl, Below.refl _ _⟩
  case round =>
    obtain ⟨j, hj, hg, rfl, rfl, hbel⟩ := hrel
    have HB := hid hbel
    clear hbel
    by_cases hlt : j < T.length
    · obtain ⟨b, off, Aj, nj, cj, eA, hcell, hI, hcap⟩ := (HR1.out.keep HB.out).at hlt
      subst eA
      have hOk := HG.out.ok HOr.out (getD_mem_rows hlt)
      have hnj : k = nj := by rw [← hI.len, hOk.1]
      subst hnj
      have HST := hid (colS_step hlt x)
      have hS := colS_le hx HT6.out j hj
      have hS2 : colS (T.take j) x ≤ 720000000 := by omega
      have hP := pow_six hx (Nat.le_trans (cyc_le (T.getD j [])) (HT6.out j hlt))
      have hu := unmoved_ok Aj k cj (T.getD j []) x wr hI hOk.2 hk6 hx
      clear hOk hI hcap hS
      generalize x ^ cyc (T.getD j []) = P at *
      generalize hs1 : colS (T.take j) x = S at *
      clear hs1
      go_wp2_with fail
      refine hu.mono ?_
      rintro e w2 ⟨rfl, hb2⟩
      have HB2 := hid (below_step HB.out (Nat.le_refl _) hb2)
      clear hb2 hu hcell
      go_wp2
      go_roundg (T.length - (j + 1))
      case measure => omega
      case rel => exact ⟨j + 1, by omega, by omega, by go_num, by rw [HST.out]; go_num, HB2.out⟩
    · have hjl : j = T.length := by omega
      subst hjl
      have HE : Hid (colS (T.take T.length) x = colS T x) := by show colS (T.take T.length) x = colS T x; rw [List.take_length]
      have hS := colS_le hx HT6.out T.length (Nat.le_refl _)
      have HN := hid (show colN T x = colS (T.take T.length) x / T.length by rw [HE.out]; rfl)
      have HBB := hid (below_step HB1.out (Nat.le_refl _) HB.out)
      generalize colS (T.take T.length) x = S at *
      have HD := hid (Nat.div_le_self S T.length)
      generalize hN : T.length = N at *
      have hS2 : S ≤ 720000000 := by omega
      go_wp2
      go_ret2
      refine ⟨T, HG.out, ?_, HBB.out⟩
      show Ending.returned (.tuple #[.int .i64 (wrap64 ((S : Int) / (N : Int))), .int .i64 0]) = _
      have hD := HD.out
      have h0 : (0 : Int) ≤ (S : Int) / (N : Int) := Int.ediv_nonneg (by omega) (by omega)
      rw [HN.out, ← Int.natCast_ediv, IntWalk.wrap64_in _ (by omega)]

end Go.Proofs.Ytbcjfiobggggjaa
