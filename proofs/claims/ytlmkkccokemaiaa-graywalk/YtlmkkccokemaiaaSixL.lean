/-
  slices.Clone, slices.Compact (where no two neighbours are alike), slices.Max at []uint16.
-/
import Derived.Test.YtlmkkccokemaiaaSixK
import Derived.Lib.SliceRun
namespace Go.Proofs.Ytlmkkccokemaiaa
open Go.RowKit

theorem infoWord : (Try.prog.info? 22).map (fun i => (i.zero, i.size, i.bytes)) = some (some (.int .u16 0), 1, 2) := by kernel_rfl

/-- A new row with the same numbers. -/
def RetCopy (w : World) (xs : List Nat) (e : Ending) (w' : World) : Prop := ∃ g cap, w.heap.size ≤ g ∧ e = .returned (.slice (some ⟨g, 0, none⟩) xs.length cap) ∧ U16 w' g cap xs ∧ Below w.heap.size w w'

theorem cells16 {w : World} {g cap : Nat} {xs : List Nat} (h : U16 w g cap xs) : ∀ j u, (xs.map enc16)[j]? = some u → w.cell? ((⟨g, 0, none⟩ : Addr).add j) = some u :=
  World.ownsRow.cells h rfl

set_option maxHeartbeats 800000 in
theorem clone16 (g n cap : Nat) (xs : List Nat) (w : World) (h : U16 w g cap xs) (hl : xs.length = n) (h0 : 0 < n) (hn : n ≤ 60000) :
    Calls Try.prog 10 #[.slice (some ⟨g, 0, none⟩) n cap] w (RetCopy w xs) := by
  have heq := fun W => Lib.run_eql_slice_nil (P := Try.prog) W 26 22 (some ⟨g, 0, none⟩) n cap 0 0 Try.underlying26
  simp only [Option.isNone_some] at heq
  obtain ⟨i0, hi, hz0, hz1, hz2⟩ := info_parts infoWord
  have HU := hid h
  have HL := hid hl
  have HI := hid hi
  clear hi h hl
  go_enter Try.func10, Try.ntmps10
  go_wp2_with (at_builtin; refine wpList_append_own _ rfl (.tmp 5) (.tmp 6) 26 rfl w.heap.size 22 i0 (.int .u16 0) 1 2 Try.underlying26 HI.out hz0 hz1 hz2 rfl (by decide) _ 0 [] rfl (World.ownsRow_made w #[] 0 (Nat.le_refl _) (Nat.zero_le _) rfl) ⟨g, 0, none⟩ n cap (xs.map enc16) rfl (by rw [List.length_map, HL.out, Nat.mul_one]) (cells16 (HU.out.alloc _)) (by intro u hu; obtain ⟨y, _, rfl⟩ := List.mem_map.1 hu; rfl) (by unfold maxLen; omega) (by omega) (by simp) ?_)
  intro v' w1 hown hgr _
  have HO := hid hown
  have HB : Hid (Below w.heap.size w w1) := ⟨hgr.os, hgr.tape, hgr.output, Nat.le_trans (by simp) hgr.size, fun k hk => (hgr.block k (by simp; omega) (fun e => by simp [Value.ownBlock] at e; omega)).trans (Below.heap_alloc w _ k hk)⟩
  clear hown hgr heq
  go_wp2
  go_ret
  have hO := HO.out
  rcases hO.2 with ⟨_, hz⟩ | ⟨g', cap', cur, hv, hb, r⟩
  · omega
  · subst hv
    refine ⟨g', cap', hb, by rw [HL.out]; rfl, ?_, HB.out⟩
    unfold U16
    rw [HL.out]
    exact ⟨hO.1, .inr ⟨g', cap', cur, rfl, Nat.zero_le _, r⟩⟩

/-- The same slice; nothing has turned. -/
def RetSame (w : World) (g n cap : Nat) (e : Ending) (w' : World) : Prop := e = .returned (.slice (some ⟨g, 0, none⟩) n cap) ∧ Below w.heap.size w w'

set_option maxHeartbeats 1600000 in
theorem compact16 (g n cap : Nat) (xs : List Nat) (w : World) (h : U16 w g cap xs) (hl : xs.length = n) (hd : ∀ j, j + 1 < n → xs.getD (j + 1) 0 ≠ xs.getD j 0) (hn : n ≤ 60000) :
    Calls Try.prog 12 #[.slice (some ⟨g, 0, none⟩) n cap] w (RetSame w g n cap) := by
  have HU := hid h
  have HL := hid hl
  have HD := hid hd
  clear h hl hd
  by_cases h2 : n < 2
  · go_enter Try.func12, Try.ntmps12
    go_wp2
    go_ret
    exact ⟨rfl, Below.refl _ _⟩
  · go_enter Try.func12, Try.ntmps12
    go_wp2
    go_loopg [3] n (fun gh s wr => ∃ k q : Nat, 1 ≤ k ∧ k ≤ n ∧ n - k ≤ gh ∧ s = .int .i64 (k : Int) ∧ wr = w.drewN q)
    case atStart => exact ⟨1, 0, by omega, by omega, by omega, rfl, rfl⟩
    case round =>
      obtain ⟨k, q, hk1, hk, hg, rfl, hwr⟩ := hrel
      have HQ := hid hwr
      clear hwr
      by_cases hlt : k < n
      · obtain ⟨m, hm⟩ : ∃ m, k = m + 1 := ⟨k - 1, by omega⟩
        have hw : IntKind.i64.wrap ((k : Int) - 1) = (m : Int) := by rw [IntWalk.i64_in _ (by omega)]; omega
        have hne := HD.out m (by omega)
        rw [← hm] at hne
        have hU : U16 wr g cap xs := by rw [HQ.out]; exact HU.out.drewN q
        have hl := HL.out
        have g1 := hU.cell (j := k) (by omega)
        have g2 := hU.cell (j := m) (by omega)
        have hmn : m < n := by omega
        clear hU hl hm
        generalize xs.getD k 0 = x1 at g1 hne
        generalize xs.getD m 0 = x2 at g2 hne
        have hneI : ((x1 : Int) == (x2 : Int)) = false := by simp; omega
        go_wp2_with fail
        go_region
        go_wp2
        go_roundg (n - (k + 1))
        case measure => omega
        case rel => exact ⟨k + 1, q + 1, by omega, by omega, by omega, by go_num, by rw [HQ.out]; rfl⟩
      · go_wp2
        go_ret
        refine ⟨rfl, ?_⟩
        rw [HQ.out]
        exact below_drewN (Below.refl _ _) q

set_option maxHeartbeats 800000 in
theorem max16 (g n cap M : Nat) (xs : List Nat) (w : World) (h : U16 w g cap xs) (hl : xs.length = n) (h0 : 0 < n) (hM : M ∈ xs) (hup : ∀ x ∈ xs, x ≤ M) (hn : n ≤ 60000) :
    Calls Try.prog 13 #[.slice (some ⟨g, 0, none⟩) n cap] w fun e w' => e = .returned (.int .u16 (M : Int)) ∧ w = w' := by
  have HU := hid h
  have HL := hid hl
  have HX := hid (And.intro hM hup)
  have g0 := h.cell (j := 0) (by omega)
  clear h hl hM hup
  generalize hy0 : xs.getD 0 0 = y0 at g0
  have HY := hid hy0
  clear hy0
  go_enter Try.func13, Try.ntmps13
  go_wp2
  go_loopg [3, 4] n (fun gh s t wr => ∃ k m : Nat, 1 ≤ k ∧ k ≤ n ∧ n - k ≤ gh ∧ m ∈ xs ∧ (∀ j, j < k → xs.getD j 0 ≤ m) ∧ s = .int .u16 (m : Int) ∧ t = .int .i64 (k : Int) ∧ w = wr)
  case atStart =>
    refine ⟨1, y0, by omega, by omega, by omega, ?_, fun j hj => ?_, rfl, rfl, rfl⟩
    · rw [← HY.out, List.getD_eq_getElem?_getD, List.getElem?_eq_getElem (by rw [HL.out]; omega)]
      exact List.getElem_mem _
    · have : j = 0 := by omega
      subst this
      rw [HY.out]
      exact Nat.le_refl _
  case round =>
    clear g0
    obtain ⟨k, m, hk1, hk, hg, hmem, hall, rfl, rfl, rfl⟩ := hrel
    have HA := hid (And.intro hmem hall)
    clear hmem hall
    by_cases hlt : k < n
    · have hl := HL.out
      have g1 := HU.out.cell (j := k) (by omega)
      clear hl
      generalize hx1 : xs.getD k 0 = x1 at g1
      have H1 := hid hx1
      clear hx1
      by_cases hgt : m < x1
      · go_wp2
        go_roundg (n - (k + 1))
        case measure => omega
        case rel =>
          refine ⟨k + 1, x1, by omega, by omega, by omega, ?_, fun j hj => ?_, congrArg (Value.int .u16) (by omega), by go_num, rfl⟩
          · rw [← H1.out, List.getD_eq_getElem?_getD, List.getElem?_eq_getElem (by rw [HL.out]; omega)]
            exact List.getElem_mem _
          · by_cases hjk : j = k
            · subst hjk
              rw [H1.out]
              exact Nat.le_refl _
            · have := HA.out.2 j (by omega)
              omega
      · go_wp2
        go_roundg (n - (k + 1))
        case measure => omega
        case rel =>
          refine ⟨k + 1, m, by omega, by omega, by omega, HA.out.1, fun j hj => ?_, congrArg (Value.int .u16) (by omega), by go_num, rfl⟩
          by_cases hjk : j = k
          · subst hjk
            rw [H1.out]
            omega
          · exact HA.out.2 j (by omega)
    · have hkn : k = n := by omega
      subst hkn
      have HE : Hid (m = M) := by
        show m = M
        obtain ⟨i, hi, hiM⟩ := List.getElem_of_mem HX.out.1
        have h1 := HA.out.2 i (by rw [← HL.out]; exact hi)
        rw [List.getD_eq_getElem?_getD, List.getElem?_eq_getElem hi, Option.getD_some, hiM] at h1
        have h2 := HX.out.2 m HA.out.1
        omega
      go_wp2
      go_ret
      rw [← HE.out]
      exact ⟨rfl, rfl⟩

end Go.Proofs.Ytlmkkccokemaiaa
