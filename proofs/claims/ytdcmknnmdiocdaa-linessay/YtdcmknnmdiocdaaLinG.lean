/-
  castref.LongestBy, handed what rises and what doesn't.
-/
import Derived.Test.YtdcmknnmdiocdaaLinL
namespace Go.Proofs.Ytdcmknnmdiocdaa
open Go.RowKit

theorem sayUpQ (x y : Int) (q : Bool) (hq : decide (x < y) = q) (w : World) :
    Calls Try.prog 12 #[.int .i64 x, .int .i64 y] w fun e w' => e = .returned (.bool q) ∧ w' = w :=
  (sayUp x y q hq w).mono fun _ _ ⟨he, hw⟩ => ⟨he, hw.symm⟩
theorem sayDownQ (x y : Int) (q : Bool) (hq : decide (y ≤ x) = q) (w : World) :
    Calls Try.prog 13 #[.int .i64 x, .int .i64 y] w fun e w' => e = .returned (.bool q) ∧ w' = w :=
  (sayDown x y q hq w).mono fun _ _ ⟨he, hw⟩ => ⟨he, hw.symm⟩
/-- The outer loop. -/
structure FO (f : Nat → Nat → Bool) (w wr : World) (g n k m : Nat) (fs : List Int) : Prop where
  arr : Arr wr g fs
  bg : w.heap.size ≤ g
  bel : Below w.heap.size w wr
  len : fs.length = n
  far : ∀ j, k ≤ j → j < n → ∃ a : Nat, fs.getD j 0 = (a : Int) ∧ Far f n j a
  zero : ∀ j, j < k → fs.getD j 0 = 0
  most : ∃ t, Most f n k t m
  mn : m ≤ n
/-- The inner loop. -/
structure FI (f : Nat → Nat → Bool) (w wr : World) (g n i j m sm : Nat) (fs : List Int) : Prop where
  arr : Arr wr g fs
  bg : w.heap.size ≤ g
  bel : Below w.heap.size w wr
  len : fs.length = n
  far : ∀ j, i < j → j < n → ∃ a : Nat, fs.getD j 0 = (a : Int) ∧ Far f n j a
  zero : ∀ j, j < i → fs.getD j 0 = 0
  at1 : fs.getD i 0 = (m : Int)
  best : ∃ t, Best f n i j t m
  most : ∃ t, Most f n (i + 1) t sm
  mn : m ≤ n
  sn : sm ≤ n
theorem FO.start (f : Nat → Nat → Bool) (w : World) (n : Nat) : FO f w (w.alloc (.cells (madeCells #[.int .i64 0] n) 3)) w.heap.size n n 0 (List.replicate n 0) :=
  ⟨Arr.made w n, Nat.le_refl _, below_alloc _ _, by simp, fun j h1 h2 => absurd h2 (by omega), fun j hj => by simp [List.getD_eq_getElem?_getD, hj], ⟨n, most_nil f n⟩, Nat.zero_le _⟩
theorem FO.into {f : Nat → Nat → Bool} {w wr : World} {g n i m : Nat} {fs : List Int} (h : FO f w wr g n (i + 1) m fs) : FI f w wr g n i (i + 1) 0 m fs :=
  ⟨h.arr, h.bg, h.bel, h.len, fun j h1 h2 => h.far j h1 h2, fun j hj => h.zero j (by omega), h.zero i (by omega), ⟨n, best_nil f n i⟩, h.most, Nat.zero_le _, h.mn⟩
theorem FI.drewN {f : Nat → Nat → Bool} {w wr : World} {g n i j m sm : Nat} {fs : List Int} (h : FI f w wr g n i j m sm fs) (q : Nat) : FI f w (wr.drewN q) g n i j m sm fs :=
  ⟨h.arr, h.bg, below_drewN h.bel q, h.len, h.far, h.zero, h.at1, h.best, h.most, h.mn, h.sn⟩
theorem FI.no {f : Nat → Nat → Bool} {w wr : World} {g n i j m sm : Nat} {fs : List Int} (h : FI f w wr g n i j m sm fs) (hf : f i j = false) : FI f w wr g n i (j + 1) m sm fs :=
  ⟨h.arr, h.bg, h.bel, h.len, h.far, h.zero, h.at1, h.best.imp fun _ hb => best_no hb hf, h.most, h.mn, h.sn⟩
theorem setN {fs : List Int} {i j : Nat} (x : Int) (h : j ≠ i) : (fs.set i x).getD j 0 = fs.getD j 0 := getD_set_other h x
theorem FI.store {f : Nat → Nat → Bool} {w wr : World} {g n i j m m' sm : Nat} {fs : List Int} (h : FI f w wr g n i j m sm fs) (hi : i < n) (hb : ∃ t, Best f n i (j + 1) t m') (hm : m' ≤ n) : FI f w (wr.setCell ⟨g, i, none⟩ (.int .i64 (m' : Int))) g n i (j + 1) m' sm (fs.set i (m' : Int)) :=
  ⟨h.arr.set i _, h.bg, below_one h.bel h.bg h.bel.size (one_set (one_refl _ _) _ _), by rw [List.length_set]; exact h.len, fun j h1 h2 => by rw [setN _ (by omega)]; exact h.far j h1 h2, fun j hj => by rw [setN _ (by omega)]; exact h.zero j hj, getD_set_same (by rw [h.len]; exact hi) _, hb, h.most, hm, h.sn⟩
theorem FI.far' {f : Nat → Nat → Bool} {w wr : World} {g n i m sm : Nat} {fs : List Int} (h : FI f w wr g n i n m sm fs) (hi : i < n) : Far f n i (m + 1) := by
  obtain ⟨t, hb⟩ := h.best
  exact far_of_best hi hb
theorem FI.done {f : Nat → Nat → Bool} {w wr : World} {g n i m sm m' : Nat} {fs : List Int} (h : FI f w wr g n i n m sm fs) (hi : i < n) (hm : (m' = sm ∧ m + 1 ≤ sm) ∨ (m' = m + 1 ∧ sm ≤ m + 1)) : FO f w (wr.setCell ⟨g, i, none⟩ (.int .i64 ((m + 1 : Nat) : Int))) g n i m' (fs.set i ((m + 1 : Nat) : Int)) := by
  have hf := h.far' hi
  refine ⟨h.arr.set i _, h.bg, below_one h.bel h.bg h.bel.size (one_set (one_refl _ _) _ _), by rw [List.length_set]; exact h.len, fun j h1 h2 => ?_, fun j hj => by rw [setN _ (by omega)]; exact h.zero j hj, ?_, ?_⟩
  · by_cases e : j = i
    · subst e
      exact ⟨m + 1, getD_set_same (by rw [h.len]; exact hi) _, hf⟩
    · rw [setN _ e]
      exact h.far j (by omega) h2
  · obtain ⟨t, ht⟩ := h.most
    rcases hm with ⟨rfl, h1⟩ | ⟨rfl, h1⟩
    · exact ⟨t, most_old ht hf h1⟩
    · exact ⟨i, most_new ht hf h1⟩
  · have := hf.le
    have := h.sn
    omega

set_option maxHeartbeats 3000000 in
theorem longestBy_up (A : Option Addr) (n c : Nat) (xs : List Int) (w : World) (h : Ints w A n xs) (hn : n ≤ 30) :
    Calls Try.prog 26 #[.slice A n c, .func (.func 12) #[] #[]] w fun e w' => ∃ m : Nat, e = .returned (.int .i64 (m : Int)) ∧ Below w.heap.size w w' ∧ Longest (upF xs) n m := by
  have hmk : ∀ W : World, (Instr.makeSlice 22 (.int .i64 (n : Int)) (.int .i64 (n : Int))).run Try.prog W = .ok (.slice (some ⟨W.heap.size, 0, none⟩) n n) (W.alloc (.cells (madeCells #[.int .i64 0] n) 3)) :=
    fun W => run_make_row' (P := Try.prog) 22 3 (.int .i64 0) 8 Try.underlying22 infoInt rfl .i64 .i64 n (by omega) (by omega) W
  have HI := hid h
  have HS := hid (FO.start (upF xs) w n)
  obtain ⟨g, hg⟩ : ∃ g, g = w.heap.size := ⟨_, rfl⟩
  clear h
  go_enter Try.func26, Try.ntmps26
  go_wp2_with fail
  clear hmk
  rw [← hg] at HS ⊢
  have HG := hid hg
  clear hg
  generalize List.replicate n (0 : Int) = fs0 at HS
  go_loopg [5, 7] n (fun q sv iv wr => ∃ (k m : Nat) (z : Int) (fs : List Int), k ≤ n ∧ k ≤ q ∧ sv = .int .i64 (m : Int) ∧ iv = .int .i64 z ∧ z = (k : Int) - 1 ∧ FO (upF xs) w wr g n k m fs)
  case atStart => exact ⟨n, 0, (n : Int) - 1, _, Nat.le_refl _, Nat.le_refl _, rfl, by go_num, rfl, HS.out⟩
  case round =>
    clear HS
    obtain ⟨k, m, z, fs, hk, hq, rfl, rfl, hz, hfo⟩ := hrel
    have HO := hid hfo
    have hmn := hfo.mn
    clear hfo
    by_cases hk0 : 0 < k
    · obtain ⟨i, rfl⟩ : ∃ i, k = i + 1 := ⟨k - 1, by omega⟩
      obtain rfl : z = (i : Int) := by omega
      have hin : i < n := by omega
      have hiI : (i : Int) < (n : Int) := by omega
      have HI1 := hid HO.out.into
      clear hz HO
      go_wp2_with fail
      obtain ⟨w8, hw8⟩ : ∃ w8, w8 = wr := ⟨_, rfl⟩
      rw [← hw8] at HI1 ⊢
      clear hw8
      go_loopg [8] n (fun q jv wq => ∃ (j m' : Nat) (fs' : List Int), j ≤ n ∧ i < j ∧ n - j ≤ q ∧ jv = .int .i64 (j : Int) ∧ FI (upF xs) w wq g n i j m' m fs')
      case atStart => exact ⟨i + 1, 0, _, by omega, by omega, by omega, by go_num, HI1.out⟩
      case round =>
        clear HI1
        obtain ⟨j, m1, fs1, hjn, hij, hq2, rfl, hli⟩ := hrel
        have HL := hid hli
        have hm1 := hli.mn
        have g1 := hli.arr.cell (j := i) (by rw [hli.len]; exact hin)
        rw [hli.at1] at g1
        have f1 := hli.arr.frozen i
        clear hli
        by_cases hlt : j < n
        · obtain ⟨a, ha, hfa⟩ := HL.out.far j hij hlt
          have g2 := HL.out.arr.cell (j := j) (by rw [HL.out.len]; exact hlt)
          rw [ha] at g2
          have HFA := hid hfa
          have han := hfa.le
          obtain ⟨b, o, hA, hb, hc⟩ := (HI.out.keep HL.out.bel).row (by omega)
          subst hA
          have g3 := hc i hin
          have g4 := hc j hlt
          have hjI : (j : Int) < (n : Int) := by omega
          clear ha hfa hc
          rcases hf : upF xs i j with _ | _
          · have HF := hid hf
            have hv : decide (xs.getD i 0 < xs.getD j 0) = false := hf
            have HV := hid hv
            clear hf hv
            generalize xs.getD i 0 = x at *
            generalize xs.getD j 0 = y at *
            go_wp2_with fail
            go_quiet ((go_at_call 12; exact Calls.quiet_of_same (sayUpQ x y false HV.out _)))
            go_wp2
            go_roundg (n - (j + 1))
            case measure => omega
            case rel => exact ⟨j + 1, m1, _, by omega, by omega, by omega, by go_num, (HL.out.drewN _).no HF.out⟩
          · have HF := hid hf
            have hv : decide (xs.getD i 0 < xs.getD j 0) = true := hf
            have HV := hid hv
            clear hf hv
            generalize xs.getD i 0 = x at *
            generalize xs.getD j 0 = y at *
            by_cases hma : m1 < a
            · have HN := hid (fun q => (HL.out.drewN q).store hin (HL.out.best.elim fun t hb => ⟨j, best_new hb hij HF.out HFA.out (by omega)⟩) (by omega))
              go_wp2_with fail
              go_quiet ((go_at_call 12; exact Calls.quiet_of_same (sayUpQ x y true HV.out _)))
              go_wp2_with fail
              go_region
              go_wp2
              go_roundg (n - (j + 1))
              case measure => omega
              case rel => exact ⟨j + 1, a, _, by omega, by omega, by omega, by go_num, HN.out _⟩
            · have HN := hid (fun q => (HL.out.drewN q).store hin (m' := m1) (HL.out.best.elim fun t hb => ⟨t, best_old hb HFA.out (by omega)⟩) hm1)
              go_wp2_with fail
              go_quiet ((go_at_call 12; exact Calls.quiet_of_same (sayUpQ x y true HV.out _)))
              go_wp2_with fail
              go_region
              go_wp2
              go_roundg (n - (j + 1))
              case measure => omega
              case rel => exact ⟨j + 1, m1, _, by omega, by omega, by omega, by go_num, HN.out _⟩
        · obtain rfl : j = n := by omega
          have h5 := (HL.out.arr.set i ((m1 : Int) + 1)).cell (j := i) (by rw [List.length_set, HL.out.len]; exact hin)
          rw [getD_set_same (by rw [HL.out.len]; exact hin)] at h5
          have hm1n : m1 + 1 ≤ j := by have := (HL.out.far' hin).le; omega
          by_cases hle : m1 + 1 ≤ m
          · have hmx : ¬ (m : Int) < (m1 : Int) + 1 := by omega
            have HD := hid (HL.out.done hin (.inl ⟨rfl, hle⟩))
            go_wp2
            go_roundg i
            case measure => omega
            case rel => exact ⟨i, m, (i : Int) - 1, _, by omega, by omega, rfl, by go_num, rfl, HD.out⟩
          · have hmx : (m : Int) < (m1 : Int) + 1 := by omega
            have HD := hid (HL.out.done hin (.inr ⟨rfl, by omega⟩))
            go_wp2
            go_roundg i
            case measure => omega
            case rel => exact ⟨i, m1 + 1, (i : Int) - 1, _, by omega, by omega, rfl, by go_num, rfl, HD.out⟩
    · obtain rfl : k = 0 := by omega
      obtain rfl : z = -1 := by omega
      have HLM : Hid (Longest (upF xs) n m) := by
        obtain ⟨t, ht⟩ := HO.out.most
        exact longest_of_most ht
      have HB := hid HO.out.bel
      clear hz hq HO
      go_wp2
      go_ret
      exact ⟨m, rfl, HB.out, HLM.out⟩

set_option maxHeartbeats 3000000 in
theorem longestBy_down (A : Option Addr) (n c : Nat) (xs : List Int) (w : World) (h : Ints w A n xs) (hn : n ≤ 30) :
    Calls Try.prog 26 #[.slice A n c, .func (.func 13) #[] #[]] w fun e w' => ∃ m : Nat, e = .returned (.int .i64 (m : Int)) ∧ Below w.heap.size w w' ∧ Longest (downF xs) n m := by
  have hmk : ∀ W : World, (Instr.makeSlice 22 (.int .i64 (n : Int)) (.int .i64 (n : Int))).run Try.prog W = .ok (.slice (some ⟨W.heap.size, 0, none⟩) n n) (W.alloc (.cells (madeCells #[.int .i64 0] n) 3)) :=
    fun W => run_make_row' (P := Try.prog) 22 3 (.int .i64 0) 8 Try.underlying22 infoInt rfl .i64 .i64 n (by omega) (by omega) W
  have HI := hid h
  have HS := hid (FO.start (downF xs) w n)
  obtain ⟨g, hg⟩ : ∃ g, g = w.heap.size := ⟨_, rfl⟩
  clear h
  go_enter Try.func26, Try.ntmps26
  go_wp2_with fail
  clear hmk
  rw [← hg] at HS ⊢
  have HG := hid hg
  clear hg
  generalize List.replicate n (0 : Int) = fs0 at HS
  go_loopg [5, 7] n (fun q sv iv wr => ∃ (k m : Nat) (z : Int) (fs : List Int), k ≤ n ∧ k ≤ q ∧ sv = .int .i64 (m : Int) ∧ iv = .int .i64 z ∧ z = (k : Int) - 1 ∧ FO (downF xs) w wr g n k m fs)
  case atStart => exact ⟨n, 0, (n : Int) - 1, _, Nat.le_refl _, Nat.le_refl _, rfl, by go_num, rfl, HS.out⟩
  case round =>
    clear HS
    obtain ⟨k, m, z, fs, hk, hq, rfl, rfl, hz, hfo⟩ := hrel
    have HO := hid hfo
    have hmn := hfo.mn
    clear hfo
    by_cases hk0 : 0 < k
    · obtain ⟨i, rfl⟩ : ∃ i, k = i + 1 := ⟨k - 1, by omega⟩
      obtain rfl : z = (i : Int) := by omega
      have hin : i < n := by omega
      have hiI : (i : Int) < (n : Int) := by omega
      have HI1 := hid HO.out.into
      clear hz HO
      go_wp2_with fail
      obtain ⟨w8, hw8⟩ : ∃ w8, w8 = wr := ⟨_, rfl⟩
      rw [← hw8] at HI1 ⊢
      clear hw8
      go_loopg [8] n (fun q jv wq => ∃ (j m' : Nat) (fs' : List Int), j ≤ n ∧ i < j ∧ n - j ≤ q ∧ jv = .int .i64 (j : Int) ∧ FI (downF xs) w wq g n i j m' m fs')
      case atStart => exact ⟨i + 1, 0, _, by omega, by omega, by omega, by go_num, HI1.out⟩
      case round =>
        clear HI1
        obtain ⟨j, m1, fs1, hjn, hij, hq2, rfl, hli⟩ := hrel
        have HL := hid hli
        have hm1 := hli.mn
        have g1 := hli.arr.cell (j := i) (by rw [hli.len]; exact hin)
        rw [hli.at1] at g1
        have f1 := hli.arr.frozen i
        clear hli
        by_cases hlt : j < n
        · obtain ⟨a, ha, hfa⟩ := HL.out.far j hij hlt
          have g2 := HL.out.arr.cell (j := j) (by rw [HL.out.len]; exact hlt)
          rw [ha] at g2
          have HFA := hid hfa
          have han := hfa.le
          obtain ⟨b, o, hA, hb, hc⟩ := (HI.out.keep HL.out.bel).row (by omega)
          subst hA
          have g3 := hc i hin
          have g4 := hc j hlt
          have hjI : (j : Int) < (n : Int) := by omega
          clear ha hfa hc
          rcases hf : downF xs i j with _ | _
          · have HF := hid hf
            have hv : decide (xs.getD j 0 ≤ xs.getD i 0) = false := hf
            have HV := hid hv
            clear hf hv
            generalize xs.getD i 0 = x at *
            generalize xs.getD j 0 = y at *
            go_wp2_with fail
            go_quiet ((go_at_call 13; exact Calls.quiet_of_same (sayDownQ x y false HV.out _)))
            go_wp2
            go_roundg (n - (j + 1))
            case measure => omega
            case rel => exact ⟨j + 1, m1, _, by omega, by omega, by omega, by go_num, (HL.out.drewN _).no HF.out⟩
          · have HF := hid hf
            have hv : decide (xs.getD j 0 ≤ xs.getD i 0) = true := hf
            have HV := hid hv
            clear hf hv
            generalize xs.getD i 0 = x at *
            generalize xs.getD j 0 = y at *
            by_cases hma : m1 < a
            · have HN := hid (fun q => (HL.out.drewN q).store hin (HL.out.best.elim fun t hb => ⟨j, best_new hb hij HF.out HFA.out (by omega)⟩) (by omega))
              go_wp2_with fail
              go_quiet ((go_at_call 13; exact Calls.quiet_of_same (sayDownQ x y true HV.out _)))
              go_wp2_with fail
              go_region
              go_wp2
              go_roundg (n - (j + 1))
              case measure => omega
              case rel => exact ⟨j + 1, a, _, by omega, by omega, by omega, by go_num, HN.out _⟩
            · have HN := hid (fun q => (HL.out.drewN q).store hin (m' := m1) (HL.out.best.elim fun t hb => ⟨t, best_old hb HFA.out (by omega)⟩) hm1)
              go_wp2_with fail
              go_quiet ((go_at_call 13; exact Calls.quiet_of_same (sayDownQ x y true HV.out _)))
              go_wp2_with fail
              go_region
              go_wp2
              go_roundg (n - (j + 1))
              case measure => omega
              case rel => exact ⟨j + 1, m1, _, by omega, by omega, by omega, by go_num, HN.out _⟩
        · obtain rfl : j = n := by omega
          have h5 := (HL.out.arr.set i ((m1 : Int) + 1)).cell (j := i) (by rw [List.length_set, HL.out.len]; exact hin)
          rw [getD_set_same (by rw [HL.out.len]; exact hin)] at h5
          have hm1n : m1 + 1 ≤ j := by have := (HL.out.far' hin).le; omega
          by_cases hle : m1 + 1 ≤ m
          · have hmx : ¬ (m : Int) < (m1 : Int) + 1 := by omega
            have HD := hid (HL.out.done hin (.inl ⟨rfl, hle⟩))
            go_wp2
            go_roundg i
            case measure => omega
            case rel => exact ⟨i, m, (i : Int) - 1, _, by omega, by omega, rfl, by go_num, rfl, HD.out⟩
          · have hmx : (m : Int) < (m1 : Int) + 1 := by omega
            have HD := hid (HL.out.done hin (.inr ⟨rfl, by omega⟩))
            go_wp2
            go_roundg i
            case measure => omega
            case rel => exact ⟨i, m1 + 1, (i : Int) - 1, _, by omega, by omega, rfl, by go_num, rfl, HD.out⟩
    · obtain rfl : k = 0 := by omega
      obtain rfl : z = -1 := by omega
      have HLM : Hid (Longest (downF xs) n m) := by
        obtain ⟨t, ht⟩ := HO.out.most
        exact longest_of_most ht
      have HB := hid HO.out.bel
      clear hz hq HO
      go_wp2
      go_ret
      exact ⟨m, rfl, HB.out, HLM.out⟩

theorem line_at {f : Nat → Nat → Bool} {n : Nat} : ∀ {c : List Nat} {t : Nat}, Line f n c → t + 1 < c.length → c.getD t 0 < c.getD (t + 1) 0 ∧ f (c.getD t 0) (c.getD (t + 1) 0) = true
  | [], _, _, h => absurd h (by simp)
  | [_], _, _, h => absurd h (by simp)
  | i :: j :: c, 0, hl, _ => hl.two
  | i :: j :: c, t + 1, hl, h => by
    have := line_at (t := t) hl.tail (by simpa using h)
    simpa using this
theorem getD_cast (c : List Nat) (t : Nat) : (c.map (fun i : Nat => (i : Int))).getD t 0 = ((c.getD t 0 : Nat) : Int) := by
  rw [List.getD_eq_getElem?_getD, List.getElem?_map, List.getD_eq_getElem?_getD]
  cases c[t]? <;> rfl
theorem getD_in {c : List Nat} {t : Nat} (h : t < c.length) : c.getD t 0 ∈ c := by
  rw [List.getD_eq_getElem?_getD, List.getElem?_eq_getElem h]
  exact List.getElem_mem h
theorem goes_length {f : Nat → Nat → Bool} {n : Nat} {ys : List Int} (h : Goes f n ys) : Longest f n ys.length := by
  obtain ⟨c, rfl, _, h2⟩ := h
  rw [List.length_map]
  exact h2

set_option maxHeartbeats 2000000 in
theorem placed_up (A : Option Addr) (n c : Nat) (B : Option Addr) (u d : Nat) (xs ys : List Int) (w : World) (h : Ints w A n xs) (hB : Ints w B u ys) (hn : n ≤ 30) (hg : Goes (upF xs) n ys) :
    Calls Try.prog 14 #[.slice A n c, .slice B u d, .func (.func 12) #[] #[]] w fun e w' => e = .returned (.bool true) ∧ Below w.heap.size w w' := by
  have HLG := hid (goes_length hg)
  rw [hB.len] at HLG
  have hun := HLG.out.le
  have HI := hid h
  have HJ := hid hB
  obtain ⟨cs, hcs, hl, _⟩ := hg
  have HLN := hid hl
  have HCS := hid hcs
  have HCL : Hid (cs.length = u) := by have e := hB.len; rw [hcs, List.length_map] at e; exact e
  clear h hB hcs hl
  go_enter Try.func14, Try.ntmps14
  go_wp2_with fail
  refine (longestBy_up A n c xs _ HI.out hn).mono ?_
  rintro e w1 ⟨m, rfl, hb, hm⟩
  obtain rfl : m = u := hm.eq HLG.out
  have HB1 := hid hb
  have HI1 := hid (HI.out.keep hb)
  have HJ1 := hid (HJ.out.keep hb)
  have hne : ((m : Int) != (m : Int)) = false := by simp
  clear hb hm HI HJ HLG
  go_wp2_with fail
  go_loopg [17] m (fun g iv wr => ∃ t : Nat, t ≤ m ∧ m - t ≤ g ∧ iv = .int .i64 (t : Int) ∧ Below w.heap.size w wr ∧ Ints wr A n xs ∧ Ints wr B m ys)
  case atStart => exact ⟨0, Nat.zero_le _, by omega, rfl, HB1.out, HI1.out, HJ1.out⟩
  case round =>
    clear HB1 HI1 HJ1
    obtain ⟨t, ht, hg2, rfl, hbel, hI, hJ⟩ := hrel
    have HB := hid hbel
    have HI := hid hI
    have HJ := hid hJ
    clear hbel hI hJ
    by_cases hlt : t < m
    · obtain ⟨b2, o2, rfl, _, hc2⟩ := HJ.out.row (by omega)
      have g1 := hc2 t hlt
      rw [HCS.out, getD_cast] at g1
      have hkn := HLN.out.lt _ (getD_in (c := cs) (t := t) (by rw [HCL.out]; exact hlt))
      obtain ⟨b1, o1, rfl, _, hc1⟩ := HI.out.row (by omega)
      have HC1 := hid hc1
      obtain ⟨k, hk⟩ : ∃ k, k = cs.getD t 0 := ⟨_, rfl⟩
      rw [← hk] at g1 hkn
      have q1 : decide ((k : Int) < 0) = false := by simp
      have q2 : decide ((n : Int) ≤ (k : Int)) = false := by simp; omega
      have q2n : decide (n ≤ k) = false := by simp; omega
      by_cases h0 : t = 0
      · subst h0
        rw [Nat.add_zero] at g1
        clear hc1 hc2 hk
        go_wp2_with fail
        go_quiet (fail)
        go_wp2
        go_roundg (m - (0 + 1))
        case measure => omega
        case rel => exact ⟨0 + 1, by omega, by omega, by go_num, below_drewN HB.out _, HI.out.drewN _, HJ.out.drewN _⟩
      · have q3 : decide (0 < (t : Int)) = true := by simp; omega
        have q3n : decide (0 < t) = true := by simp; omega
        obtain ⟨s, hs⟩ : ∃ s, t = s + 1 := ⟨t - 1, by omega⟩
        obtain ⟨l1, l2⟩ := line_at (c := cs) (t := s) HLN.out (by rw [HCL.out]; omega)
        rw [← hs, ← hk] at l1 l2
        have g2 := hc2 s (by omega)
        rw [HCS.out, getD_cast] at g2
        generalize cs.getD s 0 = k2 at *
        have g3 := hc1 k2 (by omega)
        have g4 := hc1 k hkn
        have q4 : decide ((k : Int) ≤ (k2 : Int)) = false := by simp; omega
        have q4n : decide (k ≤ k2) = false := by simp; omega
        have hw1 : IntKind.i64.wrap ((t : Int) - 1) = (s : Int) := by rw [IntWalk.i64_in _ (by omega)]; omega
        have hsI : (s : Int) < (m : Int) := by omega
        have hkI : (k : Int) < (n : Int) := by omega
        have hk2I : (k2 : Int) < (n : Int) := by omega
        have hv : decide (xs.getD k2 0 < xs.getD k 0) = true := l2
        have HV := hid hv
        clear hc1 hc2 hk l2 hv hs
        generalize xs.getD k2 0 = x at *
        generalize xs.getD k 0 = y at *
        go_wp2_with fail
        go_quiet ((go_at_call 12; exact Calls.quiet_of_same (sayUpQ x y true HV.out _)))
        go_wp2
        go_roundg (m - (t + 1))
        case measure => omega
        case rel => exact ⟨t + 1, by omega, by omega, by go_num, below_drewN HB.out _, HI.out.drewN _, HJ.out.drewN _⟩
    · obtain rfl : t = m := by omega
      go_wp2
      go_ret
      exact ⟨rfl, HB.out⟩

set_option maxHeartbeats 2000000 in
theorem placed_down (A : Option Addr) (n c : Nat) (B : Option Addr) (u d : Nat) (xs ys : List Int) (w : World) (h : Ints w A n xs) (hB : Ints w B u ys) (hn : n ≤ 30) (hg : Goes (downF xs) n ys) :
    Calls Try.prog 14 #[.slice A n c, .slice B u d, .func (.func 13) #[] #[]] w fun e w' => e = .returned (.bool true) ∧ Below w.heap.size w w' := by
  have HLG := hid (goes_length hg)
  rw [hB.len] at HLG
  have hun := HLG.out.le
  have HI := hid h
  have HJ := hid hB
  obtain ⟨cs, hcs, hl, _⟩ := hg
  have HLN := hid hl
  have HCS := hid hcs
  have HCL : Hid (cs.length = u) := by have e := hB.len; rw [hcs, List.length_map] at e; exact e
  clear h hB hcs hl
  go_enter Try.func14, Try.ntmps14
  go_wp2_with fail
  refine (longestBy_down A n c xs _ HI.out hn).mono ?_
  rintro e w1 ⟨m, rfl, hb, hm⟩
  obtain rfl : m = u := hm.eq HLG.out
  have HB1 := hid hb
  have HI1 := hid (HI.out.keep hb)
  have HJ1 := hid (HJ.out.keep hb)
  have hne : ((m : Int) != (m : Int)) = false := by simp
  clear hb hm HI HJ HLG
  go_wp2_with fail
  go_loopg [17] m (fun g iv wr => ∃ t : Nat, t ≤ m ∧ m - t ≤ g ∧ iv = .int .i64 (t : Int) ∧ Below w.heap.size w wr ∧ Ints wr A n xs ∧ Ints wr B m ys)
  case atStart => exact ⟨0, Nat.zero_le _, by omega, rfl, HB1.out, HI1.out, HJ1.out⟩
  case round =>
    clear HB1 HI1 HJ1
    obtain ⟨t, ht, hg2, rfl, hbel, hI, hJ⟩ := hrel
    have HB := hid hbel
    have HI := hid hI
    have HJ := hid hJ
    clear hbel hI hJ
    by_cases hlt : t < m
    · obtain ⟨b2, o2, rfl, _, hc2⟩ := HJ.out.row (by omega)
      have g1 := hc2 t hlt
      rw [HCS.out, getD_cast] at g1
      have hkn := HLN.out.lt _ (getD_in (c := cs) (t := t) (by rw [HCL.out]; exact hlt))
      obtain ⟨b1, o1, rfl, _, hc1⟩ := HI.out.row (by omega)
      have HC1 := hid hc1
      obtain ⟨k, hk⟩ : ∃ k, k = cs.getD t 0 := ⟨_, rfl⟩
      rw [← hk] at g1 hkn
      have q1 : decide ((k : Int) < 0) = false := by simp
      have q2 : decide ((n : Int) ≤ (k : Int)) = false := by simp; omega
      have q2n : decide (n ≤ k) = false := by simp; omega
      by_cases h0 : t = 0
      · subst h0
        rw [Nat.add_zero] at g1
        clear hc1 hc2 hk
        go_wp2_with fail
        go_quiet (fail)
        go_wp2
        go_roundg (m - (0 + 1))
        case measure => omega
        case rel => exact ⟨0 + 1, by omega, by omega, by go_num, below_drewN HB.out _, HI.out.drewN _, HJ.out.drewN _⟩
      · have q3 : decide (0 < (t : Int)) = true := by simp; omega
        have q3n : decide (0 < t) = true := by simp; omega
        obtain ⟨s, hs⟩ : ∃ s, t = s + 1 := ⟨t - 1, by omega⟩
        obtain ⟨l1, l2⟩ := line_at (c := cs) (t := s) HLN.out (by rw [HCL.out]; omega)
        rw [← hs, ← hk] at l1 l2
        have g2 := hc2 s (by omega)
        rw [HCS.out, getD_cast] at g2
        generalize cs.getD s 0 = k2 at *
        have g3 := hc1 k2 (by omega)
        have g4 := hc1 k hkn
        have q4 : decide ((k : Int) ≤ (k2 : Int)) = false := by simp; omega
        have q4n : decide (k ≤ k2) = false := by simp; omega
        have hw1 : IntKind.i64.wrap ((t : Int) - 1) = (s : Int) := by rw [IntWalk.i64_in _ (by omega)]; omega
        have hsI : (s : Int) < (m : Int) := by omega
        have hkI : (k : Int) < (n : Int) := by omega
        have hk2I : (k2 : Int) < (n : Int) := by omega
        have hv : decide (xs.getD k 0 ≤ xs.getD k2 0) = true := l2
        have HV := hid hv
        clear hc1 hc2 hk l2 hv hs
        generalize xs.getD k2 0 = x at *
        generalize xs.getD k 0 = y at *
        go_wp2_with fail
        go_quiet ((go_at_call 13; exact Calls.quiet_of_same (sayDownQ x y true HV.out _)))
        go_wp2
        go_roundg (m - (t + 1))
        case measure => omega
        case rel => exact ⟨t + 1, by omega, by omega, by go_num, below_drewN HB.out _, HI.out.drewN _, HJ.out.drewN _⟩
    · obtain rfl : t = m := by omega
      go_wp2
      go_ret
      exact ⟨rfl, HB.out⟩

end Go.Proofs.Ytdcmknnmdiocdaa
