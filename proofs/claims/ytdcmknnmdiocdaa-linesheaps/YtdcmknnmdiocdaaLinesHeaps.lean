/-
  castkeep.LinesHeaps, walked.
-/
import Derived.Test.YtdcmknnmdiocdaaLinV
namespace Go.Proofs.Ytdcmknnmdiocdaa
open Go.RowKit

/-- As many heaps as the first i numbers take. -/
def HeapsUpto (s : List Nat) (i m : Nat) : Prop := (∀ j, j < i → s.getD j 0 + 1 ≤ m) ∧ (m = 0 ∨ ∃ j, j < i ∧ s.getD j 0 + 1 = m)
theorem heapsUpto_zero (s : List Nat) : HeapsUpto s 0 0 := ⟨fun _ h => absurd h (Nat.not_lt_zero _), .inl rfl⟩
theorem heapsUpto_step {s : List Nat} {i m : Nat} (h : HeapsUpto s i m) : HeapsUpto s (i + 1) (max m (s.getD i 0 + 1)) := by
  refine ⟨fun j hj => ?_, ?_⟩
  · by_cases e : j = i
    · subst e; omega
    · have := h.1 j (by omega); omega
  · right
    by_cases e : m ≤ s.getD i 0 + 1
    · exact ⟨i, by omega, by omega⟩
    · rcases h.2 with h0 | ⟨j, h1, h2⟩
      · omega
      · exact ⟨j, by omega, by omega⟩
theorem heapsUpto_all {l : List Int} {m : Nat} (h : HeapsUpto (splitP l).2 l.length m) : Longest (upF l) l.length m := by
  have H := pinv l
  have e : m = (splitP l).1.length := by
    apply Nat.le_antisymm
    · rcases h.2 with h0 | ⟨j, h1, h2⟩
      · omega
      · have := (H.on j h1).1; omega
    · rcases Nat.eq_zero_or_pos (splitP l).1.length with h0 | h0
      · omega
      · obtain ⟨j, h1, h2, _⟩ := H.fr ((splitP l).1.length - 1) (by omega)
        have := h.1 j h1
        omega
  rw [e]
  exact heaps_longest l
/-- One is ahead of it in the heap ahead. -/
def AheadOf (s : List Nat) (l : List Int) (i j : Nat) (q : Bool) : Prop := q = true ↔ s.getD i 0 = 0 ∨ ∃ u, u < j ∧ s.getD u 0 + 1 = s.getD i 0 ∧ l.getD u 0 < l.getD i 0
theorem aheadOf_zero (s : List Nat) (l : List Int) (i : Nat) : AheadOf s l i 0 (decide (s.getD i 0 = 0)) := by
  unfold AheadOf
  rw [decide_eq_true_iff]
  exact ⟨.inl, fun h => h.elim id (fun ⟨u, h, _⟩ => absurd h (Nat.not_lt_zero _))⟩
theorem aheadOf_old {s : List Nat} {l : List Int} {i j : Nat} {q : Bool} (h : AheadOf s l i j q) (hn : q = true ∨ ¬ (s.getD j 0 + 1 = s.getD i 0 ∧ l.getD j 0 < l.getD i 0)) : AheadOf s l i (j + 1) q := by
  refine ⟨fun hq => (h.1 hq).imp id (fun ⟨u, h1, h2⟩ => ⟨u, by omega, h2⟩), fun hx => ?_⟩
  rcases hn with hq | hn
  · exact hq
  · refine h.2 (hx.imp id (fun ⟨u, h1, h2⟩ => ⟨u, ?_, h2⟩))
    by_cases e : u = j
    · subst e; exact absurd h2 hn
    · omega
theorem aheadOf_new {s : List Nat} {l : List Int} {i j : Nat} (h1 : s.getD j 0 + 1 = s.getD i 0) (h2 : l.getD j 0 < l.getD i 0) : AheadOf s l i (j + 1) true :=
  ⟨fun _ => .inr ⟨j, by omega, h1, h2⟩, fun _ => rfl⟩
theorem aheadOf_end {l : List Int} {i : Nat} {q : Bool} (hi : i < l.length) (h : AheadOf (splitP l).2 l i i q) : q = true := by
  refine h.2 ?_
  rcases Nat.eq_zero_or_pos ((splitP l).2.getD i 0) with h0 | h0
  · exact .inl h0
  · obtain ⟨j, h1, h2, h3⟩ := (pinv l).dn i ((splitP l).2.getD i 0 - 1) hi (by omega)
    exact .inr ⟨j, h1, by omega, h3⟩
theorem heap_le {l : List Int} {i : Nat} (h : i < l.length) : (splitP l).2.getD i 0 < l.length := by
  have := ((pinv l).on i h).1
  have := tops_length l
  omega

set_option maxHeartbeats 4000000 in
set_option maxRecDepth 100000 in
theorem linesHeaps_any (A : Option Addr) (n c : Nat) (xs : List Int) (w : World) (h : Ints w A n xs) (hm : n ≤ 9223372036854775807) :
    Calls Try.prog 6 #[.slice A n c] w fun e w' => e = .returned (.bool true) ∧ Below w.heap.size w w' := by
  have HI := hid h
  clear h
  go_enter Try.func6, Try.ntmps6
  go_wp2_with fail
  refine (linesLive_any _).mono ?_
  rintro e w1 ⟨rfl, hb⟩
  have HB1 := hid hb
  have HI1 := hid (HI.out.keep hb)
  clear hb HI
  by_cases hn : n ≤ 30
  · go_wp2_with fail
    refine (up_ok A n c xs _ HI1.out hn).mono ?_
    rintro e w2 ⟨A2, u, c2, ys, rfl, hb2, hIu, hCu, hgu⟩
    have HB2 := hid (below_step HB1.out (Nat.le_refl _) hb2)
    have HI2 := hid (HI1.out.keep hb2)
    have HLU := hid hgu.len
    rw [hIu.len] at HLU
    clear hb2 hIu hCu hgu HB1 HI1
    go_wp2_with fail
    refine (lsplit_ok A n c xs _ HI2.out hn).mono ?_
    rintro e w3 ⟨A3, n3, c3, rfl, hb3, hIs, _⟩
    have HB3 := hid (below_step HB2.out (Nat.le_refl _) hb3)
    have HI3 := hid (HI2.out.keep hb3)
    have hlen := HI3.out.len
    have hn3 : n = n3 := by have := hIs.len; rw [length_pilesI] at this; omega
    subst hn3
    have HIS := hid hIs
    have HLEN := hid hlen
    clear hb3 hIs hlen HB2 HI2
    have hnn : ((n : Int) != (n : Int)) = false := by simp
    go_wp2_with fail
    go_loopg [7, 51] n (fun g mv iv wr => ∃ (i m : Nat) (z : Int), i ≤ n ∧ n - i ≤ g ∧ m ≤ n ∧ mv = .int .i64 z ∧ z = (m : Int) - 1 ∧ iv = .int .i64 (i : Int) ∧ HeapsUpto (splitP xs).2 i m ∧ Below w.heap.size w wr ∧ Ints wr A n xs ∧ Ints wr A3 n (pilesI xs))
    case atStart => exact ⟨0, 0, -1, Nat.zero_le _, by omega, by omega, rfl, by omega, rfl, heapsUpto_zero _, HB3.out, HI3.out, HIS.out⟩
    case round =>
      clear HB3 HI3 HIS
      obtain ⟨i, m, z, hi, hg, hmn, rfl, hz, rfl, hup, hbel, hI, hS⟩ := hrel
      have HU := hid hup
      have HB := hid hbel
      have HI := hid hI
      have HS := hid hS
      clear hup hbel hI hS
      by_cases hlt : i < n
      · obtain ⟨b1, o1, rfl, hl1, hc1⟩ := HI.out.row (by omega)
        obtain ⟨b2, o2, rfl, hl2, hc2⟩ := HS.out.row (by omega)
        have g2 := hc2 i hlt
        rw [getD_pilesI] at g2
        have HUS := hid (heapsUpto_step HU.out)
        have hkn : (splitP xs).2.getD i 0 < n := by have := heap_le (l := xs) (i := i) (by rw [HLEN.out]; exact hlt); rw [HLEN.out] at this; exact this
        have HZA := hid (aheadOf_zero (splitP xs).2 xs i)
        have HC1 := hid hc1
        have HC2 := hid hc2
        have HEND := hid (fun q => @aheadOf_end xs i q (by rw [HLEN.out]; exact hlt))
        have HPU := hid (fun j (hj : j < i) => (pinv xs).up j i hj (by rw [HLEN.out]; exact hlt))
        obtain ⟨k, hk⟩ : ∃ k, k = (splitP xs).2.getD i 0 := ⟨_, rfl⟩
        have HK := hid hk
        rw [← hk] at g2 hkn HUS HZA
        have hmz : (if z < (k : Int) then (k : Int) else z) = ((max m (k + 1) : Nat) : Int) - 1 := by
          split <;> omega
        have hmn2 : max m (k + 1) ≤ n := by omega
        generalize max m (k + 1) = m2 at HUS hmz hmn2
        have hk0 : ((k : Int) == 0) = decide (k = 0) := by
          by_cases e : k = 0
          · subst e; rfl
          · rw [decide_eq_false e]; simp; omega
        obtain ⟨z2, hz2⟩ : ∃ z2 : Int, z2 = ((m2 : Nat) : Int) - 1 := ⟨_, rfl⟩
        rw [← hz2] at hmz
        have HZ2 := hid hz2
        have HZZ := hid hmz
        generalize hq0 : decide (k = 0) = q0 at hk0 HZA
        have HQ0 := hid hk0
        clear hk hc1 hc2 HU hmz hz hz2 hq0 hk0
        go_upto_region 12 with fail
        rw [HZZ.out]
        go_upto_region 13 with fail
        rw [HQ0.out]
        clear HZZ HQ0 g2
        go_wp2_with fail
        go_loopg [10, 62] i (fun g qv jv wq => ∃ (j : Nat) (q : Bool), j ≤ i ∧ i - j ≤ g ∧ qv = .bool q ∧ jv = .int .i64 (j : Int) ∧ AheadOf (splitP xs).2 xs i j q ∧ Below w.heap.size w wq ∧ Ints wq (some ⟨b1, o1, none⟩) n xs ∧ Ints wq (some ⟨b2, o2, none⟩) n (pilesI xs))
        case atStart => exact ⟨0, q0, Nat.zero_le _, by omega, rfl, rfl, HZA.out, HB.out, HI.out, HS.out⟩
        case round =>
          clear HZA HB HI HS HC1 HC2
          obtain ⟨j, q, hj, hg2, rfl, rfl, hah, hbel, hI, hS⟩ := hrel
          have HA := hid hah
          have HB := hid hbel
          have HI := hid hI
          have HS := hid hS
          clear hah hbel
          by_cases hlt2 : j < i
          · obtain ⟨_, _, he1, _, hc1⟩ := hI.row (by omega)
            obtain ⟨_, _, he2, _, hc2⟩ := hS.row (by omega)
            injection he1 with he1
            injection he1 with he1 he3
            injection he2 with he2
            injection he2 with he2 he4
            subst he1 he2 he3 he4
            have g1 := hc1 j (by omega)
            have g2 := hc1 i hlt
            have g3 := hc2 j (by omega)
            rw [getD_pilesI] at g3
            have HUP := hid (HPU.out j hlt2)
            rw [← HK.out] at HUP
            have hsj : (splitP xs).2.getD j 0 < n := by have := heap_le (l := xs) (i := j) (by rw [HLEN.out]; omega); rw [HLEN.out] at this; exact this
            have HOLD := hid (fun hn => aheadOf_old HA.out hn)
            have HNEW := hid (fun h1 h2 => @aheadOf_new (splitP xs).2 xs i j h1 h2)
            rw [← HK.out] at HOLD HNEW
            have hjI : (j : Int) < (n : Int) := by omega
            have hiI : (i : Int) < (n : Int) := by omega
            clear hc1 hc2 hI hS HA
            generalize (splitP xs).2.getD j 0 = s at *
            generalize hx : xs.getD j 0 = x at *
            generalize hy : xs.getD i 0 = y at *
            clear hx hy
            by_cases hsk : s = k
            · subst hsk
              have hlt3 : ¬ x < y := fun h => by have := HUP.out h; omega
              have hd : decide (x < y) = false := decide_eq_false hlt3
              have hss : ((s : Int) == (s : Int)) = true := by simp
              have hs1 : ((s : Int) == (s : Int) - 1) = false := by simp; omega
              have HN := hid (HOLD.out (.inr (fun h => by omega)))
              cases q
              · go_wp2_with fail
                go_quiet (fail)
                go_wp2_with fail
                go_quiet (fail)
                go_wp2
                go_roundg (i - (j + 1))
                case measure => omega
                case rel => exact ⟨j + 1, false, by omega, by omega, rfl, by go_num, HN.out, below_drewN HB.out _, HI.out.drewN _, HS.out.drewN _⟩
              · go_wp2_with fail
                go_quiet (fail)
                go_wp2_with fail
                go_quiet (fail)
                go_wp2
                go_roundg (i - (j + 1))
                case measure => omega
                case rel => exact ⟨j + 1, true, by omega, by omega, rfl, by go_num, HN.out, below_drewN HB.out _, HI.out.drewN _, HS.out.drewN _⟩
            · have hss : ((s : Int) == (k : Int)) = false := by simp; omega
              cases q
              · by_cases hsk1 : s + 1 = k
                · have hs1 : ((s : Int) == (k : Int) - 1) = true := by simp; omega
                  by_cases hxy : x < y
                  · have hd : decide (x < y) = true := decide_eq_true hxy
                    have HN := hid (HNEW.out hsk1 hxy)
                    go_wp2_with fail
                    go_quiet (fail)
                    go_wp2_with fail
                    go_quiet (fail)
                    go_wp2
                    go_roundg (i - (j + 1))
                    case measure => omega
                    case rel => exact ⟨j + 1, true, by omega, by omega, rfl, by go_num, HN.out, below_drewN HB.out _, HI.out.drewN _, HS.out.drewN _⟩
                  · have hd : decide (x < y) = false := decide_eq_false hxy
                    have HN := hid (HOLD.out (.inr (fun h => hxy h.2)))
                    go_wp2_with fail
                    go_quiet (fail)
                    go_wp2_with fail
                    go_quiet (fail)
                    go_wp2
                    go_roundg (i - (j + 1))
                    case measure => omega
                    case rel => exact ⟨j + 1, false, by omega, by omega, rfl, by go_num, HN.out, below_drewN HB.out _, HI.out.drewN _, HS.out.drewN _⟩
                · have hs1 : ((s : Int) == (k : Int) - 1) = false := by simp; omega
                  have HN := hid (HOLD.out (.inr (fun h => hsk1 h.1)))
                  go_wp2_with fail
                  go_quiet (fail)
                  go_wp2_with fail
                  go_quiet (fail)
                  go_wp2
                  go_roundg (i - (j + 1))
                  case measure => omega
                  case rel => exact ⟨j + 1, false, by omega, by omega, rfl, by go_num, HN.out, below_drewN HB.out _, HI.out.drewN _, HS.out.drewN _⟩
              · have HN := hid (HOLD.out (.inl rfl))
                go_wp2_with fail
                go_quiet (fail)
                go_wp2_with fail
                go_quiet (fail)
                go_wp2
                go_roundg (i - (j + 1))
                case measure => omega
                case rel => exact ⟨j + 1, true, by omega, by omega, rfl, by go_num, HN.out, below_drewN HB.out _, HI.out.drewN _, HS.out.drewN _⟩
          · obtain rfl : j = i := by omega
            obtain rfl : q = true := HEND.out q HA.out
            have hd : decide ((k : Int) < 0) = false := by simp
            clear hI hS HA
            go_wp2
            go_roundg (n - (j + 1))
            case measure => omega
            case rel => exact ⟨j + 1, m2, z2, by omega, by omega, hmn2, rfl, HZ2.out, by go_num, HUS.out, HB.out, HI.out, HS.out⟩
      · obtain rfl : i = n := by omega
        have hmu : m = u := by
          have e := HU.out
          have e2 := HLEN.out
          rw [← e2] at e
          have h3 := heapsUpto_all e
          rw [e2] at h3
          exact h3.eq HLU.out
        subst hmu
        have hzz : z + 1 = (m : Int) := by omega
        have hz1 : IntKind.i64.wrap (z + 1) = (m : Int) := by rw [hzz]; exact IntWalk.i64_in _ (by omega)
        have hze : ((m : Int) == (m : Int)) = true := by simp
        clear hg
        go_wp2
        go_ret
        exact ⟨rfl, HB.out⟩
  · go_wp2_with fail
    refine (up_large A n c _ (by omega) hm).mono ?_
    rintro e w2 ⟨rfl, hb2⟩
    have HB2 := hid (below_step HB1.out (Nat.le_refl _) hb2)
    clear hb2
    go_wp2_with fail
    refine (lsplit_large A n c _ (by omega) hm).mono ?_
    rintro e w3 ⟨rfl, rfl⟩
    go_wp2
    go_ret
    exact ⟨rfl, HB2.out⟩

end Go.Proofs.Ytdcmknnmdiocdaa
