/-
  castkeep.TableauBehind, walked.
-/
import Derived.Test.YteffbhdhldilnaaTabX
import Derived.Test.YteffbhdhldilnaaTabK
import Derived.Test.YteffbhdhldilnaaAll
import Derived.Test.YteffbhdhldilnaaSortZ
namespace Go.Proofs.Yteffbhdhldilnaa
open Go.RowKit

theorem isPerm_reverse {p : List Int} (h : IsPerm p) : IsPerm p.reverse := by
  unfold IsPerm
  rw [List.length_reverse]
  exact (List.reverse_perm p).trans h
/-- What stands at (i, k) stands from behind at (k, i). -/
theorem behind_at {p : List Int} (hp : p.Nodup) {i k : Nat} (hk : k < ((PT p).getD i []).length) :
    k < (PT p.reverse).length ∧ i < ((PT p.reverse).getD k []).length ∧ ((PT p.reverse).getD k []).getD i 0 = ((PT p).getD i []).getD k 0 := by
  have h := turned_behind _ p rfl hp i k
  unfold tget at h
  rw [List.getElem?_eq_getElem hk] at h
  have hi : i < ((PT p.reverse).getD k []).length := by
    rcases Nat.lt_or_ge i ((PT p.reverse).getD k []).length with h1 | h1
    · exact h1
    · rw [List.getElem?_eq_none h1] at h
      cases h
  refine ⟨?_, hi, ?_⟩
  · rcases Nat.lt_or_ge k (PT p.reverse).length with h1 | h1
    · exact h1
    · exfalso
      have e : (PT p.reverse).getD k [] = [] := by rw [List.getD_eq_getElem?_getD, List.getElem?_eq_none h1]; rfl
      rw [e] at hi
      exact absurd hi (Nat.not_lt_zero _)
  · generalize (PT p.reverse).getD k [] = R at *
    generalize (PT p).getD i [] = S at *
    rw [List.getD_eq_getElem?_getD, List.getD_eq_getElem?_getD, ← h, List.getElem?_eq_getElem hk]

set_option maxHeartbeats 2000000 in
set_option maxRecDepth 100000 in
theorem tableauBehind_any (A : Option Addr) (n c : Nat) (xs : List Int) (w : World) (h : Ints w A n xs) (hc : n ≤ c) (hn : n ≤ 9223372036854775807) :
    Calls Try.prog 7 #[.slice A n c] w fun e w' => e = .returned (.bool true) ∧ Below w.heap.size w w' := by
  have HI := hid h
  clear h
  go_enter Try.func7, Try.ntmps7
  go_wp2_with fail
  refine (tableaux_any _).mono ?_
  rintro e w1 ⟨rfl, hb⟩
  have HB1 := hid hb
  have HI1 := hid (HI.out.keep hb)
  clear hb HI
  go_wp2_with fail
  obtain ⟨m, hm⟩ : ∃ m, m = min n 10 := ⟨_, rfl⟩
  have hm10 : m ≤ 10 := by omega
  refine (permOf_ten A n c m xs _ HI1.out hc hm).mono ?_
  clear hm
  rintro e w2 ⟨A3, c3, p, rfl, hp, hIp, hCp, hb⟩
  have HB2 := hid (below_step HB1.out (Nat.le_refl _) hb)
  have HIP := hid hIp
  have HP := hid hp
  have HLP := hid hIp.len
  have HCP := hid hCp
  clear hb hIp hp hCp HI1 HB1
  go_wp2_with fail
  refine (clone_any A3 m c3 p _ HIP.out (by omega)).mono ?_
  rintro e w3 ⟨v, rfl, ho, hb⟩
  have HB3 := hid (below_step HB2.out (Nat.le_refl _) hb)
  have HIP3 := hid (HIP.out.keep hb)
  have HIP2 := HIP
  have HW23 := hid hb
  have HO := hid ho
  have hws := hb.size
  clear hb ho HIP
  go_wp2_with fail
  refine (reverse_any w2.heap.size v p _ HO.out (by rw [HLP.out]; omega)).mono ?_
  rintro e w4 ⟨rfl, ho4, hg4⟩
  obtain ⟨E, ce, hv, hIE, hCE⟩ := ho4.ints
  rw [List.length_reverse, HLP.out] at hIE hCE hv
  subst hv
  have hb4 : Below w2.heap.size w3 w4 := ⟨hg4.os, hg4.tape, hg4.output, hg4.size, fun i hi => hg4.block i (Nat.lt_of_lt_of_le hi hws) (fun e => by have := World.ownsRow.lt HO.out i e.symm; omega)⟩
  have HB4 := hid (HB3.out.trans (hb4.mono HB2.out.size))
  have HIP4 : Hid (Ints w4 A3 m p) := by
    have h1 : Below w2.heap.size w2 w4 := below_own HW23.out HO.out (Nat.le_refl _) (Nat.le_refl _) hg4
    exact HIP2.out.keep h1
  have HIE := hid hIE
  clear ho4 hg4 hb4 hIE HIP3 HB3 HO hws HB2 HIP2 HW23
  go_wp2_with fail
  refine (tabOf_ok A3 m c3 p _ HIP4.out (permErr_of HP.out (by rw [HLP.out]; exact hm10))).mono ?_
  rintro e w5 ⟨B1, n1, d1, B2, n2, d2, rfl, hR1, hR2, hC1, hC2, hb⟩
  have HB5 := hid (below_step (below_step HB4.out (Nat.le_refl _) hb) (Nat.le_refl _) (below_alloc w5 (.cells #[.slice B1 n1 d1, .slice B2 n2 d2] 25)))
  have HT5 : Hid (PairAt (w5.alloc (.cells #[.slice B1 n1 d1, .slice B2 n2 d2] 25)) w5.heap.size B1 n1 d1 B2 n2 d2 (PT p) (QT p)) := PairAt.new hR1 hR2
  have HIE5 := hid ((HIE.out.keep hb).keep (below_alloc w5 (.cells #[.slice B1 n1 d1, .slice B2 n2 d2] 25)))
  have hc1 : n1 ≤ 9223372036854775807 := by unfold Cap at hC1; omega
  clear hR1 hR2 hC1 hC2 hb HB4 HIE HIP4
  go_wp2_with fail
  refine (tabOf_ok E m ce p.reverse _ HIE5.out (permErr_of (isPerm_reverse HP.out) (by rw [List.length_reverse, HLP.out]; exact hm10))).mono ?_
  rintro e w6 ⟨B3, n3, d3, B4, n4, d4, rfl, hR3, hR4, hC3, hC4, hb⟩
  have HB6 := hid (below_step (below_step HB5.out (Nat.le_refl _) hb) (Nat.le_refl _) (below_alloc w6 (.cells #[.slice B3 n3 d3, .slice B4 n4 d4] 25)))
  have HT6 := hid ((HT5.out.keep hb).keep (below_alloc w6 (.cells #[.slice B3 n3 d3, .slice B4 n4 d4] 25)))
  have HU6 : Hid (PairAt (w6.alloc (.cells #[.slice B3 n3 d3, .slice B4 n4 d4] 25)) w6.heap.size B3 n3 d3 B4 n4 d4 (PT p.reverse) (QT p.reverse)) := PairAt.new hR3 hR4
  have HGD := hid (good_bel (w6.alloc (.cells #[.slice B3 n3 d3, .slice B4 n4 d4] 25)) #[.int .i64 0, .int .i64 0] 26 2 [0, 0] rfl rfl (by omega))
  rw [show (w6.alloc (.cells #[.slice B3 n3 d3, .slice B4 n4 d4] 25)).heap.size = w6.heap.size + 1 by simp] at HGD
  have hc3 : n3 ≤ 9223372036854775807 := by unfold Cap at hC3; omega
  clear hR3 hR4 hC3 hC4 hb HB5 HT5 HIE5
  go_wp2_with fail
  refine HGD.out.mono ?_
  rintro e w7 ⟨rfl, hb⟩
  have hb' : Below (w6.alloc (.cells #[.slice B3 n3 d3, .slice B4 n4 d4] 25)).heap.size (w6.alloc (.cells #[.slice B3 n3 d3, .slice B4 n4 d4] 25)) w7 := by
    rw [show (w6.alloc (.cells #[.slice B3 n3 d3, .slice B4 n4 d4] 25)).heap.size = w6.heap.size + 1 by simp]
    exact hb
  have HB7 := hid (below_step HB6.out (Nat.le_refl _) hb')
  have HT7 := hid (HT6.out.keep hb')
  have HU7 := hid (HU6.out.keep hb')
  rw [show allOK [0, 0] = true by decide]
  have HND : Hid p.Nodup := HP.out.nodup_iff.2 (nodup_iota _)
  have HBA := hid (fun i k => @behind_at p HND.out i k)
  have HRB := hid (rows_behind HND.out)
  have HFU := hid (full_iff (PT_full p))
  clear hb hb' HB6 HT6 HU6 HGD
  have t0 := HT7.out.p0
  have u0 := HU7.out.p0
  have HRP := hid HT7.out.rp
  have HRU := hid HU7.out.rp
  have HLT := hid HT7.out.rp.len
  have HLU := hid HU7.out.rp.len
  have HPR := hid (PT_row_le p)
  rw [HLP.out] at HPR
  generalize PT p = T at *
  generalize PT p.reverse = U at *
  go_wp2_with fail
  go_loopg [39] n1 (fun g s wr => ∃ i : Nat, i ≤ n1 ∧ n1 - i ≤ g ∧ s = .int .i64 (i : Int) ∧ w7 = wr)
  case atStart => exact ⟨0, Nat.zero_le _, by omega, rfl, rfl⟩
  case round =>
    obtain ⟨i, hi, hg, rfl, rfl⟩ := hrel
    by_cases hlt : i < n1
    · obtain ⟨b1, o1, Aj, nj, cj, hB1, g1, hIj, hCj⟩ := HRP.out.at hlt
      subst hB1
      have HBI := hid (fun k => HBA.out i k)
      have HLJ := hid hIj.len
      have HIJ := hid hIj
      have hnj : nj ≤ 10 := by rw [← hIj.len]; exact Nat.le_trans (HPR.out i) hm10
      clear hIj hCj
      generalize T.getD i [] = row at *
      go_wp2
      go_loopg [46] nj (fun g s wr => ∃ k : Nat, k ≤ nj ∧ nj - k ≤ g ∧ s = .int .i64 (k : Int) ∧ w7 = wr)
      case atStart => exact ⟨0, Nat.zero_le _, by omega, rfl, rfl⟩
      case round =>
        obtain ⟨k, hk, hg2, rfl, rfl⟩ := hrel
        by_cases hlt2 : k < nj
        · obtain ⟨b2, o2, rfl, hb2, hc2⟩ := HIJ.out.row (by omega)
          have g2 := hc2 k hlt2
          obtain ⟨z1, z2, z3⟩ := HBI.out k (by rw [HLJ.out]; exact hlt2)
          rw [HLU.out] at z1
          obtain ⟨b3, o3, Ak, nk, ck, hB3, g3, hIk, hCk⟩ := HRU.out.at z1
          subst hB3
          rw [hIk.len] at z2
          obtain ⟨b4, o4, rfl, hb4, hc4⟩ := hIk.row (by omega)
          have g4 := hc4 i z2
          rw [z3] at g4
          have hck := hCk
          unfold Cap at hck
          have q1 : ¬ (n3 : Int) ≤ (k : Int) := by omega
          have q2 : ¬ (nk : Int) ≤ (i : Int) := by omega
          clear hc2 hc4 hIk hCk z3
          generalize row.getD k 0 = x at *
          go_wp2
          go_roundg (nj - (k + 1))
          case measure => omega
          case rel => exact ⟨k + 1, by omega, by omega, by go_num, rfl⟩
        · have hkj : k = nj := by omega
          subst hkj
          go_wp2
          go_roundg (n1 - (i + 1))
          case measure => omega
          case rel => exact ⟨i + 1, by omega, by omega, by go_num, rfl⟩
    · have hin : i = n1 := by omega
      subst hin
      by_cases h0 : i = 0
      · subst h0
        have hn3 : n3 = 0 := by
          rw [← HLU.out, HRB.out]
          have hT : T = [] := List.eq_nil_of_length_eq_zero HLT.out
          rw [hT]
          rfl
        subst hn3
        go_wp2_with fail
        go_quiet (fail)
        go_wp2
        go_ret
        exact ⟨rfl, below_drewN HB7.out _⟩
      · obtain ⟨b1, o1, Aj, nj, cj, hB1, g1, hIj, hCj⟩ := HRP.out.at (j := 0) (by omega)
        subst hB1
        rw [Nat.add_zero] at g1
        have hn3 : n3 = nj := by
          rw [← HLU.out, HRB.out]
          exact hIj.len
        subst hn3
        have hz : ((i : Int) == 0) = false := by simp; omega
        have hz2 : decide (0 < i) = true := by simp; omega
        have hz3 : 0 < i := by omega
        clear hIj hCj
        go_wp2_with fail
        go_quiet (fail)
        go_wp2
        go_ret
        exact ⟨rfl, below_drewN HB7.out _⟩

end Go.Proofs.Yteffbhdhldilnaa
