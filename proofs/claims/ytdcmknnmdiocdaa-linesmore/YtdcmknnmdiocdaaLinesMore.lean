/-
  castkeep.LinesMore, walked.
-/
import Derived.Test.YtdcmknnmdiocdaaLinV
import Derived.Test.YtdcmknnmdiocdaaClone
import Derived.Test.YtdcmknnmdiocdaaRowB
namespace Go.Proofs.Ytdcmknnmdiocdaa
open Go.RowKit

/-- From behind, and below nought. -/
def bakL (xs : List Int) (k : Nat) : List Int := ((xs.drop k).reverse).map (fun x => -1 - x)
theorem bakL_end (xs : List Int) : bakL xs xs.length = [] := by simp [bakL]
theorem bakL_step {xs : List Int} {k : Nat} (h : k < xs.length) : bakL xs k = bakL xs (k + 1) ++ [-1 - xs.getD k 0] := by
  rw [bakL, bakL, List.drop_eq_getElem_cons h, List.reverse_cons, List.map_append, List.getD_eq_getElem?_getD, List.getElem?_eq_getElem h]
  rfl
theorem length_bakL (xs : List Int) (k : Nat) : (bakL xs k).length = xs.length - k := by simp [bakL]
theorem getD_bakL {xs : List Int} {i : Nat} (h : i < xs.length) : (bakL xs 0).getD i 0 = -1 - xs.getD (xs.length - 1 - i) 0 := by
  rw [bakL, List.drop_zero, List.getD_eq_getElem?_getD, List.getElem?_map, List.getElem?_reverse h, List.getD_eq_getElem?_getD, List.getElem?_eq_getElem (show xs.length - 1 - i < xs.length by omega)]
  rfl
theorem longest_bakL {xs : List Int} {u b : Nat} (h1 : Longest (upF xs) xs.length u) (h2 : Longest (upF (bakL xs 0)) xs.length b) : b = u := by
  have hl : (bakL xs 0).length = xs.length := by rw [length_bakL]; omega
  have h := longest_back (b := bakL xs 0) hl (fun i hi => getD_bakL hi) h1
  rw [hl] at h
  exact h2.eq h

theorem xor64_neg {y : Int} (hy : -9223372036854775808 ≤ y ∧ y ≤ 9223372036854775807) : bits .xor .i64 (-1) y = -1 - y := by
  have e : BitVec.ofInt 64 (-1) ^^^ BitVec.ofInt 64 y = ~~~ BitVec.ofInt 64 y := by
    rw [show BitVec.ofInt 64 (-1) = BitVec.allOnes 64 by decide, BitVec.allOnes_xor]
  show IntKind.i64.wrap ((BitVec.ofInt 64 (-1) ^^^ BitVec.ofInt 64 y).toNat : Int) = _
  rw [e, BitVec.toNat_not, BitVec.toNat_ofInt]
  simp only [IntKind.wrap, IntKind.bits, IntKind.signed]
  simp
  omega

set_option maxHeartbeats 4000000 in
set_option maxRecDepth 100000 in
theorem linesMore_any (A : Option Addr) (n c : Nat) (ys : List Int) (x : Int) (w : World) (h : Ints w A n ys) (hc : n ≤ c) (hm : n ≤ 9223372036854775807) (hbd : ∀ y ∈ ys, -9223372036854775808 ≤ y ∧ y ≤ 9223372036854775807) :
    Calls Try.prog 7 #[.slice A n c, .int .i64 x] w fun e w' => e = .returned (.bool true) ∧ Below w.heap.size w w' := by
  obtain ⟨m, hmm⟩ : ∃ m, (m = n ∧ n ≤ 29) ∨ (m = 29 ∧ 29 < n) := by
    by_cases e : n ≤ 29
    · exact ⟨n, .inl ⟨rfl, e⟩⟩
    · exact ⟨29, .inr ⟨rfl, by omega⟩⟩
  have hI := h.take (m := m) (by omega)
  have hbd2 : ∀ y ∈ ys.take m, -9223372036854775808 ≤ y ∧ y ≤ 9223372036854775807 := fun y hy => hbd y (List.mem_of_mem_take hy)
  generalize ys.take m = xs at hI hbd2
  have HI := hid hI
  have HBD := hid hbd2
  have hm29 : m ≤ 29 := by omega
  have hmc : m ≤ c := by omega
  clear h hbd hI hbd2
  have HMM := hid hmm
  clear hmm
  go_enter Try.func7, Try.ntmps7
  go_wp2_with fail
  refine (linesLive_any _).mono ?_
  rintro e w1 ⟨rfl, hb⟩
  have HB1 := hid hb
  have HI1 := hid (HI.out.keep hb)
  clear hb HI
  go_upto_region 3 with fail
  go_cut [0] from 19 to 23 (fun s wx => s = .slice A m c ∧ w1 = wx)
  case first =>
    rcases HMM.out with ⟨h1, h2⟩ | ⟨h1, h2⟩
    · subst h1
      go_wp2
      go_meet
      exact ⟨rfl, rfl⟩
    · subst h1
      go_wp2
      go_meet
      exact ⟨rfl, rfl⟩
  case rest =>
    obtain ⟨rfl, rfl⟩ := hcut
    clear HMM
    have HLX := hid HI1.out.len
    go_wp2_with fail
    refine (up_ok A m c xs _ HI1.out (by omega)).mono ?_
    rintro e w2 ⟨A2, u, c2, y2, rfl, hb, hi2, _, hg⟩
    have HB2 := hid (below_step HB1.out (Nat.le_refl _) hb)
    have HI2 := hid (HI1.out.keep hb)
    have HU := hid hg.len
    rw [hi2.len] at HU
    clear hb hi2 hg HB1 HI1
    go_wp2_with fail
    refine (down_ok A m c xs _ HI2.out (by omega)).mono ?_
    rintro e w3 ⟨A3, d, c3, y3, rfl, hb, hi3, _, hg⟩
    have HB3 := hid (below_step HB2.out (Nat.le_refl _) hb)
    have HI3 := hid (HI2.out.keep hb)
    have HD := hid hg.len
    rw [hi3.len] at HD
    clear hb hi3 hg HB2 HI2
    go_wp2_with fail
    refine (clone_any A m c xs _ HI3.out (by omega)).mono ?_
    rintro e w4 ⟨v, rfl, ho, hb⟩
    have HO := hid ho
    have HS := hid hb.size
    have HW := hid hb
    clear hb ho
    go_wp2_with (at_builtin; refine wpList_app1 _ rfl (.tmp 36) (.tmp 38) rfl w3.heap.size v xs x rfl rfl HO.out (by rw [HLX.out]; omega) HS.out ?_)
    intro v5 w5 hown _ hbel
    obtain ⟨A5, c5, hv, hi, _⟩ := hown.ints
    have hl : (xs ++ [x]).length = m + 1 := by rw [List.length_append, HLX.out]; exact rfl
    rw [hl] at hv hi
    subst hv
    have HN5 := hid hi
    have HK := HW.out.trans hbel
    have HB5 := hid (below_step HB3.out (Nat.le_refl _) HK)
    have HI5 := hid (HI3.out.keep HK)
    clear hown hbel hi HK HI3 HB3 HO HS HW hl
    go_wp2_with fail
    refine (up_ok _ (m + 1) _ (xs ++ [x]) _ HN5.out (by omega)).mono ?_
    rintro e w6 ⟨AA6, vv, cc6, yy6, rfl, hb, hi, _, hg⟩
    have HB6 := hid (below_step HB5.out (Nat.le_refl _) hb)
    have HI6 := hid (HI5.out.keep hb)
    have Hvv := hid hg.len
    rw [hi.len] at Hvv
    clear hb hi hg HB5 HI5 HN5
    go_wp2_with fail
    refine (clone_any A m c xs _ HI6.out (by omega)).mono ?_
    rintro e w7 ⟨v, rfl, ho, hb⟩
    have HO := hid ho
    have HS := hid hb.size
    have HW := hid hb
    clear hb ho
    go_wp2_with (at_builtin; refine wpList_app1 _ rfl (.tmp 45) (.tmp 47) rfl w6.heap.size v xs x rfl rfl HO.out (by rw [HLX.out]; omega) HS.out ?_)
    intro v8 w8 hown _ hbel
    obtain ⟨A8, c8, hv, hi, _⟩ := hown.ints
    have hl : (xs ++ [x]).length = m + 1 := by rw [List.length_append, HLX.out]; exact rfl
    rw [hl] at hv hi
    subst hv
    have HN8 := hid hi
    have HK := HW.out.trans hbel
    have HB8 := hid (below_step HB6.out (Nat.le_refl _) HK)
    have HI8 := hid (HI6.out.keep HK)
    clear hown hbel hi HK HI6 HB6 HO HS HW hl
    go_wp2_with fail
    refine (down_ok _ (m + 1) _ (xs ++ [x]) _ HN8.out (by omega)).mono ?_
    rintro e w9 ⟨AA9, ww, cc9, yy9, rfl, hb, hi, _, hg⟩
    have HB9 := hid (below_step HB8.out (Nat.le_refl _) hb)
    have HI9 := hid (HI8.out.keep hb)
    have Hww := hid hg.len
    rw [hi.len] at Hww
    clear hb hi hg HB8 HI8 HN8
    have hv2 : u ≤ vv ∧ vv ≤ u + 1 := by
      have e := HLX.out
      subst e
      exact longest_more (fun i j hij hj => upF_more xs x (by omega) hj) HU.out Hvv.out
    have hw2 : d ≤ ww ∧ ww ≤ d + 1 := by
      have e := HLX.out
      subst e
      exact longest_more (fun i j hij hj => downF_more xs x (by omega) hj) HD.out Hww.out
    have HV2 := hid hv2
    have HW2 := hid hw2
    have hum := HU.out.le
    have hdm := HD.out.le
    have HS9 := hid HB9.out.size
    clear hv2 hw2 Hvv Hww HD
    go_wp2_with fail
    go_loopg [13, 14] m (fun g bv iv wr => ∃ (k : Nat) (z : Int), k ≤ m ∧ k ≤ g ∧ iv = .int .i64 z ∧ z = (k : Int) - 1 ∧ OwnInts wr w9.heap.size bv (bakL xs k) ∧ Below w9.heap.size w9 wr)
    case atStart => exact ⟨m, (m : Int) - 1, Nat.le_refl _, Nat.le_refl _, by go_num, rfl, by rw [← HLX.out, bakL_end]; exact OwnInts.nil _ _, Below.refl _ _⟩
    case round =>

      obtain ⟨k, z, hk, hg, rfl, hz, hown, hbel⟩ := hrel
      have HO := hid hown
      have HB := hid hbel
      have HI := hid (HI9.out.keep hbel)
      clear hown hbel
      by_cases hk0 : 0 < k
      · obtain ⟨i, rfl⟩ : ∃ i, k = i + 1 := ⟨k - 1, by omega⟩
        obtain rfl : z = (i : Int) := by omega
        obtain ⟨b1, o1, rfl, hl1, hc1⟩ := HI.out.row (by omega)
        have g1 := hc1 i (by omega)
        have hbi := HBD.out (xs.getD i 0) (getD_mem (by rw [HLX.out]; omega))
        have HST := hid (bakL_step (xs := xs) (k := i) (by rw [HLX.out]; omega))
        have HLB : Hid ((bakL xs (i + 1)).length ≤ 29) := by rw [length_bakL, HLX.out]; exact show m - (i + 1) ≤ 29 by omega
        have hiI : (i : Int) < (m : Int) := by omega
        clear hc1 hz
        have HXO := hid (xor64_neg hbi)
        generalize xs.getD i 0 = y at *
        go_wp2_with (at_builtin; refine wpList_app1 _ rfl (.tmp 59) (.tmp 65) rfl w9.heap.size _ _ (bits BinOp.xor IntKind.i64 (-1) y) rfl rfl HO.out (by have := HLB.out; omega) HB.out.size ?_)
        intro v' wa hown' _ hbel'
        have HO' : Hid (OwnInts wa w9.heap.size v' (bakL xs i)) := by rw [HST.out, ← HXO.out]; exact hown'
        have HB' := hid (HB.out.trans hbel')
        clear hown' hbel' HO HB HI HST HLB g1 hbi HXO
        go_wp2
        go_roundg i
        case measure => omega
        case rel => exact ⟨i, (i : Int) - 1, by omega, by omega, by go_num, rfl, HO'.out, HB'.out⟩
      · obtain rfl : k = 0 := by omega
        obtain rfl : z = -1 := by omega
        obtain ⟨Ab, cb, hv, hi, _⟩ := HO.out.ints
        rw [length_bakL, HLX.out, Nat.sub_zero] at hv hi
        subst hv
        have HIB := hid hi
        have HB0 := hid (below_step HB9.out (Nat.le_refl _) HB.out)
        clear hi HO HB HI hz hg
        go_wp2_with fail
        refine (up_ok Ab m cb (bakL xs 0) _ HIB.out (by omega)).mono ?_
        rintro e wb ⟨AAb, b, ccb, yyb, rfl, hb, hi, _, hgg⟩
        have HBb := hid (below_step HB0.out (Nat.le_refl _) hb)
        have hbu : b = u := by
          have h2 := hgg.len
          rw [hi.len] at h2
          have e := HLX.out
          subst e
          exact longest_bakL HU.out h2
        subst hbu
        have HGD := hid (good_bel wb #[.int .i64 0, .int .i64 0, .int .i64 0, .int .i64 0, .int .i64 0] 23 5 [0, 0, 0, 0, 0] rfl rfl (by omega))
        clear hb hi hgg HIB HB0
        go_wp2_with fail
        refine HGD.out.mono ?_
        rintro e wc ⟨rfl, hb⟩
        rw [show allOK [0, 0, 0, 0, 0] = true by decide]
        have HBc := hid (below_step HBb.out (Nat.le_refl _) hb)
        obtain ⟨h1, h2⟩ := HV2.out
        obtain ⟨h3, h4⟩ := HW2.out
        have e1 : decide ((b : Int) ≤ (vv : Int)) = true := by simp; omega
        have e2 : decide ((vv : Int) ≤ (b : Int) + 1) = true := by simp; omega
        have e3 : decide ((d : Int) ≤ (ww : Int)) = true := by simp; omega
        have e4 : decide ((ww : Int) ≤ (d : Int) + 1) = true := by simp; omega
        have e5 : ((b : Int) != (b : Int)) = false := by simp
        clear hb HBb HGD
        go_wp2
        go_ret
        exact ⟨rfl, HBc.out⟩

end Go.Proofs.Ytdcmknnmdiocdaa
