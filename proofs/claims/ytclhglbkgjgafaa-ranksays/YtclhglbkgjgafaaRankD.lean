/-
  slices.Compare; castref.Factorial, castref.RankOf; castkeep.ranks; the refused lists of package rank.
-/
import Derived.Test.YtclhglbkgjgafaaRankC
import Derived.Deep.RegionWith
namespace Go.Proofs.Ytclhglbkgjgafaa
open Go.RowKit

/-! ### Compare -/

theorem cmpL_step {xs ys : List Int} {k : Nat} (h1 : k < xs.length) (h2 : k < ys.length) : cmpL (xs.drop k) (ys.drop k) = if cmpI (xs.getD k 0) (ys.getD k 0) = 0 then cmpL (xs.drop (k + 1)) (ys.drop (k + 1)) else cmpI (xs.getD k 0) (ys.getD k 0) := by
  have e1 : xs.getD k 0 = xs[k] := by rw [List.getD_eq_getElem?_getD, List.getElem?_eq_getElem h1]; rfl
  have e2 : ys.getD k 0 = ys[k] := by rw [List.getD_eq_getElem?_getD, List.getElem?_eq_getElem h2]; rfl
  rw [List.drop_eq_getElem_cons h1, List.drop_eq_getElem_cons h2, e1, e2]
  simp only [cmpL, cmpI]
  split
  · rfl
  · split <;> rfl

set_option maxHeartbeats 800000 in
theorem compareL_any (A1 : Option Addr) (n c : Nat) (A2 : Option Addr) (d : Nat) (xs ys : List Int) (w : World) (h1 : Ints w A1 n xs) (h2 : Ints w A2 n ys) (hn : n ≤ 1000000) :
    Calls Try.prog 27 #[.slice A1 n c, .slice A2 n d] w fun e w' => e = .returned (.int .i64 (cmpL xs ys)) ∧ w = w' := by
  have HL1 := hid h1.len
  have HL2 := hid h2.len
  go_enter Try.func27, Try.ntmps27
  go_wp2
  go_loopg [11] n (fun g s wr => ∃ k : Nat, k ≤ n ∧ n - k ≤ g ∧ s = .int .i64 k ∧ w = wr ∧ cmpL (xs.drop k) (ys.drop k) = cmpL xs ys)
  case atStart => exact ⟨0, Nat.zero_le _, by omega, rfl, rfl, rfl⟩
  case round =>
    obtain ⟨k, hk, hg, rfl, rfl, heq⟩ := hrel
    have HE := hid heq
    clear heq
    by_cases hlt : k < n
    · obtain ⟨b1, o1, rfl, _, hc1⟩ := h1.row (by omega)
      obtain ⟨b2, o2, rfl, _, hc2⟩ := h2.row (by omega)
      have g1 := hc1 k hlt
      have g2 := hc2 k hlt
      have HS := hid (cmpL_step (xs := xs) (ys := ys) (k := k) (by rw [HL1.out]; exact hlt) (by rw [HL2.out]; exact hlt))
      clear hc1 hc2 h1 h2
      generalize xs.getD k 0 = x at g1 HS
      generalize ys.getD k 0 = y at g2 HS
      by_cases h0 : cmpI x y = 0
      · have HS2 : Hid (cmpL (xs.drop (k + 1)) (ys.drop (k + 1)) = cmpL xs ys) := by rw [← HE.out, HS.out, if_pos h0]; exact rfl
        go_wp2_with (go_at_call 41; refine (compare_any x y _).mono ?_; rintro e w' ⟨rfl, rfl⟩)
        go_roundg (n - (k + 1))
        case measure => omega
        case rel => exact ⟨k + 1, by omega, by omega, by go_num, rfl, HS2.out⟩
      · have HS2 : Hid (cmpI x y = cmpL xs ys) := by rw [← HE.out, HS.out, if_neg h0]; exact rfl
        have h0' : (cmpI x y != 0) = true := by simpa using h0
        clear h0
        generalize hz : cmpI x y = z at *
        have HZ := hid hz
        clear hz
        go_wp2_with (go_at_call 41; refine (compare_any x y _).mono ?_; rw [HZ.out]; rintro e w' ⟨rfl, rfl⟩)
        go_ret
        exact ⟨ret_int HS2.out, rfl⟩
    · have hkn : k = n := by omega
      subst hkn
      have HS2 : Hid ((0 : Int) = cmpL xs ys) := by rw [← HE.out, List.drop_of_length_le (by rw [HL1.out]; exact Nat.le_refl _), List.drop_of_length_le (by rw [HL2.out]; exact Nat.le_refl _)]; exact rfl
      go_wp2
      go_ret
      exact ⟨ret_int HS2.out, rfl⟩

/-! ### Factorial, RankOf -/

set_option maxHeartbeats 400000 in
theorem factorial_ok (n : Nat) (w : World) (hn : n ≤ 10) : Calls Try.prog 14 #[.int .i64 (n : Int)] w fun e w' => e = .returned (.int .i64 ((fact n : Nat) : Int)) ∧ w = w' := by
  induction n with
  | zero =>
    go_enter Try.func14, Try.ntmps14
    go_wp2_with fail
    go_ret
    exact ⟨rfl, rfl⟩
  | succ n ih =>
    have IH := hid (ih (by omega))
    clear ih
    rcases Nat.eq_zero_or_pos n with h0 | h0
    · subst h0
      go_enter Try.func14, Try.ntmps14
      go_wp2_with fail
      go_ret
      exact ⟨rfl, rfl⟩
    · have h2 : ¬ ((n : Int) + 1 < 2) := by omega
      have hf := fact_ten (n := n + 1) hn
      have HM : Hid (((n : Int) + 1) * ((fact n : Nat) : Int) = ((fact (n + 1) : Nat) : Int)) := by rw [show fact (n + 1) = (n + 1) * fact n from rfl, Int.natCast_mul]; exact rfl
      have h3 : ((n : Int) + 1) * ((fact n : Nat) : Int) ≤ 3628800 := by rw [HM.out]; omega
      have h4 : 0 ≤ ((n : Int) + 1) * ((fact n : Nat) : Int) := by rw [HM.out]; omega
      clear hf
      go_enter Try.func14, Try.ntmps14
      go_wp2_with fail
      refine (IH.out).mono ?_
      rintro e w' ⟨rfl, rfl⟩
      go_wp2_with fail
      go_ret
      exact ⟨ret_int HM.out, rfl⟩

def RetInt (w : World) (x : Int) (e : Ending) (w' : World) : Prop := e = .returned (.int .i64 x) ∧ Below w.heap.size w w'

set_option maxHeartbeats 1600000 in
theorem rankOf_ok (n : Nat) : ∀ (A : Option Addr) (c : Nat) (p : List Int) (w : World), Ints w A n p → IsPerm p → n ≤ 10 → n ≤ c →
    Calls Try.prog 16 #[.slice A n c] w (RetInt w ((rk p : Nat) : Int)) := by
  induction n with
  | zero =>
    intro A c p w hA _ _ _
    have hp : p = [] := List.eq_nil_of_length_eq_zero hA.len
    subst hp
    go_enter Try.func16, Try.ntmps16
    go_wp2_with fail
    go_ret
    exact ⟨rfl, Below.refl _ _⟩
  | succ n ih =>
    intro A c p w hA hp hn hc
    have IH := hid ih
    clear ih
    obtain ⟨b, o, rfl, hb, hcell⟩ := hA.row (by omega)
    have g0 := hcell 0 (by omega)
    have HD := hid (hA.drop (c := c) (l := 1) (by omega) hc)
    cases p with
    | nil => exact absurd hA.len (by simp)
    | cons x l =>
      rw [List.getD_cons_zero, Nat.add_zero] at g0
      rw [List.drop_one, List.tail_cons, Nat.add_sub_cancel] at HD
      have hsl := fun W => run_from (some ⟨b, o, none⟩) (n + 1) c 1 1 (by omega) (by omega) W
      rw [Nat.add_sub_cancel] at hsl
      generalize subA (some ⟨b, o, none⟩) c 1 = S at HD hsl
      have HL : Hid (l.length = n) := by have := hA.len; simp at this; exact this
      clear hcell hA
      have HXR := hid (hp.range (List.mem_cons_self ..))
      have HPS := hid (isPerm_shut hp)
      have HRK : Hid (rk (x :: l) = x.toNat * fact n + rk (l.map (shut x))) := by
        have h1 := less_perm_head hp
        have h2 := rk_shut (List.nodup_cons.1 hp.nodup).1
        show rk (x :: l) = _
        simp only [rk, h2, HL.out]
        rw [show less x l = x.toNat by omega]
      have HB0 := hid hb
      have hxb : 0 ≤ x ∧ x ≤ 10 := by have := HXR.out; have := HL.out; simp only [List.length_cons] at *; omega
      have HLR : Hid (∀ y, y ∈ l → 0 ≤ y ∧ y ≤ 10) := fun y hy => by have := hp.range (List.mem_cons_of_mem x hy); have := HL.out; simp only [List.length_cons] at *; omega
      clear hp
      have HG0 := hid g0
      have hne : ((n : Int) + 1 == 0) = false := by simp; omega
      go_enter Try.func16, Try.ntmps16
      go_wp2_with fail
      go_loopg [3, 12] n (fun g v s wr => ∃ k : Nat, k ≤ n ∧ n - k ≤ g ∧ s = .int .i64 k ∧ OwnInts wr w.heap.size v ((l.map (shut x)).take k) ∧ Below w.heap.size w wr)
      case atStart => exact ⟨0, Nat.zero_le _, by omega, rfl, OwnInts.nil _ _, Below.refl _ _⟩
      case round =>
        obtain ⟨k, hk, hg, rfl, hown, hbel⟩ := hrel
        have HO := hid hown
        have HB := hid hbel
        have g1 : wr.cell? ⟨b, o, none⟩ = some (.int .i64 x) := (HB.out.cell (p := ⟨b, o, none⟩) HB0.out).trans HG0.out
        clear hown hbel hsl g0
        by_cases hlt : k < n
        · obtain ⟨b2, o2, rfl, hb2, hcell2⟩ := (HD.out.keep HB.out).row (by omega)
          have g2 := hcell2 k hlt
          have hy := HLR.out _ (getD_mem (xs := l) (i := k) (by rw [HL.out]; exact hlt))
          have HT : Hid ((l.map (shut x)).take (k + 1) = (l.map (shut x)).take k ++ [shut x (l.getD k 0)]) := by
            rw [take_snoc (by rw [List.length_map, HL.out]; exact hlt)]
            have : (l.map (shut x)).getD k 0 = shut x (l.getD k 0) := by simp [List.getD_eq_getElem?_getD, List.getElem?_eq_getElem (show k < l.length by rw [HL.out]; exact hlt)]
            rw [this]; exact rfl
          have HPL : Hid (((l.map (shut x)).take k).length = k) := by rw [List.length_take, List.length_map, HL.out]; exact Nat.min_eq_left hk
          clear hcell2 hb2 HD HLR
          generalize l.getD k 0 = y at g2 hy HT
          generalize (l.map (shut x)).take k = P at HO HT HPL
          by_cases hxy : x < y
          · have HSH : Hid (shut x y = y - 1) := if_pos hxy
            go_wp2_with (at_builtin; refine wpList_app1 _ rfl (.tmp 23) (.tmp 25) rfl w.heap.size _ P (y - 1) rfl rfl HO.out (by rw [HPL.out]; omega) HB.out.size ?_)
            intro v' w1 hown1 _ hbel1
            have HB1 := hid (HB.out.trans hbel1)
            have HO1 := hid hown1
            clear hown1 hbel1 HO HB
            go_wp2
            go_roundg (n - (k + 1))
            case measure => omega
            case rel => exact ⟨k + 1, by omega, by omega, by go_num, by rw [HT.out, HSH.out]; exact HO1.out, HB1.out⟩
          · have HSH : Hid (shut x y = y) := if_neg hxy
            go_wp2_with (at_builtin; refine wpList_app1 _ rfl (.tmp 23) (.tmp 25) rfl w.heap.size _ P y rfl rfl HO.out (by rw [HPL.out]; omega) HB.out.size ?_)
            intro v' w1 hown1 _ hbel1
            have HB1 := hid (HB.out.trans hbel1)
            have HO1 := hid hown1
            clear hown1 hbel1 HO HB
            go_wp2
            go_roundg (n - (k + 1))
            case measure => omega
            case rel => exact ⟨k + 1, by omega, by omega, by go_num, by rw [HT.out, HSH.out]; exact HO1.out, HB1.out⟩
        · have hkn : k = n := by omega
          subst hkn
          have HT : Hid ((l.map (shut x)).take k = l.map (shut x)) := List.take_of_length_le (by rw [List.length_map, HL.out]; exact Nat.le_refl _)
          rw [HT.out] at HO
          have HML : Hid ((l.map (shut x)).length = k) := by rw [List.length_map]; exact HL.out
          generalize l.map (shut x) = r at HO HPS HRK HML
          obtain ⟨A2, c2, hv, hI, hcp⟩ := HO.out.ints
          rw [HML.out] at hv hI hcp
          subst hv
          have HI := hid (hI.keep ((Below.refl _ _).drew))
          have HCP := hid hcp.1
          obtain ⟨X, rfl⟩ := Int.eq_ofNat_of_zero_le hxb.1
          have hrk := rk_lt ((X : Int) :: l)
          have hf11 := fact_ten hn
          rw [HRK.out] at hrk
          simp only [List.length_cons, Int.toNat_natCast, HL.out] at hrk
          have HRK2 : Hid (((rk ((X : Int) :: l) : Nat) : Int) = (X : Int) * ((fact k : Nat) : Int) + ((rk r : Nat) : Int)) := by rw [HRK.out, Int.toNat_natCast, Int.natCast_add, Int.natCast_mul]; exact rfl
          have e0 : ((X * fact k : Nat) : Int) = (X : Int) * ((fact k : Nat) : Int) := Int.natCast_mul _ _
          have e1 : IntKind.i64.wrap ((X : Int) * ((fact k : Nat) : Int)) = (X : Int) * ((fact k : Nat) : Int) := IntWalk.i64_in _ (by rw [← e0]; omega)
          have e2 : IntKind.i64.wrap ((X : Int) * ((fact k : Nat) : Int) + ((rk r : Nat) : Int)) = (X : Int) * ((fact k : Nat) : Int) + ((rk r : Nat) : Int) := IntWalk.i64_in _ (by rw [← e0]; omega)
          have hb' := HB0.out
          clear e0 hrk hf11 HO HML hI hcp HRK
          go_wp2_with fail
          go_region_with (first
            | (go_at_call 14; refine (factorial_ok k _ (by omega)).mono ?_; rintro e w' ⟨rfl, rfl⟩)
            | (go_at_call 16; refine (IH.out A2 c2 r _ HI.out HPS.out (by omega) HCP.out).mono ?_; rintro e w5 ⟨rfl, hb5⟩; have g5 : w5.cell? ⟨b, o, none⟩ = some (.int .i64 (X : Int)) := (hb5.cell (p := ⟨b, o, none⟩) (Nat.lt_of_lt_of_le hb' HB.out.size)).trans g1; have HB5 := hid (below_step HB.out (Nat.le_refl _) (below_step ((Below.refl wr.heap.size wr).drew) (Nat.le_refl _) hb5)); clear hb5))
          all_goals
            go_wp2_with fail
            go_ret
            exact ⟨ret_int HRK2.out.symm, HB5.out⟩

/-! ### ranks -/

set_option maxHeartbeats 1000000 in
theorem ranks_any (w : World) : Calls Try.prog 25 #[] w fun e w' => e = .returned (.bool true) ∧ Below w.heap.size w w' := by
  go_enter Try.func25, Try.ntmps25
  go_wp2_with fail
  refine (at_ok 3 3 w (by omega) (by decide)).mono ?_
  rintro e w1 ⟨g1, rfl, hI1, hb1⟩
  have HB1 := hid hb1
  have HI1 := hid hI1
  clear hb1 hI1
  go_wp2_with fail
  refine (of_ok _ 3 3 [1, 2, 0] _ (ints_lit w1 _ _ 3 [1, 2, 0] rfl rfl) (by decide) (by omega)).mono ?_
  rintro e w2 ⟨rfl, hb2⟩
  have HB2 := hid (HB1.out.trans ((below_step (below_alloc w1 _) (Nat.le_refl _) hb2).mono HB1.out.size))
  have HI2 := hid ((HI1.out.keep (below_alloc w1 _)).keep hb2)
  clear hb2 HB1 HI1
  rw [show rk [1, 2, 0] = 3 by decide]
  go_wp2_with fail
  refine (good_any _ 2 2 [0, 0] _ (ints_lit w2 _ _ 2 [0, 0] rfl rfl) (by omega)).mono ?_
  rintro e w3 ⟨rfl, rfl⟩
  rw [show allOK [0, 0] = true by decide]
  go_wp2_with fail
  have hX := HI2.out.keep (below_step (below_alloc w2 (.cells #[.int .i64 0, .int .i64 0] 23)) (Nat.le_refl _) (below_alloc _ (.cells #[.int .i64 1, .int .i64 2, .int .i64 0] 3)))
  have hY := ints_lit (w2.alloc (.cells #[.int .i64 0, .int .i64 0] 23)) #[.int .i64 1, .int .i64 2, .int .i64 0] 3 3 [1, 2, 0] rfl rfl
  rw [show (w2.alloc (.cells #[.int .i64 0, .int .i64 0] 23)).heap.size = w2.heap.size + 1 by simp] at hY
  have HX := hid hX
  have HY := hid hY
  clear hX hY
  refine (equal_any _ 3 3 _ 3 3 _ [1, 2, 0] _ HX.out HY.out (by omega) (by omega)).mono ?_
  rintro e w3 ⟨rfl, q, rfl⟩
  rw [show decide (atL 3 3 = [1, 2, 0]) = true by decide]
  go_wp2
  go_ret
  exact ⟨rfl, below_drewN (HB2.out.trans ((below_step (below_alloc w2 _) (Nat.le_refl _) (below_alloc _ _)).mono HB2.out.size)) q⟩

end Go.Proofs.Ytclhglbkgjgafaa
