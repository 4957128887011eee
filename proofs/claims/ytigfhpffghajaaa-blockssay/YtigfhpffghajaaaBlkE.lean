/-
  The verifier's castref.HeapsNext.
-/
import Derived.Test.YtigfhpffghajaaaBlkM
import Derived.Test.YtigfhpffghajaaaClone
import Derived.Test.YtigfhpffghajaaaAppZ
import Derived.Deep.AppendLies
import Derived.Deep.RegionLaw
namespace Go.Proofs.Ytigfhpffghajaaa
open Go.RowKit

theorem step_appI {ops : Array Oper} {o : Oper} {a : Act} {K : Act → World → Prop} {Q : Exit → Act → World → Prop} {E : Prop} (W : World) (hgd : o.guard = none) (s x : Operand)
    (ho : o.op = .call { callee := .builtin .append, args := #[s, x], argTypes := #[22, 22] })
    (base : Nat) (v : Value) (xs : List Int) (y : Int) (ad : Addr) (hs : a.eval s = v) (hx : a.eval x = .slice (some ad) 1 1) (hown : OwnInts W base v xs)
    (hcell : W.cell? (ad.add 0) = some (.int .i64 y)) (hlen : xs.length ≤ 1000000000000) (hbase : base ≤ W.heap.size)
    (h : ∀ v' w', OwnInts w' base v' (xs ++ [y]) → Below base W w' → K (a.put o.dst v') w') :
    if Region.wanted o (yielded ops a.tmps) = true then Oper.wp Try.prog o a W K Q else E := by
  obtain ⟨i0, hi, hz0, hz1, hz2⟩ := info_parts infoInt
  refine step_append_lies W hgd s x 22 ho base 3 i0 (.int .i64 0) 1 8 Try.underlying22 hi hz0 hz1 hz2 rfl (by decide) v xs.length (xs.map (Value.int .i64)) hs hown ad 1 1 [.int .i64 y] hx rfl ?_ (by intro u hu; simp at hu; subst hu; rfl) (by omega) (by unfold maxLen; omega) (by omega) hbase _ rfl ?_
  · intro j u hj
    match j, hj with
    | 0, hj =>
      simp at hj
      subst hj
      exact hcell
  · intro g cap w' h1 h2 _ _
    refine h _ w' ?_ ?_
    · unfold OwnInts
      simpa using h1
    · refine ⟨h2.os, h2.tape, h2.output, h2.size, fun k hk => h2.block k (by omega) (fun e => ?_)⟩
      have := World.ownsRow.lt hown k e.symm
      omega

theorem ltg_is {g : List Int} {i : Nat} (hi : g.getD i 0 < ((bk (g.take i) : Nat) : Int)) : ∀ {n : Nat}, i < n → (∀ j, i < j → j < n → ¬ g.getD j 0 < ((bk (g.take j) : Nat) : Int)) → ltg g n = (i : Int)
  | 0, h, _ => absurd h (Nat.not_lt_zero _)
  | n + 1, h, hall => by
    by_cases e : i = n
    · subst e
      exact ltg_yes hi
    · rw [ltg_no (hall n (by omega) (by omega))]
      exact ltg_is hi (by omega) (fun j h1 h2 => hall j h1 (by omega))
theorem ltg_not {g : List Int} : ∀ {n : Nat}, (∀ j, j < n → ¬ g.getD j 0 < ((bk (g.take j) : Nat) : Int)) → ltg g n = -1
  | 0, _ => rfl
  | n + 1, hall => by
    rw [ltg_no (hall n (by omega))]
    exact ltg_not (fun j h => hall j (by omega))

/-- P25, as the verifier says it. -/
def HNext (w : World) (n : Nat) (xs : List Int) (e : Ending) (w' : World) : Prop :=
  (ltg xs n < 0 ∧ e = .returned (.tuple #[.slice none 0 0, .bool false]) ∧ Below w.heap.size w w') ∨
  ∃ (L : Nat) (A : Option Addr) (c : Nat), ltg xs n = (L : Int) ∧ e = .returned (.tuple #[.slice A n c, .bool true]) ∧ Ints w' A n (nextL xs L) ∧ Below w.heap.size w w'

set_option maxHeartbeats 1600000 in
theorem heapsNext_any (A : Option Addr) (n c : Nat) (xs : List Int) (w : World) (h : Ints w A n xs) (hn : n ≤ 10) (hnc : n ≤ c) (hr : Rgs xs) :
    Calls Try.prog 17 #[.slice A n c] w (HNext w n xs) := by
  have HL := hid h.len
  have HR := hid hr
  have HI := hid h
  clear hr
  go_enter Try.func17, Try.ntmps17
  go_wp2
  go_loopg [4] n (fun g s wr => ∃ (k : Int) (q : Nat), -1 ≤ k ∧ k ≤ (n : Int) - 1 ∧ k + 1 ≤ g ∧ s = .int .i64 k ∧ wr = w.drewN q ∧ ∀ j : Nat, k < j → j < n → ¬ xs.getD j 0 < ((bk (xs.take j) : Nat) : Int))
  case atStart => exact ⟨_, 0, by omega, by omega, by omega, rfl, rfl, fun j h1 h2 => by omega⟩
  case round =>
    obtain ⟨k, q, hk0, hk1, hg, rfl, hwr0, hall⟩ := hrel
    have HALL := hid hall
    have HQ := hid hwr0
    clear hall hwr0
    by_cases hpos : 1 ≤ k
    · obtain ⟨i, rfl⟩ := Int.eq_ofNat_of_zero_le (show 0 ≤ k by omega)
      have hin : i < n := by omega
      have hix : i < xs.length := by rw [HL.out]; exact hin
      obtain ⟨b, o, hA, hb, hc⟩ := h.row (by omega)
      have g1 : wr.cell? ⟨b, o + i, none⟩ = some (.int .i64 (xs.getD i 0)) := by rw [HQ.out]; exact hc i hin
      have HM := hid (mem_rgs (g := xs) (k := i) (by omega) (HR.out.less (by omega)) (xs.getD i 0))
      have hx := HR.out i hix
      have hbk := bk_le xs i
      have HIW : Hid (Ints wr A i (xs.take i)) := by rw [HQ.out]; exact (h.drewN q).take (by omega)
      have hiI : (i : Int) < (n : Int) := by omega
      have hic : i ≤ c := by omega
      have HBW : Hid (Below w.heap.size w wr) := by rw [HQ.out]; exact below_drewN (Below.refl _ _) q
      subst hA
      clear hc h hix
      generalize hxi : xs.getD i 0 = x at *
      have HXI := hid hxi
      clear hxi
      by_cases hin2 : x ∈ xs.take i
      · have hlt := (HM.out.1 hin2).2
        have HLT : Hid (ltg xs n = (i : Int)) := ltg_is (by rw [HXI.out]; exact hlt) hin (fun j h1 h2 => HALL.out j (by omega) h2)
        have HIN := hid hin2
        clear hin2
        go_wp2_with fail
        go_quiet ((go_at_call 33; exact Calls.quiet_of_same (contains_yes _ i c (xs.take i) x _ (HIW.out.drewN _) (by omega) HIN.out)))
        go_wp2_with fail
        have hx9 : IntKind.i64.wrap (x + 1) = x + 1 := IntWalk.i64_in _ (by omega)
        have g1 : (wr.drewN nq).cell? ⟨b, o + i, none⟩ = some (.int .i64 x) := g1
        have HIW : Hid (Ints (wr.drewN nq) (some ⟨b, o, none⟩) i (xs.take i)) := HIW.out.drewN nq
        have HBW : Hid (Below w.heap.size w (wr.drewN nq)) := below_drewN HBW.out nq
        generalize wr.drewN nq = wz at *
        have g2 : wz.drew.cell? ⟨b, o + i, none⟩ = some (.int .i64 x) := g1
        have HIQ : Hid (Ints wz.drew (some ⟨b, o, none⟩) i (xs.take i)) := HIW.out.drewN 1
        have HBQ : Hid (Below w.heap.size w wz.drew) := HBW.out.drew
        have hbq : b < wz.drew.heap.size := Nat.lt_of_lt_of_le hb HBQ.out.size
        have HTL : Hid ((xs.take i).length ≤ 1000000000000) := by rw [List.length_take]; exact show min i xs.length ≤ 1000000000000 by omega
        have HNL : Hid (xs.take i ++ [x + 1] ++ List.replicate (n - (i + 1)) 0 = nextL xs i) := by unfold nextL; rw [HXI.out, HL.out]; exact rfl
        have HTI : Hid ((xs.take i ++ [x + 1]).length = i + 1) := by rw [List.length_append, List.length_take, HL.out, Nat.min_eq_left (by omega)]; exact rfl
        clear g1 HIW HBW HM HALL HQ HIN hk0 hk1 hb
        have HIA : Hid (Ints (wz.drew.alloc (.cells #[.int .i64 (x + 1)] 3)) (some ⟨b, o, none⟩) i (xs.take i)) := HIQ.out.keep (below_alloc _ _)
        go_region_law (first
          | (refine step_appI (w1.alloc (.cells #[.int .i64 (x + 1)] 3)) rfl (.tmp 24) (.tmp 30) rfl w.heap.size v1 (xs.take i) (x + 1) ⟨w1.heap.size, 0, none⟩ rfl rfl (HO1.out.keep (below_alloc _ _)) (cell_one w1 (x + 1) 0 _ rfl) HTL.out (Nat.le_trans HB1.out.size (below_alloc _ _).size) ?_; intro v2 w2 ho2 hb2; have HO2 := hid ho2; have HB2 := hid (HB1.out.trans ((below_alloc w1 _).mono HB1.out.size |>.trans hb2)); clear ho2 hb2)
          | (refine step_appI w1 rfl (.tmp 24) (.tmp 30) rfl w.heap.size v1 (xs.take i) (x + 1) ⟨wz.drew.heap.size, 0, none⟩ rfl rfl HO1.out HE1.out HTL.out HB1.out.size ?_; intro v2 w2 ho2 hb2; have HO2 := hid ho2; have HB2 := hid (HB1.out.trans hb2); clear ho2 hb2)
          | (go_simp; go_at_call 29; refine (clone_any _ i c (xs.take i) wz.drew HIQ.out (by omega)).mono ?_; rintro e w1 ⟨v1, rfl, ho1, hb1⟩; have HO1 := hid (ho1.mono HBQ.out.size); have HB1 := hid (below_step HBQ.out (Nat.le_refl _) hb1); have g3 : w1.cell? ⟨b, o + i, none⟩ = some (.int .i64 x) := (hb1.cell (p := ⟨b, o + i, none⟩) hbq).trans g2; clear ho1 hb1)
          | (go_simp; go_at_call 29; refine (clone_any _ i c (xs.take i) (wz.drew.alloc (.cells #[.int .i64 (x + 1)] 3)) HIA.out (by omega)).mono ?_; rintro e w1 ⟨v1, rfl, ho1, hb1⟩; have HO1 := hid (ho1.mono (Nat.le_trans HBQ.out.size (below_alloc _ _).size)); have HB1 := hid (below_step (below_step HBQ.out (Nat.le_refl _) (below_alloc wz.drew _)) (Nat.le_refl _) hb1); have HE1 : Hid (w1.cell? ((⟨wz.drew.heap.size, 0, none⟩ : Addr).add 0) = some (.int .i64 (x + 1))) := (hb1.cell (p := (⟨wz.drew.heap.size, 0, none⟩ : Addr).add 0) (by simp [Addr.add])).trans (cell_one wz.drew (x + 1) 0 _ rfl); clear ho1 hb1))
        all_goals
          obtain ⟨v3, w3, hrun, ho3, hb3⟩ := run_appZ w2 w.heap.size v2 (xs.take i ++ [x + 1]) (n - (i + 1)) 22 HO2.out (by rw [HTI.out]; omega) (by rw [HTI.out]; omega) HB2.out.size
          rw [show ((n - (i + 1) : Nat) : Int) = (n : Int) - (i : Int) - 1 by omega] at hrun
          have HRUN := hid hrun
          rw [HNL.out] at ho3
          have HO3 := hid ho3
          have HB3 := hid (HB2.out.trans hb3)
          clear hrun ho3 hb3 HO2 HB2 g2 hx9
          go_wp2_with (at_builtin; refine Lib.wpList_append_run _ rfl (.tmp 32) (.tmp 37) 22 3 rfl v2 (.int .i64 ((n : Int) - (i : Int) - 1)) rfl rfl v3 w3 HRUN.out ?_)
          go_ret2
          obtain ⟨A3, c3, rfl, hI3, _⟩ := HO3.out.ints
          have hl3 : (nextL xs i).length = n := by rw [length_nextL (by rw [HL.out]; exact hin)]; exact HL.out
          rw [hl3] at hI3 ⊢
          exact .inr ⟨i, A3, c3, HLT.out, rfl, hI3, HB3.out⟩
      · have HNM : Hid (¬ x < ((bk (xs.take i) : Nat) : Int)) := fun hh => hin2 (HM.out.2 ⟨hx.1, hh⟩)
        have HIN := hid hin2
        clear hin2
        go_wp2_with fail
        go_quiet ((go_at_call 33; exact Calls.quiet_of_same (contains_no _ i c (xs.take i) x _ (HIW.out.drewN _) (by omega) HIN.out)))
        go_wp2
        go_roundg i
        case measure => omega
        case rel =>
          refine ⟨(i : Int) - 1, _, by omega, by omega, by omega, by go_num, by rw [HQ.out, World.drewN_drewN], fun j h1 h2 => ?_⟩
          by_cases e : j = i
          · subst e
            rw [HXI.out]
            exact HNM.out
          · exact HALL.out j (by omega) h2
    · have HLT : Hid (ltg xs n < 0) := by
        have e : ltg xs n = -1 := ltg_not (fun j hj => by
          by_cases e : j = 0
          · subst e
            have := (HR.out 0 (by rw [HL.out]; exact hj)).1
            rw [bk_zero]
            omega
          · exact HALL.out j (by omega) hj)
        show ltg xs n < 0
        omega
      go_wp2
      go_ret2
      exact .inl ⟨HLT.out, rfl, by rw [HQ.out]; exact below_drewN (Below.refl _ _) q⟩

end Go.Proofs.Ytigfhpffghajaaa
