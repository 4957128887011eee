/-
  castkeep.OddsMarkov, walked.
-/
import Derived.Test.YthdjbmogdlodcaaOddD
import Derived.Test.YthdjbmogdlodcaaOddQ
import Derived.Test.YthdjbmogdlodcaaTill
import Derived.Test.YthdjbmogdlodcaaClone
import Derived.Test.YthdjbmogdlodcaaRatI
namespace Go.Proofs.Ythdjbmogdlodcaa
open Go.RowKit

set_option maxHeartbeats 4000000 in
set_option maxRecDepth 100000 in
theorem oddsMarkov_any (A : Option Addr) (n c : Nat) (B : Option Addr) (m d : Nat) (least : Int) (vs ws : List Int) (w : World) (hI : Ints w A n vs) (hJ : Ints w B m ws) (hn : n ≤ 17592186044416) :
    Calls Try.prog 5 #[.agg #[.slice A n c, .slice B m d], .int .i64 least] w fun e w' => e = .returned (.bool true) ∧ Below w.heap.size w w' := by
  have HB0 := hid (Below.refl w.heap.size w)
  have HL := hid hI.len
  have HI := hid hI
  have HJ := hid hJ
  have HJ9 := hid hJ
  clear hI hJ
  go_enter Try.func5, Try.ntmps5
  go_wp2_with fail
  obtain ⟨w1, hw1⟩ : ∃ w1, w1 = (w.alloc (.cells #[.slice (A) n c, .slice (B) m d] 24)) := ⟨_, rfl⟩
  have R1_o : Hid (OddsAt w1 w.heap.size (A) n c (B) m d) := by
    rw [hw1]
    have h := (OddsAt.new w 24 (A) n c (B) m d)
    exact h
  have HBx : Hid (Below w.heap.size w w1) := by
    rw [hw1]
    exact below_alloc w _
  rw [← hw1]
  clear hw1 HB0
  have HB1 := HBx
  clear HBx
  refine (oddsLive_any _).mono ?_
  rintro e w2 ⟨rfl, hb⟩
  have R2_o := hid ((R1_o.out).keep hb)
  have HB2 := hid (below_step HB1.out (Nat.le_refl _) hb)
  clear hb HB1 R1_o
  have g0_o := R2_o.out.p0
  have g1_o := R2_o.out.p1
  have gl_o := R2_o.out.lt
  have HI2 := hid (HI.out.keep HB2.out)
  have HJ2 := hid (HJ.out.keep HB2.out)
  clear HI HJ
  go_wp2_with fail
  refine (clone_big A n c vs _ HI2.out hn).mono ?_
  rintro e w3 ⟨v3, rfl, hown, hb⟩
  obtain ⟨A', c', rfl, _, hcap⟩ := hown.ints
  rw [HL.out] at hown hcap ⊢
  have hOA := R2_o.out.keep hb
  have g0 := hOA.p0
  have f0 := hOA.f0
  have hbo : w.heap.size < w2.heap.size := R2_o.out.lt
  obtain ⟨base, hbase⟩ : ∃ base, base = w2.heap.size := ⟨_, rfl⟩
  rw [← hbase] at hown hbo
  obtain ⟨w4, hw4⟩ : ∃ w4, w4 = w3.setCell ⟨w.heap.size, 0, none⟩ (.slice A' n c') := ⟨_, rfl⟩
  have HO4 : Hid (OddsAt w4 w.heap.size A' n c' B m d) := by rw [hw4]; exact hOA.set0 A' n c'
  have HOW4 : Hid (OwnInts w4 base (.slice A' n c') vs) := by rw [hw4]; exact hown.setFar _ 0 hbo _
  have HBZ4 : Hid (Below w.heap.size w w4) := by rw [hw4]; exact (below_step HB2.out (Nat.le_refl _) hb).setCell (Nat.le_refl _) _
  have HJ4 : Hid (Ints w4 B m ws) := hid (by
    have h1 := HJ2.out.keep hb
    refine ⟨h1.len, fun hp => ?_⟩
    obtain ⟨b, o, e, hlt, hc⟩ := HJ9.out.row hp
    refine ⟨b, o, e, Nat.lt_of_lt_of_le hlt HBZ4.out.size, fun j hj => ?_⟩
    exact (HBZ4.out.cell (p := ⟨b, o + j, none⟩) hlt).trans (hc j hj))
  have hbs : base ≤ w4.heap.size := by rw [hw4, hbase]; have := hb.size; simpa [World.setCell] using this
  have HC := hid hcap
  clear hown hcap hb hOA gl_o g0_o g1_o HB2 R2_o HI2 HJ2
  go_wp2_with fail
  rw [← hw4]
  clear hw4 g0 f0 hbase
  have g0 := HO4.out.p0
  go_wp2_with fail
  clear g0
  have HM0 : Hid (OwnInts w4 base (.slice A' n c') (modL 0 vs)) := by rw [modL_zero]; exact HOW4.out
  go_loopg [24, 5, 6] n (fun g s _ _ wr => ∃ k : Nat, k ≤ n ∧ n - k ≤ g ∧ s = .int .i64 k ∧ OwnInts wr base (.slice A' n c') (modL k vs) ∧ Below base w4 wr)
  case atStart => exact ⟨0, Nat.zero_le _, by omega, rfl, HM0.out, Below.refl _ _⟩
  case round =>
    clear HM0 HOW4
    obtain ⟨k, hk, hg, rfl, how, hbel⟩ := hrel
    have HOW := hid how
    have HBE := hid hbel
    have HO := hid (HO4.out.far hbel hbo)
    clear how hbel
    by_cases hlt : k < n
    · have hkl : k < vs.length := by rw [HL.out]; exact hlt
      obtain ⟨g, cap, e, hg1, hg2, hg3⟩ := HOW.out.form (by rw [modL_len]; omega)
      injection e with e1 e2 e3
      subst e1
      have how : OwnInts wr base (.slice (some ⟨g, 0, none⟩) (modL k vs).length c') (modL k vs) := by rw [modL_len, HL.out]; exact HOW.out
      have g2 := how.cell (j := k) (by rw [modL_len]; exact hkl)
      have f2 := how.frozen k
      rw [modL_at hkl] at g2
      have HST := hid (HOW.out.set (by rw [modL_len, HL.out]) k (vs.getD k 0 % 21))
      rw [modL_set hkl] at HST
      have g0 := HO.out.p0
      have hkI : (k : Int) < (n : Int) := by omega
      have hgbo : w.heap.size ≠ g := by omega
      have hnb : n ≤ 17592186044416 := hn
      have HG2 := hid g2
      clear how e2 e3 hkl hg3
      generalize vs.getD k 0 = x at *
      go_wp2_with fail
  
      refine region_till (fun w' => w'.cell? ⟨w.heap.size, 0, none⟩ = some (.slice (some ⟨g, 0, none⟩) n c')) [6] (by kernel_rfl) g0 (fun hHeld => ?_)
      refine till_take (i := 0) (o := { dst := some 29, op := Op.fieldAddr 24 (Operand.tmp 2) 0, type := 0, pos := "mid.go:229", after := #[], guard := none }) (x := ?v1) rfl (by kernel_rfl) (by kernel_rfl) (by kernel_rfl) (by kernel_rfl) (by kernel_rfl) (fun _ _ _ h => h) (Or.inl ⟨by rfl, ?hy1⟩) (by assumption) ?rest1
      case hy1 => (intro w9 hSw; (try dsimp only at hSw); go_simp; try with_reducible rfl)
      try simp only [Act.put, List.setIfInBounds_toArray, List.set_cons_zero, List.set_cons_succ]
      refine till_take (i := 2) (o := { dst := some 31, op := Op.move (Operand.tmp 5), type := 3, pos := "mid.go:229", after := #[], guard := none }) (x := ?v2) rfl (by kernel_rfl) (by kernel_rfl) (by kernel_rfl) (by kernel_rfl) (by kernel_rfl) (fun _ _ _ h => h) (Or.inl ⟨by rfl, ?hy2⟩) (by assumption) ?rest2
      case hy2 => (intro w9 hSw; (try dsimp only at hSw); go_simp; try with_reducible rfl)
      try simp only [Act.put, List.setIfInBounds_toArray, List.set_cons_zero, List.set_cons_succ]
      refine till_take (i := 3) (o := { dst := some 32, op := Op.move (Operand.tmp 6), type := 3, pos := "mid.go:229", after := #[], guard := none }) (x := ?v3) rfl (by kernel_rfl) (by kernel_rfl) (by kernel_rfl) (by kernel_rfl) (by kernel_rfl) (fun _ _ _ h => h) (Or.inl ⟨by rfl, ?hy3⟩) (by assumption) ?rest3
      case hy3 => (intro w9 hSw; (try dsimp only at hSw); go_simp; try with_reducible rfl)
      try simp only [Act.put, List.setIfInBounds_toArray, List.set_cons_zero, List.set_cons_succ]
      refine till_take (i := 1) (o := { dst := some 30, op := Op.load 22 (Operand.tmp 29), type := 22, pos := "mid.go:229", after := #[{ on := 0, ground := Ground.data }], guard := none }) (x := ?v4) rfl (by kernel_rfl) (by kernel_rfl) (by kernel_rfl) (by kernel_rfl) (by kernel_rfl) (fun _ _ _ h => h) (Or.inl ⟨by rfl, ?hy4⟩) (by assumption) ?rest4
      case hy4 => (intro w9 hSw; (try dsimp only at hSw); go_simp; try with_reducible rfl)
      try simp only [Act.put, List.setIfInBounds_toArray, List.set_cons_zero, List.set_cons_succ]
      refine till_next (rs := [4]) (by kernel_rfl) (by simp) ?_
      refine TillNext.cons (o := { dst := some 33, op := Op.call { callee := Callee.value (Operand.func 25), args := #[Operand.tmp 32, Operand.const (Value.int IntKind.i64 21)], argTypes := #[3, 3] }, type := 3, pos := "mid.go:229", after := #[{ on := 3, ground := Ground.data }], guard := none }) rfl (fun K hK => ?_) TillNext.nil
      go_simp
      go_at_call 25
      refine (within_any _ _ _ (by omega) (by omega)).mono ?_
      rintro e w' ⟨rfl, rfl⟩
      go_wp2_with fail
      refine hK.out _ _ ?hS5 (fun hHeld => ?rest5)
      case hS5 => (try dsimp only); (exact hHeld)
      clear hK K
      try simp only [Act.put, List.setIfInBounds_toArray, List.set_cons_zero, List.set_cons_succ]
      refine till_take (i := 5) (o := { dst := some 34, op := Op.indexAddr 22 (Operand.tmp 30) (Operand.tmp 31), type := 0, pos := "mid.go:229", after := #[{ on := 1, ground := Ground.data }, { on := 2, ground := Ground.data }, { on := 0, ground := Ground.phase }, { on := 1, ground := Ground.phase }, { on := 2, ground := Ground.phase }, { on := 3, ground := Ground.phase }, { on := 4, ground := Ground.phase }], guard := none }) (x := ?v6) rfl (by kernel_rfl) (by kernel_rfl) (by kernel_rfl) (by kernel_rfl) (by kernel_rfl) (fun _ _ _ h => h) (Or.inl ⟨by rfl, ?hy6⟩) (by assumption) ?rest6
      case hy6 => (intro w9 hSw; (try dsimp only at hSw); go_simp; try with_reducible rfl)
      try simp only [Act.put, List.setIfInBounds_toArray, List.set_cons_zero, List.set_cons_succ]
      refine till_next (rs := [6]) (by kernel_rfl) (by simp) ?_
      refine TillNext.done (o := { dst := none, op := Op.store 3 (Operand.tmp 34) (Operand.tmp 33), type := 0, pos := "mid.go:229", after := #[{ on := 5, ground := Ground.data }, { on := 4, ground := Ground.data }, { on := 4, ground := Ground.chain }, { on := 0, ground := Ground.phase }, { on := 1, ground := Ground.phase }, { on := 2, ground := Ground.phase }, { on := 3, ground := Ground.phase }, { on := 4, ground := Ground.phase }], guard := none }) rfl (by kernel_rfl) (fun K hK => ?_) TillNext.nil
      go_simp
      refine hK.out _ _ ?rest7
      clear hK K
      try simp only [Act.put, List.setIfInBounds_toArray, List.set_cons_zero, List.set_cons_succ]
      refine till_done (by kernel_rfl) ?_ _
      go_wp2
      go_roundg (n - (k + 1))
      case measure => omega
      case rel => exact ⟨k + 1, by omega, by omega, by go_num, HST.out.drewN 1, (below_drewN HBE.out 1).setCell (by show base ≤ g; omega) _⟩
    · obtain rfl : k = n := by omega
      rw [modL_all vs HL.out.symm] at HOW
      have HBZ := hid (HBZ4.out.trans (HBE.out.mono (Nat.le_of_lt hbo)))
      have HJ := hid (HJ9.out.keep HBZ.out)
      have HI := hid HOW.out.asInts.1
      clear HO4 HBZ4 HJ4 HBE HOW
      have g0 := HO.out.p0
      have g1 := HO.out.p1
      go_wp2_with fail
      refine (within_any _ _ _ (by omega) (by omega)).mono ?_
      rintro e w' ⟨rfl, rfl⟩
      have hl1 : 0 ≤ least % 23 := by omega
      have hl2 : least % 23 < 23 := by omega
      generalize least % 23 = q at *
      obtain ⟨f, hf⟩ : ∃ f, 1 + q = f := ⟨_, rfl⟩
      have hf1 : 1 ≤ f := by omega
      have hf2 : f ≤ 23 := by omega
      by_cases h1 : oddErr (vs.map (· % 21)) ws = 0
      · obtain ⟨l, hG, hv, hw⟩ := oddErr_zero h1
        have hpos := mod_vals hv
        rw [hv] at HI
        rw [hw] at HJ
        have HM : Hid (∀ W, Below wr.heap.size wr W → Calls Try.prog 10 #[.agg #[.slice A' k c', .slice B m d]] W (RetR W (mean l).num ((mean l).den : Int) 0)) := fun W hb => omean_ok _ _ _ _ _ _ l W (HI.out.keep hb) (HJ.out.keep hb) hG
        have HBY : Hid (∀ W, Below wr.heap.size wr W → Calls Try.prog 12 #[.agg #[.slice A' k c', .slice B m d], .int .i64 f] W (RetR W (Rat.divInt (E (geI f) l) (E one l)).num ((Rat.divInt (E (geI f) l) (E one l)).den : Int) 0)) := fun W hb => obeyond_ok _ _ _ _ _ _ f l W (HI.out.keep hb) (HJ.out.keep hb) hG
        have hfit : RFits (Rat.divInt f 1) := by
          refine (RB.make (N := 23) (D := 1) (by omega) (by omega) (by omega)).fits (by omega) (by omega)
        have HMU : Hid (∀ W, Calls Try.prog 26 #[.agg #[.int .i64 (Rat.divInt (E (geI f) l) (E one l)).num, .int .i64 ((Rat.divInt (E (geI f) l) (E one l)).den : Int)], .agg #[.int .i64 f, .int .i64 1]] W (RetR W (Rat.divInt (E (geI f) l) (E one l) * Rat.divInt f 1).num ((Rat.divInt (E (geI f) l) (E one l) * Rat.divInt f 1).den : Int) 0)) := fun W => by
          have k := mul_good ((beyond_bd f hG).fits (by omega) (by omega)) hfit ((least_bd hG f hf1 hf2).fits (by omega) (by omega)) W
          rw [(int_rat f).1, (int_rat f).2] at k
          exact k
        have HLE : Hid (∀ W, Calls Try.prog 27 #[.agg #[.int .i64 (mean l).num, .int .i64 ((mean l).den : Int)], .agg #[.int .i64 (Rat.divInt (E (geI f) l) (E one l) * Rat.divInt f 1).num, .int .i64 ((Rat.divInt (E (geI f) l) (E one l) * Rat.divInt f 1).den : Int)]] W (RetB W false 0)) := fun W => by
          have k := rless_ok (mean l) (Rat.divInt (E (geI f) l) (E one l) * Rat.divInt f 1) W ((mean_bd hG).fits (by omega) (by omega)) ((least_bd hG f hf1 hf2).fits (by omega) (by omega))
          rw [decide_eq_false (markov_rat hG hpos f)] at k
          exact k
        generalize (mean l).num = P1 at *
        generalize ((mean l).den : Int) = Q1 at *
        generalize (Rat.divInt (E (geI f) l) (E one l) * Rat.divInt f 1).num = P3 at *
        generalize ((Rat.divInt (E (geI f) l) (E one l) * Rat.divInt f 1).den : Int) = Q3 at *
        generalize (Rat.divInt (E (geI f) l) (E one l)).num = P2 at *
        generalize ((Rat.divInt (E (geI f) l) (E one l)).den : Int) = Q2 at *
        clear hG hpos hv hw hfit h1 HI HJ
        go_wp2_with fail
        refine (HM.out _ (Below.refl _ _)).mono ?_
        rintro e w5 ⟨rfl, hb⟩
        have HB5 := hid (hb.trans ((below_alloc w5 (.cells #[.int .i64 P1, .int .i64 Q1] 26)).mono hb.size))
        have R5_o := hid (HO.out.keep hb)
        clear g0 g1 hb HO
        have g0 := R5_o.out.p0
        have g1 := R5_o.out.p1
        have gl := R5_o.out.lt
        go_wp2_with fail
        refine (HBY.out _ HB5.out).mono ?_
        rintro e w6 ⟨rfl, hb⟩
        have R6_x := hid ((RatAt.new w5 26 P1 Q1).keep hb)
        have HB6 := hid (bstep (bstep HB5.out hb) (below_alloc w6 (.cells #[.int .i64 P2, .int .i64 Q2] 26)))
        have R6_y := hid (RatAt.new w6 26 P2 Q2)
        have R6_xx := hid (R6_x.out.keep_alloc (.cells #[.int .i64 P2, .int .i64 Q2] 26))
        clear g0 g1 gl hb HB5 R5_o R6_x
        go_wp2_with fail
        refine (HMU.out _).mono ?_
        rintro e w7 ⟨rfl, hb⟩
        have R7_x := hid (R6_xx.out.keep hb)
        have HB7 := hid (bstep (bstep HB6.out hb) (below_alloc w7 (.cells #[.int .i64 P3, .int .i64 Q3] 26)))
        clear hb HB6 R6_xx R6_y
        have g0 := R7_x.out.p0
        have g1 := R7_x.out.p1
        have gl := R7_x.out.lt
        go_wp2_with fail
        refine (HLE.out _).mono ?_
        rintro e w8 ⟨rfl, hb⟩
        have HB8 := hid (bstep HB7.out hb)
        clear g0 g1 gl hb HB7 R7_x
        go_wp2_with fail
        refine (good_bel _ _ _ 3 [0, 0, 0] rfl rfl (by omega)).mono ?_
        rintro e w9 ⟨rfl, hb⟩
        rw [show allOK [0, 0, 0] = true by decide]
        have HB9 := hid (bstep HB8.out hb)
        clear hb HB8
        go_wp2
        go_ret
        exact ⟨rfl, HBZ.out.trans (HB9.out.mono HBZ.out.size)⟩
      · have HM : Hid (∀ W, Below wr.heap.size wr W → Calls Try.prog 10 #[.agg #[.slice A' k c', .slice B m d]] W (RetR W 0 0 (oddErr (vs.map (· % 21)) ws))) := fun W hb => omean_bad _ _ _ _ _ _ _ _ W (HI.out.keep hb) (HJ.out.keep hb) h1
        have HBY : Hid (∀ W, Below wr.heap.size wr W → Calls Try.prog 12 #[.agg #[.slice A' k c', .slice B m d], .int .i64 f] W (RetR W 0 0 (oddErr (vs.map (· % 21)) ws))) := fun W hb => obeyond_bad _ _ _ _ _ _ f _ _ W (HI.out.keep hb) (HJ.out.keep hb) h1
        have hne : (oddErr (vs.map (· % 21)) ws != 0) = true := by simpa using h1
        generalize oddErr (vs.map (· % 21)) ws = er at *
        clear h1 HI HJ
        go_wp2_with fail
        refine (HM.out _ (Below.refl _ _)).mono ?_
        rintro e w5 ⟨rfl, hb⟩
        have HB5 := hid (hb.trans ((below_alloc w5 (.cells #[.int .i64 0, .int .i64 0] 26)).mono hb.size))
        have R5_o := hid (HO.out.keep hb)
        clear g0 g1 hb HO
        have g0 := R5_o.out.p0
        have g1 := R5_o.out.p1
        have gl := R5_o.out.lt
        go_wp2_with fail
        refine (HBY.out _ HB5.out).mono ?_
        rintro e w6 ⟨rfl, hb⟩
        have HB6 := hid (bstep (bstep HB5.out hb) (below_alloc w6 (.cells #[.int .i64 0, .int .i64 0] 26)))
        clear g0 g1 gl hb HB5 R5_o
        go_wp2
        go_ret
        exact ⟨rfl, HBZ.out.trans (HB6.out.mono HBZ.out.size)⟩

end Go.Proofs.Ythdjbmogdlodcaa
