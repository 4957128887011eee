/-
  castkeep.OddsTail, walked.
-/
import Derived.Test.YthdjbmogdlodcaaOddsMarkov
import Derived.Test.YthdjbmogdlodcaaOddR
namespace Go.Proofs.Ythdjbmogdlodcaa
open Go.RowKit

set_option maxHeartbeats 4000000 in
set_option maxRecDepth 100000 in
theorem oddsTail_any (A : Option Addr) (n c : Nat) (B : Option Addr) (m d : Nat) (kk : Int) (vs ws : List Int) (w : World) (hI : Ints w A n vs) (hJ : Ints w B m ws) (hn : n ≤ 17592186044416) :
    Calls Try.prog 7 #[.agg #[.slice A n c, .slice B m d], .int .i64 kk] w fun e w' => e = .returned (.bool true) ∧ Below w.heap.size w w' := by
  have HB0 := hid (Below.refl w.heap.size w)
  have HL := hid hI.len
  have HI := hid hI
  have HJ := hid hJ
  have HJ9 := hid hJ
  clear hI hJ
  go_enter Try.func7, Try.ntmps7
  go_wp2_with fail
  obtain ⟨w1, hw1⟩ : ∃ w1, w1 = (w.alloc (.cells #[.slice (A) n c, .slice (B) m d] 24)) := ⟨_, rfl⟩
  have R1_o : Hid (OddsAt w1 w.heap.size (A) n c (B) m d) := by
    rw [hw1]
    have h := (OddsAt.new w 24 (A) n c (B) m d)
    exact h
  have HBx : Hid (Below w.heap.size w w1) := by
    rw [hw1]
    exact below_alloc w _
  rw [← hw1]
  clear hw1 HB0
  have HB1 := HBx
  clear HBx
  refine (oddsLive_any _).mono ?_
  rintro e w2 ⟨rfl, hb⟩
  have R2_o := hid ((R1_o.out).keep hb)
  have HB2 := hid (below_step HB1.out (Nat.le_refl _) hb)
  clear hb HB1 R1_o
  have g0_o := R2_o.out.p0
  have g1_o := R2_o.out.p1
  have gl_o := R2_o.out.lt
  have HI2 := hid (HI.out.keep HB2.out)
  have HJ2 := hid (HJ.out.keep HB2.out)
  clear HI HJ
  go_wp2_with fail
  refine (clone_big A n c vs _ HI2.out hn).mono ?_
  rintro e w3 ⟨v3, rfl, hown, hb⟩
  obtain ⟨A', c', rfl, _, hcap⟩ := hown.ints
  rw [HL.out] at hown hcap ⊢
  have hOA := R2_o.out.keep hb
  have g0 := hOA.p0
  have f0 := hOA.f0
  have hbo : w.heap.size < w2.heap.size := R2_o.out.lt
  obtain ⟨base, hbase⟩ : ∃ base, base = w2.heap.size := ⟨_, rfl⟩
  rw [← hbase] at hown hbo
  obtain ⟨w4, hw4⟩ : ∃ w4, w4 = w3.setCell ⟨w.heap.size, 0, none⟩ (.slice A' n c') := ⟨_, rfl⟩
  have HO4 : Hid (OddsAt w4 w.heap.size A' n c' B m d) := by rw [hw4]; exact hOA.set0 A' n c'
  have HOW4 : Hid (OwnInts w4 base (.slice A' n c') vs) := by rw [hw4]; exact hown.setFar _ 0 hbo _
  have HBZ4 : Hid (Below w.heap.size w w4) := by rw [hw4]; exact (below_step HB2.out (Nat.le_refl _) hb).setCell (Nat.le_refl _) _
  have HJ4 : Hid (Ints w4 B m ws) := hid (by
    have h1 := HJ2.out.keep hb
    refine ⟨h1.len, fun hp => ?_⟩
    obtain ⟨b, o, e, hlt, hc⟩ := HJ9.out.row hp
    refine ⟨b, o, e, Nat.lt_of_lt_of_le hlt HBZ4.out.size, fun j hj => ?_⟩
    exact (HBZ4.out.cell (p := ⟨b, o + j, none⟩) hlt).trans (hc j hj))
  have hbs : base ≤ w4.heap.size := by rw [hw4, hbase]; have := hb.size; simpa [World.setCell] using this
  have HC := hid hcap
  clear hown hcap hb hOA gl_o g0_o g1_o HB2 R2_o HI2 HJ2
  go_wp2_with fail
  rw [← hw4]
  clear hw4 g0 f0 hbase
  have g0 := HO4.out.p0
  go_wp2_with fail
  clear g0
  have HM0 : Hid (OwnInts w4 base (.slice A' n c') (modL 0 vs)) := by rw [modL_zero]; exact HOW4.out
  go_loopg [29, 5, 6] n (fun g s _ _ wr => ∃ k : Nat, k ≤ n ∧ n - k ≤ g ∧ s = .int .i64 k ∧ OwnInts wr base (.slice A' n c') (modL k vs) ∧ Below base w4 wr)
  case atStart => exact ⟨0, Nat.zero_le _, by omega, rfl, HM0.out, Below.refl _ _⟩
  case round =>
    clear HM0 HOW4
    obtain ⟨k, hk, hg, rfl, how, hbel⟩ := hrel
    have HOW := hid how
    have HBE := hid hbel
    have HO := hid (HO4.out.far hbel hbo)
    clear how hbel
    by_cases hlt : k < n
    · have hkl : k < vs.length := by rw [HL.out]; exact hlt
      obtain ⟨g, cap, e, hg1, hg2, hg3⟩ := HOW.out.form (by rw [modL_len]; omega)
      injection e with e1 e2 e3
      subst e1
      have how : OwnInts wr base (.slice (some ⟨g, 0, none⟩) (modL k vs).length c') (modL k vs) := by rw [modL_len, HL.out]; exact HOW.out
      have g2 := how.cell (j := k) (by rw [modL_len]; exact hkl)
      have f2 := how.frozen k
      rw [modL_at hkl] at g2
      have HST := hid (HOW.out.set (by rw [modL_len, HL.out]) k (vs.getD k 0 % 21))
      rw [modL_set hkl] at HST
      have g0 := HO.out.p0
      have hkI : (k : Int) < (n : Int) := by omega
      have hgbo : w.heap.size ≠ g := by omega
      have hnb : n ≤ 17592186044416 := hn
      have HG2 := hid g2
      clear how e2 e3 hkl hg3
      generalize vs.getD k 0 = x at *
      go_wp2_with fail
  
      refine region_till (fun w' => w'.cell? ⟨w.heap.size, 0, none⟩ = some (.slice (some ⟨g, 0, none⟩) n c')) [6] (by kernel_rfl) g0 (fun hHeld => ?_)
      refine till_take (i := 0) (o := { dst := some 34, op := Op.fieldAddr 24 (Operand.tmp 2) 0, type := 0, pos := "mid.go:270", after := #[], guard := none }) (x := ?v8) rfl (by kernel_rfl) (by kernel_rfl) (by kernel_rfl) (by kernel_rfl) (by kernel_rfl) (fun _ _ _ h => h) (Or.inl ⟨by rfl, ?hy8⟩) (by assumption) ?rest8
      case hy8 => (intro w9 hSw; (try dsimp only at hSw); go_simp; try with_reducible rfl)
      try simp only [Act.put, List.setIfInBounds_toArray, List.set_cons_zero, List.set_cons_succ]
      refine till_take (i := 2) (o := { dst := some 36, op := Op.move (Operand.tmp 5), type := 3, pos := "mid.go:270", after := #[], guard := none }) (x := ?v9) rfl (by kernel_rfl) (by kernel_rfl) (by kernel_rfl) (by kernel_rfl) (by kernel_rfl) (fun _ _ _ h => h) (Or.inl ⟨by rfl, ?hy9⟩) (by assumption) ?rest9
      case hy9 => (intro w9 hSw; (try dsimp only at hSw); go_simp; try with_reducible rfl)
      try simp only [Act.put, List.setIfInBounds_toArray, List.set_cons_zero, List.set_cons_succ]
      refine till_take (i := 3) (o := { dst := some 37, op := Op.move (Operand.tmp 6), type := 3, pos := "mid.go:270", after := #[], guard := none }) (x := ?v10) rfl (by kernel_rfl) (by kernel_rfl) (by kernel_rfl) (by kernel_rfl) (by kernel_rfl) (fun _ _ _ h => h) (Or.inl ⟨by rfl, ?hy10⟩) (by assumption) ?rest10
      case hy10 => (intro w9 hSw; (try dsimp only at hSw); go_simp; try with_reducible rfl)
      try simp only [Act.put, List.setIfInBounds_toArray, List.set_cons_zero, List.set_cons_succ]
      refine till_take (i := 1) (o := { dst := some 35, op := Op.load 22 (Operand.tmp 34), type := 22, pos := "mid.go:270", after := #[{ on := 0, ground := Ground.data }], guard := none }) (x := ?v11) rfl (by kernel_rfl) (by kernel_rfl) (by kernel_rfl) (by kernel_rfl) (by kernel_rfl) (fun _ _ _ h => h) (Or.inl ⟨by rfl, ?hy11⟩) (by assumption) ?rest11
      case hy11 => (intro w9 hSw; (try dsimp only at hSw); go_simp; try with_reducible rfl)
      try simp only [Act.put, List.setIfInBounds_toArray, List.set_cons_zero, List.set_cons_succ]
      refine till_next (rs := [4]) (by kernel_rfl) (by simp) ?_
      refine TillNext.cons (o := { dst := some 38, op := Op.call { callee := Callee.value (Operand.func 25), args := #[Operand.tmp 37, Operand.const (Value.int IntKind.i64 21)], argTypes := #[3, 3] }, type := 3, pos := "mid.go:270", after := #[{ on := 3, ground := Ground.data }], guard := none }) rfl (fun K hK => ?_) TillNext.nil
      go_simp
      go_at_call 25
      refine (within_any _ _ _ (by omega) (by omega)).mono ?_
      rintro e w' ⟨rfl, rfl⟩
      go_wp2_with fail
      refine hK.out _ _ ?hS12 (fun hHeld => ?rest12)
      case hS12 => (try dsimp only); (exact hHeld)
      clear hK K
      try simp only [Act.put, List.setIfInBounds_toArray, List.set_cons_zero, List.set_cons_succ]
      refine till_take (i := 5) (o := { dst := some 39, op := Op.indexAddr 22 (Operand.tmp 35) (Operand.tmp 36), type := 0, pos := "mid.go:270", after := #[{ on := 1, ground := Ground.data }, { on := 2, ground := Ground.data }, { on := 0, ground := Ground.phase }, { on := 1, ground := Ground.phase }, { on := 2, ground := Ground.phase }, { on := 3, ground := Ground.phase }, { on := 4, ground := Ground.phase }], guard := none }) (x := ?v13) rfl (by kernel_rfl) (by kernel_rfl) (by kernel_rfl) (by kernel_rfl) (by kernel_rfl) (fun _ _ _ h => h) (Or.inl ⟨by rfl, ?hy13⟩) (by assumption) ?rest13
      case hy13 => (intro w9 hSw; (try dsimp only at hSw); go_simp; try with_reducible rfl)
      try simp only [Act.put, List.setIfInBounds_toArray, List.set_cons_zero, List.set_cons_succ]
      refine till_next (rs := [6]) (by kernel_rfl) (by simp) ?_
      refine TillNext.done (o := { dst := none, op := Op.store 3 (Operand.tmp 39) (Operand.tmp 38), type := 0, pos := "mid.go:270", after := #[{ on := 5, ground := Ground.data }, { on := 4, ground := Ground.data }, { on := 4, ground := Ground.chain }, { on := 0, ground := Ground.phase }, { on := 1, ground := Ground.phase }, { on := 2, ground := Ground.phase }, { on := 3, ground := Ground.phase }, { on := 4, ground := Ground.phase }], guard := none }) rfl (by kernel_rfl) (fun K hK => ?_) TillNext.nil
      go_simp
      refine hK.out _ _ ?rest14
      clear hK K
      try simp only [Act.put, List.setIfInBounds_toArray, List.set_cons_zero, List.set_cons_succ]
      refine till_done (by kernel_rfl) ?_ _
      go_wp2
      go_roundg (n - (k + 1))
      case measure => omega
      case rel => exact ⟨k + 1, by omega, by omega, by go_num, HST.out.drewN 1, (below_drewN HBE.out 1).setCell (by show base ≤ g; omega) _⟩
    · obtain rfl : k = n := by omega
      rw [modL_all vs HL.out.symm] at HOW
      have HBZ := hid (HBZ4.out.trans (HBE.out.mono (Nat.le_of_lt hbo)))
      have HJ := hid (HJ9.out.keep HBZ.out)
      have HI := hid HOW.out.asInts.1
      clear HO4 HBZ4 HJ4 HBE HOW
      have g0 := HO.out.p0
      have g1 := HO.out.p1
      by_cases h1 : oddErr (vs.map (· % 21)) ws = 0
      · obtain ⟨l, hG, hv, hw⟩ := oddErr_zero h1
        have hpos := mod_vals hv
        rw [hv] at HI
        rw [hw] at HJ
        have HM : Hid (∀ W, Below wr.heap.size wr W → Calls Try.prog 10 #[.agg #[.slice A' k c', .slice B m d]] W (RetR W (mean l).num ((mean l).den : Int) 0)) := fun W hb => omean_ok _ _ _ _ _ _ l W (HI.out.keep hb) (HJ.out.keep hb) hG
        have HBY : Hid (∀ (f : Int) W, Below wr.heap.size wr W → Calls Try.prog 12 #[.agg #[.slice A' k c', .slice B m d], .int .i64 f] W (RetR W (Rat.divInt (E (geI f) l) (E one l)).num ((Rat.divInt (E (geI f) l) (E one l)).den : Int) 0)) := fun f W hb => obeyond_ok _ _ _ _ _ _ f l W (HI.out.keep hb) (HJ.out.keep hb) hG
        have HAD : Hid (∀ j W, j < 20 → Calls Try.prog 22 #[.agg #[.int .i64 (tailT l j).num, .int .i64 ((tailT l j).den : Int)], .agg #[.int .i64 (tailR l (j + 1)).num, .int .i64 ((tailR l (j + 1)).den : Int)]] W (RetR W (tailT l (j + 1)).num ((tailT l (j + 1)).den : Int) 0)) := fun j W hj => by
          have k := add_good ((tailT_bd hG (k := j) (by omega)).fits (by omega) (by omega)) ((tailR_bd hG (j + 1)).fits (by omega) (by omega)) (by rw [tailT_step]; exact (tailT_bd hG (k := j + 1) (by omega)).fits (by omega) (by omega)) W
          rw [tailT_step] at k
          exact k
        have HLE : Hid (∀ j W, Calls Try.prog 27 #[.agg #[.int .i64 (tailR l j).num, .int .i64 ((tailR l j).den : Int)], .agg #[.int .i64 (tailR l (j + 1)).num, .int .i64 ((tailR l (j + 1)).den : Int)]] W (RetB W false 0)) := fun j W => by
          have k := rless_ok (tailR l j) (tailR l (j + 1)) W ((tailR_bd hG j).fits (by omega) (by omega)) ((tailR_bd hG (j + 1)).fits (by omega) (by omega))
          rw [decide_eq_false (tailR_less hG j)] at k
          exact k
        have HZ0 := hid (tailT_zero l)
        have HZ1 := hid (tailR_zero hG hpos)
        have HME := hid (tailT_mean hpos)
        have HALL : Hid (∀ f : Int, f ≤ 0 → (Rat.divInt (E (geI f) l) (E one l)).num = 1 ∧ ((Rat.divInt (E (geI f) l) (E one l)).den : Int) = 1) := fun f hf => by rw [ge_all hpos f hf]; exact one_one hG
        obtain ⟨P1, hP1⟩ : ∃ P, (mean l).num = P := ⟨_, rfl⟩
        obtain ⟨Q1, hQ1⟩ : ∃ Q, ((mean l).den : Int) = Q := ⟨_, rfl⟩
        rw [hP1, hQ1] at HM
        have HP1 := hid hP1
        have HQ1 := hid hQ1
        clear hG hpos hv hw h1 HI HJ hP1 hQ1
        go_wp2_with fail
        refine (HM.out _ (Below.refl _ _)).mono ?_
        rintro e w5 ⟨rfl, hb⟩
        have HO5 := hid ((HO.out.keep hb).keep_alloc (.cells #[.int .i64 P1, .int .i64 Q1] 26))
        have HM5 := hid (RatAt.new w5 26 P1 Q1)
        have HB5 := hid (bstep hb (below_alloc w5 (.cells #[.int .i64 P1, .int .i64 Q1] 26)))
        obtain ⟨w6, hw6⟩ : ∃ w6, w6 = w5.alloc (.cells #[.int .i64 P1, .int .i64 Q1] 26) := ⟨_, rfl⟩
        rw [← hw6] at HO5 HM5 HB5
        obtain ⟨bm, hbm⟩ : ∃ bm, bm = w5.heap.size := ⟨_, rfl⟩
        rw [← hbm] at HM5
        obtain ⟨bs, hbs⟩ : ∃ bs, bs = w6.heap.size := ⟨_, rfl⟩
        have hbm1 : bm + 1 = bs := by rw [hbs, hw6, hbm]; simp
        have HS6 : Hid (RatAt ((w6.alloc (.cells #[.int .i64 0, .int .i64 1] 26)).alloc (.cells #[.int .i64 1, .int .i64 1] 26)) bs (tailT l 0).num ((tailT l 0).den : Int)) := by
          rw [HZ0.out.1, HZ0.out.2, hbs]
          exact (RatAt.new w6 _ 0 1).keep_alloc _
        have HL6 : Hid (RatAt ((w6.alloc (.cells #[.int .i64 0, .int .i64 1] 26)).alloc (.cells #[.int .i64 1, .int .i64 1] 26)) (bs + 1) (tailR l 0).num ((tailR l 0).den : Int)) := by
          rw [HZ1.out.1, HZ1.out.2, hbs]
          exact rat_second w6 _ _ 1 1
        have HB6 : Hid (Below bs w6 ((w6.alloc (.cells #[.int .i64 0, .int .i64 1] 26)).alloc (.cells #[.int .i64 1, .int .i64 1] 26))) := by rw [hbs]; exact two_alloc w6 _ _
        have HBS := hid hbs
        have hbol : w.heap.size < bs := by rw [hbs]; exact HO5.out.lt
        clear g0 g1 hb HO HZ0 HZ1 hbs
        go_wp2_with fail
        rw [← hw6]
        obtain ⟨w7, hw7⟩ : ∃ w7, w7 = ((w6.alloc (.cells #[.int .i64 0, .int .i64 1] 26)).alloc (.cells #[.int .i64 1, .int .i64 1] 26)) := ⟨_, rfl⟩
        rw [← hw7] at HS6 HL6 HB6 ⊢
        simp only [← hbm, hbm1]
        have hbmb : bm < bs := by omega
        clear hw7 hw6 hbm hbm1
        go_loopg [11] 20 (fun g s wr => ∃ j : Nat, j ≤ 20 ∧ 20 - j ≤ g ∧ s = .int .i64 ((j : Int) + 1) ∧ RatAt wr bs (tailT l j).num ((tailT l j).den : Int) ∧ RatAt wr (bs + 1) (tailR l j).num ((tailR l j).den : Int) ∧ Below bs w6 wr)
        case atStart => exact ⟨0, by omega, by omega, by go_num, HS6.out, HL6.out, HB6.out⟩
        case round =>
          clear HS6 HL6 HB6
          obtain ⟨j, hj, hgj, rfl, hs, hlst, hbel⟩ := hrel
          have hbelw : Below w6.heap.size w6 wr := by rw [← HBS.out]; exact hbel
          have HS := hid hs
          have HL := hid hlst
          have HBE := hid hbel
          have HO7 := hid (HO5.out.keep hbelw)
          have HBW := hid (bstep HB5.out hbelw)
          have hwsz : w6.heap.size ≤ wr.heap.size := hbelw.size
          rw [← HBS.out] at hwsz
          clear hs hlst hbel hbelw
          have g0 := HO7.out.p0
          have g1 := HO7.out.p1
          by_cases hlt : j < 20
          · have hjI : (j : Int) + 1 ≤ 20 := by omega
            have HBYj := hid (HBY.out ((j : Int) + 1) _ HBW.out)
            have HTR : Hid (Rat.divInt (E (geI ((j : Int) + 1)) l) (E one l) = tailR l (j + 1)) := by
              show _ = _
              unfold tailR
              rw [show ((j + 1 : Nat) : Int) = (j : Int) + 1 by omega]
            rw [HTR.out] at HBYj
            have HLEj := hid (fun W => HLE.out j W)
            have HADj := hid (fun W => HAD.out j W hlt)
            obtain ⟨a0, ha0⟩ : ∃ x, (tailT l j).num = x := ⟨_, rfl⟩
            obtain ⟨a1, ha1⟩ : ∃ x, ((tailT l j).den : Int) = x := ⟨_, rfl⟩
            obtain ⟨b0, hb0⟩ : ∃ x, (tailR l j).num = x := ⟨_, rfl⟩
            obtain ⟨b1, hb1⟩ : ∃ x, ((tailR l j).den : Int) = x := ⟨_, rfl⟩
            obtain ⟨c0, hc0⟩ : ∃ x, (tailT l (j + 1)).num = x := ⟨_, rfl⟩
            obtain ⟨c1, hc1⟩ : ∃ x, ((tailT l (j + 1)).den : Int) = x := ⟨_, rfl⟩
            obtain ⟨d0, hd0⟩ : ∃ x, (tailR l (j + 1)).num = x := ⟨_, rfl⟩
            obtain ⟨d1, hd1⟩ : ∃ x, ((tailR l (j + 1)).den : Int) = x := ⟨_, rfl⟩
            rw [ha0, ha1] at HS HADj
            rw [hb0, hb1] at HL HLEj
            rw [hc0, hc1] at HADj
            rw [hd0, hd1] at HADj HLEj HBYj
            have HC0 := hid hc0
            have HC1 := hid hc1
            have HD0 := hid hd0
            have HD1 := hid hd1
            clear ha0 ha1 hb0 hb1 hc0 hc1 hd0 hd1 HTR
            go_wp2_with fail
            refine HBYj.out.mono ?_
            rintro e w8 ⟨rfl, hb⟩
            have HS8 := hid (HS.out.keep hb)
            have HL8 := hid (HL.out.keep hb)
            have HB8 := hid (HBE.out.trans (hb.mono hwsz))
            have HSZ8 : Hid (bs ≤ w8.heap.size) := Nat.le_trans hwsz hb.size
            have HP8 := hid (RatAt.new w8 26 d0 d1)
            obtain ⟨bp, hbp⟩ : ∃ bp, bp = w8.heap.size := ⟨_, rfl⟩
            have hbpl : bs + 1 < bp := by rw [hbp]; exact HL8.out.lt
            have HBP := hid hbp
            clear hbp
            have e0 := HL8.out.p0
            have e1 := HL8.out.p1
            have el := HL8.out.lt
            clear g0 g1 hb HS HL HBE HO7 HBW HBYj
            go_wp2_with fail
            refine (HLEj.out _).mono ?_
            rintro e w9 ⟨rfl, hb⟩
            have HS9 := hid ((HS8.out.keep_alloc (.cells #[.int .i64 d0, .int .i64 d1] 26)).keep hb)
            have HL9 := hid ((HL8.out.keep_alloc (.cells #[.int .i64 d0, .int .i64 d1] 26)).keep hb)
            have HP9 := hid (HP8.out.keep hb)
            have HB9 := hid ((HB8.out.trans ((below_alloc w8 (.cells #[.int .i64 d0, .int .i64 d1] 26)).mono HSZ8.out)).trans (hb.mono (by simp; have := HSZ8.out; omega)))
            rw [← HBP.out] at HP9
            clear e0 e1 el hb HS8 HL8 HP8 HB8 HLEj
            have e0 := HS9.out.p0
            have e1 := HS9.out.p1
            have e2 := HP9.out.p0
            have e3 := HP9.out.p1
            have HSZ9 : Hid (bs ≤ w9.heap.size) := by have := HS9.out.lt; exact (by omega : bs ≤ w9.heap.size)
            simp only [← HBP.out]
            go_wp2_with fail
            refine (HADj.out _).mono ?_
            rintro e w10 ⟨rfl, hb⟩
            have HS10 := hid ((HS9.out.keep hb).keep_alloc (.cells #[.int .i64 c0, .int .i64 c1] 26))
            have HL10 := hid ((HL9.out.keep hb).keep_alloc (.cells #[.int .i64 c0, .int .i64 c1] 26))
            have HP10 := hid ((HP9.out.keep hb).keep_alloc (.cells #[.int .i64 c0, .int .i64 c1] 26))
            have HN10 := hid (RatAt.new w10 26 c0 c1)
            obtain ⟨bn, hbn⟩ : ∃ bn, bn = w10.heap.size := ⟨_, rfl⟩
            have hbnl : bs + 1 < bn := by rw [hbn]; exact (HL9.out.keep hb).lt
            have HBN := hid hbn
            clear hbn
            have HB10 := hid ((HB9.out.trans (hb.mono HSZ9.out)).trans ((below_alloc w10 (.cells #[.int .i64 c0, .int .i64 c1] 26)).mono (Nat.le_trans HSZ9.out hb.size)))
            clear e0 e1 e2 e3 hb HS9 HL9 HP9 HB9 HADj
            go_wp2_with fail
            refine (good_bel1 _ _ _ _ 3 [0, 0, 0] rfl rfl (by omega)).mono ?_
            rintro e w11 ⟨rfl, hb⟩
            rw [show allOK [0, 0, 0] = true by decide]
            have HS11 := hid (HS10.out.keep hb)
            have HL11 := hid (HL10.out.keep hb)
            have HP11 := hid (HP10.out.keep hb)
            have HN11 := hid (HN10.out.keep hb)
            have HB11 := hid (HB10.out.trans (hb.mono (by have := HS10.out.lt; omega)))
            rw [← HBN.out] at HN11
            clear hb HS10 HL10 HP10 HN10 HB10
            have e0 := HP11.out.p0
            have e1 := HP11.out.p1
            have e2 := HN11.out.p0
            have e3 := HN11.out.p1
            have e4 := HS11.out.p0
            have e5 := HS11.out.p1
            have e6 := HL11.out.p0
            have e7 := HL11.out.p1
            have f4 := HS11.out.f0
            have f5 := HS11.out.f1
            have f6 := HL11.out.f0
            have f7 := HL11.out.f1
            have n1 : bs ≠ bp := by omega
            have n2 : bs ≠ bn := by omega
            have n3 : bs + 1 ≠ bp := by omega
            have n4 : bs + 1 ≠ bn := by omega
            simp only [← HBN.out]
            go_wp2_with fail
            go_region
            go_wp2
            go_roundg (20 - (j + 1))
            case measure => omega
            case rel =>
              have r0 := HC0.out
              have r1 := HC1.out
              have r2 := HD0.out
              have r3 := HD1.out
              refine ⟨j + 1, by omega, by omega, by go_num, ?_, ?_, ?_⟩
              · rw [r0, r1]
                exact (HS11.out.drewN 1).put2 (HL11.out.drewN 1) c0 c1 d0 d1 (by omega)
              · rw [r2, r3]
                exact (HL11.out.drewN 1).put2b (HS11.out.drewN 1) c0 c1 d0 d1 (by omega)
              · exact (((((below_drewN HB11.out 1).setCell (Nat.le_refl _) _).setCell (Nat.le_refl _) _).setCell (Nat.le_succ _) _).setCell (Nat.le_succ _) _)
          · obtain rfl : j = 20 := by omega
            rw [HME.out, HP1.out, HQ1.out] at HS
            have HM7 := hid (HM5.out.keep (by rw [← HBS.out]; exact HBE.out))
            go_wp2_with fail
            refine (within_any _ _ _ (by omega) (by omega)).mono ?_
            rintro e w' ⟨rfl, rfl⟩
            have hl1 : 0 ≤ kk % 9 := by omega
            have hl2 : kk % 9 < 9 := by omega
            generalize kk % 9 = q at *
            have HBYj := hid (HBY.out (-q) _ HBW.out)
            rw [(HALL.out (-q) (by omega)).1, (HALL.out (-q) (by omega)).2] at HBYj
            go_wp2_with fail
            refine HBYj.out.mono ?_
            rintro e w8 ⟨rfl, hb⟩
            have e0 := (HS.out.keep hb).p0
            have e1 := (HS.out.keep hb).p1
            have el := (HS.out.keep hb).lt
            have e2 := (HM7.out.keep hb).p0
            have e3 := (HM7.out.keep hb).p1
            have el2 := (HM7.out.keep hb).lt
            have HBX := hid (bstep (bstep HBW.out hb) (below_alloc w8 (.cells #[.int .i64 1, .int .i64 1] 26)))
            clear hb HS HL HBE HO7 HBW HM7 g0 g1
            go_wp2
            go_ret
            exact ⟨rfl, HBZ.out.trans (HBX.out.mono HBZ.out.size)⟩
      · have HM : Hid (∀ W, Below wr.heap.size wr W → Calls Try.prog 10 #[.agg #[.slice A' k c', .slice B m d]] W (RetR W 0 0 (oddErr (vs.map (· % 21)) ws))) := fun W hb => omean_bad _ _ _ _ _ _ _ _ W (HI.out.keep hb) (HJ.out.keep hb) h1
        have hne : (oddErr (vs.map (· % 21)) ws != 0) = true := by simpa using h1
        generalize oddErr (vs.map (· % 21)) ws = er at *
        clear h1 HI HJ
        go_wp2_with fail
        refine (HM.out _ (Below.refl _ _)).mono ?_
        rintro e w5 ⟨rfl, hb⟩
        have HB5 := hid (bstep hb (below_alloc w5 (.cells #[.int .i64 0, .int .i64 0] 26)))
        clear g0 g1 hb HO
        go_wp2
        go_ret
        exact ⟨rfl, HBZ.out.trans (HB5.out.mono HBZ.out.size)⟩

end Go.Proofs.Ythdjbmogdlodcaa
