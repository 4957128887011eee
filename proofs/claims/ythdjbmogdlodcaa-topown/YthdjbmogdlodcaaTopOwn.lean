/-
  casttop.TopOwn, walked.
-/
import Derived.Test.YthdjbmogdlodcaaOwnM
import Derived.Test.YthdjbmogdlodcaaOddC
import Derived.Test.YthdjbmogdlodcaaOddS
import Derived.Test.YthdjbmogdlodcaaTill
import Derived.Test.YthdjbmogdlodcaaDerA
import Derived.Test.YthdjbmogdlodcaaTopA
namespace Go.Proofs.Ythdjbmogdlodcaa
open Go.RowKit

set_option maxHeartbeats 8000000 in
set_option maxRecDepth 100000 in
theorem topOwn_any (K : Int) (w : World) :
    Calls Try.prog 9 #[.int .i64 K] w fun e w' => e = .returned (.bool true) ∧ Below w.heap.size w w' := by
  go_enter Try.func9, Try.ntmps9
  go_wp2_with fail
  refine (within_any _ _ _ (by omega) (by omega)).mono ?_
  rintro e w' ⟨rfl, rfl⟩
  obtain ⟨n, hn0⟩ : ∃ n : Nat, K % 3 + 2 = n := ⟨(K % 3 + 2).toNat, by omega⟩
  have hn2 : 2 ≤ n := by omega
  have hn4 : n ≤ 4 := by omega
  have hn1 : 2 + K % 3 = n := by omega
  obtain ⟨q, hq⟩ : ∃ q, K % 3 = q := ⟨_, rfl⟩
  rw [hq] at hn1 ⊢
  have hq1 : 0 ≤ q := by omega
  have hq2 : q ≤ 2 := by omega
  clear hn0 hq
  have HFACT := hid (ownD_facts hn2 hn4)
  have HS0 : Hid (SumsAt (w.alloc (.cells #[.slice none 0 0, .slice none 0 0] 24)) w.heap.size (w.heap.size + 1) (.slice none 0 0) (.slice none 0 0) (vsL (ownD n 0)) (wsL (ownD n 0))) := SumsAt.new w _
  have HB0 : Hid (Below w.heap.size w (w.alloc (.cells #[.slice none 0 0, .slice none 0 0] 24))) := below_alloc w _
  go_wp2_with fail
  obtain ⟨w1, hw1⟩ : ∃ w1, w1 = w.alloc (.cells #[.slice none 0 0, .slice none 0 0] 24) := ⟨_, rfl⟩
  rw [← hw1] at HS0 HB0 ⊢
  clear hw1
  go_loopg [17, 4, 5, 6] (n + 1) (fun g s _ _ _ wr => ∃ (k : Nat) (v u : Value), k ≤ n + 1 ∧ n + 1 - k ≤ g ∧ s = .int .i64 (k : Int) ∧ SumsAt wr w.heap.size (w.heap.size + 1) v u (vsL (ownD n k)) (wsL (ownD n k)) ∧ Below w.heap.size w wr)
  case atStart => exact ⟨0, _, _, Nat.zero_le _, by omega, rfl, HS0.out, HB0.out⟩
  case round =>
    clear HS0 HB0
    obtain ⟨k, v, u, hk, hg, rfl, hs, hbel⟩ := hrel
    have HS1 := hid hs
    have HBE := hid hbel
    have hbl := hs.lt
    clear hs hbel
    by_cases hlt : k < n + 1
    · have hkI : (k : Int) < (n : Int) + 1 := by omega
      have hkI2 : (k : Int) < q + 3 := by omega
      have HFX := hid (fun W => fixed_ok (n : Int) (k : Int) n k rfl rfl W (by omega) (by omega))
      have hfs := fix_small (n := n) (k := k) hn4 (by omega)
      have HLX : Hid ((vsL (ownD n k)).length ≤ 1000000000000) := by show _ ≤ _; rw [vsL_len]; have := ownD_len n k; omega
      have HLY : Hid ((wsL (ownD n k)).length ≤ 1000000000000) := by show _ ≤ _; rw [wsL_len]; have := ownD_len n k; omega
      by_cases hx : 0 < fixN n k
      · have HV : Hid (vsL (ownD n (k + 1)) = vsL (ownD n k) ++ [(k : Int)]) := by show _ = _; rw [ownD, if_pos hx, vsL_append]; rfl
        have HU : Hid (wsL (ownD n (k + 1)) = wsL (ownD n k) ++ [((fixN n k : Nat) : Int)]) := by show _ = _; rw [ownD, if_pos hx, wsL_append]; rfl
        have hxI : 0 < ((fixN n k : Nat) : Int) := by omega
        generalize vsL (ownD n k) = XS at *
        generalize wsL (ownD n k) = YS at *
        generalize fixN n k = x at *
        have HG := hid (HS1.out.both (by omega))
        have HK : Hid (∀ W : World, Below (w.heap.size + 1) wr.drew W → W.cell? ⟨w.heap.size, 0, none⟩ = some v ∧ W.cell? ⟨w.heap.size, 1, none⟩ = some u) := fun W hb => ⟨(hb.cell (p := ⟨w.heap.size, 0, none⟩) (Nat.lt_succ_self _)).trans HS1.out.c0, (hb.cell (p := ⟨w.heap.size, 1, none⟩) (Nat.lt_succ_self _)).trans HS1.out.c1⟩
        go_wp2_with fail
        refine (HFX.out _).mono ?_
        rintro e w' ⟨rfl, rfl⟩
        go_wp2_with fail
        refine region_till (fun w' => w'.cell? ⟨w.heap.size, 0, none⟩ = some v ∧ w'.cell? ⟨w.heap.size, 1, none⟩ = some u) [11, 13] (by kernel_rfl) (HK.out _ (Below.refl _ _)) (fun hHeld => ?_)
        refine till_take0 (i := 0) (o := { dst := some 30, op := Op.fieldAddr 24 (Operand.tmp 3) 0, type := 0, pos := "top.go:142", after := #[], guard := none }) (x := ?v1) rfl (by kernel_rfl) (by kernel_rfl) (by kernel_rfl) (by kernel_rfl) (fun _ _ _ h => h) (Or.inl ⟨by rfl, ?hy1⟩) (by assumption) ?rest1
        case hy1 => (intro w9 _; go_simp; try with_reducible rfl)
        try simp only [Act.put, List.setIfInBounds_toArray, List.set_cons_zero, List.set_cons_succ]
        refine till_take0 (i := 2) (o := { dst := some 32, op := Op.move (Operand.tmp 4), type := 3, pos := "top.go:142", after := #[], guard := none }) (x := ?v2) rfl (by kernel_rfl) (by kernel_rfl) (by kernel_rfl) (by kernel_rfl) (fun _ _ _ h => h) (Or.inl ⟨by rfl, ?hy2⟩) (by assumption) ?rest2
        case hy2 => (intro w9 _; go_simp; try with_reducible rfl)
        try simp only [Act.put, List.setIfInBounds_toArray, List.set_cons_zero, List.set_cons_succ]
        refine till_take0 (i := 5) (o := { dst := some 35, op := Op.fieldAddr 24 (Operand.tmp 3) 1, type := 0, pos := "top.go:142", after := #[], guard := none }) (x := ?v3) rfl (by kernel_rfl) (by kernel_rfl) (by kernel_rfl) (by kernel_rfl) (fun _ _ _ h => h) (Or.inl ⟨by rfl, ?hy3⟩) (by assumption) ?rest3
        case hy3 => (intro w9 _; go_simp; try with_reducible rfl)
        try simp only [Act.put, List.setIfInBounds_toArray, List.set_cons_zero, List.set_cons_succ]
        refine till_take0 (i := 7) (o := { dst := some 37, op := Op.move (Operand.tmp 5), type := 3, pos := "top.go:142", after := #[], guard := none }) (x := ?v4) rfl (by kernel_rfl) (by kernel_rfl) (by kernel_rfl) (by kernel_rfl) (fun _ _ _ h => h) (Or.inl ⟨by rfl, ?hy4⟩) (by assumption) ?rest4
        case hy4 => (intro w9 _; go_simp; try with_reducible rfl)
        try simp only [Act.put, List.setIfInBounds_toArray, List.set_cons_zero, List.set_cons_succ]
        refine till_take (i := 1) (o := { dst := some 31, op := Op.load 22 (Operand.tmp 30), type := 22, pos := "top.go:142", after := #[{ on := 0, ground := Ground.data }], guard := none }) (x := ?v5) rfl (by kernel_rfl) (by kernel_rfl) (by kernel_rfl) (by kernel_rfl) (by kernel_rfl) (fun _ _ _ h => h) (Or.inl ⟨by rfl, ?hy5⟩) (by assumption) ?rest5
        case hy5 => (intro w9 hSw; (try dsimp only at hSw); go_simp; try with_reducible rfl)
        try simp only [Act.put, List.setIfInBounds_toArray, List.set_cons_zero, List.set_cons_succ]
        refine till_take (i := 6) (o := { dst := some 36, op := Op.load 22 (Operand.tmp 35), type := 22, pos := "top.go:142", after := #[{ on := 5, ground := Ground.data }], guard := none }) (x := ?v6) rfl (by kernel_rfl) (by kernel_rfl) (by kernel_rfl) (by kernel_rfl) (by kernel_rfl) (fun _ _ _ h => h) (Or.inl ⟨by rfl, ?hy6⟩) (by assumption) ?rest6
        case hy6 => (intro w9 hSw; (try dsimp only at hSw); go_simp; try with_reducible rfl)
        try simp only [Act.put, List.setIfInBounds_toArray, List.set_cons_zero, List.set_cons_succ]
        refine till_next (rs := [3, 8]) (by kernel_rfl) (by simp) ?_
        refine TillNext.cons (o := { dst := some 33, op := Op.buildSlice 22 1 #[(0, Operand.tmp 32)], type := 22, pos := "top.go:142", after := #[{ on := 2, ground := Ground.data }], guard := none }) rfl (fun K hK => ?_) (TillNext.cons (o := { dst := some 38, op := Op.buildSlice 22 1 #[(0, Operand.tmp 37)], type := 22, pos := "top.go:142", after := #[{ on := 7, ground := Ground.data }], guard := none }) rfl (fun K hK => ?_) TillNext.nil)
        · go_simp
          refine hK.out _ _ ?hS7 (fun hHeld => ?rest7)
          case hS7 => (try dsimp only); (exact HK.out _ ((below_alloc wr.drew (.cells #[.int .i64 (k : Int)] 3)).mono HG.out.lt))
          clear hK K
          try simp only [Act.put, List.setIfInBounds_toArray, List.set_cons_zero, List.set_cons_succ]
          refine till_next (rs := [4, 8]) (by kernel_rfl) (by simp) ?_
          refine TillNext.cons (o := { dst := some 34, op := Op.call { callee := Callee.builtin Builtin.append, args := #[Operand.tmp 31, Operand.tmp 33], argTypes := #[22, 22] }, type := 22, pos := "top.go:142", after := #[{ on := 1, ground := Ground.data }, { on := 3, ground := Ground.data }], guard := none }) rfl (fun K hK => ?_) (TillNext.cons (o := { dst := some 38, op := Op.buildSlice 22 1 #[(0, Operand.tmp 37)], type := 22, pos := "top.go:142", after := #[{ on := 7, ground := Ground.data }], guard := none }) rfl (fun K hK => ?_) TillNext.nil)
          · refine step_appG (wr.drew.alloc (.cells #[.int .i64 (k : Int)] 3)) rfl (.tmp 31) (.tmp 33) rfl (w.heap.size + 1) v XS (k : Int) wr.heap.size rfl rfl (HG.out.drew.alloc (.cells #[.int .i64 (k : Int)] 3)).v0 (lit_cell wr.drew _ _) HLX.out (HG.out.drew.alloc (.cells #[.int .i64 (k : Int)] 3)).lt ?_
            intro gA cA wA hoA hgA hpA
            obtain ⟨GA, BA⟩ := (HG.out.drew.alloc (.cells #[.int .i64 (k : Int)] 3)).growV hoA hgA hpA
            have EA : Below (w.heap.size + 1) wr.drew wA := ((below_alloc wr.drew (.cells #[.int .i64 (k : Int)] 3)).mono HG.out.lt).trans BA
            have HGA := hid GA
            clear GA BA hoA hgA hpA
            refine hK.out _ _ ?hS8 (fun hHeld => ?rest8)
            case hS8 => (try dsimp only); (exact HK.out _ EA)
            clear hK K
            try simp only [Act.put, List.setIfInBounds_toArray, List.set_cons_zero, List.set_cons_succ]
            refine till_take0 (i := 10) (o := { dst := some 40, op := Op.fieldAddr 24 (Operand.tmp 3) 0, type := 0, pos := "top.go:142", after := #[{ on := 0, ground := Ground.phase }, { on := 1, ground := Ground.phase }, { on := 2, ground := Ground.phase }, { on := 3, ground := Ground.phase }, { on := 4, ground := Ground.phase }, { on := 5, ground := Ground.phase }, { on := 6, ground := Ground.phase }, { on := 7, ground := Ground.textOnly Departure.lateStores }, { on := 8, ground := Ground.textOnly Departure.lateStores }, { on := 9, ground := Ground.textOnly Departure.lateStoresUnsure }], guard := none }) (x := ?v9) rfl (by kernel_rfl) (by kernel_rfl) (by kernel_rfl) (by kernel_rfl) (fun _ _ _ h => h) (Or.inl ⟨by rfl, ?hy9⟩) (by assumption) ?rest9
            case hy9 => (intro w9 _; go_simp; try with_reducible rfl)
            try simp only [Act.put, List.setIfInBounds_toArray, List.set_cons_zero, List.set_cons_succ]
            refine till_next (rs := [8]) (by kernel_rfl) (by simp) ?_
            refine TillNext.cons (o := { dst := some 38, op := Op.buildSlice 22 1 #[(0, Operand.tmp 37)], type := 22, pos := "top.go:142", after := #[{ on := 7, ground := Ground.data }], guard := none }) rfl (fun K hK => ?_) TillNext.nil
            go_simp
            refine hK.out _ _ ?hS10 (fun hHeld => ?rest10)
            case hS10 => (try dsimp only); (exact HK.out _ (EA.trans ((below_alloc wA (.cells #[.int .i64 ((x : Nat) : Int)] 3)).mono HGA.out.lt)))
            clear hK K
            try simp only [Act.put, List.setIfInBounds_toArray, List.set_cons_zero, List.set_cons_succ]
            refine till_next (rs := [9]) (by kernel_rfl) (by simp) ?_
            refine TillNext.cons (o := { dst := some 39, op := Op.call { callee := Callee.builtin Builtin.append, args := #[Operand.tmp 36, Operand.tmp 38], argTypes := #[22, 22] }, type := 22, pos := "top.go:142", after := #[{ on := 6, ground := Ground.data }, { on := 8, ground := Ground.data }, { on := 4, ground := Ground.chain }], guard := none }) rfl (fun K hK => ?_) TillNext.nil
            refine step_appG (wA.alloc (.cells #[.int .i64 ((x : Nat) : Int)] 3)) rfl (.tmp 36) (.tmp 38) rfl (w.heap.size + 1) u YS ((x : Nat) : Int) wA.heap.size rfl rfl (HGA.out.alloc (.cells #[.int .i64 ((x : Nat) : Int)] 3)).u0 (lit_cell wA _ _) HLY.out (HGA.out.alloc (.cells #[.int .i64 ((x : Nat) : Int)] 3)).lt ?_
            intro gB cB wB hoB hgB hpB
            obtain ⟨GB, BB⟩ := (HGA.out.alloc (.cells #[.int .i64 ((x : Nat) : Int)] 3)).growU hoB hgB hpB
            have EB : Below (w.heap.size + 1) wr.drew wB := (EA.trans ((below_alloc wA (.cells #[.int .i64 ((x : Nat) : Int)] 3)).mono HGA.out.lt)).trans BB
            have FIN := hid ((HS1.out.drewN 1).put2 GB EB)
            obtain ⟨f0, f1, t0, t1⟩ := (HS1.out.drewN 1).thaw EB
            clear GB BB hoB hgB hpB
            refine hK.out _ _ ?hS11 (fun hHeld => ?rest11)
            case hS11 => (try dsimp only); (exact HK.out _ EB)
            clear hK K
            try simp only [Act.put, List.setIfInBounds_toArray, List.set_cons_zero, List.set_cons_succ]
            refine till_next (rs := [11]) (by kernel_rfl) (by simp) ?_
            refine TillNext.done (o := { dst := none, op := Op.store 22 (Operand.tmp 40) (Operand.tmp 34), type := 0, pos := "top.go:142", after := #[{ on := 10, ground := Ground.data }, { on := 4, ground := Ground.data }, { on := 9, ground := Ground.chain }, { on := 0, ground := Ground.phase }, { on := 1, ground := Ground.phase }, { on := 2, ground := Ground.phase }, { on := 3, ground := Ground.phase }, { on := 4, ground := Ground.phase }, { on := 5, ground := Ground.phase }, { on := 6, ground := Ground.phase }, { on := 7, ground := Ground.textOnly Departure.lateStores }, { on := 8, ground := Ground.textOnly Departure.lateStores }, { on := 9, ground := Ground.textOnly Departure.lateStoresUnsure }], guard := none }) rfl (by kernel_rfl) (fun K hK => ?_) TillNext.nil
            go_simp
            refine hK.out _ _ ?rest12
            clear hK K
            try simp only [Act.put, List.setIfInBounds_toArray, List.set_cons_zero, List.set_cons_succ]
            refine till_next (rs := [12]) (by kernel_rfl) (by simp) ?_
            refine TillNext.done (o := { dst := some 41, op := Op.fieldAddr 24 (Operand.tmp 3) 1, type := 0, pos := "top.go:142", after := #[{ on := 0, ground := Ground.phase }, { on := 1, ground := Ground.phase }, { on := 2, ground := Ground.phase }, { on := 3, ground := Ground.phase }, { on := 4, ground := Ground.phase }, { on := 5, ground := Ground.phase }, { on := 6, ground := Ground.phase }, { on := 7, ground := Ground.phase }, { on := 8, ground := Ground.phase }, { on := 9, ground := Ground.phase }, { on := 10, ground := Ground.phase }, { on := 11, ground := Ground.phase }], guard := none }) rfl (by kernel_rfl) (fun K hK => ?_) TillNext.nil
            go_simp
            refine hK.out _ _ ?rest13
            clear hK K
            try simp only [Act.put, List.setIfInBounds_toArray, List.set_cons_zero, List.set_cons_succ]
            refine till_next (rs := [13]) (by kernel_rfl) (by simp) ?_
            refine TillNext.done (o := { dst := none, op := Op.store 22 (Operand.tmp 41) (Operand.tmp 39), type := 0, pos := "top.go:142", after := #[{ on := 12, ground := Ground.data }, { on := 9, ground := Ground.data }, { on := 11, ground := Ground.chain }, { on := 0, ground := Ground.phase }, { on := 1, ground := Ground.phase }, { on := 2, ground := Ground.phase }, { on := 3, ground := Ground.phase }, { on := 4, ground := Ground.phase }, { on := 5, ground := Ground.phase }, { on := 6, ground := Ground.phase }, { on := 7, ground := Ground.phase }, { on := 8, ground := Ground.phase }, { on := 9, ground := Ground.phase }, { on := 10, ground := Ground.phase }, { on := 11, ground := Ground.phase }], guard := none }) rfl (by kernel_rfl) (fun K hK => ?_) TillNext.nil
            go_simp
            refine hK.out _ _ ?rest14
            clear hK K
            try simp only [Act.put, List.setIfInBounds_toArray, List.set_cons_zero, List.set_cons_succ]
            refine till_done (by kernel_rfl) ?_ _
            go_wp2
            go_roundg (n + 1 - (k + 1))
            case measure => omega
            case rel =>
              have hf := FIN.out
              exact ⟨k + 1, _, _, by omega, by omega, by go_num, by rw [HV.out, HU.out]; exact hf.1, HBE.out.trans ((below_drewN (Below.refl _ _) 1).trans hf.2)⟩
          · go_simp
            refine hK.out _ _ ?hS15 (fun hHeld => ?rest15)
            case hS15 => (try dsimp only); (exact HK.out _ (((below_alloc wr.drew (.cells #[.int .i64 (k : Int)] 3)).mono HG.out.lt).trans ((below_alloc (wr.drew.alloc (.cells #[.int .i64 (k : Int)] 3)) (.cells #[.int .i64 ((x : Nat) : Int)] 3)).mono (HG.out.drew.alloc (.cells #[.int .i64 (k : Int)] 3)).lt)))
            clear hK K
            try simp only [Act.put, List.setIfInBounds_toArray, List.set_cons_zero, List.set_cons_succ]
            refine till_next (rs := [4]) (by kernel_rfl) (by simp) ?_
            refine TillNext.cons (o := { dst := some 34, op := Op.call { callee := Callee.builtin Builtin.append, args := #[Operand.tmp 31, Operand.tmp 33], argTypes := #[22, 22] }, type := 22, pos := "top.go:142", after := #[{ on := 1, ground := Ground.data }, { on := 3, ground := Ground.data }], guard := none }) rfl (fun K hK => ?_) TillNext.nil
            refine step_appG ((wr.drew.alloc (.cells #[.int .i64 (k : Int)] 3)).alloc (.cells #[.int .i64 ((x : Nat) : Int)] 3)) rfl (.tmp 31) (.tmp 33) rfl (w.heap.size + 1) v XS (k : Int) wr.heap.size rfl rfl ((HG.out.drew.alloc (.cells #[.int .i64 (k : Int)] 3)).alloc (.cells #[.int .i64 ((x : Nat) : Int)] 3)).v0 (lit_keep (lit_cell wr.drew _ _) (below_alloc _ _)) HLX.out ((HG.out.drew.alloc (.cells #[.int .i64 (k : Int)] 3)).alloc (.cells #[.int .i64 ((x : Nat) : Int)] 3)).lt ?_
            intro gA cA wA hoA hgA hpA
            obtain ⟨GA, BA⟩ := ((HG.out.drew.alloc (.cells #[.int .i64 (k : Int)] 3)).alloc (.cells #[.int .i64 ((x : Nat) : Int)] 3)).growV hoA hgA hpA
            have EA : Below (w.heap.size + 1) wr.drew wA := (((below_alloc wr.drew (.cells #[.int .i64 (k : Int)] 3)).mono HG.out.lt).trans ((below_alloc (wr.drew.alloc (.cells #[.int .i64 (k : Int)] 3)) (.cells #[.int .i64 ((x : Nat) : Int)] 3)).mono (HG.out.drew.alloc (.cells #[.int .i64 (k : Int)] 3)).lt)).trans BA
            have hq : wA.cell? ⟨wr.heap.size + 1, 0, none⟩ = some (.int .i64 ((x : Nat) : Int)) := (hgA.cell_far ⟨wr.heap.size + 1, 0, none⟩ (by first | (simp; done) | (simp; omega)) (fun e => by have h9 := (HG.out.v0.below_base _ e.symm).2; dsimp only at h9; omega)).trans (lit_cell1 wr.drew (.cells #[.int .i64 (k : Int)] 3) _ _)
            have HQ := hid hq
            have HGA := hid GA
            clear GA BA hoA hgA hpA hq
            refine hK.out _ _ ?hS16 (fun hHeld => ?rest16)
            case hS16 => (try dsimp only); (exact HK.out _ EA)
            clear hK K
            try simp only [Act.put, List.setIfInBounds_toArray, List.set_cons_zero, List.set_cons_succ]
            refine till_take0 (i := 10) (o := { dst := some 40, op := Op.fieldAddr 24 (Operand.tmp 3) 0, type := 0, pos := "top.go:142", after := #[{ on := 0, ground := Ground.phase }, { on := 1, ground := Ground.phase }, { on := 2, ground := Ground.phase }, { on := 3, ground := Ground.phase }, { on := 4, ground := Ground.phase }, { on := 5, ground := Ground.phase }, { on := 6, ground := Ground.phase }, { on := 7, ground := Ground.textOnly Departure.lateStores }, { on := 8, ground := Ground.textOnly Departure.lateStores }, { on := 9, ground := Ground.textOnly Departure.lateStoresUnsure }], guard := none }) (x := ?v17) rfl (by kernel_rfl) (by kernel_rfl) (by kernel_rfl) (by kernel_rfl) (fun _ _ _ h => h) (Or.inl ⟨by rfl, ?hy17⟩) (by assumption) ?rest17
            case hy17 => (intro w9 _; go_simp; try with_reducible rfl)
            try simp only [Act.put, List.setIfInBounds_toArray, List.set_cons_zero, List.set_cons_succ]
            refine till_next (rs := [9]) (by kernel_rfl) (by simp) ?_
            refine TillNext.cons (o := { dst := some 39, op := Op.call { callee := Callee.builtin Builtin.append, args := #[Operand.tmp 36, Operand.tmp 38], argTypes := #[22, 22] }, type := 22, pos := "top.go:142", after := #[{ on := 6, ground := Ground.data }, { on := 8, ground := Ground.data }, { on := 4, ground := Ground.chain }], guard := none }) rfl (fun K hK => ?_) TillNext.nil
            refine step_appG wA rfl (.tmp 36) (.tmp 38) rfl (w.heap.size + 1) u YS ((x : Nat) : Int) (wr.heap.size + 1) rfl rfl HGA.out.u0 HQ.out HLY.out HGA.out.lt ?_
            intro gB cB wB hoB hgB hpB
            obtain ⟨GB, BB⟩ := HGA.out.growU hoB hgB hpB
            have EB : Below (w.heap.size + 1) wr.drew wB := EA.trans BB
            have FIN := hid ((HS1.out.drewN 1).put2 GB EB)
            obtain ⟨f0, f1, t0, t1⟩ := (HS1.out.drewN 1).thaw EB
            clear GB BB hoB hgB hpB
            refine hK.out _ _ ?hS18 (fun hHeld => ?rest18)
            case hS18 => (try dsimp only); (exact HK.out _ EB)
            clear hK K
            try simp only [Act.put, List.setIfInBounds_toArray, List.set_cons_zero, List.set_cons_succ]
            refine till_next (rs := [11]) (by kernel_rfl) (by simp) ?_
            refine TillNext.done (o := { dst := none, op := Op.store 22 (Operand.tmp 40) (Operand.tmp 34), type := 0, pos := "top.go:142", after := #[{ on := 10, ground := Ground.data }, { on := 4, ground := Ground.data }, { on := 9, ground := Ground.chain }, { on := 0, ground := Ground.phase }, { on := 1, ground := Ground.phase }, { on := 2, ground := Ground.phase }, { on := 3, ground := Ground.phase }, { on := 4, ground := Ground.phase }, { on := 5, ground := Ground.phase }, { on := 6, ground := Ground.phase }, { on := 7, ground := Ground.textOnly Departure.lateStores }, { on := 8, ground := Ground.textOnly Departure.lateStores }, { on := 9, ground := Ground.textOnly Departure.lateStoresUnsure }], guard := none }) rfl (by kernel_rfl) (fun K hK => ?_) TillNext.nil
            go_simp
            refine hK.out _ _ ?rest19
            clear hK K
            try simp only [Act.put, List.setIfInBounds_toArray, List.set_cons_zero, List.set_cons_succ]
            refine till_next (rs := [12]) (by kernel_rfl) (by simp) ?_
            refine TillNext.done (o := { dst := some 41, op := Op.fieldAddr 24 (Operand.tmp 3) 1, type := 0, pos := "top.go:142", after := #[{ on := 0, ground := Ground.phase }, { on := 1, ground := Ground.phase }, { on := 2, ground := Ground.phase }, { on := 3, ground := Ground.phase }, { on := 4, ground := Ground.phase }, { on := 5, ground := Ground.phase }, { on := 6, ground := Ground.phase }, { on := 7, ground := Ground.phase }, { on := 8, ground := Ground.phase }, { on := 9, ground := Ground.phase }, { on := 10, ground := Ground.phase }, { on := 11, ground := Ground.phase }], guard := none }) rfl (by kernel_rfl) (fun K hK => ?_) TillNext.nil
            go_simp
            refine hK.out _ _ ?rest20
            clear hK K
            try simp only [Act.put, List.setIfInBounds_toArray, List.set_cons_zero, List.set_cons_succ]
            refine till_next (rs := [13]) (by kernel_rfl) (by simp) ?_
            refine TillNext.done (o := { dst := none, op := Op.store 22 (Operand.tmp 41) (Operand.tmp 39), type := 0, pos := "top.go:142", after := #[{ on := 12, ground := Ground.data }, { on := 9, ground := Ground.data }, { on := 11, ground := Ground.chain }, { on := 0, ground := Ground.phase }, { on := 1, ground := Ground.phase }, { on := 2, ground := Ground.phase }, { on := 3, ground := Ground.phase }, { on := 4, ground := Ground.phase }, { on := 5, ground := Ground.phase }, { on := 6, ground := Ground.phase }, { on := 7, ground := Ground.phase }, { on := 8, ground := Ground.phase }, { on := 9, ground := Ground.phase }, { on := 10, ground := Ground.phase }, { on := 11, ground := Ground.phase }], guard := none }) rfl (by kernel_rfl) (fun K hK => ?_) TillNext.nil
            go_simp
            refine hK.out _ _ ?rest21
            clear hK K
            try simp only [Act.put, List.setIfInBounds_toArray, List.set_cons_zero, List.set_cons_succ]
            refine till_done (by kernel_rfl) ?_ _
            go_wp2
            go_roundg (n + 1 - (k + 1))
            case measure => omega
            case rel =>
              have hf := FIN.out
              exact ⟨k + 1, _, _, by omega, by omega, by go_num, by rw [HV.out, HU.out]; exact hf.1, HBE.out.trans ((below_drewN (Below.refl _ _) 1).trans hf.2)⟩
        · go_simp
          refine hK.out _ _ ?hS22 (fun hHeld => ?rest22)
          case hS22 => (try dsimp only); (exact HK.out _ ((below_alloc wr.drew (.cells #[.int .i64 ((x : Nat) : Int)] 3)).mono HG.out.lt))
          clear hK K
          try simp only [Act.put, List.setIfInBounds_toArray, List.set_cons_zero, List.set_cons_succ]
          refine till_next (rs := [3]) (by kernel_rfl) (by simp) ?_
          refine TillNext.cons (o := { dst := some 33, op := Op.buildSlice 22 1 #[(0, Operand.tmp 32)], type := 22, pos := "top.go:142", after := #[{ on := 2, ground := Ground.data }], guard := none }) rfl (fun K hK => ?_) TillNext.nil
          go_simp
          refine hK.out _ _ ?hS23 (fun hHeld => ?rest23)
          case hS23 => (try dsimp only); (exact HK.out _ (((below_alloc wr.drew (.cells #[.int .i64 ((x : Nat) : Int)] 3)).mono HG.out.lt).trans ((below_alloc (wr.drew.alloc (.cells #[.int .i64 ((x : Nat) : Int)] 3)) (.cells #[.int .i64 (k : Int)] 3)).mono (HG.out.drew.alloc (.cells #[.int .i64 ((x : Nat) : Int)] 3)).lt)))
          clear hK K
          try simp only [Act.put, List.setIfInBounds_toArray, List.set_cons_zero, List.set_cons_succ]
          refine till_next (rs := [4]) (by kernel_rfl) (by simp) ?_
          refine TillNext.cons (o := { dst := some 34, op := Op.call { callee := Callee.builtin Builtin.append, args := #[Operand.tmp 31, Operand.tmp 33], argTypes := #[22, 22] }, type := 22, pos := "top.go:142", after := #[{ on := 1, ground := Ground.data }, { on := 3, ground := Ground.data }], guard := none }) rfl (fun K hK => ?_) TillNext.nil
          refine step_appG ((wr.drew.alloc (.cells #[.int .i64 ((x : Nat) : Int)] 3)).alloc (.cells #[.int .i64 (k : Int)] 3)) rfl (.tmp 31) (.tmp 33) rfl (w.heap.size + 1) v XS (k : Int) (wr.heap.size + 1) rfl rfl ((HG.out.drew.alloc (.cells #[.int .i64 ((x : Nat) : Int)] 3)).alloc (.cells #[.int .i64 (k : Int)] 3)).v0 (lit_cell1 wr.drew (.cells #[.int .i64 ((x : Nat) : Int)] 3) _ _) HLX.out ((HG.out.drew.alloc (.cells #[.int .i64 ((x : Nat) : Int)] 3)).alloc (.cells #[.int .i64 (k : Int)] 3)).lt ?_
          intro gA cA wA hoA hgA hpA
          obtain ⟨GA, BA⟩ := ((HG.out.drew.alloc (.cells #[.int .i64 ((x : Nat) : Int)] 3)).alloc (.cells #[.int .i64 (k : Int)] 3)).growV hoA hgA hpA
          have EA : Below (w.heap.size + 1) wr.drew wA := (((below_alloc wr.drew (.cells #[.int .i64 ((x : Nat) : Int)] 3)).mono HG.out.lt).trans ((below_alloc (wr.drew.alloc (.cells #[.int .i64 ((x : Nat) : Int)] 3)) (.cells #[.int .i64 (k : Int)] 3)).mono (HG.out.drew.alloc (.cells #[.int .i64 ((x : Nat) : Int)] 3)).lt)).trans BA
          have hq : wA.cell? ⟨wr.heap.size, 0, none⟩ = some (.int .i64 ((x : Nat) : Int)) := (hgA.cell_far ⟨wr.heap.size, 0, none⟩ (by first | (simp; done) | (simp; omega)) (fun e => by have h9 := (HG.out.v0.below_base _ e.symm).2; dsimp only at h9; omega)).trans (lit_keep (lit_cell wr.drew _ _) (below_alloc _ _))
          have HQ := hid hq
          have HGA := hid GA
          clear GA BA hoA hgA hpA hq
          refine hK.out _ _ ?hS24 (fun hHeld => ?rest24)
          case hS24 => (try dsimp only); (exact HK.out _ EA)
          clear hK K
          try simp only [Act.put, List.setIfInBounds_toArray, List.set_cons_zero, List.set_cons_succ]
          refine till_take0 (i := 10) (o := { dst := some 40, op := Op.fieldAddr 24 (Operand.tmp 3) 0, type := 0, pos := "top.go:142", after := #[{ on := 0, ground := Ground.phase }, { on := 1, ground := Ground.phase }, { on := 2, ground := Ground.phase }, { on := 3, ground := Ground.phase }, { on := 4, ground := Ground.phase }, { on := 5, ground := Ground.phase }, { on := 6, ground := Ground.phase }, { on := 7, ground := Ground.textOnly Departure.lateStores }, { on := 8, ground := Ground.textOnly Departure.lateStores }, { on := 9, ground := Ground.textOnly Departure.lateStoresUnsure }], guard := none }) (x := ?v25) rfl (by kernel_rfl) (by kernel_rfl) (by kernel_rfl) (by kernel_rfl) (fun _ _ _ h => h) (Or.inl ⟨by rfl, ?hy25⟩) (by assumption) ?rest25
          case hy25 => (intro w9 _; go_simp; try with_reducible rfl)
          try simp only [Act.put, List.setIfInBounds_toArray, List.set_cons_zero, List.set_cons_succ]
          refine till_next (rs := [9]) (by kernel_rfl) (by simp) ?_
          refine TillNext.cons (o := { dst := some 39, op := Op.call { callee := Callee.builtin Builtin.append, args := #[Operand.tmp 36, Operand.tmp 38], argTypes := #[22, 22] }, type := 22, pos := "top.go:142", after := #[{ on := 6, ground := Ground.data }, { on := 8, ground := Ground.data }, { on := 4, ground := Ground.chain }], guard := none }) rfl (fun K hK => ?_) TillNext.nil
          refine step_appG wA rfl (.tmp 36) (.tmp 38) rfl (w.heap.size + 1) u YS ((x : Nat) : Int) wr.heap.size rfl rfl HGA.out.u0 HQ.out HLY.out HGA.out.lt ?_
          intro gB cB wB hoB hgB hpB
          obtain ⟨GB, BB⟩ := HGA.out.growU hoB hgB hpB
          have EB : Below (w.heap.size + 1) wr.drew wB := EA.trans BB
          have FIN := hid ((HS1.out.drewN 1).put2 GB EB)
          obtain ⟨f0, f1, t0, t1⟩ := (HS1.out.drewN 1).thaw EB
          clear GB BB hoB hgB hpB
          refine hK.out _ _ ?hS26 (fun hHeld => ?rest26)
          case hS26 => (try dsimp only); (exact HK.out _ EB)
          clear hK K
          try simp only [Act.put, List.setIfInBounds_toArray, List.set_cons_zero, List.set_cons_succ]
          refine till_next (rs := [11]) (by kernel_rfl) (by simp) ?_
          refine TillNext.done (o := { dst := none, op := Op.store 22 (Operand.tmp 40) (Operand.tmp 34), type := 0, pos := "top.go:142", after := #[{ on := 10, ground := Ground.data }, { on := 4, ground := Ground.data }, { on := 9, ground := Ground.chain }, { on := 0, ground := Ground.phase }, { on := 1, ground := Ground.phase }, { on := 2, ground := Ground.phase }, { on := 3, ground := Ground.phase }, { on := 4, ground := Ground.phase }, { on := 5, ground := Ground.phase }, { on := 6, ground := Ground.phase }, { on := 7, ground := Ground.textOnly Departure.lateStores }, { on := 8, ground := Ground.textOnly Departure.lateStores }, { on := 9, ground := Ground.textOnly Departure.lateStoresUnsure }], guard := none }) rfl (by kernel_rfl) (fun K hK => ?_) TillNext.nil
          go_simp
          refine hK.out _ _ ?rest27
          clear hK K
          try simp only [Act.put, List.setIfInBounds_toArray, List.set_cons_zero, List.set_cons_succ]
          refine till_next (rs := [12]) (by kernel_rfl) (by simp) ?_
          refine TillNext.done (o := { dst := some 41, op := Op.fieldAddr 24 (Operand.tmp 3) 1, type := 0, pos := "top.go:142", after := #[{ on := 0, ground := Ground.phase }, { on := 1, ground := Ground.phase }, { on := 2, ground := Ground.phase }, { on := 3, ground := Ground.phase }, { on := 4, ground := Ground.phase }, { on := 5, ground := Ground.phase }, { on := 6, ground := Ground.phase }, { on := 7, ground := Ground.phase }, { on := 8, ground := Ground.phase }, { on := 9, ground := Ground.phase }, { on := 10, ground := Ground.phase }, { on := 11, ground := Ground.phase }], guard := none }) rfl (by kernel_rfl) (fun K hK => ?_) TillNext.nil
          go_simp
          refine hK.out _ _ ?rest28
          clear hK K
          try simp only [Act.put, List.setIfInBounds_toArray, List.set_cons_zero, List.set_cons_succ]
          refine till_next (rs := [13]) (by kernel_rfl) (by simp) ?_
          refine TillNext.done (o := { dst := none, op := Op.store 22 (Operand.tmp 41) (Operand.tmp 39), type := 0, pos := "top.go:142", after := #[{ on := 12, ground := Ground.data }, { on := 9, ground := Ground.data }, { on := 11, ground := Ground.chain }, { on := 0, ground := Ground.phase }, { on := 1, ground := Ground.phase }, { on := 2, ground := Ground.phase }, { on := 3, ground := Ground.phase }, { on := 4, ground := Ground.phase }, { on := 5, ground := Ground.phase }, { on := 6, ground := Ground.phase }, { on := 7, ground := Ground.phase }, { on := 8, ground := Ground.phase }, { on := 9, ground := Ground.phase }, { on := 10, ground := Ground.phase }, { on := 11, ground := Ground.phase }], guard := none }) rfl (by kernel_rfl) (fun K hK => ?_) TillNext.nil
          go_simp
          refine hK.out _ _ ?rest29
          clear hK K
          try simp only [Act.put, List.setIfInBounds_toArray, List.set_cons_zero, List.set_cons_succ]
          refine till_done (by kernel_rfl) ?_ _
          go_wp2
          go_roundg (n + 1 - (k + 1))
          case measure => omega
          case rel =>
            have hf := FIN.out
            exact ⟨k + 1, _, _, by omega, by omega, by go_num, by rw [HV.out, HU.out]; exact hf.1, HBE.out.trans ((below_drewN (Below.refl _ _) 1).trans hf.2)⟩
      · have HV : Hid (ownD n (k + 1) = ownD n k) := by show _ = _; rw [ownD, if_neg hx]
        have hx0 : fixN n k = 0 := by omega
        rw [hx0] at HFX
        go_wp2_with fail
        refine (HFX.out _).mono ?_
        rintro e w' ⟨rfl, rfl⟩
        go_wp2
        go_roundg (n + 1 - (k + 1))
        case measure => omega
        case rel => exact ⟨k + 1, v, u, by omega, by omega, by go_num, by rw [HV.out]; exact HS1.out, HBE.out⟩
    · obtain rfl : k = n + 1 := by omega
      obtain ⟨hG, ⟨m1, m2⟩, ⟨s1, s2⟩⟩ := HFACT.out
      obtain ⟨A5, c5, rfl, hI5, hC5⟩ := HS1.out.v0.ints
      obtain ⟨A6, c6, rfl, hI6, hC6⟩ := HS1.out.u0.ints
      obtain ⟨k5, hk5⟩ : ∃ k5, k5 = (vsL (ownD n (n + 1))).length := ⟨_, rfl⟩
      obtain ⟨k6, hk6⟩ : ∃ k6, k6 = (wsL (ownD n (n + 1))).length := ⟨_, rfl⟩
      rw [← hk5] at HS1 hI5
      rw [← hk6] at HS1 hI6
      have HM : Hid (∀ W, Below wr.heap.size wr W → Calls Try.prog 10 #[.agg #[.slice A5 k5 c5, .slice A6 k6 c6]] W (RetR W 1 1 0)) := fun W hb => by
        have k := omean_ok A5 k5 c5 A6 k6 c6 _ W (hI5.keep hb) (hI6.keep hb) hG
        rwa [m1, m2] at k
      have HP : Hid (∀ W, Below wr.heap.size wr W → Calls Try.prog 11 #[.agg #[.slice A5 k5 c5, .slice A6 k6 c6]] W (RetR W 1 1 0)) := fun W hb => by
        have k := ospread_ok A5 k5 c5 A6 k6 c6 _ W (hI5.keep hb) (hI6.keep hb) hG
        rwa [s1, s2] at k
      have HO : Hid (OddsAt wr w.heap.size A5 k5 c5 A6 k6 c6) := ⟨HS1.out.c0, HS1.out.c1, HS1.out.f0, HS1.out.f1, HS1.out.lt⟩
      have g0 := HO.out.p0
      have g1 := HO.out.p1
      have hge : ¬ (((n + 1 : Nat) : Int) < q + 3) := by omega
      clear hG m1 m2 s1 s2 hI5 hI6 hC5 hC6 hk5 hk6 HS1 HFACT
      go_wp2_with fail
      refine (HM.out _ (Below.refl _ _)).mono ?_
      rintro e w5 ⟨rfl, hb⟩
      have HO5 := hid (HO.out.keep hb)
      have HX5 := hid (RatAt.new w5 26 1 1)
      have HB5 := hid (bstep hb (below_alloc w5 (.cells #[.int .i64 1, .int .i64 1] 26)))
      clear g0 g1 hb HO HM
      have g0 := HO5.out.p0
      have g1 := HO5.out.p1
      have gl := HO5.out.lt
      go_wp2_with fail
      refine (HP.out _ HB5.out).mono ?_
      rintro e w6 ⟨rfl, hb⟩
      have HX6 := hid (((HX5.out.keep hb).keep_alloc (.cells #[.int .i64 1, .int .i64 1] 26)).keep_alloc (.cells #[.int .i64 1, .int .i64 1] 26))
      have HY6 := hid ((RatAt.new w6 26 1 1).keep_alloc (.cells #[.int .i64 1, .int .i64 1] 26))
      have HZ6 := hid (rat_second w6 (.cells #[.int .i64 1, .int .i64 1] 26) 26 1 1)
      have HB6 := hid (bstep (bstep HB5.out hb) (two_alloc w6 (.cells #[.int .i64 1, .int .i64 1] 26) (.cells #[.int .i64 1, .int .i64 1] 26)))
      clear g0 g1 gl hb HO5 HX5 HB5 HP
      obtain ⟨w7, hw7⟩ : ∃ w7, w7 = (w6.alloc (.cells #[.int .i64 1, .int .i64 1] 26)).alloc (.cells #[.int .i64 1, .int .i64 1] 26) := ⟨_, rfl⟩
      go_wp2_with fail
      rw [← hw7] at HX6 HY6 HZ6 HB6 ⊢
      clear hw7
      refine (works_any _).mono ?_
      rintro e w8 ⟨rfl, hb⟩
      have HX8 := hid (HX6.out.keep hb)
      have HY8 := hid (HY6.out.keep hb)
      have HZ8 := hid (HZ6.out.keep hb)
      have HB8 := hid (bstep HB6.out hb)
      clear hb HX6 HY6 HZ6 HB6
      go_wp2_with fail
      refine (topgood_bel _ _ _ 2 [0, 0] rfl rfl (by omega)).mono ?_
      rintro e w9 ⟨rfl, hb⟩
      rw [show allOK [0, 0] = true by decide]
      have x0 := (HX8.out.keep hb).p0
      have x1 := (HX8.out.keep hb).p1
      have y0 := (HY8.out.keep hb).p0
      have y1 := (HY8.out.keep hb).p1
      have z0 := (HZ8.out.keep hb).p0
      have z1 := (HZ8.out.keep hb).p1
      have HB9 := hid (bstep HB8.out hb)
      clear hb HX8 HY8 HZ8 HB8
      go_wp2
      go_ret
      exact ⟨rfl, HBE.out.trans (HB9.out.mono HBE.out.size)⟩
end Go.Proofs.Ythdjbmogdlodcaa
