/-
  castlaw.TableauSays, walked.
-/
import Derived.Test.YteffbhdhldilnaaTabY
import Derived.Deep.RegionHeld3
import Derived.Deep.QuietTactic
import Derived.Deep.DeepCutAuto

import Derived.BigQuiet
namespace Go.Proofs.Yteffbhdhldilnaa
open Go.RowKit

/-- What is known when both functions have been called: x in its block, o in its block, the lists. -/
structure TSay (w : World) (wb : World) (A0 : Option Addr) (n0 : Nat) (xs : List Int) (A : Option Addr) (n c : Nat) (A' : Option Addr) (n' c' : Nat) (P Q : List (List Int)) (bo : Nat) (B1 : Option Addr) (m1 d1 : Nat) (B2 : Option Addr) (m2 d2 : Nat) (TP TQ : List (List Int)) (C : Option Addr) (l : Nat) (zs : List Int) : Prop where
  x : PairAt wb w.heap.size A n c A' n' c' P Q
  o : PairAt wb bo B1 m1 d1 B2 m2 d2 TP TQ
  p : Ints wb A0 n0 xs
  q : Ints wb C l zs
  b : Below w.heap.size w wb
theorem TSay.keep {w wb wb' : World} {A0 : Option Addr} {n0 : Nat} {xs : List Int} {A : Option Addr} {n c : Nat} {A' : Option Addr} {n' c' : Nat} {P Q : List (List Int)} {bo : Nat} {B1 : Option Addr} {m1 d1 : Nat} {B2 : Option Addr} {m2 d2 : Nat} {TP TQ : List (List Int)} {C : Option Addr} {l : Nat} {zs : List Int} (h : TSay w wb A0 n0 xs A n c A' n' c' P Q bo B1 m1 d1 B2 m2 d2 TP TQ C l zs) (hb : Below wb.heap.size wb wb') : TSay w wb' A0 n0 xs A n c A' n' c' P Q bo B1 m1 d1 B2 m2 d2 TP TQ C l zs :=
  ⟨h.x.keep hb, h.o.keep hb, h.p.keep hb, h.q.keep hb, below_step h.b (Nat.le_refl _) hb⟩

set_option maxHeartbeats 4000000 in
set_option maxRecDepth 100000 in
theorem tableauSays_any (A0 : Option Addr) (n0 c0 : Nat) (xs : List Int) (A : Option Addr) (n c : Nat) (A' : Option Addr) (n' c' : Nat) (P Q : List (List Int)) (w : World) (h : Ints w A0 n0 xs) (h0 : n0 ≤ 9223372036854775807) (h1 : RRows w A n P) (h2 : RRows w A' n' Q) (hn : n ≤ 2000000) (hn' : n' ≤ 2000000) (hL : P.flatten.length ≤ 2000000) (hL' : Q.flatten.length ≤ 2000000) :
    Calls Try.prog 3 #[.slice A0 n0 c0, .agg #[.slice A n c, .slice A' n' c']] w fun e w' => e = .returned (.bool true) ∧ Below w.heap.size w w' := by
  have HY0 : Hid (PairAt (w.alloc (.cells #[.slice A n c, .slice A' n' c'] 25)) w.heap.size A n c A' n' c' P Q) := PairAt.new h1 h2
  have HB0 := hid (below_alloc w (.cells #[.slice A n c, .slice A' n' c'] 25))
  have HI0 := hid (h.keep HB0.out)
  have HL := hid hL
  have HL' := hid hL'
  have HR : Hid (∀ j, (P.getD j []).length ≤ 4611686018427387904) := fun j => Nat.le_trans (length_le_flat P j) (by omega)
  have HR' : Hid (∀ j, (Q.getD j []).length ≤ 4611686018427387904) := fun j => Nat.le_trans (length_le_flat Q j) (by omega)
  clear h h1 h2 hL hL'
  go_enter Try.func3, Try.ntmps3
  go_wp2_with fail
  refine (tabOf_any A0 n0 c0 xs _ HI0.out h0).mono ?_
  rintro e w1 ⟨B1, m1, d1, B2, m2, d2, TP, TQ, rfl, hR1, hR2, hm1, hm2, hz, hg, hb⟩
  have HO1 : Hid (PairAt (w1.alloc (.cells #[.slice B1 m1 d1, .slice B2 m2 d2] 25)) w1.heap.size B1 m1 d1 B2 m2 d2 TP TQ) := PairAt.new hR1 hR2
  have hb1 := below_step hb (Nat.le_refl _) (below_alloc w1 (.cells #[.slice B1 m1 d1, .slice B2 m2 d2] 25))
  have HB1 := hid (below_step HB0.out (Nat.le_refl _) hb1)
  have HY1 := hid (HY0.out.keep hb1)
  have HI1 := hid (HI0.out.keep hb1)
  have HZ := hid hz
  have HG := hid hg
  obtain ⟨er, her⟩ : ∃ er, er = permErr xs := ⟨_, rfl⟩
  rw [← her] at HZ HG ⊢
  have HER := hid her
  clear hR1 hR2 hb hb1 HB0 HY0 HI0 hz hg her
  have y0 := HY1.out.p0
  have y1 := HY1.out.p1
  go_wp2_with fail
  refine (tback_any A n c A' n' c' P Q _ HY1.out.rp HY1.out.rq (by omega) (by omega) HR.out HR'.out).mono ?_
  rintro e w2 ⟨C, l, lc, zs, rfl, hIz, hl10, hbz, hbok, hb⟩
  have HS2 : Hid (TSay w w2 A0 n0 xs A n c A' n' c' P Q w1.heap.size B1 m1 d1 B2 m2 d2 TP TQ C l zs) := ⟨HY1.out.keep hb, HO1.out.keep hb, HI1.out.keep hb, hIz, below_step HB1.out (Nat.le_refl _) hb⟩
  obtain ⟨bo, hbo⟩ : ∃ bo, bo = w1.heap.size := ⟨_, rfl⟩
  rw [← hbo] at HS2
  obtain ⟨be, hbe⟩ : ∃ be, be = backE P Q := ⟨_, rfl⟩
  rw [← hbe] at hbz hbok ⊢
  have HBZ := hid hbz
  have HBOK := hid hbok
  have HBE := hid hbe
  obtain ⟨eP, heP⟩ : ∃ eP, eP = tabErr P := ⟨_, rfl⟩
  obtain ⟨eQ, heQ⟩ : ∃ eQ, eQ = tabErr Q := ⟨_, rfl⟩
  have HEP := hid heP
  have HEQ := hid heQ
  clear hIz hbz hbok hb hbe heP heQ HY1 HO1 HI1 HB1 y0 y1
  have ne1 : (eP != eP) = false := bne_self_eq_false _
  have ne2 : (eQ != eQ) = false := bne_self_eq_false _
  have y0 := HS2.out.x.p0
  have y1 := HS2.out.x.p1
  go_wp2_with fail
  rw [← hbo]
  clear hbo
  go_region_held3 (fun u => u.cell? ⟨w.heap.size, 0, none⟩ = some (.slice A n c) ∧ u.cell? ⟨w.heap.size, 1, none⟩ = some (.slice A' n' c')) (first | exact ⟨y0, y1⟩ | exact ⟨y03, y13⟩ | exact ⟨y04, y14⟩ | exact ⟨y05, y15⟩ | exact ⟨y06, y16⟩) (first
    | (go_at_call_of 11 (Value.slice A n c); refine (tcheck_any A n c P w2.drew (HS2.out.x.rp.drewN 1) (by omega) HR.out).mono ?_; rintro e w3 ⟨rfl, hb⟩; rw [← HEP.out]; have HS3 := hid ((HS2.out.keep (below_drewN (Below.refl _ _) 1)).keep hb); have y03 := HS3.out.x.p0; have y13 := HS3.out.x.p1; clear hb)
    | (go_at_call_of 12 (Value.slice A n c); refine (tableauErr_any A n c P w3 HS3.out.x.rp hn HL.out).mono ?_; rintro e w4 ⟨rfl, hb⟩; rw [← HEP.out]; have HS4 := hid (HS3.out.keep hb); have y04 := HS4.out.x.p0; have y14 := HS4.out.x.p1; clear hb)
    | (go_at_call_of 11 (Value.slice A' n' c'); refine (tcheck_any A' n' c' Q w4 HS4.out.x.rq (by omega) HR'.out).mono ?_; rintro e w5 ⟨rfl, hb⟩; rw [← HEQ.out]; have HS5 := hid (HS4.out.keep hb); have y05 := HS5.out.x.p0; have y15 := HS5.out.x.p1; clear hb)
    | (go_at_call_of 12 (Value.slice A' n' c'); refine (tableauErr_any A' n' c' Q w5 HS5.out.x.rq hn' HL'.out).mono ?_; rintro e w6 ⟨rfl, hb⟩; rw [← HEQ.out]; have HS6 := hid (HS5.out.keep hb); have y06 := HS6.out.x.p0; have y16 := HS6.out.x.p1; clear hb))
  go_wp2_with fail
  refine (refErr_any A0 n0 c0 xs w6 HS6.out.p h0).mono ?_
  rintro e w7 ⟨rfl, rfl⟩
  rw [← HER.out]
  have ne3 : (er != er) = false := bne_self_eq_false _
  have HND : Hid (er = 0 → n0 ≤ 10 ∧ xs.Nodup) := fun e => by
    rw [HER.out] at e
    have h1 := permErr_ok.1 e
    exact ⟨by rw [← HS6.out.p.len]; exact h1.1, h1.2.nodup_iff.2 (nodup_iota _)⟩
  have z0 := HS6.out.o.p0
  have z1 := HS6.out.o.p1
  clear y0 y1 y03 y13 y04 y14 y05 y15 y06 y16 HS2 HS3 HS4 HS5
  go_upto_region 6 with fail
  go_cut [66] from 39 to 66 (fun t wx => t = .bool false ∧ Hid (TSay w wx A0 n0 xs A n c A' n' c' P Q bo B1 m1 d1 B2 m2 d2 TP TQ C l zs))
  case first =>
    by_cases hz : er = 0
    · obtain ⟨g1, g2⟩ := HG.out hz
      obtain ⟨g3, g4⟩ := HND.out hz
      have her1 : (er != 0) = false := by rw [hz]; rfl
      have her2 : (er == 0) = true := by rw [hz]; rfl
      have HG1 := hid g1
      have HG2 := hid g2
      have HG4 := hid g4
      have HTP : Hid (∀ j, (TP.getD j []).length ≤ 1000000) := fun j => by rw [g1]; exact Nat.le_trans (PT_row_le xs j) (by rw [HS6.out.p.len]; omega)
      have HTQ : Hid (∀ j, (TQ.getD j []).length ≤ 1000000) := fun j => by rw [g2]; exact Nat.le_trans (QT_row_le xs j) (by rw [HS6.out.p.len]; omega)
      clear hz g1 g2 g4
      go_wp2_with fail
      refine wp_region_noPanic ?_
      refine wp_region_held_drew (S := fun u => u.cell? ⟨bo, 0, none⟩ = some (.slice B1 m1 d1) ∧ u.cell? ⟨bo, 1, none⟩ = some (.slice B2 m2 d2)) (by kernel_rfl) ⟨z0, z1⟩ (fun hHeld => ?_)
      refine wpAnyH_take (i := 0) (oi := { dst := some 39, op := Op.move (Operand.tmp 6), type := 26, pos := "law.go:346", after := #[], guard := none }) (v := ?v1) rfl (by kernel_rfl) (by kernel_rfl) (by kernel_rfl) (fun _ _ _ h => h) (Or.inl ⟨by rfl, ?hy1⟩) (by assumption) ?rest1
      case hy1 => (intro w9 hSw; (try dsimp only at hSw); go_simp; try with_reducible rfl)
      try simp only [Act.put, List.setIfInBounds_toArray, List.set_cons_zero, List.set_cons_succ]
      refine wpAnyH_take (i := 1) (oi := { dst := some 40, op := Op.move (Operand.tmp 9), type := 26, pos := "law.go:346", after := #[], guard := none }) (v := ?v2) rfl (by kernel_rfl) (by kernel_rfl) (by kernel_rfl) (fun _ _ _ h => h) (Or.inl ⟨by rfl, ?hy2⟩) (by assumption) ?rest2
      case hy2 => (intro w9 hSw; (try dsimp only at hSw); go_simp; try with_reducible rfl)
      try simp only [Act.put, List.setIfInBounds_toArray, List.set_cons_zero, List.set_cons_succ]
      refine wpAnyH_take (i := 2) (oi := { dst := some 41, op := Op.binOp BinOp.neq 26 (Operand.tmp 39) (Operand.tmp 40) 26, type := 4, pos := "law.go:346", after := #[{ on := 0, ground := Ground.data }, { on := 1, ground := Ground.data }], guard := none }) (v := ?v3) rfl (by kernel_rfl) (by kernel_rfl) (by kernel_rfl) (fun _ _ _ h => h) (Or.inl ⟨by rfl, ?hy3⟩) (by assumption) ?rest3
      case hy3 => (intro w9 hSw; (try dsimp only at hSw); go_simp; try with_reducible rfl)
      try simp only [Act.put, List.setIfInBounds_toArray, List.set_cons_zero, List.set_cons_succ]
      refine wpAnyH_take (i := 3) (oi := { dst := some 42, op := Op.move (Operand.tmp 41), type := 4, pos := "law.go:346", after := #[{ on := 2, ground := Ground.data }], guard := none }) (v := ?v4) rfl (by kernel_rfl) (by kernel_rfl) (by kernel_rfl) (fun _ _ _ h => h) (Or.inl ⟨by rfl, ?hy4⟩) (by assumption) ?rest4
      case hy4 => (intro w9 hSw; (try dsimp only at hSw); go_simp; try with_reducible rfl)
      try simp only [Act.put, List.setIfInBounds_toArray, List.set_cons_zero, List.set_cons_succ]
      refine wpAnyH_take (i := 4) (oi := { dst := some 43, op := Op.move (Operand.tmp 9), type := 26, pos := "law.go:346", after := #[{ on := 3, ground := Ground.guard }], guard := some (3, false) }) (v := ?v5) rfl (by kernel_rfl) (by kernel_rfl) (by kernel_rfl) (fun _ _ _ h => h) (Or.inl ⟨by rfl, ?hy5⟩) (by assumption) ?rest5
      case hy5 => (intro w9 hSw; (try dsimp only at hSw); go_simp; try with_reducible rfl)
      try simp only [Act.put, List.setIfInBounds_toArray, List.set_cons_zero, List.set_cons_succ]
      refine wpAnyH_take (i := 5) (oi := { dst := some 44, op := Op.binOp BinOp.neq 26 (Operand.tmp 43) (Operand.const (Value.int IntKind.i64 0)) 26, type := 4, pos := "law.go:346", after := #[{ on := 4, ground := Ground.data }, { on := 3, ground := Ground.guard }], guard := some (3, false) }) (v := ?v6) rfl (by kernel_rfl) (by kernel_rfl) (by kernel_rfl) (fun _ _ _ h => h) (Or.inl ⟨by rfl, ?hy6⟩) (by assumption) ?rest6
      case hy6 => (intro w9 hSw; (try dsimp only at hSw); go_simp; try with_reducible rfl)
      try simp only [Act.put, List.setIfInBounds_toArray, List.set_cons_zero, List.set_cons_succ]
      refine wpAnyH_take (i := 6) (oi := { dst := some 45, op := Op.move (Operand.tmp 44), type := 4, pos := "law.go:346", after := #[{ on := 5, ground := Ground.data }, { on := 3, ground := Ground.chain }, { on := 3, ground := Ground.guard }], guard := some (3, false) }) (v := ?v7) rfl (by kernel_rfl) (by kernel_rfl) (by kernel_rfl) (fun _ _ _ h => h) (Or.inl ⟨by rfl, ?hy7⟩) (by assumption) ?rest7
      case hy7 => (intro w9 hSw; (try dsimp only at hSw); go_simp; try with_reducible rfl)
      try simp only [Act.put, List.setIfInBounds_toArray, List.set_cons_zero, List.set_cons_succ]
      refine wpAnyH_take (i := 7) (oi := { dst := some 46, op := Op.fieldAddr 25 (Operand.tmp 5) 0, type := 0, pos := "law.go:346", after := #[{ on := 6, ground := Ground.guard }], guard := some (6, true) }) (v := undef) rfl (by kernel_rfl) (by kernel_rfl) (by kernel_rfl) (fun _ _ _ h => h) (Or.inr ⟨by rfl, rfl⟩) (by assumption) ?rest8
      try simp only [Act.put, List.setIfInBounds_toArray, List.set_cons_zero, List.set_cons_succ]
      refine wpAnyH_take (i := 8) (oi := { dst := some 47, op := Op.load 23 (Operand.tmp 46), type := 23, pos := "law.go:346", after := #[{ on := 7, ground := Ground.data }, { on := 6, ground := Ground.guard }], guard := some (6, true) }) (v := undef) rfl (by kernel_rfl) (by kernel_rfl) (by kernel_rfl) (fun _ _ _ h => h) (Or.inr ⟨by rfl, rfl⟩) (by assumption) ?rest9
      try simp only [Act.put, List.setIfInBounds_toArray, List.set_cons_zero, List.set_cons_succ]
      refine wpAnyH_take (i := 9) (oi := { dst := some 48, op := Op.call { callee := Callee.builtin Builtin.len, args := #[Operand.tmp 47], argTypes := #[23] }, type := 3, pos := "law.go:346", after := #[{ on := 8, ground := Ground.data }, { on := 6, ground := Ground.guard }], guard := some (6, true) }) (v := undef) rfl (by kernel_rfl) (by kernel_rfl) (by kernel_rfl) (fun _ _ _ h => h) (Or.inr ⟨by rfl, rfl⟩) (by assumption) ?rest10
      try simp only [Act.put, List.setIfInBounds_toArray, List.set_cons_zero, List.set_cons_succ]
      refine wpAnyH_take (i := 10) (oi := { dst := some 49, op := Op.fieldAddr 25 (Operand.tmp 5) 1, type := 0, pos := "law.go:346", after := #[{ on := 6, ground := Ground.guard }], guard := some (6, true) }) (v := undef) rfl (by kernel_rfl) (by kernel_rfl) (by kernel_rfl) (fun _ _ _ h => h) (Or.inr ⟨by rfl, rfl⟩) (by assumption) ?rest11
      try simp only [Act.put, List.setIfInBounds_toArray, List.set_cons_zero, List.set_cons_succ]
      refine wpAnyH_take (i := 11) (oi := { dst := some 50, op := Op.load 23 (Operand.tmp 49), type := 23, pos := "law.go:346", after := #[{ on := 10, ground := Ground.data }, { on := 6, ground := Ground.guard }], guard := some (6, true) }) (v := undef) rfl (by kernel_rfl) (by kernel_rfl) (by kernel_rfl) (fun _ _ _ h => h) (Or.inr ⟨by rfl, rfl⟩) (by assumption) ?rest12
      try simp only [Act.put, List.setIfInBounds_toArray, List.set_cons_zero, List.set_cons_succ]
      refine wpAnyH_take (i := 12) (oi := { dst := some 51, op := Op.call { callee := Callee.builtin Builtin.len, args := #[Operand.tmp 50], argTypes := #[23] }, type := 3, pos := "law.go:346", after := #[{ on := 11, ground := Ground.data }, { on := 6, ground := Ground.guard }], guard := some (6, true) }) (v := undef) rfl (by kernel_rfl) (by kernel_rfl) (by kernel_rfl) (fun _ _ _ h => h) (Or.inr ⟨by rfl, rfl⟩) (by assumption) ?rest13
      try simp only [Act.put, List.setIfInBounds_toArray, List.set_cons_zero, List.set_cons_succ]
      refine wpAnyH_take (i := 13) (oi := { dst := some 52, op := Op.binOp BinOp.add 3 (Operand.tmp 48) (Operand.tmp 51) 3, type := 3, pos := "law.go:346", after := #[{ on := 9, ground := Ground.data }, { on := 12, ground := Ground.data }, { on := 6, ground := Ground.guard }], guard := some (6, true) }) (v := undef) rfl (by kernel_rfl) (by kernel_rfl) (by kernel_rfl) (fun _ _ _ h => h) (Or.inr ⟨by rfl, rfl⟩) (by assumption) ?rest14
      try simp only [Act.put, List.setIfInBounds_toArray, List.set_cons_zero, List.set_cons_succ]
      refine wpAnyH_take (i := 14) (oi := { dst := some 53, op := Op.binOp BinOp.gtr 3 (Operand.tmp 52) (Operand.const (Value.int IntKind.i64 0)) 3, type := 4, pos := "law.go:346", after := #[{ on := 13, ground := Ground.data }, { on := 6, ground := Ground.guard }], guard := some (6, true) }) (v := undef) rfl (by kernel_rfl) (by kernel_rfl) (by kernel_rfl) (fun _ _ _ h => h) (Or.inr ⟨by rfl, rfl⟩) (by assumption) ?rest15
      try simp only [Act.put, List.setIfInBounds_toArray, List.set_cons_zero, List.set_cons_succ]
      refine wpAnyH_take (i := 15) (oi := { dst := some 54, op := Op.pick (Operand.tmp 45) (Operand.tmp 53) (Operand.const (Value.bool false)), type := 4, pos := "law.go:346", after := #[{ on := 6, ground := Ground.data }, { on := 14, ground := Ground.data }, { on := 3, ground := Ground.guard }], guard := some (3, false) }) (v := ?v16) rfl (by kernel_rfl) (by kernel_rfl) (by kernel_rfl) (fun _ _ _ h => h) (Or.inl ⟨by rfl, ?hy16⟩) (by assumption) ?rest16
      case hy16 => (intro w9 hSw; (try dsimp only at hSw); go_simp; try with_reducible rfl)
      try simp only [Act.put, List.setIfInBounds_toArray, List.set_cons_zero, List.set_cons_succ]
      refine wpAnyH_take (i := 16) (oi := { dst := some 55, op := Op.pick (Operand.tmp 42) (Operand.const (Value.bool true)) (Operand.tmp 54), type := 4, pos := "law.go:346", after := #[{ on := 3, ground := Ground.data }, { on := 15, ground := Ground.data }], guard := none }) (v := ?v17) rfl (by kernel_rfl) (by kernel_rfl) (by kernel_rfl) (fun _ _ _ h => h) (Or.inl ⟨by rfl, ?hy17⟩) (by assumption) ?rest17
      case hy17 => (intro w9 hSw; (try dsimp only at hSw); go_simp; try with_reducible rfl)
      try simp only [Act.put, List.setIfInBounds_toArray, List.set_cons_zero, List.set_cons_succ]
      refine wpAnyH_take (i := 17) (oi := { dst := some 56, op := Op.move (Operand.tmp 55), type := 4, pos := "law.go:346", after := #[{ on := 16, ground := Ground.data }, { on := 6, ground := Ground.chain }], guard := none }) (v := ?v18) rfl (by kernel_rfl) (by kernel_rfl) (by kernel_rfl) (fun _ _ _ h => h) (Or.inl ⟨by rfl, ?hy18⟩) (by assumption) ?rest18
      case hy18 => (intro w9 hSw; (try dsimp only at hSw); go_simp; try with_reducible rfl)
      try simp only [Act.put, List.setIfInBounds_toArray, List.set_cons_zero, List.set_cons_succ]
      refine wpAnyH_take (i := 18) (oi := { dst := some 57, op := Op.move (Operand.tmp 9), type := 26, pos := "law.go:346", after := #[{ on := 17, ground := Ground.guard }], guard := some (17, false) }) (v := ?v19) rfl (by kernel_rfl) (by kernel_rfl) (by kernel_rfl) (fun _ _ _ h => h) (Or.inl ⟨by rfl, ?hy19⟩) (by assumption) ?rest19
      case hy19 => (intro w9 hSw; (try dsimp only at hSw); go_simp; try with_reducible rfl)
      try simp only [Act.put, List.setIfInBounds_toArray, List.set_cons_zero, List.set_cons_succ]
      refine wpAnyH_take (i := 19) (oi := { dst := some 58, op := Op.binOp BinOp.eql 26 (Operand.tmp 57) (Operand.const (Value.int IntKind.i64 0)) 26, type := 4, pos := "law.go:346", after := #[{ on := 18, ground := Ground.data }, { on := 17, ground := Ground.guard }], guard := some (17, false) }) (v := ?v20) rfl (by kernel_rfl) (by kernel_rfl) (by kernel_rfl) (fun _ _ _ h => h) (Or.inl ⟨by rfl, ?hy20⟩) (by assumption) ?rest20
      case hy20 => (intro w9 hSw; (try dsimp only at hSw); go_simp; try with_reducible rfl)
      try simp only [Act.put, List.setIfInBounds_toArray, List.set_cons_zero, List.set_cons_succ]
      refine wpAnyH_take (i := 20) (oi := { dst := some 59, op := Op.move (Operand.tmp 58), type := 4, pos := "law.go:346", after := #[{ on := 19, ground := Ground.data }, { on := 17, ground := Ground.chain }, { on := 17, ground := Ground.guard }], guard := some (17, false) }) (v := ?v21) rfl (by kernel_rfl) (by kernel_rfl) (by kernel_rfl) (fun _ _ _ h => h) (Or.inl ⟨by rfl, ?hy21⟩) (by assumption) ?rest21
      case hy21 => (intro w9 hSw; (try dsimp only at hSw); go_simp; try with_reducible rfl)
      try simp only [Act.put, List.setIfInBounds_toArray, List.set_cons_zero, List.set_cons_succ]
      refine wpAnyH_take (i := 21) (oi := { dst := some 60, op := Op.load 25 (Operand.tmp 5), type := 25, pos := "law.go:346", after := #[{ on := 20, ground := Ground.guard }], guard := some (20, true) }) (v := ?v22) rfl (by kernel_rfl) (by kernel_rfl) (by kernel_rfl) (fun _ _ _ h => h) (Or.inl ⟨by rfl, ?hy22⟩) (by assumption) ?rest22
      case hy22 => (intro w9 hSw; (try dsimp only at hSw); go_simp; try with_reducible rfl)
      try simp only [Act.put, List.setIfInBounds_toArray, List.set_cons_zero, List.set_cons_succ]
      refine wpAnyH_take (i := 22) (oi := { dst := some 61, op := Op.move (Operand.tmp 0), type := 22, pos := "law.go:346", after := #[{ on := 20, ground := Ground.guard }], guard := some (20, true) }) (v := ?v23) rfl (by kernel_rfl) (by kernel_rfl) (by kernel_rfl) (fun _ _ _ h => h) (Or.inl ⟨by rfl, ?hy23⟩) (by assumption) ?rest23
      case hy23 => (intro w9 hSw; (try dsimp only at hSw); go_simp; try with_reducible rfl)
      try simp only [Act.put, List.setIfInBounds_toArray, List.set_cons_zero, List.set_cons_succ]
      refine wpAnyH_ready (rs := [23]) (by kernel_rfl) (by simp) ?_
      refine AllReadyH.cons (o := { dst := some 62, op := Op.call { callee := Callee.value (Operand.func 15), args := #[Operand.tmp 61], argTypes := #[22] }, type := 25, pos := "law.go:346", after := #[{ on := 22, ground := Ground.data }, { on := 20, ground := Ground.chain }, { on := 20, ground := Ground.guard }], guard := some (20, true) }) rfl (fun K hK => ?_) AllReadyH.nil
      go_simp
      refine (refTab_any A0 n0 c0 xs w6.drew (HS6.out.p.drewN 1) g3 HG4.out).mono ?_
      rintro e w7 ⟨A8, n8, c8, A9, n9, c9, rfl, r8, r9, hc8, hc9, _, _, hb⟩
      rw [← HG1.out] at r8
      rw [← HG2.out] at r9
      have HS7 := hid ((HS6.out.keep (below_drewN (Below.refl _ _) 1)).keep hb)
      have z02 := HS7.out.o.p0
      have z12 := HS7.out.o.p1
      have HR8 := hid r8
      have HR9 := hid r9
      have hn8 : n8 ≤ 10 := by rw [← r8.len, HS7.out.o.rp.len]; exact hm1
      have hn9 : n9 ≤ 10 := by rw [← r9.len, HS7.out.o.rq.len]; exact hm2
      clear hb r8 r9 hc8 hc9
      go_wp2_with fail
      refine hK.out _ _ ?hS24 (fun hHeld => ?rest24)
      case hS24 => (try dsimp only); (exact ⟨z02, z12⟩)
      clear hK K
      try simp only [Act.put, List.setIfInBounds_toArray, List.set_cons_zero, List.set_cons_succ]
      refine wpAnyH_ready (rs := [24]) (by kernel_rfl) (by simp) ?_
      refine AllReadyH.cons (o := { dst := some 63, op := Op.call { callee := Callee.value (Operand.func 14), args := #[Operand.tmp 60, Operand.tmp 62], argTypes := #[25, 25] }, type := 4, pos := "law.go:346", after := #[{ on := 21, ground := Ground.data }, { on := 23, ground := Ground.data }, { on := 23, ground := Ground.chain }, { on := 20, ground := Ground.guard }], guard := some (20, true) }) rfl (fun K hK => ?_) AllReadyH.nil
      go_simp
      refine (samePair_any B1 m1 d1 B2 m2 d2 A8 n8 c8 A9 n9 c9 TP TQ TP TQ w7 HS7.out.o.rp HS7.out.o.rq HR8.out HR9.out (by omega) (by omega) (by omega) (by omega) HTP.out HTQ.out HTP.out HTQ.out).mono ?_
      rintro e w8 ⟨rfl, hb⟩
      rw [decide_eq_true rfl, decide_eq_true rfl, Bool.true_and]
      have HS8 := hid (HS7.out.keep hb)
      clear hb
      go_wp2_with fail
      refine hK.out _ _ ?hS25 (fun hHeld => ?rest25)
      case hS25 => (try dsimp only); (exact ⟨HS8.out.o.p0, HS8.out.o.p1⟩)
      clear hK K
      try simp only [Act.put, List.setIfInBounds_toArray, List.set_cons_zero, List.set_cons_succ]
      refine wpAnyH_take (i := 25) (oi := { dst := some 64, op := Op.unOp UnOp.not 4 (Operand.tmp 63), type := 4, pos := "law.go:346", after := #[{ on := 24, ground := Ground.data }, { on := 20, ground := Ground.guard }], guard := some (20, true) }) (v := ?v26) rfl (by kernel_rfl) (by kernel_rfl) (by kernel_rfl) (fun _ _ _ h => h) (Or.inl ⟨by rfl, ?hy26⟩) (by assumption) ?rest26
      case hy26 => (intro w9 hSw; (try dsimp only at hSw); go_simp; try with_reducible rfl)
      try simp only [Act.put, List.setIfInBounds_toArray, List.set_cons_zero, List.set_cons_succ]
      refine wpAnyH_take (i := 26) (oi := { dst := some 65, op := Op.pick (Operand.tmp 59) (Operand.tmp 64) (Operand.const (Value.bool false)), type := 4, pos := "law.go:346", after := #[{ on := 20, ground := Ground.data }, { on := 25, ground := Ground.data }, { on := 17, ground := Ground.guard }], guard := some (17, false) }) (v := ?v27) rfl (by kernel_rfl) (by kernel_rfl) (by kernel_rfl) (fun _ _ _ h => h) (Or.inl ⟨by rfl, ?hy27⟩) (by assumption) ?rest27
      case hy27 => (intro w9 hSw; (try dsimp only at hSw); go_simp; try with_reducible rfl)
      try simp only [Act.put, List.setIfInBounds_toArray, List.set_cons_zero, List.set_cons_succ]
      refine wpAnyH_take (i := 27) (oi := { dst := some 66, op := Op.pick (Operand.tmp 56) (Operand.const (Value.bool true)) (Operand.tmp 65), type := 4, pos := "law.go:346", after := #[{ on := 17, ground := Ground.data }, { on := 26, ground := Ground.data }], guard := none }) (v := ?v28) rfl (by kernel_rfl) (by kernel_rfl) (by kernel_rfl) (fun _ _ _ h => h) (Or.inl ⟨by rfl, ?hy28⟩) (by assumption) ?rest28
      case hy28 => (intro w9 hSw; (try dsimp only at hSw); go_simp; try with_reducible rfl)
      try simp only [Act.put, List.setIfInBounds_toArray, List.set_cons_zero, List.set_cons_succ]
      refine wpAnyH_done (by kernel_rfl) ?_ _
      refine NoPanic.normal ?_
      go_wp2_with fail
      go_meet
      exact ⟨rfl, HS8⟩
    · obtain ⟨g1, g2⟩ := HZ.out hz
      subst g1
      subst g2
      have her1 : (er != 0) = true := by simpa using hz
      have her2 : (er == 0) = false := by simpa using hz
      have HS8 := hid (HS6.out.keep (below_drewN (Below.refl _ _) 1))
      clear hz
      go_wp2_with fail
      refine wp_region_noPanic ?_
      refine wp_region_held_drew (S := fun u => u.cell? ⟨bo, 0, none⟩ = some (.slice B1 0 d1) ∧ u.cell? ⟨bo, 1, none⟩ = some (.slice B2 0 d2)) (by kernel_rfl) ⟨z0, z1⟩ (fun hHeld => ?_)
      refine wpAnyH_take (i := 0) (oi := { dst := some 39, op := Op.move (Operand.tmp 6), type := 26, pos := "law.go:346", after := #[], guard := none }) (v := ?v29) rfl (by kernel_rfl) (by kernel_rfl) (by kernel_rfl) (fun _ _ _ h => h) (Or.inl ⟨by rfl, ?hy29⟩) (by assumption) ?rest29
      case hy29 => (intro w9 hSw; (try dsimp only at hSw); go_simp; try with_reducible rfl)
      try simp only [Act.put, List.setIfInBounds_toArray, List.set_cons_zero, List.set_cons_succ]
      refine wpAnyH_take (i := 1) (oi := { dst := some 40, op := Op.move (Operand.tmp 9), type := 26, pos := "law.go:346", after := #[], guard := none }) (v := ?v30) rfl (by kernel_rfl) (by kernel_rfl) (by kernel_rfl) (fun _ _ _ h => h) (Or.inl ⟨by rfl, ?hy30⟩) (by assumption) ?rest30
      case hy30 => (intro w9 hSw; (try dsimp only at hSw); go_simp; try with_reducible rfl)
      try simp only [Act.put, List.setIfInBounds_toArray, List.set_cons_zero, List.set_cons_succ]
      refine wpAnyH_take (i := 2) (oi := { dst := some 41, op := Op.binOp BinOp.neq 26 (Operand.tmp 39) (Operand.tmp 40) 26, type := 4, pos := "law.go:346", after := #[{ on := 0, ground := Ground.data }, { on := 1, ground := Ground.data }], guard := none }) (v := ?v31) rfl (by kernel_rfl) (by kernel_rfl) (by kernel_rfl) (fun _ _ _ h => h) (Or.inl ⟨by rfl, ?hy31⟩) (by assumption) ?rest31
      case hy31 => (intro w9 hSw; (try dsimp only at hSw); go_simp; try with_reducible rfl)
      try simp only [Act.put, List.setIfInBounds_toArray, List.set_cons_zero, List.set_cons_succ]
      refine wpAnyH_take (i := 3) (oi := { dst := some 42, op := Op.move (Operand.tmp 41), type := 4, pos := "law.go:346", after := #[{ on := 2, ground := Ground.data }], guard := none }) (v := ?v32) rfl (by kernel_rfl) (by kernel_rfl) (by kernel_rfl) (fun _ _ _ h => h) (Or.inl ⟨by rfl, ?hy32⟩) (by assumption) ?rest32
      case hy32 => (intro w9 hSw; (try dsimp only at hSw); go_simp; try with_reducible rfl)
      try simp only [Act.put, List.setIfInBounds_toArray, List.set_cons_zero, List.set_cons_succ]
      refine wpAnyH_take (i := 4) (oi := { dst := some 43, op := Op.move (Operand.tmp 9), type := 26, pos := "law.go:346", after := #[{ on := 3, ground := Ground.guard }], guard := some (3, false) }) (v := ?v33) rfl (by kernel_rfl) (by kernel_rfl) (by kernel_rfl) (fun _ _ _ h => h) (Or.inl ⟨by rfl, ?hy33⟩) (by assumption) ?rest33
      case hy33 => (intro w9 hSw; (try dsimp only at hSw); go_simp; try with_reducible rfl)
      try simp only [Act.put, List.setIfInBounds_toArray, List.set_cons_zero, List.set_cons_succ]
      refine wpAnyH_take (i := 5) (oi := { dst := some 44, op := Op.binOp BinOp.neq 26 (Operand.tmp 43) (Operand.const (Value.int IntKind.i64 0)) 26, type := 4, pos := "law.go:346", after := #[{ on := 4, ground := Ground.data }, { on := 3, ground := Ground.guard }], guard := some (3, false) }) (v := ?v34) rfl (by kernel_rfl) (by kernel_rfl) (by kernel_rfl) (fun _ _ _ h => h) (Or.inl ⟨by rfl, ?hy34⟩) (by assumption) ?rest34
      case hy34 => (intro w9 hSw; (try dsimp only at hSw); go_simp; try with_reducible rfl)
      try simp only [Act.put, List.setIfInBounds_toArray, List.set_cons_zero, List.set_cons_succ]
      refine wpAnyH_take (i := 6) (oi := { dst := some 45, op := Op.move (Operand.tmp 44), type := 4, pos := "law.go:346", after := #[{ on := 5, ground := Ground.data }, { on := 3, ground := Ground.chain }, { on := 3, ground := Ground.guard }], guard := some (3, false) }) (v := ?v35) rfl (by kernel_rfl) (by kernel_rfl) (by kernel_rfl) (fun _ _ _ h => h) (Or.inl ⟨by rfl, ?hy35⟩) (by assumption) ?rest35
      case hy35 => (intro w9 hSw; (try dsimp only at hSw); go_simp; try with_reducible rfl)
      try simp only [Act.put, List.setIfInBounds_toArray, List.set_cons_zero, List.set_cons_succ]
      refine wpAnyH_take (i := 7) (oi := { dst := some 46, op := Op.fieldAddr 25 (Operand.tmp 5) 0, type := 0, pos := "law.go:346", after := #[{ on := 6, ground := Ground.guard }], guard := some (6, true) }) (v := ?v36) rfl (by kernel_rfl) (by kernel_rfl) (by kernel_rfl) (fun _ _ _ h => h) (Or.inl ⟨by rfl, ?hy36⟩) (by assumption) ?rest36
      case hy36 => (intro w9 hSw; (try dsimp only at hSw); go_simp; try with_reducible rfl)
      try simp only [Act.put, List.setIfInBounds_toArray, List.set_cons_zero, List.set_cons_succ]
      refine wpAnyH_take (i := 8) (oi := { dst := some 47, op := Op.load 23 (Operand.tmp 46), type := 23, pos := "law.go:346", after := #[{ on := 7, ground := Ground.data }, { on := 6, ground := Ground.guard }], guard := some (6, true) }) (v := ?v37) rfl (by kernel_rfl) (by kernel_rfl) (by kernel_rfl) (fun _ _ _ h => h) (Or.inl ⟨by rfl, ?hy37⟩) (by assumption) ?rest37
      case hy37 => (intro w9 hSw; (try dsimp only at hSw); go_simp; try with_reducible rfl)
      try simp only [Act.put, List.setIfInBounds_toArray, List.set_cons_zero, List.set_cons_succ]
      refine wpAnyH_take (i := 9) (oi := { dst := some 48, op := Op.call { callee := Callee.builtin Builtin.len, args := #[Operand.tmp 47], argTypes := #[23] }, type := 3, pos := "law.go:346", after := #[{ on := 8, ground := Ground.data }, { on := 6, ground := Ground.guard }], guard := some (6, true) }) (v := ?v38) rfl (by kernel_rfl) (by kernel_rfl) (by kernel_rfl) (fun _ _ _ h => h) (Or.inl ⟨by rfl, ?hy38⟩) (by assumption) ?rest38
      case hy38 => (intro w9 hSw; (try dsimp only at hSw); go_simp; try with_reducible rfl)
      try simp only [Act.put, List.setIfInBounds_toArray, List.set_cons_zero, List.set_cons_succ]
      refine wpAnyH_take (i := 10) (oi := { dst := some 49, op := Op.fieldAddr 25 (Operand.tmp 5) 1, type := 0, pos := "law.go:346", after := #[{ on := 6, ground := Ground.guard }], guard := some (6, true) }) (v := ?v39) rfl (by kernel_rfl) (by kernel_rfl) (by kernel_rfl) (fun _ _ _ h => h) (Or.inl ⟨by rfl, ?hy39⟩) (by assumption) ?rest39
      case hy39 => (intro w9 hSw; (try dsimp only at hSw); go_simp; try with_reducible rfl)
      try simp only [Act.put, List.setIfInBounds_toArray, List.set_cons_zero, List.set_cons_succ]
      refine wpAnyH_take (i := 11) (oi := { dst := some 50, op := Op.load 23 (Operand.tmp 49), type := 23, pos := "law.go:346", after := #[{ on := 10, ground := Ground.data }, { on := 6, ground := Ground.guard }], guard := some (6, true) }) (v := ?v40) rfl (by kernel_rfl) (by kernel_rfl) (by kernel_rfl) (fun _ _ _ h => h) (Or.inl ⟨by rfl, ?hy40⟩) (by assumption) ?rest40
      case hy40 => (intro w9 hSw; (try dsimp only at hSw); go_simp; try with_reducible rfl)
      try simp only [Act.put, List.setIfInBounds_toArray, List.set_cons_zero, List.set_cons_succ]
      refine wpAnyH_take (i := 12) (oi := { dst := some 51, op := Op.call { callee := Callee.builtin Builtin.len, args := #[Operand.tmp 50], argTypes := #[23] }, type := 3, pos := "law.go:346", after := #[{ on := 11, ground := Ground.data }, { on := 6, ground := Ground.guard }], guard := some (6, true) }) (v := ?v41) rfl (by kernel_rfl) (by kernel_rfl) (by kernel_rfl) (fun _ _ _ h => h) (Or.inl ⟨by rfl, ?hy41⟩) (by assumption) ?rest41
      case hy41 => (intro w9 hSw; (try dsimp only at hSw); go_simp; try with_reducible rfl)
      try simp only [Act.put, List.setIfInBounds_toArray, List.set_cons_zero, List.set_cons_succ]
      refine wpAnyH_take (i := 13) (oi := { dst := some 52, op := Op.binOp BinOp.add 3 (Operand.tmp 48) (Operand.tmp 51) 3, type := 3, pos := "law.go:346", after := #[{ on := 9, ground := Ground.data }, { on := 12, ground := Ground.data }, { on := 6, ground := Ground.guard }], guard := some (6, true) }) (v := ?v42) rfl (by kernel_rfl) (by kernel_rfl) (by kernel_rfl) (fun _ _ _ h => h) (Or.inl ⟨by rfl, ?hy42⟩) (by assumption) ?rest42
      case hy42 => (intro w9 hSw; (try dsimp only at hSw); go_simp; try with_reducible rfl)
      try simp only [Act.put, List.setIfInBounds_toArray, List.set_cons_zero, List.set_cons_succ]
      refine wpAnyH_take (i := 14) (oi := { dst := some 53, op := Op.binOp BinOp.gtr 3 (Operand.tmp 52) (Operand.const (Value.int IntKind.i64 0)) 3, type := 4, pos := "law.go:346", after := #[{ on := 13, ground := Ground.data }, { on := 6, ground := Ground.guard }], guard := some (6, true) }) (v := ?v43) rfl (by kernel_rfl) (by kernel_rfl) (by kernel_rfl) (fun _ _ _ h => h) (Or.inl ⟨by rfl, ?hy43⟩) (by assumption) ?rest43
      case hy43 => (intro w9 hSw; (try dsimp only at hSw); go_simp; try with_reducible rfl)
      try simp only [Act.put, List.setIfInBounds_toArray, List.set_cons_zero, List.set_cons_succ]
      refine wpAnyH_take (i := 15) (oi := { dst := some 54, op := Op.pick (Operand.tmp 45) (Operand.tmp 53) (Operand.const (Value.bool false)), type := 4, pos := "law.go:346", after := #[{ on := 6, ground := Ground.data }, { on := 14, ground := Ground.data }, { on := 3, ground := Ground.guard }], guard := some (3, false) }) (v := ?v44) rfl (by kernel_rfl) (by kernel_rfl) (by kernel_rfl) (fun _ _ _ h => h) (Or.inl ⟨by rfl, ?hy44⟩) (by assumption) ?rest44
      case hy44 => (intro w9 hSw; (try dsimp only at hSw); go_simp; try with_reducible rfl)
      try simp only [Act.put, List.setIfInBounds_toArray, List.set_cons_zero, List.set_cons_succ]
      refine wpAnyH_take (i := 16) (oi := { dst := some 55, op := Op.pick (Operand.tmp 42) (Operand.const (Value.bool true)) (Operand.tmp 54), type := 4, pos := "law.go:346", after := #[{ on := 3, ground := Ground.data }, { on := 15, ground := Ground.data }], guard := none }) (v := ?v45) rfl (by kernel_rfl) (by kernel_rfl) (by kernel_rfl) (fun _ _ _ h => h) (Or.inl ⟨by rfl, ?hy45⟩) (by assumption) ?rest45
      case hy45 => (intro w9 hSw; (try dsimp only at hSw); go_simp; try with_reducible rfl)
      try simp only [Act.put, List.setIfInBounds_toArray, List.set_cons_zero, List.set_cons_succ]
      refine wpAnyH_take (i := 17) (oi := { dst := some 56, op := Op.move (Operand.tmp 55), type := 4, pos := "law.go:346", after := #[{ on := 16, ground := Ground.data }, { on := 6, ground := Ground.chain }], guard := none }) (v := ?v46) rfl (by kernel_rfl) (by kernel_rfl) (by kernel_rfl) (fun _ _ _ h => h) (Or.inl ⟨by rfl, ?hy46⟩) (by assumption) ?rest46
      case hy46 => (intro w9 hSw; (try dsimp only at hSw); go_simp; try with_reducible rfl)
      try simp only [Act.put, List.setIfInBounds_toArray, List.set_cons_zero, List.set_cons_succ]
      refine wpAnyH_take (i := 18) (oi := { dst := some 57, op := Op.move (Operand.tmp 9), type := 26, pos := "law.go:346", after := #[{ on := 17, ground := Ground.guard }], guard := some (17, false) }) (v := ?v47) rfl (by kernel_rfl) (by kernel_rfl) (by kernel_rfl) (fun _ _ _ h => h) (Or.inl ⟨by rfl, ?hy47⟩) (by assumption) ?rest47
      case hy47 => (intro w9 hSw; (try dsimp only at hSw); go_simp; try with_reducible rfl)
      try simp only [Act.put, List.setIfInBounds_toArray, List.set_cons_zero, List.set_cons_succ]
      refine wpAnyH_take (i := 19) (oi := { dst := some 58, op := Op.binOp BinOp.eql 26 (Operand.tmp 57) (Operand.const (Value.int IntKind.i64 0)) 26, type := 4, pos := "law.go:346", after := #[{ on := 18, ground := Ground.data }, { on := 17, ground := Ground.guard }], guard := some (17, false) }) (v := ?v48) rfl (by kernel_rfl) (by kernel_rfl) (by kernel_rfl) (fun _ _ _ h => h) (Or.inl ⟨by rfl, ?hy48⟩) (by assumption) ?rest48
      case hy48 => (intro w9 hSw; (try dsimp only at hSw); go_simp; try with_reducible rfl)
      try simp only [Act.put, List.setIfInBounds_toArray, List.set_cons_zero, List.set_cons_succ]
      refine wpAnyH_take (i := 20) (oi := { dst := some 59, op := Op.move (Operand.tmp 58), type := 4, pos := "law.go:346", after := #[{ on := 19, ground := Ground.data }, { on := 17, ground := Ground.chain }, { on := 17, ground := Ground.guard }], guard := some (17, false) }) (v := ?v49) rfl (by kernel_rfl) (by kernel_rfl) (by kernel_rfl) (fun _ _ _ h => h) (Or.inl ⟨by rfl, ?hy49⟩) (by assumption) ?rest49
      case hy49 => (intro w9 hSw; (try dsimp only at hSw); go_simp; try with_reducible rfl)
      try simp only [Act.put, List.setIfInBounds_toArray, List.set_cons_zero, List.set_cons_succ]
      refine wpAnyH_take (i := 21) (oi := { dst := some 60, op := Op.load 25 (Operand.tmp 5), type := 25, pos := "law.go:346", after := #[{ on := 20, ground := Ground.guard }], guard := some (20, true) }) (v := undef) rfl (by kernel_rfl) (by kernel_rfl) (by kernel_rfl) (fun _ _ _ h => h) (Or.inr ⟨by rfl, rfl⟩) (by assumption) ?rest50
      try simp only [Act.put, List.setIfInBounds_toArray, List.set_cons_zero, List.set_cons_succ]
      refine wpAnyH_take (i := 22) (oi := { dst := some 61, op := Op.move (Operand.tmp 0), type := 22, pos := "law.go:346", after := #[{ on := 20, ground := Ground.guard }], guard := some (20, true) }) (v := undef) rfl (by kernel_rfl) (by kernel_rfl) (by kernel_rfl) (fun _ _ _ h => h) (Or.inr ⟨by rfl, rfl⟩) (by assumption) ?rest51
      try simp only [Act.put, List.setIfInBounds_toArray, List.set_cons_zero, List.set_cons_succ]
      refine wpAnyH_take (i := 23) (oi := { dst := some 62, op := Op.call { callee := Callee.value (Operand.func 15), args := #[Operand.tmp 61], argTypes := #[22] }, type := 25, pos := "law.go:346", after := #[{ on := 22, ground := Ground.data }, { on := 20, ground := Ground.chain }, { on := 20, ground := Ground.guard }], guard := some (20, true) }) (v := undef) rfl (by kernel_rfl) (by kernel_rfl) (by kernel_rfl) (fun _ _ _ h => h) (Or.inr ⟨by rfl, rfl⟩) (by assumption) ?rest52
      try simp only [Act.put, List.setIfInBounds_toArray, List.set_cons_zero, List.set_cons_succ]
      refine wpAnyH_take (i := 24) (oi := { dst := some 63, op := Op.call { callee := Callee.value (Operand.func 14), args := #[Operand.tmp 60, Operand.tmp 62], argTypes := #[25, 25] }, type := 4, pos := "law.go:346", after := #[{ on := 21, ground := Ground.data }, { on := 23, ground := Ground.data }, { on := 23, ground := Ground.chain }, { on := 20, ground := Ground.guard }], guard := some (20, true) }) (v := undef) rfl (by kernel_rfl) (by kernel_rfl) (by kernel_rfl) (fun _ _ _ h => h) (Or.inr ⟨by rfl, rfl⟩) (by assumption) ?rest53
      try simp only [Act.put, List.setIfInBounds_toArray, List.set_cons_zero, List.set_cons_succ]
      refine wpAnyH_take (i := 25) (oi := { dst := some 64, op := Op.unOp UnOp.not 4 (Operand.tmp 63), type := 4, pos := "law.go:346", after := #[{ on := 24, ground := Ground.data }, { on := 20, ground := Ground.guard }], guard := some (20, true) }) (v := undef) rfl (by kernel_rfl) (by kernel_rfl) (by kernel_rfl) (fun _ _ _ h => h) (Or.inr ⟨by rfl, rfl⟩) (by assumption) ?rest54
      try simp only [Act.put, List.setIfInBounds_toArray, List.set_cons_zero, List.set_cons_succ]
      refine wpAnyH_take (i := 26) (oi := { dst := some 65, op := Op.pick (Operand.tmp 59) (Operand.tmp 64) (Operand.const (Value.bool false)), type := 4, pos := "law.go:346", after := #[{ on := 20, ground := Ground.data }, { on := 25, ground := Ground.data }, { on := 17, ground := Ground.guard }], guard := some (17, false) }) (v := ?v55) rfl (by kernel_rfl) (by kernel_rfl) (by kernel_rfl) (fun _ _ _ h => h) (Or.inl ⟨by rfl, ?hy55⟩) (by assumption) ?rest55
      case hy55 => (intro w9 hSw; (try dsimp only at hSw); go_simp; try with_reducible rfl)
      try simp only [Act.put, List.setIfInBounds_toArray, List.set_cons_zero, List.set_cons_succ]
      refine wpAnyH_take (i := 27) (oi := { dst := some 66, op := Op.pick (Operand.tmp 56) (Operand.const (Value.bool true)) (Operand.tmp 65), type := 4, pos := "law.go:346", after := #[{ on := 17, ground := Ground.data }, { on := 26, ground := Ground.data }], guard := none }) (v := ?v56) rfl (by kernel_rfl) (by kernel_rfl) (by kernel_rfl) (fun _ _ _ h => h) (Or.inl ⟨by rfl, ?hy56⟩) (by assumption) ?rest56
      case hy56 => (intro w9 hSw; (try dsimp only at hSw); go_simp; try with_reducible rfl)
      try simp only [Act.put, List.setIfInBounds_toArray, List.set_cons_zero, List.set_cons_succ]
      refine wpAnyH_done (by kernel_rfl) ?_ _
      refine NoPanic.normal ?_
      go_wp2_with fail
      go_meet
      exact ⟨rfl, HS8⟩
  case rest =>
    obtain ⟨rfl, HS8⟩ := hcut
    clear z0 z1 HS6
    clear ne1 ne2 ne3
    have hm0 := HS8.out.x.p0
    have hm1 := HS8.out.x.p1
    by_cases hP : eP = 0
    · have heP : (eP == 0) = true := by rw [hP]; rfl
      have HP0 := hid hP
      clear hP
      go_wp2_with fail
      refine (tableauErr_any A n c P wc HS8.out.x.rp hn HL.out).mono ?_
      rintro e wa ⟨rfl, hb⟩
      rw [← HEP.out]
      have HSA := hid (HS8.out.keep hb)
      have a0 := HSA.out.x.p0
      have a1 := HSA.out.x.p1
      clear hb hm0 hm1
      go_wp2_with fail
      refine (tableauErr_any A' n' c' Q wa HSA.out.x.rq hn' HL'.out).mono ?_
      rintro e wb ⟨rfl, hb⟩
      rw [← HEQ.out]
      have HSB := hid (HSA.out.keep hb)
      have b0 := HSB.out.x.p0
      have b1 := HSB.out.x.p1
      clear hb a0 a1
      by_cases hQ : eQ = 0
      · have heQ : (eQ == 0) = true := by rw [hQ]; rfl
        have HQ0 := hid hQ
        clear hQ
        go_wp2_with fail
        refine (equalFunc_len2 A n c A' n' c' P Q wb HSB.out.x.rp HSB.out.x.rq (by omega) (by omega) (fun j => Nat.le_trans (HR.out j) (by omega)) (fun j => Nat.le_trans (HR'.out j) (by omega))).mono ?_
        rintro e wz ⟨rfl, hb⟩
        rw [sameBy_lens]
        have HSC := hid (HSB.out.keep hb)
        have c0' := HSC.out.x.p0
        have c1' := HSC.out.x.p1
        clear hb b0 b1
        by_cases hS : P.map List.length = Q.map List.length
        · rw [decide_eq_true hS]
          have HBE0 : Hid (be = 0) := by
            rw [HBE.out]
            unfold backE
            rw [if_neg (by rw [← HEP.out, HP0.out]; exact fun h => h rfl), if_neg (by rw [← HEQ.out, HQ0.out]; exact fun h => h rfl), if_pos hS]
            rfl
          clear hS
          have HK := hid (HBOK.out HBE0.out)
          have hbe0 : (be == 0) = true := by rw [HBE0.out]; rfl
          have heQn : (eQ != 0) = false := by rw [HQ0.out]; rfl
          have HFP : Hid (P.flatten.length ≤ 1000000) := Nat.le_trans (tab_of_err (by rw [← HEP.out]; exact HP0.out)).flat (by omega)
          have HFQ : Hid (Q.flatten.length ≤ 1000000) := Nat.le_trans (tab_of_err (by rw [← HEQ.out]; exact HQ0.out)).flat (by omega)
          have HPZ : Hid (permErr zs = 0) := HK.out.1
          go_wp2_with fail
          go_region_held3 (fun u => u.cell? ⟨w.heap.size, 0, none⟩ = some (.slice A n c) ∧ u.cell? ⟨w.heap.size, 1, none⟩ = some (.slice A' n' c')) (first | exact ⟨c0', c1'⟩ | exact ⟨d0, d1'⟩ | exact ⟨e0, e1⟩) (first
            | (go_at_call 13; refine (refErr_any C l lc zs wz.drew (HSC.out.q.drewN 1) (by omega)).mono ?_; rintro e w9 ⟨rfl, rfl⟩; rw [HPZ.out])
            | (go_at_call 15; refine (refTab_any C l lc zs wz.drew (HSC.out.q.drewN 1) hl10 ((permErr_ok.1 HPZ.out).2.nodup_iff.2 (nodup_iota _))).mono ?_; rintro e wd ⟨A8, n8, c8, A9, n9, c9, rfl, r8, r9, hc8, hc9, _, _, hb⟩; rw [HK.out.2.1] at r8; rw [HK.out.2.2] at r9; have HSD := hid ((HSC.out.keep (below_drewN (Below.refl _ _) 1)).keep hb); have d0 := HSD.out.x.p0; have d1' := HSD.out.x.p1; have HR8 := hid r8; have HR9 := hid r9; have hn8 : n8 = n := r8.len.symm.trans HSD.out.x.rp.len; have hn9 : n9 = n' := r9.len.symm.trans HSD.out.x.rq.len; have HC8 := hid hc8; have HC9 := hid hc9; subst hn8; subst hn9; clear hb r8 r9 hc8 hc9)
            | (go_at_call 14; refine (samePair_any A8 _ c8 A9 _ c9 A _ c A' _ c' P Q P Q wd HR8.out HR9.out HSD.out.x.rp HSD.out.x.rq (by omega) (by omega) (by omega) (by omega) (fun j => Nat.le_trans (length_le_flat P j) HFP.out) (fun j => Nat.le_trans (length_le_flat Q j) HFQ.out) (fun j => Nat.le_trans (length_le_flat P j) HFP.out) (fun j => Nat.le_trans (length_le_flat Q j) HFQ.out)).mono ?_; rintro e we ⟨rfl, hb⟩; rw [decide_eq_true rfl, decide_eq_true rfl, Bool.true_and]; have HSE := hid (HSD.out.keep hb); have e0 := HSE.out.x.p0; have e1 := HSE.out.x.p1; clear hb))
          go_wp2
          go_ret
          exact ⟨rfl, HSE.out.b⟩
        · rw [decide_eq_false hS]
          have HBE1 : Hid (be = 1) := by
            rw [HBE.out]
            unfold backE
            rw [if_neg (by rw [← HEP.out, HP0.out]; exact fun h => h rfl), if_neg (by rw [← HEQ.out, HQ0.out]; exact fun h => h rfl), if_neg hS]
            rfl
          clear hS
          have hfw : (be == 1) = true := by rw [HBE1.out]; rfl
          have hl0 : l = 0 := HBZ.out (by rw [HBE1.out]; decide)
          subst hl0
          go_wp2
          go_ret
          exact ⟨rfl, HSC.out.b⟩
      · have heQ : (eQ == 0) = false := by simpa using hQ
        have heQn : (eQ != 0) = true := by simpa using hQ
        have HBE1 : Hid (be = eQ) := by
          rw [HBE.out]
          unfold backE
          rw [if_neg (by rw [← HEP.out, HP0.out]; exact fun h => h rfl), if_pos (by rw [← HEQ.out]; exact hQ)]
          exact HEQ.out.symm
        have hfw : (be == eQ) = true := by rw [HBE1.out]; exact beq_self_eq_true _
        have hl0 : l = 0 := HBZ.out (by rw [HBE1.out]; exact hQ)
        subst hl0
        clear hQ
        go_wp2
        go_ret
        exact ⟨rfl, HSB.out.b⟩
    · have heP : (eP == 0) = false := by simpa using hP
      have hePn : (eP != 0) = true := by simpa using hP
      have HBE1 : Hid (be = eP) := by
        rw [HBE.out]
        unfold backE
        rw [if_pos (by rw [← HEP.out]; exact hP)]
        exact HEP.out.symm
      have hfw : (be == eP) = true := by rw [HBE1.out]; exact beq_self_eq_true _
      have hl0 : l = 0 := HBZ.out (by rw [HBE1.out]; exact hP)
      subst hl0
      clear hP
      go_wp2_with fail
      refine (tableauErr_any A n c P wc HS8.out.x.rp hn HL.out).mono ?_
      rintro e wa ⟨rfl, hb⟩
      rw [← HEP.out]
      have HSA := hid (HS8.out.keep hb)
      clear hb hm0 hm1
      go_wp2
      go_ret
      exact ⟨rfl, HSA.out.b⟩
end Go.Proofs.Yteffbhdhldilnaa
