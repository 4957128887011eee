/-
  Proved: for whatever two distributions, mean and spread of their sum are the sums of theirs (where Both answers OK), and Both hands out nothing else.
  Conditions: none.
-/
import Derived.Test.YthdjbmogdlodcaaOddsSums
import Derived.Lib.SmallJoins
import Derived.Test.YthdjbmogdlodcaaOddW
import Derived.WalkKit
import Derived.ProofKit
import Derived.OpenShut
import Derived.ShutString
import Derived.ChangeOld
import Derived.Below
namespace Go.Proofs.Ythdjbmogdlodcaa.oddsSums
open Go.ChangeShapes Go.WideShapes Go.ChangeAt Go.RowKit Go.Deep Go.Joins
set_option linter.unusedVariables false

theorem own : ownKnob Try.prog.godebug = none := by kernel_rfl
theorem laidOut : laidOutB Try.prog = true := by kernel_rfl

set_option maxRecDepth 100000 in
theorem lifted (os : Os) (started : os.Started) (H : Type) (enc : TypeId × Value → H) :
    ReturnsInHanded {} Try.checked os 4 .any (Rows.oddsSumsSpec.pre6 enc Try.prog Try.f4 Rows.oddsSumsRow.domain false) (Rows.oddsSumsSpec.post enc Try.prog Try.f4 false true false false) := by
  refine returnsInHanded_of_change_sized (C := Try.checked) own started (by kernel_rfl) Try.func4
    (ChangeSpec.witness6 (enc := enc) (C := Try.checked) false ⟨#[], #[.agg #[.slice none 0 0, .slice none 0 0], .agg #[.slice none 0 0, .slice none 0 0]], []⟩ 8 (by kernel_rfl) (by kernel_rfl) (by kernel_rfl) (by kernel_rfl)) ?_
  intro W base args ds gs before hval0 hW hcnd hsz0 _
  have hval : ∀ (j : Nat) t v, Try.f4.params[j]? = some t → args[j]? = some v → Value.okWide Try.prog W .any base t v := hval0
  have hsz : (DataW.weightsEach Try.prog (Try.f4.params.toList ++ Rows.oddsSumsSpec.plain.varTypes Try.prog) (ds ++ gs)).all (· ≤ reachBytes) = true := hsz0
  have hW' := hW
  obtain ⟨p, q, hA0, hV, rfl, hfz, hnd⟩ := hW
  have hA : DataW.TrodAll enc Try.prog W 0 (fun _ => true) true Try.f4.params.toList args.toList ds p := hA0
  rw [Try.params4] at hA hval hsz
  obtain ⟨v0, vs0, d0, ds0, p0, q0, hargs0, rfl, rfl, h0, r0⟩ := trodAll_cons hA
  obtain ⟨v1, vs1, d1, ds1, p1, q1, hargs1, rfl, rfl, h1, r1⟩ := trodAll_cons r0
  obtain ⟨rfl, rfl, rfl⟩ := trodAll_nil r1
  obtain rfl : args = #[v0, v1] := by cases args; simp_all
  obtain ⟨rfl, rfl⟩ := trodVars_none hV
  have k0 := h0
  have lt0 : ∀ x ∈ p0, x.block < W.heap.size := by obtain ⟨m, hm⟩ := k0; exact DataW.trod_lt m _ _ _ hm
  obtain ⟨u0, x0, y0, z0, fu0, rfl, hd0, _, ht0, hu0⟩ := open_agg2 Try.underlying24 (by kernel_rfl) (by kernel_rfl) (hval 0 24 v0 rfl rfl) h0
  obtain ⟨A0, n0, c0, s0, rfl, I0, C0, hb0⟩ := ints_of_trod ht0
  obtain ⟨B0, m0, e0, t0, rfl, J0, D0, hc0⟩ := ints_of_trod hu0
  have H0 : n0 ≤ 17592186044416 := hb0 (fun b hb => of_decide_eq_true (List.all_eq_true.1 hsz _ (DataW.weights_mem_each (j := 0) (t := 24) rfl rfl _ (by
    rw [hd0]
    simp only [DataW.weights, Try.underlying24]
    exact DataW.weights_mem_each (j := 0) (t := 22) rfl rfl _ hb))))
  have G0 : m0 ≤ 17592186044416 := hc0 (fun b hb => of_decide_eq_true (List.all_eq_true.1 hsz _ (DataW.weights_mem_each (j := 0) (t := 24) rfl rfl _ (by
    rw [hd0]
    simp only [DataW.weights, Try.underlying24]
    exact DataW.weights_mem_each (j := 1) (t := 22) rfl rfl _ hb))))
  have k1 := h1
  have lt1 : ∀ x ∈ p1, x.block < W.heap.size := by obtain ⟨m, hm⟩ := k1; exact DataW.trod_lt m _ _ _ hm
  obtain ⟨u1, x1, y1, z1, fu1, rfl, hd1, _, ht1, hu1⟩ := open_agg2 Try.underlying24 (by kernel_rfl) (by kernel_rfl) (hval 1 24 v1 rfl rfl) h1
  obtain ⟨A1, n1, c1, s1, rfl, I1, C1, hb1⟩ := ints_of_trod ht1
  obtain ⟨B1, m1, e1, t1, rfl, J1, D1, hc1⟩ := ints_of_trod hu1
  have H1 : n1 ≤ 17592186044416 := hb1 (fun b hb => of_decide_eq_true (List.all_eq_true.1 hsz _ (DataW.weights_mem_each (j := 1) (t := 24) rfl rfl _ (by
    rw [hd1]
    simp only [DataW.weights, Try.underlying24]
    exact DataW.weights_mem_each (j := 0) (t := 22) rfl rfl _ hb))))
  have G1 : m1 ≤ 17592186044416 := hc1 (fun b hb => of_decide_eq_true (List.all_eq_true.1 hsz _ (DataW.weights_mem_each (j := 1) (t := 24) rfl rfl _ (by
    rw [hd1]
    simp only [DataW.weights, Try.underlying24]
    exact DataW.weights_mem_each (j := 1) (t := 22) rfl rfl _ hb))))
  clear hA0 hval0
  have key : Calls Try.prog 4 #[.agg #[.slice A0 n0 c0, .slice B0 m0 e0], .agg #[.slice A1 n1 c1, .slice B1 m1 e1]] W fun e w' => e = .returned (.bool true) ∧ Below W.heap.size W w' := by
    exact oddsSums_any A0 n0 c0 B0 m0 e0 A1 n1 c1 B1 m1 e1 s0 t0 s1 t1 W I0 J0 I1 J1
  refine key.mono fun e W' ⟨he, bel⟩ => ?_
  subst he
  exact ⟨_, rfl, _, _, _, [], _, [], hW', trodAll_mk1 (shut_bool Try.underlying4 _), (trodAll_cons_mk (Below.trod laidOut (by kernel_rfl) (of_decide_eq_true (by kernel_rfl)) k0 bel lt0) (trodAll_cons_mk (Below.trod laidOut (by kernel_rfl) (of_decide_eq_true (by kernel_rfl)) k1 bel lt1) trodAll_mk0)), rfl, bel.frame _, fun h => by cases h⟩

theorem over : Rows.oddsSumsRow.holds Try.pinned (OpenSpec.ofChange Rows.oddsSumsSpec) :=
  OpenClaim.holds_of_wide 4 Try.f4 rfl rfl rfl rfl rfl rfl rfl ⟨rfl, rfl, rfl, rfl, rfl⟩ rfl rfl rfl rfl rfl (by kernel_rfl) Try.func4 (by kernel_rfl)
    (of_decide_eq_true (by kernel_rfl)) (by unfold Func.isWrapper; first | (rw [if_pos (by decide +kernel)]; kernel_rfl) | (rw [if_neg (by decide +kernel)]; exact ⟨rfl, rfl⟩))
    (fun os started H enc _ => lifted os started H enc)

theorem proved : Rows.OddsSumsSaid := over
end Go.Proofs.Ythdjbmogdlodcaa.oddsSums

namespace Go.Proofs.Ythdjbmogdlodcaa
theorem oddsSums_holds : Rows.OddsSumsSaid := oddsSums.proved
#print axioms oddsSums_holds
end Go.Proofs.Ythdjbmogdlodcaa
