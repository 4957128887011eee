/-
  Proved: castlaw.Names returns true (the numbers of package api are those of the document). No condition.
-/
import Derived.Test.YtheogajhclhlhaaEqual
import Derived.WalkKit
import Derived.ProofKit
import Derived.OpenShut
import Derived.ShutString
namespace Go.Proofs.Ytheogajhclhlhaa.names
open Go.ChangeShapes Go.WideShapes Go.ChangeAt Go.RowKit
open Go.ChangeMaps (open_string shut_string)
set_option linter.unusedVariables false      -- a walk need not use every 'w<i>' (that an integer argument fits its kind)

theorem own : ownKnob Try.prog.godebug = none := by kernel_rfl

/-- The numbers that the law lists, twice. -/
def namesList : List Int := [0, 1, 2, 3, 4, 5, 6, 7, 8, 9, 10, 10, 16, 40, 10, 15, 15, 12, 30, 6, 10, 720, 1000000000, 12, 20, 100, 200, 1024, 30, 12, 64, 5, 20, 12, 12, 8, 100, 200, 10, 2520, 100000, 8, 60, 4096, 1, 2, 3, 4, 1, 2, 3, 4, 5, 6, 7]
def namesCells : Array Value := (namesList.map (Value.int .i64)).toArray

theorem wpList_names {ops : Array Oper} {rest : List Oper} {o : Oper} {a : Act} {w : World} {Q : Exit → Act → World → Prop} (hgd : o.guard = none) (t : TypeId) (parts : Array (Nat × Operand)) (_ho : o.op = .buildSlice t 55 parts)
    (hrun : (execOp a.eval o).run Try.prog w = .ok (.value (.slice (some ⟨w.heap.size, 0, none⟩) 55 55)) (w.alloc (.cells namesCells 3)))
    (h : wpList Try.prog ops Q rest (a.put o.dst (.slice (some ⟨w.heap.size, 0, none⟩) 55 55)) (w.alloc (.cells namesCells 3))) : wpList Try.prog ops Q (o :: rest) a w :=
  wpList_plain hgd fun _ hK => by
    unfold Oper.wp
    rw [hrun]
    exact hK _ _ h

theorem names_reads (w : World) : Ints (w.alloc (.cells namesCells 3)) (some ⟨w.heap.size, 0, none⟩) 55 namesList := by
  refine ⟨by decide, fun _ => ⟨w.heap.size, 0, rfl, by simp, fun j hj => ?_⟩⟩
  rw [cell_of_row (w.alloc _) w.heap.size (0 + j) namesCells 3 (0, 0) (heap_alloc_new w _)]
  have h0 : namesList.length = 55 := by decide
  have h1 : j < namesList.length := by omega
  simp [namesCells, List.getD_eq_getElem?_getD, List.getElem?_eq_getElem h1]

theorem walk (w : World) :
    Calls Try.prog 3 #[] w fun e w' => e = .returned (.bool true) ∧ Grown w w' := by
  go_enter Try.func3, Try.ntmps3
  go_wp2_with (refine wpList_names rfl _ _ rfl (by kernel_rfl) ?_)
  have h1 : Ints ((w.alloc (.cells namesCells 3)).alloc (.cells namesCells 3)) (some ⟨w.heap.size, 0, none⟩) 55 namesList :=
    (names_reads w).keep ((Below.refl _ _).alloc (Nat.le_refl _) _)
  have h2 : Ints ((w.alloc (.cells namesCells 3)).alloc (.cells namesCells 3)) (some ⟨w.heap.size + 1, 0, none⟩) 55 namesList := by
    have h := names_reads (w.alloc (.cells namesCells 3))
    simpa using h
  refine (equal_any _ 55 55 _ 55 55 namesList namesList _ h1 h2 (by omega) (by omega)).mono ?_
  rintro e w' ⟨rfl, q, rfl⟩
  clear h1 h2
  rw [decide_eq_true rfl]
  go_wp2
  go_ret
  exact ⟨rfl, ((Grown.refl w).alloc _ _).alloc _ _⟩

/-! ### THE ROW's STEP: WRITTEN OUT: LEAVE IT -/
set_option maxRecDepth 100000 in
theorem lifted (os : Os) (started : os.Started) (H : Type) (enc : TypeId × Value → H) :
    ReturnsInHanded {} Try.checked os 3 .any (Rows.namesSpec.pre6 enc Try.prog Try.f3 Rows.namesRow.domain false) (Rows.namesSpec.post enc Try.prog Try.f3 false true false false) := by
  refine returnsInHanded_of_change (C := Try.checked) own started (by kernel_rfl) Try.func3
    (ChangeSpec.witness6 (enc := enc) (C := Try.checked) false ⟨#[], #[], []⟩ 8 (by kernel_rfl) (by kernel_rfl) (by kernel_rfl) (by kernel_rfl)) ?_
  intro W base args ds gs before hval0 hW hcnd _
  have hval : ∀ (j : Nat) t v, Try.f3.params[j]? = some t → args[j]? = some v → Value.okWide Try.prog W .any base t v := hval0
  have hW' := hW
  obtain ⟨p, q, hA0, hV, rfl, hfz, hnd⟩ := hW
  have hA : DataW.TrodAll enc Try.prog W 0 (fun _ => true) true Try.f3.params.toList args.toList ds p := hA0
  rw [Try.params3] at hA hval
  obtain ⟨rfl, rfl, rfl⟩ := trodAll_none hA
  obtain ⟨rfl, rfl⟩ := trodVars_none hV
  clear hA0 hval0
  simp only [List.append_nil] at hW'
  refine (walk  W).mono fun e W' ⟨he, hg⟩ => ?_
  subst he
  exact ⟨_, rfl, post_of_same (pa := []) (pv := []) hW' (fun _ _ _ => (trodAll_cons_mk (shut_bool Try.underlying4 _) trodAll_mk0)) (fun sp _ => rfl) (fun _ _ => rfl) rfl
    (hg.frame _) hg.2.1 (ok_one (by kernel_rfl) rfl (okWide_bool_mk Try.underlying4 _))⟩

theorem over : Rows.namesRow.holds Try.pinned (OpenSpec.ofChange Rows.namesSpec) :=
  OpenClaim.holds_of_wide 3 Try.f3 rfl rfl rfl rfl rfl rfl rfl ⟨rfl, rfl, rfl, rfl, rfl⟩ rfl rfl rfl rfl rfl (by kernel_rfl) Try.func3 (by kernel_rfl)
    (of_decide_eq_true (by kernel_rfl)) (by unfold Func.isWrapper; first | (rw [if_pos (by decide +kernel)]; kernel_rfl) | (rw [if_neg (by decide +kernel)]; exact ⟨rfl, rfl⟩))
    (fun os started H enc _ => lifted os started H enc)

theorem proved : Rows.NamesSaid :=
  over
end Go.Proofs.Ytheogajhclhlhaa.names

namespace Go.Proofs.Ytheogajhclhlhaa
theorem names_holds : Rows.NamesSaid := names.proved
#print axioms names_holds
end Go.Proofs.Ytheogajhclhlhaa
