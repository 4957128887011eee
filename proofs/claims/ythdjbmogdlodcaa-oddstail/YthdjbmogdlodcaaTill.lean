/-
  A region that draws its order, of which some operations (the stores at its end) spoil what is known of the world: what is known need hold only till one of them has come up.
-/
import Derived.Test.YthdjbmogdlodcaaBase
import Derived.Deep.RegionHeld
namespace Go.Proofs.Ythdjbmogdlodcaa
open Go.RowKit

section
variable {P : Program} {ops : Array Oper} {Q : Exit → Act → World → Prop} {md : Region.Mode} {S : World → Prop} {ends : List Nat}

/-- None of the ends has come up. -/
def Before (ends : List Nat) (L : Array Bool) : Prop := ∀ s ∈ ends, L.getD s false = false
/-- In whatever order the rest comes up: it leads to Q; S holds behind each step, till one of the ends has come up. -/
def wpTill (P : Program) (md : Region.Mode) (ops : Array Oper) (Q : Exit → Act → World → Prop) (S : World → Prop) (ends : List Nat) : Nat → Array Bool → Act → World → Prop
  | 0 => fun L a w => Region.ready md ops L = [] ∧ Q .normal a w
  | n + 1 => fun L a w => (Region.ready md ops L = [] → Q .normal a w) ∧ ∀ i, i ∈ Region.ready md ops L →
      wpOp P ops Q i (fun b v => (Before ends (L.setIfInBounds i true) → S v) ∧ wpTill P md ops Q S ends n (L.setIfInBounds i true) b v) a w

theorem wpAny_of_till : ∀ (n : Nat) {L : Array Bool} {a : Act} {w : World}, wpTill P md ops Q S ends n L a w → wpAny P md ops Q n L a w
  | 0, _, _, _, h => h
  | n + 1, _, _, _, h => ⟨h.1, fun i hi => wpOp_mono (fun _ _ h' => wpAny_of_till n h'.2) (h.2 i hi)⟩

theorem till_first {i : Nat} {o : Oper} {x : Value} (hi : ops[i]? = some o) (hsel : ∀ (j : Nat) (o : Oper) cs b, ops[j]? = some o → o.op ≠ .select cs b)
    (hQ : ∀ c a w, Q (.panic c) (a.put o.dst x) w → Q (.panic c) a w)
    (hends : ∀ s ∈ ends, s ≠ i ∧ ∀ os, ops[s]? = some os → ∃ e ∈ os.after, Region.binds md e = true ∧ e.on = i) :
    ∀ (n : Nat) {L : Array Bool} {a : Act} {w : World},
      (∀ j oj, ops[j]? = some oj → j ≠ i → L.getD j true = false → (∀ e ∈ oj.after, Region.binds md e = true → e.on ≠ i) → o.apart ops oj = true) →
      i ∈ Region.ready md ops L → Before ends L → YieldsIf P ops S o x a → S w →
      wpTill P md ops Q S ends n (L.setIfInBounds i true) (a.put o.dst x) w → wpTill P md ops Q S ends (n + 1) L a w := by
  intro n
  induction n with
  | zero =>
    intro L a w _ hr _ hy hS H
    constructor
    · intro h
      rw [h] at hr
      cases hr
    · intro j hj
      by_cases e : j = i
      · subst e
        exact hy.wpOp hi hS ⟨fun _ => hS, H⟩
      · have h := ready_mono hj e
        rw [H.1] at h
        cases h
  | succ n ih =>
    intro L a w hfree hr hb hy hS H
    constructor
    · intro h
      rw [h] at hr
      cases hr
    · intro j hj
      by_cases e : j = i
      · subst e
        exact hy.wpOp hi hS ⟨fun _ => hS, H⟩
      · obtain ⟨hjL, oj, hoj, hall⟩ := mem_ready.1 hj
        have hiL := (mem_ready.1 hr).1
        -- whatever is ready beside i does not wait for i
        have hno : ∀ e ∈ oj.after, Region.binds md e = true → e.on ≠ i := by
          intro e he hbind heq
          have h1 := hall e he hbind
          rw [heq] at h1
          simp only [Array.getD_eq_getD_getElem?] at hiL h1
          cases hg : L[i]? <;> simp_all
        have hje : j ∉ ends := by
          intro hm
          obtain ⟨e, he, hbind, hon⟩ := (hends j hm).2 oj hoj
          exact hno e he hbind hon
        have hb' : Before ends (L.setIfInBounds j true) := fun s hs => by
          rw [getD_set_ne false (fun e => hje (by rw [e]; exact hs))]
          exact hb s hs
        have hb2 : Before ends ((L.setIfInBounds i true).setIfInBounds j true) := fun s hs => by
          rw [getD_set_ne false (fun e => hje (by rw [e]; exact hs)), getD_set_ne false (fun e => (hends s hs).1 e.symm)]
          exact hb s hs
        have hf2 : ∀ k ok, ops[k]? = some ok → k ≠ i → (L.setIfInBounds j true).getD k true = false → (∀ e ∈ ok.after, Region.binds md e = true → e.on ≠ i) → o.apart ops ok = true := by
          intro k ok hk hki hun hn
          refine hfree k ok hk hki ?_ hn
          by_cases ejk : j = k
          · subst ejk
            exact hjL
          · rwa [getD_set_ne true ejk] at hun
        refine wpOp_mono ?_ (wpOp_putIf hoj (hfree j oj hoj e hjL hno) (fun cs b => hsel i o cs b hi) (fun cs b => hsel j oj cs b hoj) hQ hy (H.2 j (ready_mono hj e)))
        rintro a' w' ⟨hy', hS', hrest⟩
        refine ⟨fun _ => hS' hb2, ih hf2 (ready_mono hr (Ne.symm e)) hb' hy' (hS' hb2) ?_⟩
        rw [Array.setIfInBounds_comm _ _ e]
        exact hrest

/-- Operation i taken first. -/
theorem till_take {i : Nat} {o : Oper} {x : Value} {n : Nat} {L : Array Bool} {a : Act} {w : World} (hi : ops[i]? = some o) (hs : Region.noSelect ops = true) (hf : Region.free md ops L i = true)
    (hr : (Region.ready md ops L).contains i = true)
    (he : ends.all (fun s => !(s == i) && match ops[s]? with | some os => os.after.any (fun e => Region.binds md e && e.on == i) | none => true) = true)
    (hb : ends.all (fun s => !(L.getD s false)) = true)
    (hQ : ∀ c a w, Q (.panic c) (a.put o.dst x) w → Q (.panic c) a w) (hy : YieldsIf P ops S o x a) (hS : S w)
    (h : wpTill P md ops Q S ends n (L.setIfInBounds i true) (a.put o.dst x) w) : wpTill P md ops Q S ends (n + 1) L a w := by
  refine till_first hi (Region.noSelect_spec hs) hQ ?_ n (Region.free_spec hi hf) (by simpa using hr) ?_ hy hS h
  · intro s hs
    have h1 := List.all_eq_true.1 he s hs
    simp only [Bool.and_eq_true, Bool.not_eq_true', beq_eq_false_iff_ne] at h1
    refine ⟨h1.1, fun os hos => ?_⟩
    have h2 := h1.2
    rw [hos] at h2
    simp only [Array.any_eq_true', Bool.and_eq_true, beq_iff_eq] at h2
    obtain ⟨e, he, h3, h4⟩ := h2
    exact ⟨e, he, h3, h4⟩
  · intro s hs
    simpa using List.all_eq_true.1 hb s hs

/-- An operation that yields in whatever world, taken first. -/
theorem till_first0 {i : Nat} {o : Oper} {x : Value} (hi : ops[i]? = some o) (hsel : ∀ (j : Nat) (o : Oper) cs b, ops[j]? = some o → o.op ≠ .select cs b)
    (hQ : ∀ c a w, Q (.panic c) (a.put o.dst x) w → Q (.panic c) a w) (hends : i ∉ ends) :
    ∀ (n : Nat) {L : Array Bool} {a : Act} {w : World},
      (∀ j oj, ops[j]? = some oj → j ≠ i → L.getD j true = false → (∀ e ∈ oj.after, Region.binds md e = true → e.on ≠ i) → o.apart ops oj = true) →
      i ∈ Region.ready md ops L → YieldsIf P ops (fun _ => True) o x a → (Before ends L → S w) →
      wpTill P md ops Q S ends n (L.setIfInBounds i true) (a.put o.dst x) w → wpTill P md ops Q S ends (n + 1) L a w := by
  have hbf : ∀ L : Array Bool, Before ends (L.setIfInBounds i true) → Before ends L := fun L h s hs => by
    have := h s hs
    rwa [getD_set_ne false (fun e => hends (by rw [e]; exact hs))] at this
  intro n
  induction n with
  | zero =>
    intro L a w _ hr hy hS H
    constructor
    · intro h
      rw [h] at hr
      cases hr
    · intro j hj
      by_cases e : j = i
      · subst e
        exact hy.wpOp hi trivial ⟨fun hb => hS (hbf L hb), H⟩
      · have h := ready_mono hj e
        rw [H.1] at h
        cases h
  | succ n ih =>
    intro L a w hfree hr hy hS H
    constructor
    · intro h
      rw [h] at hr
      cases hr
    · intro j hj
      by_cases e : j = i
      · subst e
        exact hy.wpOp hi trivial ⟨fun hb => hS (hbf L hb), H⟩
      · obtain ⟨hjL, oj, hoj, hall⟩ := mem_ready.1 hj
        have hiL := (mem_ready.1 hr).1
        have hno : ∀ e ∈ oj.after, Region.binds md e = true → e.on ≠ i := by
          intro e he hbind heq
          have h1 := hall e he hbind
          rw [heq] at h1
          simp only [Array.getD_eq_getD_getElem?] at hiL h1
          cases hg : L[i]? <;> simp_all
        have hf2 : ∀ k ok, ops[k]? = some ok → k ≠ i → (L.setIfInBounds j true).getD k true = false → (∀ e ∈ ok.after, Region.binds md e = true → e.on ≠ i) → o.apart ops ok = true := by
          intro k ok hk hki hun hn
          refine hfree k ok hk hki ?_ hn
          by_cases ejk : j = k
          · subst ejk
            exact hjL
          · rwa [getD_set_ne true ejk] at hun
        have hb2 : Before ends (L.setIfInBounds j true) → Before ends ((L.setIfInBounds i true).setIfInBounds j true) := fun h s hs => by
          rw [Array.setIfInBounds_comm _ _ (Ne.symm e), getD_set_ne false (fun e => hends (by rw [e]; exact hs))]
          exact h s hs
        refine wpOp_mono ?_ (wpOp_putIf hoj (hfree j oj hoj e hjL hno) (fun cs b => hsel i o cs b hi) (fun cs b => hsel j oj cs b hoj) hQ hy (H.2 j (ready_mono hj e)))
        rintro a' w' ⟨hy', hS', hrest⟩
        refine ⟨fun h => hS' (hb2 h), ih hf2 (ready_mono hr (Ne.symm e)) hy' (fun h => hS' (hb2 h)) ?_⟩
        rw [Array.setIfInBounds_comm _ _ e]
        exact hrest
theorem till_take0 {i : Nat} {o : Oper} {x : Value} {n : Nat} {L : Array Bool} {a : Act} {w : World} (hi : ops[i]? = some o) (hs : Region.noSelect ops = true) (hf : Region.free md ops L i = true)
    (hr : (Region.ready md ops L).contains i = true) (he : ends.contains i = false)
    (hQ : ∀ c a w, Q (.panic c) (a.put o.dst x) w → Q (.panic c) a w) (hy : YieldsIf P ops (fun _ => True) o x a) (hS : S w)
    (h : wpTill P md ops Q S ends n (L.setIfInBounds i true) (a.put o.dst x) w) : wpTill P md ops Q S ends (n + 1) L a w :=
  till_first0 hi (Region.noSelect_spec hs) hQ (by simpa using he) n (Region.free_spec hi hf) (by simpa using hr) hy (fun _ => hS) h

/-- What may come up next, one after another. -/
def TillNext (P : Program) (md : Region.Mode) (ops : Array Oper) (Q : Exit → Act → World → Prop) (S : World → Prop) (ends : List Nat) (n : Nat) (L : Array Bool) (a : Act) (w : World) (rs : List Nat) : Prop :=
  ∀ i, i ∈ rs → wpOp P ops Q i (fun b v => (Before ends (L.setIfInBounds i true) → S v) ∧ wpTill P md ops Q S ends n (L.setIfInBounds i true) b v) a w
theorem TillNext.nil {n : Nat} {L : Array Bool} {a : Act} {w : World} : TillNext P md ops Q S ends n L a w [] := fun _ h => by cases h
theorem till_next {rs : List Nat} {n : Nat} {L : Array Bool} {a : Act} {w : World} (hr : Region.ready md ops L = rs) (hne : rs ≠ []) (h : TillNext P md ops Q S ends n L a w rs) : wpTill P md ops Q S ends (n + 1) L a w :=
  ⟨fun h0 => absurd (hr.symm.trans h0) hne, fun i hi => h i (by rw [← hr]; exact hi)⟩
theorem TillNext.cons {n : Nat} {L : Array Bool} {a : Act} {w : World} {i : Nat} {o : Oper} {rs : List Nat} (ho : ops[i]? = some o)
    (h : ∀ K : Act → World → Prop, Shut (∀ b v, S v → (S v → wpTill P md ops Q S ends n (L.setIfInBounds i true) b v) → K b v) → if Region.wanted o (yielded ops a.tmps) = true then Oper.wp P o a w K Q else K (a.put o.dst undef) w)
    (hs : TillNext P md ops Q S ends n L a w rs) : TillNext P md ops Q S ends n L a w (i :: rs) := by
  intro j hj
  rcases List.mem_cons.1 hj with rfl | hj
  · exact wpOp_step ho fun K hK => h K fun b v hS hW => hK b v ⟨fun _ => hS, hW hS⟩
  · exact hs j hj
/-- At an end, and behind it: nothing need be shown of the world. -/
theorem TillNext.done {n : Nat} {L : Array Bool} {a : Act} {w : World} {i : Nat} {o : Oper} {rs : List Nat} (ho : ops[i]? = some o) (he : ends.any (fun s => (L.setIfInBounds i true).getD s false) = true)
    (h : ∀ K : Act → World → Prop, Shut (∀ b v, wpTill P md ops Q S ends n (L.setIfInBounds i true) b v → K b v) → if Region.wanted o (yielded ops a.tmps) = true then Oper.wp P o a w K Q else K (a.put o.dst undef) w)
    (hs : TillNext P md ops Q S ends n L a w rs) : TillNext P md ops Q S ends n L a w (i :: rs) := by
  intro j hj
  rcases List.mem_cons.1 hj with rfl | hj
  · refine wpOp_step ho fun K hK => h K fun b v hW => hK b v ⟨fun hb => ?_, hW⟩
    obtain ⟨s, hs, ht⟩ := List.any_eq_true.1 he
    rw [hb s hs] at ht
    cases ht
  · exact hs j hj
theorem till_done {L : Array Bool} {a : Act} {w : World} (hr : Region.ready md ops L = []) (h : Q .normal a w) : ∀ n, wpTill P md ops Q S ends n L a w
  | 0 => ⟨hr, h⟩
  | _ + 1 => ⟨fun _ => h, fun i hi => by rw [hr] at hi; cases hi⟩
/-- The beginning. -/
theorem region_till {id : Nat} {a : Act} {w : World} (S : World → Prop) (ends : List Nat) (hm : P.follows .mixedOrders = true) (hS : S w.drew)
    (h : S w.drew → wpTill P .any ops Q S ends ops.size (Array.replicate ops.size false) a w.drew) : (Code.region id ops true).wp P Q a w :=
  wp_region_any hm (wpAny_of_till _ (h hS))
end
end Go.Proofs.Ythdjbmogdlodcaa
