/-
  There and back (Glaisher), over right sums: plain facts.
-/
import Derived.Test.YteegddpoekphoaaDoorPartW
import Derived.Test.YteegddpoekphoaaDoorPartH
namespace Go.Proofs.YteegddpoekphoaaDoor
open Go.RowKit

theorem noTwin_gt {m : List Nat} (h : m.Pairwise (· > ·)) : NoTwin m m.length := by
  intro j h0 h1 e
  have h2 := List.pairwise_iff_getElem.1 h (j - 1) j (by omega) h1 (by omega)
  rw [List.getD_eq_getElem?_getD, List.getD_eq_getElem?_getD, List.getElem?_eq_getElem h1, List.getElem?_eq_getElem (show j - 1 < m.length by omega)] at e
  simp only [Option.getD_some] at e
  omega

theorem there_back {ns : List Nat} (hp : IsPart (ofN ns)) (ht : NoTwin ns ns.length) :
    IsPart (ofN (down (cO ns) 40)) ∧ (∀ x ∈ down (cO ns) 40, x % 2 = 1) ∧ unl (fun d => (down (cO ns) 40).count d) 40 = ns := by
  have hb : ∀ x ∈ ns, 0 < x ∧ x ≤ 40 := fun x hx => part_mem hp hx
  have hperm := perm_flat hb
  refine ⟨part_mkN (fun x hx => (mem_down hx).1) (falls_down _ _) ?_, fun x hx => (mem_flat hb (hperm.mem_iff.1 hx)).1, ?_⟩
  · rw [sum_permN hperm, sum_flat hb]
    exact part_sumN hp
  · rw [unl_congr 40 (c' := cO ns) (fun x h0 h1 => ?_), unl_cO (falls_gt (part_falls hp) ht) hb]
    obtain ⟨_, _, h2, h3⟩ := od_at h0 h1
    rw [count_down, if_pos ⟨h3, h2⟩]

theorem back_there {ms : List Nat} (hp : IsPart (ofN ms)) (ho : ∀ x ∈ ms, x % 2 = 1) :
    IsPart (ofN (unl (fun d => ms.count d) 40)) ∧ NoTwin (unl (fun d => ms.count d) 40) (unl (fun d => ms.count d) 40).length ∧ down (cO (unl (fun d => ms.count d) 40)) 40 = ms := by
  have e : unl (fun d => ms.count d) 40 = unl (cO ms) 40 := unl_congr 40 (fun x _ _ => (cO_odd ho _).symm)
  rw [e]
  obtain ⟨h1, h2⟩ := unl_of (part_sumN hp) (fun x hx => (part_mem hp hx).1)
  refine ⟨part_mkN (fun x hx => (mem_unl.1 hx).1) ((falls_unl _ _).imp Nat.le_of_lt) (by rw [h1]; exact part_sumN hp), noTwin_gt (falls_unl _ _), ?_⟩
  rw [down_congr 40 (c' := fun x => ms.count x) (fun x _ _ => by rw [h2, cO_odd ho]), down_count (part_falls hp) (fun x hx => part_mem hp hx)]

/-- The odd number at x or just below. -/
def oddify (x : Nat) : Nat := x - 1 + x % 2
theorem oddify_at {x : Nat} (h : 0 < x) : oddify x % 2 = 1 ∧ 0 < oddify x ∧ oddify x ≤ x := by unfold oddify; omega
theorem sum_oddify {ns : List Nat} (h : ∀ x ∈ ns, 0 < x) : (ns.map oddify).sum ≤ ns.sum := by
  induction ns with
  | nil => simp
  | cons x m ih =>
    have h1 := (oddify_at (h x (List.mem_cons_self ..))).2.2
    have h2 := ih (fun y hy => h y (List.mem_cons_of_mem _ hy))
    simp only [List.map_cons, List.sum_cons]
    omega
/-- The odd ones in order, the greatest first: a right sum of odd numbers. -/
theorem odd_sorted {ns : List Nat} (hp : IsPart (ofN ns)) : ∃ ms, (srt (ofN (ns.map oddify))).reverse = ofN ms ∧ IsPart (ofN ms) ∧ (∀ x ∈ ms, x % 2 = 1) ∧ ms.length = ns.length := by
  have h1 : ∀ x ∈ ofN (ns.map oddify), (1 : Int) ≤ x := by
    intro x hx
    obtain ⟨y, hy, rfl⟩ := List.mem_map.1 hx
    obtain ⟨z, hz, rfl⟩ := List.mem_map.1 hy
    have := (oddify_at (part_mem hp hz).1).2.1
    omega
  have h2 : (ofN (ns.map oddify)).sum ≤ 40 := by
    rw [sum_ofN]
    have := sum_oddify (fun x hx => (part_mem hp hx).1)
    have := part_sumN hp
    omega
  have hP := isPart_srt h1 h2
  obtain ⟨ms, e⟩ := ofN_of hP
  refine ⟨ms, e, by rw [← e]; exact hP, fun x hx => ?_, ?_⟩
  · have h3 : ((x : Nat) : Int) ∈ (srt (ofN (ns.map oddify))).reverse := by rw [e]; exact List.mem_map.2 ⟨x, hx, rfl⟩
    have h4 := ((List.reverse_perm _).trans (perm_srt _)).mem_iff.1 h3
    obtain ⟨y, hy, e2⟩ := List.mem_map.1 h4
    obtain ⟨z, hz, rfl⟩ := List.mem_map.1 hy
    have e3 : oddify z = x := Int.ofNat_inj.1 e2
    rw [← e3]
    exact (oddify_at (part_mem hp hz).1).1
  · have := congrArg List.length e
    simpa [length_srt, length_ofN] using this.symm

/-- slices.Clone, the world told by 'Below'. -/
def RetCl (w : World) (xs : List Int) (e : Ending) (w' : World) : Prop := ∃ A c, e = .returned (.slice A xs.length c) ∧ OwnInts w' w.heap.size (.slice A xs.length c) xs ∧ Below w.heap.size w w'
theorem clone_bel (A : Option Addr) (n c : Nat) (xs : List Int) (w : World) (h : Ints w A n xs) (hn : n ≤ 1000000) :
    Calls Tryd.prog 15 #[.slice A n c] w (RetCl w xs) := by
  refine (clone_any A n c xs w h hn).mono ?_
  rintro e w' ⟨v, rfl, ho, hb⟩
  obtain ⟨A', c', rfl, _, _⟩ := ho.ints
  exact ⟨A', c', rfl, ho, hb⟩
/-- slices.Compact of what was made since w. -/
def RetCo (w : World) (xs : List Int) (e : Ending) (w' : World) : Prop := ∃ A m c, e = .returned (.slice A m c) ∧ m ≤ xs.length ∧ (m = xs.length ↔ NoTwinI xs) ∧ Below w.heap.size w w'
theorem compact_bel (w w1 : World) (v : Value) (xs : List Int) (hb : Below w.heap.size w w1) (h : OwnInts w1 w.heap.size v xs) :
    Calls Tryd.prog 14 #[v] w1 (RetCo w xs) := by
  refine (compact_any w.heap.size v xs w1 h).mono ?_
  rintro e w' ⟨A, m, c, rfl, h1, h2, hg⟩
  exact ⟨A, m, c, rfl, h1, h2, hb.grown hg hb.size (fun k hk => (World.ownsRow.lt h k hk).1)⟩

end Go.Proofs.YteegddpoekphoaaDoor
