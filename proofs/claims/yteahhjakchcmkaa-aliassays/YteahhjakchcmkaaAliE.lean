/-
  slices.DeleteFunc at []int with alias.Build's second closure, off the library's shelf.
-/
import Derived.Test.YteahhjakchcmkaaAliC
import Derived.Test.YteahhjakchcmkaaLayE
import Derived.Sort.OwnSortedInts
namespace Go.Proofs.Yteahhjakchcmkaa
open Go.RowKit Go.Sort Go.Shelf Go.Lib

theorem own_shrinkA {w : World} {base g n m cap e : Nat} {vs : List Value} (h : w.ownsRow base e 1 (.slice (some ⟨g, 0, none⟩) n cap) n vs) (hm : m ≤ n) : w.ownsRow base e 1 (.slice (some ⟨g, 0, none⟩) m cap) m (vs.take m) := by
  have hl := h.1
  rcases h.2 with ⟨h0, _⟩ | ⟨g', cap', cur, hv, hb, hg, h1, h2, h3, h4⟩
  · cases h0
  · injection hv with e1 _ e3
    injection e1 with e1
    injection e1 with e1
    subst e1
    subst e3
    refine ⟨by rw [List.length_take, hl]; omega, .inr ⟨g, cap, cur, rfl, hb, hg, by omega, h2, h3, ?_⟩⟩
    rw [← h4, List.take_take, Nat.mul_one, Nat.mul_one, Nat.min_eq_left hm]

theorem poor_gives (p x : Int) (b : Nat) (W : World) (hc : W.cell? ⟨b, 0, none⟩ = some (.int .i64 p)) :
    FnGives Try.prog 23 #[.pointer (some ⟨b, 0, none⟩)] #[.int .i64 x] (.bool (decide (x = p))) W := by
  show Calls Try.prog 23 #[.int .i64 x, .pointer (some ⟨b, 0, none⟩)] W _
  refine (isPoor_any b x p W hc).mono ?_
  rintro e w' ⟨rfl, rfl⟩
  exact ⟨rfl, 0, rfl⟩
theorem poor_at (p : Int) (b : Nat) (w : World) (hb : b < w.heap.size) (hc : w.cell? ⟨b, 0, none⟩ = some (.int .i64 p)) :
    PredAt Try.prog 23 #[.pointer (some ⟨b, 0, none⟩)] (Value.int .i64) (fun x => decide (x = p)) w :=
  fun W x hB => poor_gives p x b W ((hB.cell (p := ⟨b, 0, none⟩) hb).trans hc)
theorem poor_over (p : Int) (b blk off size : Nat) (w : World) (hb : b < w.heap.size) (hne : b ≠ blk) (hc : w.cell? ⟨b, 0, none⟩ = some (.int .i64 p)) :
    PredOver Try.prog 23 #[.pointer (some ⟨b, 0, none⟩)] (Value.int .i64) (fun x => decide (x = p)) blk off size w :=
  fun n os dk x _ => poor_gives p x b _ (by
    unfold sortWorld
    rw [cell?_grow _ _ _ (by show b < (putRow _ _ _ _ _).heap.size; rw [size_putRow]; exact hb), cell?_putRow_other _ _ blk off _ _ (Or.inl hne)]
    exact hc)

theorem delPoor_any (base g n cap b p : Nat) (xs : List Int) (w : World) (h : OwnInts w base (.slice (some ⟨g, 0, none⟩) n cap) xs) (hl : xs.length = n) (hb : b < w.heap.size) (hne : b ≠ g) (hc : w.cell? ⟨b, 0, none⟩ = some (.int .i64 (p : Int))) :
    Calls Try.prog 22 #[.slice (some ⟨g, 0, none⟩) n cap, .func (.func 23) #[] #[.pointer (some ⟨b, 0, none⟩)]] w fun e w' =>
      e = .returned (.slice (some ⟨g, 0, none⟩) (without xs p).length cap) ∧ OwnInts w' base (.slice (some ⟨g, 0, none⟩) (without xs p).length cap) (without xs p) ∧ w.grownBy w' (some g) := by
  subst hl
  rcases h.2 with ⟨h0, _⟩ | ⟨g', cap', cur, hv, hb2, hg, h1, h2, h3, h4⟩
  · cases h0
  · injection hv with e1 _ e3
    injection e1 with e1
    injection e1 with e1
    subst e1
    subst e3
    have hT : cur.toList.take xs.length = xs.map (Value.int .i64) := by rwa [Nat.mul_one] at h4
    have eg : ∀ args w, (callFunc 23 args).run Try.prog w = .ok (.enter 23 args) w := enters_of Try.func23 (by kernel_rfl) rfl
    have hcon := AnyE.slices_DeleteFunc laysn10 (Value.int .i64) (fun _ => rfl) (fun x => decide (x = (p : Int))) 23 #[.pointer (some ⟨b, 0, none⟩)] eg 0 Try.zeroValue3 g 0 cap xs.toArray w
      (poor_at p b w hb hc) (poor_over p b g 0 xs.toArray.size w hb hne hc) (holds_of_blockI hg hT) (by simp; unfold maxLen at h2; omega) (by simpa using h1)
    have e1 : (xs.toArray.toList.filter fun x => !decide (x = (p : Int))) = without xs p := rfl
    rw [e1] at hcon
    have e2 : xs.toArray.size = xs.length := by simp
    rw [e2] at hcon
    refine hcon.mono ?_
    rintro e w' ⟨he, q, rfl⟩
    have hle : (without xs p).length ≤ xs.length := List.length_filter_le _ _
    have hlen : (without xs p ++ List.replicate (xs.length - (without xs p).length) 0).length = xs.length := by rw [List.length_append, List.length_replicate]; omega
    refine ⟨he, ?_, ?_⟩
    · have h5 := ownsRow_sortedI (n := q) (os := #[]) (ss := xs) (ts := without xs p ++ List.replicate (xs.length - (without xs p).length) 0) hlen hb2 hg h1 h2 h3
      rw [grow_empty] at h5
      have h6 := own_shrinkA h5 hle
      unfold OwnInts
      have e6 : (List.map (Value.int .i64) (without xs p ++ List.replicate (xs.length - (without xs p).length) 0)).take (without xs p).length = List.map (Value.int .i64) (without xs p) := by
        rw [← List.map_take, List.take_left]
      rw [e6] at h6
      exact h6
    · have := grownBy_sortedI (w := w) (g := g) (n := q) (os := #[]) (without xs p ++ List.replicate (xs.length - (without xs p).length) 0).toArray
      rw [grow_empty] at this
      exact this
end Go.Proofs.Yteahhjakchcmkaa
