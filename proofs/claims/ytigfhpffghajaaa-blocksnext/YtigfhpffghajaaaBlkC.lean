/-
  blocks.Next, blocks.Of.
-/
import Derived.Test.YtigfhpffghajaaaBlkA
import Derived.Test.YtigfhpffghajaaaClone
import Derived.Test.YtigfhpffghajaaaArr
namespace Go.Proofs.Ytigfhpffghajaaa
open Go.RowKit

theorem OwnInts.sets {base g n cap : Nat} : ∀ {ys : List Int} {w : World} {xs : List Int} {o : Nat}, OwnInts w base (.slice (some ⟨g, 0, none⟩) n cap) xs → n = xs.length → o + ys.length ≤ xs.length →
    OwnInts (w.setCells g o (ys.map (Value.int .i64))) base (.slice (some ⟨g, 0, none⟩) n cap) (xs.take o ++ ys ++ xs.drop (o + ys.length))
  | [], w, xs, o, h, _, _ => by simpa [World.setCells] using h
  | y :: ys, w, xs, o, h, hn, hl => by
    rw [List.length_cons] at hl
    have ih := OwnInts.sets (ys := ys) (o := o + 1) (h.set hn o y) (by rw [List.length_set]; exact hn) (by rw [List.length_set]; omega)
    rw [List.map_cons, World.setCells]
    have e : (xs.set o y).take (o + 1) ++ ys ++ (xs.set o y).drop (o + 1 + ys.length) = xs.take o ++ (y :: ys) ++ xs.drop (o + (y :: ys).length) := by
      rw [take_snoc (by rw [List.length_set]; omega), getD_set, if_pos ⟨rfl, by omega⟩, List.take_set_of_le (by omega), List.drop_set_of_lt (by omega), List.length_cons]
      simp [Nat.add_assoc, Nat.add_comm 1]
    rw [← e]
    exact ih
theorem below_sets {B g : Nat} {a : World} (hg : B ≤ g) : ∀ {vs : List Value} {w : World} {o : Nat}, Below B a w → Below B a (w.setCells g o vs)
  | [], _, _, h => h
  | v :: vs, _, _, h => below_sets hg (vs := vs) (h.setCell hg v)
theorem nextL_of {xs : List Int} {L : Nat} (h : L < xs.length) :
    (xs.set L (xs.getD L 0 + 1)).take (L + 1) ++ List.replicate (xs.length - (L + 1)) 0 ++ (xs.set L (xs.getD L 0 + 1)).drop (L + 1 + (List.replicate (xs.length - (L + 1)) (0 : Int)).length) = nextL xs L := by
  rw [List.drop_of_length_le (by rw [List.length_set, List.length_replicate]; omega), List.append_nil, take_snoc (by rw [List.length_set]; exact h), getD_set, if_pos ⟨rfl, h⟩, List.take_set_of_le (by omega)]
  rfl

theorem run_clear_none (A : Option Addr) (c : Nat) (ty : TypeId) (w : World) : (Builtin.clear_ #[22] ty #[.slice A 0 c]).run Try.prog w = .ok (.tuple #[]) w := by
  cases A <;> simp [Builtin.clear_, run_underlying Try.underlying22]

set_option maxHeartbeats 400000 in
theorem bnext_bad (A : Option Addr) (n c : Nat) (xs : List Int) (w : World) (h : Ints w A n xs) (hm : n ≤ 9223372036854775807) (he : heapErr xs ≠ 0) :
    Calls Try.prog 11 #[.slice A n c] w fun e w' => e = .returned (.tuple #[.slice none 0 0, .int .i64 (heapErr xs)]) ∧ w = w' := by
  have H := hid (bcheck_any A n c xs w h hm)
  clear h
  generalize heapErr xs = er at *
  have hne : (er != 0) = true := by simpa using he
  go_enter Try.func11, Try.ntmps11
  go_wp2_with fail
  refine H.out.mono ?_
  rintro e w' ⟨rfl, rfl⟩
  go_wp2
  go_ret2
  exact ⟨rfl, rfl⟩

set_option maxHeartbeats 400000 in
theorem bnext_none (A : Option Addr) (n c : Nat) (xs : List Int) (w : World) (h : Ints w A n xs) (hn : n ≤ 10) (hr : Rgs xs) (hl : ltg xs n < 0) :
    Calls Try.prog 11 #[.slice A n c] w fun e w' => e = .returned (.tuple #[.slice none 0 0, .int .i64 4]) ∧ w = w' := by
  have H1 := hid (bcheck_any A n c xs w h (by omega))
  rw [heapErr_ok (by rw [h.len]; exact hn) hr] at H1
  have H2 := hid (lastToGrow_any A n c xs w h hn hr)
  generalize ltg xs n = L at *
  clear h hr
  go_enter Try.func11, Try.ntmps11
  go_wp2_with fail
  refine H1.out.mono ?_
  rintro e w' ⟨rfl, rfl⟩
  go_wp2_with fail
  refine H2.out.mono ?_
  rintro e w' ⟨rfl, rfl⟩
  go_wp2
  go_ret2
  exact ⟨rfl, rfl⟩

/-- A list in new memory, and an error, come back. -/
def RetNew (w : World) (n : Nat) (ys : List Int) (er : Int) (e : Ending) (w' : World) : Prop :=
  ∃ g c, e = .returned (.tuple #[.slice (some ⟨g, 0, none⟩) n c, .int .i64 er]) ∧ w.heap.size ≤ g ∧ Below w.heap.size w w' ∧ Ints w' (some ⟨g, 0, none⟩) n ys ∧ Cap n c

set_option maxHeartbeats 1600000 in
theorem bnext_new (A : Option Addr) (n c L : Nat) (xs : List Int) (w : World) (h : Ints w A n xs) (hn : n ≤ 10) (hr : Rgs xs) (hl : ltg xs n = (L : Int)) :
    Calls Try.prog 11 #[.slice A n c] w (RetNew w n (nextL xs L) 0) := by
  have H1 := hid (bcheck_any A n c xs w h (by omega))
  rw [heapErr_ok (by rw [h.len]; exact hn) hr] at H1
  have H2 := hid (lastToGrow_any A n c xs w h hn hr)
  rw [hl] at H2
  have HC := hid (clone_any A n c xs w h (by omega))
  have hL := (ltg_some hl).1
  have hxL := (ltg_some hl).2.1
  have hbk := bk_le xs L
  have hx0 := (hr L (by rw [h.len]; exact hL)).1
  have HN := hid (nextL_of (xs := xs) (L := L) (by rw [h.len]; exact hL))
  have HLEN := hid h.len
  rw [h.len] at HN
  clear h hr hl
  go_enter Try.func11, Try.ntmps11
  go_wp2_with fail
  refine H1.out.mono ?_
  rintro e w' ⟨rfl, rfl⟩
  go_wp2_with fail
  refine H2.out.mono ?_
  rintro e w' ⟨rfl, rfl⟩
  have hLI : ¬ (L : Int) < 0 := by omega
  go_wp2_with fail
  refine HC.out.mono ?_
  rintro e w1 ⟨v, rfl, hown, hbel⟩
  obtain ⟨g, cap, rfl, hbg, hgl, hcap⟩ := hown.form (by rw [HLEN.out]; omega)
  have hcx := hown.ints
  have hown2 := hown
  rw [HLEN.out] at hown2 hcap ⊢
  have g1 := hown.cell (j := L) (by rw [HLEN.out]; exact hL)
  have f1 := hown.frozen L
  have HO := hid (hown2.set HLEN.out.symm L (xs.getD L 0 + 1))
  have HB := hid (hbel.setCell (p := ⟨g, L, none⟩) hbg (.int .i64 (xs.getD L 0 + 1)))
  clear hown hown2 hbel H1 H2 HC
  generalize hx : xs.getD L 0 = x at *
  have HX := hid hx
  clear hx
  have hcap2 : cap ≤ 9223372036854775807 := by
    obtain ⟨_, _, e, _, hc⟩ := hcx
    injection e with _ _ e
    rw [e]
    exact hc.2
  clear hcx
  have hsl := fun W => run_from (some ⟨g, 0, none⟩) n cap (L + 1) ((L : Int) + 1) (by omega) (by omega) W
  have hLn : (L : Int) < (n : Int) := by omega
  by_cases hlast : n = L + 1
  · subst hlast
    rw [Nat.sub_self] at hsl
    rw [Nat.sub_self] at HN
    have hcl := fun (ty : TypeId) (W : World) => run_clear_none (subA (some ⟨g, 0, none⟩) cap (L + 1)) (cap - (L + 1)) ty W
    go_wp2
    go_ret2
    refine ⟨_, _, rfl, hbg, HB.out, ?_, hcap, hcap2⟩
    have hI := HO.out
    rw [← HN.out]
    simp only [List.replicate_zero, List.append_nil, List.length_nil, Nat.add_zero, List.take_append_drop]
    obtain ⟨A', c', e, hI', _⟩ := hI.ints
    injection e with e1 e2 e3
    subst e1
    rw [← e2] at hI'
    exact hI'
  · generalize hW : w1.setCell ⟨g, L, none⟩ (.int .i64 (x + 1)) = W at *
    have hsub : subA (some ⟨g, 0, none⟩) cap (L + 1) = some ⟨g, L + 1, none⟩ := by
      unfold subA
      rw [if_neg (by omega)]
      simp [Addr.add]
    rw [hsub] at hsl
    have hOW := HO.out
    have hwl : (xs.set L (x + 1)).length = n := by rw [List.length_set]; exact HLEN.out
    have hcl : ∀ ty, (Builtin.clear_ #[22] ty #[.slice (some ⟨g, L + 1, none⟩) (n - (L + 1)) (cap - (L + 1))]).run Try.prog W = .ok (.tuple #[]) (W.setCells g (L + 1) (List.replicate (n - (L + 1)) (.int .i64 0))) :=
      fun ty => Lib.run_clear_slice W 22 3 ty (.int .i64 0) Try.underlying22 (fun _ => by kernel_rfl) rfl rfl g (L + 1) _ _ (by omega) (fun t ht => by rw [← hwl] at hOW; rw [hOW.cell (by rw [hwl]; omega)]; rfl) (fun t ht => by rw [← hwl] at hOW; exact hOW.frozen _)
    have HS := hid (HO.out.sets (ys := List.replicate (n - (L + 1)) 0) (o := L + 1) hwl.symm (by rw [hwl, List.length_replicate]; omega))
    rw [HN.out, List.map_replicate] at HS
    have HB2 := hid (below_sets (g := g) (o := L + 1) (vs := List.replicate (n - (L + 1)) (.int .i64 0)) hbg HB.out)
    clear hOW hwl hsub HO HB HN
    go_wp2
    go_ret2
    refine ⟨_, _, rfl, hbg, HB2.out, ?_, hcap, hcap2⟩
    obtain ⟨A', c', e, hI', _⟩ := HS.out.ints
    injection e with e1 e2 e3
    subst e1
    rw [← e2] at hI'
    exact hI'

theorem bnext_ok (A : Option Addr) (n c L : Nat) (xs : List Int) (w : World) (h : Ints w A n xs) (hn : n ≤ 10) (hr : Rgs xs) (hl : ltg xs n = (L : Int)) :
    Calls Try.prog 11 #[.slice A n c] w (RetInts w (nextL xs L) 0) :=
  (bnext_new A n c L xs w h hn hr hl).mono fun _ _ ⟨_, _, he, _, hb, hI, hc⟩ => ⟨_, _, _, he, hb, hI, hc⟩

end Go.Proofs.Ytigfhpffghajaaa
