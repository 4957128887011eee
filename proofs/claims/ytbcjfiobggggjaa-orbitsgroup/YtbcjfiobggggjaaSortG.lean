/-
  math/bits.Len at small numbers; slices.pdqsortCmpFunc, slices.SortFunc up to twelve numbers.
-/
import Derived.Test.YtbcjfiobggggjaaSortF
namespace Go.Proofs.Ytbcjfiobggggjaa
open Go.RowKit

def SomeInt (w : World) (e : Ending) (w' : World) : Prop := ∃ r : Int, e = .returned (.int .i64 r) ∧ w = w'

set_option maxHeartbeats 1600000 in
set_option maxRecDepth 100000 in
theorem len64_small (x : Int) (w : World) (h0 : 0 ≤ x) (h1 : x ≤ 12) : Calls Try.prog 91 #[.int .u64 x] w (SomeInt w) := by
  have hx : x = 0 ∨ x = 1 ∨ x = 2 ∨ x = 3 ∨ x = 4 ∨ x = 5 ∨ x = 6 ∨ x = 7 ∨ x = 8 ∨ x = 9 ∨ x = 10 ∨ x = 11 ∨ x = 12 := by omega
  rcases hx with rfl | rfl | rfl | rfl | rfl | rfl | rfl | rfl | rfl | rfl | rfl | rfl | rfl
  all_goals
    clear h0 h1
    go_enter Try.func91, Try.ntmps91
    go_wp2
    go_ret
    exact ⟨_, rfl, rfl⟩

set_option maxHeartbeats 400000 in
theorem len_small (x : Int) (w : World) (h0 : 0 ≤ x) (h1 : x ≤ 12) : Calls Try.prog 61 #[.int .u64 x] w (SomeInt w) := by
  go_enter Try.func61, Try.ntmps61
  go_wp2_with fail
  refine (len64_small x _ h0 h1).mono ?_
  rintro e w' ⟨r, rfl, rfl⟩
  go_wp2
  go_ret
  exact ⟨_, rfl, rfl⟩

set_option maxHeartbeats 1600000 in
set_option maxRecDepth 100000 in
theorem pdqF_any (base g n cap : Nat) (xs : List Int) (r : Int) (w : World) (h : OwnInts w base (.slice (some ⟨g, 0, none⟩) n cap) xs) (hl : xs.length = n) (hn : n ≤ 12) (hn1 : 1 ≤ n) :
    Calls Try.prog 117 #[.slice (some ⟨g, 0, none⟩) n cap, .int .i64 0, .int .i64 n, .int .i64 r, .func (.func 107) #[] #[]] w (RetSort falls w base g n cap xs) := by
  go_enter Try.func117, Try.ntmps117
  go_wp2
  go_loopg [1, 2] 0 (fun _ s1 s2 wr => s1 = .int .i64 0 ∧ s2 = .int .i64 n ∧ w = wr)
  case atStart => exact ⟨rfl, rfl, rfl⟩
  case round =>
    obtain ⟨rfl, rfl, rfl⟩ := hrel
    go_wp2_with fail
    refine (insertionF_any base g n cap xs _ h hl (by omega) hn1).mono ?_
    rintro e w' ⟨rfl, hys⟩
    have HYS := hid hys
    clear hys
    go_wp2
    go_end0
    exact ⟨rfl, HYS.out⟩

/-- Nothing to put in order. -/
def RetNone (w : World) (e : Ending) (w' : World) : Prop := e = .returned (.tuple #[]) ∧ w = w'

set_option maxHeartbeats 400000 in
theorem insertionF_zero (A : Option Addr) (c : Nat) (f : Value) (w : World) :
    Calls Try.prog 120 #[.slice A 0 c, .int .i64 0, .int .i64 0, f] w (RetNone w) := by
  go_enter Try.func120, Try.ntmps120
  go_wp2
  go_loopg [8] 0 (fun _ s wr => s = .int .i64 1 ∧ w = wr)
  case atStart => exact ⟨rfl, rfl⟩
  case round =>
    obtain ⟨rfl, rfl⟩ := hrel
    go_wp2
    go_end0
    exact ⟨rfl, rfl⟩

set_option maxHeartbeats 1600000 in
set_option maxRecDepth 100000 in
theorem pdqF_zero (A : Option Addr) (c : Nat) (r : Int) (f : Value) (w : World) :
    Calls Try.prog 117 #[.slice A 0 c, .int .i64 0, .int .i64 0, .int .i64 r, f] w (RetNone w) := by
  go_enter Try.func117, Try.ntmps117
  go_wp2
  go_loopg [1, 2] 0 (fun _ s1 s2 wr => s1 = .int .i64 0 ∧ s2 = .int .i64 0 ∧ w = wr)
  case atStart => exact ⟨rfl, rfl, rfl⟩
  case round =>
    obtain ⟨rfl, rfl, rfl⟩ := hrel
    go_wp2_with fail
    refine (insertionF_zero A c f _).mono ?_
    rintro e w' ⟨rfl, rfl⟩
    go_wp2
    go_end0
    exact ⟨rfl, rfl⟩

/-- The slice's numbers have been put in order, in place. -/
def RetSorted (r : Int → Int → Prop) (w : World) (base : Nat) (v : Value) (xs : List Int) (e : Ending) (w' : World) : Prop :=
  e = .returned (.tuple #[]) ∧ ∃ ys, OwnInts w' base v ys ∧ ys.Perm xs ∧ SortedTo r ys ys.length ∧ w.grownBy w' v.ownBlock

set_option maxHeartbeats 800000 in
theorem sortFunc_any (base : Nat) (v : Value) (xs : List Int) (w : World) (h : OwnInts w base v xs) (hn : xs.length ≤ 12) :
    Calls Try.prog 106 #[v, .func (.func 107) #[] #[]] w (RetSorted falls w base v xs) := by
  by_cases h0 : xs.length = 0
  · obtain ⟨A, c, rfl, _, _⟩ := h.ints
    have HO := hid h
    clear h
    have hx : xs = [] := List.eq_nil_of_length_eq_zero h0
    subst hx
    go_enter Try.func106, Try.ntmps106
    go_wp2_with fail
    refine (len_small 0 _ (by omega) (by omega)).mono ?_
    rintro e w' ⟨r, rfl, rfl⟩
    go_wp2_with fail
    refine (pdqF_zero A c r _ _).mono ?_
    rintro e w' ⟨rfl, rfl⟩
    go_wp2
    go_end0
    exact ⟨rfl, [], HO.out, List.Perm.refl _, fun u v huv hv => by simp at hv, only_refl _ _⟩
  · obtain ⟨g, cap, rfl, hb, hg, hc⟩ := h.form (by omega)
    have HO := hid h
    clear h
    generalize hm : xs.length = m at *
    have HM := hid hm
    clear hm
    go_enter Try.func106, Try.ntmps106
    go_wp2_with fail
    refine (len_small m _ (by omega) (by omega)).mono ?_
    rintro e w' ⟨r, rfl, rfl⟩
    go_wp2_with fail
    refine (pdqF_any base g m cap xs r _ HO.out HM.out hn (by omega)).mono ?_
    rintro e w1 ⟨rfl, ys, hown, hperm, hsort, hgrow⟩
    have HY := hid (And.intro hown (And.intro hperm (And.intro hsort hgrow)))
    clear hown hperm hsort hgrow
    go_wp2
    go_end0
    refine ⟨rfl, ys, HY.out.1, HY.out.2.1, ?_, HY.out.2.2.2⟩
    rw [HY.out.2.1.length_eq, HM.out]
    exact HY.out.2.2.1

/-! ### perm.Cycles -/

/-- The lengths of the cycles, the greatest first. -/
def IsCycles (p : List Int) (ys : List Int) : Prop := ys.Perm (cycL p p.length) ∧ SortedTo falls ys ys.length

def RetCycles (w : World) (p : List Int) (e : Ending) (w' : World) : Prop := ∃ ys, IsCycles p ys ∧ RetInts w ys 0 e w'

theorem below_grown {B : Nat} {a w w' : World} {row : Option Nat} (h : Below B a w) (hg : w.grownBy w' row) (hB : B ≤ w.heap.size) (hr : ∀ k, row = some k → B ≤ k) : Below B a w' := h.grown hg hB hr

set_option maxHeartbeats 800000 in
theorem cycles_ok (A : Option Addr) (n c : Nat) (p : List Int) (w : World) (hA : Ints w A n p) (hp : permErr p = 0) :
    Calls Try.prog 76 #[.slice A n c] w (RetCycles w p) := by
  have hn10 : n ≤ 10 := by rw [← hA.len]; exact (permErr_ok.1 hp).1
  have HP := hid (permErr_ok.1 hp).2
  go_enter Try.func76, Try.ntmps76
  go_wp2_with fail
  refine (check_any A n c p _ hA (by omega)).mono ?_
  rintro e w1 ⟨rfl, hb1⟩
  have hA1 := hA.keep hb1
  have HB1 := hid hb1
  have HL := hid hA.len
  clear hA hb1
  go_wp2_with fail
  refine (cycleLengths_any A n c p _ hA1 HP.out hn10).mono ?_
  rintro e w2 ⟨v, rfl, hown, hb2⟩
  have HB2 := hid (HB1.out.trans (hb2.mono HB1.out.size))
  have HO := hid hown
  have hl10 := Nat.le_trans (length_cycL_le p n) hn10
  have HS1 := hid hb2.size
  clear hA1 hb2 hown
  go_wp2_with fail
  refine (sortFunc_any _ v _ _ HO.out (by omega)).mono ?_
  rintro e w3 ⟨rfl, ys, hown3, hperm, hsort, hgrow⟩
  have HB3 : Hid (Below w.heap.size w w3) := HB2.out.grown hgrow HB2.out.size (fun k hk => Nat.le_trans HB1.out.size (World.ownsRow.lt HO.out k hk).1)
  have HC : Hid (IsCycles p ys) := ⟨by rw [HL.out]; exact hperm, hsort⟩
  obtain ⟨A3, c3, hv3, hI3, hcap3⟩ := hown3.ints
  subst hv3
  have HI3 := hid hI3
  clear hown3 hperm hsort hgrow hI3
  go_wp2
  go_ret2
  exact ⟨ys, HC.out, _, _, _, rfl, HB3.out, HI3.out, hcap3⟩

end Go.Proofs.Ytbcjfiobggggjaa
