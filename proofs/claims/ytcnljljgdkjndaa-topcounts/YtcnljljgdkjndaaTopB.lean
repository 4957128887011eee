/-
  The closure of casttop.TopCounts that goes through all shapes.
-/
import Derived.Test.YtcnljljgdkjndaaTopA
import Derived.Test.YtcnljljgdkjndaaShpC
import Derived.Test.YtcnljljgdkjndaaAppI
import Derived.Test.YtcnljljgdkjndaaClone
import Derived.Test.YtcnljljgdkjndaaGrid
import Derived.Deep.RegionHeld3
namespace Go.Proofs.Ytcnljljgdkjndaa
open Go.RowKit

theorem sq_nonneg (x : Int) : 0 ≤ x * x := by
  rcases Int.le_total 0 x with h | h
  · exact Int.mul_nonneg h h
  · exact Int.mul_nonneg_of_nonpos_of_nonpos h h

/-- Sums from 1 up. -/
def sumUp (g : Nat → Int) : Nat → Int
  | 0 => 0
  | k + 1 => sumUp g k + g (k + 1)
/-- The squares of all shapes that begin so. -/
def sqz : Nat → Nat → Nat → List Int → Int
  | 0, left, _, pre => if left = 0 then cntS pre * cntS pre else 0
  | f + 1, left, most, pre => if left = 0 then cntS pre * cntS pre else sumUp (fun x => sqz f (left - x) x (pre ++ [(x : Int)])) (min left most)
/-- All of them are shapes. -/
def sqGood : Nat → Nat → Nat → List Int → Bool
  | 0, left, _, pre => decide (left = 0) && decide (shapeErr pre = 0)
  | f + 1, left, most, pre => if left = 0 then decide (shapeErr pre = 0) else (List.range (min left most)).all fun i => sqGood f (left - (i + 1)) (i + 1) (pre ++ [((i + 1 : Nat) : Int)])
set_option maxRecDepth 100000 in
theorem sqz_all : ((List.range 11).all fun n => decide (sqz 10 n n [] = ((fact n : Nat) : Int)) && sqGood 10 n n []) = true := by decide +kernel

theorem sqz_nonneg : ∀ (f left most : Nat) (pre : List Int), 0 ≤ sqz f left most pre
  | 0, left, most, pre => by
    unfold sqz
    split
    · exact sq_nonneg _
    · exact Int.le_refl _
  | f + 1, left, most, pre => by
    unfold sqz
    split
    · exact sq_nonneg _
    · generalize min left most = k
      induction k with
      | zero => exact Int.le_refl _
      | succ k ih => exact Int.add_nonneg ih (sqz_nonneg f _ _ _)
theorem sumUp_le {g : Nat → Int} (h : ∀ x, 0 ≤ g x) {i k : Nat} (hk : i ≤ k) : sumUp g i ≤ sumUp g k := by
  induction k with
  | zero =>
    obtain rfl : i = 0 := by omega
    exact Int.le_refl _
  | succ k ih =>
    by_cases e : i = k + 1
    · subst e
      exact Int.le_refl _
    · have h1 := ih (by omega)
      have h2 := h (k + 1)
      show sumUp g i ≤ sumUp g k + g (k + 1)
      omega
theorem sumUp_nonneg {g : Nat → Int} (h : ∀ x, 0 ≤ g x) (k : Nat) : 0 ≤ sumUp g k := sumUp_le h (Nat.zero_le k)

/-- The closure. -/
abbrev formsFn (b1 b2 b3 : Nat) : Value := .func (.func 29) #[] #[.pointer (some ⟨b1, 0, none⟩), .pointer (some ⟨b2, 0, none⟩), .pointer (some ⟨b3, 0, none⟩)]

/-- The world while the closure runs: all was right, s together. -/
structure FormsW (w : World) (b1 b2 b3 : Nat) (s : Int) : Prop where
  p1 : w.cell? ⟨b1, 0, none⟩ = some (.bool true)
  f1 : w.frozen? ⟨b1, 0, none⟩ = false
  p2 : w.cell? ⟨b2, 0, none⟩ = some (.int .i64 s)
  f2 : w.frozen? ⟨b2, 0, none⟩ = false
  p3 : w.cell? ⟨b3, 0, none⟩ = some (formsFn b1 b2 b3)
  n12 : b1 ≠ b2
  n13 : b1 ≠ b3
  n23 : b2 ≠ b3
  l1 : b1 < w.heap.size
  l2 : b2 < w.heap.size
  l3 : b3 < w.heap.size
/-- The two blocks that it writes. -/
def fpF (b1 b2 : Nat) (k : Nat) : Prop := k = b1 ∨ k = b2

theorem FormsW.keep {w w' : World} {b1 b2 b3 : Nat} {s : Int} (h : FormsW w b1 b2 b3 s) (hb : Below w.heap.size w w') : FormsW w' b1 b2 b3 s :=
  ⟨(hb.cell (p := ⟨b1, 0, none⟩) h.l1).trans h.p1, (World.frozen?_of_block (a := ⟨b1, 0, none⟩) (hb.block b1 h.l1)).trans h.f1, (hb.cell (p := ⟨b2, 0, none⟩) h.l2).trans h.p2, (World.frozen?_of_block (a := ⟨b2, 0, none⟩) (hb.block b2 h.l2)).trans h.f2,
    (hb.cell (p := ⟨b3, 0, none⟩) h.l3).trans h.p3, h.n12, h.n13, h.n23, Nat.lt_of_lt_of_le h.l1 hb.size, Nat.lt_of_lt_of_le h.l2 hb.size, Nat.lt_of_lt_of_le h.l3 hb.size⟩

theorem FormsW.add {w : World} {b1 b2 b3 : Nat} {s : Int} (h : FormsW w b1 b2 b3 s) (s' : Int) : FormsW ((w.setCell ⟨b1, 0, none⟩ (.bool true)).setCell ⟨b2, 0, none⟩ (.int .i64 s')) b1 b2 b3 s' := by
  have e12 : (⟨b1, 0, none⟩ : Addr) ≠ ⟨b2, 0, none⟩ := fun e => h.n12 (by injection e)
  have e13 : (⟨b1, 0, none⟩ : Addr) ≠ ⟨b3, 0, none⟩ := fun e => h.n13 (by injection e)
  have e23 : (⟨b2, 0, none⟩ : Addr) ≠ ⟨b3, 0, none⟩ := fun e => h.n23 (by injection e)
  refine ⟨?_, by simpa using h.f1, ?_, by simpa using h.f2, ?_, h.n12, h.n13, h.n23, by simpa [World.setCell] using h.l1, by simpa [World.setCell] using h.l2, by simpa [World.setCell] using h.l3⟩
  · rw [World.cell?_setCell_other _ _ _ _ e12.symm]
    exact World.cell?_setCell_same _ _ _ h.p1
  · exact World.cell?_setCell_same _ _ _ ((World.cell?_setCell_other _ _ _ _ e12).trans h.p2)
  · rw [World.cell?_setCell_other _ _ _ _ e23, World.cell?_setCell_other _ _ _ _ e13]
    exact h.p3

def RetF (w : World) (b1 b2 b3 : Nat) (s : Int) (e : Ending) (w' : World) : Prop := e = .returned (.tuple #[]) ∧ FormsW w' b1 b2 b3 s ∧ Only (fpF b1 b2) w w'

set_option maxHeartbeats 1600000 in
set_option maxRecDepth 100000 in
theorem topforms_leaf (most : Nat) (A : Option Addr) (n c : Nat) (xs : List Int) (w : World) (b1 b2 b3 : Nat) (s : Int) (h : Ints w A n xs) (hp : IsShape xs) (hw : FormsW w b1 b2 b3 s) (h0 : 0 ≤ s) (hs : s + cntS xs * cntS xs ≤ 4000000) :
    Calls Try.prog 29 #[.int .i64 0, .int .i64 (most : Int), .slice A n c, .pointer (some ⟨b1, 0, none⟩), .pointer (some ⟨b2, 0, none⟩), .pointer (some ⟨b3, 0, none⟩)] w (RetF w b1 b2 b3 (s + cntS xs * cntS xs)) := by
  have hb := cntS_bound hp
  have HC := hid (tcount_ok A n c xs w h hp)
  obtain ⟨c1, c2⟩ := hb
  have q0 : 0 ≤ cntS xs * cntS xs := sq_nonneg _
  clear h hp
  generalize cntS xs = C at *
  obtain ⟨Q, hQ⟩ : ∃ Q, C * C = Q := ⟨_, rfl⟩
  rw [hQ] at q0 hs ⊢
  have hmin : (if (most : Int) < 0 then (most : Int) else 0) = 0 := if_neg (by omega)
  go_enter Try.func29, Try.ntmps29
  go_wp2_with fail
  refine HC.out.mono ?_
  rintro e w1 ⟨rfl, hb⟩
  have hw1 := hw.keep hb
  have HB1 := hid hb
  have HW1 := hid hw1
  have g1 := hw1.p1
  have f1 := hw1.f1
  have g2 := hw1.p2
  have f2 := hw1.f2
  have n12 := hw1.n12
  clear hb hw1 HC hw
  have HO1 : Hid (Only (fpF b1 b2) w ((w1.setCell ⟨b1, 0, none⟩ (.bool true)).setCell ⟨b2, 0, none⟩ (.int .i64 (s + Q)))) := ((Only.of_below HB1.out).set (.inl rfl) 0 _).set (.inr rfl) 0 _
  have HW2 := hid (HW1.out.add (s + Q))
  go_wp2
  go_loopg [11] 0 (fun g v wr => v = .int .i64 1 ∧ FormsW wr b1 b2 b3 (s + Q) ∧ Only (fpF b1 b2) w wr)
  case atStart => exact ⟨rfl, HW2.out, HO1.out⟩
  case round =>
    obtain ⟨rfl, hw2, ho2⟩ := hrel
    have HW3 := hid hw2
    have HO3 := hid ho2
    clear hw2 ho2
    go_wp2
    go_end0
    exact ⟨rfl, HW3.out, HO3.out⟩

/-- min(x, y). -/
theorem run_minFM {P : Program} (x y q : Nat) (hq : q = min x y) (ts : Array TypeId) (t : TypeId) (W : World) :
    (Builtin.min_ ts t #[.int .i64 (x : Int), .int .i64 (y : Int)]).run P W = .ok (.int .i64 (q : Int)) W := by
  have e : (if (y : Int) < (x : Int) then (y : Int) else (x : Int)) = (q : Int) := by
    subst hq
    split <;> omega
  simp only [Builtin.min_, Builtin.min2, List.foldlM_cons, List.foldlM_nil, pure_bind]
  simp only [e]
  rfl

/-- The slice's row lies in none of the two blocks. -/
def ApartF (A : Option Addr) (b1 b2 : Nat) : Prop := ∀ b off, A = some ⟨b, off, none⟩ → b ≠ b1 ∧ b ≠ b2

theorem Ints.only {w w' : World} {A : Option Addr} {n b1 b2 : Nat} {xs : List Int} (h : Ints w A n xs) (ha : ApartF A b1 b2) (ho : Only (fpF b1 b2) w w') : Ints w' A n xs := by
  refine ⟨h.len, fun hn => ?_⟩
  obtain ⟨b, off, e, hlt, hc⟩ := h.row hn
  have hap := ha b off e
  have hbk := ho.block b hlt (fun hf => hf.elim hap.1 hap.2)
  exact ⟨b, off, e, Nat.lt_of_lt_of_le hlt ho.size, fun j hj => (World.cell?_of_block (a := ⟨b, off + j, none⟩) hbk).trans (hc j hj)⟩

def TopFormsTo (f : Nat) : Prop := ∀ (left most : Nat) (A : Option Addr) (n c : Nat) (xs : List Int) (w : World) (b1 b2 b3 : Nat) (s : Int), left ≤ 10 → most ≤ 10 → n + left ≤ 10 → Ints w A n xs → ApartF A b1 b2 → sqGood f left most xs = true → FormsW w b1 b2 b3 s → 0 ≤ s → s + sqz f left most xs ≤ 4000000 →
  Calls Try.prog 29 #[.int .i64 (left : Int), .int .i64 (most : Int), .slice A n c, .pointer (some ⟨b1, 0, none⟩), .pointer (some ⟨b2, 0, none⟩), .pointer (some ⟨b3, 0, none⟩)] w (RetF w b1 b2 b3 (s + sqz f left most xs))

theorem topforms_zero : TopFormsTo 0 := by
  intro left most A n c xs w b1 b2 b3 s hl hm hn h ha hg hw h0 hs
  simp only [sqGood, Bool.and_eq_true, decide_eq_true_eq] at hg
  obtain ⟨rfl, hp⟩ := hg
  have e : sqz 0 0 most xs = cntS xs * cntS xs := if_pos rfl
  rw [e] at hs ⊢
  exact topforms_leaf most A n c xs w b1 b2 b3 s h (isShape_of hp) hw h0 hs

end Go.Proofs.Ytcnljljgdkjndaa
