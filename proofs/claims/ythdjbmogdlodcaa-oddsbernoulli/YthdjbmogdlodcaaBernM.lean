/-
  Coins: plain numbers, reckoned.
-/
import Derived.Test.YthdjbmogdlodcaaOddN
import Derived.Test.YthdjbmogdlodcaaOddE
import Derived.Test.YthdjbmogdlodcaaOddQ
import Derived.Test.YthdjbmogdlodcaaSubM
namespace Go.Proofs.Ythdjbmogdlodcaa
open Go.RowKit

def coin1 : List (Int × Int) := [(0, 1), (1, 1)]
def coinL : Nat → List (Int × Int)
  | 0 => coin1
  | j + 1 => bothL (coinL j) coin1
theorem coin_good {j : Nat} (hj : j ≤ 2) : GoodD (coinL j) := good_of_err ((by decide +kernel : ∀ j : Fin 3, oddErr (vsL (coinL j.val)) (wsL (coinL j.val)) = 0) ⟨j, by omega⟩)
/-- How many ways to choose k, k + 1 .. (t of them) of n. -/
def waysN (n k : Nat) : Nat → Nat
  | 0 => 0
  | t + 1 => waysN n k t + cho n (k + t)
def coinP (n k : Nat) : Rat := Rat.divInt (E (geI k) (coinL (n - 1))) (E one (coinL (n - 1)))
theorem coin_num {n k : Nat} (h0 : 1 ≤ n) (hn : n ≤ 3) (hk : k ≤ n + 1) : (coinP n k).num * 2 ^ n = ((waysN n k (n + 1 - k) : Nat) : Int) * ((coinP n k).den : Int) := by
  have h : ∀ (n : Fin 3) (k : Fin 5), (coinP (n.val + 1) k.val).num * 2 ^ (n.val + 1) = ((waysN (n.val + 1) k.val (n.val + 1 + 1 - k.val) : Nat) : Int) * ((coinP (n.val + 1) k.val).den : Int) := by decide +kernel
  have := h ⟨n - 1, by omega⟩ ⟨k, by omega⟩
  dsimp only at this
  rwa [show n - 1 + 1 = n by omega] at this
theorem coin_mean {n : Nat} (h0 : 1 ≤ n) (hn : n ≤ 3) : 2 * (mean (coinL (n - 1))).num = (n : Int) * ((mean (coinL (n - 1))).den : Int) := by
  have h : ∀ (n : Fin 3), 2 * (mean (coinL n.val)).num = ((n.val + 1 : Nat) : Int) * ((mean (coinL n.val)).den : Int) := by decide +kernel
  have := h ⟨n - 1, by omega⟩
  dsimp only at this
  rwa [show n - 1 + 1 = n by omega] at this
theorem coin_var {n : Nat} (h0 : 1 ≤ n) (hn : n ≤ 3) : 4 * (var (coinL (n - 1))).num = (n : Int) * ((var (coinL (n - 1))).den : Int) := by
  have h : ∀ (n : Fin 3), 4 * (var (coinL n.val)).num = ((n.val + 1 : Nat) : Int) * ((var (coinL n.val)).den : Int) := by decide +kernel
  have := h ⟨n - 1, by omega⟩
  dsimp only at this
  rwa [show n - 1 + 1 = n by omega] at this
theorem ways_bd {n k t : Nat} (hn : n ≤ 3) (hk : k ≤ 4) (ht : t ≤ 5) : waysN n k t ≤ 100 := by
  have h : ∀ (n : Fin 4) (k : Fin 5) (t : Fin 6), waysN n.val k.val t.val ≤ 100 := by decide +kernel
  exact h ⟨n, by omega⟩ ⟨k, by omega⟩ ⟨t, by omega⟩

/-- A slice that is read, none of it in block bo. -/
def IntsOff (w : World) (bo : Nat) (A : Option Addr) (n : Nat) (xs : List Int) : Prop := Ints w A n xs ∧ ∀ b off, A = some ⟨b, off, none⟩ → b ≠ bo
theorem IntsOff.set {w : World} {bo : Nat} {A : Option Addr} {n : Nat} {xs : List Int} (h : IntsOff w bo A n xs) (j : Nat) (v : Value) : IntsOff (w.setCell ⟨bo, j, none⟩ v) bo A n xs := by
  refine ⟨⟨h.1.len, fun hn => ?_⟩, h.2⟩
  obtain ⟨b, off, e, hlt, hc⟩ := h.1.row hn
  refine ⟨b, off, e, by simpa [World.setCell] using hlt, fun i hi => ?_⟩
  rw [World.cell?_setCell_other w ⟨bo, j, none⟩ ⟨b, off + i, none⟩ v (fun x => h.2 b off e (by cases x; rfl))]
  exact hc i hi
theorem IntsOff.of_own {w : World} {bo base c : Nat} {A : Option Addr} {n : Nat} {xs : List Int} (h : OwnInts w base (.slice A n c) xs) (hb : bo < base) : IntsOff w bo A n xs := by
  refine ⟨h.asInts.1, fun b off e => ?_⟩
  subst e
  have := (h.below_base b rfl).1
  omega
theorem OddsAt.put {w : World} {b : Nat} {A : Option Addr} {n c : Nat} {B : Option Addr} {m d : Nat} (h : OddsAt w b A n c B m d) (A' : Option Addr) (n' c' : Nat) (B' : Option Addr) (m' d' : Nat) :
    OddsAt ((w.setCell ⟨b, 0, none⟩ (.slice A' n' c')).setCell ⟨b, 1, none⟩ (.slice B' m' d')) b A' n' c' B' m' d' := by
  have h1 := h.set0 A' n' c'
  refine ⟨?_, World.cell?_setCell_same _ ⟨b, 1, none⟩ _ (u := .slice B m d) h1.p1, ?_, ?_, by simpa [World.setCell] using h.lt⟩
  · rw [World.cell?_setCell_other _ ⟨b, 1, none⟩ ⟨b, 0, none⟩ _ (fun e => by cases e)]
    exact h1.p0
  · rw [World.frozen?_setCell]
    exact h1.f0
  · rw [World.frozen?_setCell]
    exact h1.f1
end Go.Proofs.Ythdjbmogdlodcaa
