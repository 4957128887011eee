/-
  Distributions: values brought within bounds; MARKOV; tails.
-/
import Derived.Test.YthdjbmogdlodcaaOddP
import Derived.Test.YthdjbmogdlodcaaOddK
namespace Go.Proofs.Ythdjbmogdlodcaa
open Go.RowKit

theorem bstep {a b c : World} (h : Below a.heap.size a b) (k : Below b.heap.size b c) : Below a.heap.size a c := below_step h (Nat.le_refl _) k
/-- The first k brought within 0 to 20. -/
def modL (k : Nat) (vs : List Int) : List Int := (vs.take k).map (· % 21) ++ vs.drop k
theorem modL_zero (vs : List Int) : modL 0 vs = vs := by simp [modL]
theorem modL_all (vs : List Int) {n : Nat} (hn : n = vs.length) : modL n vs = vs.map (· % 21) := by subst hn; simp [modL]
theorem modL_len (k : Nat) (vs : List Int) : (modL k vs).length = vs.length := by
  unfold modL
  rw [List.length_append, List.length_map, List.length_take, List.length_drop]
  omega
theorem modL_at {k : Nat} {vs : List Int} (hk : k < vs.length) : (modL k vs).getD k 0 = vs.getD k 0 := by
  unfold modL
  rw [List.getD_eq_getElem?_getD, List.getD_eq_getElem?_getD, List.getElem?_append_right (by simp; omega)]
  simp only [List.length_map, List.length_take]
  rw [List.getElem?_drop]
  congr 2
  omega
theorem modL_set {k : Nat} {vs : List Int} (hk : k < vs.length) : (modL k vs).set k (vs.getD k 0 % 21) = modL (k + 1) vs := by
  unfold modL
  have e1 : ((vs.take k).map (· % 21)).length = k := by simp; omega
  have e2 : vs.drop k = vs[k] :: vs.drop (k + 1) := List.drop_eq_getElem_cons hk
  have e3 : vs.getD k 0 = vs[k] := by simp [List.getD_eq_getElem?_getD, hk]
  rw [List.set_append_right _ _ (by omega), e1, Nat.sub_self, e2, List.set_cons_zero, List.take_succ_eq_append_getElem hk, List.map_append, e3, List.append_assoc]
  rfl
theorem OddsAt.set0 {w : World} {b : Nat} {A : Option Addr} {n c : Nat} {B : Option Addr} {m d : Nat} (h : OddsAt w b A n c B m d) (A' : Option Addr) (n' c' : Nat) : OddsAt (w.setCell ⟨b, 0, none⟩ (.slice A' n' c')) b A' n' c' B m d := by
  refine ⟨World.cell?_setCell_same w ⟨b, 0, none⟩ _ (by rw [h.p0]), ?_, ?_, ?_, by simpa [World.setCell] using h.lt⟩
  · rw [World.cell?_setCell_other w ⟨b, 0, none⟩ ⟨b, 1, none⟩ _ (fun e => by cases e)]
    exact h.p1
  · rw [World.frozen?_setCell]
    exact h.f0
  · rw [World.frozen?_setCell]
    exact h.f1
theorem OddsAt.far {w w' : World} {b base : Nat} {A : Option Addr} {n c : Nat} {B : Option Addr} {m d : Nat} (h : OddsAt w b A n c B m d) (hb : Below base w w') (hl : b < base) : OddsAt w' b A n c B m d := by
  have e := hb.block b hl
  exact ⟨(hb.cell (p := ⟨b, 0, none⟩) hl).trans h.p0, (hb.cell (p := ⟨b, 1, none⟩) hl).trans h.p1, (World.frozen?_of_block (a := ⟨b, 0, none⟩) e).trans h.f0, (World.frozen?_of_block (a := ⟨b, 1, none⟩) e).trans h.f1, Nat.lt_of_lt_of_le h.lt hb.size⟩

theorem mod_vals {l : List (Int × Int)} {vs : List Int} (h : vs.map (· % 21) = vsL l) : ∀ p ∈ l, 0 ≤ p.1 ∧ p.1 ≤ 20 := by
  intro p hp
  have : p.1 ∈ vs.map (· % 21) := by rw [h]; exact List.mem_map_of_mem (f := Prod.fst) hp
  obtain ⟨x, _, e⟩ := List.mem_map.1 this
  omega

theorem div_le {a b T : Int} (hT : 1 ≤ T) (h : a ≤ b) : Rat.divInt a T ≤ Rat.divInt b T := by
  simp only [Rat.divInt_eq_div]
  have h1 : (a : Rat) ≤ (b : Rat) := by exact_mod_cast h
  have h2 : (0 : Rat) < (T : Rat) := by exact_mod_cast (show (0 : Int) < T by omega)
  generalize (a : Rat) = x at *
  generalize (b : Rat) = y at *
  generalize (T : Rat) = t at *
  have h3 : t ≠ 0 := by grind
  refine Rat.le_of_mul_le_mul_right (c := t) ?_ h2
  have e1 : x / t * t = x := by grind
  have e2 : y / t * t = y := by grind
  rw [e1, e2]
  exact h1
/-- MARKOV. -/
theorem markov {l : List (Int × Int)} (h : GoodD l) (hp : ∀ p ∈ l, 0 ≤ p.1 ∧ p.1 ≤ 20) (least : Int) : least * E (geI least) l ≤ E idI l := by
  rw [← E_mul]
  refine E_le _ _ h.2 (fun p hm => ?_)
  have := hp p hm
  unfold geI idI
  split <;> omega
theorem markov_rat {l : List (Int × Int)} (h : GoodD l) (hp : ∀ p ∈ l, 0 ≤ p.1 ∧ p.1 ≤ 20) (least : Int) : ¬ mean l < Rat.divInt (E (geI least) l) (E one l) * Rat.divInt least 1 := by
  have h1 := E_one_pos h
  have h2 := markov h hp least
  rw [Rat.divInt_mul_divInt]
  unfold mean
  rw [Int.mul_one, Rat.not_lt]
  exact div_le h1 (by rw [Int.mul_comm]; exact h2)
theorem least_bd {l : List (Int × Int)} (h : GoodD l) (least : Int) (h1 : 1 ≤ least) (h2 : least ≤ 23) : RB (Rat.divInt (E (geI least) l) (E one l) * Rat.divInt least 1) (1200 * 23) (1200 * 1) :=
  (beyond_bd least h).mul (RB.make (by omega) (by omega) (by omega))
theorem int_rat (x : Int) : (Rat.divInt x 1).num = x ∧ ((Rat.divInt x 1).den : Int) = 1 := by
  have e : Rat.divInt x 1 = (x : Rat) := by first | exact Rat.divInt_one x | (rw [Rat.divInt_eq_div]; simp; grind)
  rw [e]
  exact ⟨rfl, rfl⟩

/-- The first k tails together. -/
def tailS (l : List (Int × Int)) : Nat → Int
  | 0 => 0
  | k + 1 => tailS l k + E (geI ((k : Int) + 1)) l
theorem tailS_eq (l : List (Int × Int)) (hp : ∀ p ∈ l, 0 ≤ p.1 ∧ p.1 ≤ 20) : ∀ k : Nat, tailS l k = E (fun x => if x ≤ k then x else k) l
  | 0 => by
    show 0 = _
    have e : E (fun x => if x ≤ ((0 : Nat) : Int) then x else ((0 : Nat) : Int)) l = E (fun x => 0 * one x) l := E_congr _ _ (fun p hm => by have := hp p hm; split <;> simp <;> omega)
    rw [e, E_mul, Int.zero_mul]
  | k + 1 => by
    show tailS l k + _ = _
    rw [tailS_eq l hp k, ← E_add]
    refine E_congr _ _ (fun p hm => ?_)
    have := hp p hm
    unfold geI
    split <;> split <;> split <;> omega
theorem tailS_mean {l : List (Int × Int)} (hp : ∀ p ∈ l, 0 ≤ p.1 ∧ p.1 ≤ 20) : tailS l 20 = E idI l := by
  rw [tailS_eq l hp 20]
  refine E_congr _ _ (fun p hm => ?_)
  have := hp p hm
  unfold idI
  split <;> omega
theorem tailS_bd {l : List (Int × Int)} (h : Fine l) : ∀ k : Nat, 0 ≤ tailS l k ∧ tailS l k ≤ 1200 * k
  | 0 => by simp [tailS]
  | k + 1 => by
    have h1 := tailS_bd h k
    have h2 := E_ge_bd ((k : Int) + 1) h
    show 0 ≤ tailS l k + _ ∧ tailS l k + _ ≤ _
    omega
/-- The tail from k on. -/
def tailR (l : List (Int × Int)) (k : Nat) : Rat := Rat.divInt (E (geI k) l) (E one l)
def tailT (l : List (Int × Int)) (k : Nat) : Rat := Rat.divInt (tailS l k) (E one l)
theorem tailT_step {l : List (Int × Int)} (k : Nat) : tailT l k + tailR l (k + 1) = tailT l (k + 1) := by
  unfold tailT tailR
  show _ + Rat.divInt (E (geI ((k + 1 : Nat) : Int)) l) _ = Rat.divInt (tailS l k + E (geI ((k : Int) + 1)) l) _
  rw [show ((k + 1 : Nat) : Int) = (k : Int) + 1 by omega]
  simp only [Rat.divInt_eq_div, Rat.intCast_add]
  grind
theorem ge_all {l : List (Int × Int)} (hp : ∀ p ∈ l, 0 ≤ p.1 ∧ p.1 ≤ 20) (k : Int) (hk : k ≤ 0) : E (geI k) l = E one l :=
  E_congr _ _ (fun p hm => by have := hp p hm; unfold geI one; rw [if_pos (by omega)])
theorem one_one {l : List (Int × Int)} (h : GoodD l) : (Rat.divInt (E one l) (E one l)).num = 1 ∧ ((Rat.divInt (E one l) (E one l)).den : Int) = 1 := by
  have h1 := E_one_pos h
  have e : Rat.divInt (E one l) (E one l) = 1 := by
    rw [Rat.divInt_eq_div]
    have : (E one l : Rat) ≠ 0 := (E_both_pos h h).1
    generalize (E one l : Rat) = T at *
    grind
  rw [e]
  exact ⟨rfl, rfl⟩
theorem tailR_zero {l : List (Int × Int)} (h : GoodD l) (hp : ∀ p ∈ l, 0 ≤ p.1 ∧ p.1 ≤ 20) : (tailR l 0).num = 1 ∧ ((tailR l 0).den : Int) = 1 := by
  unfold tailR
  rw [ge_all hp _ (by omega)]
  exact one_one h
theorem tailT_zero (l : List (Int × Int)) : (tailT l 0).num = 0 ∧ ((tailT l 0).den : Int) = 1 := by
  have e : tailT l 0 = 0 := by
    unfold tailT
    show Rat.divInt 0 _ = 0
    exact Rat.zero_divInt _
  rw [e]
  exact ⟨rfl, rfl⟩
theorem tailR_less {l : List (Int × Int)} (h : GoodD l) (k : Nat) : ¬ tailR l k < tailR l (k + 1) := by
  have h1 := E_one_pos h
  unfold tailR
  rw [Rat.not_lt]
  refine div_le h1 (E_le _ _ h.2 (fun p _ => ?_))
  unfold geI
  split <;> split <;> omega
theorem tailR_bd {l : List (Int × Int)} (h : GoodD l) (k : Nat) : RB (tailR l k) 1200 1200 := beyond_bd k h
theorem tailT_bd {l : List (Int × Int)} (h : GoodD l) {k : Nat} (hk : k ≤ 20) : RB (tailT l k) 24000 1200 := by
  have h1 := E_one_pos h
  have h2 := E_one_bd h.2
  have h3 := tailS_bd h.2 k
  exact RB.make (by omega) (by omega) (by omega)
theorem tailT_mean {l : List (Int × Int)} (hp : ∀ p ∈ l, 0 ≤ p.1 ∧ p.1 ≤ 20) : tailT l 20 = mean l := by
  unfold tailT mean
  rw [tailS_mean hp]
end Go.Proofs.Ythdjbmogdlodcaa
