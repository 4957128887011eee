/-
  Texts joined: Deal, Arr, OwnA, Inverse, Grp, Fct, Cmp, RankM, Cyc, CycLen, Order, Perms, All, Sgn, Sign, SgnSwap, Ins, SortF, SortG.
-/
import Derived.Test.YtbcjfiobggggjaaRowsOwnUptoPart0
import Derived.Laws.IdiomCopy
import Derived.Shelf.Abstract
import Derived.Lib.AppendZeros
import Derived.Lib.AppendZerosOnto
import Derived.Test.YtbcjfiobggggjaaRows

/-
  The verifier's helpers: castref.Rest, castkeep.Within, castref.Dealt, castkeep.PermOf: an order made of lots.
-/
namespace Go.Proofs.Ytbcjfiobggggjaa
open Go.RowKit

def dealStep (p : List Int) (x : Int) : List Int := swapAt (p ++ [(p.length : Int)]) p.length x.toNat
def dealt (lots : List Int) : List Int := lots.foldl dealStep []

theorem length_dealStep (p : List Int) (x : Int) : (dealStep p x).length = p.length + 1 := by simp [dealStep, length_swapAt]

theorem mem_swapAt {l : List Int} {i j : Nat} (hi : i < l.length) (hj : j < l.length) {x : Int} (hx : x ∈ l) : x ∈ swapAt l i j := by
  obtain ⟨k, hk, rfl⟩ := mem_getD hx
  have hget : ∀ m, m < l.length → (swapAt l i j).getD m 0 ∈ swapAt l i j := fun m hm => getD_mem (by rw [length_swapAt]; exact hm)
  by_cases h1 : k = i
  · subst h1
    have := hget j hj
    rwa [getD_swapAt hi hj, if_pos rfl] at this
  · by_cases h2 : k = j
    · subst h2
      have := hget i hi
      rw [getD_swapAt hi hj] at this
      by_cases e : i = k
      · exact absurd e.symm h1
      · rwa [if_neg e, if_pos rfl] at this
    · have := hget k hk
      rwa [getD_swapAt hi hj, if_neg h2, if_neg h1] at this

theorem isPerm_swapAt {l : List Int} {i j : Nat} (h : IsPerm l) (hi : i < l.length) (hj : j < l.length) : IsPerm (swapAt l i j) :=
  isPerm_of_all fun k hk => mem_swapAt hi hj (h.all k (by rw [length_swapAt] at hk; exact hk))

theorem isPerm_snoc {p : List Int} (h : IsPerm p) : IsPerm (p ++ [(p.length : Int)]) :=
  isPerm_of_all fun k hk => by
    simp only [List.length_append, List.length_cons, List.length_nil] at hk
    by_cases e : k = p.length
    · simp [e]
    · exact List.mem_append.2 (.inl (h.all k (by omega)))

theorem isPerm_dealStep {p : List Int} {x : Int} (h : IsPerm p) (h1 : x ≤ p.length) : IsPerm (dealStep p x) :=
  isPerm_swapAt (isPerm_snoc h) (by simp) (by simp; omega)

theorem dealt_snoc (l : List Int) (x : Int) : dealt (l ++ [x]) = dealStep (dealt l) x := by simp [dealt, List.foldl_append]
theorem length_foldl_deal (l p : List Int) : (l.foldl dealStep p).length = p.length + l.length := by
  induction l generalizing p with
  | nil => simp
  | cons a t ih => rw [List.foldl_cons, ih, length_dealStep, List.length_cons]; omega
theorem length_dealt (l : List Int) : (dealt l).length = l.length := by rw [dealt, length_foldl_deal]; simp

/-- Lots: each from 0 to its place. -/
def IsLots (l : List Int) : Prop := ∀ i, i < l.length → 0 ≤ l.getD i 0 ∧ l.getD i 0 ≤ i

theorem isPerm_dealt_take {l : List Int} (h : IsLots l) : ∀ k, k ≤ l.length → IsPerm (dealt (l.take k))
  | 0, _ => isPerm_of_all fun i hi => by simp [dealt] at hi
  | k + 1, hk => by
    rw [take_snoc (by omega), dealt_snoc]
    refine isPerm_dealStep (isPerm_dealt_take h k (by omega)) ?_
    rw [length_dealt, List.length_take]
    have := h k (by omega)
    omega
theorem isPerm_dealt {l : List Int} (h : IsLots l) : IsPerm (dealt l) := by
  have := isPerm_dealt_take h l.length (Nat.le_refl _)
  rwa [List.take_of_length_le (Nat.le_refl _)] at this

/-! ### Rest, Within -/

/-! ### Dealt -/

set_option maxHeartbeats 800000 in
theorem dealt_any (A : Option Addr) (n c : Nat) (l : List Int) (w : World) (h : Ints w A n l) (hl : IsLots l) (hn : n ≤ 1000000) :
    Calls Try.prog 78 #[.slice A n c] w (RetOwn w (dealt l)) := by
  go_enter Try.func78, Try.ntmps78
  go_wp2
  go_loopg [3, 8] n (fun g v s wr => ∃ k : Nat, k ≤ n ∧ n - k ≤ g ∧ s = .int .i64 k ∧ OwnInts wr w.heap.size v (dealt (l.take k)) ∧ Below w.heap.size w wr)
  case atStart => exact ⟨0, Nat.zero_le _, by omega, rfl, OwnInts.nil _ _, Below.refl _ _⟩
  case round =>
    obtain ⟨k, hk, hg, rfl, hown, hbel⟩ := hrel
    have HO := hid hown
    have HB := hid hbel
    clear hown hbel
    by_cases hlt : k < n
    · obtain ⟨b, o, rfl, hb, hc⟩ := h.row (by omega)
      have HL := hid h.len
      have g1 : wr.cell? ⟨b, o + k, none⟩ = some (.int .i64 (l.getD k 0)) := (HB.out.cell (p := ⟨b, o + k, none⟩) hb).trans (hc k hlt)
      have hx := hl k (by rw [HL.out]; exact hlt)
      have HX : Hid (dealt (l.take (k + 1)) = dealStep (dealt (l.take k)) (l.getD k 0)) := by rw [take_snoc (by rw [HL.out]; exact hlt), dealt_snoc]; exact rfl
      have HD : Hid ((dealt (l.take k)).length = k) := by rw [length_dealt, List.length_take, HL.out]; exact Nat.min_eq_left hk
      clear hc h
      generalize l.getD k 0 = x at g1 hx HX
      obtain ⟨m, rfl⟩ := Int.eq_ofNat_of_zero_le hx.1
      have hm : m ≤ k := by omega
      clear hx
      generalize dealt (l.take k) = p at HO HD HX
      go_wp2_with (at_builtin; refine wpList_app1 _ rfl (.tmp 13) (.tmp 15) rfl w.heap.size _ p k rfl rfl HO.out (by rw [HD.out]; omega) HB.out.size ?_)
      intro v' w1 hown1 _ hbel1
      have HB1 := hid (HB.out.trans hbel1)
      have hlen : (p ++ [(k : Int)]).length = k + 1 := by simp [HD.out]
      obtain ⟨g', cap, hv, hgb, hglt, hcap⟩ := hown1.form (by omega)
      rw [hlen] at hv hcap
      subst hv
      have HS : Hid (dealStep p (m : Int) = ((p ++ [(k : Int)]).set k ((p ++ [(k : Int)]).getD m 0)).set m (k : Int)) := by
        have e : (p ++ [(k : Int)]).getD k 0 = (k : Int) := by simp [List.getD_eq_getElem?_getD, HD.out]
        have e2 : dealStep p (m : Int) = ((p ++ [(k : Int)]).set k ((p ++ [(k : Int)]).getD m 0)).set m ((p ++ [(k : Int)]).getD k 0) := by
          unfold dealStep swapAt
          rw [HD.out, Int.toNat_natCast]
        rw [e] at e2
        exact e2
      have gk1 : w1.cell? ⟨g', k, none⟩ = some (.int .i64 k) := by
        have h1 := (show OwnInts w1 w.heap.size (.slice (some ⟨g', 0, none⟩) (p ++ [(k : Int)]).length cap) (p ++ [(k : Int)]) by rw [hlen]; exact hown1).cell (j := k) (by omega)
        rw [h1]
        simp [List.getD_eq_getElem?_getD, HD.out]
      have gm1 : w1.cell? ⟨g', m, none⟩ = some (.int .i64 ((p ++ [(k : Int)]).getD m 0)) := (show OwnInts w1 w.heap.size (.slice (some ⟨g', 0, none⟩) (p ++ [(k : Int)]).length cap) (p ++ [(k : Int)]) by rw [hlen]; exact hown1).cell (j := m) (by omega)
      have fk1 : w1.frozen? ⟨g', k, none⟩ = false := (show OwnInts w1 w.heap.size (.slice (some ⟨g', 0, none⟩) (p ++ [(k : Int)]).length cap) (p ++ [(k : Int)]) by rw [hlen]; exact hown1).frozen k
      have fm1 : w1.frozen? ⟨g', m, none⟩ = false := (show OwnInts w1 w.heap.size (.slice (some ⟨g', 0, none⟩) (p ++ [(k : Int)]).length cap) (p ++ [(k : Int)]) by rw [hlen]; exact hown1).frozen m
      have HO1 := hid hown1
      have HLN := hid hlen
      clear hown1 hlen hbel1 HO HB
      generalize (p ++ [(k : Int)]).getD m 0 = y at gm1 HS
      by_cases hmk : m = k
      · subst hmk
        have hy : (m : Int) = y := by
          rw [gk1] at gm1
          injection gm1 with e
          injection e
        subst hy
        clear gm1 fm1
        go_wp2_with fail
        go_region
        go_wp2
        go_roundg (n - (m + 1))
        case measure => omega
        case rel => exact ⟨m + 1, by omega, by omega, by go_num, by rw [HX.out, HS.out]; exact ((HO1.out.set HLN.out.symm m m).set (by rw [List.length_set]; exact HLN.out.symm) m m).drew, ((HB1.out.setCell (by exact hgb) _).setCell (by exact hgb) _).drew⟩
      · have hlt2 : m < k := by omega
        go_wp2_with fail
        go_region
        go_wp2
        go_roundg (n - (k + 1))
        case measure => omega
        case rel => exact ⟨k + 1, by omega, by omega, by go_num, by rw [HX.out, HS.out]; exact ((HO1.out.set HLN.out.symm k y).set (by rw [List.length_set]; exact HLN.out.symm) m k).drew, ((HB1.out.setCell (by exact hgb) _).setCell (by exact hgb) _).drew⟩
    · have hkn : k = n := by omega
      subst hkn
      have HT : Hid (dealt (l.take k) = dealt l) := by rw [List.take_of_length_le (by rw [h.len]; exact Nat.le_refl _)]; exact rfl
      go_wp2
      go_ret
      exact ⟨_, rfl, by rw [← HT.out]; exact HO.out, HB.out⟩

/-! ### PermOf -/

/-- The lots that PermOf makes of any numbers. -/
def lotsOf (xs : List Int) : List Int := (List.range xs.length).map (fun i : Nat => xs.getD i 0 % ((i : Int) + 1))
theorem length_lotsOf (xs : List Int) : (lotsOf xs).length = xs.length := by simp [lotsOf]
theorem getD_lotsOf {xs : List Int} {i : Nat} (h : i < xs.length) : (lotsOf xs).getD i 0 = xs.getD i 0 % ((i : Int) + 1) := by
  simp [lotsOf, List.getD_eq_getElem?_getD, h]
theorem isLots_lotsOf (xs : List Int) : IsLots (lotsOf xs) := by
  intro i hi
  rw [length_lotsOf] at hi
  rw [getD_lotsOf hi]
  have h1 := Int.emod_nonneg (xs.getD i 0) (show ((i : Int) + 1) ≠ 0 by omega)
  have h2 := Int.emod_lt_of_pos (xs.getD i 0) (show 0 < ((i : Int) + 1) by omega)
  omega

set_option maxHeartbeats 800000 in
/-- PermOf(l, q): m is the lesser one of len(l) and q. -/
theorem permOf_any (A : Option Addr) (n c m : Nat) (xs : List Int) (w : World) (h : Ints w A n xs) (hc : n ≤ c) (hm2 : m ≤ 1000000) (q : Int) (hq : (m = n ∧ (n : Int) ≤ q) ∨ (m < n ∧ q = m)) :
    Calls Try.prog 55 #[.slice A n c, .int .i64 q] w (RetOwn w (dealt (lotsOf (xs.take m)))) := by
  have h' : Ints w A m (xs.take m) := h.take (by omega)
  have HH := hid h'
  clear h h'
  generalize xs.take m = ys at HH
  rcases hq with ⟨rfl, hq⟩ | ⟨hlt, rfl⟩
  all_goals
    go_enter Try.func55, Try.ntmps55
    go_wp2
    go_loopg [5, 15] m (fun g v s wr => ∃ k : Nat, k ≤ m ∧ m - k ≤ g ∧ s = .int .i64 k ∧ OwnInts wr w.heap.size v ((lotsOf ys).take k) ∧ Below w.heap.size w wr)
    case atStart => exact ⟨0, Nat.zero_le _, by omega, rfl, OwnInts.nil _ _, Below.refl _ _⟩
    case round =>
      obtain ⟨k, hk, hg, rfl, hown, hbel⟩ := hrel
      have HO := hid hown
      have HB := hid hbel
      clear hown hbel
      by_cases hlt : k < m
      · obtain ⟨b, o, rfl, hb, hcell⟩ := HH.out.row (by omega)
        have g1 : wr.cell? ⟨b, o + k, none⟩ = some (.int .i64 (ys.getD k 0)) := (HB.out.cell (p := ⟨b, o + k, none⟩) hb).trans (hcell k hlt)
        have HX : Hid ((lotsOf ys).take (k + 1) = (lotsOf ys).take k ++ [ys.getD k 0 % ((k : Int) + 1)]) := by
          rw [take_snoc (by rw [length_lotsOf, HH.out.len]; exact hlt), getD_lotsOf (by rw [HH.out.len]; exact hlt)]
          exact rfl
        have HD : Hid (((lotsOf ys).take k).length = k) := by rw [List.length_take, length_lotsOf, HH.out.len]; exact Nat.min_eq_left hk
        clear hcell
        generalize ys.getD k 0 = x at g1 HX
        generalize (lotsOf ys).take k = p at HO HD HX
        go_wp2_with (first
          | (go_at_call 20; refine (within_any x _ _ (by omega) (by omega)).mono ?_; rintro e w' ⟨rfl, rfl⟩)
          | (at_builtin; refine wpList_app1 _ rfl (.tmp 20) (.tmp 25) rfl w.heap.size _ p (x % ((k : Int) + 1)) rfl rfl HO.out (by rw [HD.out]; omega) HB.out.size ?_))
        intro v' w1 hown1 _ hbel1
        have HB1 := hid (HB.out.trans hbel1)
        have HO1 := hid hown1
        clear hown1 hbel1 HO HB
        go_wp2
        go_roundg (m - (k + 1))
        case measure => omega
        case rel => exact ⟨k + 1, by omega, by omega, by go_num, by rw [HX.out]; exact HO1.out, HB1.out⟩
      · have hkn : k = m := by omega
        subst hkn
        have HT : Hid ((lotsOf ys).take k = lotsOf ys) := List.take_of_length_le (by rw [length_lotsOf, HH.out.len]; exact Nat.le_refl _)
        rw [HT.out] at HO
        obtain ⟨A', c', rfl, hI, _⟩ := HO.out.ints
        rw [length_lotsOf, HH.out.len] at hI
        have HL : Hid ((lotsOf ys).length = k) := by rw [length_lotsOf]; exact HH.out.len
        rw [HL.out] at HO ⊢
        go_wp2_with fail
        refine (dealt_any A' k c' (lotsOf ys) _ hI (isLots_lotsOf ys) (by omega)).mono ?_
        rintro e w1 ⟨v1, rfl, hown1, hbel1⟩
        have HO1 := hid hown1
        have HB1 := hid hbel1
        clear hown1 hbel1
        go_wp2
        go_ret
        exact ⟨_, rfl, HO1.out.mono HB.out.size, HB.out.trans (HB1.out.mono HB.out.size)⟩

end Go.Proofs.Ytbcjfiobggggjaa

/-
  A block of ints known whole; a slice from a place on; only one block has turned. Nothing of the program is proved here.
-/
namespace Go.Proofs.Ytbcjfiobggggjaa
open Go.RowKit

/-- Block g is a row of ints, and holds xs. -/
def Arr (w : World) (g : Nat) (xs : List Int) : Prop := w.rowIs g 3 xs.length (fun j => .int .i64 (xs.getD j 0))

namespace Arr
variable {w : World} {g : Nat} {xs : List Int}
theorem cell (h : Arr w g xs) {j : Nat} (hj : j < xs.length) : w.cell? ⟨g, j, none⟩ = some (.int .i64 (xs.getD j 0)) := World.rowIs.cell h hj
theorem frozen (h : Arr w g xs) (j : Nat) : w.frozen? ⟨g, j, none⟩ = false := World.rowIs.frozen h j
theorem lt (h : Arr w g xs) : g < w.heap.size := World.rowIs.lt h
theorem set (h : Arr w g xs) (i : Nat) (x : Int) : Arr (w.setCell ⟨g, i, none⟩ (.int .i64 x)) g (xs.set i x) := by
  unfold Arr
  rw [List.length_set]
  refine (World.rowIs.set h i (.int .i64 x)).congr fun j hj => ?_
  rw [getD_set]
  by_cases e : j = i
  · subst e
    rw [if_pos rfl, if_pos ⟨rfl, hj⟩]
  · rw [if_neg e, if_neg (fun h => e h.1)]
theorem setOther (h : Arr w g xs) {a : Addr} (ha : g ≠ a.block) (v : Value) : Arr (w.setCell a v) g xs := World.rowIs.setOther h ha v
theorem of_block {w' : World} (h : Arr w g xs) (e : w'.heap[g]? = w.heap[g]?) : Arr w' g xs := World.rowIs.of_block h e
theorem keep {w' : World} (h : Arr w g xs) (hb : Below w.heap.size w w') : Arr w' g xs := h.of_block (hb.block g h.lt)
theorem kept {w' : World} (h : Arr w g xs) {r : Nat} (hb : w.grownBy w' (some r)) (hne : g ≠ r) : Arr w' g xs := h.of_block (hb.block g h.lt (fun e => hne (by injection e)))
theorem alloc (h : Arr w g xs) (o : Obj) : Arr (w.alloc o) g xs := World.rowIs.alloc h o
theorem drewN (h : Arr w g xs) (k : Nat) : Arr (w.drewN k) g xs := h
theorem drew (h : Arr w g xs) : Arr w.drew g xs := h
theorem made (w : World) (n : Nat) : Arr (w.alloc (.cells (madeCells #[.int .i64 0] n) 3)) w.heap.size (List.replicate n 0) := by
  unfold Arr
  rw [List.length_replicate]
  refine (World.rowIs_made w _ n _).congr fun j hj => ?_
  simp [List.getD_eq_getElem?_getD, hj]
/-- As a slice that is read, from o on. -/
theorem ints (h : Arr w g xs) (o m : Nat) (hm : o + m ≤ xs.length) : Ints w (some ⟨g, o, none⟩) m ((xs.drop o).take m) := by
  refine ⟨by rw [List.length_take, List.length_drop]; omega, fun _ => ⟨g, o, rfl, h.lt, fun j hj => ?_⟩⟩
  rw [h.cell (by omega)]
  simp [List.getD_eq_getElem?_getD, hj]
theorem ints0 (h : Arr w g xs) (m : Nat) (hm : m ≤ xs.length) : Ints w (some ⟨g, 0, none⟩) m (xs.take m) := by
  have := h.ints 0 m (by omega)
  rwa [List.drop_zero] at this
theorem setCells : ∀ {ys : List Int} {w : World} {xs : List Int} {o : Nat}, Arr w g xs → o + ys.length ≤ xs.length →
    Arr (w.setCells g o (ys.map (Value.int .i64))) g (xs.take o ++ ys ++ xs.drop (o + ys.length))
  | [], w, xs, o, h, _ => by simpa [World.setCells] using h
  | y :: ys, w, xs, o, h, hl => by
    rw [List.length_cons] at hl
    have ih := setCells (ys := ys) (o := o + 1) (h.set o y) (by rw [List.length_set]; omega)
    rw [List.map_cons, World.setCells]
    have e : (xs.set o y).take (o + 1) ++ ys ++ (xs.set o y).drop (o + 1 + ys.length) = xs.take o ++ (y :: ys) ++ xs.drop (o + (y :: ys).length) := by
      rw [take_snoc (by rw [List.length_set]; omega), getD_set, if_pos ⟨rfl, by omega⟩, List.take_set_of_le (by omega), List.drop_set_of_lt (by omega), List.length_cons]
      simp [Nat.add_assoc, Nat.add_comm 1]
    rw [← e]
    exact ih
end Arr

/-! ### Only one block has turned -/
theorem one_refl (a : World) (row : Option Nat) : a.grownBy a row := ⟨rfl, rfl, rfl, Nat.le_refl _, fun _ _ _ => rfl⟩
theorem one_drewN {a w : World} {row : Option Nat} (h : a.grownBy w row) (n : Nat) : a.grownBy (w.drewN n) row := ⟨h.os, h.tape, h.output, h.size, h.block⟩
theorem one_drew {a w : World} {row : Option Nat} (h : a.grownBy w row) : a.grownBy w.drew row := ⟨h.os, h.tape, h.output, h.size, h.block⟩
theorem one_set {a w : World} {g : Nat} (h : a.grownBy w (some g)) (j : Nat) (u : Value) : a.grownBy (w.setCell ⟨g, j, none⟩ u) (some g) :=
  ⟨h.os, h.tape, h.output, by simpa [World.setCell] using h.size, fun i hi hne => (Below.heap_setCell w ⟨g, j, none⟩ u i (by rintro rfl; exact hne rfl)).trans (h.block i hi hne)⟩
theorem one_sets {a : World} {g : Nat} : ∀ {vs : List Value} {w : World} {o : Nat}, a.grownBy w (some g) → a.grownBy (w.setCells g o vs) (some g)
  | [], _, _, h => h
  | v :: vs, _, _, h => one_sets (vs := vs) (one_set h _ v)
/-- A block of the call's own has turned: nothing below. -/
theorem below_one {B g : Nat} {a b c : World} (h : Below B a b) (hg : B ≤ g) (hB : B ≤ b.heap.size) (k : b.grownBy c (some g)) : Below B a c :=
  h.trans ⟨k.os, k.tape, k.output, k.size, fun i hi => k.block i (Nat.lt_of_lt_of_le hi hB) (fun e => by injection e with e; omega)⟩

/-! ### 'xs[l:]' -/
def subA (A : Option Addr) (c l : Nat) : Option Addr := if c = l then A else A.map (·.add l)
theorem Ints.drop {w : World} {A : Option Addr} {n c l : Nat} {xs : List Int} (h : Ints w A n xs) (hl : l ≤ n) (hc : n ≤ c) : Ints w (subA A c l) (n - l) (xs.drop l) := by
  refine ⟨by rw [List.length_drop, h.len], fun hp => ?_⟩
  obtain ⟨b, o, rfl, hb, hcell⟩ := h.row (by omega)
  refine ⟨b, o + l, ?_, hb, fun j hj => ?_⟩
  · unfold subA
    rw [if_neg (by omega)]
    simp only [Option.map_some, Addr.add]
    by_cases h0 : l = 0
    · subst h0
      rfl
    · rw [if_neg h0]
  · rw [show o + l + j = o + (l + j) by omega, hcell (l + j) (by omega)]
    simp [List.getD_eq_getElem?_getD]
set_option maxRecDepth 100000 in
theorem sizeInt : ∀ w, (Go.sizeOf 3).run Try.prog w = .ok 1 w := by
  exact fun _ => by kernel_rfl
theorem run_from (A : Option Addr) (n c l : Nat) (L : Int) (hL : L = (l : Int)) (hl : l ≤ n) (W : World) :
    (Instr.slice 23 (.slice A n c) (some (.int .i64 L)) none none).run Try.prog W = .ok (.slice (subA A c l) (n - l) (c - l)) W := by
  subst hL
  have ht' : Try.prog.underlying 23 = some (.slice (Try.prog.elem 23)) := by simp [Program.elem, Try.underlying23]
  have he : Try.prog.elem 23 = 3 := by simp [Program.elem, Try.underlying23]
  rw [run_slice_l W _ _ _ _ ht' .i64 _ (by omega) (by omega), he, sizeInt]
  simp [Result.andThen, sliced, subA]

end Go.Proofs.Ytbcjfiobggggjaa

/-
  castkeep.spoil at int: all that a list has is another number; slices.Grow, Concat at rows, by their values.
-/
namespace Go.Proofs.Ytbcjfiobggggjaa
open Go.RowKit

/-- Blocks of ints are still as great blocks of ints. -/
def Shaped (w w' : World) : Prop := ∀ (g : Nat) (cur : Array Value), w.heap[g]? = some (Obj.cells cur 3 (0, 0)) → ∃ cur' : Array Value, w'.heap[g]? = some (Obj.cells cur' 3 (0, 0)) ∧ cur'.size = cur.size
theorem Shaped.refl (w : World) : Shaped w w := fun _ cur h => ⟨cur, h, rfl⟩
theorem Shaped.set {w w' : World} (h : Shaped w w') (b i : Nat) (u : Value) : Shaped w (w'.setCell ⟨b, i, none⟩ u) := fun g cur hg => by
  obtain ⟨c1, h1, h2⟩ := h g cur hg
  by_cases e : g = b
  · subst e
    exact ⟨c1.setIfInBounds i u, by simp [World.setCell, Array.getElem?_modify, h1], by simpa using h2⟩
  · refine ⟨c1, ?_, h2⟩
    simp only [World.setCell, Array.getElem?_modify]
    rw [if_neg (fun h => e h.symm)]
    exact h1
/-- A list that may be spoilt: its memory is the call's own. -/
def SpOK (w : World) (base : Nat) (v : Value) : Prop := ∃ vs : List Value, w.ownsRow base 3 1 v vs.length vs
theorem OwnInts.sp {w : World} {base : Nat} {v : Value} {xs : List Int} (h : OwnInts w base v xs) : SpOK w base v := ⟨xs.map (Value.int .i64), by rw [List.length_map]; exact h⟩
theorem SpOK.shaped {w w' : World} {base : Nat} {v : Value} (h : SpOK w base v) (hs : Shaped w w') : SpOK w' base v := by
  obtain ⟨vs, h⟩ := h
  rcases h.2 with ⟨rfl, h0⟩ | ⟨g, cap, cur, e, hb, hh, hn, hm, hz, ht⟩
  · exact ⟨[], World.ownsRow_nil _ _ _ _⟩
  · obtain ⟨c1, h1, h2⟩ := hs g cur hh
    have hl : (c1.toList.take vs.length).length = vs.length := by rw [List.length_take]; simp; omega
    exact ⟨c1.toList.take vs.length, by rw [hl]; exact ⟨by rw [hl, Nat.mul_one], .inr ⟨g, cap, c1, e, hb, h1, hn, hm, by omega, by rw [Nat.mul_one]⟩⟩⟩
def RetSpoilt (w : World) (v : Value) (e : Ending) (w' : World) : Prop := e = .returned (.tuple #[]) ∧ w.grownBy w' v.ownBlock ∧ Shaped w w'

theorem own_setAny {w : World} {base g n cap ty : Nat} {vs : List Value} (h : w.ownsRow base ty 1 (.slice (some ⟨g, 0, none⟩) n cap) n vs) (i : Nat) (u : Value) : (w.setCell ⟨g, i, none⟩ u).ownsRow base ty 1 (.slice (some ⟨g, 0, none⟩) n cap) n (vs.set i u) :=
  (World.ownsRow.stored h i u).1
theorem cell_spare {w : World} {base g n cap ty : Nat} {vs : List Value} (h : w.ownsRow base ty 1 (.slice (some ⟨g, 0, none⟩) n cap) n vs) {i : Nat} (hi : i < cap) : ∃ u, w.cell? ⟨g, i, none⟩ = some u := by
  rcases h.2 with ⟨e, _⟩ | ⟨g', cap', cur, e, hb, hh, hn, hm, hs, ht⟩
  · cases e
  · injection e with e1 e2 e3
    injection e1 with e1
    injection e1 with e1 _
    subst e1
    subst e3
    have hi' : i < cur.size := by omega
    exact ⟨cur[i], by simp [World.cell?, hh, hi']⟩

set_option maxRecDepth 100000 in
set_option maxHeartbeats 800000 in
theorem spoil_own (base : Nat) (v : Value) (x : Int) (w : World) (h : SpOK w base v) :
    Calls Try.prog 36 #[v, .int .i64 x] w (RetSpoilt w v) := by
  obtain ⟨vs, h⟩ := h
  rcases h.2 with ⟨rfl, h0⟩ | ⟨g, cap, cur, rfl, hb, hh, hn, hm, hs, ht⟩
  · go_enter Try.func36, Try.ntmps36
    go_wp2_with fail
    go_loopg [11] 0 (fun g s wr => s = .int .i64 0 ∧ w = wr)
    case atStart => exact ⟨rfl, rfl⟩
    case round =>
      obtain ⟨rfl, rfl⟩ := hrel
      go_wp2
      go_end0
      exact ⟨rfl, one_refl _ _, Shaped.refl _⟩
  · have hc9 : cap ≤ 9223372036854775807 := by unfold maxLen at hm; omega
    have H := hid h
    clear h hh ht hs
    go_enter Try.func36, Try.ntmps36
    go_wp2_with fail
    go_loopg [11] cap (fun gg s wr => ∃ (i : Nat) (ys : List Value), i ≤ cap ∧ cap - i ≤ gg ∧ s = .int .i64 i ∧ wr.ownsRow base 3 1 (.slice (some ⟨g, 0, none⟩) vs.length cap) vs.length ys ∧ w.grownBy wr (some g) ∧ Shaped w wr)
    case atStart => exact ⟨0, vs, Nat.zero_le _, by omega, rfl, H.out, one_refl _ _, Shaped.refl _⟩
    case round =>
      obtain ⟨i, ys, hi, hg, rfl, hown, hgr, hsh⟩ := hrel
      have HO := hid hown
      have HG := hid hgr
      have HSH := hid hsh
      clear hown hgr hsh
      by_cases hlt : i < cap
      · obtain ⟨u, hu⟩ := cell_spare HO.out hlt
        have hf := World.ownsRow.frozenAt HO.out i
        have HN := hid (own_setAny HO.out i (.int .i64 x))
        have HG2 := hid (one_set HG.out i (.int .i64 x))
        have HS2 := hid (HSH.out.set g i (.int .i64 x))
        go_wp2
        go_roundg (cap - (i + 1))
        case measure => omega
        case rel => exact ⟨i + 1, _, by omega, by omega, by go_num, HN.out, HG2.out, HS2.out⟩
      · have hic : i = cap := by omega
        subst hic
        go_wp2
        go_end0
        exact ⟨rfl, HG.out, HSH.out⟩

/-! ### Lists of rows by their values -/
structure VRow (w : World) (A : Option Addr) (n c : Nat) (vals : List Value) : Prop where
  len : vals.length = n
  row : 0 < n → ∃ b off, A = some ⟨b, off, none⟩ ∧ b < w.heap.size ∧ ∀ j, j < n → w.cell? ⟨b, off + j, none⟩ = some (vals.getD j (.slice none 0 0))
  one : ∀ v, v ∈ vals → v.oneCell' = true
  nil : A = none → c = 0
theorem VRow.keep {w w' : World} {A : Option Addr} {n c : Nat} {vals : List Value} (h : VRow w A n c vals) (hb : Below w.heap.size w w') : VRow w' A n c vals := by
  refine ⟨h.len, fun hn => ?_, h.one, h.nil⟩
  obtain ⟨b, off, e, hl, hc⟩ := h.row hn
  exact ⟨b, off, e, Nat.lt_of_lt_of_le hl hb.size, fun j hj => (hb.cell (p := ⟨b, off + j, none⟩) hl).trans (hc j hj)⟩
/-- The call's own list of these rows. -/
def VOwn (w : World) (base : Nat) (v : Value) (vals : List Value) : Prop := w.ownsRow base 23 1 v vals.length vals

/-- Block g holds some lists of rows. -/
def Parts (w : World) (g : Nat) (Ps : List (List Value)) : Prop := g < w.heap.size ∧ ∀ j, j < Ps.length → ∃ A n c, w.cell? ⟨g, j, none⟩ = some (.slice A n c) ∧ VRow w A n c (Ps.getD j [])
theorem Parts.keep {w w' : World} {g : Nat} {Ps : List (List Value)} (h : Parts w g Ps) (hb : Below w.heap.size w w') : Parts w' g Ps :=
  ⟨Nat.lt_of_lt_of_le h.1 hb.size, fun j hj => by
    obtain ⟨A, n, c, h1, h2⟩ := h.2 j hj
    exact ⟨A, n, c, (hb.cell (p := ⟨g, j, none⟩) h.1).trans h1, h2.keep hb⟩⟩

theorem take_snocV {Ps : List (List Value)} {j : Nat} (hj : j < Ps.length) : (Ps.take (j + 1)).flatten = (Ps.take j).flatten ++ Ps.getD j [] := by
  rw [List.take_succ_eq_append_getElem hj, List.flatten_append, List.getD_eq_getElem?_getD, List.getElem?_eq_getElem hj]
  simp
theorem take_leV (Ps : List (List Value)) (j : Nat) : (Ps.take j).flatten.length ≤ Ps.flatten.length := by
  have : Ps.flatten = (Ps.take j).flatten ++ (Ps.drop j).flatten := by rw [← List.flatten_append, List.take_append_drop]
  rw [this, List.length_append]
  omega

set_option maxRecDepth 100000 in
set_option maxHeartbeats 800000 in
theorem growNilR (n : Nat) (w : World) (hn : n ≤ 100000000) :
    Calls Try.prog 65 #[.slice none 0 0, .int .i64 (n : Int)] w fun e w' => ∃ v, e = .returned v ∧ VOwn w' w.heap.size v [] ∧ Below w.heap.size w w' := by
  rcases Nat.eq_zero_or_pos n with h0 | h0
  · subst h0
    go_enter Try.func65, Try.ntmps65
    go_wp2
    go_ret
    exact ⟨_, rfl, World.ownsRow_nil _ _ _ _, Below.refl _ _⟩
  · obtain ⟨i0, hi, hz0, hz1, hz2⟩ := info_parts infoRow
    have hrun := fun W => Lib.run_append_nil_zeros (P := Try.prog) W 22 3 22 23 i0 (.slice none 0 0) .i64 .i64 Try.underlying22 Try.underlying3 hi hz0 n h0 (by omega) (by omega) (by rw [hz2]; omega)
    have hpos : (0 : Int) < (n : Int) := by omega
    have HRUN := hid hrun
    clear hrun
    go_enter Try.func65, Try.ntmps65
    go_wp2_with (at_builtin; refine Lib.wpList_append_run _ rfl (.tmp 20) (.tmp 21) 22 3 rfl (.slice none 0 0) (.int .i64 (n : Int)) rfl rfl _ _ (HRUN.out _) ?_)
    have hge := grownCap_ge w n 0 23
    have hle := grownCap_le_maxLen w n 0 23 (by unfold maxLen; omega)
    have HOW : Hid (VOwn (w.alloc (.cells (Builtin.zeroCells #[.slice none 0 0] n ++ Builtin.zeroCells #[.slice none 0 0] (grownCap w n 0 23 - n)) 23)) w.heap.size (.slice (some ⟨w.heap.size, 0, none⟩) 0 (grownCap w n 0 23)) []) := World.ownsRow_made w _ _ (Nat.le_refl _) hle (by
      rw [Array.size_append, size_zeroCells, size_zeroCells]
      simp
      omega)
    go_ret
    exact ⟨_, rfl, own_keep HOW.out (below_drewN (Below.refl _ _) 1), below_drewN (below_alloc w _) 1⟩

/-- Onto what the call made: a list of rows that may be nil. -/
theorem wpList_appV {ops : Array Oper} {rest : List Oper} {o : Oper} {a : Act} {Q : Exit → Act → World → Prop} (W : World) (hgd : o.guard = none) (s x : Operand)
    (ho : o.op = .call { callee := .builtin .append, args := #[s, x], argTypes := #[22, 22] })
    (base : Nat) (v : Value) (xs : List Value) (hs : a.eval s = v) (A : Option Addr) (n c : Nat) (ys : List Value) (hx : a.eval x = .slice A n c) (hown : VOwn W base v xs) (hI : VRow W A n c ys)
    (hlen : xs.length + n ≤ 1000000000000) (hbase : base ≤ W.heap.size)
    (h : ∀ v' w', VOwn w' base v' (xs ++ ys) → Below base W w' → wpList Try.prog ops Q rest (a.put o.dst v') w') :
    wpList Try.prog ops Q (o :: rest) a W := by
  obtain ⟨i0, hi, hz0, hz1, hz2⟩ := info_parts infoRow
  rcases A with _ | ad
  · have hn0 : n = 0 := by
      rcases Nat.eq_zero_or_pos n with h0 | h0
      · exact h0
      · obtain ⟨b, o', e, _⟩ := hI.row h0
        cases e
    subst hn0
    have hc0 := hI.nil rfl
    subst hc0
    have hy0 : ys = [] := List.eq_nil_of_length_eq_zero hI.len
    subst hy0
    refine wpList_append_own_none hgd s x 22 ho base 23 i0 1 Try.underlying22 hi _ xs.length _ hs hown hx ?_
    refine h _ _ ?_ (Below.refl _ _)
    rw [List.append_nil]
    exact hown
  · refine wpList_append_own _ hgd s x 22 ho base 23 i0 (.slice none 0 0) 1 24 Try.underlying22 hi hz0 hz1 hz2 rfl (by decide) v xs.length xs hs hown
      ad n c ys hx (by rw [Nat.mul_one]; exact hI.len) (fun j u hj => ?_) (fun u hu => hI.one u hu) (by unfold maxLen; omega) (by omega) hbase ?_
    · have hj' : j < ys.length := by
        rcases Nat.lt_or_ge j ys.length with h1 | h1
        · exact h1
        · rw [List.getElem?_eq_none h1] at hj
          cases hj
      obtain ⟨b, off, e, _, hcell⟩ := hI.row (by have := hI.len; omega)
      replace e := Option.some.inj e
      subst e
      have ha : (⟨b, off, none⟩ : Addr).add j = ⟨b, off + j, none⟩ := by unfold Addr.add; split <;> simp_all
      rw [ha, hcell j (by have := hI.len; omega), ← hj, List.getD_eq_getElem?_getD, List.getElem?_eq_getElem hj']
      rfl
    · intro v' w' h1 h2 _
      refine h v' w' ?_ ?_
      · unfold VOwn
        rw [List.length_append, hI.len]
        exact h1
      · refine ⟨h2.os, h2.tape, h2.output, h2.size, fun k hk => h2.block k (by omega) (fun e => ?_)⟩
        have := World.ownsRow.lt hown k e.symm
        omega

set_option maxRecDepth 100000 in
set_option maxHeartbeats 1600000 in
theorem concatR (g N : Nat) (Ps : List (List Value)) (w : World) (h : Parts w g Ps) (hN : Ps.length = N) (hn : N ≤ 1000) (hL : Ps.flatten.length ≤ 100000000) :
    Calls Try.prog 35 #[.slice (some ⟨g, 0, none⟩) N N] w fun e w' => ∃ v, e = .returned v ∧ VOwn w' w.heap.size v Ps.flatten ∧ Below w.heap.size w w' := by
  have H := hid h
  have HL := hid hN
  clear h hN
  go_enter Try.func35, Try.ntmps35
  go_wp2
  go_loopg [3, 11] N (fun gg s t wr => ∃ (i S : Nat), i ≤ N ∧ N - i ≤ gg ∧ s = .int .i64 (S : Int) ∧ t = .int .i64 (i : Int) ∧ S = (Ps.take i).flatten.length ∧ w = wr)
  case atStart => exact ⟨0, 0, Nat.zero_le _, by omega, rfl, rfl, by simp, rfl⟩
  case round =>
    obtain ⟨i, S, hi, hg, rfl, rfl, hS, rfl⟩ := hrel
    have hSle : S ≤ 100000000 := by rw [hS]; exact Nat.le_trans (take_leV Ps i) hL
    have HS := hid hS
    clear hS
    by_cases hlt : i < N
    · obtain ⟨Aj, nj, cj, g1, hI1⟩ := H.out.2 i (by rw [HL.out]; exact hlt)
      have HF := hid (take_snocV (Ps := Ps) (j := i) (by rw [HL.out]; exact hlt))
      have HTL := hid (take_leV Ps (i + 1))
      have HN : Hid ((Ps.take (i + 1)).flatten.length = S + nj) := by show (Ps.take (i + 1)).flatten.length = S + nj; rw [HF.out, List.length_append, ← HS.out, hI1.len]
      have hSn : S + nj ≤ 100000000 := by have h1 := HTL.out; rw [HN.out] at h1; omega
      have hneg : ¬ (S : Int) + (nj : Int) < 0 := by omega
      clear hI1
      go_wp2
      go_roundg (N - (i + 1))
      case measure => omega
      case rel => exact ⟨i + 1, S + nj, by omega, by omega, by go_num, by go_num, HN.out.symm, rfl⟩
    · have hin : i = N := by omega
      subst hin
      clear HS
      go_wp2_with fail
      refine (growNilR S w (by omega)).mono ?_
      rintro e w1 ⟨v1, rfl, ho1, hb1⟩
      have HO1 := hid ho1
      have HB1 := hid hb1
      clear ho1 hb1
      go_wp2_with fail
      obtain ⟨w8, hw8⟩ : ∃ w8, w8 = w1 := ⟨_, rfl⟩
      rw [← hw8] at HO1 HB1
      rw [← hw8]
      clear hw8
      go_loopg [6, 27] i (fun gg s t wr => ∃ k : Nat, k ≤ i ∧ i - k ≤ gg ∧ t = .int .i64 (k : Int) ∧ VOwn wr w.heap.size s (Ps.take k).flatten ∧ Below w.heap.size w wr)
      case atStart => exact ⟨0, Nat.zero_le _, by omega, rfl, HO1.out, HB1.out⟩
      case round =>
        obtain ⟨k, hk, hg2, rfl, ho, hb⟩ := hrel
        have HO := hid ho
        have HB := hid hb
        clear ho hb HO1 HB1
        by_cases hlt2 : k < i
        · obtain ⟨Aj, nj, cj, g1, hI1⟩ := (H.out.keep HB.out).2 k (by rw [HL.out]; exact hlt2)
          have HI1 := hid hI1
          have HF := hid (take_snocV (Ps := Ps) (j := k) (by rw [HL.out]; exact hlt2))
          have HLN : Hid ((Ps.take k).flatten.length + nj ≤ 1000000000000) := by
            show (Ps.take k).flatten.length + nj ≤ 1000000000000
            have h1 := take_leV Ps (k + 1)
            rw [HF.out, List.length_append, HI1.out.len] at h1
            omega
          clear hI1
          go_wp2_with (at_builtin; refine wpList_appV _ rfl (.tmp 31) (.tmp 32) rfl w.heap.size _ (Ps.take k).flatten rfl Aj nj cj (Ps.getD k []) rfl HO.out HI1.out HLN.out HB.out.size ?_)
          intro v2 w2 ho2 hb2
          rw [← List.getD_eq_getElem?_getD, ← HF.out] at ho2
          have HO2 := hid ho2
          have HB2 := hid (HB.out.trans hb2)
          clear ho2 hb2 g1
          go_wp2
          go_roundg (i - (k + 1))
          case measure => omega
          case rel => exact ⟨k + 1, by omega, by omega, by go_num, HO2.out, HB2.out⟩
        · have hki : k = i := by omega
          subst hki
          have HT : Hid (Ps.take k = Ps) := List.take_of_length_le (by rw [HL.out]; exact Nat.le_refl _)
          rw [HT.out] at HO
          go_wp2
          go_ret
          exact ⟨_, rfl, HO.out, HB.out⟩

end Go.Proofs.Ytbcjfiobggggjaa

/-
  perm.Inverse: the inverse, or the error.
-/
namespace Go.Proofs.Ytbcjfiobggggjaa
open Go.RowKit

/-- q undoes p. -/
def IsInv (p q : List Int) : Prop := q.length = p.length ∧ ∀ i, i < p.length → q.getD (p.getD i 0).toNat 0 = (i : Int)

/-- f, but for one place. -/
def upd (f : Nat → Int) (m : Nat) (x : Int) (j : Nat) : Int := if j = m then x else f j
theorem upd_same (f : Nat → Int) (m : Nat) (x : Int) : upd f m x m = x := if_pos rfl
theorem upd_other (f : Nat → Int) {m j : Nat} (x : Int) (h : j ≠ m) : upd f m x j = f j := if_neg h

def RetInv (w : World) (p : List Int) (e : Ending) (w' : World) : Prop := ∃ q, IsInv p q ∧ RetInts w q 0 e w'

set_option maxHeartbeats 800000 in
theorem inverse_ok (A : Option Addr) (n c : Nat) (p : List Int) (w : World) (hA : Ints w A n p) (hp : permErr p = 0) :
    Calls Try.prog 25 #[.slice A n c] w (RetInv w p) := by
  have hn10 : n ≤ 10 := by rw [← hA.len]; exact (permErr_ok.1 hp).1
  have HP := hid (permErr_ok.1 hp).2
  go_enter Try.func25, Try.ntmps25
  go_wp2_with fail
  refine (check_any A n c p _ hA (by omega)).mono ?_
  rintro e w1 ⟨rfl, hb1⟩
  have hA1 := hA.keep hb1
  have HB1 := hid hb1
  clear hA hb1
  have hmk := fun W => run_make_row' (P := Try.prog) 23 3 (.int .i64 0) 8 Try.underlying23 infoInt rfl .i64 .i64 n (by omega) (by omega) W
  go_wp2_with fail
  go_loopg [18] n (fun g s wr => ∃ (k : Nat) (f : Nat → Int), k ≤ n ∧ n - k ≤ g ∧ s = .int .i64 k ∧ wr.rowIs w1.heap.size 3 n (fun j => .int .i64 (f j)) ∧ Below w1.heap.size w1 wr ∧
      ∀ i, i < k → f (p.getD i 0).toNat = (i : Int))
  case atStart => exact ⟨0, fun _ => 0, Nat.zero_le _, by omega, rfl, World.rowIs_made w1 _ n _, (Below.refl _ _).alloc (Nat.le_refl _) _, fun i hi => absurd hi (Nat.not_lt_zero _)⟩
  case round =>
    obtain ⟨k, f, hk, hg, rfl, hrow, hbel, hall⟩ := hrel
    have HR := hid hrow
    have HB := hid hbel
    have HF := hid hall
    clear hrow hbel hmk hall
    by_cases hlt : k < n
    · obtain ⟨b1, o1, rfl, hlt1, hc1⟩ := hA1.row (by omega)
      have HL := hid hA1.len
      have hkl : k < p.length := by rw [HL.out]; exact hlt
      have hr := HP.out.range (getD_mem hkl)
      rw [HL.out] at hr
      have g1 : wr.cell? ⟨b1, o1 + k, none⟩ = some (.int .i64 (p.getD k 0)) := (HB.out.cell (p := ⟨b1, o1 + k, none⟩) hlt1).trans (hc1 k hlt)
      generalize hxk : p.getD k 0 = x at g1 hr
      obtain ⟨m, rfl⟩ := Int.eq_ofNat_of_zero_le hr.1
      have hm : m < n := by omega
      have HX := hid hxk
      have g3 : wr.cell? ⟨w1.heap.size, m, none⟩ = some (.int .i64 (f m)) := HR.out.cell hm
      have g4 : wr.frozen? ⟨w1.heap.size, m, none⟩ = false := HR.out.frozen m
      clear hxk hc1 hr hA1 hkl
      go_wp2
      go_roundg (n - (k + 1))
      case measure => omega
      case rel =>
        refine ⟨k + 1, upd f m k, by omega, by omega, by go_num, ?_, HB.out.setCell (Nat.le_refl _) _, fun i hi => ?_⟩
        · refine (HR.out.set m (.int .i64 k)).congr (fun j _ => ?_)
          by_cases e : j = m
          · rw [if_pos e, e, upd_same]
          · rw [if_neg e, upd_other _ _ e]
        · by_cases e : i = k
          · subst e
            rw [HX.out, Int.toNat_natCast, upd_same]
          · have hne : (p.getD i 0).toNat ≠ m := by
              intro e2
              have hr := HP.out.range (getD_mem (show i < p.length by rw [HL.out]; omega))
              have : p.getD i 0 = p.getD k 0 := by rw [HX.out]; omega
              exact nodup_iff_getD.1 HP.out.nodup i k (by omega) (by rw [HL.out]; exact hlt) this
            rw [upd_other _ _ hne]
            exact HF.out i (by omega)
    · have hkn : k = n := by omega
      subst hkn
      go_wp2
      go_ret2
      have hlen : ((List.range k).map f).length = k := by simp
      refine ⟨(List.range k).map f, ⟨by rw [hlen, hA1.len], fun i hi => ?_⟩, _, _, _, rfl, HB1.out.trans (HB.out.mono HB1.out.size), ints_of_row HR.out hlen (fun j hj => by simp [List.getD_eq_getElem?_getD, hj]), Nat.le_refl _, by omega⟩
      have hr := HP.out.range (getD_mem hi)
      rw [hA1.len] at hr hi
      rw [← HF.out i hi]
      simp [List.getD_eq_getElem?_getD, show (p[i]?.getD 0).toNat < k by rw [← List.getD_eq_getElem?_getD]; omega]

end Go.Proofs.Ytbcjfiobggggjaa

/-
  Plain facts on composing and undoing permutations given as lists.
-/
namespace Go.Proofs.Ytbcjfiobggggjaa

theorem IsPerm.nat {p : List Int} (h : IsPerm p) {i : Nat} (hi : i < p.length) : ∃ j : Nat, j < p.length ∧ p.getD i 0 = (j : Int) := by
  have := h.range (getD_mem hi)
  exact ⟨(p.getD i 0).toNat, by omega, by omega⟩
theorem IsPerm.pre {p : List Int} (h : IsPerm p) {j : Nat} (hj : j < p.length) : ∃ i : Nat, i < p.length ∧ p.getD i 0 = (j : Int) := mem_getD (h.all j hj)

theorem isPerm_times {a b : List Int} (ha : IsPerm a) (hb : IsPerm b) (hl : a.length = b.length) : IsPerm (times a b) :=
  isPerm_of_all fun k hk => by
    rw [length_times] at hk
    obtain ⟨i, hi, ei⟩ := ha.pre (show k < a.length by omega)
    obtain ⟨j, hj, ej⟩ := hb.pre (show i < b.length by omega)
    have : (times a b).getD j 0 = (k : Int) := by rw [getD_times hj, ej, Int.toNat_natCast, ei]
    rw [← this]
    exact getD_mem (by rw [length_times]; exact hj)

theorem times_assoc {a b c : List Int} (hc : IsPerm c) (hl : b.length = c.length) : times (times a b) c = times a (times b c) := by
  apply ext_getD (by simp [length_times])
  intro j hj
  rw [length_times] at hj
  obtain ⟨i, hi, ei⟩ := hc.nat hj
  have h1 : (times a (times b c)).getD j 0 = a.getD ((times b c).getD j 0).toNat 0 := getD_times (by rw [length_times]; exact hj)
  rw [h1, getD_times (a := times a b) hj, getD_times (a := b) hj, ei, Int.toNat_natCast, getD_times (by omega)]

theorem IsInv.isPerm {p q : List Int} (h : IsInv p q) (hp : IsPerm p) : IsPerm q :=
  isPerm_of_all fun k hk => by
    rw [h.1] at hk
    obtain ⟨j, hj, ej⟩ := hp.nat hk
    have := h.2 k hk
    rw [ej, Int.toNat_natCast] at this
    rw [← this]
    exact getD_mem (by rw [h.1]; exact hj)

theorem IsInv.right {p q : List Int} (h : IsInv p q) (hp : IsPerm p) : times p q = iota p.length := by
  apply ext_getD (by rw [length_times, length_iota, h.1])
  intro j hj
  rw [length_times, h.1] at hj
  obtain ⟨i, hi, ei⟩ := hp.pre hj
  have := h.2 i hi
  rw [ei, Int.toNat_natCast] at this
  rw [getD_times (by rw [h.1]; exact hj), this, Int.toNat_natCast, ei, getD_iota hj]
theorem IsInv.left {p q : List Int} (h : IsInv p q) : times q p = iota p.length := by
  apply ext_getD (by rw [length_times, length_iota])
  intro j hj
  rw [length_times] at hj
  rw [getD_times hj, h.2 j hj, getD_iota hj]
theorem IsInv.unique {p q r : List Int} (h : IsInv p q) (k : IsInv p r) (hp : IsPerm p) : q = r := by
  apply ext_getD (by rw [h.1, k.1])
  intro j hj
  rw [h.1] at hj
  obtain ⟨i, hi, ei⟩ := hp.pre hj
  have h1 := h.2 i hi
  have h2 := k.2 i hi
  rw [ei, Int.toNat_natCast] at h1 h2
  rw [h1, h2]
theorem IsInv.times {a b va vb : List Int} (ha : IsInv a va) (hb : IsInv b vb) (hpb : IsPerm b) (hpa : IsPerm a) (hl : a.length = b.length) : IsInv (times a b) (times vb va) := by
  refine ⟨by rw [length_times, length_times, ha.1, hl], fun i hi => ?_⟩
  rw [length_times] at hi
  obtain ⟨j, hj, ej⟩ := hpb.nat hi
  obtain ⟨k, hk, ek⟩ := hpa.nat (show j < a.length by omega)
  have h1 := ha.2 j (by omega)
  have h2 := hb.2 i hi
  rw [ek, Int.toNat_natCast] at h1
  rw [ej, Int.toNat_natCast] at h2
  rw [getD_times hi, ej, Int.toNat_natCast, ek, Int.toNat_natCast, getD_times (by rw [ha.1]; exact hk), h1, Int.toNat_natCast, h2]

theorem sorted_iota (n : Nat) : sortedB (iota n) = true := sortedB_true.2 fun i hi => by
  rw [length_iota] at hi
  rw [getD_iota (by omega), getD_iota hi]
  omega

end Go.Proofs.Ytbcjfiobggggjaa

/-
  n! and castref.Factorial.
-/
namespace Go.Proofs.Ytbcjfiobggggjaa
open Go.RowKit

def fact : Nat → Nat
  | 0 => 1
  | n + 1 => (n + 1) * fact n

theorem fact_pos : ∀ n, 0 < fact n
  | 0 => by decide
  | n + 1 => Nat.mul_pos (by omega) (fact_pos n)
theorem fact_mono {a b : Nat} (h : a ≤ b) : fact a ≤ fact b := by
  induction h with
  | refl => exact Nat.le_refl _
  | step _ ih => exact Nat.le_trans ih (Nat.le_mul_of_pos_left _ (by omega))
theorem fact_ten {n : Nat} (h : n ≤ 10) : fact n ≤ 3628800 := Nat.le_trans (fact_mono h) (by decide)

end Go.Proofs.Ytbcjfiobggggjaa

/-
  cmp.Compare, slices.Compare at ints.
-/
namespace Go.Proofs.Ytbcjfiobggggjaa
open Go.RowKit

def cmpI (a b : Int) : Int := if a < b then -1 else if b < a then 1 else 0
theorem cmpI_bd (a b : Int) : -1 ≤ cmpI a b ∧ cmpI a b ≤ 1 := by unfold cmpI; split <;> (try split) <;> omega
theorem cmpI_neg {a b : Int} : decide (cmpI a b < 0) = decide (a < b) := by
  unfold cmpI
  by_cases h : a < b
  · simp [h]
  · by_cases h2 : b < a <;> simp [h, h2]

set_option maxHeartbeats 400000 in
theorem compare_any (a b : Int) (w : World) : Calls Try.prog 59 #[.int .i64 a, .int .i64 b] w fun e w' => e = .returned (.int .i64 (cmpI a b)) ∧ w = w' := by
  by_cases h : a < b
  · have e : cmpI a b = -1 := if_pos h
    have HE := hid e
    clear e
    go_enter Try.func59, Try.ntmps59
    go_wp2_with (go_at_call 80; refine (isNaN_any _ _).mono ?_; rintro e w' ⟨rfl, rfl⟩)
    go_ret
    exact ⟨by rw [HE.out]; rfl, rfl⟩
  · by_cases h2 : b < a
    · have e : cmpI a b = 1 := by unfold cmpI; rw [if_neg h, if_pos h2]
      have HE := hid e
      clear e
      go_enter Try.func59, Try.ntmps59
      go_wp2_with (go_at_call 80; refine (isNaN_any _ _).mono ?_; rintro e w' ⟨rfl, rfl⟩)
      go_ret
      exact ⟨by rw [HE.out]; rfl, rfl⟩
    · have e : cmpI a b = 0 := by unfold cmpI; rw [if_neg h, if_neg h2]
      have HE := hid e
      clear e
      go_enter Try.func59, Try.ntmps59
      go_wp2_with (go_at_call 80; refine (isNaN_any _ _).mono ?_; rintro e w' ⟨rfl, rfl⟩)
      go_ret
      exact ⟨by rw [HE.out]; rfl, rfl⟩

def cmpL : List Int → List Int → Int
  | [], [] => 0
  | [], _ :: _ => -1
  | _ :: _, [] => 1
  | x :: l, y :: m => if x < y then -1 else if y < x then 1 else cmpL l m

theorem cmpL_step {xs ys : List Int} {k : Nat} (h1 : k < xs.length) (h2 : k < ys.length) : cmpL (xs.drop k) (ys.drop k) = if cmpI (xs.getD k 0) (ys.getD k 0) = 0 then cmpL (xs.drop (k + 1)) (ys.drop (k + 1)) else cmpI (xs.getD k 0) (ys.getD k 0) := by
  have e1 : xs.getD k 0 = xs[k] := by rw [List.getD_eq_getElem?_getD, List.getElem?_eq_getElem h1]; rfl
  have e2 : ys.getD k 0 = ys[k] := by rw [List.getD_eq_getElem?_getD, List.getElem?_eq_getElem h2]; rfl
  rw [List.drop_eq_getElem_cons h1, List.drop_eq_getElem_cons h2, e1, e2]
  simp only [cmpL, cmpI]
  split
  · rfl
  · split <;> rfl

set_option maxHeartbeats 800000 in
theorem compareL_any (A1 : Option Addr) (n c : Nat) (A2 : Option Addr) (d : Nat) (xs ys : List Int) (w : World) (h1 : Ints w A1 n xs) (h2 : Ints w A2 n ys) (hn : n ≤ 1000000) :
    Calls Try.prog 29 #[.slice A1 n c, .slice A2 n d] w fun e w' => e = .returned (.int .i64 (cmpL xs ys)) ∧ w = w' := by
  have HL1 := hid h1.len
  have HL2 := hid h2.len
  go_enter Try.func29, Try.ntmps29
  go_wp2
  go_loopg [11] n (fun g s wr => ∃ k : Nat, k ≤ n ∧ n - k ≤ g ∧ s = .int .i64 k ∧ w = wr ∧ cmpL (xs.drop k) (ys.drop k) = cmpL xs ys)
  case atStart => exact ⟨0, Nat.zero_le _, by omega, rfl, rfl, rfl⟩
  case round =>
    obtain ⟨k, hk, hg, rfl, rfl, heq⟩ := hrel
    have HE := hid heq
    clear heq
    by_cases hlt : k < n
    · obtain ⟨b1, o1, rfl, _, hc1⟩ := h1.row (by omega)
      obtain ⟨b2, o2, rfl, _, hc2⟩ := h2.row (by omega)
      have g1 := hc1 k hlt
      have g2 := hc2 k hlt
      have HS := hid (cmpL_step (xs := xs) (ys := ys) (k := k) (by rw [HL1.out]; exact hlt) (by rw [HL2.out]; exact hlt))
      clear hc1 hc2 h1 h2
      generalize xs.getD k 0 = x at g1 HS
      generalize ys.getD k 0 = y at g2 HS
      by_cases h0 : cmpI x y = 0
      · have HS2 : Hid (cmpL (xs.drop (k + 1)) (ys.drop (k + 1)) = cmpL xs ys) := by rw [← HE.out, HS.out, if_pos h0]; exact rfl
        go_wp2_with (go_at_call 59; refine (compare_any x y _).mono ?_; rintro e w' ⟨rfl, rfl⟩)
        go_roundg (n - (k + 1))
        case measure => omega
        case rel => exact ⟨k + 1, by omega, by omega, by go_num, rfl, HS2.out⟩
      · have HS2 : Hid (cmpI x y = cmpL xs ys) := by rw [← HE.out, HS.out, if_neg h0]; exact rfl
        have h0' : (cmpI x y != 0) = true := by simpa using h0
        clear h0
        generalize hz : cmpI x y = z at *
        have HZ := hid hz
        clear hz
        go_wp2_with (go_at_call 59; refine (compare_any x y _).mono ?_; rw [HZ.out]; rintro e w' ⟨rfl, rfl⟩)
        go_ret
        exact ⟨ret_int HS2.out, rfl⟩
    · have hkn : k = n := by omega
      subst hkn
      have HS2 : Hid ((0 : Int) = cmpL xs ys) := by rw [← HE.out, List.drop_of_length_le (by rw [HL1.out]; exact Nat.le_refl _), List.drop_of_length_le (by rw [HL2.out]; exact Nat.le_refl _)]; exact rfl
      go_wp2
      go_ret
      exact ⟨ret_int HS2.out, rfl⟩

end Go.Proofs.Ytbcjfiobggggjaa

/-
  Orders and their numbers: plain mathematics. Nothing of the program is proved here.
-/
namespace Go.Proofs.Ytbcjfiobggggjaa
open Go.RowKit

/-- How many of l are less than x. -/
def less (x : Int) (l : List Int) : Nat := l.countP (fun y => decide (y < x))
/-- Lehmer's code. -/
def codeL : List Int → List Int
  | [] => []
  | x :: l => (less x l : Int) :: codeL l
/-- The number of an order. -/
def rk : List Int → Nat
  | [] => 0
  | x :: l => less x l * fact l.length + rk l

theorem less_le (x : Int) (l : List Int) : less x l ≤ l.length := List.countP_le_length
theorem less_cons (x y : Int) (l : List Int) : less x (y :: l) = less x l + if y < x then 1 else 0 := by
  unfold less
  rw [List.countP_cons]
  by_cases h : y < x <;> simp [h]
theorem less_self (x : Int) (l : List Int) : less x (x :: l) = less x l := by rw [less_cons, if_neg (by omega)]; rfl
theorem less_append (x : Int) (l m : List Int) : less x (l ++ m) = less x l + less x m := List.countP_append
theorem less_perm {x : Int} {l l' : List Int} (h : l.Perm l') : less x l = less x l' := h.countP_eq _
theorem less_all {x : Int} {l : List Int} (h : ∀ y, y ∈ l → y < x) : less x l = l.length := by
  unfold less
  rw [List.countP_eq_length]
  intro y hy
  simpa using h y hy
theorem less_none {x : Int} {l : List Int} (h : ∀ y, y ∈ l → x ≤ y) : less x l = 0 := by
  unfold less
  rw [List.countP_eq_zero]
  intro y hy
  have := h y hy
  simp
  omega
theorem less_mono {x y : Int} (h : x ≤ y) (l : List Int) : less x l ≤ less y l := by
  refine List.countP_mono_left fun z _ hz => ?_
  have : z < x := by simpa using hz
  simp
  omega
theorem less_lt {x y : Int} (h : x < y) : ∀ {l : List Int}, x ∈ l → less x l < less y l
  | z :: l, hz => by
    rw [less_cons, less_cons]
    rcases List.mem_cons.1 hz with rfl | hz
    · rw [if_neg (by omega), if_pos h]
      have := less_mono (Int.le_of_lt h) l
      omega
    · have ih := less_lt h hz
      by_cases h1 : z < x
      · rw [if_pos h1, if_pos (by omega)]
        omega
      · rw [if_neg h1]
        split <;> omega

theorem length_codeL : ∀ l : List Int, (codeL l).length = l.length
  | [] => rfl
  | _ :: l => by simp [codeL, length_codeL l]
theorem getD_codeL : ∀ (l : List Int) (i : Nat), i < l.length → (codeL l).getD i 0 = (less (l.getD i 0) (l.drop (i + 1)) : Int)
  | [], _, h => absurd h (Nat.not_lt_zero _)
  | _ :: _, 0, _ => by simp [codeL]
  | _ :: l, i + 1, h => by
    have := getD_codeL l i (by simpa using h)
    simpa [codeL] using this

theorem rk_lt : ∀ l : List Int, rk l < fact l.length
  | [] => by decide
  | x :: l => by
    have ih := rk_lt l
    have h := Nat.mul_le_mul_right (fact l.length) (less_le x l)
    show less x l * fact l.length + rk l < (l.length + 1) * fact l.length
    rw [Nat.succ_mul]
    omega

/-! ### Digits -/

def val : List Int → Nat
  | [] => 0
  | d :: l => d.toNat * fact l.length + val l
theorem val_codeL : ∀ l : List Int, val (codeL l) = rk l
  | [] => rfl
  | x :: l => by simp only [codeL, val, rk, length_codeL, val_codeL l, Int.toNat_natCast]

/-- What the loop over the digits gathers. -/
theorem val_fold : ∀ (l : List Int) (acc : Nat), (∀ d, d ∈ l → 0 ≤ d) → (l.foldl (fun (a : Nat × Nat) d => (a.1 * a.2 + d.toNat, a.2 - 1)) (acc, l.length)).1 = acc * fact l.length + val l
  | [], acc, _ => by simp [fact, val]
  | d :: l, acc, h => by
    have ih := val_fold l (acc * (l.length + 1) + d.toNat) (fun x hx => h x (List.mem_cons_of_mem _ hx))
    rw [List.foldl_cons]
    show (l.foldl _ (acc * (l.length + 1) + d.toNat, l.length + 1 - 1)).1 = _
    rw [Nat.add_sub_cancel, ih]
    show _ = acc * ((l.length + 1) * fact l.length) + (d.toNat * fact l.length + val l)
    rw [Nat.add_mul, Nat.mul_assoc]
    omega

/-- The value of the first k digits, as the loop has it. -/
def part (l : List Int) : Nat → Nat
  | 0 => 0
  | k + 1 => part l k * (l.length - k) + (l.getD k 0).toNat
theorem part_val (l : List Int) : ∀ k, k ≤ l.length → part l k * fact (l.length - k) + val (l.drop k) = val l
  | 0, _ => by simp [part]
  | k + 1, h => by
    have ih := part_val l k (by omega)
    rw [List.drop_eq_getElem_cons (by omega)] at ih
    have e : l.length - k = (l.length - (k + 1)) + 1 := by omega
    have hg : l.getD k 0 = l[k] := by rw [List.getD_eq_getElem?_getD, List.getElem?_eq_getElem (by omega)]; rfl
    have hl : (l.drop (k + 1)).length = l.length - (k + 1) := by simp
    simp only [val, hl] at ih
    rw [← ih]
    simp only [part, hg]
    rw [Nat.add_mul, Nat.mul_assoc]
    rw [e]
    simp only [fact]
    omega
theorem part_le (l : List Int) {k : Nat} (hk : k ≤ l.length) : part l k ≤ val l := by
  have h := part_val l k hk
  have := Nat.le_mul_of_pos_right (part l k) (fact_pos (l.length - k))
  omega
theorem part_end (l : List Int) : part l l.length = val l := by
  have h := part_val l l.length (Nat.le_refl _)
  rw [Nat.sub_self, List.drop_of_length_le (Nat.le_refl _)] at h
  simpa [fact, val] using h

def IsDig : List Int → Prop
  | [] => True
  | d :: l => 0 ≤ d ∧ d ≤ l.length ∧ IsDig l
theorem isDig_codeL : ∀ l : List Int, IsDig (codeL l)
  | [] => trivial
  | x :: l => ⟨by omega, by have := less_le x l; rw [length_codeL]; omega, isDig_codeL l⟩
theorem IsDig.getD : ∀ {l : List Int}, IsDig l → ∀ i, i < l.length → 0 ≤ l.getD i 0 ∧ l.getD i 0 < l.length - i
  | _ :: _, h, 0, _ => by have := h.1; have := h.2.1; simp; omega
  | _ :: l, h, i + 1, hi => by
    have := IsDig.getD h.2.2 i (by simpa using hi)
    simp
    simp at this
    omega

/-- The last m digits of k. -/
def digL : Nat → Nat → List Int
  | 0, _ => []
  | m + 1, k => ((k / fact m % (m + 1) : Nat) : Int) :: digL m k
theorem length_digL : ∀ m k, (digL m k).length = m
  | 0, _ => rfl
  | m + 1, k => by simp [digL, length_digL m k]
theorem isDig_digL : ∀ m k, IsDig (digL m k)
  | 0, _ => trivial
  | m + 1, k => ⟨by omega, by have := Nat.mod_lt (k / fact m) (show 0 < m + 1 by omega); rw [length_digL]; omega, isDig_digL m k⟩
theorem getD_digL : ∀ m k i, i < m → (digL m k).getD i 0 = ((k / fact (m - 1 - i) % (m - i) : Nat) : Int)
  | m + 1, k, 0, _ => by simp [digL]
  | m + 1, k, i + 1, h => by
    have := getD_digL m k i (by omega)
    simp only [digL, List.getD_cons_succ, this]
    rw [show m + 1 - 1 - (i + 1) = m - 1 - i by omega, show m + 1 - (i + 1) = m - i by omega]
theorem val_digL : ∀ m k, val (digL m k) = k % fact m
  | 0, k => by simp [digL, val, fact, Nat.mod_one]
  | m + 1, k => by
    simp only [digL, val, length_digL, val_digL m k, fact, Int.toNat_natCast]
    rw [Nat.mul_comm (m + 1) (fact m), Nat.mod_mul, Nat.mul_comm (fact m)]
    omega
theorem fact_step (k j : Nat) : k / fact j / (j + 1) = k / fact (j + 1) := by
  rw [Nat.div_div_eq_div_mul, Nat.mul_comm (fact j)]
  rfl

/-! ### By digits out of what is left -/

def pick : List Int → List Int → List Int
  | _, [] => []
  | left, d :: ds => left.getD d.toNat 0 :: pick (left.eraseIdx d.toNat) ds
theorem length_pick : ∀ left ds, (pick left ds).length = ds.length
  | _, [] => rfl
  | left, d :: ds => by simp [pick, length_pick _ ds]
theorem perm_erase : ∀ {l : List Int} {i : Nat}, i < l.length → (l.getD i 0 :: l.eraseIdx i).Perm l
  | a :: l, 0, _ => by simp
  | a :: l, i + 1, h => by
    have ih := perm_erase (l := l) (i := i) (by simpa using h)
    rw [List.getD_cons_succ, List.eraseIdx_cons_succ]
    exact (List.Perm.swap _ _ _).trans (ih.cons a)
theorem pick_perm : ∀ {ds left : List Int}, left.length = ds.length → IsDig ds → (pick left ds).Perm left
  | [], left, hl, _ => by
    have : left = [] := List.eq_nil_of_length_eq_zero hl
    subst this
    exact .refl _
  | d :: ds, left, hl, h => by
    have hd : d.toNat < left.length := by have := h.1; have := h.2.1; simp at hl; omega
    have hl2 : (left.eraseIdx d.toNat).length = ds.length := by rw [List.length_eraseIdx, if_pos hd]; simp at hl; omega
    exact ((pick_perm hl2 h.2.2).cons _).trans (perm_erase hd)
theorem less_sorted : ∀ {l : List Int} {i : Nat}, l.Pairwise (· < ·) → i < l.length → less (l.getD i 0) l = i
  | a :: l, 0, h, _ => by
    rw [List.getD_cons_zero, less_self]
    exact less_none fun y hy => Int.le_of_lt ((List.pairwise_cons.1 h).1 y hy)
  | a :: l, i + 1, h, hi => by
    have hi' : i < l.length := by simpa using hi
    rw [List.getD_cons_succ, less_cons, less_sorted (List.pairwise_cons.1 h).2 hi', if_pos ((List.pairwise_cons.1 h).1 _ (getD_mem hi'))]
theorem codeL_pick : ∀ {ds left : List Int}, left.Pairwise (· < ·) → left.length = ds.length → IsDig ds → codeL (pick left ds) = ds
  | [], left, _, _, _ => rfl
  | d :: ds, left, hs, hl, h => by
    have hd : d.toNat < left.length := by have := h.1; have := h.2.1; simp at hl; omega
    have hl2 : (left.eraseIdx d.toNat).length = ds.length := by rw [List.length_eraseIdx, if_pos hd]; simp at hl; omega
    have hs2 : (left.eraseIdx d.toNat).Pairwise (· < ·) := hs.sublist (List.eraseIdx_sublist _ _)
    simp only [pick, codeL, codeL_pick hs2 hl2 h.2.2]
    congr 1
    rw [less_perm (pick_perm hl2 h.2.2), ← less_self, less_perm (perm_erase hd), less_sorted hs hd]
    have := h.1
    omega

theorem sorted_iotaP (n : Nat) : (iota n).Pairwise (· < ·) := by
  unfold iota
  rw [List.pairwise_map]
  exact List.pairwise_lt_range.imp (fun h => by omega)

/-- The order with the number k. -/
def atL (n k : Nat) : List Int := pick (iota n) (digL n k)
theorem length_atL (n k : Nat) : (atL n k).length = n := by rw [atL, length_pick, length_digL]
theorem isPerm_atL (n k : Nat) : IsPerm (atL n k) := by
  unfold IsPerm
  rw [length_atL]
  exact pick_perm (by rw [length_iota, length_digL]) (isDig_digL n k)
theorem rk_atL {n k : Nat} (h : k < fact n) : rk (atL n k) = k := by
  rw [← val_codeL, atL, codeL_pick (sorted_iotaP n) (by rw [length_iota, length_digL]) (isDig_digL n k), val_digL, Nat.mod_eq_of_lt h]

/-! ### The order of orders -/

theorem rk_first {x y : Int} {l m : List Int} (hp : (x :: l).Perm (y :: m)) (h : x < y) : rk (x :: l) < rk (y :: m) := by
  have hl : l.length = m.length := by simpa using hp.length_eq
  have h1 : less x l < less y m := by
    rw [← less_self x l, ← less_self y m, less_perm hp]
    exact less_lt h (hp.mem_iff.1 (List.mem_cons_self ..))
  have h2 := rk_lt l
  have h3 := Nat.mul_le_mul_right (fact l.length) (show less x l + 1 ≤ less y m by omega)
  rw [Nat.succ_mul] at h3
  simp only [rk, ← hl]
  omega
theorem rk_cmp : ∀ {l m : List Int}, l.Perm m → (l = m ∧ cmpL l m = 0) ∨ (cmpL l m = -1 ∧ rk l < rk m) ∨ (cmpL l m = 1 ∧ rk m < rk l)
  | [], m, h => by
    have : m = [] := List.nil_perm.1 h
    subst this
    exact .inl ⟨rfl, rfl⟩
  | x :: l, [], h => absurd h.length_eq (by simp)
  | x :: l, y :: m, h => by
    simp only [cmpL]
    by_cases h1 : x < y
    · rw [if_pos h1]
      exact .inr (.inl ⟨rfl, rk_first h h1⟩)
    · rw [if_neg h1]
      by_cases h2 : y < x
      · rw [if_pos h2]
        exact .inr (.inr ⟨rfl, rk_first h.symm h2⟩)
      · rw [if_neg h2]
        have e : x = y := by omega
        subst e
        have hp := h.cons_inv
        have hl := hp.length_eq
        have hx := less_perm (x := x) hp
        simp only [rk, hl, hx]
        rcases rk_cmp hp with ⟨e, h0⟩ | ⟨h0, h3⟩ | ⟨h0, h3⟩
        · exact .inl ⟨by rw [e], h0⟩
        · exact .inr (.inl ⟨h0, by omega⟩)
        · exact .inr (.inr ⟨h0, by omega⟩)
theorem rk_inj {l m : List Int} (h : l.Perm m) (e : rk l = rk m) : l = m := by
  rcases rk_cmp h with h | h | h
  · exact h.1
  · omega
  · omega
theorem cmp_lt {l m : List Int} (h : l.Perm m) : cmpL l m < 0 ↔ rk l < rk m := by
  rcases rk_cmp h with ⟨rfl, h⟩ | h | h
  · omega
  · omega
  · omega
theorem IsPerm.perm {a b : List Int} (ha : IsPerm a) (hb : IsPerm b) (hl : a.length = b.length) : a.Perm b := by
  unfold IsPerm at ha hb
  rw [hl] at ha
  exact ha.trans hb.symm
theorem atL_rk {p : List Int} (h : IsPerm p) : atL p.length (rk p) = p :=
  rk_inj ((isPerm_atL _ _).perm h (length_atL _ _)) (rk_atL (rk_lt p))

/-! ### The next one -/

theorem rk_falls : ∀ {l : List Int}, l.Pairwise (· > ·) → rk l + 1 = fact l.length
  | [], _ => rfl
  | x :: l, h => by
    have ih := rk_falls (List.pairwise_cons.1 h).2
    simp only [rk, List.length_cons, fact]
    rw [less_all (fun y hy => (List.pairwise_cons.1 h).1 y hy), Nat.succ_mul]
    omega
theorem rk_rises : ∀ {l : List Int}, l.Pairwise (· < ·) → rk l = 0
  | [], _ => rfl
  | x :: l, h => by
    simp only [rk]
    rw [less_none (fun y hy => Int.le_of_lt ((List.pairwise_cons.1 h).1 y hy)), rk_rises (List.pairwise_cons.1 h).2]
    omega
theorem rk_behind : ∀ (pre : List Int) {s s' : List Int}, s.Perm s' → rk (pre ++ s) + rk s' = rk (pre ++ s') + rk s
  | [], s, s', _ => by simp; omega
  | x :: pre, s, s', h => by
    have ih := rk_behind pre h
    have hp : (pre ++ s).Perm (pre ++ s') := h.append_left _
    simp only [List.cons_append, rk]
    rw [less_perm hp, hp.length_eq]
    omega
theorem next_core {x y : Int} {u v : List Int} (hf : (u ++ y :: v).Pairwise (· > ·)) (hxy : x < y) (hv : ∀ z, z ∈ v → z < x) :
    rk (y :: (u ++ x :: v).reverse) = rk (x :: (u ++ y :: v)) + 1 := by
  have hf1 := List.pairwise_append.1 hf
  have hf2 := List.pairwise_cons.1 hf1.2.1
  have huy : ∀ z, z ∈ u → y < z := fun z hz => hf1.2.2 z hz y (List.mem_cons_self ..)
  have h1 : less x (u ++ y :: v) = v.length := by
    rw [less_append, less_cons, less_none (fun z hz => by have := huy z hz; omega), less_all hv, if_neg (by omega)]
    omega
  have h2 : less y ((u ++ x :: v).reverse) = v.length + 1 := by
    rw [less_perm (List.reverse_perm _), less_append, less_cons, less_none (fun z hz => by have := huy z hz; omega), less_all (fun z hz => by have := hv z hz; omega), if_pos hxy]
    omega
  have h3 : (u ++ x :: v).reverse.Pairwise (· < ·) := by
    rw [List.pairwise_reverse]
    refine List.pairwise_append.2 ⟨hf1.1, List.pairwise_cons.2 ⟨fun z hz => hv z hz, hf2.2⟩, fun a ha b hb => ?_⟩
    rcases List.mem_cons.1 hb with rfl | hb
    · have := huy a ha; show b < a; omega
    · have := huy a ha; have := hv b hb; show b < a; omega
  have h4 := rk_falls hf
  have hl : ((u ++ x :: v).reverse).length = (u ++ y :: v).length := by simp; omega
  simp only [rk]
  rw [h1, h2, rk_rises h3, hl, Nat.succ_mul, ← h4]
  omega

/-! ### The other way round -/

theorem rk_turned {n : Int} : ∀ {l : List Int}, l.Nodup → rk l + rk (l.map (fun v => n - v)) + 1 = fact l.length
  | [], _ => rfl
  | x :: l, h => by
    have hn := List.nodup_cons.1 h
    have ih := rk_turned (n := n) hn.2
    have e : less x l + less (n - x) (l.map (fun v => n - v)) = l.length := by
      clear ih h
      have : x ∉ l := hn.1
      clear hn
      induction l with
      | nil => rfl
      | cons y l ih =>
        have hy : y ≠ x := fun e => this (by rw [e]; exact List.mem_cons_self ..)
        have ih := ih (fun h => this (List.mem_cons_of_mem _ h))
        rw [List.map_cons, less_cons, less_cons, List.length_cons]
        by_cases h1 : y < x
        · rw [if_pos h1, if_neg (by omega)]; omega
        · rw [if_neg h1, if_pos (by omega)]; omega
    simp only [List.map_cons, rk, List.length_map, List.length_cons, fact]
    rw [← ih] at *
    have h2 : less x l * (rk l + rk (l.map fun v => n - v) + 1) + less (n - x) (l.map fun v => n - v) * (rk l + rk (l.map fun v => n - v) + 1) = l.length * (rk l + rk (l.map fun v => n - v) + 1) := by rw [← Nat.add_mul, e]
    rw [Nat.succ_mul]
    omega

/-! ### By the first number -/

/-- What is left behind the first number, made an order. -/
def shut (x y : Int) : Int := if x < y then y - 1 else y
theorem rk_map {f : Int → Int} : ∀ {l : List Int}, (∀ a, a ∈ l → ∀ b, b ∈ l → (f a < f b ↔ a < b)) → rk (l.map f) = rk l
  | [], _ => rfl
  | x :: l, h => by
    have ih := rk_map (l := l) (fun a ha b hb => h a (List.mem_cons_of_mem _ ha) b (List.mem_cons_of_mem _ hb))
    have e : less (f x) (l.map f) = less x l := by
      unfold less
      rw [List.countP_map]
      refine List.countP_congr fun a ha => ?_
      have := h a (List.mem_cons_of_mem _ ha) x (List.mem_cons_self ..)
      simpa using this
    simp only [List.map_cons, rk, List.length_map, ih, e]
theorem rk_shut {x : Int} {l : List Int} (h : x ∉ l) : rk (l.map (shut x)) = rk l := by
  refine rk_map fun a ha b hb => ?_
  have h1 : a ≠ x := fun e => h (e ▸ ha)
  have h2 : b ≠ x := fun e => h (e ▸ hb)
  unfold shut
  split <;> split <;> omega
theorem less_perm_head {x : Int} {l : List Int} (h : IsPerm (x :: l)) : (less x l : Int) = x := by
  have hx := h.range (List.mem_cons_self ..)
  have e : less x (x :: l) = less x (iota (x :: l).length) := less_perm h
  obtain ⟨m, hm⟩ := Int.eq_ofNat_of_zero_le hx.1
  have h1 := less_sorted (sorted_iotaP (x :: l).length) (i := m) (by rw [length_iota]; omega)
  rw [getD_iota (by omega)] at h1
  rw [less_self] at e
  subst hm
  rw [e, h1]
theorem isPerm_shut {x : Int} {l : List Int} (h : IsPerm (x :: l)) : IsPerm (l.map (shut x)) := by
  have hn := List.nodup_cons.1 h.nodup
  have hx := h.range (List.mem_cons_self ..)
  refine isPerm_of_nodup ?_ ?_
  · unfold List.Nodup
    rw [List.pairwise_map]
    refine hn.2.imp_of_mem fun {a b} ha hb hab => ?_
    have h1 : a ≠ x := fun e => hn.1 (e ▸ ha)
    have h2 : b ≠ x := fun e => hn.1 (e ▸ hb)
    unfold shut
    split <;> split <;> omega
  · intro y hy
    obtain ⟨a, ha, rfl⟩ := List.mem_map.1 hy
    have h1 : a ≠ x := fun e => hn.1 (e ▸ ha)
    have h2 := h.range (List.mem_cons_of_mem _ ha)
    simp only [List.length_cons, List.length_map] at *
    unfold shut
    split <;> omega

end Go.Proofs.Ytbcjfiobggggjaa

/-
  Plain facts on the cycles of a permutation given as a list. No program, no memory.
-/
namespace Go.Proofs.Ytbcjfiobggggjaa

def nx (p : List Int) (i : Nat) : Nat := (p.getD i 0).toNat
/-- k steps from i. -/
def it (p : List Int) : Nat → Nat → Nat
  | 0, i => i
  | k + 1, i => nx p (it p k i)

theorem length_le_of_nodup {l : List Nat} {n : Nat} (hn : l.Nodup) (hl : ∀ x, x ∈ l → x < n) : l.length ≤ n := by
  by_cases h : l.length ≤ n
  · exact h
  · have := (perm_of_nodup_subset (l := l) (l' := List.range n) hn (fun x hx => List.mem_range.2 (hl x hx)) (by simp; omega)).length_eq
    simp at this
    omega

section
variable {p : List Int}

theorem nx_lt (h : IsPerm p) {i : Nat} (hi : i < p.length) : nx p i < p.length := by
  have := h.range (getD_mem hi)
  unfold nx
  omega
theorem nx_inj (h : IsPerm p) {i j : Nat} (hi : i < p.length) (hj : j < p.length) (e : nx p i = nx p j) : i = j := by
  have h1 := h.range (getD_mem hi)
  have h2 := h.range (getD_mem hj)
  have e' : p.getD i 0 = p.getD j 0 := by unfold nx at e; omega
  have hn := nodup_iff_getD.1 h.nodup
  rcases Nat.lt_trichotomy i j with hlt | he | hgt
  · exact absurd e' (hn i j hlt hj)
  · exact he
  · exact absurd e'.symm (hn j i hgt hi)

theorem it_lt (h : IsPerm p) {i : Nat} (hi : i < p.length) (k : Nat) : it p k i < p.length := by
  induction k with
  | zero => exact hi
  | succ k ih => exact nx_lt h ih
theorem it_add (p : List Int) (a b i : Nat) : it p (a + b) i = it p a (it p b i) := by
  induction a with
  | zero => simp [it]
  | succ a ih => rw [Nat.succ_add]; simp only [it]; rw [ih]
theorem it_inj (h : IsPerm p) {i j : Nat} (hi : i < p.length) (hj : j < p.length) (k : Nat) (e : it p k i = it p k j) : i = j := by
  induction k with
  | zero => exact e
  | succ k ih => exact ih (nx_inj h (it_lt h hi k) (it_lt h hj k) e)

theorem it_back (h : IsPerm p) {i : Nat} (hi : i < p.length) : ∃ k, 1 ≤ k ∧ k ≤ p.length ∧ it p k i = i := by
  apply Classical.byContradiction
  intro hno
  have hd : ((List.range (p.length + 1)).map (fun k => it p k i)).Nodup := by
    rw [List.nodup_iff_pairwise_ne, List.pairwise_map]
    have hr := List.pairwise_lt_range (n := p.length + 1)
    refine List.Pairwise.imp_of_mem ?_ hr
    intro a b ha hb hab e
    have hb' := List.mem_range.1 hb
    refine hno ⟨b - a, by omega, by omega, ?_⟩
    have e2 : it p b i = it p a (it p (b - a) i) := by rw [← it_add]; congr 1; omega
    exact (it_inj h hi (it_lt h hi _) a (e.trans e2)).symm
  have := length_le_of_nodup hd (n := p.length) (fun x hx => by
    obtain ⟨k, _, rfl⟩ := List.mem_map.1 hx
    exact it_lt h hi k)
  simp at this
  omega

/-- How many steps it takes to come back. -/
def per (p : List Int) (i : Nat) : Nat := ((List.range p.length).find? (fun k => decide (it p (k + 1) i = i))).getD 0 + 1

theorem per_spec (h : IsPerm p) {i : Nat} (hi : i < p.length) : 1 ≤ per p i ∧ per p i ≤ p.length ∧ it p (per p i) i = i ∧ ∀ k, 1 ≤ k → k < per p i → it p k i ≠ i := by
  obtain ⟨k, h1, h2, h3⟩ := it_back h hi
  unfold per
  cases hf : (List.range p.length).find? (fun k => decide (it p (k + 1) i = i)) with
  | none =>
    have := List.find?_eq_none.1 hf (k - 1) (List.mem_range.2 (by omega))
    rw [show k - 1 + 1 = k by omega] at this
    simp [h3] at this
  | some m =>
    rw [List.find?_range_eq_some] at hf
    obtain ⟨ha, hb, hc⟩ := hf
    have hb' := List.mem_range.1 hb
    refine ⟨by omega, by simp; omega, by simpa using ha, fun k hk1 hk2 => ?_⟩
    simp only [Option.getD_some] at hk2
    have := hc (k - 1) (by omega)
    rw [show k - 1 + 1 = k by omega] at this
    simpa using this

theorem it_mul (h : IsPerm p) {i : Nat} (hi : i < p.length) (t : Nat) : it p (t * per p i) i = i := by
  induction t with
  | zero => simp [it]
  | succ t ih => rw [Nat.succ_mul, it_add, (per_spec h hi).2.2.1, ih]
theorem it_mod (h : IsPerm p) {i : Nat} (hi : i < p.length) (k : Nat) : it p k i = it p (k % per p i) i := by
  have e : k % per p i + k / per p i * per p i = k := by rw [Nat.mul_comm]; exact Nat.mod_add_div k (per p i)
  rw [← it_mul h hi (k / per p i)]
  conv => lhs; rw [← e]
  rw [it_add, it_mul h hi, it_mul h hi]
theorem it_ne (h : IsPerm p) {i : Nat} (hi : i < p.length) {a b : Nat} (hab : a < b) (hb : b < per p i) : it p a i ≠ it p b i := by
  intro e
  have e2 : it p b i = it p a (it p (b - a) i) := by rw [← it_add]; congr 1; omega
  exact (per_spec h hi).2.2.2 (b - a) (by omega) (by omega) (it_inj h hi (it_lt h hi _) a (e.trans e2)).symm

/-- The way back within a cycle. -/
theorem it_symm (h : IsPerm p) {i : Nat} (hi : i < p.length) (k : Nat) : ∃ m, it p m (it p k i) = i := by
  refine ⟨k * per p i - k, ?_⟩
  have h1 := (per_spec h hi).1
  have h2 : k ≤ k * per p i := Nat.le_mul_of_pos_right k (by omega)
  rw [← it_add, show k * per p i - k + k = k * per p i by omega, it_mul h hi]

/-- The least number of a cycle. -/
def lo (p : List Int) (j : Nat) : Nat := (List.range p.length).foldr (fun k m => min (it p k j) m) j

theorem foldr_min_le (f : Nat → Nat) (l : List Nat) (z k : Nat) (hk : k ∈ l) : l.foldr (fun k m => min (f k) m) z ≤ f k := by
  induction l with
  | nil => cases hk
  | cons a t ih =>
    rw [List.foldr_cons]
    rcases List.mem_cons.1 hk with rfl | hk
    · exact Nat.min_le_left _ _
    · exact Nat.le_trans (Nat.min_le_right _ _) (ih hk)
theorem foldr_min_mem (f : Nat → Nat) (l : List Nat) (z : Nat) : l.foldr (fun k m => min (f k) m) z = z ∨ ∃ k, l.foldr (fun k m => min (f k) m) z = f k := by
  induction l with
  | nil => exact .inl rfl
  | cons a t ih =>
    rw [List.foldr_cons]
    rcases Nat.le_total (f a) (t.foldr (fun k m => min (f k) m) z) with hle | hle
    · exact .inr ⟨a, Nat.min_eq_left hle⟩
    · rw [Nat.min_eq_right hle]
      exact ih

theorem lo_mem (p : List Int) (j : Nat) : ∃ k, lo p j = it p k j := by
  rcases foldr_min_mem (fun k => it p k j) (List.range p.length) j with h | ⟨k, h⟩
  · exact ⟨0, h⟩
  · exact ⟨k, h⟩
theorem lo_le (h : IsPerm p) {j : Nat} (hj : j < p.length) (k : Nat) : lo p j ≤ it p k j := by
  rw [it_mod h hj k]
  have h1 := (per_spec h hj).1
  have h2 := (per_spec h hj).2.1
  exact foldr_min_le (fun k => it p k j) _ j _ (List.mem_range.2 (Nat.lt_of_lt_of_le (Nat.mod_lt _ (by omega)) h2))
theorem lo_lt (h : IsPerm p) {j : Nat} (hj : j < p.length) : lo p j < p.length := by
  obtain ⟨k, e⟩ := lo_mem p j
  rw [e]
  exact it_lt h hj k
theorem lo_it (h : IsPerm p) {j : Nat} (hj : j < p.length) (k : Nat) : lo p (it p k j) = lo p j := by
  apply Nat.le_antisymm
  · obtain ⟨m, e⟩ := lo_mem p j
    obtain ⟨r, er⟩ := it_symm h hj k
    rw [e]
    have := lo_le h (it_lt h hj k) (m + r)
    rwa [it_add, er] at this
  · obtain ⟨m, e⟩ := lo_mem p (it p k j)
    rw [e, ← it_add]
    exact lo_le h hj _

/-- Whose least number is s lies in the cycle of s. -/
theorem lo_eq (h : IsPerm p) {j s : Nat} (hj : j < p.length) (e : lo p j = s) : s < p.length ∧ lo p s = s ∧ ∃ k, k < per p s ∧ it p k s = j := by
  have hs : s < p.length := by rw [← e]; exact lo_lt h hj
  obtain ⟨m, em⟩ := lo_mem p j
  have hls : lo p s = s := by
    have := lo_it h hj m
    rw [← em, e] at this
    exact this
  obtain ⟨r, er⟩ := it_symm h hj m
  rw [← em, e] at er
  refine ⟨hs, hls, r % per p s, Nat.mod_lt _ (by have := (per_spec h hs).1; omega), ?_⟩
  rw [← it_mod h hs]
  exact er

/-! ### What the loops of cycleLengths keep -/

/-- The lengths of the cycles whose least number is below s, by that number. -/
def cycL (p : List Int) (s : Nat) : List Int := ((List.range s).filter (fun i => decide (lo p i = i))).map (fun i => (per p i : Int))

theorem cycL_yes {s : Nat} (h : lo p s = s) : cycL p (s + 1) = cycL p s ++ [(per p s : Int)] := by
  simp [cycL, List.range_succ, List.filter_append, h]
theorem cycL_no {s : Nat} (h : lo p s ≠ s) : cycL p (s + 1) = cycL p s := by
  simp [cycL, List.range_succ, List.filter_append, h]
theorem length_cycL_le (p : List Int) (s : Nat) : (cycL p s).length ≤ s := by
  have := List.length_filter_le (fun i => decide (lo p i = i)) (List.range s)
  simpa [cycL] using this

/-- Seen: in a cycle whose least number is below s, or among the first m steps from s. -/
def snB (p : List Int) (s m j : Nat) : Bool := decide (j < p.length) && (decide (lo p j < s) || (List.range m).any (fun k => it p k s == j))

theorem snB_true {s m j : Nat} : snB p s m j = true ↔ j < p.length ∧ (lo p j < s ∨ ∃ k, k < m ∧ it p k s = j) := by
  simp [snB]

theorem bool_ext {a b : Bool} (h : a = true ↔ b = true) : a = b := by cases a <;> cases b <;> simp_all

theorem snB_step {s m i : Nat} (hi : i < p.length) (e : it p m s = i) (j : Nat) : (if j = i then Value.bool true else Value.bool (snB p s m j)) = Value.bool (snB p s (m + 1) j) := by
  by_cases h : j = i
  · rw [if_pos h]
    have : snB p s (m + 1) j = true := snB_true.2 ⟨by omega, .inr ⟨m, by omega, by rw [e, h]⟩⟩
    rw [this]
  · rw [if_neg h]
    congr 1
    apply bool_ext
    rw [snB_true, snB_true]
    constructor
    · rintro ⟨h1, h2 | ⟨k, hk, ek⟩⟩
      · exact ⟨h1, .inl h2⟩
      · exact ⟨h1, .inr ⟨k, by omega, ek⟩⟩
    · rintro ⟨h1, h2 | ⟨k, hk, ek⟩⟩
      · exact ⟨h1, .inl h2⟩
      · refine ⟨h1, .inr ⟨k, ?_, ek⟩⟩
        rcases Nat.lt_or_ge k m with hlt | hge
        · exact hlt
        · have : k = m := by omega
          subst this
          exact absurd (ek.symm.trans e) h

theorem snB_go (h : IsPerm p) {s m : Nat} (hs : s < p.length) (hl : lo p s = s) (hm : m < per p s) : snB p s m (it p m s) = false := by
  rw [Bool.eq_false_iff]
  intro e
  rcases (snB_true.1 e).2 with h1 | ⟨k, hk, ek⟩
  · rw [lo_it h hs] at h1
    omega
  · exact it_ne h hs hk hm ek
theorem snB_stop (h : IsPerm p) {s : Nat} (hs : s < p.length) : snB p s (per p s) (it p (per p s) s) = true := by
  have h1 := per_spec h hs
  exact snB_true.2 ⟨by rw [h1.2.2.1]; exact hs, .inr ⟨0, by omega, by rw [h1.2.2.1]; rfl⟩⟩
theorem snB_end (h : IsPerm p) {s : Nat} (hs : s < p.length) (hl : lo p s = s) (j : Nat) : snB p s (per p s) j = snB p (s + 1) 0 j := by
  apply bool_ext
  rw [snB_true, snB_true]
  constructor
  · rintro ⟨h1, h2 | ⟨k, hk, rfl⟩⟩
    · exact ⟨h1, .inl (by omega)⟩
    · exact ⟨h1, .inl (by rw [lo_it h hs]; omega)⟩
  · rintro ⟨h1, h2 | ⟨k, hk, _⟩⟩
    · rcases Nat.lt_or_ge (lo p j) s with hlt | hge
      · exact ⟨h1, .inl hlt⟩
      · obtain ⟨_, _, k, hk, ek⟩ := lo_eq h h1 (show lo p j = s by omega)
        exact ⟨h1, .inr ⟨k, hk, ek⟩⟩
    · omega
theorem snB_skip (h : IsPerm p) {s : Nat} (hl : lo p s ≠ s) (j : Nat) : snB p s 0 j = snB p (s + 1) 0 j := by
  apply bool_ext
  rw [snB_true, snB_true]
  constructor
  · rintro ⟨h1, h2 | ⟨k, hk, _⟩⟩
    · exact ⟨h1, .inl (by omega)⟩
    · omega
  · rintro ⟨h1, h2 | ⟨k, hk, _⟩⟩
    · refine ⟨h1, .inl ?_⟩
      rcases Nat.lt_or_ge (lo p j) s with hlt | hge
      · exact hlt
      · exact absurd (lo_eq h h1 (show lo p j = s by omega)).2.1 hl
    · omega
theorem snB_seen (h : IsPerm p) {s : Nat} (hs : s < p.length) (hl : lo p s ≠ s) : snB p s 0 s = true :=
  snB_true.2 ⟨hs, .inl (by have := lo_le h hs 0; simp only [it] at this; omega)⟩
theorem snB_zero (j : Nat) : snB p 0 0 j = false := by
  rw [Bool.eq_false_iff]
  intro e
  rcases (snB_true.1 e).2 with h1 | ⟨k, hk, _⟩ <;> omega

end
end Go.Proofs.Ytbcjfiobggggjaa

/-
  perm.cycleLengths: the lengths of all cycles, by their least numbers.
-/
namespace Go.Proofs.Ytbcjfiobggggjaa
open Go.RowKit

theorem seen0 (w : World) (p : List Int) : (w.alloc (Obj.cells #[Value.bool false, Value.bool false, Value.bool false, Value.bool false, Value.bool false, Value.bool false,
      Value.bool false, Value.bool false, Value.bool false, Value.bool false] 93)).rowIs w.heap.size 93 10 (fun j => .bool (snB p 0 0 j)) := by
  refine World.rowIs_alloc w _ _ _ fun i hi => ?_
  simp only [snB_zero]
  match i, hi with
  | 0, _ | 1, _ | 2, _ | 3, _ | 4, _ | 5, _ | 6, _ | 7, _ | 8, _ | 9, _ => rfl

theorem rowIs_below {w w' : World} {B b t n : Nat} {f : Nat → Value} (h : w.rowIs b t n f) (hb : Below B w w') (hlt : b < B) : w'.rowIs b t n f := h.of_block (hb.block b hlt)

set_option maxHeartbeats 1600000 in
theorem cycleLengths_any (A : Option Addr) (n c : Nat) (p : List Int) (w : World) (h : Ints w A n p) (hp : IsPerm p) (hn : n ≤ 10) :
    Calls Try.prog 105 #[.slice A n c] w (RetOwn w (cycL p n)) := by
  have HP := hid hp
  have HL := hid h.len
  clear hp
  go_enter Try.func105, Try.ntmps105
  go_wp2
  go_loopg [3, 10] n (fun g v s wr => ∃ k : Nat, k ≤ n ∧ n - k ≤ g ∧ s = .int .i64 k ∧ OwnInts wr (w.heap.size + 1) v (cycL p k) ∧ wr.rowIs w.heap.size 93 10 (fun j => .bool (snB p k 0 j)) ∧ Below w.heap.size w wr ∧ w.heap.size < wr.heap.size)
  case atStart => exact ⟨0, Nat.zero_le _, by omega, rfl, OwnInts.nil _ _, seen0 w p, (Below.refl _ _).alloc (Nat.le_refl _) _, by simp⟩
  case round =>
    obtain ⟨k, hk, hg, rfl, hown, hrow, hbel, hsz⟩ := hrel
    have HO := hid hown
    have HR := hid hrow
    have HB := hid hbel
    clear hown hrow hbel
    by_cases hlt : k < n
    · obtain ⟨b, o, rfl, hb, hc⟩ := h.row (by omega)
      have HC := hid hc
      clear hc h
      by_cases hl : lo p k = k
      · have HLO := hid hl
        clear hl
        have HPS := hid (per_spec HP.out (show k < p.length by rw [HL.out]; exact hlt))
        go_wp2
        go_loopg [6, 7] (per p k) (fun g u v wq => ∃ m : Nat, m ≤ per p k ∧ per p k - m ≤ g ∧ u = .int .i64 m ∧ v = .int .i64 (it p m k) ∧ OwnInts wq (w.heap.size + 1) u3 (cycL p k) ∧ wq.rowIs w.heap.size 93 10 (fun j => .bool (snB p k m j)) ∧ Below w.heap.size w wq ∧ w.heap.size < wq.heap.size)
        case atStart => exact ⟨0, Nat.zero_le _, by omega, rfl, rfl, HO.out, HR.out, HB.out, hsz⟩
        case round =>
          obtain ⟨m, hm, hgm, rfl, rfl, hownq, hrowq, hbelq, hszq⟩ := hrel
          have HOq := hid hownq
          have HRq := hid hrowq
          have HBq := hid hbelq
          clear hownq hrowq hbelq HO HR HB
          have hkl : k < p.length := by rw [HL.out]; exact hlt
          have hi := it_lt HP.out hkl m
          have hpn := HPS.out.2.1
          have hp1 := HPS.out.1
          rw [HL.out] at hi hpn
          have hrd : p.getD (it p m k) 0 = ((it p (m + 1) k : Nat) : Int) := by
            have := HP.out.range (getD_mem (show it p m k < p.length by rw [HL.out]; exact hi))
            show _ = ((nx p (it p m k) : Nat) : Int)
            unfold nx
            omega
          have g1 : wr.cell? ⟨b, o + it p m k, none⟩ = some (.int .i64 ((it p (m + 1) k : Nat) : Int)) := by
            rw [← hrd]
            exact (HBq.out.cell (p := ⟨b, o + it p m k, none⟩) hb).trans (HC.out _ hi)
          have g2 : wr.cell? ⟨w.heap.size, it p m k, none⟩ = some (.bool (snB p k m (it p m k))) := HRq.out.cell (by omega)
          have g3 : wr.frozen? ⟨w.heap.size, it p m k, none⟩ = false := HRq.out.frozen _
          clear hrd
          by_cases hmp : m < per p k
          · rw [snB_go HP.out hkl HLO.out hmp] at g2
            go_wp2
            go_roundg (per p k - (m + 1))
            case measure => omega
            case rel =>
              exact ⟨m + 1, by omega, by omega, by go_num, rfl, ownsRow_setCell_below HOq.out (by exact Nat.lt_succ_self _) _,
                (HRq.out.set (it p m k) (.bool true)).congr (fun j _ => snB_step (by rw [HL.out]; exact hi) rfl j), HBq.out.setCell (Nat.le_refl _) _, by simpa [World.setCell] using hszq⟩
          · have hme : m = per p k := by omega
            subst hme
            rw [snB_stop HP.out hkl] at g2
            have hpos : decide (0 < ((per p k : Nat) : Int)) = true := by simp; omega
            have hpos' : (0 : Int) < ((per p k : Nat) : Int) := by omega
            have HLC : Hid ((cycL p k).length ≤ 10) := Nat.le_trans (length_cycL_le p k) (by omega)
            go_wp2_with (at_builtin; refine wpList_app1 _ rfl (.tmp 28) (.tmp 30) rfl (w.heap.size + 1) _ (cycL p k) (per p k : Nat) rfl rfl HOq.out (Nat.le_trans HLC.out (by omega)) hszq ?_)
            intro v' w1 hown1 hgrow1 hbel1
            have HO1 := hid hown1
            have HB1 := hid hbel1
            clear hown1 hbel1 hgrow1
            go_wp2
            go_roundg (n - (k + 1))
            case measure => omega
            case rel =>
              exact ⟨k + 1, by omega, by omega, by go_num, by rw [cycL_yes HLO.out]; exact HO1.out,
                (rowIs_below HRq.out HB1.out (Nat.lt_succ_self _)).congr (fun j _ => by rw [snB_end HP.out hkl HLO.out]), HBq.out.trans (HB1.out.mono (Nat.le_succ _)), Nat.lt_of_lt_of_le hszq HB1.out.size⟩
      · have hkl : k < p.length := by rw [HL.out]; exact hlt
        have g2 : wr.cell? ⟨w.heap.size, k, none⟩ = some (.bool (snB p k 0 k)) := HR.out.cell (by omega)
        rw [snB_seen HP.out hkl hl] at g2
        have HLO := hid hl
        clear hl
        go_wp2
        go_loopg [6, 7] 0 (fun g u v wq => u = .int .i64 0 ∧ v = .int .i64 k ∧ wr = wq)
        case atStart => exact ⟨rfl, rfl, rfl⟩
        case round =>
          obtain ⟨rfl, rfl, rfl⟩ := hrel
          go_wp2
          go_roundg (n - (k + 1))
          case measure => omega
          case rel => exact ⟨k + 1, by omega, by omega, by go_num, by rw [cycL_no HLO.out]; exact HO.out, HR.out.congr (fun j _ => by rw [snB_skip HP.out HLO.out]), HB.out, hsz⟩
    · have hkn : k = n := by omega
      subst hkn
      go_wp2
      go_ret
      exact ⟨_, rfl, HO.out.mono (Nat.le_succ _), HB.out⟩

end Go.Proofs.Ytbcjfiobggggjaa

/-
  perm.greatestCommonDivisor, perm.leastCommonMultiple, perm.Order.
-/
namespace Go.Proofs.Ytbcjfiobggggjaa
open Go.RowKit

theorem lcm_div (a b : Nat) : a / Nat.gcd a b * b = Nat.lcm a b := by
  rw [Nat.lcm]
  exact Nat.div_mul_right_comm (Nat.gcd_dvd_left a b) b

/-- The least common multiple of all of them. -/
def ordL (l : List Int) : Nat := l.foldl (fun a x => Nat.lcm a x.toNat) 1

def RetOrder (w : World) (r : Int) (er : Int) (e : Ending) (w' : World) : Prop := e = .returned (.tuple #[.int .i64 r, .int .i64 er]) ∧ Below w.heap.size w w'

theorem ordL_snoc (l : List Int) (x : Int) : ordL (l ++ [x]) = Nat.lcm (ordL l) x.toNat := by simp [ordL, List.foldl_append]
theorem ordL_take_bound {l : List Int} (hl : ∀ x, x ∈ l → 1 ≤ x ∧ x ≤ 10) : ∀ k, k ≤ l.length → 1 ≤ ordL (l.take k) ∧ ordL (l.take k) ≤ 10 ^ k
  | 0, _ => by simp [ordL]
  | k + 1, hk => by
    have ih := ordL_take_bound hl k (by omega)
    have hx := hl _ (getD_mem (show k < l.length by omega))
    rw [take_snoc (by omega), ordL_snoc]
    refine ⟨Nat.lcm_pos (by omega) (by omega), ?_⟩
    refine Nat.le_trans (Nat.div_le_self _ _) ?_
    rw [Nat.pow_succ]
    exact Nat.mul_le_mul ih.2 (by omega)
theorem mem_cycL {p : List Int} (hp : IsPerm p) {x : Int} (hx : x ∈ cycL p p.length) : 1 ≤ x ∧ x ≤ p.length := by
  obtain ⟨i, hi, rfl⟩ := List.mem_map.1 hx
  have h := per_spec hp (List.mem_range.1 (List.mem_filter.1 hi).1)
  omega

end Go.Proofs.Ytbcjfiobggggjaa

/-
  castkeep.perms: the closed look at three numbers, turned.
-/
namespace Go.Proofs.Ytbcjfiobggggjaa
open Go.RowKit

end Go.Proofs.Ytbcjfiobggggjaa

/-
  Several slices known at once; what a law over permutations takes and gives.
-/
namespace Go.Proofs.Ytbcjfiobggggjaa
open Go.RowKit

theorem permErr_of {p : List Int} (h : IsPerm p) (hl : p.length ≤ 10) : permErr p = 0 := permErr_ok.2 ⟨hl, h⟩

/-- A permutation of m numbers comes back, in new memory. -/
def RetPerm (w : World) (m : Nat) (e : Ending) (w' : World) : Prop := ∃ A c p, e = .returned (.slice A m c) ∧ IsPerm p ∧ Ints w' A m p ∧ Cap m c ∧ Below w.heap.size w w'

theorem permOf_perm (A : Option Addr) (n c m : Nat) (xs : List Int) (w : World) (h : Ints w A n xs) (hc : n ≤ c) (hm : m ≤ n) (hm2 : m ≤ 10) :
    Calls Try.prog 55 #[.slice A n c, .int .i64 (m : Int)] w (RetPerm w m) := by
  refine (permOf_any A n c m xs w h hc (by omega) m (by omega)).mono ?_
  rintro e w' ⟨v, rfl, hown, hb⟩
  obtain ⟨A', c', rfl, hI, hcap⟩ := hown.ints
  have hl : (dealt (lotsOf (xs.take m))).length = m := by rw [length_dealt, length_lotsOf, List.length_take, h.len]; omega
  rw [hl] at hI hcap ⊢
  exact ⟨A', c', _, rfl, isPerm_dealt (isLots_lotsOf _), hI, hcap, hb⟩

/-- PermOf(x, api.MaxPerm). -/
theorem permOf_ten (A : Option Addr) (n c m : Nat) (xs : List Int) (w : World) (h : Ints w A n xs) (hc : n ≤ c) (hm : m = min n 10) :
    Calls Try.prog 55 #[.slice A n c, .int .i64 10] w (RetPerm w m) := by
  refine (permOf_any A n c m xs w h hc (by omega) 10 (by omega)).mono ?_
  rintro e w' ⟨v, rfl, hown, hb⟩
  obtain ⟨A', c', rfl, hI, hcap⟩ := hown.ints
  have hl : (dealt (lotsOf (xs.take m))).length = m := by rw [length_dealt, length_lotsOf, List.length_take, h.len]; omega
  rw [hl] at hI hcap ⊢
  exact ⟨A', c', _, rfl, isPerm_dealt (isLots_lotsOf _), hI, hcap, hb⟩

/-- A list of n numbers comes back with OK. -/
def RetP (w : World) (n : Nat) (ys : List Int) (e : Ending) (w' : World) : Prop := ∃ A c, e = .returned (.tuple #[.slice A n c, .int .i64 0]) ∧ Ints w' A n ys ∧ Cap n c ∧ Below w.heap.size w w'

theorem times_perm (A : Option Addr) (n c : Nat) (B : Option Addr) (d : Nat) (a b : List Int) (w : World) (hA : Ints w A n a) (hB : Ints w B n b) (ha : IsPerm a) (hb : IsPerm b) (hn : n ≤ 10) :
    Calls Try.prog 24 #[.slice A n c, .slice B n d] w (RetP w n (times a b)) := by
  refine (times_ok A n c B d a b w hA hB (permErr_of ha (by rw [hA.len]; exact hn)) (permErr_of hb (by rw [hB.len]; exact hn))).mono ?_
  rintro e w' ⟨A', n', c', rfl, hbel, hI, hcap⟩
  have : n' = n := by rw [← hI.len, length_times, hB.len]
  subst this
  exact ⟨A', c', rfl, hI, hcap, hbel⟩

def RetPInv (w : World) (n : Nat) (p : List Int) (e : Ending) (w' : World) : Prop := ∃ q, IsInv p q ∧ RetP w n q e w'

theorem inverse_perm (A : Option Addr) (n c : Nat) (p : List Int) (w : World) (hA : Ints w A n p) (hp : IsPerm p) (hn : n ≤ 10) :
    Calls Try.prog 25 #[.slice A n c] w (RetPInv w n p) := by
  refine (inverse_ok A n c p w hA (permErr_of hp (by rw [hA.len]; exact hn))).mono ?_
  rintro e w' ⟨q, hq, A', n', c', rfl, hbel, hI, hcap⟩
  have : n' = n := by rw [← hI.len, hq.1, hA.len]
  subst this
  exact ⟨q, hq, A', c', rfl, hI, hcap, hbel⟩

/-! The same contracts, the world told by 'Below' alone. -/
end Go.Proofs.Ytbcjfiobggggjaa

/-
  Plain facts on inversions and the sign of a list of numbers.
-/
namespace Go.Proofs.Ytbcjfiobggggjaa

/-- 1 or -1, by parity. -/
def sg (k : Nat) : Int := if k % 2 = 0 then 1 else -1
theorem sg_succ (k : Nat) : sg (k + 1) = - sg k := by unfold sg; split <;> split <;> omega
theorem sg_bd (k : Nat) : -1 ≤ sg k ∧ sg k ≤ 1 ∧ sg k ≠ 0 := by unfold sg; split <;> omega
theorem sg_add (a b : Nat) : sg (a + b) = sg a * sg b := by unfold sg; split <;> split <;> split <;> omega
theorem sg_sq (a : Nat) : sg a * sg a = 1 := by unfold sg; split <;> rfl

/-- How many pairs: the greater one ahead. -/
def inv : List Int → Nat
  | [] => 0
  | x :: t => t.countP (fun y => decide (y < x)) + inv t
def sgn (p : List Int) : Int := sg (inv p)

/-- The pairs whose first place is below i. -/
def invUpto (p : List Int) : Nat → Nat
  | 0 => 0
  | i + 1 => invUpto p i + (p.drop (i + 1)).countP (fun y => decide (y < p.getD i 0))

theorem drop_cons {p : List Int} {i : Nat} (h : i < p.length) : p.drop i = p.getD i 0 :: p.drop (i + 1) := by
  rw [List.drop_eq_getElem_cons h, List.getD_eq_getElem?_getD, List.getElem?_eq_getElem h]
  rfl
theorem inv_upto (p : List Int) : ∀ i, i ≤ p.length → inv p = invUpto p i + inv (p.drop i)
  | 0, _ => by simp [invUpto]
  | i + 1, h => by
    rw [inv_upto p i (by omega), drop_cons (show i < p.length by omega)]
    simp only [inv, invUpto]
    omega
theorem inv_all (p : List Int) : inv p = invUpto p p.length := by
  have h := inv_upto p p.length (Nat.le_refl _)
  rw [List.drop_length] at h
  simpa [inv] using h

/-! ### The sign of a product -/

theorem inv_swap (x y : Int) (l : List Int) (h : x < y) : inv (y :: x :: l) = inv (x :: y :: l) + 1 := by
  have h1 : ¬ y < x := by omega
  simp only [inv, List.countP_cons, h, h1, decide_true, decide_false, if_true]
  simp
  omega
theorem sgn_swap {x y : Int} (l : List Int) (h : x ≠ y) : sgn (y :: x :: l) = - sgn (x :: y :: l) := by
  unfold sgn
  rcases Int.lt_or_gt_of_ne h with hlt | hgt
  · rw [inv_swap x y l hlt, sg_succ]
  · rw [inv_swap y x l hgt, sg_succ, Int.neg_neg]
theorem sgn_cons (x : Int) (l : List Int) : sgn (x :: l) = sg (l.countP (fun y => decide (y < x))) * sgn l := by
  unfold sgn
  rw [← sg_add]
  rfl
theorem sgn_bd (l : List Int) : sgn l = 1 ∨ sgn l = -1 := by have := sg_bd (inv l); unfold sgn; omega
theorem sgn_sq (l : List Int) : sgn l * sgn l = 1 := sg_sq _

theorem mul_four (a b c d : Int) : a * b * (c * d) = a * c * (b * d) := by
  rw [Int.mul_assoc, Int.mul_assoc, ← Int.mul_assoc b, ← Int.mul_assoc c, Int.mul_comm b c]

/-- Under any renaming that keeps numbers apart, lists of the same numbers have the same 'sign times sign of the renamed list'. -/
theorem sgn_map {f : Int → Int} {l l' : List Int} (h : l.Perm l') : l.Nodup → (∀ x, x ∈ l → ∀ y, y ∈ l → f x = f y → x = y) → sgn (l.map f) * sgn l = sgn (l'.map f) * sgn l' := by
  induction h with
  | nil => intros; rfl
  | cons x h ih =>
    rename_i l1 l2
    intro hn hf
    have hn' := List.nodup_cons.1 hn
    have ih' := ih hn'.2 (fun a ha b hb => hf a (by simp [ha]) b (by simp [hb]))
    have e1 : (l1.map f).countP (fun y => decide (y < f x)) = (l2.map f).countP (fun y => decide (y < f x)) := (h.map f).countP_eq _
    have e2 : l1.countP (fun y => decide (y < x)) = l2.countP (fun y => decide (y < x)) := h.countP_eq _
    simp only [List.map_cons, sgn_cons]
    rw [e1, e2, mul_four, ih', ← mul_four]
  | swap x y l =>
    intro hn hf
    have hxy : x ≠ y := by
      intro e
      subst e
      simp at hn
    have hfxy : f x ≠ f y := fun e => hxy (hf x (by simp) y (by simp) e)
    simp only [List.map_cons]
    rw [sgn_swap _ hxy, sgn_swap _ hfxy, Int.neg_mul_neg]
  | trans h1 h2 ih1 ih2 =>
    intro hn hf
    rw [ih1 hn hf]
    exact ih2 (h1.nodup_iff.1 hn) (fun a ha b hb => hf a (h1.mem_iff.2 ha) b (h1.mem_iff.2 hb))

theorem countP_zero_of {l : List Int} {x : Int} (h : ∀ y, y ∈ l → x ≤ y) : l.countP (fun y => decide (y < x)) = 0 := by
  rw [List.countP_eq_zero]
  intro y hy
  have := h y hy
  simp
  omega
theorem inv_sorted : ∀ {l : List Int}, l.Pairwise (· ≤ ·) → inv l = 0
  | [], _ => rfl
  | x :: t, h => by
    have h' := List.pairwise_cons.1 h
    simp only [inv]
    rw [countP_zero_of h'.1, inv_sorted h'.2]
theorem pairwise_iota (n : Nat) : (iota n).Pairwise (· ≤ ·) := by
  unfold iota
  rw [List.pairwise_map]
  exact List.pairwise_lt_range.imp (fun h => by omega)
theorem sgn_iota (n : Nat) : sgn (iota n) = 1 := by unfold sgn; rw [inv_sorted (pairwise_iota n)]; rfl

theorem map_iota (a : List Int) : (iota a.length).map (fun v => a.getD v.toNat 0) = a := by
  apply ext_getD (by simp [length_iota])
  intro j hj
  simp only [List.length_map, length_iota] at hj
  simp [iota, List.getD_eq_getElem?_getD, hj]

theorem sgn_times {a b : List Int} (ha : IsPerm a) (hb : IsPerm b) (hl : a.length = b.length) : sgn (times a b) = sgn a * sgn b := by
  have h := sgn_map (f := fun v => a.getD v.toNat 0) (l := b) (l' := iota b.length) hb hb.nodup (by
    intro x hx y hy e
    have h1 := hb.range hx
    have h2 := hb.range hy
    have hn := nodup_iff_getD.1 ha.nodup
    rcases Nat.lt_trichotomy x.toNat y.toNat with hlt | he | hgt
    · exact absurd e (hn _ _ hlt (by omega))
    · omega
    · exact absurd e.symm (hn _ _ hgt (by omega)))
  rw [← hl, map_iota, sgn_iota, Int.mul_one] at h
  have : sgn (times a b) * sgn b * sgn b = sgn a * sgn b := by rw [← h]; rfl
  rwa [Int.mul_assoc, sgn_sq, Int.mul_one] at this

theorem sgn_inv {a va : List Int} (h : IsInv a va) (ha : IsPerm a) : sgn va = sgn a := by
  have h1 := sgn_times ha (h.isPerm ha) h.1.symm
  rw [h.right ha, sgn_iota] at h1
  have h2 : sgn a * (sgn a * sgn va) = sgn a * 1 := by rw [← h1]
  rwa [← Int.mul_assoc, sgn_sq, Int.one_mul, Int.mul_one] at h2

/-! ### A change of two places -/

theorem sgn_move (x : Int) (m v : List Int) (h : x ∉ m) : sgn (x :: (m ++ v)) = sg m.length * sgn (m ++ x :: v) := by
  induction m with
  | nil => simp [sg]
  | cons y t ih =>
    have hxy : x ≠ y := fun e => h (by simp [e])
    have ht : x ∉ t := fun e => h (by simp [e])
    have e0 : (t ++ x :: v).countP (fun z => decide (z < y)) = (x :: (t ++ v)).countP (fun z => decide (z < y)) := by
      simp only [List.countP_append, List.countP_cons]
      omega
    have e1 : sgn (y :: x :: (t ++ v)) = sg t.length * sgn (y :: (t ++ x :: v)) := by
      rw [sgn_cons y, ih ht, sgn_cons y (t ++ x :: v), e0, ← Int.mul_assoc, ← Int.mul_assoc, Int.mul_comm (sg _) (sg t.length)]
    have e2 : sgn (x :: y :: (t ++ v)) = - sgn (y :: x :: (t ++ v)) := by rw [sgn_swap _ hxy, Int.neg_neg]
    show sgn (x :: y :: (t ++ v)) = sg (t.length + 1) * sgn (y :: (t ++ x :: v))
    rw [e2, e1, sg_succ, Int.neg_mul]

theorem sgn_front (u : List Int) {l l' : List Int} (h : l.Perm l') (s : Int) (e : sgn l = s * sgn l') : sgn (u ++ l) = s * sgn (u ++ l') := by
  induction u with
  | nil => exact e
  | cons x t ih =>
    show sgn (x :: (t ++ l)) = s * sgn (x :: (t ++ l'))
    have e0 : (t ++ l).countP (fun z => decide (z < x)) = (t ++ l').countP (fun z => decide (z < x)) := (h.append_left t).countP_eq _
    rw [sgn_cons, sgn_cons, ih, e0, ← Int.mul_assoc, ← Int.mul_assoc, Int.mul_comm s]

theorem sgn_exchange (u m v : List Int) (x y : Int) (hxy : x ≠ y) (hx : x ∉ m) (hy : y ∉ m) : sgn (u ++ y :: (m ++ x :: v)) = - sgn (u ++ x :: (m ++ y :: v)) := by
  have h1 : sgn (y :: (m ++ x :: v)) = sg m.length * sgn (m ++ y :: x :: v) := sgn_move y m (x :: v) hy
  have h2 : sgn (x :: (m ++ y :: v)) = sg m.length * sgn (m ++ x :: y :: v) := sgn_move x m (y :: v) hx
  have h3 : sgn (m ++ y :: x :: v) = -1 * sgn (m ++ x :: y :: v) := sgn_front m (List.Perm.swap x y v) (-1) (by rw [sgn_swap _ hxy]; omega)
  have h4 : sgn (y :: (m ++ x :: v)) = -1 * sgn (x :: (m ++ y :: v)) := by
    rw [h1, h2, h3, ← Int.mul_assoc, ← Int.mul_assoc, Int.mul_comm (sg _) (-1)]
  have hp : (y :: (m ++ x :: v)).Perm (x :: (m ++ y :: v)) :=
    (List.perm_middle (a := x) (l₁ := y :: m) (l₂ := v)).trans (List.Perm.cons x (List.perm_middle (a := y) (l₁ := m) (l₂ := v)).symm)
  have := sgn_front u hp (-1) h4
  omega

end Go.Proofs.Ytbcjfiobggggjaa

/-
  perm.Sign: the parity of the inversions.
-/
namespace Go.Proofs.Ytbcjfiobggggjaa
open Go.RowKit

theorem take_drop_snoc {p : List Int} {a m : Nat} (h : a + m < p.length) : (p.drop a).take (m + 1) = (p.drop a).take m ++ [p.getD (a + m) 0] := by
  rw [take_snoc (by rw [List.length_drop]; omega)]
  congr 1
  simp [List.getD_eq_getElem?_getD]

/-- The pairs counted after m rounds of the inner loop. -/
def cntUpto (p : List Int) (k m : Nat) : Nat := invUpto p k + ((p.drop (k + 1)).take m).countP (fun y => decide (y < p.getD k 0))
theorem cntUpto_yes {p : List Int} {k m : Nat} (h : k + 1 + m < p.length) (hlt : p.getD (k + 1 + m) 0 < p.getD k 0) : sg (cntUpto p k (m + 1)) = - sg (cntUpto p k m) := by
  unfold cntUpto
  rw [take_drop_snoc h, List.countP_append, ← Nat.add_assoc]
  simp only [List.countP_cons, List.countP_nil, hlt, decide_true, if_true, Nat.zero_add]
  exact sg_succ _
theorem cntUpto_no {p : List Int} {k m : Nat} (h : k + 1 + m < p.length) (hlt : ¬ p.getD (k + 1 + m) 0 < p.getD k 0) : cntUpto p k (m + 1) = cntUpto p k m := by
  unfold cntUpto
  rw [take_drop_snoc h, List.countP_append]
  simp only [List.countP_cons, List.countP_nil, hlt, decide_false, Nat.zero_add]
  simp
theorem cntUpto_end {p : List Int} {k m : Nat} (h : k + 1 + m = p.length) : cntUpto p k m = invUpto p (k + 1) := by
  unfold cntUpto
  rw [List.take_of_length_le (by rw [List.length_drop]; omega)]
  rfl

end Go.Proofs.Ytbcjfiobggggjaa

/-
  The sign behind a change of two places.
-/
namespace Go.Proofs.Ytbcjfiobggggjaa
open Go.RowKit

theorem swapAt_split (u m v : List Int) (x y : Int) : swapAt (u ++ x :: (m ++ y :: v)) u.length (u.length + 1 + m.length) = u ++ y :: (m ++ x :: v) := by
  have h1 : (u ++ x :: (m ++ y :: v)).getD u.length 0 = x := by simp [List.getD_eq_getElem?_getD]
  have h2 : (u ++ x :: (m ++ y :: v)).getD (u.length + 1 + m.length) 0 = y := by
    rw [List.getD_eq_getElem?_getD, List.getElem?_append_right (by omega), show u.length + 1 + m.length - u.length = m.length + 1 by omega]
    simp
  unfold swapAt
  rw [h1, h2, List.set_append_right _ _ (Nat.le_refl _), Nat.sub_self, List.set_cons_zero, List.set_append_right _ _ (by omega), show u.length + 1 + m.length - u.length = m.length + 1 by omega, List.set_cons_succ,
    List.set_append_right _ _ (Nat.le_refl _), Nat.sub_self, List.set_cons_zero]

theorem split_at {l : List Int} {i k : Nat} (hik : i < k) (hk : k < l.length) : l = l.take i ++ l.getD i 0 :: ((l.drop (i + 1)).take (k - i - 1) ++ l.getD k 0 :: l.drop (k + 1)) := by
  have h1 : l.drop (i + 1) = (l.drop (i + 1)).take (k - i - 1) ++ (l.drop (i + 1)).drop (k - i - 1) := (List.take_append_drop _ _).symm
  rw [List.drop_drop, show i + 1 + (k - i - 1) = k by omega, drop_cons hk] at h1
  rw [← h1, ← drop_cons (by omega)]
  exact (List.take_append_drop _ _).symm

theorem swapAt_comm {l : List Int} {i k : Nat} (hi : i < l.length) (hk : k < l.length) : swapAt l i k = swapAt l k i := by
  apply ext_getD (by rw [length_swapAt, length_swapAt])
  intro j _
  rw [getD_swapAt hi hk, getD_swapAt hk hi]
  by_cases h1 : j = k
  · by_cases h2 : j = i
    · rw [if_pos h1, if_pos h2, ← h1, ← h2]
    · rw [if_pos h1, if_neg h2, if_pos h1]
  · by_cases h2 : j = i
    · rw [if_neg h1, if_pos h2, if_pos h2]
    · rw [if_neg h1, if_neg h2, if_neg h2, if_neg h1]
theorem swapAt_self {l : List Int} {i : Nat} (hi : i < l.length) : swapAt l i i = l := by
  apply ext_getD (by rw [length_swapAt])
  intro j _
  rw [getD_swapAt hi hi]
  by_cases h1 : j = i
  · rw [if_pos h1, h1]
  · rw [if_neg h1, if_neg h1]

theorem sgn_swapAt_lt {l : List Int} {i k : Nat} (hn : l.Nodup) (hik : i < k) (hk : k < l.length) : sgn (swapAt l i k) = - sgn l := by
  have hs := split_at hik hk
  have hlu : (l.take i).length = i := by rw [List.length_take]; omega
  have hlm : ((l.drop (i + 1)).take (k - i - 1)).length = k - i - 1 := by rw [List.length_take, List.length_drop]; omega
  generalize l.take i = u at hs hlu
  generalize (l.drop (i + 1)).take (k - i - 1) = m at hs hlm
  generalize l.getD i 0 = x at hs
  generalize l.getD k 0 = y at hs
  generalize l.drop (k + 1) = v at hs
  subst hs
  have e : swapAt (u ++ x :: (m ++ y :: v)) i k = u ++ y :: (m ++ x :: v) := by
    have := swapAt_split u m v x y
    rwa [hlu, hlm, show i + 1 + (k - i - 1) = k by omega] at this
  rw [e]
  have h1 := (List.nodup_append.1 hn).2.1
  have h2 := List.nodup_cons.1 h1
  have h3 := List.nodup_append.1 h2.2
  refine sgn_exchange u m v x y (fun e => ?_) (fun e => ?_) (fun e => ?_)
  · exact h2.1 (by simp [e])
  · exact h2.1 (by simp [e])
  · exact h3.2.2 y e y (by simp) rfl
theorem sgn_swapAt {l : List Int} {i k : Nat} (hn : l.Nodup) (hi : i < l.length) (hk : k < l.length) (hne : i ≠ k) : sgn (swapAt l i k) = - sgn l := by
  rcases Nat.lt_or_gt_of_ne hne with h | h
  · exact sgn_swapAt_lt hn h hk
  · rw [swapAt_comm hi hk]
    exact sgn_swapAt_lt hn h hi

theorem sgn_short {l : List Int} (h : l.length < 2) : sgn l = 1 := by
  match l, h with
  | [], _ => rfl
  | [x], _ => rfl

end Go.Proofs.Ytbcjfiobggggjaa

/-
  Plain facts on insertion into a sorted list, by changes of neighbours.
-/
namespace Go.Proofs.Ytbcjfiobggggjaa

/-- The first i numbers stand in order. -/
def SortedTo (r : Int → Int → Prop) (zs : List Int) (i : Nat) : Prop := ∀ u v, u < v → v < i → r (zs.getD u 0) (zs.getD v 0)
/-- All up to place i stand in order, but for who stands at j: he may have to go further ahead. -/
def InsInv (r : Int → Int → Prop) (zs : List Int) (i j : Nat) : Prop := ∀ u v, u < v → v ≤ i → v ≠ j → r (zs.getD u 0) (zs.getD v 0)

theorem ins_start {r : Int → Int → Prop} {zs : List Int} {i : Nat} (h : SortedTo r zs i) : InsInv r zs i i := fun u v huv hv hne => h u v huv (by omega)

theorem ins_step {r : Int → Int → Prop} {zs : List Int} {i j : Nat} (h : InsInv r zs i (j + 1)) (hj : j + 1 ≤ i) (hi : i < zs.length) (hr : r (zs.getD (j + 1) 0) (zs.getD j 0)) : InsInv r (swapAt zs (j + 1) j) i j := by
  intro u v huv hv hne
  rw [getD_swapAt (by omega) (by omega), getD_swapAt (by omega) (by omega), if_neg hne]
  by_cases h1 : v = j + 1
  · subst h1
    rw [if_pos rfl]
    by_cases h2 : u = j
    · rw [if_pos h2]
      exact hr
    · rw [if_neg h2, if_neg (by omega)]
      exact h u j (by omega) (by omega) (by omega)
  · rw [if_neg h1]
    by_cases h2 : u = j
    · rw [if_pos h2]
      exact h (j + 1) v (by omega) hv h1
    · rw [if_neg h2]
      by_cases h3 : u = j + 1
      · rw [if_pos h3]
        exact h j v (by omega) hv h1
      · rw [if_neg h3]
        exact h u v huv hv h1

theorem ins_zero {r : Int → Int → Prop} {zs : List Int} {i : Nat} (h : InsInv r zs i 0) : SortedTo r zs (i + 1) := fun u v huv hv => h u v huv (by omega) (by omega)
theorem ins_done {r : Int → Int → Prop} (ht : ∀ a b c, r a b → r b c → r a c) {zs : List Int} {i j : Nat} (h : InsInv r zs i (j + 1)) (hr : r (zs.getD j 0) (zs.getD (j + 1) 0)) : SortedTo r zs (i + 1) := by
  intro u v huv hv
  by_cases h1 : v = j + 1
  · subst h1
    by_cases h2 : u = j
    · rw [h2]
      exact hr
    · exact ht _ _ _ (h u j (by omega) (by omega) (by omega)) hr
  · exact h u v huv (by omega) h1

theorem perm_swapAt_lt {l : List Int} {i k : Nat} (hik : i < k) (hk : k < l.length) : (swapAt l i k).Perm l := by
  have hs := split_at hik hk
  have hlu : (l.take i).length = i := by rw [List.length_take]; omega
  have hlm : ((l.drop (i + 1)).take (k - i - 1)).length = k - i - 1 := by rw [List.length_take, List.length_drop]; omega
  generalize l.take i = u at hs hlu
  generalize (l.drop (i + 1)).take (k - i - 1) = m at hs hlm
  generalize l.getD i 0 = x at hs
  generalize l.getD k 0 = y at hs
  generalize l.drop (k + 1) = v at hs
  subst hs
  have e : swapAt (u ++ x :: (m ++ y :: v)) i k = u ++ y :: (m ++ x :: v) := by
    have := swapAt_split u m v x y
    rwa [hlu, hlm, show i + 1 + (k - i - 1) = k by omega] at this
  rw [e]
  exact ((List.perm_middle (a := x) (l₁ := y :: m) (l₂ := v)).trans (List.Perm.cons x (List.perm_middle (a := y) (l₁ := m) (l₂ := v)).symm)).append_left u
theorem perm_swapAt {l : List Int} {i k : Nat} (hi : i < l.length) (hk : k < l.length) : (swapAt l i k).Perm l := by
  rcases Nat.lt_trichotomy i k with h | h | h
  · exact perm_swapAt_lt h hk
  · subst h
    rw [swapAt_self hi]
  · rw [swapAt_comm hi hk]
    exact perm_swapAt_lt h hi

/-- Two lists of the same numbers, both in order, are one. -/
theorem sorted_unique {r : Int → Int → Prop} (ha : ∀ a b, r a b → r b a → a = b) : ∀ {l l' : List Int}, l.Pairwise r → l'.Pairwise r → l.Perm l' → l = l'
  | [], l', _, _, h => by simpa using h.symm
  | x :: t, l', h1, h2, h => by
    have hx : x ∈ l' := h.mem_iff.1 (by simp)
    match l', h2, h, hx with
    | y :: t', h2, h, hx =>
      have p1 := List.pairwise_cons.1 h1
      have p2 := List.pairwise_cons.1 h2
      have hxy : x = y := by
        rcases List.mem_cons.1 hx with e | e
        · exact e
        · have hy : y ∈ x :: t := h.mem_iff.2 (by simp)
          rcases List.mem_cons.1 hy with e' | e'
          · exact e'.symm
          · exact ha _ _ (p1.1 y e') (p2.1 x e)
      subst hxy
      rw [sorted_unique ha p1.2 p2.2 ((List.perm_cons x).1 h)]

theorem pairwise_of_sortedTo {r : Int → Int → Prop} {zs : List Int} (h : SortedTo r zs zs.length) : zs.Pairwise r := by
  rw [List.pairwise_iff_getElem]
  intro i j hi hj hij
  have := h i j hij hj
  simpa [List.getD_eq_getElem?_getD, List.getElem?_eq_getElem hi, List.getElem?_eq_getElem hj] using this

end Go.Proofs.Ytbcjfiobggggjaa

/-
  slices.SortFunc at []int with perm.Cycles's comparison, up to twelve numbers: in falling order.
-/
namespace Go.Proofs.Ytbcjfiobggggjaa
open Go.RowKit

set_option maxHeartbeats 400000 in
theorem cycles1_any (x y : Int) (w : World) : Calls Try.prog 107 #[.int .i64 x, .int .i64 y] w fun e w' => e = .returned (.int .i64 (cmpI y x)) ∧ w = w' := by
  go_enter Try.func107, Try.ntmps107
  go_wp2_with fail
  refine (compare_any y x _).mono ?_
  rintro e w' ⟨rfl, rfl⟩
  go_wp2
  go_ret
  exact ⟨rfl, rfl⟩

/-- The slice's numbers have been put in order; nothing else that was there has turned. -/
def RetSort (r : Int → Int → Prop) (w : World) (base g n cap : Nat) (xs : List Int) (e : Ending) (w' : World) : Prop :=
  e = .returned (.tuple #[]) ∧ ∃ ys, OwnInts w' base (.slice (some ⟨g, 0, none⟩) n cap) ys ∧ ys.Perm xs ∧ SortedTo r ys n ∧ w.grownBy w' (some g)

def falls (a b : Int) : Prop := b ≤ a

set_option maxHeartbeats 1600000 in
theorem insertionF_any (base g n cap : Nat) (xs : List Int) (w : World) (h : OwnInts w base (.slice (some ⟨g, 0, none⟩) n cap) xs) (hl : xs.length = n) (hn : n ≤ 1000000) (hn1 : 1 ≤ n) :
    Calls Try.prog 120 #[.slice (some ⟨g, 0, none⟩) n cap, .int .i64 0, .int .i64 n, .func (.func 107) #[] #[]] w (RetSort falls w base g n cap xs) := by
  go_enter Try.func120, Try.ntmps120
  go_wp2
  go_loopg [8] n (fun gh s wr => ∃ (i : Nat) (zs : List Int), i ≤ n ∧ 1 ≤ i ∧ n - i ≤ gh ∧ s = .int .i64 i ∧ OwnInts wr base (.slice (some ⟨g, 0, none⟩) n cap) zs ∧ zs.Perm xs ∧ SortedTo falls zs i ∧ w.grownBy wr (some g))
  case atStart => exact ⟨1, xs, hn1, Nat.le_refl _, by omega, rfl, h, List.Perm.refl _, fun u v huv hv => by omega, only_refl _ _⟩
  case round =>
    obtain ⟨i, zs, hi, hi1, hg, rfl, hown, hperm, hsort, hgrow⟩ := hrel
    have HO := hid hown
    have HP := hid hperm
    have HS := hid hsort
    have HG := hid hgrow
    clear hown hperm hsort hgrow h
    by_cases hlt : i < n
    · go_wp2
      go_loopg [9] i (fun gh s wr => ∃ (j : Nat) (ys : List Int), j ≤ i ∧ j ≤ gh ∧ s = .int .i64 j ∧ OwnInts wr base (.slice (some ⟨g, 0, none⟩) n cap) ys ∧ ys.Perm xs ∧ InsInv falls ys i j ∧ w.grownBy wr (some g))
      case atStart => exact ⟨i, zs, Nat.le_refl _, Nat.le_refl _, rfl, HO.out, HP.out, ins_start HS.out, HG.out⟩
      case round =>
        obtain ⟨j, ys, hj, hgj, rfl, hown, hperm, hins, hgrow⟩ := hrel
        have HO2 := hid hown
        have HP2 := hid hperm
        have HI2 := hid hins
        have HG2 := hid hgrow
        clear hown hperm hins hgrow HO HP HS HG
        have hly : ys.length = n := by rw [HP2.out.length_eq, hl]
        have HLY := hid hly
        by_cases hj0 : j = 0
        · subst hj0
          have hd : decide ((0 : Int) < 0) = false := by simp
          go_wp2_with fail
          go_quiet (fail)
          go_wp2
          go_roundg (n - (i + 1))
          case measure => omega
          case rel => exact ⟨i + 1, ys, by omega, by omega, by omega, by go_num, HO2.out.drewN _, HP2.out, ins_zero HI2.out, only_drewN HG2.out _⟩
        · obtain ⟨m, hjm⟩ : ∃ m, j = m + 1 := ⟨j - 1, by omega⟩
          have HJ := hid hjm
          have hmj : m < j := by omega
          have hpos : 0 < j := by omega
          have hd : decide (0 < j) = true := by simp; omega
          have hwr : IntKind.i64.wrap ((j : Int) - 1) = (m : Int) := by rw [IntWalk.i64_in _ (by omega)]; omega
          have hjN : (j : Int) < (n : Int) := by omega
          have hmN : (m : Int) < (n : Int) := by omega
          have hjn : j < n := by omega
          have hmn : m < n := by omega
          have hO : OwnInts wr base (.slice (some ⟨g, 0, none⟩) ys.length cap) ys := by rw [hly]; exact HO2.out
          have g1 : wr.cell? ⟨g, j, none⟩ = some (.int .i64 (ys.getD j 0)) := hO.cell (by omega)
          have g2 : wr.cell? ⟨g, m, none⟩ = some (.int .i64 (ys.getD m 0)) := hO.cell (by omega)
          have f1 : wr.frozen? ⟨g, j, none⟩ = false := hO.frozen j
          have f2 : wr.frozen? ⟨g, m, none⟩ = false := hO.frozen m
          have HSW : Hid (swapAt ys j m = (ys.set j (ys.getD m 0)).set m (ys.getD j 0)) := rfl
          clear hO hly hjm
          generalize hx : ys.getD j 0 = x at g1 HSW
          generalize hy : ys.getD m 0 = y at g2 HSW
          have HX := hid hx
          have HY := hid hy
          clear hx hy
          by_cases hyx : y < x
          · have hc : decide (cmpI y x < 0) = true := by rw [cmpI_neg]; simpa using hyx
            go_wp2_with fail
            go_quiet ((go_at_call 107; exact Calls.quiet_of_same (quiet_left (cycles1_any _ _ _))))
            go_wp2_with fail
            go_region
            go_wp2
            have hjm := HJ.out
            go_roundg m
            case measure => omega
            case rel =>
              refine ⟨m, swapAt ys j m, by omega, Nat.le_refl _, by go_num, ?_, (perm_swapAt (by rw [HLY.out]; exact hjn) (by rw [HLY.out]; exact hmn)).trans HP2.out, ?_, ?_⟩
              · rw [HSW.out]
                exact (((HO2.out.set HLY.out.symm j y).set (by rw [List.length_set]; exact HLY.out.symm) m x).drewN _)
              · have hI := HI2.out
                rw [hjm] at hI ⊢
                refine ins_step hI (by omega) (by rw [HLY.out]; exact hlt) ?_
                rw [← hjm, HX.out, HY.out]
                unfold falls
                omega
              · exact only_drewN (only_set (only_set HG2.out j _) m _) _
          · have hc : decide (cmpI y x < 0) = false := by rw [cmpI_neg]; simpa using hyx
            go_wp2_with fail
            go_quiet ((go_at_call 107; exact Calls.quiet_of_same (quiet_left (cycles1_any _ _ _))))
            go_wp2
            go_roundg (n - (i + 1))
            case measure => omega
            case rel =>
              refine ⟨i + 1, ys, by omega, by omega, by omega, by go_num, HO2.out.drewN _, HP2.out, ?_, only_drewN HG2.out _⟩
              have hI := HI2.out
              rw [HJ.out] at hI
              refine ins_done (fun a b c h1 h2 => by unfold falls at *; omega) hI ?_
              rw [← HJ.out, HX.out, HY.out]
              unfold falls
              omega
    · have hin : i = n := by omega
      subst hin
      go_wp2
      go_end0
      exact ⟨rfl, zs, HO.out, HP.out, HS.out, HG.out⟩

end Go.Proofs.Ytbcjfiobggggjaa

/-
  math/bits.Len at small numbers; slices.pdqsortCmpFunc, slices.SortFunc up to twelve numbers.
-/
namespace Go.Proofs.Ytbcjfiobggggjaa
open Go.RowKit

def SomeInt (w : World) (e : Ending) (w' : World) : Prop := ∃ r : Int, e = .returned (.int .i64 r) ∧ w = w'

set_option maxHeartbeats 1600000 in
set_option maxRecDepth 100000 in
theorem len64_small (x : Int) (w : World) (h0 : 0 ≤ x) (h1 : x ≤ 12) : Calls Try.prog 91 #[.int .u64 x] w (SomeInt w) := by
  have hx : x = 0 ∨ x = 1 ∨ x = 2 ∨ x = 3 ∨ x = 4 ∨ x = 5 ∨ x = 6 ∨ x = 7 ∨ x = 8 ∨ x = 9 ∨ x = 10 ∨ x = 11 ∨ x = 12 := by omega
  rcases hx with rfl | rfl | rfl | rfl | rfl | rfl | rfl | rfl | rfl | rfl | rfl | rfl | rfl
  all_goals
    clear h0 h1
    go_enter Try.func91, Try.ntmps91
    go_wp2
    go_ret
    exact ⟨_, rfl, rfl⟩

set_option maxHeartbeats 400000 in
theorem len_small (x : Int) (w : World) (h0 : 0 ≤ x) (h1 : x ≤ 12) : Calls Try.prog 61 #[.int .u64 x] w (SomeInt w) := by
  go_enter Try.func61, Try.ntmps61
  go_wp2_with fail
  refine (len64_small x _ h0 h1).mono ?_
  rintro e w' ⟨r, rfl, rfl⟩
  go_wp2
  go_ret
  exact ⟨_, rfl, rfl⟩

set_option maxHeartbeats 1600000 in
set_option maxRecDepth 100000 in
theorem pdqF_any (base g n cap : Nat) (xs : List Int) (r : Int) (w : World) (h : OwnInts w base (.slice (some ⟨g, 0, none⟩) n cap) xs) (hl : xs.length = n) (hn : n ≤ 12) (hn1 : 1 ≤ n) :
    Calls Try.prog 117 #[.slice (some ⟨g, 0, none⟩) n cap, .int .i64 0, .int .i64 n, .int .i64 r, .func (.func 107) #[] #[]] w (RetSort falls w base g n cap xs) := by
  go_enter Try.func117, Try.ntmps117
  go_wp2
  go_loopg [1, 2] 0 (fun _ s1 s2 wr => s1 = .int .i64 0 ∧ s2 = .int .i64 n ∧ w = wr)
  case atStart => exact ⟨rfl, rfl, rfl⟩
  case round =>
    obtain ⟨rfl, rfl, rfl⟩ := hrel
    go_wp2_with fail
    refine (insertionF_any base g n cap xs _ h hl (by omega) hn1).mono ?_
    rintro e w' ⟨rfl, hys⟩
    have HYS := hid hys
    clear hys
    go_wp2
    go_end0
    exact ⟨rfl, HYS.out⟩

/-- Nothing to put in order. -/
def RetNone (w : World) (e : Ending) (w' : World) : Prop := e = .returned (.tuple #[]) ∧ w = w'

set_option maxHeartbeats 400000 in
theorem insertionF_zero (A : Option Addr) (c : Nat) (f : Value) (w : World) :
    Calls Try.prog 120 #[.slice A 0 c, .int .i64 0, .int .i64 0, f] w (RetNone w) := by
  go_enter Try.func120, Try.ntmps120
  go_wp2
  go_loopg [8] 0 (fun _ s wr => s = .int .i64 1 ∧ w = wr)
  case atStart => exact ⟨rfl, rfl⟩
  case round =>
    obtain ⟨rfl, rfl⟩ := hrel
    go_wp2
    go_end0
    exact ⟨rfl, rfl⟩

set_option maxHeartbeats 1600000 in
set_option maxRecDepth 100000 in
theorem pdqF_zero (A : Option Addr) (c : Nat) (r : Int) (f : Value) (w : World) :
    Calls Try.prog 117 #[.slice A 0 c, .int .i64 0, .int .i64 0, .int .i64 r, f] w (RetNone w) := by
  go_enter Try.func117, Try.ntmps117
  go_wp2
  go_loopg [1, 2] 0 (fun _ s1 s2 wr => s1 = .int .i64 0 ∧ s2 = .int .i64 0 ∧ w = wr)
  case atStart => exact ⟨rfl, rfl, rfl⟩
  case round =>
    obtain ⟨rfl, rfl, rfl⟩ := hrel
    go_wp2_with fail
    refine (insertionF_zero A c f _).mono ?_
    rintro e w' ⟨rfl, rfl⟩
    go_wp2
    go_end0
    exact ⟨rfl, rfl⟩

/-- The slice's numbers have been put in order, in place. -/
def RetSorted (r : Int → Int → Prop) (w : World) (base : Nat) (v : Value) (xs : List Int) (e : Ending) (w' : World) : Prop :=
  e = .returned (.tuple #[]) ∧ ∃ ys, OwnInts w' base v ys ∧ ys.Perm xs ∧ SortedTo r ys ys.length ∧ w.grownBy w' v.ownBlock

set_option maxHeartbeats 800000 in
theorem sortFunc_any (base : Nat) (v : Value) (xs : List Int) (w : World) (h : OwnInts w base v xs) (hn : xs.length ≤ 12) :
    Calls Try.prog 106 #[v, .func (.func 107) #[] #[]] w (RetSorted falls w base v xs) := by
  by_cases h0 : xs.length = 0
  · obtain ⟨A, c, rfl, _, _⟩ := h.ints
    have HO := hid h
    clear h
    have hx : xs = [] := List.eq_nil_of_length_eq_zero h0
    subst hx
    go_enter Try.func106, Try.ntmps106
    go_wp2_with fail
    refine (len_small 0 _ (by omega) (by omega)).mono ?_
    rintro e w' ⟨r, rfl, rfl⟩
    go_wp2_with fail
    refine (pdqF_zero A c r _ _).mono ?_
    rintro e w' ⟨rfl, rfl⟩
    go_wp2
    go_end0
    exact ⟨rfl, [], HO.out, List.Perm.refl _, fun u v huv hv => by simp at hv, only_refl _ _⟩
  · obtain ⟨g, cap, rfl, hb, hg, hc⟩ := h.form (by omega)
    have HO := hid h
    clear h
    generalize hm : xs.length = m at *
    have HM := hid hm
    clear hm
    go_enter Try.func106, Try.ntmps106
    go_wp2_with fail
    refine (len_small m _ (by omega) (by omega)).mono ?_
    rintro e w' ⟨r, rfl, rfl⟩
    go_wp2_with fail
    refine (pdqF_any base g m cap xs r _ HO.out HM.out hn (by omega)).mono ?_
    rintro e w1 ⟨rfl, ys, hown, hperm, hsort, hgrow⟩
    have HY := hid (And.intro hown (And.intro hperm (And.intro hsort hgrow)))
    clear hown hperm hsort hgrow
    go_wp2
    go_end0
    refine ⟨rfl, ys, HY.out.1, HY.out.2.1, ?_, HY.out.2.2.2⟩
    rw [HY.out.2.1.length_eq, HM.out]
    exact HY.out.2.2.1

/-! ### perm.Cycles -/

/-- The lengths of the cycles, the greatest first. -/
def IsCycles (p : List Int) (ys : List Int) : Prop := ys.Perm (cycL p p.length) ∧ SortedTo falls ys ys.length

def RetCycles (w : World) (p : List Int) (e : Ending) (w' : World) : Prop := ∃ ys, IsCycles p ys ∧ RetInts w ys 0 e w'

theorem below_grown {B : Nat} {a w w' : World} {row : Option Nat} (h : Below B a w) (hg : w.grownBy w' row) (hB : B ≤ w.heap.size) (hr : ∀ k, row = some k → B ≤ k) : Below B a w' := h.grown hg hB hr

set_option maxHeartbeats 800000 in
theorem cycles_ok (A : Option Addr) (n c : Nat) (p : List Int) (w : World) (hA : Ints w A n p) (hp : permErr p = 0) :
    Calls Try.prog 76 #[.slice A n c] w (RetCycles w p) := by
  have hn10 : n ≤ 10 := by rw [← hA.len]; exact (permErr_ok.1 hp).1
  have HP := hid (permErr_ok.1 hp).2
  go_enter Try.func76, Try.ntmps76
  go_wp2_with fail
  refine (check_any A n c p _ hA (by omega)).mono ?_
  rintro e w1 ⟨rfl, hb1⟩
  have hA1 := hA.keep hb1
  have HB1 := hid hb1
  have HL := hid hA.len
  clear hA hb1
  go_wp2_with fail
  refine (cycleLengths_any A n c p _ hA1 HP.out hn10).mono ?_
  rintro e w2 ⟨v, rfl, hown, hb2⟩
  have HB2 := hid (HB1.out.trans (hb2.mono HB1.out.size))
  have HO := hid hown
  have hl10 := Nat.le_trans (length_cycL_le p n) hn10
  have HS1 := hid hb2.size
  clear hA1 hb2 hown
  go_wp2_with fail
  refine (sortFunc_any _ v _ _ HO.out (by omega)).mono ?_
  rintro e w3 ⟨rfl, ys, hown3, hperm, hsort, hgrow⟩
  have HB3 : Hid (Below w.heap.size w w3) := HB2.out.grown hgrow HB2.out.size (fun k hk => Nat.le_trans HB1.out.size (World.ownsRow.lt HO.out k hk).1)
  have HC : Hid (IsCycles p ys) := ⟨by rw [HL.out]; exact hperm, hsort⟩
  obtain ⟨A3, c3, hv3, hI3, hcap3⟩ := hown3.ints
  subst hv3
  have HI3 := hid hI3
  clear hown3 hperm hsort hgrow hI3
  go_wp2
  go_ret2
  exact ⟨ys, HC.out, _, _, _, rfl, HB3.out, HI3.out, hcap3⟩

end Go.Proofs.Ytbcjfiobggggjaa
