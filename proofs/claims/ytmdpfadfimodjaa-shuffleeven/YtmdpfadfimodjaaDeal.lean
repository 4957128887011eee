/-
  The verifier's helpers: castref.Rest, castkeep.Within, castref.Dealt, castkeep.PermOf: an order made of lots.
-/
import Derived.Test.YtmdpfadfimodjaaRst
import Derived.Test.YtmdpfadfimodjaaTimes
namespace Go.Proofs.Ytmdpfadfimodjaa
open Go.RowKit

def dealStep (p : List Int) (x : Int) : List Int := swapAt (p ++ [(p.length : Int)]) p.length x.toNat
def dealt (lots : List Int) : List Int := lots.foldl dealStep []

theorem length_dealStep (p : List Int) (x : Int) : (dealStep p x).length = p.length + 1 := by simp [dealStep, length_swapAt]

theorem mem_swapAt {l : List Int} {i j : Nat} (hi : i < l.length) (hj : j < l.length) {x : Int} (hx : x ∈ l) : x ∈ swapAt l i j := by
  obtain ⟨k, hk, rfl⟩ := mem_getD hx
  have hget : ∀ m, m < l.length → (swapAt l i j).getD m 0 ∈ swapAt l i j := fun m hm => getD_mem (by rw [length_swapAt]; exact hm)
  by_cases h1 : k = i
  · subst h1
    have := hget j hj
    rwa [getD_swapAt hi hj, if_pos rfl] at this
  · by_cases h2 : k = j
    · subst h2
      have := hget i hi
      rw [getD_swapAt hi hj] at this
      by_cases e : i = k
      · exact absurd e.symm h1
      · rwa [if_neg e, if_pos rfl] at this
    · have := hget k hk
      rwa [getD_swapAt hi hj, if_neg h2, if_neg h1] at this

theorem isPerm_swapAt {l : List Int} {i j : Nat} (h : IsPerm l) (hi : i < l.length) (hj : j < l.length) : IsPerm (swapAt l i j) :=
  isPerm_of_all fun k hk => mem_swapAt hi hj (h.all k (by rw [length_swapAt] at hk; exact hk))

theorem isPerm_snoc {p : List Int} (h : IsPerm p) : IsPerm (p ++ [(p.length : Int)]) :=
  isPerm_of_all fun k hk => by
    simp only [List.length_append, List.length_cons, List.length_nil] at hk
    by_cases e : k = p.length
    · simp [e]
    · exact List.mem_append.2 (.inl (h.all k (by omega)))

theorem isPerm_dealStep {p : List Int} {x : Int} (h : IsPerm p) (h1 : x ≤ p.length) : IsPerm (dealStep p x) :=
  isPerm_swapAt (isPerm_snoc h) (by simp) (by simp; omega)

theorem dealt_snoc (l : List Int) (x : Int) : dealt (l ++ [x]) = dealStep (dealt l) x := by simp [dealt, List.foldl_append]
theorem length_foldl_deal (l p : List Int) : (l.foldl dealStep p).length = p.length + l.length := by
  induction l generalizing p with
  | nil => simp
  | cons a t ih => rw [List.foldl_cons, ih, length_dealStep, List.length_cons]; omega
theorem length_dealt (l : List Int) : (dealt l).length = l.length := by rw [dealt, length_foldl_deal]; simp

/-- Lots: each from 0 to its place. -/
def IsLots (l : List Int) : Prop := ∀ i, i < l.length → 0 ≤ l.getD i 0 ∧ l.getD i 0 ≤ i

theorem isPerm_dealt_take {l : List Int} (h : IsLots l) : ∀ k, k ≤ l.length → IsPerm (dealt (l.take k))
  | 0, _ => isPerm_of_all fun i hi => by simp [dealt] at hi
  | k + 1, hk => by
    rw [take_snoc (by omega), dealt_snoc]
    refine isPerm_dealStep (isPerm_dealt_take h k (by omega)) ?_
    rw [length_dealt, List.length_take]
    have := h k (by omega)
    omega
theorem isPerm_dealt {l : List Int} (h : IsLots l) : IsPerm (dealt l) := by
  have := isPerm_dealt_take h l.length (Nat.le_refl _)
  rwa [List.take_of_length_le (Nat.le_refl _)] at this

/-! ### Rest, Within -/

/-! ### Dealt -/

set_option maxHeartbeats 800000 in
theorem dealt_any (A : Option Addr) (n c : Nat) (l : List Int) (w : World) (h : Ints w A n l) (hl : IsLots l) (hn : n ≤ 1000000) :
    Calls Try.prog 14 #[.slice A n c] w (RetOwn w (dealt l)) := by
  go_enter Try.func14, Try.ntmps14
  go_wp2
  go_loopg [3, 8] n (fun g v s wr => ∃ k : Nat, k ≤ n ∧ n - k ≤ g ∧ s = .int .i64 k ∧ OwnInts wr w.heap.size v (dealt (l.take k)) ∧ Below w.heap.size w wr)
  case atStart => exact ⟨0, Nat.zero_le _, by omega, rfl, OwnInts.nil _ _, Below.refl _ _⟩
  case round =>
    obtain ⟨k, hk, hg, rfl, hown, hbel⟩ := hrel
    have HO := hid hown
    have HB := hid hbel
    clear hown hbel
    by_cases hlt : k < n
    · obtain ⟨b, o, rfl, hb, hc⟩ := h.row (by omega)
      have HL := hid h.len
      have g1 : wr.cell? ⟨b, o + k, none⟩ = some (.int .i64 (l.getD k 0)) := (HB.out.cell (p := ⟨b, o + k, none⟩) hb).trans (hc k hlt)
      have hx := hl k (by rw [HL.out]; exact hlt)
      have HX : Hid (dealt (l.take (k + 1)) = dealStep (dealt (l.take k)) (l.getD k 0)) := by rw [take_snoc (by rw [HL.out]; exact hlt), dealt_snoc]; exact rfl
      have HD : Hid ((dealt (l.take k)).length = k) := by rw [length_dealt, List.length_take, HL.out]; exact Nat.min_eq_left hk
      clear hc h
      generalize l.getD k 0 = x at g1 hx HX
      obtain ⟨m, rfl⟩ := Int.eq_ofNat_of_zero_le hx.1
      have hm : m ≤ k := by omega
      clear hx
      generalize dealt (l.take k) = p at HO HD HX
      go_wp2_with (at_builtin; refine wpList_app1 _ rfl (.tmp 13) (.tmp 15) rfl w.heap.size _ p k rfl rfl HO.out (by rw [HD.out]; omega) HB.out.size ?_)
      intro v' w1 hown1 _ hbel1
      have HB1 := hid (HB.out.trans hbel1)
      have hlen : (p ++ [(k : Int)]).length = k + 1 := by simp [HD.out]
      obtain ⟨g', cap, hv, hgb, hglt, hcap⟩ := hown1.form (by omega)
      rw [hlen] at hv hcap
      subst hv
      have HS : Hid (dealStep p (m : Int) = ((p ++ [(k : Int)]).set k ((p ++ [(k : Int)]).getD m 0)).set m (k : Int)) := by
        have e : (p ++ [(k : Int)]).getD k 0 = (k : Int) := by simp [List.getD_eq_getElem?_getD, HD.out]
        have e2 : dealStep p (m : Int) = ((p ++ [(k : Int)]).set k ((p ++ [(k : Int)]).getD m 0)).set m ((p ++ [(k : Int)]).getD k 0) := by
          unfold dealStep swapAt
          rw [HD.out, Int.toNat_natCast]
        rw [e] at e2
        exact e2
      have gk1 : w1.cell? ⟨g', k, none⟩ = some (.int .i64 k) := by
        have h1 := (show OwnInts w1 w.heap.size (.slice (some ⟨g', 0, none⟩) (p ++ [(k : Int)]).length cap) (p ++ [(k : Int)]) by rw [hlen]; exact hown1).cell (j := k) (by omega)
        rw [h1]
        simp [List.getD_eq_getElem?_getD, HD.out]
      have gm1 : w1.cell? ⟨g', m, none⟩ = some (.int .i64 ((p ++ [(k : Int)]).getD m 0)) := (show OwnInts w1 w.heap.size (.slice (some ⟨g', 0, none⟩) (p ++ [(k : Int)]).length cap) (p ++ [(k : Int)]) by rw [hlen]; exact hown1).cell (j := m) (by omega)
      have fk1 : w1.frozen? ⟨g', k, none⟩ = false := (show OwnInts w1 w.heap.size (.slice (some ⟨g', 0, none⟩) (p ++ [(k : Int)]).length cap) (p ++ [(k : Int)]) by rw [hlen]; exact hown1).frozen k
      have fm1 : w1.frozen? ⟨g', m, none⟩ = false := (show OwnInts w1 w.heap.size (.slice (some ⟨g', 0, none⟩) (p ++ [(k : Int)]).length cap) (p ++ [(k : Int)]) by rw [hlen]; exact hown1).frozen m
      have HO1 := hid hown1
      have HLN := hid hlen
      clear hown1 hlen hbel1 HO HB
      generalize (p ++ [(k : Int)]).getD m 0 = y at gm1 HS
      by_cases hmk : m = k
      · subst hmk
        have hy : (m : Int) = y := by
          rw [gk1] at gm1
          injection gm1 with e
          injection e
        subst hy
        clear gm1 fm1
        go_wp2_with fail
        go_region
        go_wp2
        go_roundg (n - (m + 1))
        case measure => omega
        case rel => exact ⟨m + 1, by omega, by omega, by go_num, by rw [HX.out, HS.out]; exact ((HO1.out.set HLN.out.symm m m).set (by rw [List.length_set]; exact HLN.out.symm) m m).drew, ((HB1.out.setCell (by exact hgb) _).setCell (by exact hgb) _).drew⟩
      · have hlt2 : m < k := by omega
        go_wp2_with fail
        go_region
        go_wp2
        go_roundg (n - (k + 1))
        case measure => omega
        case rel => exact ⟨k + 1, by omega, by omega, by go_num, by rw [HX.out, HS.out]; exact ((HO1.out.set HLN.out.symm k y).set (by rw [List.length_set]; exact HLN.out.symm) m k).drew, ((HB1.out.setCell (by exact hgb) _).setCell (by exact hgb) _).drew⟩
    · have hkn : k = n := by omega
      subst hkn
      have HT : Hid (dealt (l.take k) = dealt l) := by rw [List.take_of_length_le (by rw [h.len]; exact Nat.le_refl _)]; exact rfl
      go_wp2
      go_ret
      exact ⟨_, rfl, by rw [← HT.out]; exact HO.out, HB.out⟩

/-! ### PermOf -/

/-- The lots that PermOf makes of any numbers. -/
def lotsOf (xs : List Int) : List Int := (List.range xs.length).map (fun i : Nat => xs.getD i 0 % ((i : Int) + 1))
theorem length_lotsOf (xs : List Int) : (lotsOf xs).length = xs.length := by simp [lotsOf]
theorem getD_lotsOf {xs : List Int} {i : Nat} (h : i < xs.length) : (lotsOf xs).getD i 0 = xs.getD i 0 % ((i : Int) + 1) := by
  simp [lotsOf, List.getD_eq_getElem?_getD, h]
theorem isLots_lotsOf (xs : List Int) : IsLots (lotsOf xs) := by
  intro i hi
  rw [length_lotsOf] at hi
  rw [getD_lotsOf hi]
  have h1 := Int.emod_nonneg (xs.getD i 0) (show ((i : Int) + 1) ≠ 0 by omega)
  have h2 := Int.emod_lt_of_pos (xs.getD i 0) (show 0 < ((i : Int) + 1) by omega)
  omega

set_option maxHeartbeats 800000 in
/-- PermOf(l, q): m is the lesser one of len(l) and q. -/
theorem permOf_any (A : Option Addr) (n c m : Nat) (xs : List Int) (w : World) (h : Ints w A n xs) (hc : n ≤ c) (hm2 : m ≤ 1000000) (q : Int) (hq : (m = n ∧ (n : Int) ≤ q) ∨ (m < n ∧ q = m)) :
    Calls Try.prog 20 #[.slice A n c, .int .i64 q] w (RetOwn w (dealt (lotsOf (xs.take m)))) := by
  have h' : Ints w A m (xs.take m) := h.take (by omega)
  have HH := hid h'
  clear h h'
  generalize xs.take m = ys at HH
  rcases hq with ⟨rfl, hq⟩ | ⟨hlt, rfl⟩
  all_goals
    go_enter Try.func20, Try.ntmps20
    go_wp2
    go_loopg [5, 15] m (fun g v s wr => ∃ k : Nat, k ≤ m ∧ m - k ≤ g ∧ s = .int .i64 k ∧ OwnInts wr w.heap.size v ((lotsOf ys).take k) ∧ Below w.heap.size w wr)
    case atStart => exact ⟨0, Nat.zero_le _, by omega, rfl, OwnInts.nil _ _, Below.refl _ _⟩
    case round =>
      obtain ⟨k, hk, hg, rfl, hown, hbel⟩ := hrel
      have HO := hid hown
      have HB := hid hbel
      clear hown hbel
      by_cases hlt : k < m
      · obtain ⟨b, o, rfl, hb, hcell⟩ := HH.out.row (by omega)
        have g1 : wr.cell? ⟨b, o + k, none⟩ = some (.int .i64 (ys.getD k 0)) := (HB.out.cell (p := ⟨b, o + k, none⟩) hb).trans (hcell k hlt)
        have HX : Hid ((lotsOf ys).take (k + 1) = (lotsOf ys).take k ++ [ys.getD k 0 % ((k : Int) + 1)]) := by
          rw [take_snoc (by rw [length_lotsOf, HH.out.len]; exact hlt), getD_lotsOf (by rw [HH.out.len]; exact hlt)]
          exact rfl
        have HD : Hid (((lotsOf ys).take k).length = k) := by rw [List.length_take, length_lotsOf, HH.out.len]; exact Nat.min_eq_left hk
        clear hcell
        generalize ys.getD k 0 = x at g1 HX
        generalize (lotsOf ys).take k = p at HO HD HX
        go_wp2_with (first
          | (go_at_call 23; refine (within_any x _ _ (by omega) (by omega)).mono ?_; rintro e w' ⟨rfl, rfl⟩)
          | (at_builtin; refine wpList_app1 _ rfl (.tmp 20) (.tmp 25) rfl w.heap.size _ p (x % ((k : Int) + 1)) rfl rfl HO.out (by rw [HD.out]; omega) HB.out.size ?_))
        intro v' w1 hown1 _ hbel1
        have HB1 := hid (HB.out.trans hbel1)
        have HO1 := hid hown1
        clear hown1 hbel1 HO HB
        go_wp2
        go_roundg (m - (k + 1))
        case measure => omega
        case rel => exact ⟨k + 1, by omega, by omega, by go_num, by rw [HX.out]; exact HO1.out, HB1.out⟩
      · have hkn : k = m := by omega
        subst hkn
        have HT : Hid ((lotsOf ys).take k = lotsOf ys) := List.take_of_length_le (by rw [length_lotsOf, HH.out.len]; exact Nat.le_refl _)
        rw [HT.out] at HO
        obtain ⟨A', c', rfl, hI, _⟩ := HO.out.ints
        rw [length_lotsOf, HH.out.len] at hI
        have HL : Hid ((lotsOf ys).length = k) := by rw [length_lotsOf]; exact HH.out.len
        rw [HL.out] at HO ⊢
        go_wp2_with fail
        refine (dealt_any A' k c' (lotsOf ys) _ hI (isLots_lotsOf ys) (by omega)).mono ?_
        rintro e w1 ⟨v1, rfl, hown1, hbel1⟩
        have HO1 := hid hown1
        have HB1 := hid hbel1
        clear hown1 hbel1
        go_wp2
        go_ret
        exact ⟨_, rfl, HO1.out.mono HB.out.size, HB.out.trans (HB1.out.mono HB.out.size)⟩

end Go.Proofs.Ytmdpfadfimodjaa
