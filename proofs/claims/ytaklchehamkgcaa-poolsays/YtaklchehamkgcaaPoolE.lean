/-
  castkeep.lotsOf up to thirty; slices.Compact where no two beside each other are alike.
-/
import Derived.Test.YtaklchehamkgcaaPoolC
import Derived.Test.YtaklchehamkgcaaGen
namespace Go.Proofs.Ytaklchehamkgcaa
open Go.RowKit

theorem run_minThirty {P : Program} (x m : Nat) (hm : m = min x 30) (ts : Array TypeId) (t : TypeId) (W : World) :
    (Builtin.min_ ts t #[.int .i64 (x : Int), .int .i64 30]).run P W = .ok (.int .i64 (m : Int)) W := by
  have e : (if (30 : Int) < (x : Int) then (30 : Int) else (x : Int)) = (m : Int) := by
    subst hm
    split <;> omega
  simp only [Builtin.min_, Builtin.min2, List.foldlM_cons, List.foldlM_nil, pure_bind]
  simp only [e]
  rfl

theorem take_lotsOfP {xs : List Int} {m k : Nat} (hk : k < m) (hm : m ≤ xs.length) : (lotsOf (xs.take m)).take (k + 1) = (lotsOf (xs.take m)).take k ++ [xs.getD k 0 % ((k : Int) + 1)] := by
  rw [take_snoc (by rw [length_lotsOf, List.length_take]; omega), getD_lotsOf (by rw [List.length_take]; omega)]
  congr 3
  rw [List.getD_eq_getElem?_getD, List.getD_eq_getElem?_getD, List.getElem?_take, if_pos hk]

theorem sizeIntP : ∀ w, (Go.sizeOf 3).run Try.prog w = .ok 1 w := by
  exact fun _ => by kernel_rfl
theorem map_addP (A : Option Addr) : A.map (·.add 0) = A := by
  cases A with
  | none => rfl
  | some a => simp [Addr.add]
theorem run_toP (A : Option Addr) (n c h : Nat) (H : Int) (hH : H = (h : Int)) (hh : h ≤ c) (W : World) :
    (Instr.slice 22 (.slice A n c) none (some (.int .i64 H)) none).run Try.prog W = .ok (.slice A h c) W := by
  subst hH
  have ht' : Try.prog.underlying 22 = some (.slice (Try.prog.elem 22)) := by simp [Program.elem, Try.underlying22]
  have he : Try.prog.elem 22 = 3 := by simp [Program.elem, Try.underlying22]
  rw [run_slice_h W _ _ _ _ ht' .i64 _ (by omega) (by omega), he, sizeIntP]
  simp [Result.andThen, sliced, map_addP]

set_option maxHeartbeats 1000000 in
theorem lotsOf30_any (A : Option Addr) (n c m : Nat) (xs : List Int) (w : World) (h : Ints w A n xs) (hc : Cap n c) (hm : m = min n 30) :
    Calls Try.prog 22 #[.slice A n c, .int .i64 30] w (RetOwn w (lotsOf (xs.take m))) := by
  have HL := hid h.len
  have HI := hid h
  have hmin := run_minThirty (P := Try.prog) n m hm
  have hto := run_toP A n c m (m : Int) rfl (by have := hc.1; omega)
  have hmn : m ≤ n := by omega
  have hm10 : m ≤ 30 := by omega
  clear h hm hc
  go_enter Try.func22, Try.ntmps22
  go_wp2
  go_loopg [5, 15] m (fun g v s wr => ∃ k : Nat, k ≤ m ∧ m - k ≤ g ∧ s = .int .i64 k ∧ OwnInts wr w.heap.size v ((lotsOf (xs.take m)).take k) ∧ Below w.heap.size w wr)
  case atStart => exact ⟨0, Nat.zero_le _, by omega, rfl, OwnInts.nil _ _, Below.refl _ _⟩
  case round =>
    obtain ⟨k, hk, hg, rfl, hown, hbel⟩ := hrel
    have HO := hid hown
    have HB := hid hbel
    clear hown hbel
    by_cases hlt : k < m
    · obtain ⟨b, o, rfl, hb, hcell⟩ := HI.out.row (by omega)
      have g1 : wr.cell? ⟨b, o + k, none⟩ = some (.int .i64 (xs.getD k 0)) := (HB.out.cell (p := ⟨b, o + k, none⟩) hb).trans (hcell k (by omega))
      have HX := hid (take_lotsOfP (xs := xs) hlt (by rw [HL.out]; exact hmn))
      have HD : Hid (((lotsOf (xs.take m)).take k).length = k) := by rw [List.length_take, length_lotsOf, List.length_take, HL.out]; exact hid (by omega)
      clear hcell
      generalize xs.getD k 0 = x at g1 HX
      generalize (lotsOf (xs.take m)).take k = p at HO HD HX
      go_wp2_with (first
        | (go_at_call 18; refine (within_any x _ _ (by omega) (by omega)).mono ?_; rintro e w' ⟨rfl, rfl⟩)
        | (at_builtin; refine wpList_app1 _ rfl (.tmp 20) (.tmp 25) rfl w.heap.size _ p (x % ((k : Int) + 1)) rfl rfl HO.out (by rw [HD.out]; omega) HB.out.size ?_))
      intro v' w1 hown1 _ hbel1
      have HB1 := hid (HB.out.trans hbel1)
      have HO1 := hid hown1
      clear hown1 hbel1 HO HB
      go_wp2
      go_roundg (m - (k + 1))
      case measure => omega
      case rel => exact ⟨k + 1, by omega, by omega, by go_num, by rw [HX.out]; exact HO1.out, HB1.out⟩
    · obtain rfl : k = m := by omega
      have HT : Hid ((lotsOf (xs.take k)).take k = lotsOf (xs.take k)) := List.take_of_length_le (by rw [length_lotsOf, List.length_take]; exact Nat.min_le_left _ _)
      rw [HT.out] at HO
      go_wp2
      go_ret
      exact ⟨_, rfl, HO.out, HB.out⟩

set_option maxHeartbeats 800000 in
theorem compact_apart (A : Option Addr) (n c : Nat) (xs : List Int) (w : World) (h : Ints w A n xs) (hd : xs.Nodup) (hn : n ≤ 1000000) :
    Calls Try.prog 25 #[.slice A n c] w fun e w' => e = .returned (.slice A n c) ∧ ∃ q, w' = w.drewN q := by
  by_cases h2 : n < 2
  · go_enter Try.func25, Try.ntmps25
    go_wp2
    go_ret
    exact ⟨rfl, 0, rfl⟩
  · obtain ⟨b, o, rfl, _, hc⟩ := h.row (by omega)
    have HD := hid (fun (k : Nat) (hk : k + 1 < n) => (nodup_iff_getD.1 hd) k (k + 1) (by omega) (by rw [h.len]; exact hk))
    have HC := hid hc
    clear h hd hc
    go_enter Try.func25, Try.ntmps25
    go_wp2
    go_loopg [3] n (fun g s wr => ∃ k q : Nat, 1 ≤ k ∧ k ≤ n ∧ n - k ≤ g ∧ s = .int .i64 k ∧ wr = w.drewN q)
    case atStart => exact ⟨1, 0, by omega, by omega, by omega, rfl, rfl⟩
    case round =>
      obtain ⟨k, q, hk1, hk, hg, rfl, rfl⟩ := hrel
      by_cases hlt : k < n
      · obtain ⟨m, rfl⟩ : ∃ m, k = m + 1 := ⟨k - 1, by omega⟩
        have g1 := HC.out (m + 1) hlt
        have g2 := HC.out m (by omega)
        have hwr : IntKind.i64.wrap (((m + 1 : Nat) : Int) - 1) = (m : Int) := by
          rw [IntWalk.i64_in _ (by omega)]; omega
        have hne : (xs.getD (m + 1) 0 == xs.getD m 0) = false := by
          have := HD.out m hlt
          simpa using fun e => this e.symm
        have hne2 := HD.out m hlt
        generalize xs.getD (m + 1) 0 = x at *
        generalize xs.getD m 0 = y at *
        go_wp2_with fail
        go_region
        go_wp2
        go_roundg (n - (m + 1 + 1))
        case measure => omega
        case rel => exact ⟨m + 1 + 1, q + 1, by omega, by omega, by omega, by go_num, rfl⟩
      · obtain rfl : k = n := by omega
        go_wp2
        go_ret
        exact ⟨rfl, q, rfl⟩

theorem pN_take {k n : Nat} (l : List Int) : ∀ m, m ≤ n → pN k (l.take n) m = pN k l m
  | 0, _ => rfl
  | m + 1, h => by
    have e : (l.take n).getD m 0 = l.getD m 0 := by
      rw [List.getD_eq_getElem?_getD, List.getD_eq_getElem?_getD, List.getElem?_take, if_pos (by omega)]
    rw [pN, pN, pN_take l m (by omega), e]
theorem poErr_lotsOf {k : Int} {xs : List Int} (hk : 1 ≤ k ∧ k ≤ 12) (h : xs.length ≤ 30) : poErr k (lotsOf xs) = 0 :=
  poErr_good hk (by rw [length_lotsOf]; exact h) (isLots_lotsOf _)
theorem isLots_take {l : List Int} {n : Nat} (h : IsLots l) : IsLots (l.take n) := by
  intro i hi
  rw [List.length_take] at hi
  have e : (l.take n).getD i 0 = l.getD i 0 := by
    rw [List.getD_eq_getElem?_getD, List.getD_eq_getElem?_getD, List.getElem?_take, if_pos (by omega)]
  rw [e]
  exact h i (by omega)

end Go.Proofs.Ytaklchehamkgcaa
