/-
  The verifier's references for sets: castref.Ones, SetRank, SetNext, Choose.
-/
import Derived.Test.YtnoacmnhinoohaaDoorSubC
import Derived.Test.YtnoacmnhinoohaaDoorArr
import Derived.Test.YtnoacmnhinoohaaDoorPerms
namespace Go.Proofs.YtnoacmnhinoohaaDoor
open Go.RowKit

theorem shr_and1 {s k : Nat} (hs : s < 65536) : bits .and .u16 ((s : Int) / 2 ^ k) 1 = ((s / 2 ^ k % 2 : Nat) : Int) := by
  have h1 : s / 2 ^ k ≤ s := Nat.div_le_self _ _
  have h2 := u16_and_nat (s / 2 ^ k) 1 (by omega) (by omega)
  rw [nat_mask1] at h2
  rw [pow_int, ← Int.natCast_ediv]
  exact h2

set_option maxHeartbeats 800000 in
theorem refOnes_any (s : Nat) (w : World) (hs : s < 65536) :
    Calls Tryd.prog 12 #[.int .u16 (s : Int)] w fun e w' => e = .returned (.int .i64 ((ones s : Nat) : Int)) ∧ w = w' := by
  go_enter Tryd.func12, Tryd.ntmps12
  go_wp2
  go_loopg [3, 5] 16 (fun g u z wr => ∃ k : Nat, k ≤ 16 ∧ 16 - k ≤ g ∧ u = .int .i64 ((ones (s % 2 ^ k) : Nat) : Int) ∧ z = .int .i64 (k : Int) ∧ w = wr)
  case atStart => exact ⟨0, by omega, by omega, by rw [Nat.pow_zero, Nat.mod_one]; rfl, rfl, rfl⟩
  case round =>
    obtain ⟨k, hk, hg, rfl, rfl, rfl⟩ := hrel
    by_cases hlt : k < 16
    · have h1 := shr_and1 (k := k) hs
      have HM := hid (ones_mod_succ s k)
      have h2 : s / 2 ^ k % 2 < 2 := Nat.mod_lt _ (by omega)
      have h3 : ones (s % 2 ^ k) ≤ 16 := Nat.le_trans (ones_le (n := k) (Nat.mod_lt _ (Nat.two_pow_pos k))) hk
      generalize s / 2 ^ k % 2 = b at *
      generalize ones (s % 2 ^ k) = x at *
      go_wp2
      go_roundg (16 - (k + 1))
      case measure => omega
      case rel => exact ⟨k + 1, by omega, by omega, by rw [HM.out]; go_num, by go_num, rfl⟩
    · have hk16 : k = 16 := by omega
      subst hk16
      have HE : Hid (s % 2 ^ 16 = s) := Nat.mod_eq_of_lt hs
      go_wp2
      go_ret
      exact ⟨sret_int (by rw [HE.out]), rfl⟩

set_option maxHeartbeats 800000 in
theorem setRank_any (s : Nat) (w : World) (hs : s < 65536) :
    Calls Tryd.prog 14 #[.int .u16 (s : Int)] w fun e w' => e = .returned (.int .i64 ((srk s : Nat) : Int)) ∧ w = w' := by
  go_enter Tryd.func14, Tryd.ntmps14
  go_wp2
  go_loopg [3, 6] s (fun g u z wr => ∃ x : Nat, x ≤ s ∧ s - x ≤ g ∧ u = .int .i64 ((cnt x (ones s) : Nat) : Int) ∧ z = .int .u16 (x : Int) ∧ w = wr)
  case atStart => exact ⟨0, by omega, by omega, rfl, rfl, rfl⟩
  case round =>
    obtain ⟨x, hx, hg, rfl, rfl, rfl⟩ := hrel
    by_cases hlt : x < s
    · have HC := hid (cnt_succ x (ones s))
      have h1 := cnt_le x (ones s)
      generalize cnt x (ones s) = c at *
      by_cases he : ones x = ones s
      · rw [if_pos he] at HC
        have HE := hid he
        clear he
        go_wp2_with fail
        refine (refOnes_any x _ (by omega)).mono ?_
        rintro e w' ⟨rfl, rfl⟩
        go_wp2_with fail
        refine (refOnes_any s _ hs).mono ?_
        rintro e w' ⟨rfl, rfl⟩
        rw [HE.out]
        go_wp2
        go_roundg (s - (x + 1))
        case measure => omega
        case rel => exact ⟨x + 1, by omega, by omega, by rw [HC.out]; go_num, by go_num, rfl⟩
      · rw [if_neg he] at HC
        have hne : (((ones x : Nat) : Int) == ((ones s : Nat) : Int)) = false := by simp; omega
        clear he
        go_wp2_with fail
        refine (refOnes_any x _ (by omega)).mono ?_
        rintro e w' ⟨rfl, rfl⟩
        go_wp2_with fail
        refine (refOnes_any s _ hs).mono ?_
        rintro e w' ⟨rfl, rfl⟩
        go_wp2
        go_roundg (s - (x + 1))
        case measure => omega
        case rel => exact ⟨x + 1, by omega, by omega, by rw [HC.out]; go_num, by go_num, rfl⟩
    · have hxs : x = s := by omega
      subst hxs
      go_wp2
      go_ret
      exact ⟨rfl, rfl⟩

def RetSetNext (w : World) (s n : Nat) (e : Ending) (w' : World) : Prop := w = w' ∧
  ((∃ x : Nat, s < x ∧ x < 2 ^ n ∧ ones x = ones s ∧ (∀ y, s < y → y < x → ones y ≠ ones s) ∧ e = .returned (.tuple #[.int .u16 (x : Int), .bool true])) ∨
   ((∀ y, s < y → y < 2 ^ n → ones y ≠ ones s) ∧ e = .returned (.tuple #[.int .u16 0, .bool false])))

set_option maxHeartbeats 800000 in
theorem setNext_any (s n : Nat) (w : World) (hs : s < 65536) (hn : n ≤ 16) :
    Calls Tryd.prog 16 #[.int .u16 (s : Int), .int .i64 (n : Int)] w (RetSetNext w s n) := by
  have hp : 2 ^ n ≤ 2 ^ 16 := Nat.pow_le_pow_right (by omega) hn
  have HP : Hid (wrap64 ((2 : Int) ^ n) = ((2 ^ n : Nat) : Int)) := by
    show wrap64 ((2 : Int) ^ n) = _
    rw [pow_int]
    generalize 2 ^ n = z at *
    exact IntWalk.wrap64_in _ (by omega)
  go_enter Tryd.func16, Tryd.ntmps16
  go_wp2
  go_loopg [6] 65536 (fun g z wr => ∃ x : Nat, s < x ∧ x ≤ 65536 ∧ 65536 - x ≤ g ∧ z = .int .i64 (x : Int) ∧ w = wr ∧ ∀ y, s < y → y < x → ones y ≠ ones s)
  case atStart => exact ⟨s + 1, by omega, by omega, by omega, by go_num, rfl, fun y h1 h2 => by omega⟩
  case round =>
    obtain ⟨x, hx, hx2, hg, rfl, rfl, hall⟩ := hrel
    have HA := hid hall
    clear hall
    have hw := HP.out
    by_cases hlt : x < 2 ^ n
    · have HLT := hid hlt
      have hlt2 : (x : Int) < (2 : Int) ^ n := by rw [pow_int]; omega
      have hx3 : x < 65536 := by omega
      clear hp hlt
      by_cases he : ones x = ones s
      · have HE := hid he
        clear he
        go_wp2_with fail
        refine (refOnes_any x _ hx3).mono ?_
        rintro e w' ⟨rfl, rfl⟩
        go_wp2_with fail
        refine (refOnes_any s _ hs).mono ?_
        rintro e w' ⟨rfl, rfl⟩
        rw [HE.out]
        go_wp2
        go_ret2
        exact ⟨rfl, .inl ⟨x, hx, HLT.out, HE.out, HA.out, rfl⟩⟩
      · have hne : (((ones x : Nat) : Int) == ((ones s : Nat) : Int)) = false := by simp; omega
        have HNE := hid he
        clear he
        go_wp2_with fail
        refine (refOnes_any x _ hx3).mono ?_
        rintro e w' ⟨rfl, rfl⟩
        go_wp2_with fail
        refine (refOnes_any s _ hs).mono ?_
        rintro e w' ⟨rfl, rfl⟩
        go_wp2
        go_roundg (65536 - (x + 1))
        case measure => omega
        case rel =>
          refine ⟨x + 1, by omega, by omega, by omega, by go_num, rfl, fun y h1 h2 => ?_⟩
          by_cases e : y = x
          · subst e
            exact HNE.out
          · exact HA.out y h1 (by omega)
    · have HLT := hid hlt
      have hlt2 : ¬ (x : Int) < (2 : Int) ^ n := by rw [pow_int]; omega
      clear hp hlt
      go_wp2
      go_ret2
      have hge := HLT.out
      exact ⟨rfl, .inr ⟨fun y h1 h2 => HA.out y h1 (by omega), rfl⟩⟩

theorem setNext_ok (s n : Nat) (w : World) (hs : s < 65536) (hn : n ≤ 16) (_h : s < 2 ^ n) (hl : srk s + 1 < cho n (ones s)) :
    Calls Tryd.prog 16 #[.int .u16 (s : Int), .int .i64 (n : Int)] w fun e w' => e = .returned (.tuple #[.int .u16 ((unr n (ones s) (srk s + 1) : Nat) : Int), .bool true]) ∧ w = w' := by
  refine (setNext_any s n w hs hn).mono ?_
  rintro e w' ⟨rfl, hh⟩
  obtain ⟨u1, u2, u3⟩ := unr_ok hl
  have hgt : s < unr n (ones s) (srk s + 1) := (srk_iff u2.symm).2 (by rw [u3]; omega)
  rcases hh with ⟨x, h1, h2, h3, h4, rfl⟩ | ⟨h1, _⟩
  · have hx : x = unr n (ones s) (srk s + 1) := by
      have m1 := srk_mono h3.symm h1
      rcases Nat.lt_trichotomy x (unr n (ones s) (srk s + 1)) with c | c | c
      · have := srk_mono (h3.trans u2.symm) c
        rw [u3] at this
        omega
      · exact c
      · exact absurd u2 (h4 _ hgt c)
    rw [hx]
    exact ⟨rfl, rfl⟩
  · exact absurd u2 (h1 _ hgt u1)
theorem setNext_none (s n : Nat) (w : World) (hs : s < 65536) (hn : n ≤ 16) (_h : s < 2 ^ n) (hl : ¬ srk s + 1 < cho n (ones s)) :
    Calls Tryd.prog 16 #[.int .u16 (s : Int), .int .i64 (n : Int)] w fun e w' => e = .returned (.tuple #[.int .u16 0, .bool false]) ∧ w = w' := by
  refine (setNext_any s n w hs hn).mono ?_
  rintro e w' ⟨rfl, hh⟩
  rcases hh with ⟨x, h1, h2, h3, _, _⟩ | ⟨_, rfl⟩
  · have m1 := srk_mono h3.symm h1
    have m2 := srk_lt h2
    rw [h3] at m2
    omega
  · exact ⟨rfl, rfl⟩

/-! ### Choose -/

/-- The cells in round r, those above i done. -/
def cellC (r i j : Nat) : Value := .int .i64 ((if i < j then cho (r + 1) j else cho r j : Nat) : Int)
theorem cellC_start {k j : Nat} (h : j < k + 1) : (if j = 0 then Value.int .i64 1 else Value.int .i64 0) = cellC 0 k j := by
  unfold cellC
  cases j with
  | zero =>
    rw [if_pos rfl, if_neg (by omega)]
    rfl
  | succ j =>
    rw [if_neg (by omega), if_neg (by omega)]
    rfl
theorem cellC_step {r i j : Nat} : (if j = i + 1 then Value.int .i64 (((cho r (i + 1) : Nat) : Int) + ((cho r i : Nat) : Int)) else cellC r (i + 1) j) = cellC r i j := by
  unfold cellC
  by_cases e : j = i + 1
  · subst e
    rw [if_pos rfl, if_pos (by omega), cho_succ]
    congr 1
    omega
  · rw [if_neg e]
    by_cases h : i < j
    · rw [if_pos h, if_pos (by omega)]
    · rw [if_neg h, if_neg (by omega)]
theorem cellC_next {r k j : Nat} (h : j < k + 1) : cellC r 0 j = cellC (r + 1) k j := by
  unfold cellC
  rw [if_neg (show ¬ k < j by omega)]
  by_cases e : 0 < j
  · rw [if_pos e]
  · rw [if_neg e, show j = 0 by omega, cho_zero, cho_zero]

theorem refChoose_few (n k : Nat) (w : World) (h : k = 0 ∨ n ≤ k) :
    Calls Tryd.prog 15 #[.int .i64 (n : Int), .int .i64 (k : Int)] w fun e w' => e = .returned (.int .i64 ((cho n k : Nat) : Int)) ∧ w = w' := by
  by_cases h1 : n < k
  · have HE : Hid (cho n k = 0) := cho_over h1
    go_enter Tryd.func15, Tryd.ntmps15
    go_wp2
    go_ret
    exact ⟨sret_int (by rw [HE.out]; rfl), rfl⟩
  · by_cases h0 : k = 0
    · subst h0
      have HE := hid (cho_zero n)
      go_enter Tryd.func15, Tryd.ntmps15
      go_wp2
      all_goals
        go_ret
        exact ⟨sret_int (by rw [HE.out]; rfl), rfl⟩
    · have hk : k = n := by omega
      subst hk
      have HE := hid (cho_self k)
      go_enter Tryd.func15, Tryd.ntmps15
      go_wp2
      all_goals
        go_ret
        exact ⟨sret_int (by rw [HE.out]; rfl), rfl⟩

set_option maxHeartbeats 1600000 in
theorem refChoose_many (n k : Nat) (w : World) (hn : n ≤ 16) (h0 : 0 < k) (hk : k < n) :
    Calls Tryd.prog 15 #[.int .i64 (n : Int), .int .i64 (k : Int)] w fun e w' => e = .returned (.int .i64 ((cho n k : Nat) : Int)) ∧ Below w.heap.size w w' := by
  have hmk : ∀ W : World, (Instr.makeSlice 43 (.int .i64 ((k : Int) + 1)) (.int .i64 ((k : Int) + 1))).run Tryd.prog W = .ok (.slice (some ⟨W.heap.size, 0, none⟩) (k + 1) (k + 1)) (W.alloc (.cells (madeCells #[.int .i64 0] (k + 1)) 3)) :=
    fun W => run_make_row' (P := Tryd.prog) 43 3 (.int .i64 0) 8 Tryd.underlying43 infoInt rfl .i64 .i64 (k + 1) (by omega) (by omega) W
  have HMD := hid (World.rowIs_made w (.int .i64 0) (k + 1) 3)
  have f0 := HMD.out.frozen 0
  have g0 := HMD.out.cell (i := 0) (by omega)
  have HS := hid ((HMD.out.set 0 (.int .i64 1)).congr (fun j hj => cellC_start (k := k) (j := j) hj))
  have hd1 : decide ((k : Int) < 0) = false := decide_eq_false (by omega)
  have hd2 : decide (n < k) = false := decide_eq_false (by omega)
  have he1 : ((k : Int) == 0) = false := by simp; omega
  have he2 : ((k : Int) == (n : Int)) = false := by simp; omega
  go_enter Tryd.func15, Tryd.ntmps15
  go_wp2_with fail
  clear hmk f0 g0 hd1 hd2 he1 he2
  go_loopg [6, 27] n (fun g _ s wr => ∃ r : Nat, r ≤ n ∧ n - r ≤ g ∧ s = .int .i64 r ∧ wr.rowIs w.heap.size 3 (k + 1) (cellC r k) ∧ Below w.heap.size w wr)
  case atStart => exact ⟨0, by omega, by omega, rfl, by rw [← World.setCell_alloc_new]; exact HS.out, (Below.refl _ _).alloc (Nat.le_refl _) _⟩
  case round =>
    obtain ⟨r, hr, hg, rfl, hrow, hbel⟩ := hrel
    have HR := hid hrow
    have HB := hid hbel
    clear hrow hbel HS HMD
    by_cases hlt : r < n
    · go_wp2_with fail
      go_loopg [6] k (fun g s wr => ∃ i : Nat, i ≤ k ∧ i ≤ g ∧ s = .int .i64 i ∧ wr.rowIs w.heap.size 3 (k + 1) (cellC r i) ∧ Below w.heap.size w wr)
      case atStart => exact ⟨k, by omega, by omega, rfl, HR.out, HB.out⟩
      case round =>
        clear HR HB
        obtain ⟨i, hi, hgi, rfl, hrow, hbel⟩ := hrel
        have HR := hid hrow
        have HB := hid hbel
        clear hrow hbel
        by_cases hpos : 0 < i
        · obtain ⟨i, rfl⟩ : ∃ x, i = x + 1 := ⟨i - 1, by omega⟩
          have g1 : wr.drew.cell? ⟨w.heap.size, i + 1, none⟩ = some (.int .i64 ((cho r (i + 1) : Nat) : Int)) := by
            rw [show wr.drew.cell? ⟨w.heap.size, i + 1, none⟩ = wr.cell? ⟨w.heap.size, i + 1, none⟩ from rfl, HR.out.cell (by omega)]
            unfold cellC
            rw [if_neg (by omega)]
          have g2 : wr.drew.cell? ⟨w.heap.size, i, none⟩ = some (.int .i64 ((cho r i : Nat) : Int)) := by
            rw [show wr.drew.cell? ⟨w.heap.size, i, none⟩ = wr.cell? ⟨w.heap.size, i, none⟩ from rfl, HR.out.cell (by omega)]
            unfold cellC
            rw [if_neg (by omega)]
          have f1 : wr.drew.frozen? ⟨w.heap.size, i + 1, none⟩ = false := HR.out.frozen (i + 1)
          have HW := hid ((HR.out.set (i + 1) (.int .i64 (((cho r (i + 1) : Nat) : Int) + ((cho r i : Nat) : Int)))).congr (fun j _ => cellC_step (r := r) (i := i) (j := j)))
          have c1 := cho_16 (n := r) (k := i + 1) (by omega)
          have c2 := cho_16 (n := r) (k := i) (by omega)
          generalize cho r (i + 1) = x1 at *
          generalize cho r i = x2 at *
          go_wp2_with fail
          go_region
          go_wp2
          go_roundg i
          case measure => omega
          case rel => exact ⟨i, by omega, by omega, by go_num, HW.out, HB.out.drew.setCell (Nat.le_refl _) _⟩
        · have hi0 : i = 0 := by omega
          subst hi0
          have HN := hid (HR.out.congr (fun j hj => cellC_next (r := r) (k := k) (j := j) hj))
          go_wp2
          go_roundg (n - (r + 1))
          case measure => omega
          case rel => exact ⟨r + 1, by omega, by omega, by go_num, HN.out, HB.out⟩
    · have hrn : r = n := by omega
      subst hrn
      have g1 : wr.cell? ⟨w.heap.size, k, none⟩ = some (.int .i64 ((cho r k : Nat) : Int)) := by
        rw [HR.out.cell (by omega)]
        unfold cellC
        rw [if_neg (by omega)]
      go_wp2
      go_ret
      exact ⟨rfl, HB.out⟩

theorem refChoose_any (n k : Nat) (w : World) (hn : n ≤ 16) :
    Calls Tryd.prog 15 #[.int .i64 (n : Int), .int .i64 (k : Int)] w fun e w' => e = .returned (.int .i64 ((cho n k : Nat) : Int)) ∧ Below w.heap.size w w' := by
  by_cases h : k = 0 ∨ n ≤ k
  · exact (refChoose_few n k w h).mono fun _ _ ⟨he, hw⟩ => ⟨he, by rw [← hw]; exact Below.refl _ _⟩
  · exact refChoose_many n k w hn (by omega) (by omega)

end Go.Proofs.YtnoacmnhinoohaaDoor
