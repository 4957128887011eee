/-
  shuffle.Lots.
-/
import Derived.Test.YtmdpfadfimodjaaShufA
import Derived.Test.YtmdpfadfimodjaaCheck
import Derived.Test.YtmdpfadfimodjaaClone
import Derived.Test.YtmdpfadfimodjaaOddK
import Derived.Test.YtmdpfadfimodjaaTabD
import Derived.Test.YtmdpfadfimodjaaTpA
namespace Go.Proofs.Ytmdpfadfimodjaa
open Go.RowKit

theorem index_last (A : Option Addr) (k c : Nat) (q : List Int) (w : World) (h : Ints w A (k + 1) q) (hq : IsPerm q) (hk : k ≤ 1000) :
    Calls Try.prog 40 #[.slice A (k + 1) c, .int .i64 (k : Int)] w fun e w' => e = .returned (.int .i64 ((ixf q (k : Int) : Nat) : Int)) ∧ w = w' := by
  refine (index_any A (k + 1) c q (k : Int) w h (by omega)).mono ?_
  rintro e w' ⟨r, rfl, -, rfl, hf⟩
  obtain ⟨j, rfl, hj⟩ := hf (hq.all k (by rw [h.len]; omega))
  rw [hj.only (isPerm_last h.len hq)]
  exact ⟨rfl, rfl⟩

theorem OwnInts.frozenN {w : World} {base g n cap : Nat} {xs : List Int} (h : OwnInts w base (.slice (some ⟨g, 0, none⟩) n cap) xs) (hn : n = xs.length) (j : Nat) : w.frozen? ⟨g, j, none⟩ = false := by
  subst hn
  exact World.ownsRow.frozenAt h j
theorem OwnInts.cellN {w : World} {base g n cap : Nat} {xs : List Int} (h : OwnInts w base (.slice (some ⟨g, 0, none⟩) n cap) xs) (hn : n = xs.length) {j : Nat} (hj : j < n) : w.cell? ⟨g, j, none⟩ = some (.int .i64 (xs.getD j 0)) := by
  subst hn
  exact h.cell hj
theorem set_replicate (k : Nat) (t : List Int) (x : Int) : (List.replicate (k + 1) (0 : Int) ++ t).set k x = List.replicate k (0 : Int) ++ (x :: t) := by
  have e : List.replicate (k + 1) (0 : Int) ++ t = List.replicate k (0 : Int) ++ ((0 : Int) :: t) := by rw [List.replicate_succ']; simp
  rw [e, List.set_append_right _ _ (by simp)]
  simp

theorem shLots_bad (A : Option Addr) (n c : Nat) (xs : List Int) (w : World) (h : Ints w A n xs) (hn : n ≤ 9223372036854775807) (he : permErr xs ≠ 0) :
    Calls Try.prog 9 #[.slice A n c] w (RetOwnE w [] (permErr xs)) := by
  have HC := hid (check_any A n c xs w h hn)
  have hz : (permErr xs != 0) = true := by simpa using he
  clear h he
  generalize permErr xs = E at *
  go_enter Try.func9, Try.ntmps9
  go_wp2_with fail
  refine HC.out.mono ?_
  rintro e w' ⟨rfl, hb⟩
  have HB := hid hb
  clear hb
  go_wp2
  go_ret2
  exact ⟨_, rfl, OwnInts.nil _ _, HB.out⟩

/-- What the loop of Lots keeps: k numbers are left. -/
structure LInv (w : World) (g n : Nat) (p : List Int) (wr : World) (lv : Value) (k : Nat) (L t : List Int) : Prop where
  len : L.length = k
  perm : IsPerm L
  un : unlots n p = unlots k L ++ t
  arr : Arr wr g (List.replicate k (0 : Int) ++ t)
  own : OwnInts wr (g + 1) lv L
  bel : Below w.heap.size w wr

set_option maxHeartbeats 2000000 in
set_option maxRecDepth 100000 in
theorem shLots_good (A : Option Addr) (n c : Nat) (p : List Int) (w : World) (h : Ints w A n p) (he : permErr p = 0) :
    Calls Try.prog 9 #[.slice A n c] w (RetOwnE w (unlots n p) 0) := by
  obtain ⟨hn, hp⟩ := permErr_ok.1 he
  rw [h.len] at hn
  have HL := hid h.len
  have HC := hid (check_any A n c p w h (by omega))
  rw [he] at HC
  have HI := hid h
  have HP := hid hp
  have hmk := fun W => run_make_row' (P := Try.prog) 22 3 (.int .i64 0) 8 Try.underlying22 infoInt rfl .i64 .i64 n (by omega) (by omega) W
  clear h he hp
  go_enter Try.func9, Try.ntmps9
  go_wp2_with fail
  refine HC.out.mono ?_
  rintro e w0 ⟨rfl, hb⟩
  have HB0 := hid hb
  clear hb HC
  have HA1 := hid (Arr.made w0 n)
  have HB1 := hid (below_step HB0.out (Nat.le_refl _) (below_alloc w0 (.cells (madeCells #[.int .i64 0] n) 3)))
  have HI1 := hid (HI.out.keep HB1.out)
  have hsz : (w0.alloc (.cells (madeCells #[.int .i64 0] n) 3)).heap.size = w0.heap.size + 1 := by simp
  have HSZ := hid hsz
  clear hsz
  go_wp2_with fail
  refine (clone_any A n c p _ HI1.out (by omega)).mono ?_
  rintro e w1 ⟨lv, rfl, ho, hb⟩
  rw [HSZ.out] at ho
  have hinv : LInv w w0.heap.size n p w1 lv n p [] :=
    ⟨HL.out, HP.out, by rw [List.append_nil], by rw [List.append_nil]; exact HA1.out.keep hb, ho, below_step HB1.out (Nat.le_refl _) hb⟩
  have HV := hid hinv
  have HGB : Hid (w.heap.size ≤ w0.heap.size) := hid HB0.out.size
  have hrep : ∃ A c, lv = .slice A n c := by
    obtain ⟨A1, c1, e, -, -⟩ := ho.ints
    rw [HL.out] at e
    exact ⟨A1, c1, e⟩
  obtain ⟨A1, c1, rfl⟩ := hrep
  clear ho hb hinv HA1 HB1 HI1 HB0 HI HP HSZ
  generalize w0.heap.size = g0 at *
  go_wp2
  go_loopg [6, 7, 8] (n + 1) (fun g lv iv jv wr => ∃ (k : Nat) (L t : List Int) (A : Option Addr) (c : Nat), k ≤ n ∧ k + 1 ≤ g ∧ iv = .int .i64 ((k : Int) - 1) ∧ lv = .slice A k c ∧ LInv w g0 n p wr (.slice A k c) k L t)
  case atStart => exact ⟨n, p, [], A1, c1, by omega, by omega, by go_num, rfl, HV.out⟩
  case round =>
    obtain ⟨k, L, t, A2, c2, hk, hg, rfl, rfl, hinv⟩ := hrel
    have HW := hid hinv
    clear hinv
    rcases Nat.eq_zero_or_pos k with rfl | hpos
    · have HT : Hid (unlots n p = t) := HW.out.un
      have HTA : Hid (Arr wr g0 t) := HW.out.arr
      have HTL : Hid (t.length = n) := by rw [← HT.out, length_unlots]; exact rfl
      have HB := hid HW.out.bel
      clear HW HV hmk
      go_wp2
      go_ret2
      exact ⟨_, rfl, by rw [HT.out]; exact HTA.out.own HGB.out HTL.out (by omega), HB.out⟩
    · obtain ⟨k, rfl⟩ : ∃ k', k = k' + 1 := ⟨k - 1, by omega⟩
      have hi : ((((k + 1 : Nat) : Int)) - 1) = (k : Int) := by omega
      rw [hi]
      have hLL := HW.out.len
      have hown := HW.out.own
      obtain ⟨gl, cap, hv, hgl, hgl2, hcap⟩ := hown.form (by omega)
      rw [hLL] at hv hcap
      injection hv with e1 _ e3
      subst e1
      subst e3
      have HX := hid (index_last _ k c2 L wr hown.asInts.1 HW.out.perm (by omega))
      have hf := isPerm_last hLL HW.out.perm
      have hU : unlots (k + 1) L = unlots k (undo L k (ixf L (k : Int))) ++ [((ixf L (k : Int) : Nat) : Int)] := rfl
      have hun := HW.out.un
      rw [hU, List.append_assoc, List.singleton_append] at hun
      generalize ixf L (k : Int) = m at *
      have hm : m ≤ k := by have := hf.1; omega
      have hne : gl ≠ g0 := by omega
      have a2 := HW.out.arr.cell (j := k) (by simp; omega)
      have af := HW.out.arr.frozen k
      have A2 := HW.out.arr.set k (m : Int)
      rw [set_replicate] at A2
      have O2 := hown.setFar g0 k (by omega) (.int .i64 (m : Int))
      have c3 := OwnInts.cellN O2 hLL.symm (j := k) (by omega)
      have c4 := OwnInts.cellN O2 hLL.symm (j := m) (by omega)
      have f4 := OwnInts.frozenN O2 hLL.symm m
      have O3 := (O2.set hLL.symm m (L.getD k 0)).cut k (by rw [List.length_set, hLL]; omega)
      have A3 := A2.setOther (a := ⟨gl, m, none⟩) (by show g0 ≠ gl; omega) (.int .i64 (L.getD k 0))
      have hcut := run_toI (some ⟨gl, 0, none⟩) (k + 1) c2 k (k : Int) rfl (by omega)
      have HN : Hid (LInv w g0 n p ((wr.setCell ⟨g0, k, none⟩ (.int .i64 (m : Int))).setCell ⟨gl, m, none⟩ (.int .i64 (L.getD k 0))) (.slice (some ⟨gl, 0, none⟩) k c2) k (undo L k m) ((m : Int) :: t)) :=
        ⟨length_undo hLL, isPerm_undo hLL HW.out.perm hm hf.2.1, hun, A3, O3, (HW.out.bel.setCell (by exact HGB.out) _).setCell (show w.heap.size ≤ gl by have := HGB.out; omega) _⟩
      clear HW hf hU hun A2 O2 O3 A3 hown hLL HV hmk hi
      generalize L.getD k 0 = y at *
      generalize L.getD m 0 = z at *
      generalize (List.replicate (k + 1) (0 : Int) ++ t).getD k 0 = z2 at *
      generalize undo L k m = L2 at *
      go_wp2_with fail
      refine HX.out.mono ?_
      rintro e w2 ⟨rfl, rfl⟩
      clear HX
      go_wp2
      go_roundg (k + 1)
      case measure => omega
      case rel => exact ⟨k, L2, (m : Int) :: t, _, _, by omega, by omega, by go_num, rfl, HN.out⟩

/-- shuffle.Lots, whatever comes in. -/
theorem shLots_any (A : Option Addr) (n c : Nat) (xs : List Int) (w : World) (h : Ints w A n xs) (hn : n ≤ 9223372036854775807) :
    Calls Try.prog 9 #[.slice A n c] w (RetOwnE w (lotsX xs) (permErr xs)) := by
  by_cases he : permErr xs = 0
  · rw [lotsX_ok he, he, h.len]
    exact shLots_good A n c xs w h he
  · rw [lotsX_bad he]
    exact shLots_bad A n c xs w h hn he

end Go.Proofs.Ytmdpfadfimodjaa
