/-
  package pool: Run, Chosen, Ways.
-/
import Derived.Test.YtaklchehamkgcaaPoolA
import Derived.Test.YtaklchehamkgcaaClone
import Derived.Test.YtaklchehamkgcaaRankA
import Derived.Test.YtaklchehamkgcaaSubA
namespace Go.Proofs.Ytaklchehamkgcaa
open Go.RowKit

set_option maxHeartbeats 400000 in
theorem poRun_bad (k : Int) (A : Option Addr) (n c : Nat) (xs : List Int) (w : World) (h : Ints w A n xs) (he : poErr k xs ≠ 0) :
    Calls Try.prog 7 #[.int .i64 k, .slice A n c] w (RetOwnE w [] (poErr k xs)) := by
  have HC := hid (poCheck_any k A n c xs w h)
  have hz : (poErr k xs != 0) = true := by simpa using he
  clear h he
  generalize poErr k xs = E at *
  go_enter Try.func7, Try.ntmps7
  go_wp2_with fail
  refine HC.out.mono ?_
  rintro e w' ⟨rfl, rfl⟩
  go_wp2
  go_ret2
  exact ⟨_, rfl, OwnInts.nil _ _, Below.refl _ _⟩

set_option maxHeartbeats 1000000 in
theorem poRun_good (k : Nat) (A : Option Addr) (n c : Nat) (l : List Int) (w : World) (h : Ints w A n l) (he : poErr (k : Int) l = 0) :
    Calls Try.prog 7 #[.int .i64 (k : Int), .slice A n c] w (RetOwnE w (pN k l n) 0) := by
  obtain ⟨hk, hn, hl⟩ := poErr_ok.1 he
  rw [h.len] at hn
  have HL := hid h.len
  have HC := hid (poCheck_any (k : Int) A n c l w h)
  rw [he] at HC
  have HI := hid h
  have HLT := hid hl
  have HPL := hid (pN_len k l)
  clear h he hl
  go_enter Try.func7, Try.ntmps7
  go_wp2_with fail
  refine HC.out.mono ?_
  rintro e w' ⟨rfl, rfl⟩
  clear HC
  go_wp2_with fail
  go_loopg [7, 8, 9, 18] n (fun g v _ _ s wr => ∃ m : Nat, m ≤ n ∧ n - m ≤ g ∧ s = .int .i64 m ∧ OwnInts wr w.heap.size v (pN k l m) ∧ Below w.heap.size w wr)
  case atStart => exact ⟨0, Nat.zero_le _, by omega, rfl, OwnInts.nil _ _, Below.refl _ _⟩
  case round =>
    obtain ⟨m, hm, hg, rfl, hown, hbel⟩ := hrel
    have HO := hid hown
    have HB := hid hbel
    clear hown hbel
    have hpl := HPL.out m
    by_cases hlt : m < n
    · obtain ⟨b, o, rfl, hb, hc⟩ := HI.out.row (by omega)
      have g1 : wr.cell? ⟨b, o + m, none⟩ = some (.int .i64 (l.getD m 0)) := (HB.out.cell (p := ⟨b, o + m, none⟩) hb).trans (hc m hlt)
      have hx := HLT.out m (by rw [HL.out]; exact hlt)
      have HG := hid (pN_grow (k := k) (m := m) l)
      have HP := hid (pN_put (k := k) (m := m) (l := l))
      have HS := hid (pN_pass (k := k) (m := m) (l := l))
      clear hc
      generalize l.getD m 0 = x at g1 hx HP HS
      obtain ⟨y, rfl⟩ := Int.eq_ofNat_of_zero_le hx.1
      clear hx
      obtain ⟨A2, c2, rfl, hI2, hc2⟩ := HO.out.ints
      rw [hpl] at hI2 hc2 ⊢
      by_cases hmk : m < k
      · have hmin : min m k = m := by omega
        rw [hmin] at hpl ⊢
        have HX := hid (HG.out hmk)
        clear HP HS HG hI2 hc2
        rw [hpl] at HO
        generalize pN k l m = p at *
        go_wp2_with (at_builtin; refine wpList_app1 _ rfl (.tmp 27) (.tmp 29) rfl w.heap.size _ p (m : Int) rfl rfl HO.out (by rw [hpl]; omega) HB.out.size ?_)
        intro v' w1 hown1 _ hbel1
        have HB1 := hid (HB.out.trans hbel1)
        have HO1 := hid hown1
        clear hown1 hbel1 HO HB
        go_wp2
        go_roundg (n - (m + 1))
        case measure => omega
        case rel => exact ⟨m + 1, by omega, by omega, by go_num, by rw [HX.out]; exact HO1.out, HB1.out⟩
      · have hmin : min m k = k := by omega
        rw [hmin] at hpl ⊢
        rw [hpl] at HO
        by_cases hyk : y < k
        · have HX := hid (HP.out (by omega) (by omega))
          rw [Int.toNat_natCast] at HX
          clear HP HS HG hI2 hc2
          obtain ⟨g, cap, hv, hbg, hgs, hcc⟩ := OwnInts.form HO.out (by omega)
          rw [hpl] at hv hcc
          injection hv with e1 e2 e3
          subst e1
          subst e3
          have f1 := OwnInts.frozen (show OwnInts wr w.heap.size (.slice (some ⟨g, 0, none⟩) (pN k l m).length c2) (pN k l m) by rw [hpl]; exact HO.out) y
          have s1 := OwnInts.cell (show OwnInts wr w.heap.size (.slice (some ⟨g, 0, none⟩) (pN k l m).length c2) (pN k l m) by rw [hpl]; exact HO.out) (j := y) (by omega)
          have HO1 := hid (HO.out.set hpl.symm y (m : Int))
          rw [← HX.out] at HO1
          have HB1 := hid (fun v => HB.out.setCell (p := ⟨g, y, none⟩) hbg v)
          generalize pN k l m = p at *
          go_wp2
          go_roundg (n - (m + 1))
          case measure => omega
          case rel => exact ⟨m + 1, by omega, by omega, by go_num, HO1.out, HB1.out _⟩
        · have HX := hid (HS.out (by omega) (by omega))
          clear HP HS HG hI2 hc2
          go_wp2
          go_roundg (n - (m + 1))
          case measure => omega
          case rel => exact ⟨m + 1, by omega, by omega, by go_num, by rw [HX.out]; exact HO.out, HB.out⟩
    · have hkn : m = n := by omega
      subst hkn
      go_wp2
      go_ret2
      exact ⟨_, rfl, HO.out, HB.out⟩

/-- pool.Run, whatever comes in. -/
theorem poRun_any (k : Int) (A : Option Addr) (n c : Nat) (xs : List Int) (w : World) (h : Ints w A n xs) :
    Calls Try.prog 7 #[.int .i64 k, .slice A n c] w (RetOwnE w (poolX k xs) (poErr k xs)) := by
  by_cases he : poErr k xs = 0
  · have hk := (poErr_ok.1 he).1
    obtain ⟨m, rfl⟩ := Int.eq_ofNat_of_zero_le (show 0 ≤ k by omega)
    rw [poolX_ok he, he, h.len]
    exact poRun_good m A n c xs w h he
  · rw [poolX_bad he]
    exact poRun_bad k A n c xs w h he

set_option maxHeartbeats 800000 in
theorem poChosen_any (k : Int) (A : Option Addr) (n c : Nat) (xs : List Int) (w : World) (h : Ints w A n xs) :
    Calls Try.prog 8 #[.int .i64 k, .slice A n c] w (RetOwnE w (upL (poolX k xs)) (poErr k xs)) := by
  have HR := hid (poRun_any k A n c xs w h)
  have HP := hid (fun he => poolX_bad (k := k) (l := xs) he)
  have HL : Hid ((poolX k xs).length ≤ 12) := poolX_len
  clear h
  generalize poolX k xs = p at *
  generalize poErr k xs = E at *
  by_cases he : E = 0
  · subst he
    go_enter Try.func8, Try.ntmps8
    go_wp2_with fail
    refine HR.out.mono ?_
    rintro e w1 ⟨v, rfl, ho, hb⟩
    have HO := hid ho
    have HB := hid hb
    clear ho hb HR
    go_wp2_with fail
    refine (sort_any w.heap.size v p w1 HO.out HL.out).mono ?_
    rintro e w2 ⟨rfl, ys, hown, hperm, hsort, hgrow⟩
    have HO2 := hid hown
    have HE := hid (upL_of hperm hsort)
    have HB2 := hid (below_own HB.out HO.out (Nat.le_refl _) (Nat.le_refl _) hgrow)
    clear hown hperm hsort hgrow
    go_wp2
    go_ret2
    exact ⟨_, rfl, by rw [← HE.out]; exact HO2.out, HB2.out⟩
  · have hp := HP.out he
    subst hp
    have hz : (E != 0) = true := by simpa using he
    have HN : Hid (upL [] = []) := List.mergeSort_nil ..
    go_enter Try.func8, Try.ntmps8
    go_wp2_with fail
    refine HR.out.mono ?_
    rintro e w1 ⟨v, rfl, ho, hb⟩
    have HB := hid hb
    clear ho hb HR
    go_wp2
    go_ret2
    exact ⟨_, rfl, by rw [HN.out]; exact OwnInts.nil _ _, HB.out⟩

/-! ### Ways -/

theorem run_minNN {P : Program} (x y m : Nat) (hm : m = min x y) (ts : Array TypeId) (t : TypeId) (W : World) :
    (Builtin.min_ ts t #[.int .i64 (x : Int), .int .i64 (y : Int)]).run P W = .ok (.int .i64 (m : Int)) W := by
  have e : (if (y : Int) < (x : Int) then (y : Int) else (x : Int)) = (m : Int) := by
    subst hm
    split <;> omega
  simp only [Builtin.min_, Builtin.min2, List.foldlM_cons, List.foldlM_nil, pure_bind]
  simp only [e]
  rfl

set_option maxHeartbeats 800000 in
theorem ways_ok (n k : Nat) (w : World) (hn : n ≤ 10) (hk : 1 ≤ k ∧ k ≤ 12) :
    Calls Try.prog 9 #[.int .i64 (n : Int), .int .i64 (k : Int)] w fun e w' => e = .returned (.tuple #[.int .i64 ((wyN n k : Nat) : Int), .int .i64 0]) ∧ w = w' := by
  have HS := hid (isSize_any (k : Int) w)
  rw [szB_yes (by omega)] at HS
  have HCN := hid (count_ok n w hn)
  have HCH := hid (chooseF_ok n (min n k) w (by omega) (by omega))
  have hmin := run_minNN (P := Try.prog) n k (min n k) rfl
  have HW : Hid (((fact n : Nat) : Int) / ((cho n (min n k) : Nat) : Int) = ((wyN n k : Nat) : Int)) := (Int.natCast_ediv _ _).symm
  have hc := wyN_cho hn hk.2
  have hf := fact_ten hn
  have hd : IntKind.i64.wrap (((fact n : Nat) : Int) / ((cho n (min n k) : Nat) : Int)) = ((fact n : Nat) : Int) / ((cho n (min n k) : Nat) : Int) := by
    have h1 := wyN_le (k := k) hn
    rw [HW.out]
    exact IntWalk.i64_in _ (by omega)
  have hnz : (((cho n (min n k) : Nat) : Int) == 0) = false := by simp; omega
  generalize min n k = m at *
  generalize fact n = F at *
  generalize cho n m = D at *
  generalize wyN n k = W at *
  obtain ⟨hk1, hk2⟩ := hk
  go_enter Try.func9, Try.ntmps9
  go_wp2_with (first
    | (go_at_call 28; refine HS.out.mono ?_; rintro e w' ⟨rfl, rfl⟩)
    | (go_at_call 19; refine HCN.out.mono ?_; rintro e w' ⟨rfl, rfl⟩)
    | (go_at_call 20; refine HCH.out.mono ?_; rintro e w' ⟨rfl, rfl⟩))
  go_ret2
  exact ⟨by rw [← HW.out]; rfl, rfl⟩

set_option maxHeartbeats 800000 in
theorem ways_bad (n k : Int) (w : World) (h : n < 0 ∨ 10 < n ∨ k < 1 ∨ 12 < k) :
    Calls Try.prog 9 #[.int .i64 n, .int .i64 k] w fun e w' => e = .returned (.tuple #[.int .i64 0, .int .i64 1]) ∧ w = w' := by
  have HS := hid (isSize_any k w)
  by_cases h1 : n < 0
  · clear h
    go_enter Try.func9, Try.ntmps9
    go_wp2
    go_ret2
    exact ⟨rfl, rfl⟩
  · by_cases h2 : 10 < n
    · clear h
      go_enter Try.func9, Try.ntmps9
      go_wp2
      go_ret2
      exact ⟨rfl, rfl⟩
    · rw [szB_no (by omega)] at HS
      clear h
      go_enter Try.func9, Try.ntmps9
      go_wp2_with (go_at_call 28; refine HS.out.mono ?_; rintro e w' ⟨rfl, rfl⟩)
      go_ret2
      exact ⟨rfl, rfl⟩

end Go.Proofs.Ytaklchehamkgcaa
