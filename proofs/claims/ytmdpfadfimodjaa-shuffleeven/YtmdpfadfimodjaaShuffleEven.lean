/-
  castkeep.ShuffleEven, walked.
-/
import Derived.Test.YtmdpfadfimodjaaShufE
import Derived.Test.YtmdpfadfimodjaaRankA
import Derived.Test.YtmdpfadfimodjaaTpI
import Derived.Test.YtmdpfadfimodjaaMx
namespace Go.Proofs.Ytmdpfadfimodjaa
open Go.RowKit

/-- The lots of the x-th try. -/
def evL (i x : Nat) : List Int := (List.range i).map fun j : Nat => ((x / fact j % (j + 1) : Nat) : Int)
theorem evL_len (i x : Nat) : (evL i x).length = i := by simp [evL]
theorem evL_step (i x : Nat) : evL (i + 1) x = evL i x ++ [((x / fact i % (i + 1) : Nat) : Int)] := by simp [evL, List.range_succ]
theorem evL_lots (i x : Nat) : IsLots (evL i x) := by
  intro j hj
  rw [evL_len] at hj
  have : (evL i x).getD j 0 = ((x / fact j % (j + 1) : Nat) : Int) := by simp [evL, List.getD_eq_getElem?_getD, hj]
  rw [this]
  have := Nat.mod_lt (x / fact j) (show 0 < j + 1 by omega)
  omega
/-- The number of the order that they deal. -/
def evR (n x : Nat) : Nat := rk (dealt (evL n x))
theorem evR_lt (n x : Nat) : evR n x < fact n := by
  have := rk_lt (dealt (evL n x))
  rwa [length_dealt, evL_len] at this
/-- How often each order was met. -/
def evC (n : Nat) : Nat → List Int
  | 0 => List.replicate (fact n) 0
  | x + 1 => (evC n x).set (evR n x) ((evC n x).getD (evR n x) 0 + 1)
theorem evC_len (n : Nat) : ∀ x, (evC n x).length = fact n
  | 0 => List.length_replicate
  | x + 1 => by rw [evC, List.length_set, evC_len n x]
theorem evC_bd (n : Nat) : ∀ x j, 0 ≤ (evC n x).getD j 0 ∧ (evC n x).getD j 0 ≤ x
  | 0, j => by
    rw [evC, List.getD_eq_getElem?_getD, List.getElem?_replicate]
    split <;> simp
  | x + 1, j => by
    have h1 := evC_bd n x j
    have h2 := evC_bd n x (evR n x)
    rw [evC, getD_set]
    split <;> omega
theorem evC_all : ∀ n : Fin 6, evC n.1 (fact n.1) = List.replicate (fact n.1) 1 := by decide +kernel
theorem evC_end {n : Nat} (h : n < 6) : evC n (fact n) = List.replicate (fact n) 1 := evC_all ⟨n, h⟩

theorem min_ones (A : Option Addr) (n c : Nat) (w : World) (h : Ints w A n (List.replicate n 1)) (h0 : 0 < n) (hn : n ≤ 1000000) :
    Calls Try.prog 26 #[.slice A n c] w fun e w' => e = .returned (.int .i64 1) ∧ w = w' := by
  refine (min_any A n c _ w h h0 hn).mono ?_
  rintro e w' ⟨m, rfl, hm, -, rfl⟩
  rw [List.eq_of_mem_replicate hm]
  exact ⟨rfl, rfl⟩
theorem max_ones (A : Option Addr) (n c : Nat) (w : World) (h : Ints w A n (List.replicate n 1)) (h0 : 0 < n) (hn : n ≤ 1000000) :
    Calls Try.prog 27 #[.slice A n c] w fun e w' => e = .returned (.int .i64 1) ∧ w = w' := by
  refine (max_any A n c _ w h h0 hn).mono ?_
  rintro e w' ⟨m, rfl, hm, -, rfl⟩
  rw [List.eq_of_mem_replicate hm]
  exact ⟨rfl, rfl⟩

set_option maxHeartbeats 1000000 in
set_option maxRecDepth 100000 in
theorem shuffleEven_any (n0 : Int) (w : World) :
    Calls Try.prog 5 #[.int .i64 n0] w fun e w' => e = .returned (.bool true) ∧ Below w.heap.size w w' := by
  obtain ⟨n, hn⟩ : ∃ n : Nat, n0 % 6 = (n : Int) := ⟨(n0 % 6).toNat, by have := Int.emod_nonneg n0 (show (6 : Int) ≠ 0 by omega); omega⟩
  have hn6 : n < 6 := by have := Int.emod_lt_of_pos n0 (show 0 < (6 : Int) by omega); omega
  go_enter Try.func5, Try.ntmps5
  go_wp2_with fail
  refine (deals_any _).mono ?_
  rintro e w1 ⟨rfl, hb⟩
  have HB1 := hid hb
  clear hb
  have HW := hid (within_any n0 6 w1 (by omega) (by omega))
  rw [hn] at HW
  clear hn
  go_wp2_with fail
  refine HW.out.mono ?_
  rintro e w' ⟨rfl, rfl⟩
  have HCN := hid (count_ok n w1 (by omega))
  have hF1 := fact_pos n
  have hF2 : fact n ≤ 120 := Nat.le_trans (fact_mono (show n ≤ 5 by omega)) (by decide)
  have HEND := hid (evC_end hn6)
  have HR := hid (fun x => evR_lt n x)
  have HLEN := hid (fun x => evC_len n x)
  have HST : Hid (evC n 0 = List.replicate (fact n) 0) := rfl
  have HSC := hid (fun x => show evC n (x + 1) = (evC n x).set (evR n x) ((evC n x).getD (evR n x) 0 + 1) from rfl)
  clear HW
  generalize fact n = F at *
  have hmk : ∀ W : World, (Instr.makeSlice 22 (.int .i64 (F : Int)) (.int .i64 (F : Int))).run Try.prog W = .ok (.slice (some ⟨W.heap.size, 0, none⟩) F F) (W.alloc (.cells (madeCells #[.int .i64 0] F) 3)) :=
    fun W => run_make_row' (P := Try.prog) 22 3 (.int .i64 0) 8 Try.underlying22 infoInt rfl .i64 .i64 F (by omega) (by omega) W
  go_wp2_with fail
  refine HCN.out.mono ?_
  rintro e w' ⟨rfl, rfl⟩
  clear HCN
  have HM := hid (Arr.made w1 F)
  rw [← HST.out] at HM
  have HB2 := hid (below_step HB1.out (Nat.le_refl _) (below_alloc w1 (.cells (madeCells #[.int .i64 0] F) 3)))
  have hsz : w.heap.size ≤ w1.heap.size := HB1.out.size
  clear HB1 HST
  go_wp2_with fail
  clear hmk
  go_loopg [27] F (fun g xv wr => ∃ x : Nat, x ≤ F ∧ F - x ≤ g ∧ xv = .int .i64 (x : Int) ∧ Arr wr w1.heap.size (evC n x) ∧ Below w.heap.size w wr)
  case atStart => exact ⟨0, by omega, by omega, rfl, HM.out, HB2.out⟩
  case round =>
    obtain ⟨x, hx, hg, rfl, ha, hb⟩ := hrel
    have HA := hid ha
    have HB := hid hb
    clear ha hb HM HB2
    by_cases hlt : x < F
    · obtain ⟨wx, rfl⟩ : ∃ wx, wx = wr := ⟨_, rfl⟩
      have hgl := HA.out.lt
      go_wp2_with fail
      go_loopg [6, 7, 31] n (fun g sv lv iv wq => ∃ i : Nat, i ≤ n ∧ n - i ≤ g ∧ iv = .int .i64 (i : Int) ∧ sv = .int .i64 ((x / fact i : Nat) : Int) ∧ OwnInts wq wx.heap.size lv (evL i x) ∧ Below wx.heap.size wx wq)
      case atStart => exact ⟨0, by omega, by omega, rfl, by rw [show fact 0 = 1 from rfl, Nat.div_one], OwnInts.nil _ _, Below.refl _ _⟩
      case round =>
        obtain ⟨i, hi, hgi, rfl, rfl, ho, hb⟩ := hrel
        have HO := hid ho
        have HBQ := hid hb
        clear ho hb
        by_cases hin : i < n
        · have HX := hid (evL_step i x)
          have HD := hid (evL_len i x)
          have HF := hid (fact_step x i)
          have hq : x / fact i ≤ 120 := Nat.le_trans (Nat.div_le_self _ _) (by omega)
          generalize x / fact i = q at *
          generalize evL i x = L at *
          have HQ1 : Hid ((q : Int) % ((i : Int) + 1) = ((q % (i + 1) : Nat) : Int)) := by simp [Hid]
          have hq2 : x / fact (i + 1) ≤ 120 := by rw [← HF.out]; exact Nat.le_trans (Nat.div_le_self _ _) hq
          have HQ2 : Hid ((q : Int) / ((i : Int) + 1) = ((x / fact (i + 1) : Nat) : Int)) := by rw [← HF.out]; simp [Hid]
          have hb1 : 0 ≤ (q : Int) / ((i : Int) + 1) := by rw [HQ2.out]; exact Int.natCast_nonneg _
          have hb2 : (q : Int) / ((i : Int) + 1) ≤ 120 := by rw [HQ2.out]; omega
          clear HF hq2
          go_wp2_with (at_builtin; refine wpList_app1 _ rfl (.tmp 34) (.tmp 39) rfl wx.heap.size _ L ((q : Int) % ((i : Int) + 1)) rfl rfl HO.out (by rw [HD.out]; omega) HBQ.out.size ?_)
          intro v' w4 ho1 _ hb4
          rw [HQ1.out, ← HX.out] at ho1
          have HO1 := hid ho1
          have HB4 := hid (HBQ.out.trans hb4)
          clear ho1 hb4
          go_wp2
          go_roundg (n - (i + 1))
          case measure => omega
          case rel => exact ⟨i + 1, by omega, by omega, by go_num, by rw [← HQ2.out], HO1.out, HB4.out⟩
        · obtain rfl : i = n := by omega
          have HAQ := hid (HA.out.keep (HBQ.out.mono (Nat.le_refl _)))
          have HBW := hid (below_step HB.out (Nat.le_refl _) HBQ.out)
          have hl := evL_lots i x
          have HLE := hid (lotsErr_good (l := evL i x) (by rw [evL_len]; omega) hl)
          have HPE := hid (permErr_dealX HLE.out)
          have HRK : Hid (rk (dealX (evL i x)) = evR i x) := by rw [dealX_ok HLE.out]; exact rfl
          obtain ⟨A5, c5, rfl, hI5, -⟩ := HO.out.ints
          have HDL := hid (shDeal_any A5 (evL i x).length c5 (evL i x) wr hI5)
          rw [HLE.out, evL_len] at HDL
          rw [evL_len]
          have HPL : Hid ((dealX (evL i x)).length = i) := by rw [length_dealX HLE.out]; exact evL_len i x
          clear hl hI5 HO HBQ HA HB HLE
          generalize dealX (evL i x) = p at *
          go_wp2_with fail
          refine HDL.out.mono ?_
          rintro e w5 ⟨v5, rfl, ho, hb⟩
          have HB5 := hid (below_step HBW.out (Nat.le_refl _) hb)
          have HA5 := hid (HAQ.out.keep hb)
          obtain ⟨A6, c6, rfl, hI6, hk6⟩ := ho.ints
          have HOF := hid (of_ok A6 p.length c6 p w5 hI6 HPE.out hk6.1)
          rw [HRK.out] at HOF
          have hr := HR.out x
          have hev := evC_bd i x (evR i x)
          have HSX := hid (HSC.out x)
          have hln := HLEN.out x
          clear ho hb hI6 hk6 HDL HBW HAQ HRK
          generalize evR i x = r at *
          go_wp2_with fail
          refine HOF.out.mono ?_
          rintro e w6 ⟨rfl, hb⟩
          have HB6 := hid (below_step HB5.out (Nat.le_refl _) hb)
          have HA6 := hid (HA5.out.keep hb)
          clear hb HOF HB5 HA5
          have HG := hid (good_bel w6 #[.int .i64 0, .int .i64 0] 24 2 [0, 0] rfl rfl (by omega))
          rw [show allOK [0, 0] = true by decide] at HG
          have g0 := HA6.out.lt
          go_wp2_with fail
          refine HG.out.mono ?_
          rintro e w7 ⟨rfl, hb⟩
          have HB7 := hid (below_step HB6.out (Nat.le_refl _) hb)
          have HA7 := hid (HA6.out.keep hb)
          clear hb HG HB6 HA6
          have g1 := HA7.out.cell (j := r) (by rw [hln]; exact hr)
          have g2 := HA7.out.frozen r
          have HS := hid (HA7.out.set r ((evC i x).getD r 0 + 1))
          rw [← HSX.out] at HS
          have HBS := hid (fun v => HB7.out.setCell (p := ⟨w1.heap.size, r, none⟩) hsz v)
          clear HB7 HA7 HSX hln HEND HLEN HSC HR
          generalize (evC i x).getD r 0 = z at *
          go_wp2
          go_roundg (F - (x + 1))
          case measure => omega
          case rel => exact ⟨x + 1, by omega, by omega, by go_num, HS.out, HBS.out _⟩
    · obtain rfl : x = F := by omega
      have HI : Hid (Ints wr (some ⟨w1.heap.size, 0, none⟩) x (List.replicate x 1)) := by
        have := HA.out.ints0 x (by rw [HLEN.out]; exact Nat.le_refl _)
        rw [HEND.out, List.take_of_length_le (by rw [List.length_replicate]; exact Nat.le_refl _)] at this
        exact this
      have HMN := hid (min_ones _ x x wr HI.out hF1 (by omega))
      have HMX := hid (max_ones _ x x wr HI.out hF1 (by omega))
      clear HA HEND HR HLEN HSC HI
      go_wp2_with (first
        | (go_at_call 27; refine HMX.out.mono ?_; rintro e w' ⟨rfl, rfl⟩)
        | (go_at_call 26; refine HMN.out.mono ?_; rintro e w' ⟨rfl, rfl⟩))
      go_ret
      exact ⟨rfl, HB.out⟩

end Go.Proofs.Ytmdpfadfimodjaa
