/-
  castref.PoolOf; castkeep.pools.
-/
import Derived.Test.YtaklchehamkgcaaPoolB
import Derived.Test.YtaklchehamkgcaaGen
import Derived.Deep.RegionHeld3
namespace Go.Proofs.Ytaklchehamkgcaa
open Go.RowKit

theorem lastP_end {k n p i : Nat} {l : List Int} (hl : IsLots l) (hn : l.length = n) (hp : p < min k n) (_hk : k ≤ i) (hi : i ≤ max k n) (hx : ¬ i < n) : ((lastP k l p i : Nat) : Int) = (pN k l n).getD p 0 := by
  rw [getD_pN hl n (by omega) (by omega)]
  by_cases c : k ≤ n
  · rw [show i = n by omega]
  · rw [lastP_low (m := n) (by omega), lastP_low (m := i) (by omega)]

set_option maxHeartbeats 800000 in
theorem poolOf_ok (k : Nat) (A : Option Addr) (n c : Nat) (l : List Int) (w : World) (h : Ints w A n l) (he : poErr (k : Int) l = 0) :
    Calls Try.prog 14 #[.int .i64 (k : Int), .slice A n c] w (RetOwn w (pN k l n)) := by
  obtain ⟨hk, hn, hl⟩ := poErr_ok.1 he
  rw [h.len] at hn
  have HL := hid h.len
  have HI := hid h
  have HEND := hid (fun (p i : Nat) => lastP_end (p := p) (i := i) hl h.len (k := k))
  have HLEN := hid (pN_len k l n)
  have hmin := run_minNN (P := Try.prog) k n (min k n) rfl
  obtain ⟨hk1, hk2⟩ := hk
  have hmm : min n k = min k n := Nat.min_comm _ _
  rw [hmm] at HLEN
  have hm1 : min k n ≤ n := by omega
  have hm2 : min k n ≤ k := by omega
  clear h he hl hmm
  generalize min k n = mm at *
  go_enter Try.func14, Try.ntmps14
  go_wp2
  go_loopg [5, 6, 7, 8, 13] mm (fun g v _ _ _ s wr => ∃ p : Nat, p ≤ mm ∧ mm - p ≤ g ∧ s = .int .i64 p ∧ OwnInts wr w.heap.size v ((pN k l n).take p) ∧ Below w.heap.size w wr)
  case atStart => exact ⟨0, Nat.zero_le _, by omega, rfl, OwnInts.nil _ _, Below.refl _ _⟩
  case round =>
    obtain ⟨p, hp, hg, rfl, hown, hbel⟩ := hrel
    have HO := hid hown
    have HB := hid hbel
    clear hown hbel
    by_cases hlt : p < mm
    · have HX := hid (take_snoc (l := pN k l n) (k := p) (by rw [HLEN.out]; exact hlt))
      have HE := hid (fun i => HEND.out p i hlt)
      have HD : Hid (((pN k l n).take p).length = p) := by rw [Hid, List.length_take, HLEN.out]; omega
      have HST := hid (lastP_low (k := k) (l := l) (p := p) (m := k) (Nat.le_refl _))
      generalize (pN k l n).getD p 0 = z at HX HE
      generalize (pN k l n).take p = P at *
      obtain ⟨wx, rfl⟩ : ∃ wx, wx = wr := ⟨_, rfl⟩
      go_wp2
      go_loopg [7, 8] (max k n - k) (fun g u s wq => ∃ i : Nat, k ≤ i ∧ i ≤ max k n ∧ max k n - i ≤ g ∧ s = .int .i64 i ∧ u = .int .i64 ((lastP k l p i : Nat) : Int) ∧ wq = wx)
      case atStart => exact ⟨k, Nat.le_refl _, by omega, by omega, rfl, by rw [HST.out], rfl⟩
      case round =>
        obtain ⟨i, hi1, hi2, hgi, rfl, rfl, rfl⟩ := hrel
        by_cases hin : i < n
        · obtain ⟨b, o, rfl, hb, hc⟩ := HI.out.row (by omega)
          have g1 : wr.cell? ⟨b, o + i, none⟩ = some (.int .i64 (l.getD i 0)) := (HB.out.cell (p := ⟨b, o + i, none⟩) hb).trans (hc i hin)
          have HS : Hid (lastP k l p (i + 1) = if k ≤ i ∧ l.getD i 0 = (p : Int) then i else lastP k l p i) := rfl
          clear hc
          generalize l.getD i 0 = x at g1 HS
          generalize lastP k l p i = q at *
          by_cases hx : x = (p : Int)
          · rw [if_pos ⟨hi1, hx⟩] at HS
            subst hx
            have hz : ((p : Int) == (p : Int)) = true := by simp
            go_wp2
            go_roundg (max k n - (i + 1))
            case measure => omega
            case rel => exact ⟨i + 1, by omega, by omega, by omega, by go_num, by rw [HS.out], rfl⟩
          · rw [if_neg (fun h => hx h.2)] at HS
            have hz : (x == (p : Int)) = false := by simpa using hx
            go_wp2
            go_roundg (max k n - (i + 1))
            case measure => omega
            case rel => exact ⟨i + 1, by omega, by omega, by omega, by go_num, by rw [HS.out], rfl⟩
        · have HZ := hid (HE.out i hi1 hi2 hin)
          generalize lastP k l p i = q at *
          go_wp2_with (at_builtin; refine wpList_app1 _ rfl (.tmp 31) (.tmp 33) rfl w.heap.size _ P (q : Int) rfl rfl HO.out (by rw [HD.out]; omega) HB.out.size ?_)
          intro v' w1 hown1 _ hbel1
          rw [HZ.out, ← HX.out] at hown1
          have HB1 := hid (HB.out.trans hbel1)
          have HO1 := hid hown1
          clear hown1 hbel1 HO HB
          go_wp2
          go_roundg (mm - (p + 1))
          case measure => omega
          case rel => exact ⟨p + 1, by omega, by omega, by go_num, HO1.out, HB1.out⟩
    · obtain rfl : p = mm := by omega
      have HT : Hid ((pN k l n).take p = pN k l n) := List.take_of_length_le (by rw [HLEN.out]; exact Nat.le_refl _)
      rw [HT.out] at HO
      go_wp2
      go_ret
      exact ⟨_, rfl, HO.out, HB.out⟩

set_option maxHeartbeats 1000000 in
theorem pools_any (w : World) : Calls Try.prog 17 #[] w fun e w' => e = .returned (.bool true) ∧ Below w.heap.size w w' := by
  have HC := hid (poRun_any 2 _ 4 4 [0, 0, 1, 3] _ (ints_lit w #[.int .i64 0, .int .i64 0, .int .i64 1, .int .i64 3] 3 4 [0, 0, 1, 3] rfl rfl))
  rw [show poErr 2 [0, 0, 1, 3] = 0 by decide, show poolX 2 [0, 0, 1, 3] = [0, 2] by decide] at HC
  have HB := hid (below_alloc w (.cells #[.int .i64 0, .int .i64 0, .int .i64 1, .int .i64 3] 3))
  have HWY := hid (fun W => ways_ok 4 2 W (by omega) (by omega))
  rw [show wyN 4 2 = 4 by decide +kernel] at HWY
  have HG := hid (fun W : World => good_bel W #[.int .i64 0, .int .i64 0] 23 2 [0, 0] rfl rfl (by omega))
  rw [show allOK [0, 0] = true by decide] at HG
  go_enter Try.func17, Try.ntmps17
  go_wp2_with fail
  refine HC.out.mono ?_
  rintro e w1 ⟨v, rfl, ho, hb⟩
  have HB1 := hid (below_step HB.out (Nat.le_refl _) hb)
  obtain ⟨A1, c1, rfl, hI1, -⟩ := ho.ints
  have HI1 := hid hI1
  clear ho hb hI1 HC HB
  go_wp2_with fail
  refine (HWY.out w1).mono ?_
  rintro e w' ⟨rfl, rfl⟩
  go_wp2_with fail
  refine (HG.out w1).mono ?_
  rintro e w2 ⟨rfl, hb⟩
  have HB2 := hid (below_step HB1.out (Nat.le_refl _) hb)
  have HI2 := hid ((HI1.out.keep hb).keep (below_alloc w2 (.cells #[.int .i64 0, .int .i64 2] 3)))
  have HI3 := hid (ints_lit w2 #[.int .i64 0, .int .i64 2] 3 2 [0, 2] rfl rfl)
  have HB3 := hid (below_step HB2.out (Nat.le_refl _) (below_alloc w2 (.cells #[.int .i64 0, .int .i64 2] 3)))
  clear hb HB1 HB2 HI1 HG HWY
  go_wp2_with fail
  refine (equal_bel _ _ c1 _ 2 2 _ _ _ HI2.out HI3.out (by simp) (by omega)).mono ?_
  rintro e w3 ⟨rfl, hb⟩
  have HB4 := hid (below_step HB3.out (Nat.le_refl _) hb)
  clear hb HB3 HI2 HI3
  rw [show decide (([0, 2] : List Int) = [0, 2]) = true by decide]
  go_wp2
  go_ret
  exact ⟨rfl, HB4.out⟩

end Go.Proofs.Ytaklchehamkgcaa
