/-
  Proved: castkeep.RankTurned returns true whatever its argument.
-/
import Derived.Test.YtclhglbkgjgafaaRankD
import Derived.Test.YtclhglbkgjgafaaAll
namespace Go.Proofs.Ytclhglbkgjgafaa
open Go.RowKit

theorem isPerm_turned {p : List Int} {m : Nat} (hp : IsPerm p) (hl : p.length = m) : IsPerm (p.map (fun v => (m : Int) - 1 - v)) := by
  refine isPerm_of_nodup ?_ ?_
  · unfold List.Nodup
    rw [List.pairwise_map]
    exact hp.nodup.imp (fun h => by omega)
  · intro y hy
    obtain ⟨a, ha, rfl⟩ := List.mem_map.1 hy
    have := hp.range ha
    rw [List.length_map, hl]
    rw [hl] at this
    omega

set_option maxHeartbeats 2000000 in
set_option maxRecDepth 100000 in
theorem rankTurned_any (A0 : Option Addr) (n0 c0 : Nat) (x0 : List Int) (w : World) (h0 : Ints w A0 n0 x0) (hc0 : n0 ≤ c0) (_hm0 : c0 ≤ maxLen) :
    Calls Try.prog 7 #[.slice A0 n0 c0] w fun e w' => e = .returned (.bool true) ∧ Below w.heap.size w w' := by
  unfold maxLen at _hm0
  obtain ⟨m, hm⟩ : ∃ m, m = min n0 10 := ⟨_, rfl⟩
  have hm10 : m ≤ 10 := by omega
  have HM := hid hm
  clear hm
  have HB0 := hid (Below.refl w.heap.size w)
  have HA0 : Hid (All w [(A0, n0, x0)]) := ⟨h0, trivial⟩
  clear h0
  go_enter Try.func7, Try.ntmps7
  go_wp2_with fail
  refine (ranks_any _).mono ?_
  rintro e w1 ⟨rfl, hb⟩
  have HB1 := hid (below_step HB0.out (Nat.le_refl _) hb)
  have HA1 : Hid (All w1 [(A0, n0, x0)]) := HA0.out.keep hb
  clear HA0 HB0
  clear hb
  go_wp2_with fail
  refine (permOf_ten A0 n0 c0 m x0 _ HA1.out.1 hc0 HM.out).mono ?_
  rintro e w2 ⟨A, c, p, rfl, hp, hI, hcap, hb⟩
  have HP := hid (hp)
  have HC := hid (hcap.1)
  have HB2 := hid (below_step HB1.out (Nat.le_refl _) hb)
  have HA2 : Hid (All w2 [(A, m, p), (A0, n0, x0)]) := ⟨hI, HA1.out.keep hb⟩
  clear HA1 HB1
  clear hb hI hcap hp
  have HL : Hid (p.length = m) := HA2.out.1.len
  go_wp2_with fail
  go_loopg [4, 19] m (fun g v s wr => ∃ k : Nat, k ≤ m ∧ m - k ≤ g ∧ s = .int .i64 k ∧ OwnInts wr w2.heap.size v ((p.map (fun v => (m : Int) - 1 - v)).take k) ∧ Below w2.heap.size w2 wr)
  case atStart => exact ⟨0, Nat.zero_le _, by omega, rfl, OwnInts.nil _ _, Below.refl _ _⟩
  case round =>
    obtain ⟨k, hk, hg, rfl, hown, hbel⟩ := hrel
    have HO := hid hown
    have HB := hid hbel
    clear hown hbel
    by_cases hlt : k < m
    · obtain ⟨b2, o2, rfl, hb2, hcell2⟩ := (show Ints wr A m p from HA2.out.1.keep HB.out).row (by omega)
      have g2 := hcell2 k hlt
      have hy := HP.out.range (getD_mem (xs := p) (i := k) (by rw [HL.out]; exact hlt))
      rw [HL.out] at hy
      have HT : Hid ((p.map (fun v => (m : Int) - 1 - v)).take (k + 1) = (p.map (fun v => (m : Int) - 1 - v)).take k ++ [(m : Int) - 1 - p.getD k 0]) := by
        rw [take_snoc (by rw [List.length_map, HL.out]; exact hlt)]
        have : (p.map (fun v => (m : Int) - 1 - v)).getD k 0 = (m : Int) - 1 - p.getD k 0 := by simp [List.getD_eq_getElem?_getD, List.getElem?_eq_getElem (show k < p.length by rw [HL.out]; exact hlt)]
        rw [this]; exact rfl
      have HPL : Hid (((p.map (fun v => (m : Int) - 1 - v)).take k).length = k) := by rw [List.length_take, List.length_map, HL.out]; exact Nat.min_eq_left hk
      clear hcell2 hb2
      generalize p.getD k 0 = y at g2 hy HT
      generalize (p.map (fun v => (m : Int) - 1 - v)).take k = P at HO HT HPL
      go_wp2_with (at_builtin; refine wpList_app1 _ rfl (.tmp 23) (.tmp 29) rfl w2.heap.size _ P ((m : Int) - 1 - y) rfl rfl HO.out (by rw [HPL.out]; omega) HB.out.size ?_)
      intro v' w1 hown1 _ hbel1
      have HB1 := hid (HB.out.trans hbel1)
      have HO1 := hid hown1
      clear hown1 hbel1 HO HB
      go_wp2
      go_roundg (m - (k + 1))
      case measure => omega
      case rel => exact ⟨k + 1, by omega, by omega, by go_num, by rw [HT.out]; exact HO1.out, HB1.out⟩
    · have hkm : k = m := by omega
      have HKM := hid hkm
      clear hkm
      obtain ⟨w3, rfl⟩ : ∃ w3, w3 = wr := ⟨wr, rfl⟩
      have hb := HB.out
      have hO : OwnInts w3 w2.heap.size u4 (p.map (fun v => (m : Int) - 1 - v)) := by
        have := HO.out
        rwa [List.take_of_length_le (by rw [List.length_map, HL.out, HKM.out]; exact Nat.le_refl _)] at this
      obtain ⟨B, cB, hv, hI, hcapB⟩ := hO.ints
      have HML : Hid ((p.map (fun v => (m : Int) - 1 - v)).length = m) := by rw [List.length_map]; exact HL.out
      rw [HML.out] at hv hI hcapB
      subst hv
      have HB3 := hid (below_step HB2.out (Nat.le_refl _) hb)
      have HA3 : Hid (All w3 [(B, m, p.map (fun v => (m : Int) - 1 - v)), (A, m, p), (A0, n0, x0)]) := ⟨hI, HA2.out.keep hb⟩
      clear HA2 HB2
      have HCB := hid hcapB.1
      have HPT : Hid (IsPerm (p.map (fun v => (m : Int) - 1 - v))) := isPerm_turned HP.out HL.out
      have HR := hid (rk_turned (n := (m : Int) - 1) HP.out.nodup)
      have HF := hid (fact_ten hm10)
      have HE1 : Hid (permErr p = 0) := permErr_of HP.out (by rw [HL.out]; exact hm10)
      have HE2 : Hid (permErr (p.map (fun v => (m : Int) - 1 - v)) = 0) := permErr_of HPT.out (by rw [HML.out]; exact hm10)
      rw [HL.out] at HR
      clear hI hb hcapB hO HO HB
      generalize p.map (fun v => (m : Int) - 1 - v) = q at *
      go_wp2_with fail
      refine (of_ok A m c p _ HA3.out.2.1 HE1.out HC.out).mono ?_
      rintro e w4 ⟨rfl, hb⟩
      have HB4 := hid (below_step HB3.out (Nat.le_refl _) hb)
      have HA4 : Hid (All w4 [(B, m, q), (A, m, p), (A0, n0, x0)]) := HA3.out.keep hb
      clear HA3 HB3
      clear hb
      go_wp2_with fail
      refine (of_ok B m cB q _ HA4.out.1 HE2.out HCB.out).mono ?_
      rintro e w5 ⟨rfl, hb⟩
      have HB5 := hid (below_step HB4.out (Nat.le_refl _) hb)
      have HA5 : Hid (All w5 [(B, m, q), (A, m, p), (A0, n0, x0)]) := HA4.out.keep hb
      clear HA4 HB4
      clear hb
      go_wp2_with fail
      refine (count_ok m _ hm10).mono ?_
      rintro e w' ⟨rfl, rfl⟩
      have h1 : ((rk p : Nat) : Int) + ((rk q : Nat) : Int) = ((fact m : Nat) : Int) - 1 := by have := HR.out; omega
      have h2 := HF.out
      have HS : Hid ((((rk p : Nat) : Int) + ((rk q : Nat) : Int) == ((fact m : Nat) : Int) - 1) = true) := by show _ = true; rw [h1]; simp
      have hp0 : ((rk p : Nat) : Int) + ((rk q : Nat) : Int) ≤ 3628800 := by omega
      have hq0 : 0 ≤ ((fact m : Nat) : Int) := by omega
      have hq1 : ((fact m : Nat) : Int) ≤ 3628800 := by omega
      clear h1 h2 HR HF
      go_wp2_with fail
      refine (good_bel w5 _ _ 3 [0, 0, 0] rfl rfl (by omega)).mono ?_
      rintro e w_good1 ⟨rfl, hb⟩
      have HB6 := hid (below_step HB5.out (Nat.le_refl _) hb)
      have HA6 : Hid (All w_good1 [(B, m, q), (A, m, p), (A0, n0, x0)]) := HA5.out.keep hb
      clear HA5 HB5
      clear hb
      rw [show allOK [0, 0, 0] = true by decide]
      have hs := HS.out
      go_wp2
      go_ret
      exact ⟨rfl, HB6.out⟩

end Go.Proofs.Ytclhglbkgjgafaa
