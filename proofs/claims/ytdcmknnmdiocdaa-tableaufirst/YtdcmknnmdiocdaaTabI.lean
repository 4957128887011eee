/-
  tableau.insert: a number put into the rows (P38).
-/
import Derived.Test.YtdcmknnmdiocdaaGrid
import Derived.Test.YtdcmknnmdiocdaaTabM
namespace Go.Proofs.Ytdcmknnmdiocdaa
open Go.RowKit

theorem set_mid (D : List (List Int)) (r r' : List Int) (R : List (List Int)) {i : Nat} (hi : D.length = i) : (D ++ r :: R).set i r' = D ++ r' :: R := by
  subst hi
  rw [List.set_append_right _ _ (Nat.le_refl _), Nat.sub_self, List.set_cons_zero]
theorem getD_mid (D : List (List Int)) (r : List Int) (R : List (List Int)) {i : Nat} (hi : D.length = i) : (D ++ r :: R).getD i [] = r := by
  subst hi
  rw [List.getD_eq_getElem?_getD, List.getElem?_append_right (Nat.le_refl _), Nat.sub_self]
  rfl
theorem drop_rowT {T : List (List Int)} {i : Nat} (hi : i < T.length) : T.drop i = T.getD i [] :: T.drop (i + 1) := by
  rw [List.drop_eq_getElem_cons hi, List.getD_eq_getElem?_getD, List.getElem?_eq_getElem hi]
  rfl
theorem row_split {row : List Int} {k : Nat} (hk : k < row.length) : row = row.take k ++ row.getD k 0 :: row.drop (k + 1) := by
  conv => lhs; rw [← List.take_append_drop k row]
  rw [List.drop_eq_getElem_cons hk, List.getD_eq_getElem?_getD, List.getElem?_eq_getElem hk]
  rfl
theorem set_split {row : List Int} {k : Nat} (hk : k < row.length) (x : Int) : row.set k x = row.take k ++ x :: row.drop (k + 1) := by
  rw [List.set_eq_take_append_cons_drop, if_pos hk]
theorem take_lt_snoc {row : List Int} {k : Nat} {x : Int} (hk : k < row.length) (h : ∀ z ∈ row.take k, z < x) (hx : row.getD k 0 < x) : ∀ z ∈ row.take (k + 1), z < x := by
  intro z hz
  rw [take_snoc hk] at hz
  rcases List.mem_append.1 hz with h1 | h1
  · exact h z h1
  · rw [List.mem_singleton] at h1
    rw [h1]
    exact hx

def RetIns (base : Nat) (fp : Nat → Prop) (w : World) (T : List (List Int)) (x : Int) (e : Ending) (w' : World) : Prop :=
  ∃ v', e = .returned (.tuple #[v', .int .i64 ((tin T x).2 : Int)]) ∧ Grid w' base (fpN fp w.heap.size w'.heap.size) v' (tin T x).1 ∧ Only fp w w'

set_option maxHeartbeats 3200000 in
theorem insert_any (base : Nat) (fp : Nat → Prop) (v : Value) (T : List (List Int)) (x : Int) (w : World) (h : Grid w base fp v T) (hT : T.length ≤ 1000) (hR : ∀ j, (T.getD j []).length ≤ 1000) (hbase : base ≤ w.heap.size) :
    Calls Try.prog 31 #[v, .int .i64 x] w (RetIns base fp w T x) := by
  obtain ⟨A, c, hv, hcap⟩ := h.form
  subst hv
  have HG := hid h
  have HR := hid hR
  obtain ⟨n, hn⟩ : ∃ n, n = T.length := ⟨_, rfl⟩
  rw [← hn] at HG hT hcap ⊢
  have HN := hid hn
  clear h hR hn
  go_enter Try.func31, Try.ntmps31
  go_wp2
  go_loopg [1, 11] n (fun g s t wr => ∃ (i : Nat) (y : Int) (D : List (List Int)), i ≤ n ∧ n - i ≤ g ∧ s = .int .i64 y ∧ t = .int .i64 (i : Int) ∧ D.length = i ∧ Grid wr base fp (.slice A n c) (D ++ T.drop i) ∧ Only fp w wr ∧ tin T x = (D ++ (tin (T.drop i) y).1, i + (tin (T.drop i) y).2))
  case atStart => exact ⟨0, x, [], Nat.zero_le _, by omega, rfl, rfl, rfl, HG.out, Only.refl _ _, by simp⟩
  case round =>
    obtain ⟨i, y, D, hi, hg, rfl, rfl, hD, hgr, hon, htin⟩ := hrel
    have HD := hid hD
    have HGR := hid hgr
    have HON := hid hon
    have HT := hid htin
    clear hD hgr hon htin HG
    by_cases hlt : i < n
    · have HDR := hid (drop_rowT (T := T) (i := i) (by rw [← HN.out]; exact hlt))
      have hrl := HR.out i
      have hlen2 : i < (D ++ T.drop i).length := by rw [List.length_append, HD.out, HDR.out]; simp
      have HGD : Hid ((D ++ T.drop i).getD i [] = T.getD i []) := by rw [HDR.out]; exact getD_mid D _ _ HD.out
      obtain ⟨gb, cap, u, e1, hcell, hfrz, hu⟩ := HGR.out.at hlen2
      injection e1 with e1 e2 e3
      subst e1
      subst e3
      rw [HGD.out] at hu
      have HS := hid (fun h m c1 hu2 hm2 => HGR.out.store (h := h) (m := m) (c := c1) hlen2 hu2 hm2)
      have HRP := hid (fun w' u1 (ys : List Int) (hb1 : wr.grownBy w' u.ownBlock) (ho1 : OwnInts w' base u1 ys) hb2 => HGR.out.replace hlen2 hcell hb1 ho1 hb2 (Nat.le_trans hbase HON.out.size))
      have HSM : Hid (∀ r', (D ++ T.drop i).set i r' = (D ++ [r']) ++ T.drop (i + 1)) := fun r' => by
        rw [HDR.out, set_mid D _ r' _ HD.out]
        simp
      rw [HDR.out] at HT
      clear e2
      generalize hrow : T.getD i [] = row at *
      obtain ⟨Au, cu, rfl, hIu, hcu⟩ := hu.ints
      obtain ⟨m, hm⟩ : ∃ m, m = row.length := ⟨_, rfl⟩
      rw [← hm] at hIu hcu hcell hrl
      rw [← hm] at hu
      rw [← hm] at HRP
      have HM := hid hm
      have HU := hid hu
      have HIU := hid hIu
      clear hm hu hIu hrow hlen2
      go_wp2
      go_loopg [8] m (fun g s wq => ∃ k : Nat, k ≤ m ∧ m - k ≤ g ∧ s = .int .i64 (k : Int) ∧ wr = wq ∧ ∀ z ∈ row.take k, z < y)
      case atStart => exact ⟨0, Nat.zero_le _, by omega, rfl, rfl, by simp⟩
      case round =>
        obtain ⟨k, hk, hg2, rfl, rfl, hall⟩ := hrel
        have HA := hid hall
        clear hall
        by_cases hkm : k < m
        · obtain ⟨b, o, rfl, hb, hc⟩ := HIU.out.row (by omega)
          have g1 := hc k hkm
          have HKL : Hid (k < row.length) := by rw [← HM.out]; exact hkm
          clear hc
          by_cases hz : row.getD k 0 < y
          · have HTL := hid (take_lt_snoc HKL.out HA.out hz)
            generalize row.getD k 0 = z at *
            go_wp2
            go_roundg (m - (k + 1))
            case measure => omega
            case rel => exact ⟨k + 1, by omega, by omega, by go_num, rfl, HTL.out⟩
          · have hfo := HU.out.form (by rw [← HM.out]; omega)
            obtain ⟨gg, capg, e5, hg5, _, _⟩ := hfo
            injection e5 with e5 e6 e7
            injection e5 with e5
            injection e5 with e8 e9
            subst e8
            subst e9
            have hfz : wr.frozen? ⟨b, k, none⟩ = false := by
              have := HU.out
              rw [HM.out] at this
              exact this.frozen k
            rw [Nat.zero_add] at g1
            have HST := hid (HS.out b m cu hcell (by rw [HGD.out]; exact HM.out) k y)
            have HZ := hid hz
            have HSP := hid (row_split HKL.out)
            have HSS := hid (set_split HKL.out y)
            rw [HGD.out, HSM.out, HSS.out] at HST
            have HTA := hid (tin_at (x := y) (row.drop (k + 1)) (T.drop (i + 1)) HA.out hz)
            rw [← HSP.out] at HTA
            rw [HTA.out] at HT
            have hne : ((k : Int) == (m : Int)) = false := by simp; omega
            clear hcell hfrz e6 e7 hz
            generalize row.getD k 0 = z at *
            go_wp2
            go_roundg (n - (i + 1))
            case measure => omega
            case rel =>
              refine ⟨i + 1, z, D ++ [row.take k ++ y :: row.drop (k + 1)], by omega, by omega, rfl, by go_num, by rw [List.length_append, HD.out]; rfl, HST.out.1, HON.out.trans HST.out.2, ?_⟩
              rw [HT.out]
              simp only [List.append_assoc, List.singleton_append, Prod.mk.injEq, true_and]
              omega
        · have hkm2 : k = m := by omega
          subst hkm2
          have HAL : Hid (∀ z ∈ row, z < y) := by
            have := HA.out
            rwa [List.take_of_length_le (by rw [← HM.out]; exact Nat.le_refl _)] at this
          rw [tin_all _ HAL.out] at HT
          go_wp2_with (at_builtin; refine wpList_app1At _ rfl (.tmp 36) (.tmp 38) rfl base _ row y rfl rfl HU.out (by rw [← HM.out]; omega) (Nat.le_trans hbase HON.out.size) ?_)
          intro v1 w1 ho1 hb1 hb2
          obtain ⟨hgr2, hon2⟩ := HRP.out w1 v1 (row ++ [y]) hb1 ho1 hb2
          have hfrz1 : w1.frozen? ⟨gb, i, none⟩ = false := by
            have h1 := World.frozen?_of_block (a := ⟨gb, i, none⟩) (hb1.block gb (by
              have := HGR.out.bound
              obtain ⟨vals, hG⟩ := HGR.out
              exact (hG.bound gb (hG.inV gb rfl)).2) (fun e => by
              obtain ⟨vals, hG⟩ := HGR.out
              exact own_apart HU.out hG.own gb e.symm rfl))
            rw [h1]
            exact hfrz
          have HG2 := hid hgr2
          have HO2 := hid hon2
          obtain ⟨A1, c1, rfl, _, _⟩ := ho1.ints
          have hcell1 : ∃ u0, w1.cell? ⟨gb, i, none⟩ = some u0 := ⟨_, (World.cell?_of_block (a := ⟨gb, i, none⟩) (hb1.block gb (by
              obtain ⟨vals, hG⟩ := HGR.out
              exact (hG.bound gb (hG.inV gb rfl)).2) (fun e => by
              obtain ⟨vals, hG⟩ := HGR.out
              exact own_apart HU.out hG.own gb e.symm rfl))).trans hcell⟩
          obtain ⟨u0, hcell1⟩ := hcell1
          obtain ⟨q1, hq1⟩ : ∃ q1, q1 = (row ++ [y]).length := ⟨_, rfl⟩
          rw [← hq1] at HG2 HO2
          rw [← hq1]
          clear hq1
          clear ho1 hb1 hb2 hgr2 hon2 hcell hfrz
          go_wp2
          go_ret2
          refine ⟨.slice (some ⟨gb, 0, none⟩) n c, ?_, ?_, HON.out.trans HO2.out⟩
          · rw [HT.out]
            rfl
          · rw [HT.out]
            have h5 := HG2.out
            rw [HSM.out] at h5
            simp only [List.append_assoc, List.singleton_append] at h5
            refine h5.up ?_ ?_
            · intro k' hk'
              rcases hk' with hk' | hk'
              · exact .inl hk'
              · refine .inr ⟨Nat.le_trans HON.out.size hk'.1, ?_⟩
                have e : (w1.setCell ⟨gb, i, none⟩ (.slice A1 q1 c1)).heap.size = w1.heap.size := by simp [World.setCell]
                rw [e]
                exact hk'.2
            · intro k' hk'
              rcases hk' with hk' | hk'
              · exact h5.bound k' (.inl hk')
              · exact ⟨by omega, hk'.2⟩
    · have hin : i = n := by omega
      subst hin
      have HDE : Hid (T.drop i = []) := List.drop_of_length_le (by rw [← HN.out]; exact Nat.le_refl _)
      rw [HDE.out, List.append_nil] at HGR
      rw [HDE.out] at HT
      have hb0 : base ≤ wr.heap.size := Nat.le_trans hbase HON.out.size
      have HOY : Hid (OwnInts (wr.alloc (.cells #[.int .i64 y] 3)) base (.slice (some ⟨wr.heap.size, 0, none⟩) 1 1) [y]) := World.ownsRow_lit wr #[.int .i64 y] 1 hb0 (by unfold maxLen; omega) rfl
      have HGA := hid (HGR.out.keep (below_alloc wr (.cells #[.int .i64 y] 3)))
      have HBD := hid HGR.out.bound
      have hszv : (wr.alloc (.cells #[.int .i64 y] 3)).heap.size = wr.heap.size + 1 := by simp
      have HSZ := hid hszv
      clear hszv
      go_wp2_with (at_builtin; refine wpList_gridApp _ rfl (.tmp 52) (.tmp 55) rfl base fp _ D _ [y] rfl (by rw [HSZ.out]; rfl) HGA.out HOY.out (fun k hk e => by simp only [Value.ownBlock, Option.some.injEq] at hk; have := (HBD.out k e).2; omega) (by rw [HD.out]; omega) (by simp; omega) ?_)
      intro v1 w1 hg1 ho1
      have HG1 := hid hg1
      have HO1 := hid ho1
      obtain ⟨A1, c1, rfl, _⟩ := hg1.form
      obtain ⟨q1, hq1⟩ : ∃ q1, q1 = (D ++ [[y]]).length := ⟨_, rfl⟩
      rw [← hq1] at HG1
      rw [← hq1]
      clear hg1 ho1 hq1
      go_wp2
      go_ret2
      have hsz : (wr.alloc (.cells #[.int .i64 y] 3)).heap.size = wr.heap.size + 1 := by simp
      have hO2 : Only fp wr w1 := (Only.of_below (below_alloc wr _)).trans HO1.out
      refine ⟨.slice A1 q1 c1, ?_, ?_, HON.out.trans hO2⟩
      · rw [HT.out, tin_nil]
        rfl
      · rw [HT.out, tin_nil]
        refine HG1.out.up ?_ ?_
        · intro k' hk'
          have h8 := HG1.out.bound k' hk'
          rcases hk' with (hk' | hk') | hk'
          · exact .inl hk'
          · exact .inr ⟨by have := HON.out.size; omega, h8.2⟩
          · simp only [Value.ownBlock, Option.some.injEq] at hk'
            exact .inr ⟨by have := HON.out.size; omega, h8.2⟩
        · intro k' hk'
          rcases hk' with hk' | hk'
          · exact HG1.out.bound k' (.inl (.inl hk'))
          · exact ⟨by omega, hk'.2⟩

end Go.Proofs.Ytdcmknnmdiocdaa
