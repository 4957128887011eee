/-
  tableau.remove, tableau.rowOfEach.
-/
import Derived.Test.YteffbhdhldilnaaTabD
import Derived.Test.YteffbhdhldilnaaTabI
namespace Go.Proofs.Yteffbhdhldilnaa
open Go.RowKit

theorem trem_drop {T : List (List Int)} {g j : Nat} (hj : j < g) (hg : g < T.length) :
    trem (T.drop j) (g - j) = ((rout (trem (T.drop (j + 1)) (g - (j + 1))).2 (T.getD j [])).1 :: (trem (T.drop (j + 1)) (g - (j + 1))).1, (rout (trem (T.drop (j + 1)) (g - (j + 1))).2 (T.getD j [])).2) := by
  rw [drop_rowT (T := T) (i := j) (by omega), show g - j = (g - (j + 1)) + 1 by omega, trem]
theorem trem_base {T : List (List Int)} {g : Nat} (hg : g < T.length) : trem (T.drop g) (g - g) = ((T.getD g []).dropLast :: T.drop (g + 1), (T.getD g []).getLastD 0) := by
  rw [drop_rowT hg, Nat.sub_self, trem]
theorem set_take {T : List (List Int)} {g : Nat} (hg : g < T.length) (r : List Int) : T.set g r = T.take g ++ r :: T.drop (g + 1) := by
  rw [List.set_eq_take_append_cons_drop, if_pos hg]
theorem take_split {T : List (List Int)} {j : Nat} (hj : j < T.length) (S : List (List Int)) (r : List Int) : (T.take (j + 1) ++ S).set j r = T.take j ++ r :: S := by
  have e : T.take (j + 1) = T.take j ++ [T.getD j []] := by
    rw [List.take_succ_eq_append_getElem hj, List.getD_eq_getElem?_getD, List.getElem?_eq_getElem hj]
    rfl
  rw [e, List.append_assoc, List.singleton_append]
  exact set_mid _ _ _ _ (by rw [List.length_take]; omega)
theorem take_getD {T : List (List Int)} {j : Nat} (hj : j < T.length) (S : List (List Int)) : (T.take (j + 1) ++ S).getD j [] = T.getD j [] := by
  rw [List.getD_eq_getElem?_getD, List.getElem?_append_left (by rw [List.length_take]; omega), List.getElem?_take_of_lt (by omega), ← List.getD_eq_getElem?_getD]
theorem rpos_step {row : List Int} {y : Int} {k : Nat} (h : y < row.getD (k + 1) 0) : rpos row y (k + 1) = rpos row y k := by rw [rpos, if_pos h]
theorem rpos_stop {row : List Int} {y : Int} {k : Nat} (h : ¬ y < row.getD k 0) : rpos row y k = k := by
  cases k with
  | zero => rfl
  | succ k => rw [rpos, if_neg h]
theorem last_getD {r : List Int} {m : Nat} (h : r.length = m + 1) : r.getD m 0 = r.getLastD 0 := by
  rcases List.eq_nil_or_concat r with rfl | ⟨l, x, rfl⟩
  · simp at h
  · rw [List.concat_eq_append] at *
    have hm : m = l.length := by simp at h; omega
    subst hm
    rw [getD_mid0]
    simp

def RetRem (base : Nat) (fp : Nat → Prop) (w : World) (v : Value) (T : List (List Int)) (g : Nat) (e : Ending) (w' : World) : Prop :=
  e = .returned (.int .i64 (trem T g).2) ∧ Grid w' base fp v (trem T g).1 ∧ Only fp w w'

set_option maxHeartbeats 3200000 in
theorem remove_any (base : Nat) (fp : Nat → Prop) (v : Value) (T : List (List Int)) (g : Nat) (w : World) (h : Grid w base fp v T) (hT : T.length ≤ 1000) (hR : ∀ j, (T.getD j []).length ≤ 1000) (hg : g < T.length) (hne : ∀ j, j ≤ g → (T.getD j []).length ≠ 0) (hbase : base ≤ w.heap.size) :
    Calls Try.prog 36 #[v, .int .i64 (g : Int)] w (RetRem base fp w v T g) := by
  obtain ⟨gb, cap, u, hv, hcell, hfrz, hu⟩ := h.at hg
  subst hv
  have hng := hne g (Nat.le_refl _)
  obtain ⟨hb, cu, hue, _, _, hcu⟩ := hu.form (by omega)
  subst hue
  obtain ⟨n, hn⟩ : ∃ n, n = T.length := ⟨_, rfl⟩
  obtain ⟨m, hm⟩ : ∃ m, (T.getD g []).length = m + 1 := ⟨(T.getD g []).length - 1, by omega⟩
  have hmr := hR g
  rw [hm] at hmr hcu hcell hu
  have g2 : w.cell? ⟨hb, m, none⟩ = some (.int .i64 ((T.getD g []).getLastD 0)) := by
    rw [← last_getD hm]
    have hu' := hu
    rw [← hm] at hu'
    exact hu'.cell (by omega)
  have HB := hid (trem_base hg)
  have hrep := h.replace (w' := w) (u' := .slice (some ⟨hb, 0, none⟩) m cu) (ys := (T.getD g []).dropLast) hg hcell (one_refl2 w _) (by
    have := hu.cut m (by omega)
    rwa [show (T.getD g []).take m = (T.getD g []).dropLast by rw [List.dropLast_eq_take, hm, Nat.add_sub_cancel]] at this) (.inl rfl) hbase
  obtain ⟨hG1, hO1⟩ := hrep
  have hG1' : Grid (w.setCell ⟨gb, g, none⟩ (.slice (some ⟨hb, 0, none⟩) m cu)) base fp (.slice (some ⟨gb, 0, none⟩) n cap) (T.take g ++ (trem (T.drop g) (g - g)).1) := by
    rw [HB.out, ← set_take hg, hn]
    refine hG1.up (fun k hk => ?_) (fun k hk => ?_)
    · rcases hk with hk | hk
      · exact hk
      · omega
    · exact hG1.bound k (.inl hk)
  have HG1 := hid hG1'
  have HO1 := hid hO1
  have HN := hid hn
  have HR := hid hR
  have HNE := hid hne
  have hgn : g < n := by omega
  have hm1 : m < m + 1 := by omega
  have hmc : m ≤ cu := by omega
  have HL2 : Hid ((trem (T.drop g) (g - g)).2 = (T.getD g []).getLastD 0) := by rw [HB.out]; exact rfl
  rw [← hn] at hT ⊢
  have HGT : Hid (g < T.length) := hg
  clear h hu hR hne hn hm hG1 hG1' hO1 HB hng
  generalize (T.getD g []).getLastD 0 = z at *
  go_enter Try.func36, Try.ntmps36
  go_wp2
  obtain ⟨w8, hw8⟩ : ∃ w8, w8 = w.setCell ⟨gb, g, none⟩ (.slice (some ⟨hb, 0, none⟩) m cu) := ⟨_, rfl⟩
  rw [← hw8] at HG1 HO1
  rw [← hw8]
  clear hw8 hcell hfrz g2
  go_loopg [6, 7] g (fun gh s t wr => ∃ k : Nat, k ≤ g ∧ k ≤ gh ∧ t = .int .i64 ((k : Int) - 1) ∧ s = .int .i64 (trem (T.drop k) (g - k)).2 ∧ Grid wr base fp (.slice (some ⟨gb, 0, none⟩) n cap) (T.take k ++ (trem (T.drop k) (g - k)).1) ∧ Only fp w wr)
  case atStart => exact ⟨g, Nat.le_refl _, Nat.le_refl _, by go_num, by rw [HL2.out], HG1.out, HO1.out⟩
  case round =>
    obtain ⟨k, hk, hgh, rfl, rfl, hgr, hon⟩ := hrel
    have HGR := hid hgr
    have HON := hid hon
    clear hgr hon HG1 HO1
    rcases k with _ | j
    · have hlt0 : ¬ (0 : Int) ≤ -1 := by omega
      rw [List.take_zero, List.nil_append, List.drop_zero, Nat.sub_zero] at HGR
      rw [List.drop_zero, Nat.sub_zero]
      rw [show (((0 : Nat) : Int) - 1) = -1 by omega]
      generalize hx : (trem T g).2 = x
      have HX := hid hx
      clear hx
      go_wp2
      go_ret
      refine ⟨?_, HGR.out, HON.out⟩
      rw [HX.out]
      rfl
    · rw [show (((j + 1 : Nat) : Int) - 1) = (j : Int) by omega]
      have HTD := hid (trem_drop (T := T) (g := g) (j := j) (by omega) HGT.out)
      have hjT : j < T.length := by have := HGT.out; omega
      have hlen2 : j < (T.take (j + 1) ++ (trem (T.drop (j + 1)) (g - (j + 1))).1).length := by rw [List.length_append, List.length_take]; omega
      have HGD := hid (take_getD hjT (trem (T.drop (j + 1)) (g - (j + 1))).1)
      have HSM := hid (take_split hjT (trem (T.drop (j + 1)) (g - (j + 1))).1)
      have hnj := HNE.out j (by omega)
      have hrl := HR.out j
      obtain ⟨gb2, cap2, u, e1, hcell, hfrz, hu⟩ := HGR.out.at hlen2
      injection e1 with e1 e2 e3
      injection e1 with e1
      injection e1 with e1 _
      subst e1
      rw [HGD.out] at hu
      have HS := hid (fun h m c1 hu2 hm2 => HGR.out.store (h := h) (m := m) (c := c1) hlen2 hu2 hm2)
      clear e2 e3
      generalize (trem (T.drop (j + 1)) (g - (j + 1))).2 = y at *
      generalize (trem (T.drop (j + 1)) (g - (j + 1))).1 = S at *
      generalize T.getD j [] = row at *
      obtain ⟨h2, c2, rfl, _, hlt2, hc2⟩ := hu.form (by omega)
      obtain ⟨p, hp⟩ : ∃ p, row.length = p + 1 := ⟨row.length - 1, by omega⟩
      have HU := hid hu
      have HP := hid hp
      rw [hp] at hcell hrl
      have hwr : IntKind.i64.wrap (((p + 1 : Nat) : Int) - 1) = (p : Int) := by rw [IntWalk.i64_in _ (by omega)]; omega
      have hjn : j < n := by omega
      clear hu hp hlen2 hnj hc2
      go_wp2
      go_loopg [9] p (fun gh s wq => ∃ q : Nat, q ≤ p ∧ q ≤ gh ∧ s = .int .i64 (q : Int) ∧ wr = wq ∧ rpos row y p = rpos row y q)
      case atStart => exact ⟨p, Nat.le_refl _, Nat.le_refl _, by go_num, rfl, rfl⟩
      case round =>
        obtain ⟨q, hq, hgh2, rfl, rfl, hrp⟩ := hrel
        have HRP := hid hrp
        clear hrp
        have g4 : wr.cell? ⟨h2, q, none⟩ = some (.int .i64 (row.getD q 0)) := by
          have := HU.out
          exact this.cell (by rw [HP.out]; omega)
        have f4 : wr.frozen? ⟨h2, q, none⟩ = false := HU.out.frozen q
        have hqp : q < p + 1 := by omega
        by_cases hgo : 0 < q ∧ y < row.getD q 0
        · obtain ⟨r, hr⟩ : ∃ r, q = r + 1 := ⟨q - 1, by omega⟩
          have HST : Hid (rpos row y q = rpos row y r) := by rw [hr] at hgo ⊢; exact rpos_step hgo.2
          have hd : decide (0 < q) = true := by simp; omega
          have hlt4 := hgo.2
          have hwq : IntKind.i64.wrap ((q : Int) - 1) = (r : Int) := by rw [IntWalk.i64_in _ (by omega)]; omega
          have HRR := hid hr
          clear hr hgo
          generalize row.getD q 0 = z at *
          go_wp2
          go_roundg r
          case measure => have := HRR.out; omega
          case rel => exact ⟨r, by have := HRR.out; omega, by omega, by have := HRR.out; go_num, rfl, by rw [HRP.out, HST.out]⟩
        · have HPQ : Hid (rpos row y p = q) := by
            rw [HRP.out]
            rcases Nat.eq_zero_or_pos q with h0 | h0
            · rw [h0]; exact rfl
            · exact rpos_stop (fun h5 => hgo ⟨h0, h5⟩)
          have HRO : Hid (rout y row = (row.set q y, row.getD q 0)) := by
            unfold rout
            rw [HP.out, Nat.add_sub_cancel, HPQ.out]
            exact rfl
          have HST := hid (HS.out h2 (p + 1) c2 hcell (by rw [HGD.out]; exact HP.out.symm) q y)
          rw [HGD.out, HSM.out] at HST
          rw [HRO.out] at HTD
          by_cases h0 : 0 < q
          · have hd : decide (0 < q) = true := by simp; omega
            have hnl : ¬ y < row.getD q 0 := fun h5 => hgo ⟨h0, h5⟩
            clear hgo
            generalize row.getD q 0 = z at *
            go_wp2
            go_roundg j
            case measure => omega
            case rel =>
              refine ⟨j, by omega, Nat.le_refl _, by go_num, by rw [HTD.out], ?_, HON.out.trans HST.out.2⟩
              rw [HTD.out]
              exact HST.out.1
          · have hq0 : q = 0 := by omega
            subst hq0
            clear hgo
            generalize row.getD 0 0 = z at *
            go_wp2
            go_roundg j
            case measure => omega
            case rel =>
              refine ⟨j, by omega, Nat.le_refl _, by go_num, by rw [HTD.out], ?_, HON.out.trans HST.out.2⟩
              rw [HTD.out]
              exact HST.out.1

end Go.Proofs.Yteffbhdhldilnaa
