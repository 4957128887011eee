/-
  castref.Halved: each even number is two halves, again and again (P21).
-/
import Derived.Test.YteegddpoekphoaaDoorPartX
namespace Go.Proofs.YteegddpoekphoaaDoor
open Go.RowKit

theorem flat_append (a b : List Nat) : flat (a ++ b) = flat a ++ flat b := by simp [flat]
theorem flat_one (x : Nat) : flat [x] = List.replicate (pwr x) (odp x) := by simp [flat]
theorem length_flat (m : List Nat) : (flat m).length ≤ 32 * m.length := by
  induction m with
  | nil => simp [flat]
  | cons x m ih =>
    have e : flat (x :: m) = List.replicate (pwr x) (odp x) ++ flat m := by simp [flat]
    rw [e, List.length_append, List.length_replicate, List.length_cons]
    have := pwr_le x
    omega
theorem ofN_replicate (m d : Nat) : ofN (List.replicate m d) = List.replicate m (d : Int) := by simp [ofN]
theorem srt_replicate (m d : Nat) : (srt (ofN (List.replicate m d))).reverse = ofN (List.replicate m d) := by
  rw [ofN_replicate]
  have hp : (srt (List.replicate m (d : Int))).reverse.Perm (List.replicate m (d : Int)) := (List.reverse_perm _).trans (perm_srt _)
  refine List.eq_replicate_iff.2 ⟨by rw [hp.length_eq, List.length_replicate], fun b hb => ?_⟩
  exact (List.mem_replicate.1 (hp.mem_iff.1 hb)).2
theorem flat_half {x : Nat} (h0 : 0 < x) (h : x ≤ 40) (he : x % 2 = 0) : flat [x / 2, x / 2] = flat [x] := by
  obtain ⟨a, b, _⟩ := half_at h0 h he
  have e : flat [x / 2, x / 2] = List.replicate (pwr (x / 2)) (odp (x / 2)) ++ List.replicate (pwr (x / 2)) (odp (x / 2)) := by simp [flat]
  rw [e, flat_one, a, List.replicate_append_replicate]
  congr 1
  omega

/-- What Halved does, where each number is halved at most t times. -/
def HalvedTo (t : Nat) : Prop := ∀ (A : Option Addr) (n c : Nat) (ns : List Nat) (w : World), Ints w A n (ofN ns) → n ≤ 40 → (∀ x ∈ ns, 0 < x ∧ x ≤ 40 ∧ tz6 x ≤ t) →
  Calls Tryd.prog 16 #[.slice A n c] w (RetOwn w (srt (ofN (flat ns))).reverse)

/-- Halved([]int{y, y}). -/
theorem halved_two (t : Nat) (IH : HalvedTo t) (W : World) (Q1 Q2 : Int) (y : Nat) (h1 : Q1 = y) (h2 : Q2 = y) (h0 : 0 < y) (hy : y ≤ 40) (ht : tz6 y ≤ t) :
    Calls Tryd.prog 16 #[.slice (some ⟨W.heap.size, 0, none⟩) 2 2] (W.alloc (.cells #[.int .i64 Q1, .int .i64 Q2] 3)) fun e w' => ∃ v, e = .returned v ∧ OwnInts w' W.heap.size v (ofN (flat [y, y])) ∧ Below W.heap.size W w' := by
  subst h1
  subst h2
  refine (IH _ 2 2 [y, y] _ (ints_lit W _ _ 2 (ofN [y, y]) rfl rfl) (by omega) (by
    intro x hx
    simp at hx
    subst hx
    exact ⟨h0, hy, ht⟩)).mono ?_
  rintro e w' ⟨v, rfl, ho, hb⟩
  have e1 : flat [y, y] = List.replicate (2 * pwr y) (odp y) := by
    have : flat [y, y] = List.replicate (pwr y) (odp y) ++ List.replicate (pwr y) (odp y) := by simp [flat]
    rw [this, List.replicate_append_replicate]
    congr 1
    omega
  rw [e1, srt_replicate] at ho
  refine ⟨v, rfl, ?_, below_step (below_alloc _ _) (Nat.le_refl _) hb⟩
  rw [e1]
  exact ho.mono (by simp)

set_option maxHeartbeats 2000000 in
theorem halved_step (t : Nat) (IH : (∀ s, s < t → HalvedTo s)) : HalvedTo t := by
  have HIH := hid IH
  clear IH
  intro A n c ns w h hn hns
  have HL : Hid (ns.length = n) := by rw [← length_ofN]; exact h.len
  have HX : Hid (∀ k, k < n → 0 < ns.getD k 0 ∧ ns.getD k 0 ≤ 40 ∧ tz6 (ns.getD k 0) ≤ t) := fun k hk => hns _ (getD_memN (by rw [HL.out]; exact hk))
  clear hns
  go_enter Tryd.func16, Tryd.ntmps16
  go_wp2
  go_loopg [3, 8] n (fun g v s wr => ∃ k : Nat, k ≤ n ∧ n - k ≤ g ∧ s = .int .i64 (k : Int) ∧ OwnInts wr w.heap.size v (ofN (flat (ns.take k))) ∧ Below w.heap.size w wr)
  case atStart => exact ⟨0, Nat.zero_le _, by omega, rfl, OwnInts.nil _ _, Below.refl _ _⟩
  case round =>
    obtain ⟨k, hk, hg, rfl, hown, hbel⟩ := hrel
    have HO := hid hown
    have HB := hid hbel
    have HLF := hid (length_flat (ns.take k))
    have HLN : Hid ((ofN (flat (ns.take k))).length ≤ 1280) := by
      have h1 := HLF.out
      rw [List.length_take] at h1
      rw [length_ofN]
      exact show (flat (ns.take k)).length ≤ 1280 by omega
    clear hown hbel HLF
    by_cases hlt : k < n
    · obtain ⟨b, o, hA, hb, hc⟩ := h.row (by omega)
      have g1 : wr.cell? ⟨b, o + k, none⟩ = some (.int .i64 ((ns.getD k 0 : Nat) : Int)) := by
        rw [(HB.out.cell (p := ⟨b, o + k, none⟩) hb), hc k hlt, getD_ofN]
      have hx := HX.out k hlt
      have HSN : Hid (ofN (flat (ns.take (k + 1))) = ofN (flat (ns.take k)) ++ ofN (flat [ns.getD k 0])) := by
        rw [take_snocN (by rw [HL.out]; exact hlt), flat_append, ofN_append]
        exact rfl
      subst hA
      clear hc h
      generalize ns.getD k 0 = x at *
      generalize ofN (flat (ns.take k)) = zs at *
      have hrem : IntKind.i64.wrap (((x : Nat) : Int).tmod 2) = ((x % 2 : Nat) : Int) := by
        rw [show ((x : Nat) : Int).tmod 2 = ((x % 2 : Nat) : Int) from rfl, IntWalk.i64_in _ (by omega)]
      rcases Nat.mod_two_eq_zero_or_one x with h2 | h2
      · rw [h2] at hrem
        have hm2 : (x : Int) % 2 = 0 := by omega
        obtain ⟨_, hpw, htz⟩ := half_at hx.1 hx.2.1 h2
        have HFH := hid (flat_half hx.1 hx.2.1 h2)
        have hpp := pwr_pos (x / 2)
        have HFL : Hid (0 < (ofN (flat [x / 2, x / 2])).length ∧ (ofN (flat [x / 2, x / 2])).length ≤ 64) := by
          have h3 := length_flat [x / 2, x / 2]
          rw [length_ofN]
          refine ⟨?_, by simpa using h3⟩
          rw [HFH.out, flat_one, List.length_replicate]
          exact pwr_pos x
        have hx2 : 0 < x / 2 := by omega
        have hx3 : x / 2 ≤ 40 := by omega
        clear hpw
        go_wp2_with fail
        refine (halved_two (tz6 (x / 2)) (HIH.out _ (by omega)) _ _ _ (x / 2) (by omega) (by omega) hx2 hx3 (Nat.le_refl _)).mono ?_
        rintro e w5 ⟨v5, rfl, ho5, hb5⟩
        rw [HFH.out] at ho5
        rw [HFH.out] at HFL
        generalize ofN (flat [x]) = us at *
        obtain ⟨g5, cap5, hv5, _, _, _⟩ := ho5.form HFL.out.1
        obtain ⟨A6, c6, hv6, hI5, _⟩ := ho5.ints
        have hA6 : A6 = some ⟨g5, 0, none⟩ := by
          rw [hv5] at hv6
          injection hv6 with e1 _ _
          exact e1.symm
        subst hA6
        have HI5 := hid hI5
        have HO5 := hid (HO.out.keep hb5)
        have HB5 := hid (below_step HB.out (Nat.le_refl _) hb5)
        have hfl := HFL.out.2
        subst hv6
        clear ho5 hb5 hI5 HO HB hv5
        go_wp2_with (at_builtin; refine wpList_appN _ rfl (.tmp 19) (.tmp 25) rfl w.heap.size _ zs rfl _ _ _ us rfl HO5.out HI5.out (by have := HLN.out; omega) HB5.out.size ?_)
        intro v' w6 hown6 _ hbel6
        have HO6 := hid hown6
        have HB6 := hid (HB5.out.trans hbel6)
        clear hown6 hbel6 HO5 HB5
        go_wp2
        go_roundg (n - (k + 1))
        case measure => omega
        case rel => exact ⟨k + 1, by omega, by omega, by go_num, by rw [HSN.out]; exact HO6.out, HB6.out⟩
      · rw [h2] at hrem
        have hm2 : (x : Int) % 2 = 1 := by omega
        have HF1 : Hid (ofN (flat [x]) = [(x : Int)]) := by rw [flat_one, pwr_odd h2, odp_odd h2]; exact rfl
        rw [HF1.out] at HSN
        go_wp2_with (at_builtin; refine wpList_app1 _ rfl (.tmp 15) (.tmp 17) rfl w.heap.size _ zs (x : Int) rfl rfl HO.out (by have := HLN.out; omega) HB.out.size ?_)
        intro v' w6 hown6 _ hbel6
        have HO6 := hid hown6
        have HB6 := hid (HB.out.trans hbel6)
        clear hown6 hbel6 HO HB
        go_wp2
        go_roundg (n - (k + 1))
        case measure => omega
        case rel => exact ⟨k + 1, by omega, by omega, by go_num, by rw [HSN.out]; exact HO6.out, HB6.out⟩
    · have hkn : n = k := by omega
      subst hkn
      have HTK : Hid (ns.take n = ns) := List.take_of_length_le (by rw [HL.out]; exact Nat.le_refl _)
      rw [HTK.out] at HO HLN
      generalize ofN (flat ns) = zs at *
      go_wp2_with fail
      refine (sortL_any w.heap.size _ zs _ HO.out (by have := HLN.out; omega)).mono ?_
      rintro e w3 ⟨rfl, hown3, hgrow⟩
      have HB3 := hid (HB.out.grown hgrow HB.out.size (fun k hk => (World.ownsRow.lt HO.out k hk).1))
      have HO3 := hid hown3
      clear hown3 hgrow
      go_wp2_with fail
      refine (reverse_any w.heap.size _ _ _ HO3.out (by rw [length_srt]; have := HLN.out; omega)).mono ?_
      rintro e w4 ⟨rfl, hown4, hgrow⟩
      have HB4 := hid (HB3.out.grown hgrow HB3.out.size (fun k hk => (World.ownsRow.lt HO3.out k hk).1))
      have HO4 := hid hown4
      clear hown4 hgrow
      go_wp2
      go_ret
      exact ⟨_, rfl, HO4.out, HB4.out⟩

theorem halved_all : ∀ t, HalvedTo t := by
  intro t
  induction t using Nat.strongRecOn with
  | ind t ih => exact halved_step t ih

/-- The odd numbers, the greatest first. -/
theorem halved_any (A : Option Addr) (n c : Nat) (ns : List Nat) (w : World) (h : Ints w A n (ofN ns)) (hp : IsPart (ofN ns)) :
    Calls Tryd.prog 16 #[.slice A n c] w (RetOwn w (ofN (down (cO ns) 40))) := by
  have hn : n ≤ 40 := by rw [← h.len, length_ofN]; exact part_lenN hp
  have hb : ∀ x ∈ ns, 0 < x ∧ x ≤ 40 := fun x hx => part_mem hp hx
  refine (halved_all 5 A n c ns w h hn (fun x hx => ⟨(hb x hx).1, (hb x hx).2, by have := tz6_lt x; omega⟩)).mono ?_
  rintro e w' ⟨v, rfl, ho, hbel⟩
  have e : (srt (ofN (flat ns))).reverse = ofN (down (cO ns) 40) := by
    have h1 : ∀ x ∈ ofN (flat ns), (1 : Int) ≤ x := by
      intro x hx
      obtain ⟨y, hy, rfl⟩ := List.mem_map.1 hx
      have := (mem_flat hb hy).2.1
      omega
    have h2 : (ofN (flat ns)).sum ≤ 40 := by
      rw [sum_ofN, sum_flat hb]
      have := part_sumN hp
      omega
    have hP := isPart_srt h1 h2
    obtain ⟨ms, e⟩ := ofN_of hP
    have hpm : (ofN ms).Perm (ofN (down (cO ns) 40)) := by
      rw [← e]
      exact ((List.reverse_perm _).trans (perm_srt _)).trans ((perm_flat hb).symm.map _)
    have hpm2 : ms.Perm (down (cO ns) 40) := by
      have := hpm.map Int.toNat
      simpa [ofN, List.map_map, Function.comp_def] using this
    rw [e] at hP
    rw [e, falls_unique (part_falls hP) (falls_down _ _) hpm2]
  rw [e] at ho
  exact ⟨v, rfl, ho, hbel⟩

end Go.Proofs.YteegddpoekphoaaDoor
