/-
  castref.Doubled: two that are the same are one, again and again (P22).
-/
import Derived.Test.YteegddpoekphoaaDoorPartX
namespace Go.Proofs.YteegddpoekphoaaDoor
open Go.RowKit

/-- In order, as natural numbers. -/
theorem srt_ofN (m : List Nat) : ∃ m', srt (ofN m) = ofN m' ∧ m'.Perm m ∧ m'.Pairwise (· ≤ ·) := by
  have hp := perm_srt (ofN m)
  have h0 : ∀ x ∈ srt (ofN m), 0 ≤ x := by
    intro x hx
    obtain ⟨y, _, rfl⟩ := List.mem_map.1 (hp.mem_iff.1 hx)
    omega
  have e0 : ∀ L : List Int, (∀ x ∈ L, 0 ≤ x) → L = ofN (L.map Int.toNat) := by
    intro L hL
    rw [ofN, List.map_map]
    conv => lhs; rw [← List.map_id L]
    refine List.map_congr_left fun x hx => ?_
    have := hL x hx
    simp
    omega
  have e := e0 _ h0
  refine ⟨(srt (ofN m)).map Int.toNat, e, ?_, ?_⟩
  · have := hp.map Int.toNat
    simpa [ofN, List.map_map, Function.comp_def] using this
  · rw [List.pairwise_map]
    exact (pairwise_srt (ofN m)).imp (fun h => by omega)

/-- One twin made one. -/
def joinAt (m : List Nat) (k : Nat) : List Nat := m.take (k - 1) ++ (m.set k (2 * m.getD k 0)).drop k
theorem ofN_set (m : List Nat) (k x : Nat) : (ofN m).set k (x : Int) = ofN (m.set k x) := by simp [ofN, List.map_set]
theorem ofN_take (m : List Nat) (k : Nat) : (ofN m).take k = ofN (m.take k) := by simp [ofN, List.map_take]
theorem ofN_drop (m : List Nat) (k : Nat) : (ofN m).drop k = ofN (m.drop k) := by simp [ofN, List.map_drop]
theorem drop_set {m : List Nat} {k : Nat} (hk : k < m.length) (x : Nat) : (m.set k x).drop k = x :: m.drop (k + 1) := by
  have h1 : k < (m.set k x).length := by simpa using hk
  rw [List.drop_eq_getElem_cons h1, List.getElem_set_self, List.drop_set_of_lt (by omega)]
theorem join_perm {m : List Nat} {k : Nat} (h0 : 0 < k) (hk : k < m.length) (he : m.getD k 0 = m.getD (k - 1) 0) :
    ∃ r, m.Perm (m.getD k 0 :: m.getD k 0 :: r) ∧ (joinAt m k).Perm (2 * m.getD k 0 :: r) ∧ (joinAt m k).length + 1 = m.length := by
  have e1 : m = m.take (k - 1) ++ (m.getD k 0 :: m.getD k 0 :: m.drop (k + 1)) := by
    have h1 : m.drop (k - 1) = m.getD (k - 1) 0 :: m.drop k := by
      rw [List.drop_eq_getElem_cons (show k - 1 < m.length by omega), List.getD_eq_getElem?_getD, List.getElem?_eq_getElem (show k - 1 < m.length by omega), show k - 1 + 1 = k by omega]
      rfl
    have h2 : m.drop k = m.getD k 0 :: m.drop (k + 1) := by
      rw [List.drop_eq_getElem_cons hk, List.getD_eq_getElem?_getD, List.getElem?_eq_getElem hk]
      rfl
    have h3 := List.take_append_drop (k - 1) m
    rw [h1, h2, ← he] at h3
    exact h3.symm
  refine ⟨m.take (k - 1) ++ m.drop (k + 1), ?_, ?_, ?_⟩
  · conv => lhs; rw [e1]
    refine List.perm_middle.trans (List.Perm.cons _ ?_)
    exact List.perm_middle
  · unfold joinAt
    rw [drop_set hk]
    exact List.perm_middle
  · unfold joinAt
    rw [drop_set hk]
    simp
    omega

/-- As many, in the same odd numbers. -/
structure LikeZ (m ms : List Nat) : Prop where
  sum : m.sum = ms.sum
  pos : ∀ x ∈ m, 0 < x
  same : ∀ d, cO m d = cO ms d
theorem LikeZ.perm {m m' ms : List Nat} (h : LikeZ m ms) (hp : m'.Perm m) : LikeZ m' ms := ⟨(sum_permN hp).trans h.sum, fun x hx => h.pos x (hp.mem_iff.1 hx), fun d => (cO_perm hp d).trans (h.same d)⟩
theorem LikeZ.join {m ms : List Nat} (h : LikeZ m ms) (hs : ms.sum ≤ 40) {k : Nat} (h0 : 0 < k) (hk : k < m.length) (he : m.getD k 0 = m.getD (k - 1) 0) : LikeZ (joinAt m k) ms ∧ (joinAt m k).length + 1 = m.length := by
  obtain ⟨r, h1, h2, h3⟩ := join_perm h0 hk he
  have h4 := h.perm h1.symm
  have hx := h4.pos _ (List.mem_cons_self ..)
  have hsum := h4.sum
  simp only [List.sum_cons] at hsum
  refine ⟨LikeZ.perm ⟨?_, fun x hx2 => ?_, fun d => ?_⟩ h2, h3⟩
  · rw [List.sum_cons]
    omega
  · rcases List.mem_cons.1 hx2 with rfl | h5
    · omega
    · exact h4.pos x (List.mem_cons_of_mem _ (List.mem_cons_of_mem _ h5))
  · rw [cO_join hx (by omega)]
    exact h4.same d
/-- Where no twin is left: what Unlike says. -/
theorem LikeZ.done {m ms : List Nat} (h : LikeZ m ms) (hs : ms.sum ≤ 40) (hp : m.Pairwise (· ≤ ·)) (ht : NoTwin m m.length) : m.reverse = unl (cO ms) 40 := by
  have hgt : m.reverse.Pairwise (· > ·) := by
    rw [List.pairwise_reverse, List.pairwise_iff_getElem]
    intro i j hi hj hij
    rw [List.pairwise_iff_getElem] at hp
    have h1 := hp (j - 1) j (by omega) hj (by omega)
    have h2 := ht j (by omega) hj
    rw [List.getD_eq_getElem?_getD, List.getD_eq_getElem?_getD, List.getElem?_eq_getElem hj, List.getElem?_eq_getElem (show j - 1 < m.length by omega)] at h2
    simp only [Option.getD_some] at h2
    rcases Nat.lt_or_ge i (j - 1) with h3 | h3
    · have := hp i (j - 1) hi (by omega) h3
      omega
    · have e : i = j - 1 := by omega
      subst e
      omega
  have hb : ∀ x ∈ m.reverse, 0 < x ∧ x ≤ 40 := fun x hx => by
    have hx2 := List.mem_reverse.1 hx
    have h1 := le_sum hx2
    have h2 := h.sum
    exact ⟨h.pos x hx2, by omega⟩
  rw [← unl_cO hgt hb]
  exact unl_congr 40 (fun x _ _ => (cO_perm (List.reverse_perm m) _).trans (h.same _))

theorem pos_len {m : List Nat} (h : ∀ x ∈ m, 0 < x) : m.length ≤ m.sum := by
  induction m with
  | nil => simp
  | cons x m ih =>
    have h1 := h x (List.mem_cons_self ..)
    have h2 := ih (fun y hy => h y (List.mem_cons_of_mem _ hy))
    rw [List.length_cons, List.sum_cons]
    omega

/-- The last twin up to place i, if there is one. -/
def LastTwin (m : List Nat) (i : Nat) (K : Int) : Prop := (K = -1 ∧ NoTwin m i) ∨ ∃ k : Nat, K = k ∧ 0 < k ∧ k < i ∧ m.getD k 0 = m.getD (k - 1) 0

set_option maxHeartbeats 3000000 in
set_option maxRecDepth 100000 in
theorem doubled_any (A : Option Addr) (n c : Nat) (ms : List Nat) (w : World) (h : Ints w A n (ofN ms)) (hp : IsPart (ofN ms)) :
    Calls Tryd.prog 19 #[.slice A n c] w (RetOwn w (ofN (unl (cO ms) 40))) := by
  have hs := part_sumN hp
  have h0 : ∀ x ∈ ms, 0 < x := fun x hx => (part_mem hp hx).1
  have hn : n ≤ 40 := by rw [← h.len, length_ofN]; exact part_lenN hp
  have HH := hid h
  have H0 := hid h0
  clear h hp h0
  go_enter Tryd.func19, Tryd.ntmps19
  go_wp2_with fail
  refine (clone_any A n c (ofN ms) _ HH.out (by omega)).mono ?_
  rintro e w1 ⟨v1, rfl, ho1, hb1⟩
  have HO1 := hid ho1
  have HB1 := hid hb1
  clear ho1 hb1
  go_wp2_with fail
  go_loopg [0] (ms.sum + 1) (fun g v wr => ∃ m : List Nat, m.length < g ∧ LikeZ m ms ∧ OwnInts wr w.heap.size v (ofN m) ∧ Below w.heap.size w wr)
  case atStart =>
    have := pos_len H0.out
    exact ⟨ms, by omega, ⟨rfl, H0.out, fun _ => rfl⟩, HO1.out, HB1.out⟩
  case round =>
    obtain ⟨m0, hg0, hlk0, hown, hbel⟩ := hrel
    have HO := hid hown
    have HB := hid hbel
    have hlen0 : m0.length ≤ 40 := by
      have h1 := pos_len hlk0.pos
      have h2 := hlk0.sum
      omega
    have HLK0 := hid hlk0
    clear hown hbel HO1 HB1 hlk0
    go_wp2_with fail
    refine (sortL_any w.heap.size _ (ofN m0) _ HO.out (by rw [length_ofN]; omega)).mono ?_
    rintro e w2 ⟨rfl, hown2, hgrow⟩
    obtain ⟨m, hm, hpm, hso⟩ := srt_ofN m0
    rw [hm] at hown2
    have HB2 := hid (HB.out.grown hgrow HB.out.size (fun k hk => (World.ownsRow.lt HO.out k hk).1))
    have HO2 := hid hown2
    have HLK := hid (HLK0.out.perm hpm)
    have hlm := hpm.length_eq
    have HSO := hid hso
    have hg : m.length < gk := by omega
    have hlen : m.length ≤ 40 := by omega
    clear hown2 hgrow HO HB HLK0 hm hpm hso hlm hg0 hlen0
    clear m0
    obtain ⟨A2, c2, hv2, hI2, hcap2⟩ := HO2.out.ints
    rw [length_ofN] at hv2 hI2 hcap2
    have HI2 := hid hI2
    subst hv2
    clear hI2 hcap2
    go_wp2_with fail
    obtain ⟨w8, hw8⟩ : ∃ w8, w8 = w2 := ⟨_, rfl⟩
    rw [← hw8] at HO2 HB2 HI2
    rw [← hw8]
    clear hw8
    go_loopg [3, 4] (m.length + 1) (fun g s t wq => ∃ (i q : Nat) (K : Int), 1 ≤ i ∧ (i ≤ m.length ∨ i = 1) ∧ m.length - i < g ∧ s = .int .i64 K ∧ t = .int .i64 (i : Int) ∧ wq = w8.drewN q ∧ LastTwin m i K)
    case atStart => exact ⟨1, 0, -1, by omega, by omega, by omega, rfl, rfl, rfl, Or.inl ⟨rfl, fun j h1 h2 => by omega⟩⟩
    case round =>
      obtain ⟨i, q, K, hi1, hi2, hgi, rfl, rfl, hwq, hlt⟩ := hrel
      have HLT := hid hlt
      have HWQ := hid hwq
      clear hlt hwq
      by_cases hlm : i < m.length
      · obtain ⟨b, o, hA, _, hc⟩ := HI2.out.row (by omega)
        obtain ⟨j, hj⟩ : ∃ j, i = j + 1 := ⟨i - 1, by omega⟩
        have g1 : wr.cell? ⟨b, o + i, none⟩ = some (.int .i64 ((m.getD i 0 : Nat) : Int)) := by rw [HWQ.out, ← getD_ofN]; exact hc i hlm
        have g2 : wr.cell? ⟨b, o + j, none⟩ = some (.int .i64 ((m.getD j 0 : Nat) : Int)) := by rw [HWQ.out, ← getD_ofN]; exact hc j (by omega)
        have hwr : IntKind.i64.wrap ((i : Int) - 1) = (j : Int) := by rw [IntWalk.i64_in _ (by omega)]; omega
        have hjm : j < m.length := by omega
        have hjM : (j : Int) < (m.length : Int) := by omega
        have HJ := hid hj
        subst hA
        clear hc hj
        by_cases heq : m.getD i 0 = m.getD j 0
        · have HEQ := hid heq
          have heb : (((m.getD i 0 : Nat) : Int) == ((m.getD j 0 : Nat) : Int)) = true := by rw [heq]; exact beq_self_eq_true _
          clear heq
          generalize hx : m.getD i 0 = x at *
          generalize hy : m.getD j 0 = y at *
          have HX := hid hx
          have HY := hid hy
          clear hx hy
          go_wp2_with fail
          go_region
          go_wp2
          go_roundg (m.length - i)
          case measure => omega
          case rel =>
            refine ⟨i + 1, q + 1, (i : Int), by omega, by omega, by omega, by go_num, by go_num, by rw [HWQ.out]; rfl, Or.inr ⟨i, rfl, by omega, by omega, ?_⟩⟩
            rw [HX.out, show i - 1 = j by have := HJ.out; omega, HY.out]
            exact HEQ.out
        · have HNE := hid heq
          have heb : (((m.getD i 0 : Nat) : Int) == ((m.getD j 0 : Nat) : Int)) = false := beq_eq_false_iff_ne.2 (fun e => heq (Int.ofNat_inj.1 e))
          clear heq
          generalize hx : m.getD i 0 = x at *
          generalize hy : m.getD j 0 = y at *
          have HX := hid hx
          have HY := hid hy
          clear hx hy
          go_wp2_with fail
          go_region
          go_wp2
          go_roundg (m.length - i)
          case measure => omega
          case rel =>
            refine ⟨i + 1, q + 1, K, by omega, by omega, by omega, by go_num, by go_num, by rw [HWQ.out]; rfl, ?_⟩
            rcases HLT.out with ⟨e, hno⟩ | ⟨k, e, h1, h2, h3⟩
            · refine Or.inl ⟨e, fun u hu1 hu2 => ?_⟩
              by_cases eu : u = i
              · rw [eu, HX.out, show i - 1 = j by have := HJ.out; omega, HY.out]
                exact HNE.out
              · exact hno u hu1 (by omega)
            · exact Or.inr ⟨k, e, h1, by omega, h3⟩
      · have HO3 : Hid (OwnInts wr w.heap.size (.slice A2 m.length c2) (ofN m)) := by rw [HWQ.out]; exact HO2.out.drewN q
        have HB3 : Hid (Below w.heap.size w wr) := by rw [HWQ.out]; exact below_drewN HB2.out q
        clear HO2 HB2 HI2 HWQ
        rcases HLT.out with ⟨hK, hno⟩ | ⟨k, hK, hk1, hk2, hk3⟩
        · subst hK
          have HNT : Hid (NoTwin m m.length) := fun u hu1 hu2 => hno u hu1 (by omega)
          have HDN := hid (HLK.out.done hs HSO.out HNT.out)
          clear hno HLT
          go_wp2_with fail
          refine (reverse_any w.heap.size _ _ _ HO3.out (by rw [length_ofN]; omega)).mono ?_
          rintro e w4 ⟨rfl, hown4, hgrow⟩
          have HB4 := hid (HB3.out.grown hgrow HB3.out.size (fun k hk => (World.ownsRow.lt HO3.out k hk).1))
          have HO4 : Hid (OwnInts w4 w.heap.size (.slice A2 m.length c2) (ofN (unl (cO ms) 40))) := by
            rw [← HDN.out]
            have e : (ofN m).reverse = ofN m.reverse := by simp [ofN]
            rw [← e]
            exact hown4
          clear hown4 hgrow
          go_wp2
          go_ret
          exact ⟨_, rfl, HO4.out, HB4.out⟩
        · have hkm : k < m.length := by omega
          obtain ⟨HJ1, HJ2⟩ := HLK.out.join hs hk1 hkm hk3
          have HJJ := hid HJ1
          have HJL := hid HJ2
          clear HJ1 HJ2 hk3 HLT
          subst hK
          have hO := HO3.out
          obtain ⟨g, cap, hv, hgb, hgl, _⟩ := hO.form (by rw [length_ofN]; omega)
          rw [length_ofN] at hv
          injection hv with e1 _ e3
          subst e1
          subst e3
          clear hO
          have g1 : wr.cell? ⟨g, k, none⟩ = some (.int .i64 ((m.getD k 0 : Nat) : Int)) := by
            have h1 : OwnInts wr w.heap.size (.slice (some ⟨g, 0, none⟩) (ofN m).length c2) (ofN m) := by rw [length_ofN]; exact HO3.out
            rw [h1.cell (by rw [length_ofN]; exact hkm), getD_ofN]
          have f1 : wr.frozen? ⟨g, k, none⟩ = false := by
            have h1 : OwnInts wr w.heap.size (.slice (some ⟨g, 0, none⟩) (ofN m).length c2) (ofN m) := by rw [length_ofN]; exact HO3.out
            exact h1.frozen k
          have hkx : m.getD k 0 ≤ 40 := by
            have h1 := le_sum (getD_memN hkm)
            have h2 := HLK.out.sum
            omega
          have hkM : (k : Int) < (m.length : Int) := by omega
          have hk0 : ¬ (k : Int) < 0 := by omega
          have HJA : Hid (ofN (joinAt m k) = ((ofN m).set k (((m.getD k 0 : Nat) : Int) * 2)).take (k - 1) ++ ((ofN m).set k (((m.getD k 0 : Nat) : Int) * 2)).drop (k - 1 + 1)) := by
            have e : ((m.getD k 0 : Nat) : Int) * 2 = ((2 * m.getD k 0 : Nat) : Int) := by omega
            rw [e, ofN_set, ofN_take, ofN_drop, ← ofN_append, show k - 1 + 1 = k by omega, List.take_set_of_le (by omega)]
            exact rfl
          have HSET : Hid (∀ x : Int, OwnInts (wr.setCell ⟨g, k, none⟩ (.int .i64 x)) w.heap.size (.slice (some ⟨g, 0, none⟩) m.length c2) ((ofN m).set k x)) := fun x => HO3.out.set (length_ofN m).symm k x
          have HBS : Hid (∀ x : Int, Below w.heap.size w (wr.setCell ⟨g, k, none⟩ (.int .i64 x))) := fun x => HB3.out.setCell hgb _
          have hsub : IntKind.i64.wrap ((k : Int) - 1) = ((k - 1 : Nat) : Int) := by rw [IntWalk.i64_in _ (by omega)]; omega
          generalize m.getD k 0 = x at *
          go_wp2_with fail
          refine (delete_any w.heap.size g m.length c2 (k - 1) _ _ (HSET.out ((x : Int) * 2)) (by rw [List.length_set, length_ofN]) (by omega) _ (by omega)).mono ?_
          rintro e w5 ⟨rfl, hown5, hgrow5⟩
          rw [← HJA.out] at hown5
          have HO5 := hid hown5
          have HB5 := hid ((HBS.out ((x : Int) * 2)).grown hgrow5 (HBS.out ((x : Int) * 2)).size (fun k hk => by injection hk with hk; omega))
          clear hown5 hgrow5
          go_wp2
          go_roundg m.length
          case measure => omega
          case rel => exact ⟨joinAt m k, by have := HJL.out; omega, HJJ.out, HO5.out, HB5.out⟩

end Go.Proofs.YteegddpoekphoaaDoor
