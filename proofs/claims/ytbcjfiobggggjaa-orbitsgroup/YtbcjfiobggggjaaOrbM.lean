/-
  Plain facts on groups of orders: all that some orders make, one behind another. No program, no memory.
-/
import Derived.Test.YtbcjfiobggggjaaRankM
import Derived.Test.YtbcjfiobggggjaaCycT
namespace Go.Proofs.Ytbcjfiobggggjaa

/-- What the orders of l make, one behind another. -/
inductive Gen (n : Nat) (l : List (List Int)) : List Int → Prop
  | one : Gen n l (iota n)
  | step {g p : List Int} : g ∈ l → Gen n l p → Gen n l (times g p)

/-- Orders of n numbers. -/
def Orders (n : Nat) (l : List (List Int)) : Prop := ∀ g, g ∈ l → g.length = n ∧ IsPerm g

theorem isPerm_iota (n : Nat) : IsPerm (iota n) := by unfold IsPerm; rw [length_iota]

theorem times_one {a : List Int} {n : Nat} (h : a.length = n) : times a (iota n) = a := by
  subst h
  exact map_iota a

theorem one_times {p : List Int} {n : Nat} (h : IsPerm p) (hn : p.length = n) : times (iota n) p = p := by
  unfold times
  conv => rhs; rw [← List.map_id p]
  apply List.map_congr_left
  intro v hv
  have := h.range hv
  rw [getD_iota (by omega)]
  simp only [id]
  omega

section
variable {n : Nat} {l : List (List Int)}

theorem Gen.ok (hl : Orders n l) {p : List Int} (h : Gen n l p) : p.length = n ∧ IsPerm p := by
  induction h with
  | one => exact ⟨length_iota n, isPerm_iota n⟩
  | step hg _ ih => exact ⟨by rw [length_times]; exact ih.1, isPerm_times (hl _ hg).2 ih.2 (by rw [(hl _ hg).1, ih.1])⟩

theorem Gen.mul (hl : Orders n l) {a b : List Int} (ha : Gen n l a) (hb : Gen n l b) : Gen n l (times a b) := by
  have hB := hb.ok hl
  induction ha with
  | one => rw [one_times hB.2 hB.1]; exact hb
  | step hg hp ih => rw [times_assoc hB.2 (by rw [(hp.ok hl).1, hB.1])]; exact .step hg ih

theorem Gen.of (hl : Orders n l) {g : List Int} (hg : g ∈ l) : Gen n l g := by
  have := Gen.step hg Gen.one (n := n)
  rwa [times_one (hl _ hg).1] at this

theorem Gen.sub {G : List Int → Prop} (h1 : G (iota n)) (h2 : ∀ g p, g ∈ l → G p → G (times g p)) {p : List Int} (h : Gen n l p) : G p := by
  induction h with
  | one => exact h1
  | step hg _ ih => exact h2 _ _ hg ih

theorem Gen.subR (hl : Orders n l) {G : List Int → Prop} (hG : ∀ p, G p → p.length = n ∧ IsPerm p) (h1 : G (iota n)) (h2 : ∀ g p, g ∈ l → G p → G (times p g)) {p : List Int} (h : Gen n l p) : G p := by
  have key : ∀ q, G q → G (times q p) := by
    induction h with
    | one => intro q hq; rw [times_one (hG q hq).1]; exact hq
    | step hg hp ih =>
      intro q hq
      have hP := hp.ok hl
      rw [← times_assoc hP.2 (by rw [(hl _ hg).1, hP.1])]
      exact ih _ (h2 _ _ hg hq)
  have h' := key _ h1
  rwa [one_times (h.ok hl).2 (h.ok hl).1] at h'

/-- T is the whole group, in order. -/
structure GroupOf (n : Nat) (l T : List (List Int)) : Prop where
  sorted : T.Pairwise (fun a b => rk a < rk b)
  mem : ∀ p, p ∈ T ↔ Gen n l p

theorem rk_sorted_eq : ∀ {T U : List (List Int)}, T.Pairwise (fun a b => rk a < rk b) → U.Pairwise (fun a b => rk a < rk b) → (∀ p, p ∈ T ↔ p ∈ U) → T = U
  | [], [], _, _, _ => rfl
  | [], b :: U, _, _, h => by have := (h b).2 (by simp); cases this
  | a :: T, [], _, _, h => by have := (h a).1 (by simp); cases this
  | a :: T, b :: U, hT, hU, h => by
    have hT' := List.pairwise_cons.1 hT
    have hU' := List.pairwise_cons.1 hU
    have hab : a = b := by
      rcases List.mem_cons.1 ((h a).1 (by simp)) with e | h1
      · exact e
      · rcases List.mem_cons.1 ((h b).2 (by simp)) with e | h2
        · exact e.symm
        · have := hU'.1 a h1
          have := hT'.1 b h2
          omega
    subst hab
    congr 1
    refine rk_sorted_eq hT'.2 hU'.2 fun p => ⟨fun hp => ?_, fun hp => ?_⟩
    · rcases List.mem_cons.1 ((h p).1 (by simp [hp])) with e | h1
      · have := hT'.1 p hp; rw [e] at this; omega
      · exact h1
    · rcases List.mem_cons.1 ((h p).2 (by simp [hp])) with e | h1
      · have := hU'.1 p hp; rw [e] at this; omega
      · exact h1

theorem GroupOf.unique {T U : List (List Int)} (h : GroupOf n l T) (k : GroupOf n l U) : T = U :=
  rk_sorted_eq h.sorted k.sorted fun p => (h.mem p).trans (k.mem p).symm

theorem rk_nodup {T : List (List Int)} (h : T.Pairwise (fun a b => rk a < rk b)) : T.Nodup := by
  rw [List.nodup_iff_pairwise_ne]
  exact h.imp (fun hab e => by rw [e] at hab; omega)

theorem rk_length_le {T : List (List Int)} {n : Nat} (h : T.Pairwise (fun a b => rk a < rk b)) (hl : ∀ p, p ∈ T → p.length = n) : T.length ≤ fact n := by
  have := length_le_of_nodup (l := T.map rk) (n := fact n) (by
    rw [List.nodup_iff_pairwise_ne, List.pairwise_map]
    exact h.imp (fun hab => by omega)) (fun x hx => by
    obtain ⟨p, hp, rfl⟩ := List.mem_map.1 hx
    have := rk_lt p
    rwa [hl p hp] at this)
  simpa using this

theorem GroupOf.nodup {T : List (List Int)} (h : GroupOf n l T) : T.Nodup := rk_nodup h.sorted
theorem GroupOf.ok {T : List (List Int)} (h : GroupOf n l T) (hl : Orders n l) {p : List Int} (hp : p ∈ T) : p.length = n ∧ IsPerm p := ((h.mem p).1 hp).ok hl
theorem GroupOf.one {T : List (List Int)} (h : GroupOf n l T) : iota n ∈ T := (h.mem _).2 .one
theorem GroupOf.pos {T : List (List Int)} (h : GroupOf n l T) : 0 < T.length := List.length_pos_of_mem h.one
theorem GroupOf.mul {T : List (List Int)} (h : GroupOf n l T) (hl : Orders n l) {p q : List Int} (hp : p ∈ T) (hq : q ∈ T) : times p q ∈ T := (h.mem _).2 (((h.mem p).1 hp).mul hl ((h.mem q).1 hq))
theorem GroupOf.length_le {T : List (List Int)} (h : GroupOf n l T) (hl : Orders n l) : T.length ≤ fact n := rk_length_le h.sorted fun _ hp => (h.ok hl hp).1
end

/-! ### What undoes an order -/
def vs (p : List Int) : List Int := (List.range p.length).map (fun j : Nat => ((p.idxOf (j : Int) : Nat) : Int))
theorem length_vs (p : List Int) : (vs p).length = p.length := by simp [vs]
theorem getD_nodup_idxOf {p : List Int} (h : p.Nodup) {i : Nat} (hi : i < p.length) : p.idxOf (p.getD i 0) = i := by
  have e : p.getD i 0 = p[i] := by rw [List.getD_eq_getElem?_getD, List.getElem?_eq_getElem hi]; rfl
  rw [e]
  exact h.idxOf_getElem i hi
theorem isInv_vs {p : List Int} (h : IsPerm p) : IsInv p (vs p) := by
  refine ⟨length_vs p, fun i hi => ?_⟩
  obtain ⟨j, hj, e⟩ := h.nat hi
  rw [e]
  have : (vs p).getD j 0 = ((p.idxOf (j : Int) : Nat) : Int) := by
    simp [vs, List.getD_eq_getElem?_getD, hj]
  show (vs p).getD ((j : Int).toNat) 0 = _
  rw [show ((j : Int).toNat) = j by omega, this, ← e, getD_nodup_idxOf h.nodup hi]
theorem isPerm_vs {p : List Int} (h : IsPerm p) : IsPerm (vs p) := (isInv_vs h).isPerm h

theorem times_cancel {p a b : List Int} (hp : IsPerm p) (ha : IsPerm a) (hb : IsPerm b) (hla : a.length = p.length) (hlb : b.length = p.length) (e : times p a = times p b) : a = b := by
  have h1 : times (vs p) (times p a) = a := by
    rw [← times_assoc ha hla.symm, (isInv_vs hp).left]
    exact one_times ha hla
  have h2 : times (vs p) (times p b) = b := by
    rw [← times_assoc hb hlb.symm, (isInv_vs hp).left]
    exact one_times hb hlb
  rw [← h1, e, h2]

theorem times_cancelR {s a b : List Int} (hs : IsPerm s) (hla : a.length = s.length) (hlb : b.length = s.length) (e : times a s = times b s) : a = b := by
  have hv := isPerm_vs hs
  have h1 : times (times a s) (vs s) = a := by
    rw [times_assoc hv (length_vs s).symm, (isInv_vs hs).right hs, times_one hla]
  have h2 : times (times b s) (vs s) = b := by
    rw [times_assoc hv (length_vs s).symm, (isInv_vs hs).right hs, times_one hlb]
  rw [← h1, e, h2]

theorem nodup_map_on {α β : Type} {f : α → β} {l : List α} (h : l.Nodup) (hi : ∀ a, a ∈ l → ∀ b, b ∈ l → f a = f b → a = b) : (l.map f).Nodup := by
  rw [List.nodup_iff_pairwise_ne, List.pairwise_map]
  rw [List.nodup_iff_pairwise_ne] at h
  exact List.Pairwise.imp_of_mem (fun ha hb hab e => hab (hi _ ha _ hb e)) h

section
variable {n : Nat} {l T : List (List Int)}

/-- The group goes to itself. -/
theorem GroupOf.map_mul (h : GroupOf n l T) (hl : Orders n l) {p : List Int} (hp : p ∈ T) : (T.map (times p)).Perm T := by
  have hP := h.ok hl hp
  refine (perm_of_nodup_subset (nodup_map_on h.nodup fun a ha b hb e => ?_) (fun x hx => ?_) (by simp)).symm
  · exact times_cancel hP.2 (h.ok hl ha).2 (h.ok hl hb).2 ((h.ok hl ha).1.trans hP.1.symm) ((h.ok hl hb).1.trans hP.1.symm) e
  · obtain ⟨a, ha, rfl⟩ := List.mem_map.1 hx
    exact h.mul hl hp ha

/-- What undoes one of the group is in it. -/
theorem GroupOf.inv (h : GroupOf n l T) (hl : Orders n l) {p q : List Int} (hp : p ∈ T) (hq : IsInv p q) : q ∈ T := by
  have hP := h.ok hl hp
  obtain ⟨a, ha, e⟩ := List.mem_map.1 ((h.map_mul hl hp).mem_iff.2 h.one)
  have hA := h.ok hl ha
  have h1 : times q (times p a) = a := by
    rw [← times_assoc hA.2 (hP.1.trans hA.1.symm), hq.left]
    exact one_times hA.2 (hA.1.trans hP.1.symm)
  rw [e, times_one (hq.1.trans hP.1)] at h1
  rw [h1]
  exact ha

/-- LAGRANGE, for a set of orders that the group leaves together. -/
theorem GroupOf.dvd_of (h : GroupOf n l T) (hl : Orders n l) : ∀ (m : Nat) (L : List (List Int)), L.length ≤ m → L.Nodup → Orders n L → (∀ g s, g ∈ T → s ∈ L → times g s ∈ L) → T.length ∣ L.length
  | 0, L, hm, _, _, _ => by rw [show L.length = 0 by omega]; exact Nat.dvd_zero _
  | m + 1, [], _, _, _, _ => Nat.dvd_zero _
  | m + 1, s :: L', hm, hn, ho, hc => by
    generalize hL : s :: L' = L at *
    have hs : s ∈ L := by rw [← hL]; simp
    have hS := ho s hs
    let O := T.map (fun g => times g s)
    have hOn : O.Nodup := nodup_map_on h.nodup fun a ha b hb e => times_cancelR hS.2 ((h.ok hl ha).1.trans hS.1.symm) ((h.ok hl hb).1.trans hS.1.symm) e
    have hOm : ∀ x, x ∈ O → x ∈ L := fun x hx => by
      obtain ⟨g, hg, rfl⟩ := List.mem_map.1 hx
      exact hc g s hg hs
    have hsO : s ∈ O := List.mem_map.2 ⟨iota n, h.one, one_times hS.2 hS.1⟩
    have hin : (L.filter (fun x => decide (x ∈ O))).length = T.length := by
      have h1 := length_le_of_subset (l := L.filter (fun x => decide (x ∈ O))) (l' := O) (List.Pairwise.filter _ hn) (fun x hx => by simpa using (List.mem_filter.1 hx).2)
      have h2 := length_le_of_subset (l := O) (l' := L.filter (fun x => decide (x ∈ O))) hOn (fun x hx => List.mem_filter.2 ⟨hOm x hx, by simpa using hx⟩)
      have h3 : O.length = T.length := by simp [O]
      omega
    have hsplit := List.length_eq_countP_add_countP (fun x => decide (x ∈ O)) (l := L)
    rw [List.countP_eq_length_filter, List.countP_eq_length_filter, hin] at hsplit
    have hpos := h.pos
    have ih := GroupOf.dvd_of h hl m (L.filter (fun x => decide ¬decide (x ∈ O) = true)) (by omega) (List.Pairwise.filter _ hn) (fun g hg => ho g (List.mem_filter.1 hg).1) (fun g t hg ht => by
      obtain ⟨ht1, ht2⟩ := List.mem_filter.1 ht
      have hT' := ho t ht1
      have hG := h.ok hl hg
      refine List.mem_filter.2 ⟨hc g t hg ht1, ?_⟩
      simp only [decide_eq_true_eq] at ht2 ⊢
      intro hx
      obtain ⟨k, hk, e⟩ := List.mem_map.1 hx
      have hK := h.ok hl hk
      apply ht2
      have hv := h.inv hl hg (isInv_vs hG.2)
      refine List.mem_map.2 ⟨times (vs g) k, h.mul hl hv hk, ?_⟩
      rw [times_assoc hS.2 (hK.1.trans hS.1.symm), e, ← times_assoc hT'.2 (hG.1.trans hT'.1.symm), (isInv_vs hG.2).left]
      exact one_times hT'.2 (hT'.1.trans hG.1.symm))
    rw [hsplit]
    exact Nat.dvd_add (Nat.dvd_refl _) ih

/-- LAGRANGE: it has a number that divides how many orders there are. -/
theorem GroupOf.dvd_fact (h : GroupOf n l T) (hl : Orders n l) : T.length ∣ fact n := by
  have := h.dvd_of hl (fact n) ((List.range (fact n)).map (atL n)) (by simp) (nodup_map_on List.nodup_range fun a ha b hb e => by
      rw [← rk_atL (List.mem_range.1 ha), e, rk_atL (List.mem_range.1 hb)]) (fun g hg => by
      obtain ⟨k, _, rfl⟩ := List.mem_map.1 hg
      exact ⟨length_atL n k, isPerm_atL n k⟩) (fun g s hg hs => by
      obtain ⟨k, _, rfl⟩ := List.mem_map.1 hs
      have hG := h.ok hl hg
      have hp : IsPerm (times g (atL n k)) := isPerm_times hG.2 (isPerm_atL n k) (by rw [hG.1, length_atL])
      have hle : (times g (atL n k)).length = n := by rw [length_times, length_atL]
      refine List.mem_map.2 ⟨rk (times g (atL n k)), List.mem_range.2 ?_, ?_⟩
      · have := rk_lt (times g (atL n k))
        rwa [hle] at this
      · have := atL_rk hp
        rwa [hle] at this)
  simpa using this
end

/-! ### A row by an order -/
/-- What stands in place i goes to where i goes. -/
def mv (p row : List Int) : List Int := times row (vs p)

theorem length_mv (p row : List Int) : (mv p row).length = p.length := by unfold mv; rw [length_times, length_vs]
theorem getD_mv {p row : List Int} (h : IsPerm p) {i : Nat} (hi : i < p.length) : (mv p row).getD (p.getD i 0).toNat 0 = row.getD i 0 := by
  have hr := h.range (getD_mem hi)
  unfold mv
  rw [getD_times (by rw [length_vs]; omega), (isInv_vs h).2 i hi]
  rfl
theorem vs_times {p q : List Int} (hp : IsPerm p) (hq : IsPerm q) (hl : q.length = p.length) : vs (times q p) = times (vs p) (vs q) :=
  IsInv.unique (isInv_vs (isPerm_times hq hp hl)) ((isInv_vs hq).times (isInv_vs hp) hp hq hl) (isPerm_times hq hp hl)
theorem mv_mul {p q : List Int} (row : List Int) (hp : IsPerm p) (hq : IsPerm q) (hl : q.length = p.length) : mv (times q p) row = mv q (mv p row) := by
  unfold mv
  rw [vs_times hp hq hl, times_assoc (isPerm_vs hq) (by rw [length_vs, length_vs, hl])]
theorem vs_iota (n : Nat) : vs (iota n) = iota n := by
  refine IsInv.unique (isInv_vs (isPerm_iota n)) ⟨rfl, fun i hi => ?_⟩ (isPerm_iota n)
  rw [length_iota] at hi
  rw [getD_iota hi, show ((i : Int)).toNat = i by omega, getD_iota hi]
theorem mv_one {row : List Int} {n : Nat} (h : row.length = n) : mv (iota n) row = row := by
  unfold mv
  rw [vs_iota, times_one h]
theorem mv_perm {p row : List Int} (hp : IsPerm p) (hl : row.length = p.length) : (mv p row).Perm row := by
  have h1 : (vs p).Perm (iota row.length) := by
    have := isPerm_vs hp
    unfold IsPerm at this
    rwa [length_vs, ← hl] at this
  have h2 := h1.map (fun v => row.getD v.toNat 0)
  rw [map_iota] at h2
  exact h2
theorem mv_back {p row : List Int} (hp : IsPerm p) (hl : row.length = p.length) : mv (vs p) (mv p row) = row := by
  rw [← mv_mul row hp (isPerm_vs hp) (length_vs p), (isInv_vs hp).left, mv_one hl]
theorem mv_inj {p r s : List Int} (hp : IsPerm p) (hr : r.length = p.length) (hs : s.length = p.length) (e : mv p r = mv p s) : r = s := by
  rw [← mv_back hp hr, e, mv_back hp hs]

/-! ### The order of rows -/
theorem cmpL_self : ∀ a : List Int, cmpL a a = 0
  | [] => rfl
  | x :: a => by simp [cmpL, cmpL_self a]
theorem cmpL_eq : ∀ {a b : List Int}, cmpL a b = 0 → a = b
  | [], [], _ => rfl
  | [], _ :: _, h => by simp [cmpL] at h
  | _ :: _, [], h => by simp [cmpL] at h
  | x :: a, y :: b, h => by
    simp only [cmpL] at h
    split at h
    · cases h
    · split at h
      · cases h
      · rw [cmpL_eq h, show x = y by omega]
theorem cmpL_swap : ∀ (a b : List Int), cmpL b a = - cmpL a b
  | [], [] => rfl
  | [], _ :: _ => rfl
  | _ :: _, [] => rfl
  | x :: a, y :: b => by
    simp only [cmpL]
    have ih := cmpL_swap a b
    split <;> split <;> (try split) <;> omega
theorem cmpL_trans : ∀ {a b c : List Int}, cmpL a b < 0 → cmpL b c < 0 → cmpL a c < 0
  | [], [], _, h, _ => by simp [cmpL] at h
  | [], _ :: _, [], _, k => by simp [cmpL] at k
  | [], _ :: _, _ :: _, _, _ => by simp [cmpL]
  | _ :: _, [], _, h, _ => by simp [cmpL] at h
  | _ :: _, _ :: _, [], _, k => by simp [cmpL] at k
  | x :: a, y :: b, z :: c, h, k => by
    have ih := @cmpL_trans a b c
    simp only [cmpL] at h k ⊢
    split at h
    · split at k
      · rw [if_pos (by omega)]; decide
      · split at k
        · omega
        · rw [if_pos (by omega)]; decide
    · split at h
      · omega
      · split at k
        · rw [if_pos (by omega)]; decide
        · split at k
          · omega
          · rw [if_neg (by omega), if_neg (by omega)]; exact ih h k
theorem cmpL_bd : ∀ (a b : List Int), -1 ≤ cmpL a b ∧ cmpL a b ≤ 1
  | [], [] => by simp [cmpL]
  | [], _ :: _ => by simp [cmpL]
  | _ :: _, [] => by simp [cmpL]
  | x :: a, y :: b => by
    have ih := cmpL_bd a b
    simp only [cmpL]
    split
    · omega
    · split <;> omega

/-- b is the least row that the group makes of row. -/
structure LeastRow (n : Nat) (l : List (List Int)) (row b : List Int) : Prop where
  orb : ∃ p, Gen n l p ∧ b = mv p row
  le : ∀ p, Gen n l p → ¬ cmpL (mv p row) b < 0

section
variable {n : Nat} {l T : List (List Int)} {row b : List Int}

theorem LeastRow.unique {c : List Int} (h : LeastRow n l row b) (k : LeastRow n l row c) : b = c := by
  obtain ⟨p, hp, hb⟩ := h.orb
  obtain ⟨q, hq, hc⟩ := k.orb
  have h1 := h.le q hq
  have h2 := k.le p hp
  rw [← hc] at h1
  rw [← hb] at h2
  have h3 := cmpL_swap b c
  exact cmpL_eq (by omega)

theorem LeastRow.length (h : LeastRow n l row b) (hl : Orders n l) : b.length = n := by
  obtain ⟨p, hp, rfl⟩ := h.orb
  rw [length_mv, (hp.ok hl).1]
theorem LeastRow.perm (h : LeastRow n l row b) (hl : Orders n l) (hr : row.length = n) : b.Perm row := by
  obtain ⟨p, hp, rfl⟩ := h.orb
  exact mv_perm (hp.ok hl).2 (hr.trans (hp.ok hl).1.symm)
theorem LeastRow.le_row (h : LeastRow n l row b) (hr : row.length = n) : cmpL b row ≤ 0 := by
  have := h.le _ .one
  rw [mv_one hr] at this
  have h3 := cmpL_swap b row
  omega

/-- All rows that the group makes of one have the same least one. -/
theorem LeastRow.moved (h : LeastRow n l row b) (hT : GroupOf n l T) (hl : Orders n l) (hr : row.length = n) {q : List Int} (hq : Gen n l q) : LeastRow n l (mv q row) b := by
  have hQ := hq.ok hl
  have hv : Gen n l (vs q) := (hT.mem _).1 (hT.inv hl ((hT.mem q).2 hq) (isInv_vs hQ.2))
  refine ⟨?_, fun p hp => ?_⟩
  · obtain ⟨p, hp, rfl⟩ := h.orb
    have hP := hp.ok hl
    refine ⟨times p (vs q), hp.mul hl hv, ?_⟩
    rw [mv_mul _ (isPerm_vs hQ.2) hP.2 (by rw [length_vs, hP.1, hQ.1]), mv_back hQ.2 (hr.trans hQ.1.symm)]
  · have hP := hp.ok hl
    rw [← mv_mul _ hQ.2 hP.2 (hP.1.trans hQ.1.symm)]
    exact h.le _ (hp.mul hl hq)
theorem LeastRow.own (h : LeastRow n l row b) (hT : GroupOf n l T) (hl : Orders n l) (hr : row.length = n) : LeastRow n l b b := by
  obtain ⟨p, hp, e⟩ := h.orb
  have := h.moved hT hl hr hp
  rwa [← e] at this

theorem take_snocR {T : List (List Int)} {j : Nat} (hj : j < T.length) : T.take (j + 1) = T.take j ++ [T.getD j []] := by
  rw [List.take_succ_eq_append_getElem hj, List.getD_eq_getElem?_getD, List.getElem?_eq_getElem hj]
  rfl
/-- The least among some. -/
structure LeastOn (S : List (List Int)) (row b : List Int) : Prop where
  orb : ∃ p, p ∈ S ∧ b = mv p row
  le : ∀ p, p ∈ S → ¬ cmpL (mv p row) b < 0

theorem LeastOn.whole (h : LeastOn T row b) (hT : GroupOf n l T) : LeastRow n l row b :=
  ⟨let ⟨p, hp, e⟩ := h.orb; ⟨p, (hT.mem p).1 hp, e⟩, fun p hp => h.le p ((hT.mem p).2 hp)⟩
theorem LeastOn.first (p row : List Int) : LeastOn [p] row (mv p row) := ⟨⟨p, by simp, rfl⟩, fun q hq => by rw [List.mem_singleton.1 hq, cmpL_self]; decide⟩
theorem LeastOn.less {S : List (List Int)} {p : List Int} (h : LeastOn S row b) (hlt : cmpL (mv p row) b < 0) : LeastOn (S ++ [p]) row (mv p row) := by
  refine ⟨⟨p, by simp, rfl⟩, fun q hq hc => ?_⟩
  rcases List.mem_append.1 hq with h1 | h1
  · exact h.le q h1 (cmpL_trans hc hlt)
  · rw [List.mem_singleton.1 h1, cmpL_self] at hc
    omega
theorem LeastOn.more {S : List (List Int)} {p : List Int} (h : LeastOn S row b) (hlt : ¬ cmpL (mv p row) b < 0) : LeastOn (S ++ [p]) row b := by
  refine ⟨let ⟨q, hq, e⟩ := h.orb; ⟨q, by simp [hq], e⟩, fun q hq => ?_⟩
  rcases List.mem_append.1 hq with h1 | h1
  · exact h.le q h1
  · rw [List.mem_singleton.1 h1]
    exact hlt
end

/-- How many cycles. -/
def cyc (p : List Int) : Nat := (cycL p p.length).length
theorem cyc_le (p : List Int) : cyc p ≤ p.length := length_cycL_le p p.length
theorem cyc_of {p ys : List Int} (h : IsCycles p ys) : ys.length = cyc p := h.1.length_eq
theorem pow_six {k c : Nat} (hk : k ≤ 10) (hc : c ≤ 6) : k ^ c ≤ 1000000 := by
  have h1 : k ^ c ≤ 10 ^ c := Nat.pow_le_pow_left hk c
  have h2 : 10 ^ c ≤ 10 ^ 6 := Nat.pow_le_pow_right (by decide) hc
  omega
/-- The sum over all of them. -/
def colS (T : List (List Int)) (k : Nat) : Nat := (T.map (fun p => k ^ cyc p)).sum
theorem colS_snoc (T : List (List Int)) (p : List Int) (k : Nat) : colS (T ++ [p]) k = colS T k + k ^ cyc p := by simp [colS]
theorem colS_step {T : List (List Int)} {j : Nat} (hj : j < T.length) (k : Nat) : colS (T.take (j + 1)) k = colS (T.take j) k + k ^ cyc (T.getD j []) := by
  rw [take_snocR hj, colS_snoc]
theorem colS_le {T : List (List Int)} {k : Nat} (hk : k ≤ 10) (hT : ∀ j, j < T.length → (T.getD j []).length ≤ 6) : ∀ j, j ≤ T.length → colS (T.take j) k ≤ j * 1000000
  | 0, _ => by simp [colS]
  | j + 1, h => by
    rw [colS_step (by omega)]
    have h1 := colS_le hk hT j (by omega)
    have h2 := pow_six hk (Nat.le_trans (cyc_le (T.getD j [])) (hT j (by omega)))
    omega
/-- P46: how many colourings. -/
def colN (T : List (List Int)) (k : Nat) : Nat := colS T k / T.length

end Go.Proofs.Ytbcjfiobggggjaa
