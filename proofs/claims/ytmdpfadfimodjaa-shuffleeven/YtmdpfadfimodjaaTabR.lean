/-
  From behind the rows are columns (SCHENSTED): plain facts on shapes. No program, no memory.
-/
import Derived.Test.YtmdpfadfimodjaaTabM
namespace Go.Proofs.Ytmdpfadfimodjaa

/-- One cell more in row r. -/
def grow (f : Nat → Nat) (r : Nat) (i : Nat) : Nat := f i + (if i = r then 1 else 0)
theorem grow_at (f : Nat → Nat) (r : Nat) : grow f r r = f r + 1 := by simp [grow]
theorem grow_ne (f : Nat → Nat) {r i : Nat} (h : i ≠ r) : grow f r i = f i := by simp [grow, h]
theorem grow_comm (f : Nat → Nat) (a b : Nat) : grow (grow f a) b = grow (grow f b) a := by
  funext i
  simp only [grow]
  omega
theorem grow_inj {f : Nat → Nat} {a b : Nat} (h : grow f a = grow f b) : a = b := by
  have := congrFun h a
  rw [grow_at] at this
  by_cases e : a = b
  · exact e
  · rw [grow_ne f e] at this
    omega
/-- Two ways to the same two cells. -/
theorem grow_two {f : Nat → Nat} {a b c d : Nat} (h : grow (grow f a) b = grow (grow f c) d) : (a = c ∧ b = d) ∨ (a = d ∧ b = c) := by
  by_cases e : a = c
  · subst e
    exact .inl ⟨rfl, grow_inj h⟩
  · have h1 := congrFun h a
    have h2 : a = d := by
      by_cases e2 : a = d
      · exact e2
      · simp only [grow, if_neg e, if_neg e2] at h1
        simp at h1
        omega
    subst h2
    rw [grow_comm f c a] at h
    exact .inr ⟨rfl, grow_inj h⟩

theorem ind (i r : Nat) : (i = r ∧ (if i = r then 1 else 0 : Nat) = 1) ∨ (i ≠ r ∧ (if i = r then 1 else 0 : Nat) = 0) := by
  by_cases h : i = r
  · exact .inl ⟨h, if_pos h⟩
  · exact .inr ⟨h, if_neg h⟩

def Anti (f : Nat → Nat) : Prop := ∀ i, f (i + 1) ≤ f i
theorem Anti.le {f : Nat → Nat} (h : Anti f) {i j : Nat} (hij : i ≤ j) : f j ≤ f i := by
  induction hij with
  | refl => exact Nat.le_refl _
  | step _ ih => exact Nat.le_trans (h _) ih
theorem anti_zero {f : Nat → Nat} (h : Anti f) : Anti (grow f 0) := by
  intro i
  have := h i
  simp only [grow]
  rw [if_neg (by omega)]
  omega
theorem anti_two {f : Nat → Nat} {a d : Nat} (hf : Anti f) (ha : Anti (grow f a)) (hd : Anti (grow f d)) (hne : a ≠ d) : Anti (grow (grow f a) d) := by
  intro i
  have h1 := hf i
  have h2 := ha i
  have h3 := hd i
  simp only [grow] at *
  have p1 := ind i a
  have p2 := ind (i + 1) a
  have p3 := ind i d
  have p4 := ind (i + 1) d
  omega
theorem anti_next {f : Nat → Nat} {a : Nat} (hf : Anti f) (ha : Anti (grow f a)) : Anti (grow (grow f a) (a + 1)) := by
  intro i
  have h1 := hf i
  have h2 := ha i
  simp only [grow] at *
  by_cases e1 : i = a
  · subst e1
    simp
    omega
  · by_cases e2 : i + 1 = a
    · subst e2
      simp at *
      omega
    · have : ¬ i + 1 = a + 1 := by omega
      rw [if_neg e2, if_neg this]
      omega
/-- A cell that can be put there: the row above is longer. -/
theorem anti_gap {f : Nat → Nat} {a : Nat} (ha : Anti (grow f (a + 1))) : f (a + 1) + 1 ≤ f a := by
  have := ha a
  rw [grow_at, grow_ne f (by omega)] at this
  exact this

def Sh (w : List Int) : Nat → Nat := tlen (PT w)
theorem sh_nil (i : Nat) : Sh [] i = 0 := by simp [Sh, PT_nil, tlen]
theorem sh_snoc (w : List Int) (z : Int) : Sh (w ++ [z]) = grow (Sh w) (tin (PT w) z).2 := by
  funext i
  unfold Sh
  rw [PT_snoc, tlen_tin]
  rfl
theorem mid_row (u : List Int) (M : Int) (v : List Int) (h : ∀ y ∈ u ++ v, y < M) : ∃ r, r ≤ (PT (u ++ v)).length ∧ PT (u ++ M :: v) = tadd (PT (u ++ v)) r M ∧ Sh (u ++ M :: v) = grow (Sh (u ++ v)) r := by
  obtain ⟨r, h1, h2, _⟩ := mid_max u M v h
  refine ⟨r, h1, h2, ?_⟩
  funext i
  unfold Sh
  rw [h2, tlen_tadd _ _ _ _ h1]
  rfl
theorem sh_last (u : List Int) (M : Int) (h : ∀ y ∈ u, y < M) : Sh (u ++ [M]) = grow (Sh u) 0 := by
  rw [sh_snoc, tin_max]
  exact fun y hy => h y (PT_mem hy)
/-- The row rule. -/
theorem row_rule (u : List Int) (M : Int) (v : List Int) (z : Int) (h : ∀ y ∈ u ++ v, y < M) (hz : z < M) {a d : Nat} (ha : Sh ((u ++ v) ++ [z]) = grow (Sh (u ++ v)) a) (hd : Sh (u ++ M :: v) = grow (Sh (u ++ v)) d) :
    Sh ((u ++ M :: v) ++ [z]) = if a = d then grow (grow (Sh (u ++ v)) a) (a + 1) else grow (grow (Sh (u ++ v)) a) d := by
  obtain ⟨r, h1, h2, h3⟩ := mid_row u M v h
  have e1 : d = r := grow_inj (hd.symm.trans h3)
  have e2 : a = (tin (PT (u ++ v)) z).2 := grow_inj (ha.symm.trans (sh_snoc _ _))
  have A := tin_add (PT (u ++ v)) r M z (fun y hy => h y (PT_mem hy)) hz h1
  rw [sh_snoc, hd, h2, A, ← e2, ← e1]
  by_cases e : a = d
  · rw [if_pos e, if_pos e, e]
  · rw [if_neg e, if_neg e]
    exact grow_comm _ _ _

/-- The first row whose end is one cell right of where the cell of row b lies. -/
def RSh (f : Nat → Nat) (b s : Nat) : Prop := grow f b s = f b + 1 ∧ ∀ i, i < s → f b + 1 < grow f b i
theorem RSh.le {f : Nat → Nat} {b s : Nat} (h : RSh f b s) : s ≤ b := by
  rcases Nat.lt_or_ge b s with h1 | h1
  · have := h.2 b h1
    rw [grow_at] at this
    omega
  · exact h1
theorem rsh_self {f : Nat → Nat} {b : Nat} (h : ∀ i, i < b → f b + 1 < f i) : RSh f b b :=
  ⟨grow_at f b, fun i hi => by rw [grow_ne f (by omega)]; exact h i hi⟩
/-- Below it, where its row has got one more. -/
theorem RSh.next {f : Nat → Nat} {b s : Nat} (hf : Anti f) (hb : Anti (grow f b)) (h : RSh f b s) (hne : s ≠ b) : grow f b (s + 1) = f b + 1 ∧ f s = f b + 1 := by
  have hle := h.le
  have hs := h.1
  rw [grow_ne f hne] at hs
  refine ⟨?_, hs⟩
  by_cases e : s + 1 = b
  · rw [e, grow_at]
  · rw [grow_ne f e]
    obtain ⟨c, rfl⟩ : ∃ c, b = c + 1 := ⟨b - 1, by omega⟩
    have h1 := anti_gap hb
    have h2 := hf.le (show s + 1 ≤ c by omega)
    have h3 := hf s
    omega

/-! ### The induction over the length -/
structure Upto (N : Nat) : Prop where
  an : ∀ w : List Int, w.length < N → w.Nodup → Anti (Sh w)
  ge : ∀ (y : Int) (u : List Int) (M : Int) (v : List Int) (b d : Nat), (y :: (u ++ M :: v)).length < N → (y :: (u ++ M :: v)).Nodup → (∀ x ∈ y :: (u ++ v), x < M) → Sh (y :: (u ++ v)) = grow (Sh (u ++ v)) b → Sh (u ++ M :: v) = grow (Sh (u ++ v)) d →
    (b ≠ d → Sh (y :: (u ++ M :: v)) = grow (grow (Sh (u ++ v)) b) d) ∧ (b = d → ∃ s, RSh (Sh (u ++ v)) b s ∧ Sh (y :: (u ++ M :: v)) = grow (grow (Sh (u ++ v)) b) s)
  ee : ∀ (y : Int) (u : List Int), (y :: u).length < N → (y :: u).Nodup → ∃ b, Sh (y :: u) = grow (Sh u) b
  hh : ∀ (y : Int) (u : List Int) (z : Int) (a : Nat), (y :: (u ++ [z])).length < N → (y :: (u ++ [z])).Nodup → Sh (y :: u) = grow (Sh u) a → Sh (u ++ [z]) = grow (Sh u) a →
    Sh (y :: (u ++ [z])) = grow (grow (Sh u) a) a ∨ (Sh u (a + 1) = Sh u a ∧ Sh (y :: (u ++ [z])) = grow (grow (Sh u) a) (a + 1))

/-- A greatest one. -/
theorem max_of : ∀ (w : List Int), w ≠ [] → w.Nodup → ∃ u M v, w = u ++ M :: v ∧ ∀ y ∈ u ++ v, y < M
  | [x], _, _ => ⟨[], x, [], rfl, by simp⟩
  | x :: x' :: l, _, hd => by
    rw [List.nodup_cons] at hd
    obtain ⟨u, M, v, e, h⟩ := max_of (x' :: l) (by simp) hd.2
    rw [e] at hd ⊢
    rcases Int.lt_or_le x M with h1 | h1
    · refine ⟨x :: u, M, v, rfl, fun y hy => ?_⟩
      rcases List.mem_cons.1 hy with rfl | hy
      · exact h1
      · exact h y hy
    · have h2 : M < x := by
        have : x ≠ M := fun e => hd.1 (by simp [e])
        omega
      refine ⟨[], x, u ++ M :: v, rfl, fun y hy => ?_⟩
      rw [List.nil_append] at hy
      rcases List.mem_append.1 hy with hy | hy
      · have := h y (List.mem_append_left _ hy)
        omega
      · rcases List.mem_cons.1 hy with rfl | hy
        · exact h2
        · have := h y (List.mem_append_right _ hy)
          omega

theorem nodup_mid {u : List Int} {M : Int} {v : List Int} (h : (u ++ M :: v).Nodup) : (u ++ v).Nodup := by
  have := (List.perm_middle (a := M) (l₁ := u) (l₂ := v)).nodup_iff.1 h
  exact (List.nodup_cons.1 this).2
theorem nodup_front {u v : List Int} (h : (u ++ v).Nodup) : u.Nodup := (List.nodup_append.1 h).1

theorem anti_all (N : Nat) (IH : Upto N) : ∀ w : List Int, w.length = N → w.Nodup → Anti (Sh w) := by
  intro w hl hd
  by_cases h0 : w = []
  · subst h0
    intro i
    rw [sh_nil]
    exact Nat.zero_le _
  · obtain ⟨u, M, v, rfl, hM⟩ := max_of w h0 hd
    rcases List.eq_nil_or_concat v with rfl | ⟨v, z, rfl⟩
    · rw [sh_last u M (fun y hy => hM y (by simp [hy]))]
      exact anti_zero (IH.an u (by simp at hl; omega) (nodup_front hd))
    · have e1 : u ++ M :: (v ++ [z]) = (u ++ M :: v) ++ [z] := by simp
      have e2 : u ++ (v ++ [z]) = (u ++ v) ++ [z] := by simp
      rw [List.concat_eq_append] at hl hd hM ⊢
      rw [e2] at hM
      have hd1 := nodup_mid hd
      rw [e2] at hd1
      rw [e1] at hd hl ⊢
      obtain ⟨r, _, _, hr⟩ := mid_row u M v (fun y hy => hM y (List.mem_append_left _ hy))
      have A1 := IH.an (u ++ v) (by simp at hl ⊢; omega) (nodup_front hd1)
      have A2 := IH.an ((u ++ v) ++ [z]) (by simp at hl ⊢; omega) hd1
      have A3 := IH.an (u ++ M :: v) (by simp at hl ⊢; omega) (nodup_front hd)
      rw [row_rule u M v z (fun y hy => hM y (List.mem_append_left _ hy)) (hM z (by simp)) (sh_snoc _ _) hr]
      rw [sh_snoc] at A2
      rw [hr] at A3
      split
      · rename_i e
        rw [e]
        rw [e] at A2
        exact anti_next A1 A2
      · rename_i e
        exact anti_two A1 A2 A3 e

theorem ge_all (N : Nat) (IH : Upto N) (y : Int) (u : List Int) (M : Int) (v : List Int) (b d : Nat) (hl : (y :: (u ++ M :: v)).length = N) (hd : (y :: (u ++ M :: v)).Nodup) (hM : ∀ x ∈ y :: (u ++ v), x < M) (hb : Sh (y :: (u ++ v)) = grow (Sh (u ++ v)) b) (hdd : Sh (u ++ M :: v) = grow (Sh (u ++ v)) d) :
    (b ≠ d → Sh (y :: (u ++ M :: v)) = grow (grow (Sh (u ++ v)) b) d) ∧ (b = d → ∃ s, RSh (Sh (u ++ v)) b s ∧ Sh (y :: (u ++ M :: v)) = grow (grow (Sh (u ++ v)) b) s) := by
  rcases List.eq_nil_or_concat v with rfl | ⟨v, z, rfl⟩
  · rw [List.append_nil] at *
    have hu : ∀ x ∈ u, x < M := fun x hx => hM x (by simp [hx])
    have e0 : d = 0 := grow_inj (hdd.symm.trans (sh_last u M hu))
    have e1 : Sh (y :: (u ++ [M])) = grow (grow (Sh u) b) 0 := by
      have := sh_last (y :: u) M (fun x hx => hM x (by simpa using hx))
      rw [List.cons_append] at this
      rw [this, hb]
    subst e0
    refine ⟨fun _ => e1, fun e => ?_⟩
    subst e
    exact ⟨0, rsh_self (fun i hi => absurd hi (Nat.not_lt_zero _)), e1⟩
  · rw [List.concat_eq_append] at *
    have e1 : u ++ M :: (v ++ [z]) = (u ++ M :: v) ++ [z] := by simp
    have e2 : u ++ (v ++ [z]) = (u ++ v) ++ [z] := by simp
    rw [e1] at hl hd hdd ⊢
    rw [e2] at hM hb hdd ⊢
    have hMuv : ∀ x ∈ u ++ v, x < M := fun x hx => hM x (List.mem_cons_of_mem _ (List.mem_append_left _ hx))
    have hMy : y < M := hM y (by simp)
    have hMz : z < M := hM z (by simp)
    have hMyuv : ∀ x ∈ y :: (u ++ v), x < M := fun x hx => by
      rcases List.mem_cons.1 hx with rfl | hx
      · exact hMy
      · exact hMuv x hx
    -- lists without twins
    have hd1 : ((y :: u) ++ M :: (v ++ [z])).Nodup := by rw [List.cons_append, e1]; exact hd
    have hd2 : (y :: ((u ++ v) ++ [z])).Nodup := by have := nodup_mid hd1; rw [List.cons_append, e2] at this; exact this
    have hd3 : ((u ++ v) ++ [z]).Nodup := (List.nodup_cons.1 hd2).2
    have hd4 : (y :: (u ++ v)).Nodup := by
      have : ((y :: (u ++ v)) ++ [z]).Nodup := by rw [List.cons_append]; exact hd2
      exact nodup_front this
    have hd5 : (u ++ M :: v).Nodup := nodup_front (List.nodup_cons.1 hd).2
    have hd6 : (y :: (u ++ M :: v)).Nodup := by
      have : ((y :: (u ++ M :: v)) ++ [z]).Nodup := by rw [List.cons_append]; exact hd
      exact nodup_front this
    have hL : (u ++ v).length + 3 = N := by simp at hl ⊢; omega
    have hln1 : (u ++ v).length < N := by omega
    have hln2 : ((u ++ v) ++ [z]).length < N := by rw [List.length_append]; simp only [List.length_singleton]; omega
    have hln3 : (y :: (u ++ v)).length < N := by rw [List.length_cons]; omega
    have hln4 : (y :: ((u ++ v) ++ [z])).length < N := by rw [List.length_cons, List.length_append]; simp only [List.length_singleton]; omega
    have hln5 : (u ++ M :: v).length < N := by simp at hL ⊢; omega
    have hln6 : (y :: (u ++ M :: v)).length < N := by simp at hL ⊢; omega
    -- the shapes
    obtain ⟨b0, hb0⟩ := IH.ee y (u ++ v) hln3 hd4
    obtain ⟨d0, _, _, hd0⟩ := mid_row u M v hMuv
    obtain ⟨a, ha⟩ : ∃ a, Sh ((u ++ v) ++ [z]) = grow (Sh (u ++ v)) a := ⟨_, sh_snoc _ _⟩
    obtain ⟨a', ha'⟩ : ∃ a', Sh ((y :: (u ++ v)) ++ [z]) = grow (Sh (y :: (u ++ v))) a' := ⟨_, sh_snoc _ _⟩
    have A0 := IH.an (u ++ v) hln1 (nodup_front hd3)
    have Az := IH.an _ hln2 hd3
    have Ay := IH.an _ hln3 hd4
    have Ayz := IH.an _ hln4 hd2
    have AM := IH.an _ hln5 hd5
    have hzM := row_rule u M v z hMuv hMz ha hd0
    obtain ⟨g1, g2⟩ := IH.ge y u M v b0 d0 hln6 hd6 hMyuv hb0 hd0
    have HH := IH.hh y (u ++ v) z a hln4 hd2
    have hyM : ∀ m, Sh (y :: (u ++ M :: v)) = grow (Sh (y :: (u ++ v))) m → Sh (y :: ((u ++ M :: v) ++ [z])) = if a' = m then grow (grow (Sh (y :: (u ++ v))) a') (a' + 1) else grow (grow (Sh (y :: (u ++ v))) a') m := by
      intro m hm
      exact row_rule (y :: u) M v z hMyuv hMz ha' hm
    rw [List.cons_append] at ha'
    rw [hdd, ha] at hzM
    rw [hb, ha] at Ayz
    rw [hb0] at ha' hyM Ay
    rw [hd0] at AM
    rw [hb, ha] at ha'
    rw [ha] at Az
    rw [ha] at hb ⊢
    generalize hlam : Sh (u ++ v) = f at *
    have hcase := grow_two ha'
    by_cases hab : a = b0
    · subst hab
      have hba : b = a' := by rcases hcase with h | h; exact h.2; omega
      subst hba
      have HH := HH hb0 ha
      have hc : b = a ∨ (f (a + 1) = f a ∧ b = a + 1) := by
        rw [hb] at HH
        rcases HH with h | h
        · exact .inl (grow_inj h)
        · exact .inr ⟨h.1, grow_inj h.2⟩
      by_cases hda : d0 = a
      · subst hda
        rw [if_pos rfl] at hzM
        have hd1' : d = d0 + 1 := grow_inj hzM
        obtain ⟨s, hs, hsM⟩ := g2 rfl
        have hfin := hyM s hsM
        rcases hc with rfl | ⟨hc1, rfl⟩
        · -- right of it
          have hsb : s = b := by
            have hle := hs.le
            rcases Nat.lt_or_ge s b with h1 | h1
            · exfalso
              have h2 := hs.1
              rw [grow_ne f (by omega)] at h2
              obtain ⟨c, hcb⟩ : ∃ c, b = c + 1 := ⟨b - 1, by omega⟩
              have h3 := Ayz c
              rw [← hcb, grow_at, grow_at, grow_ne _ (by omega), grow_ne _ (by omega)] at h3
              have h4 := A0.le (show s ≤ c by omega)
              omega
            · omega
          subst hsb
          rw [if_pos rfl] at hfin
          subst hd1'
          refine ⟨fun _ => hfin, fun e => by omega⟩
        · -- below it
          have hsl := hs.le
          rw [if_neg (by omega)] at hfin
          subst hd1'
          refine ⟨fun e => absurd rfl e, fun _ => ⟨s, ⟨?_, fun i hi => ?_⟩, hfin⟩⟩
          · rw [grow_ne _ (by omega), grow_ne f (show d0 + 1 ≠ d0 by omega), hs.1, hc1]
          · have := hs.2 i hi
            rw [grow_ne f (show d0 + 1 ≠ d0 by omega), grow_ne _ (show i ≠ d0 + 1 by omega), hc1]
            exact this
      · rw [if_neg (fun e => hda e.symm)] at hzM
        have hd1' : d = d0 := grow_inj hzM
        subst hd1'
        have hfin := hyM d (g1 (fun e => hda e.symm))
        have hbd : b ≠ d := by
          rcases hc with rfl | ⟨hc1, rfl⟩
          · exact fun e => hda e.symm
          · intro e
            rw [← e] at AM
            have := anti_gap AM
            omega
        rw [if_neg hbd] at hfin
        exact ⟨fun _ => hfin, fun e => absurd e hbd⟩
    · have hba : b = b0 ∧ a' = a := by
        rcases hcase with h | h
        · exact absurd h.1 hab
        · exact ⟨h.2, h.1.symm⟩
      obtain ⟨rfl, rfl⟩ := hba
      by_cases hda : a' = d0
      · subst hda
        rw [if_pos rfl] at hzM
        have hd1' : d = a' + 1 := grow_inj hzM
        have hfin := hyM a' (g1 (fun e => hab e.symm))
        rw [if_pos rfl, grow_comm f b a'] at hfin
        subst hd1'
        refine ⟨fun _ => hfin, fun e => ?_⟩
        subst e
        refine ⟨a' + 1, rsh_self (fun i hi => ?_), hfin⟩
        have h1 := anti_gap Ay
        have h2 := Az.le (show i ≤ a' by omega)
        rw [grow_at] at h2
        rw [grow_ne f (show a' + 1 ≠ a' by omega)]
        omega
      · rw [if_neg hda] at hzM
        have hd1' : d = d0 := grow_inj hzM
        subst hd1'
        by_cases hbd : b = d
        · subst hbd
          obtain ⟨s, hs, hsM⟩ := g2 rfl
          have hfin := hyM s hsM
          refine ⟨fun e => absurd rfl e, fun _ => ?_⟩
          by_cases has : a' = s
          · subst has
            rw [if_pos rfl, grow_comm f b a'] at hfin
            obtain ⟨k1, k2⟩ := hs.next A0 Ay hab
            refine ⟨a' + 1, ⟨?_, fun i hi => ?_⟩, hfin⟩
            · rw [grow_comm f a' b, grow_ne _ (by omega), k1, grow_ne f (fun e => hab e.symm)]
            · rw [grow_ne f (fun e => hab e.symm), grow_comm f a' b]
              by_cases hi2 : i = a'
              · subst hi2
                rw [grow_at, grow_ne f hab, k2]
                omega
              · rw [grow_ne _ hi2]
                exact hs.2 i (by omega)
          · rw [if_neg has, grow_comm f b a'] at hfin
            refine ⟨s, ⟨?_, fun i hi => ?_⟩, hfin⟩
            · rw [grow_comm f a' b, grow_ne _ (fun e => has e.symm), hs.1, grow_ne f (fun e => hab e.symm)]
            · have := hs.2 i hi
              rw [grow_ne f (fun e => hab e.symm), grow_comm f a' b]
              refine Nat.lt_of_lt_of_le this ?_
              exact Nat.le_add_right _ _
        · have hfin := hyM d (g1 hbd)
          rw [if_neg hda, grow_comm f b a'] at hfin
          exact ⟨fun _ => hfin, fun e => absurd e hbd⟩

theorem ee_all (N : Nat) (IH : Upto N) (y : Int) (u : List Int) (hl : (y :: u).length = N) (hd : (y :: u).Nodup) : ∃ b, Sh (y :: u) = grow (Sh u) b := by
  by_cases h0 : u = []
  · subst h0
    exact ⟨_, sh_snoc [] y⟩
  · obtain ⟨u1, M, v, rfl, hM⟩ := max_of u h0 (List.nodup_cons.1 hd).2
    have hyM : y ≠ M := fun e => (List.nodup_cons.1 hd).1 (by simp [e])
    rcases Int.lt_or_le y M with h1 | h1
    · have hd1 : ((y :: u1) ++ M :: v).Nodup := hd
      have hd2 : (y :: (u1 ++ v)).Nodup := nodup_mid hd1
      obtain ⟨b, hb⟩ := IH.ee y (u1 ++ v) (by simp at hl ⊢; omega) hd2
      obtain ⟨d, _, _, hdd⟩ := mid_row u1 M v hM
      obtain ⟨g1, g2⟩ := ge_all N IH y u1 M v b d hl hd (fun x hx => by
        rcases List.mem_cons.1 hx with rfl | hx
        · exact h1
        · exact hM x hx) hb hdd
      by_cases e : b = d
      · obtain ⟨s, _, hs⟩ := g2 e
        refine ⟨s, ?_⟩
        rw [hs, hdd, e]
      · refine ⟨b, ?_⟩
        rw [g1 e, hdd]
        exact grow_comm _ _ _
    · obtain ⟨d, _, _, hdd⟩ := mid_row [] y (u1 ++ M :: v) (fun x hx => by
        rw [List.nil_append] at hx
        rcases List.mem_append.1 hx with hx | hx
        · have := hM x (List.mem_append_left _ hx)
          omega
        · rcases List.mem_cons.1 hx with rfl | hx
          · omega
          · have := hM x (List.mem_append_right _ hx)
            omega)
      exact ⟨d, hdd⟩

/-- A greatest number at the front lies at the end of the first column. -/
theorem front_max (M : Int) (u : List Int) : (∀ x ∈ u, x < M) → u.Nodup → (∀ w : List Int, w.length < u.length → w.Nodup → Anti (Sh w)) → ∀ d, Sh (M :: u) = grow (Sh u) d → Sh u d = 0 := by
  induction u using snoc_ind with
  | h0 => intro _ _ _ d _; exact sh_nil d
  | h1 u z ih =>
    intro hM hd hA d hdd
    have hMu : ∀ x ∈ [] ++ u, x < M := fun x hx => hM x (by simp at hx; simp [hx])
    obtain ⟨d0, _, _, hd0⟩ := mid_row [] M u hMu
    rw [List.nil_append, List.nil_append] at hd0
    have hA1 : ∀ w : List Int, w.length < u.length → w.Nodup → Anti (Sh w) := fun w hw hn => hA w (by rw [List.length_append]; simp only [List.length_singleton]; omega) hn
    have h0 := ih (fun x hx => hM x (by simp [hx])) (nodup_front hd) hA1 d0 hd0
    have Au := hA u (by simp) (nodup_front hd)
    have hr := row_rule [] M u z hMu (hM z (by simp)) (sh_snoc _ _) hd0
    simp only [List.nil_append] at hr
    rw [List.cons_append, hdd, sh_snoc] at hr
    rw [sh_snoc]
    split at hr
    · rename_i e
      have := grow_inj hr
      have h2 := Au d0
      rw [this, grow_ne _ (by omega), e]
      omega
    · rename_i e
      have := grow_inj hr
      rw [this, grow_ne _ (fun h => e h.symm)]
      exact h0

theorem hh_all (N : Nat) (IH : Upto N) (y : Int) (u : List Int) (z : Int) (a : Nat) (hl : (y :: (u ++ [z])).length = N) (hd : (y :: (u ++ [z])).Nodup) (hy : Sh (y :: u) = grow (Sh u) a) (hz : Sh (u ++ [z]) = grow (Sh u) a) :
    Sh (y :: (u ++ [z])) = grow (grow (Sh u) a) a ∨ (Sh u (a + 1) = Sh u a ∧ Sh (y :: (u ++ [z])) = grow (grow (Sh u) a) (a + 1)) := by
  have hyz : y ≠ z := fun e => (List.nodup_cons.1 hd).1 (by simp [e])
  have hdu : (u ++ [z]).Nodup := (List.nodup_cons.1 hd).2
  have hlu : u.length + 2 = N := by simp at hl; omega
  have hdyu : (y :: u).Nodup := by
    have : ((y :: u) ++ [z]).Nodup := by rw [List.cons_append]; exact hd
    exact nodup_front this
  obtain ⟨p, M, q, hpq, hM⟩ := max_of (y :: (u ++ [z])) (by simp) hd
  have hall : ∀ x ∈ y :: (u ++ [z]), x ≤ M := by
    intro x hx
    rw [hpq] at hx
    rcases List.mem_append.1 hx with hx | hx
    · have := hM x (List.mem_append_left _ hx)
      omega
    · rcases List.mem_cons.1 hx with rfl | hx
      · exact Int.le_refl _
      · have := hM x (List.mem_append_right _ hx)
        omega
  have hmem : M ∈ y :: (u ++ [z]) := by rw [hpq]; simp
  by_cases hMz : M = z
  · -- z is the greatest
    subst hMz
    have h1 : ∀ x ∈ y :: u, x < M := by
      intro x hx
      have h2 := hall x (by rcases List.mem_cons.1 hx with rfl | hx; simp; simp [hx])
      have h3 : x ≠ M := by
        rintro rfl
        have : ((y :: u) ++ [x]).Nodup := by rw [List.cons_append]; exact hd
        rw [List.nodup_append] at this
        exact this.2.2 x hx x (by simp) rfl
      omega
    have e0 : a = 0 := grow_inj (hz.symm.trans (sh_last u M (fun x hx => h1 x (by simp [hx]))))
    subst e0
    left
    have := sh_last (y :: u) M h1
    rw [List.cons_append] at this
    rw [this, hy]
  · by_cases hMy : M = y
    · -- y is the greatest
      subst hMy
      have h1 : ∀ x ∈ u ++ [z], x < M := by
        intro x hx
        have h2 := hall x (List.mem_cons_of_mem _ hx)
        have h3 : x ≠ M := fun e => (List.nodup_cons.1 hd).1 (e ▸ hx)
        omega
      have h0 := front_max M u (fun x hx => h1 x (by simp [hx])) (nodup_front hdu) (fun w hw hn => IH.an w (by omega) hn) a hy
      have Au := IH.an u (by omega) (nodup_front hdu)
      right
      have h4 := Au a
      refine ⟨by omega, ?_⟩
      have hr := row_rule [] M u z (fun x hx => h1 x (by simp at hx; simp [hx])) (h1 z (by simp)) (a := a) (d := a) hz hy
      simpa using hr
    · -- the greatest lies in u
      have hMu : M ∈ u := by
        rcases List.mem_cons.1 hmem with h | h
        · exact absurd h hMy
        · rcases List.mem_append.1 h with h | h
          · exact h
          · simp at h
            exact absurd h hMz
      obtain ⟨u1, u2, rfl⟩ := List.append_of_mem hMu
      clear hpq hM hmem p q
      have hlt : ∀ x ∈ y :: ((u1 ++ u2) ++ [z]), x < M := by
        intro x hx
        have hx2 : x ∈ y :: ((u1 ++ M :: u2) ++ [z]) := by
          simp only [List.mem_cons, List.mem_append] at hx ⊢
          rcases hx with h | (h | h) | h
          · exact .inl h
          · exact .inr (.inl (.inl h))
          · exact .inr (.inl (.inr (.inr h)))
          · exact .inr (.inr h)
        have h2 := hall x hx2
        have hdd : ((y :: u1) ++ M :: (u2 ++ [z])).Nodup := by
          have : (y :: u1) ++ M :: (u2 ++ [z]) = y :: ((u1 ++ M :: u2) ++ [z]) := by simp
          rw [this]
          exact hd
        have hdd2 := (List.perm_middle (a := M) (l₁ := y :: u1) (l₂ := u2 ++ [z])).nodup_iff.1 hdd
        have h3 : x ≠ M := by
          rintro rfl
          refine (List.nodup_cons.1 hdd2).1 ?_
          simp only [List.mem_cons, List.mem_append, List.cons_append] at hx ⊢
          rcases hx with h | (h | h) | h
          · exact .inl h
          · exact .inr (.inl h)
          · exact .inr (.inr (.inl h))
          · exact .inr (.inr (.inr h))
        omega
      have hMuv : ∀ x ∈ u1 ++ u2, x < M := fun x hx => hlt x (List.mem_cons_of_mem _ (List.mem_append_left _ hx))
      have hMy' : y < M := hlt y (by simp)
      have hMz' : z < M := hlt z (by simp)
      have hMyuv : ∀ x ∈ y :: (u1 ++ u2), x < M := fun x hx => by
        rcases List.mem_cons.1 hx with rfl | hx
        · exact hMy'
        · exact hMuv x hx
      have hd1 : ((y :: u1) ++ M :: (u2 ++ [z])).Nodup := by
        have : (y :: u1) ++ M :: (u2 ++ [z]) = y :: ((u1 ++ M :: u2) ++ [z]) := by simp
        rw [this]
        exact hd
      have hd2 : (y :: ((u1 ++ u2) ++ [z])).Nodup := by
        have := nodup_mid hd1
        rw [List.cons_append, ← List.append_assoc] at this
        exact this
      have hd3 : ((u1 ++ u2) ++ [z]).Nodup := (List.nodup_cons.1 hd2).2
      have hd4 : (y :: (u1 ++ u2)).Nodup := by
        have : ((y :: (u1 ++ u2)) ++ [z]).Nodup := by rw [List.cons_append]; exact hd2
        exact nodup_front this
      have hL : (u1 ++ u2).length + 3 = N := by simp at hlu ⊢; omega
      obtain ⟨B, hB⟩ := IH.ee y (u1 ++ u2) (by rw [List.length_cons]; omega) hd4
      obtain ⟨D, _, _, hD⟩ := mid_row u1 M u2 hMuv
      obtain ⟨A, hA⟩ : ∃ A, Sh ((u1 ++ u2) ++ [z]) = grow (Sh (u1 ++ u2)) A := ⟨_, sh_snoc _ _⟩
      obtain ⟨A', hA'⟩ : ∃ A', Sh ((y :: (u1 ++ u2)) ++ [z]) = grow (Sh (y :: (u1 ++ u2))) A' := ⟨_, sh_snoc _ _⟩
      have F0 := IH.an (u1 ++ u2) (by omega) (nodup_front hd3)
      have FB := IH.an _ (by rw [List.length_cons]; omega) hd4
      have FD := IH.an (u1 ++ M :: u2) (by simp at hL ⊢; omega) (nodup_front hdu)
      have hzM := row_rule u1 M u2 z hMuv hMz' hA hD
      obtain ⟨g1, g2⟩ := IH.ge y u1 M u2 B D (by simp at hL ⊢; omega) hdyu hMyuv hB hD
      have hyM : ∀ m, Sh (y :: (u1 ++ M :: u2)) = grow (Sh (y :: (u1 ++ u2))) m → Sh (y :: ((u1 ++ M :: u2) ++ [z])) = if A' = m then grow (grow (Sh (y :: (u1 ++ u2))) A') (A' + 1) else grow (grow (Sh (y :: (u1 ++ u2))) A') m := by
        intro m hm
        exact row_rule (y :: u1) M u2 z hMyuv hMz' hA' hm
      have HH := IH.hh y (u1 ++ u2) z
      obtain ⟨b2, hb2⟩ := IH.ee y ((u1 ++ u2) ++ [z]) (by rw [List.length_cons, List.length_append]; simp only [List.length_singleton]; omega) hd2
      have HH := fun a => HH a (by rw [List.length_cons, List.length_append]; simp only [List.length_singleton]; omega) hd2
      rw [hz, hD] at hzM
      rw [hD] at hy hz FD ⊢
      rw [hB] at FB hA' hyM
      rw [List.cons_append] at hA'
      rw [hy] at g1 g2 hyM
      rw [hA] at hb2
      generalize hlam : Sh (u1 ++ u2) = f at *
      by_cases hAB : A = B
      · subst hAB
        have hc : A' = A ∨ (f (A + 1) = f A ∧ A' = A + 1) := by
          rcases HH A hB hA with h | h
          · exact .inl (grow_inj (hA'.symm.trans h))
          · exact .inr ⟨h.1, grow_inj (hA'.symm.trans h.2)⟩
        by_cases hDA : A = D
        · exfalso
          subst hDA
          rw [if_pos rfl] at hzM
          have h1 := grow_inj hzM
          obtain ⟨s, hs, hsM⟩ := g2 rfl
          have h2 := grow_inj hsM
          have := hs.le
          omega
        · rw [if_neg hDA, grow_comm f A D] at hzM
          have haA : a = A := grow_inj hzM
          subst haA
          have hfin := hyM D (by rw [g1 hDA])
          have hAD : A' ≠ D := by
            rcases hc with rfl | ⟨hc1, rfl⟩
            · exact hDA
            · intro e
              rw [← e] at FD
              have := anti_gap FD
              omega
          rw [if_neg hAD] at hfin
          have e5 : grow (grow (grow f a) A') D = grow (grow (grow f D) a) A' := by
            rw [grow_comm (grow f a) A' D, grow_comm f a D]
          rw [hfin, e5]
          rcases hc with rfl | ⟨hc1, rfl⟩
          · exact .inl rfl
          · refine .inr ⟨?_, rfl⟩
            rw [grow_ne f hAD, grow_ne f hDA]
            exact hc1
      · have hA2 : A' = A := by
          rw [hb2] at hA'
          rcases grow_two hA' with h | h
          · exact absurd h.1 hAB
          · exact h.1.symm
        subst hA2
        by_cases hDA : A' = D
        · subst hDA
          rw [if_pos rfl] at hzM
          have h1 : a = A' + 1 := grow_inj hzM
          have hBa : B = a := by
            have := g1 (fun e => hAB e.symm)
            rw [grow_comm f B A'] at this
            exact (grow_inj this).symm
          have hfin := hyM A' (by rw [g1 (fun e => hAB e.symm)])
          rw [if_pos rfl] at hfin
          left
          rw [hfin, hBa, ← h1, grow_comm f a A']
        · rw [if_neg hDA, grow_comm f A' D] at hzM
          have haA : a = A' := grow_inj hzM
          subst haA
          by_cases hBD : B = D
          · subst hBD
            obtain ⟨s, hs, hsM⟩ := g2 rfl
            have hsa : a = s := grow_inj hsM
            subst hsa
            have hfin := hyM a rfl
            rw [if_pos rfl] at hfin
            obtain ⟨k1, k2⟩ := hs.next F0 FB hDA
            right
            refine ⟨?_, hfin⟩
            rw [k1, hs.1]
          · exfalso
            have := g1 hBD
            rw [grow_comm f B D] at this
            exact hAB (grow_inj this)

theorem upto_all : ∀ N, Upto N
  | 0 => ⟨fun _ h => absurd h (Nat.not_lt_zero _), fun _ _ _ _ _ _ h => absurd h (Nat.not_lt_zero _), fun _ _ h => absurd h (Nat.not_lt_zero _), fun _ _ _ _ h => absurd h (Nat.not_lt_zero _)⟩
  | N + 1 => by
    have IH := upto_all N
    refine ⟨fun w hw hd => ?_, fun y u M v b d hl hd hM hb hdd => ?_, fun y u hl hd => ?_, fun y u z a hl hd hy hz => ?_⟩
    · rcases Nat.lt_or_ge w.length N with h | h
      · exact IH.an w h hd
      · exact anti_all N IH w (by omega) hd
    · rcases Nat.lt_or_ge (y :: (u ++ M :: v)).length N with h | h
      · exact IH.ge y u M v b d h hd hM hb hdd
      · exact ge_all N IH y u M v b d (by omega) hd hM hb hdd
    · rcases Nat.lt_or_ge (y :: u).length N with h | h
      · exact IH.ee y u h hd
      · exact ee_all N IH y u (by omega) hd
    · rcases Nat.lt_or_ge (y :: (u ++ [z])).length N with h | h
      · exact IH.hh y u z a h hd hy hz
      · exact hh_all N IH y u z a (by omega) hd hy hz

theorem anti_sh {w : List Int} (h : w.Nodup) : Anti (Sh w) := (upto_all (w.length + 1)).an w (Nat.lt_succ_self _) h

end Go.Proofs.Ytmdpfadfimodjaa
