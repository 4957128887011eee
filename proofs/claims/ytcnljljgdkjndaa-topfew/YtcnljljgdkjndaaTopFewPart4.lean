/-
  Texts joined: TabR, TabK, LinM, LinA, LinL, LinU, LinS, TableauFirst, TopFew.
-/
import Derived.Test.YtcnljljgdkjndaaTopFewPart3
import Derived.Deep.DeepCutAuto
import Derived.Laws.MakeOwn

/-
  From behind the rows are columns (SCHENSTED): plain facts on shapes. No program, no memory.
-/
namespace Go.Proofs.Ytcnljljgdkjndaa

/-- One cell more in row r. -/
def grow (f : Nat → Nat) (r : Nat) (i : Nat) : Nat := f i + (if i = r then 1 else 0)
theorem grow_at (f : Nat → Nat) (r : Nat) : grow f r r = f r + 1 := by simp [grow]
theorem grow_ne (f : Nat → Nat) {r i : Nat} (h : i ≠ r) : grow f r i = f i := by simp [grow, h]
theorem grow_comm (f : Nat → Nat) (a b : Nat) : grow (grow f a) b = grow (grow f b) a := by
  funext i
  simp only [grow]
  omega
theorem grow_inj {f : Nat → Nat} {a b : Nat} (h : grow f a = grow f b) : a = b := by
  have := congrFun h a
  rw [grow_at] at this
  by_cases e : a = b
  · exact e
  · rw [grow_ne f e] at this
    omega
/-- Two ways to the same two cells. -/
theorem grow_two {f : Nat → Nat} {a b c d : Nat} (h : grow (grow f a) b = grow (grow f c) d) : (a = c ∧ b = d) ∨ (a = d ∧ b = c) := by
  by_cases e : a = c
  · subst e
    exact .inl ⟨rfl, grow_inj h⟩
  · have h1 := congrFun h a
    have h2 : a = d := by
      by_cases e2 : a = d
      · exact e2
      · simp only [grow, if_neg e, if_neg e2] at h1
        simp at h1
        omega
    subst h2
    rw [grow_comm f c a] at h
    exact .inr ⟨rfl, grow_inj h⟩

theorem ind (i r : Nat) : (i = r ∧ (if i = r then 1 else 0 : Nat) = 1) ∨ (i ≠ r ∧ (if i = r then 1 else 0 : Nat) = 0) := by
  by_cases h : i = r
  · exact .inl ⟨h, if_pos h⟩
  · exact .inr ⟨h, if_neg h⟩

def Anti (f : Nat → Nat) : Prop := ∀ i, f (i + 1) ≤ f i
theorem Anti.le {f : Nat → Nat} (h : Anti f) {i j : Nat} (hij : i ≤ j) : f j ≤ f i := by
  induction hij with
  | refl => exact Nat.le_refl _
  | step _ ih => exact Nat.le_trans (h _) ih
theorem anti_zero {f : Nat → Nat} (h : Anti f) : Anti (grow f 0) := by
  intro i
  have := h i
  simp only [grow]
  rw [if_neg (by omega)]
  omega
theorem anti_two {f : Nat → Nat} {a d : Nat} (hf : Anti f) (ha : Anti (grow f a)) (hd : Anti (grow f d)) (hne : a ≠ d) : Anti (grow (grow f a) d) := by
  intro i
  have h1 := hf i
  have h2 := ha i
  have h3 := hd i
  simp only [grow] at *
  have p1 := ind i a
  have p2 := ind (i + 1) a
  have p3 := ind i d
  have p4 := ind (i + 1) d
  omega
theorem anti_next {f : Nat → Nat} {a : Nat} (hf : Anti f) (ha : Anti (grow f a)) : Anti (grow (grow f a) (a + 1)) := by
  intro i
  have h1 := hf i
  have h2 := ha i
  simp only [grow] at *
  by_cases e1 : i = a
  · subst e1
    simp
    omega
  · by_cases e2 : i + 1 = a
    · subst e2
      simp at *
      omega
    · have : ¬ i + 1 = a + 1 := by omega
      rw [if_neg e2, if_neg this]
      omega
/-- A cell that can be put there: the row above is longer. -/
theorem anti_gap {f : Nat → Nat} {a : Nat} (ha : Anti (grow f (a + 1))) : f (a + 1) + 1 ≤ f a := by
  have := ha a
  rw [grow_at, grow_ne f (by omega)] at this
  exact this

def Sh (w : List Int) : Nat → Nat := tlen (PT w)
theorem sh_nil (i : Nat) : Sh [] i = 0 := by simp [Sh, PT_nil, tlen]
theorem sh_snoc (w : List Int) (z : Int) : Sh (w ++ [z]) = grow (Sh w) (tin (PT w) z).2 := by
  funext i
  unfold Sh
  rw [PT_snoc, tlen_tin]
  rfl
theorem mid_row (u : List Int) (M : Int) (v : List Int) (h : ∀ y ∈ u ++ v, y < M) : ∃ r, r ≤ (PT (u ++ v)).length ∧ PT (u ++ M :: v) = tadd (PT (u ++ v)) r M ∧ Sh (u ++ M :: v) = grow (Sh (u ++ v)) r := by
  obtain ⟨r, h1, h2, _⟩ := mid_max u M v h
  refine ⟨r, h1, h2, ?_⟩
  funext i
  unfold Sh
  rw [h2, tlen_tadd _ _ _ _ h1]
  rfl
theorem sh_last (u : List Int) (M : Int) (h : ∀ y ∈ u, y < M) : Sh (u ++ [M]) = grow (Sh u) 0 := by
  rw [sh_snoc, tin_max]
  exact fun y hy => h y (PT_mem hy)
/-- The row rule. -/
theorem row_rule (u : List Int) (M : Int) (v : List Int) (z : Int) (h : ∀ y ∈ u ++ v, y < M) (hz : z < M) {a d : Nat} (ha : Sh ((u ++ v) ++ [z]) = grow (Sh (u ++ v)) a) (hd : Sh (u ++ M :: v) = grow (Sh (u ++ v)) d) :
    Sh ((u ++ M :: v) ++ [z]) = if a = d then grow (grow (Sh (u ++ v)) a) (a + 1) else grow (grow (Sh (u ++ v)) a) d := by
  obtain ⟨r, h1, h2, h3⟩ := mid_row u M v h
  have e1 : d = r := grow_inj (hd.symm.trans h3)
  have e2 : a = (tin (PT (u ++ v)) z).2 := grow_inj (ha.symm.trans (sh_snoc _ _))
  have A := tin_add (PT (u ++ v)) r M z (fun y hy => h y (PT_mem hy)) hz h1
  rw [sh_snoc, hd, h2, A, ← e2, ← e1]
  by_cases e : a = d
  · rw [if_pos e, if_pos e, e]
  · rw [if_neg e, if_neg e]
    exact grow_comm _ _ _

/-- The first row whose end is one cell right of where the cell of row b lies. -/
def RSh (f : Nat → Nat) (b s : Nat) : Prop := grow f b s = f b + 1 ∧ ∀ i, i < s → f b + 1 < grow f b i
theorem RSh.le {f : Nat → Nat} {b s : Nat} (h : RSh f b s) : s ≤ b := by
  rcases Nat.lt_or_ge b s with h1 | h1
  · have := h.2 b h1
    rw [grow_at] at this
    omega
  · exact h1
theorem rsh_self {f : Nat → Nat} {b : Nat} (h : ∀ i, i < b → f b + 1 < f i) : RSh f b b :=
  ⟨grow_at f b, fun i hi => by rw [grow_ne f (by omega)]; exact h i hi⟩
/-- Below it, where its row has got one more. -/
theorem RSh.next {f : Nat → Nat} {b s : Nat} (hf : Anti f) (hb : Anti (grow f b)) (h : RSh f b s) (hne : s ≠ b) : grow f b (s + 1) = f b + 1 ∧ f s = f b + 1 := by
  have hle := h.le
  have hs := h.1
  rw [grow_ne f hne] at hs
  refine ⟨?_, hs⟩
  by_cases e : s + 1 = b
  · rw [e, grow_at]
  · rw [grow_ne f e]
    obtain ⟨c, rfl⟩ : ∃ c, b = c + 1 := ⟨b - 1, by omega⟩
    have h1 := anti_gap hb
    have h2 := hf.le (show s + 1 ≤ c by omega)
    have h3 := hf s
    omega

/-! ### The induction over the length -/
structure Upto (N : Nat) : Prop where
  an : ∀ w : List Int, w.length < N → w.Nodup → Anti (Sh w)
  ge : ∀ (y : Int) (u : List Int) (M : Int) (v : List Int) (b d : Nat), (y :: (u ++ M :: v)).length < N → (y :: (u ++ M :: v)).Nodup → (∀ x ∈ y :: (u ++ v), x < M) → Sh (y :: (u ++ v)) = grow (Sh (u ++ v)) b → Sh (u ++ M :: v) = grow (Sh (u ++ v)) d →
    (b ≠ d → Sh (y :: (u ++ M :: v)) = grow (grow (Sh (u ++ v)) b) d) ∧ (b = d → ∃ s, RSh (Sh (u ++ v)) b s ∧ Sh (y :: (u ++ M :: v)) = grow (grow (Sh (u ++ v)) b) s)
  ee : ∀ (y : Int) (u : List Int), (y :: u).length < N → (y :: u).Nodup → ∃ b, Sh (y :: u) = grow (Sh u) b
  hh : ∀ (y : Int) (u : List Int) (z : Int) (a : Nat), (y :: (u ++ [z])).length < N → (y :: (u ++ [z])).Nodup → Sh (y :: u) = grow (Sh u) a → Sh (u ++ [z]) = grow (Sh u) a →
    Sh (y :: (u ++ [z])) = grow (grow (Sh u) a) a ∨ (Sh u (a + 1) = Sh u a ∧ Sh (y :: (u ++ [z])) = grow (grow (Sh u) a) (a + 1))

/-- A greatest one. -/
theorem max_of : ∀ (w : List Int), w ≠ [] → w.Nodup → ∃ u M v, w = u ++ M :: v ∧ ∀ y ∈ u ++ v, y < M
  | [x], _, _ => ⟨[], x, [], rfl, by simp⟩
  | x :: x' :: l, _, hd => by
    rw [List.nodup_cons] at hd
    obtain ⟨u, M, v, e, h⟩ := max_of (x' :: l) (by simp) hd.2
    rw [e] at hd ⊢
    rcases Int.lt_or_le x M with h1 | h1
    · refine ⟨x :: u, M, v, rfl, fun y hy => ?_⟩
      rcases List.mem_cons.1 hy with rfl | hy
      · exact h1
      · exact h y hy
    · have h2 : M < x := by
        have : x ≠ M := fun e => hd.1 (by simp [e])
        omega
      refine ⟨[], x, u ++ M :: v, rfl, fun y hy => ?_⟩
      rw [List.nil_append] at hy
      rcases List.mem_append.1 hy with hy | hy
      · have := h y (List.mem_append_left _ hy)
        omega
      · rcases List.mem_cons.1 hy with rfl | hy
        · exact h2
        · have := h y (List.mem_append_right _ hy)
          omega

theorem nodup_mid {u : List Int} {M : Int} {v : List Int} (h : (u ++ M :: v).Nodup) : (u ++ v).Nodup := by
  have := (List.perm_middle (a := M) (l₁ := u) (l₂ := v)).nodup_iff.1 h
  exact (List.nodup_cons.1 this).2
theorem nodup_front {u v : List Int} (h : (u ++ v).Nodup) : u.Nodup := (List.nodup_append.1 h).1

theorem anti_all (N : Nat) (IH : Upto N) : ∀ w : List Int, w.length = N → w.Nodup → Anti (Sh w) := by
  intro w hl hd
  by_cases h0 : w = []
  · subst h0
    intro i
    rw [sh_nil]
    exact Nat.zero_le _
  · obtain ⟨u, M, v, rfl, hM⟩ := max_of w h0 hd
    rcases List.eq_nil_or_concat v with rfl | ⟨v, z, rfl⟩
    · rw [sh_last u M (fun y hy => hM y (by simp [hy]))]
      exact anti_zero (IH.an u (by simp at hl; omega) (nodup_front hd))
    · have e1 : u ++ M :: (v ++ [z]) = (u ++ M :: v) ++ [z] := by simp
      have e2 : u ++ (v ++ [z]) = (u ++ v) ++ [z] := by simp
      rw [List.concat_eq_append] at hl hd hM ⊢
      rw [e2] at hM
      have hd1 := nodup_mid hd
      rw [e2] at hd1
      rw [e1] at hd hl ⊢
      obtain ⟨r, _, _, hr⟩ := mid_row u M v (fun y hy => hM y (List.mem_append_left _ hy))
      have A1 := IH.an (u ++ v) (by simp at hl ⊢; omega) (nodup_front hd1)
      have A2 := IH.an ((u ++ v) ++ [z]) (by simp at hl ⊢; omega) hd1
      have A3 := IH.an (u ++ M :: v) (by simp at hl ⊢; omega) (nodup_front hd)
      rw [row_rule u M v z (fun y hy => hM y (List.mem_append_left _ hy)) (hM z (by simp)) (sh_snoc _ _) hr]
      rw [sh_snoc] at A2
      rw [hr] at A3
      split
      · rename_i e
        rw [e]
        rw [e] at A2
        exact anti_next A1 A2
      · rename_i e
        exact anti_two A1 A2 A3 e

theorem ge_all (N : Nat) (IH : Upto N) (y : Int) (u : List Int) (M : Int) (v : List Int) (b d : Nat) (hl : (y :: (u ++ M :: v)).length = N) (hd : (y :: (u ++ M :: v)).Nodup) (hM : ∀ x ∈ y :: (u ++ v), x < M) (hb : Sh (y :: (u ++ v)) = grow (Sh (u ++ v)) b) (hdd : Sh (u ++ M :: v) = grow (Sh (u ++ v)) d) :
    (b ≠ d → Sh (y :: (u ++ M :: v)) = grow (grow (Sh (u ++ v)) b) d) ∧ (b = d → ∃ s, RSh (Sh (u ++ v)) b s ∧ Sh (y :: (u ++ M :: v)) = grow (grow (Sh (u ++ v)) b) s) := by
  rcases List.eq_nil_or_concat v with rfl | ⟨v, z, rfl⟩
  · rw [List.append_nil] at *
    have hu : ∀ x ∈ u, x < M := fun x hx => hM x (by simp [hx])
    have e0 : d = 0 := grow_inj (hdd.symm.trans (sh_last u M hu))
    have e1 : Sh (y :: (u ++ [M])) = grow (grow (Sh u) b) 0 := by
      have := sh_last (y :: u) M (fun x hx => hM x (by simpa using hx))
      rw [List.cons_append] at this
      rw [this, hb]
    subst e0
    refine ⟨fun _ => e1, fun e => ?_⟩
    subst e
    exact ⟨0, rsh_self (fun i hi => absurd hi (Nat.not_lt_zero _)), e1⟩
  · rw [List.concat_eq_append] at *
    have e1 : u ++ M :: (v ++ [z]) = (u ++ M :: v) ++ [z] := by simp
    have e2 : u ++ (v ++ [z]) = (u ++ v) ++ [z] := by simp
    rw [e1] at hl hd hdd ⊢
    rw [e2] at hM hb hdd ⊢
    have hMuv : ∀ x ∈ u ++ v, x < M := fun x hx => hM x (List.mem_cons_of_mem _ (List.mem_append_left _ hx))
    have hMy : y < M := hM y (by simp)
    have hMz : z < M := hM z (by simp)
    have hMyuv : ∀ x ∈ y :: (u ++ v), x < M := fun x hx => by
      rcases List.mem_cons.1 hx with rfl | hx
      · exact hMy
      · exact hMuv x hx
    -- lists without twins
    have hd1 : ((y :: u) ++ M :: (v ++ [z])).Nodup := by rw [List.cons_append, e1]; exact hd
    have hd2 : (y :: ((u ++ v) ++ [z])).Nodup := by have := nodup_mid hd1; rw [List.cons_append, e2] at this; exact this
    have hd3 : ((u ++ v) ++ [z]).Nodup := (List.nodup_cons.1 hd2).2
    have hd4 : (y :: (u ++ v)).Nodup := by
      have : ((y :: (u ++ v)) ++ [z]).Nodup := by rw [List.cons_append]; exact hd2
      exact nodup_front this
    have hd5 : (u ++ M :: v).Nodup := nodup_front (List.nodup_cons.1 hd).2
    have hd6 : (y :: (u ++ M :: v)).Nodup := by
      have : ((y :: (u ++ M :: v)) ++ [z]).Nodup := by rw [List.cons_append]; exact hd
      exact nodup_front this
    have hL : (u ++ v).length + 3 = N := by simp at hl ⊢; omega
    have hln1 : (u ++ v).length < N := by omega
    have hln2 : ((u ++ v) ++ [z]).length < N := by rw [List.length_append]; simp only [List.length_singleton]; omega
    have hln3 : (y :: (u ++ v)).length < N := by rw [List.length_cons]; omega
    have hln4 : (y :: ((u ++ v) ++ [z])).length < N := by rw [List.length_cons, List.length_append]; simp only [List.length_singleton]; omega
    have hln5 : (u ++ M :: v).length < N := by simp at hL ⊢; omega
    have hln6 : (y :: (u ++ M :: v)).length < N := by simp at hL ⊢; omega
    -- the shapes
    obtain ⟨b0, hb0⟩ := IH.ee y (u ++ v) hln3 hd4
    obtain ⟨d0, _, _, hd0⟩ := mid_row u M v hMuv
    obtain ⟨a, ha⟩ : ∃ a, Sh ((u ++ v) ++ [z]) = grow (Sh (u ++ v)) a := ⟨_, sh_snoc _ _⟩
    obtain ⟨a', ha'⟩ : ∃ a', Sh ((y :: (u ++ v)) ++ [z]) = grow (Sh (y :: (u ++ v))) a' := ⟨_, sh_snoc _ _⟩
    have A0 := IH.an (u ++ v) hln1 (nodup_front hd3)
    have Az := IH.an _ hln2 hd3
    have Ay := IH.an _ hln3 hd4
    have Ayz := IH.an _ hln4 hd2
    have AM := IH.an _ hln5 hd5
    have hzM := row_rule u M v z hMuv hMz ha hd0
    obtain ⟨g1, g2⟩ := IH.ge y u M v b0 d0 hln6 hd6 hMyuv hb0 hd0
    have HH := IH.hh y (u ++ v) z a hln4 hd2
    have hyM : ∀ m, Sh (y :: (u ++ M :: v)) = grow (Sh (y :: (u ++ v))) m → Sh (y :: ((u ++ M :: v) ++ [z])) = if a' = m then grow (grow (Sh (y :: (u ++ v))) a') (a' + 1) else grow (grow (Sh (y :: (u ++ v))) a') m := by
      intro m hm
      exact row_rule (y :: u) M v z hMyuv hMz ha' hm
    rw [List.cons_append] at ha'
    rw [hdd, ha] at hzM
    rw [hb, ha] at Ayz
    rw [hb0] at ha' hyM Ay
    rw [hd0] at AM
    rw [hb, ha] at ha'
    rw [ha] at Az
    rw [ha] at hb ⊢
    generalize hlam : Sh (u ++ v) = f at *
    have hcase := grow_two ha'
    by_cases hab : a = b0
    · subst hab
      have hba : b = a' := by rcases hcase with h | h; exact h.2; omega
      subst hba
      have HH := HH hb0 ha
      have hc : b = a ∨ (f (a + 1) = f a ∧ b = a + 1) := by
        rw [hb] at HH
        rcases HH with h | h
        · exact .inl (grow_inj h)
        · exact .inr ⟨h.1, grow_inj h.2⟩
      by_cases hda : d0 = a
      · subst hda
        rw [if_pos rfl] at hzM
        have hd1' : d = d0 + 1 := grow_inj hzM
        obtain ⟨s, hs, hsM⟩ := g2 rfl
        have hfin := hyM s hsM
        rcases hc with rfl | ⟨hc1, rfl⟩
        · -- right of it
          have hsb : s = b := by
            have hle := hs.le
            rcases Nat.lt_or_ge s b with h1 | h1
            · exfalso
              have h2 := hs.1
              rw [grow_ne f (by omega)] at h2
              obtain ⟨c, hcb⟩ : ∃ c, b = c + 1 := ⟨b - 1, by omega⟩
              have h3 := Ayz c
              rw [← hcb, grow_at, grow_at, grow_ne _ (by omega), grow_ne _ (by omega)] at h3
              have h4 := A0.le (show s ≤ c by omega)
              omega
            · omega
          subst hsb
          rw [if_pos rfl] at hfin
          subst hd1'
          refine ⟨fun _ => hfin, fun e => by omega⟩
        · -- below it
          have hsl := hs.le
          rw [if_neg (by omega)] at hfin
          subst hd1'
          refine ⟨fun e => absurd rfl e, fun _ => ⟨s, ⟨?_, fun i hi => ?_⟩, hfin⟩⟩
          · rw [grow_ne _ (by omega), grow_ne f (show d0 + 1 ≠ d0 by omega), hs.1, hc1]
          · have := hs.2 i hi
            rw [grow_ne f (show d0 + 1 ≠ d0 by omega), grow_ne _ (show i ≠ d0 + 1 by omega), hc1]
            exact this
      · rw [if_neg (fun e => hda e.symm)] at hzM
        have hd1' : d = d0 := grow_inj hzM
        subst hd1'
        have hfin := hyM d (g1 (fun e => hda e.symm))
        have hbd : b ≠ d := by
          rcases hc with rfl | ⟨hc1, rfl⟩
          · exact fun e => hda e.symm
          · intro e
            rw [← e] at AM
            have := anti_gap AM
            omega
        rw [if_neg hbd] at hfin
        exact ⟨fun _ => hfin, fun e => absurd e hbd⟩
    · have hba : b = b0 ∧ a' = a := by
        rcases hcase with h | h
        · exact absurd h.1 hab
        · exact ⟨h.2, h.1.symm⟩
      obtain ⟨rfl, rfl⟩ := hba
      by_cases hda : a' = d0
      · subst hda
        rw [if_pos rfl] at hzM
        have hd1' : d = a' + 1 := grow_inj hzM
        have hfin := hyM a' (g1 (fun e => hab e.symm))
        rw [if_pos rfl, grow_comm f b a'] at hfin
        subst hd1'
        refine ⟨fun _ => hfin, fun e => ?_⟩
        subst e
        refine ⟨a' + 1, rsh_self (fun i hi => ?_), hfin⟩
        have h1 := anti_gap Ay
        have h2 := Az.le (show i ≤ a' by omega)
        rw [grow_at] at h2
        rw [grow_ne f (show a' + 1 ≠ a' by omega)]
        omega
      · rw [if_neg hda] at hzM
        have hd1' : d = d0 := grow_inj hzM
        subst hd1'
        by_cases hbd : b = d
        · subst hbd
          obtain ⟨s, hs, hsM⟩ := g2 rfl
          have hfin := hyM s hsM
          refine ⟨fun e => absurd rfl e, fun _ => ?_⟩
          by_cases has : a' = s
          · subst has
            rw [if_pos rfl, grow_comm f b a'] at hfin
            obtain ⟨k1, k2⟩ := hs.next A0 Ay hab
            refine ⟨a' + 1, ⟨?_, fun i hi => ?_⟩, hfin⟩
            · rw [grow_comm f a' b, grow_ne _ (by omega), k1, grow_ne f (fun e => hab e.symm)]
            · rw [grow_ne f (fun e => hab e.symm), grow_comm f a' b]
              by_cases hi2 : i = a'
              · subst hi2
                rw [grow_at, grow_ne f hab, k2]
                omega
              · rw [grow_ne _ hi2]
                exact hs.2 i (by omega)
          · rw [if_neg has, grow_comm f b a'] at hfin
            refine ⟨s, ⟨?_, fun i hi => ?_⟩, hfin⟩
            · rw [grow_comm f a' b, grow_ne _ (fun e => has e.symm), hs.1, grow_ne f (fun e => hab e.symm)]
            · have := hs.2 i hi
              rw [grow_ne f (fun e => hab e.symm), grow_comm f a' b]
              refine Nat.lt_of_lt_of_le this ?_
              exact Nat.le_add_right _ _
        · have hfin := hyM d (g1 hbd)
          rw [if_neg hda, grow_comm f b a'] at hfin
          exact ⟨fun _ => hfin, fun e => absurd e hbd⟩

theorem ee_all (N : Nat) (IH : Upto N) (y : Int) (u : List Int) (hl : (y :: u).length = N) (hd : (y :: u).Nodup) : ∃ b, Sh (y :: u) = grow (Sh u) b := by
  by_cases h0 : u = []
  · subst h0
    exact ⟨_, sh_snoc [] y⟩
  · obtain ⟨u1, M, v, rfl, hM⟩ := max_of u h0 (List.nodup_cons.1 hd).2
    have hyM : y ≠ M := fun e => (List.nodup_cons.1 hd).1 (by simp [e])
    rcases Int.lt_or_le y M with h1 | h1
    · have hd1 : ((y :: u1) ++ M :: v).Nodup := hd
      have hd2 : (y :: (u1 ++ v)).Nodup := nodup_mid hd1
      obtain ⟨b, hb⟩ := IH.ee y (u1 ++ v) (by simp at hl ⊢; omega) hd2
      obtain ⟨d, _, _, hdd⟩ := mid_row u1 M v hM
      obtain ⟨g1, g2⟩ := ge_all N IH y u1 M v b d hl hd (fun x hx => by
        rcases List.mem_cons.1 hx with rfl | hx
        · exact h1
        · exact hM x hx) hb hdd
      by_cases e : b = d
      · obtain ⟨s, _, hs⟩ := g2 e
        refine ⟨s, ?_⟩
        rw [hs, hdd, e]
      · refine ⟨b, ?_⟩
        rw [g1 e, hdd]
        exact grow_comm _ _ _
    · obtain ⟨d, _, _, hdd⟩ := mid_row [] y (u1 ++ M :: v) (fun x hx => by
        rw [List.nil_append] at hx
        rcases List.mem_append.1 hx with hx | hx
        · have := hM x (List.mem_append_left _ hx)
          omega
        · rcases List.mem_cons.1 hx with rfl | hx
          · omega
          · have := hM x (List.mem_append_right _ hx)
            omega)
      exact ⟨d, hdd⟩

/-- A greatest number at the front lies at the end of the first column. -/
theorem front_max (M : Int) (u : List Int) : (∀ x ∈ u, x < M) → u.Nodup → (∀ w : List Int, w.length < u.length → w.Nodup → Anti (Sh w)) → ∀ d, Sh (M :: u) = grow (Sh u) d → Sh u d = 0 := by
  induction u using snoc_ind with
  | h0 => intro _ _ _ d _; exact sh_nil d
  | h1 u z ih =>
    intro hM hd hA d hdd
    have hMu : ∀ x ∈ [] ++ u, x < M := fun x hx => hM x (by simp at hx; simp [hx])
    obtain ⟨d0, _, _, hd0⟩ := mid_row [] M u hMu
    rw [List.nil_append, List.nil_append] at hd0
    have hA1 : ∀ w : List Int, w.length < u.length → w.Nodup → Anti (Sh w) := fun w hw hn => hA w (by rw [List.length_append]; simp only [List.length_singleton]; omega) hn
    have h0 := ih (fun x hx => hM x (by simp [hx])) (nodup_front hd) hA1 d0 hd0
    have Au := hA u (by simp) (nodup_front hd)
    have hr := row_rule [] M u z hMu (hM z (by simp)) (sh_snoc _ _) hd0
    simp only [List.nil_append] at hr
    rw [List.cons_append, hdd, sh_snoc] at hr
    rw [sh_snoc]
    split at hr
    · rename_i e
      have := grow_inj hr
      have h2 := Au d0
      rw [this, grow_ne _ (by omega), e]
      omega
    · rename_i e
      have := grow_inj hr
      rw [this, grow_ne _ (fun h => e h.symm)]
      exact h0

theorem hh_all (N : Nat) (IH : Upto N) (y : Int) (u : List Int) (z : Int) (a : Nat) (hl : (y :: (u ++ [z])).length = N) (hd : (y :: (u ++ [z])).Nodup) (hy : Sh (y :: u) = grow (Sh u) a) (hz : Sh (u ++ [z]) = grow (Sh u) a) :
    Sh (y :: (u ++ [z])) = grow (grow (Sh u) a) a ∨ (Sh u (a + 1) = Sh u a ∧ Sh (y :: (u ++ [z])) = grow (grow (Sh u) a) (a + 1)) := by
  have hyz : y ≠ z := fun e => (List.nodup_cons.1 hd).1 (by simp [e])
  have hdu : (u ++ [z]).Nodup := (List.nodup_cons.1 hd).2
  have hlu : u.length + 2 = N := by simp at hl; omega
  have hdyu : (y :: u).Nodup := by
    have : ((y :: u) ++ [z]).Nodup := by rw [List.cons_append]; exact hd
    exact nodup_front this
  obtain ⟨p, M, q, hpq, hM⟩ := max_of (y :: (u ++ [z])) (by simp) hd
  have hall : ∀ x ∈ y :: (u ++ [z]), x ≤ M := by
    intro x hx
    rw [hpq] at hx
    rcases List.mem_append.1 hx with hx | hx
    · have := hM x (List.mem_append_left _ hx)
      omega
    · rcases List.mem_cons.1 hx with rfl | hx
      · exact Int.le_refl _
      · have := hM x (List.mem_append_right _ hx)
        omega
  have hmem : M ∈ y :: (u ++ [z]) := by rw [hpq]; simp
  by_cases hMz : M = z
  · -- z is the greatest
    subst hMz
    have h1 : ∀ x ∈ y :: u, x < M := by
      intro x hx
      have h2 := hall x (by rcases List.mem_cons.1 hx with rfl | hx; simp; simp [hx])
      have h3 : x ≠ M := by
        rintro rfl
        have : ((y :: u) ++ [x]).Nodup := by rw [List.cons_append]; exact hd
        rw [List.nodup_append] at this
        exact this.2.2 x hx x (by simp) rfl
      omega
    have e0 : a = 0 := grow_inj (hz.symm.trans (sh_last u M (fun x hx => h1 x (by simp [hx]))))
    subst e0
    left
    have := sh_last (y :: u) M h1
    rw [List.cons_append] at this
    rw [this, hy]
  · by_cases hMy : M = y
    · -- y is the greatest
      subst hMy
      have h1 : ∀ x ∈ u ++ [z], x < M := by
        intro x hx
        have h2 := hall x (List.mem_cons_of_mem _ hx)
        have h3 : x ≠ M := fun e => (List.nodup_cons.1 hd).1 (e ▸ hx)
        omega
      have h0 := front_max M u (fun x hx => h1 x (by simp [hx])) (nodup_front hdu) (fun w hw hn => IH.an w (by omega) hn) a hy
      have Au := IH.an u (by omega) (nodup_front hdu)
      right
      have h4 := Au a
      refine ⟨by omega, ?_⟩
      have hr := row_rule [] M u z (fun x hx => h1 x (by simp at hx; simp [hx])) (h1 z (by simp)) (a := a) (d := a) hz hy
      simpa using hr
    · -- the greatest lies in u
      have hMu : M ∈ u := by
        rcases List.mem_cons.1 hmem with h | h
        · exact absurd h hMy
        · rcases List.mem_append.1 h with h | h
          · exact h
          · simp at h
            exact absurd h hMz
      obtain ⟨u1, u2, rfl⟩ := List.append_of_mem hMu
      clear hpq hM hmem p q
      have hlt : ∀ x ∈ y :: ((u1 ++ u2) ++ [z]), x < M := by
        intro x hx
        have hx2 : x ∈ y :: ((u1 ++ M :: u2) ++ [z]) := by
          simp only [List.mem_cons, List.mem_append] at hx ⊢
          rcases hx with h | (h | h) | h
          · exact .inl h
          · exact .inr (.inl (.inl h))
          · exact .inr (.inl (.inr (.inr h)))
          · exact .inr (.inr h)
        have h2 := hall x hx2
        have hdd : ((y :: u1) ++ M :: (u2 ++ [z])).Nodup := by
          have : (y :: u1) ++ M :: (u2 ++ [z]) = y :: ((u1 ++ M :: u2) ++ [z]) := by simp
          rw [this]
          exact hd
        have hdd2 := (List.perm_middle (a := M) (l₁ := y :: u1) (l₂ := u2 ++ [z])).nodup_iff.1 hdd
        have h3 : x ≠ M := by
          rintro rfl
          refine (List.nodup_cons.1 hdd2).1 ?_
          simp only [List.mem_cons, List.mem_append, List.cons_append] at hx ⊢
          rcases hx with h | (h | h) | h
          · exact .inl h
          · exact .inr (.inl h)
          · exact .inr (.inr (.inl h))
          · exact .inr (.inr (.inr h))
        omega
      have hMuv : ∀ x ∈ u1 ++ u2, x < M := fun x hx => hlt x (List.mem_cons_of_mem _ (List.mem_append_left _ hx))
      have hMy' : y < M := hlt y (by simp)
      have hMz' : z < M := hlt z (by simp)
      have hMyuv : ∀ x ∈ y :: (u1 ++ u2), x < M := fun x hx => by
        rcases List.mem_cons.1 hx with rfl | hx
        · exact hMy'
        · exact hMuv x hx
      have hd1 : ((y :: u1) ++ M :: (u2 ++ [z])).Nodup := by
        have : (y :: u1) ++ M :: (u2 ++ [z]) = y :: ((u1 ++ M :: u2) ++ [z]) := by simp
        rw [this]
        exact hd
      have hd2 : (y :: ((u1 ++ u2) ++ [z])).Nodup := by
        have := nodup_mid hd1
        rw [List.cons_append, ← List.append_assoc] at this
        exact this
      have hd3 : ((u1 ++ u2) ++ [z]).Nodup := (List.nodup_cons.1 hd2).2
      have hd4 : (y :: (u1 ++ u2)).Nodup := by
        have : ((y :: (u1 ++ u2)) ++ [z]).Nodup := by rw [List.cons_append]; exact hd2
        exact nodup_front this
      have hL : (u1 ++ u2).length + 3 = N := by simp at hlu ⊢; omega
      obtain ⟨B, hB⟩ := IH.ee y (u1 ++ u2) (by rw [List.length_cons]; omega) hd4
      obtain ⟨D, _, _, hD⟩ := mid_row u1 M u2 hMuv
      obtain ⟨A, hA⟩ : ∃ A, Sh ((u1 ++ u2) ++ [z]) = grow (Sh (u1 ++ u2)) A := ⟨_, sh_snoc _ _⟩
      obtain ⟨A', hA'⟩ : ∃ A', Sh ((y :: (u1 ++ u2)) ++ [z]) = grow (Sh (y :: (u1 ++ u2))) A' := ⟨_, sh_snoc _ _⟩
      have F0 := IH.an (u1 ++ u2) (by omega) (nodup_front hd3)
      have FB := IH.an _ (by rw [List.length_cons]; omega) hd4
      have FD := IH.an (u1 ++ M :: u2) (by simp at hL ⊢; omega) (nodup_front hdu)
      have hzM := row_rule u1 M u2 z hMuv hMz' hA hD
      obtain ⟨g1, g2⟩ := IH.ge y u1 M u2 B D (by simp at hL ⊢; omega) hdyu hMyuv hB hD
      have hyM : ∀ m, Sh (y :: (u1 ++ M :: u2)) = grow (Sh (y :: (u1 ++ u2))) m → Sh (y :: ((u1 ++ M :: u2) ++ [z])) = if A' = m then grow (grow (Sh (y :: (u1 ++ u2))) A') (A' + 1) else grow (grow (Sh (y :: (u1 ++ u2))) A') m := by
        intro m hm
        exact row_rule (y :: u1) M u2 z hMyuv hMz' hA' hm
      have HH := IH.hh y (u1 ++ u2) z
      obtain ⟨b2, hb2⟩ := IH.ee y ((u1 ++ u2) ++ [z]) (by rw [List.length_cons, List.length_append]; simp only [List.length_singleton]; omega) hd2
      have HH := fun a => HH a (by rw [List.length_cons, List.length_append]; simp only [List.length_singleton]; omega) hd2
      rw [hz, hD] at hzM
      rw [hD] at hy hz FD ⊢
      rw [hB] at FB hA' hyM
      rw [List.cons_append] at hA'
      rw [hy] at g1 g2 hyM
      rw [hA] at hb2
      generalize hlam : Sh (u1 ++ u2) = f at *
      by_cases hAB : A = B
      · subst hAB
        have hc : A' = A ∨ (f (A + 1) = f A ∧ A' = A + 1) := by
          rcases HH A hB hA with h | h
          · exact .inl (grow_inj (hA'.symm.trans h))
          · exact .inr ⟨h.1, grow_inj (hA'.symm.trans h.2)⟩
        by_cases hDA : A = D
        · exfalso
          subst hDA
          rw [if_pos rfl] at hzM
          have h1 := grow_inj hzM
          obtain ⟨s, hs, hsM⟩ := g2 rfl
          have h2 := grow_inj hsM
          have := hs.le
          omega
        · rw [if_neg hDA, grow_comm f A D] at hzM
          have haA : a = A := grow_inj hzM
          subst haA
          have hfin := hyM D (by rw [g1 hDA])
          have hAD : A' ≠ D := by
            rcases hc with rfl | ⟨hc1, rfl⟩
            · exact hDA
            · intro e
              rw [← e] at FD
              have := anti_gap FD
              omega
          rw [if_neg hAD] at hfin
          have e5 : grow (grow (grow f a) A') D = grow (grow (grow f D) a) A' := by
            rw [grow_comm (grow f a) A' D, grow_comm f a D]
          rw [hfin, e5]
          rcases hc with rfl | ⟨hc1, rfl⟩
          · exact .inl rfl
          · refine .inr ⟨?_, rfl⟩
            rw [grow_ne f hAD, grow_ne f hDA]
            exact hc1
      · have hA2 : A' = A := by
          rw [hb2] at hA'
          rcases grow_two hA' with h | h
          · exact absurd h.1 hAB
          · exact h.1.symm
        subst hA2
        by_cases hDA : A' = D
        · subst hDA
          rw [if_pos rfl] at hzM
          have h1 : a = A' + 1 := grow_inj hzM
          have hBa : B = a := by
            have := g1 (fun e => hAB e.symm)
            rw [grow_comm f B A'] at this
            exact (grow_inj this).symm
          have hfin := hyM A' (by rw [g1 (fun e => hAB e.symm)])
          rw [if_pos rfl] at hfin
          left
          rw [hfin, hBa, ← h1, grow_comm f a A']
        · rw [if_neg hDA, grow_comm f A' D] at hzM
          have haA : a = A' := grow_inj hzM
          subst haA
          by_cases hBD : B = D
          · subst hBD
            obtain ⟨s, hs, hsM⟩ := g2 rfl
            have hsa : a = s := grow_inj hsM
            subst hsa
            have hfin := hyM a rfl
            rw [if_pos rfl] at hfin
            obtain ⟨k1, k2⟩ := hs.next F0 FB hDA
            right
            refine ⟨?_, hfin⟩
            rw [k1, hs.1]
          · exfalso
            have := g1 hBD
            rw [grow_comm f B D] at this
            exact hAB (grow_inj this)

theorem upto_all : ∀ N, Upto N
  | 0 => ⟨fun _ h => absurd h (Nat.not_lt_zero _), fun _ _ _ _ _ _ h => absurd h (Nat.not_lt_zero _), fun _ _ h => absurd h (Nat.not_lt_zero _), fun _ _ _ _ h => absurd h (Nat.not_lt_zero _)⟩
  | N + 1 => by
    have IH := upto_all N
    refine ⟨fun w hw hd => ?_, fun y u M v b d hl hd hM hb hdd => ?_, fun y u hl hd => ?_, fun y u z a hl hd hy hz => ?_⟩
    · rcases Nat.lt_or_ge w.length N with h | h
      · exact IH.an w h hd
      · exact anti_all N IH w (by omega) hd
    · rcases Nat.lt_or_ge (y :: (u ++ M :: v)).length N with h | h
      · exact IH.ge y u M v b d h hd hM hb hdd
      · exact ge_all N IH y u M v b d (by omega) hd hM hb hdd
    · rcases Nat.lt_or_ge (y :: u).length N with h | h
      · exact IH.ee y u h hd
      · exact ee_all N IH y u (by omega) hd
    · rcases Nat.lt_or_ge (y :: (u ++ [z])).length N with h | h
      · exact IH.hh y u z a h hd hy hz
      · exact hh_all N IH y u z a (by omega) hd hy hz

theorem anti_sh {w : List Int} (h : w.Nodup) : Anti (Sh w) := (upto_all (w.length + 1)).an w (Nat.lt_succ_self _) h

end Go.Proofs.Ytcnljljgdkjndaa

/-
  From behind the rows are columns: the transpose, entry by entry. Plain facts; no program, no memory.
-/
namespace Go.Proofs.Ytcnljljgdkjndaa

/-- The one's rows are the other's columns. -/
def Tr (f g : Nat → Nat) : Prop := ∀ i k, k < f i ↔ i < g k
theorem tr_grow {f g : Nat → Nat} {r c : Nat} (h : Tr f g) (hc : c = f r) (hr : r = g c) : Tr (grow f r) (grow g c) := by
  intro i k
  have h1 := h i k
  have h2 := h r k
  have h3 := h i c
  simp only [grow]
  have p1 := ind i r
  have p2 := ind k c
  by_cases e1 : i = r
  · by_cases e2 : k = c
    · subst e1
      subst e2
      simp
      omega
    · subst e1
      simp only [if_pos, if_neg e2]
      omega
  · by_cases e2 : k = c
    · subst e2
      simp only [if_pos, if_neg e1]
      omega
    · simp only [if_neg e1, if_neg e2]
      omega
theorem tr_inv {f g : Nat → Nat} {a b : Nat} (h : Tr f g) (h2 : Tr (grow f a) (grow g b)) : b = f a ∧ a = g b := by
  have h3 := (h2 a (f a)).1 (by rw [grow_at]; omega)
  have h4 : ¬ a < g (f a) := fun e => by have := (h a (f a)).2 e; omega
  by_cases e : f a = b
  · subst e
    rw [grow_at] at h3
    exact ⟨rfl, by omega⟩
  · rw [grow_ne g e] at h3
    exact absurd h3 h4

theorem tr_all : ∀ (N : Nat) (w : List Int), w.length = N → w.Nodup → Tr (Sh w) (Sh w.reverse)
  | N, w, hl, hd => by
    by_cases h0 : w = []
    · subst h0
      intro i k
      rw [List.reverse_nil, sh_nil, sh_nil]
      omega
    · obtain ⟨u, M, v, rfl, hM⟩ := max_of w h0 hd
      have hdr : (u ++ M :: v).reverse.Nodup := (List.reverse_perm _).nodup_iff.2 hd
      rcases List.eq_nil_or_concat v with rfl | ⟨v, z, rfl⟩
      · have hu : ∀ x ∈ u, x < M := fun x hx => hM x (by simp [hx])
        have hdu := nodup_front hd
        have IH := tr_all u.length u rfl hdu
        rw [sh_last u M hu]
        have er : (u ++ [M]).reverse = [] ++ M :: u.reverse := by simp
        rw [er]
        obtain ⟨d, _, _, hdd⟩ := mid_row [] M u.reverse (fun x hx => hu x (by simpa using hx))
        rw [hdd]
        simp only [List.nil_append] at hdd ⊢
        have hz := front_max M u.reverse (fun x hx => hu x (by simpa using hx)) ((List.reverse_perm _).nodup_iff.2 hdu) (fun w _ hn => anti_sh hn) d hdd
        rw [er, List.nil_append] at hdr
        have hA := anti_sh hdr
        rw [hdd] at hA
        have hd0 : d = Sh u 0 := by
          have h1 : ¬ d < Sh u 0 := fun e => by have := (IH 0 d).1 e; omega
          rcases Nat.eq_zero_or_pos d with h2 | h2
          · omega
          · obtain ⟨c, rfl⟩ : ∃ c, d = c + 1 := ⟨d - 1, by omega⟩
            have h3 := anti_gap hA
            have h4 := (IH 0 c).2 (by omega)
            omega
        exact tr_grow IH hd0 hz.symm
      · rw [List.concat_eq_append] at *
        have e1 : u ++ M :: (v ++ [z]) = (u ++ M :: v) ++ [z] := by simp
        have e2 : u ++ (v ++ [z]) = (u ++ v) ++ [z] := by simp
        rw [e2] at hM
        have hdm := nodup_mid hd
        rw [e2] at hdm
        rw [e1] at hd hl ⊢
        have hMuv : ∀ x ∈ u ++ v, x < M := fun x hx => hM x (List.mem_append_left _ hx)
        have hMz : z < M := hM z (by simp)
        have hln : (u ++ v).length + 2 = N := by simp at hl ⊢; omega
        have T0 := tr_all (u ++ v).length (u ++ v) rfl (nodup_front hdm)
        have Tz := tr_all ((u ++ v) ++ [z]).length ((u ++ v) ++ [z]) rfl hdm
        have TM := tr_all (u ++ M :: v).length (u ++ M :: v) rfl (nodup_front hd)
        have r0 : (u ++ v).reverse = v.reverse ++ u.reverse := by simp
        have rz : ((u ++ v) ++ [z]).reverse = z :: (v.reverse ++ u.reverse) := by simp
        have rM : (u ++ M :: v).reverse = v.reverse ++ M :: u.reverse := by simp
        have rzM : ((u ++ M :: v) ++ [z]).reverse = z :: (v.reverse ++ M :: u.reverse) := by simp
        rw [r0] at T0
        rw [rz] at Tz
        rw [rM] at TM
        rw [rzM]
        have hdz : (z :: (v.reverse ++ u.reverse)).Nodup := by rw [← rz]; exact (List.reverse_perm _).nodup_iff.2 hdm
        have hdzM : (z :: (v.reverse ++ M :: u.reverse)).Nodup := by rw [← rzM]; exact (List.reverse_perm _).nodup_iff.2 hd
        obtain ⟨a, ha⟩ : ∃ a, Sh ((u ++ v) ++ [z]) = grow (Sh (u ++ v)) a := ⟨_, sh_snoc _ _⟩
        obtain ⟨d, _, _, hdd⟩ := mid_row u M v hMuv
        obtain ⟨b, hb⟩ := (upto_all _).ee z (v.reverse ++ u.reverse) (Nat.lt_succ_self _) hdz
        have hMr : ∀ x ∈ v.reverse ++ u.reverse, x < M := fun x hx => hMuv x (by simp only [List.mem_append, List.mem_reverse] at hx ⊢; exact hx.symm)
        obtain ⟨d', _, _, hd'⟩ := mid_row v.reverse M u.reverse hMr
        obtain ⟨g1, g2⟩ := (upto_all _).ge z v.reverse M u.reverse b d' (Nat.lt_succ_self _) hdzM (fun x hx => by
          rcases List.mem_cons.1 hx with rfl | hx
          · exact hMz
          · exact hMr x hx) hb hd'
        have hr := row_rule u M v z hMuv hMz ha hdd
        rw [ha, hb] at Tz
        rw [hdd, hd'] at TM
        obtain ⟨q1, q2⟩ := tr_inv T0 Tz
        obtain ⟨q3, q4⟩ := tr_inv T0 TM
        rw [hr]
        by_cases e : a = d
        · subst e
          have hbd : b = d' := q1.trans q3.symm
          subst hbd
          rw [if_pos rfl]
          obtain ⟨s, hs, hsM⟩ := g2 rfl
          rw [hsM]
          refine tr_grow Tz ?_ ?_
          · have k1 : ¬ s < grow (Sh (u ++ v)) a (a + 1) := fun e => by
              have := (Tz (a + 1) s).1 e
              rw [hs.1] at this
              omega
            rcases Nat.eq_zero_or_pos s with h2 | h2
            · omega
            · obtain ⟨c, rfl⟩ : ∃ c, s = c + 1 := ⟨s - 1, by omega⟩
              have h3 := hs.2 c (by omega)
              have h4 := (Tz (a + 1) c).2 (by omega)
              omega
          · rw [hs.1]
            omega
        · rw [if_neg e]
          have hbd : b ≠ d' := fun e2 => e (by rw [q2, q4, e2])
          rw [g1 hbd]
          refine tr_grow Tz ?_ ?_
          · rw [grow_ne _ (fun h => e h.symm)]
            exact q3
          · rw [grow_ne _ (fun h => hbd h.symm)]
            exact q4
  termination_by N w _ _ => w.length
  decreasing_by
    all_goals simp_wf
    all_goals (try simp at *)
    all_goals (try omega)

/-- What stands in row i at place k. -/
def tget (T : List (List Int)) (i k : Nat) : Option Int := (T.getD i [])[k]?
theorem tget_tadd : ∀ (T : List (List Int)) (r : Nat) (M : Int) (i k : Nat), r ≤ T.length → tget (tadd T r M) i k = if i = r ∧ k = tlen T r then some M else tget T i k
  | [], r, M, i, k, h => by
    have : r = 0 := by simpa using h
    subst this
    cases i with
    | zero =>
      cases k with
      | zero => simp [tadd, tget, tlen]
      | succ k => simp [tadd, tget, tlen]
    | succ i => simp [tadd, tget]
  | row :: T, 0, M, i, k, _ => by
    cases i with
    | zero =>
      rw [tadd]
      simp only [tget, tlen, List.getD_cons_zero, true_and]
      by_cases e : k = row.length
      · subst e
        simp
      · rw [if_neg e, List.getElem?_append]
        split
        · rfl
        · rw [List.getElem?_eq_none (by simp; omega), List.getElem?_eq_none (by omega)]
    | succ i => simp [tadd, tget]
  | row :: T, r + 1, M, i, k, h => by
    cases i with
    | zero => simp [tadd, tget]
    | succ i =>
      have := tget_tadd T r M i k (by simpa using h)
      simp only [tget, tlen] at this
      simp only [tadd, tget, tlen, List.getD_cons_succ, this, Nat.add_right_cancel_iff]
      rfl

/-- SCHENSTED. -/
theorem turned_behind : ∀ (N : Nat) (w : List Int), w.length = N → w.Nodup → ∀ i k, tget (PT w) i k = tget (PT w.reverse) k i
  | 0, w, hl, _ => by
    have : w = [] := List.eq_nil_of_length_eq_zero hl
    subst this
    intro i k
    simp [PT_nil, tget]
  | N + 1, w, hl, hd => by
    obtain ⟨u, M, v, rfl, hM⟩ := max_of w (by rintro rfl; simp at hl) hd
    have hdm := nodup_mid hd
    have IH := turned_behind N (u ++ v) (by simp at hl ⊢; omega) hdm
    have T0 := tr_all _ (u ++ v) rfl hdm
    have T1 := tr_all _ _ rfl hd
    have r0 : (u ++ v).reverse = v.reverse ++ u.reverse := by simp
    have rM : (u ++ M :: v).reverse = v.reverse ++ M :: u.reverse := by simp
    have hMr : ∀ x ∈ v.reverse ++ u.reverse, x < M := fun x hx => hM x (by simp only [List.mem_append, List.mem_reverse] at hx ⊢; exact hx.symm)
    obtain ⟨d, hd1, hd2, hd3⟩ := mid_row u M v hM
    obtain ⟨d', hd1', hd2', hd3'⟩ := mid_row v.reverse M u.reverse hMr
    rw [r0] at T0 IH
    rw [rM] at T1 ⊢
    rw [hd3, hd3'] at T1
    obtain ⟨q1, q2⟩ := tr_inv T0 T1
    intro i k
    rw [hd2, hd2', tget_tadd _ _ _ _ _ hd1, tget_tadd _ _ _ _ _ hd1', IH i k]
    have q1' : d' = tlen (PT (u ++ v)) d := q1
    have q2' : d = tlen (PT (v.reverse ++ u.reverse)) d' := q2
    rw [← q1', ← q2']
    by_cases e : i = d ∧ k = d'
    · rw [if_pos e, if_pos ⟨e.2, e.1⟩]
    · rw [if_neg e, if_neg (fun h => e ⟨h.2, h.1⟩)]

/-! ### No row is empty -/
theorem tadd_full : ∀ (T : List (List Int)) (r : Nat) (M : Int), (∀ x ∈ T, x ≠ []) → ∀ x ∈ tadd T r M, x ≠ []
  | [], r, M, _ => by cases r <;> simp [tadd]
  | row :: T, 0, M, h => by
    intro x hx
    rw [tadd] at hx
    rcases List.mem_cons.1 hx with rfl | hx
    · simp
    · exact h x (by simp [hx])
  | row :: T, r + 1, M, h => by
    intro x hx
    rw [tadd] at hx
    rcases List.mem_cons.1 hx with rfl | hx
    · exact h x (by simp)
    · exact tadd_full T r M (fun y hy => h y (by simp [hy])) x hx
theorem tin_full : ∀ (T : List (List Int)) (x : Int), (∀ r ∈ T, r ≠ []) → ∀ r ∈ (tin T x).1, r ≠ []
  | [], x, _ => by simp [tin]
  | row :: T, x, h => by
    intro r hr
    rcases rin_cases x row with h1 | ⟨l1, y, l2, rfl, h1, h2⟩
    · rw [tin_all T h1] at hr
      rcases List.mem_cons.1 hr with rfl | hr
      · simp
      · exact h r (by simp [hr])
    · rw [tin_at l2 T h1 h2] at hr
      rcases List.mem_cons.1 hr with rfl | hr
      · simp
      · exact tin_full T y (fun y hy => h y (by simp [hy])) r hr
theorem PT_full (w : List Int) : ∀ r ∈ PT w, r ≠ [] := by
  induction w using snoc_ind with
  | h0 => simp [PT_nil]
  | h1 w x ih => rw [PT_snoc]; exact tin_full _ _ ih
theorem QT_full (w : List Int) : ∀ r ∈ QT w, r ≠ [] := by
  induction w using snoc_ind with
  | h0 => simp [QT_nil]
  | h1 w x ih => rw [QT_snoc]; exact tadd_full _ _ _ ih
theorem full_iff {T : List (List Int)} (h : ∀ r ∈ T, r ≠ []) (i : Nat) : i < T.length ↔ 0 < tlen T i := by
  constructor
  · intro hi
    have h1 : T.getD i [] ∈ T := by
      rw [List.getD_eq_getElem?_getD, List.getElem?_eq_getElem hi]
      exact List.getElem_mem hi
    exact List.length_pos_iff.2 (h _ h1)
  · intro hi
    rcases Nat.lt_or_ge i T.length with h1 | h1
    · exact h1
    · rw [tlen, List.getD_eq_getElem?_getD, List.getElem?_eq_none h1] at hi
      simp at hi
/-- As many rows from behind as the first row is long. -/
theorem rows_behind {w : List Int} (hd : w.Nodup) : (PT w.reverse).length = tlen (PT w) 0 := by
  have T0 := tr_all _ w rfl hd
  have h1 : ∀ k, k < tlen (PT w) 0 ↔ k < (PT w.reverse).length := fun k => (T0 0 k).trans (full_iff (PT_full _) k).symm
  rcases Nat.lt_trichotomy (PT w.reverse).length (tlen (PT w) 0) with h | h | h
  · have := (h1 _).1 h
    omega
  · exact h
  · have := (h1 _).2 h
    omega

end Go.Proofs.Ytcnljljgdkjndaa

/-
  Rows of places that rise, each of which may stand behind the one ahead of it; the longest ones, reckoned from behind (P42). Plain facts; no program, no memory.
-/
namespace Go.Proofs.Ytcnljljgdkjndaa

/-- A row of places below n: each stands behind the one ahead of it, and may do so. -/
def Line (f : Nat → Nat → Bool) (n : Nat) : List Nat → Prop
  | [] => True
  | i :: c => i < n ∧ (∀ j, c.head? = some j → i < j ∧ f i j = true) ∧ Line f n c
theorem Line.head {f : Nat → Nat → Bool} {n i : Nat} {c : List Nat} (h : Line f n (i :: c)) : i < n := h.1
theorem Line.tail {f : Nat → Nat → Bool} {n i : Nat} {c : List Nat} (h : Line f n (i :: c)) : Line f n c := h.2.2
theorem Line.two {f : Nat → Nat → Bool} {n i j : Nat} {c : List Nat} (h : Line f n (i :: j :: c)) : i < j ∧ f i j = true := h.2.1 j rfl
theorem line_nil (f : Nat → Nat → Bool) (n : Nat) : Line f n [] := trivial
theorem line_one {f : Nat → Nat → Bool} {n i : Nat} (h : i < n) : Line f n [i] := ⟨h, fun j hj => by simp at hj, trivial⟩
theorem line_cons {f : Nat → Nat → Bool} {n i j : Nat} {c : List Nat} (hij : i < j) (hf : f i j = true) (h : Line f n (j :: c)) : Line f n (i :: j :: c) :=
  ⟨Nat.lt_trans hij h.1, fun k hk => by simp at hk; subst hk; exact ⟨hij, hf⟩, h⟩
theorem Line.lt {f : Nat → Nat → Bool} {n : Nat} : ∀ {c : List Nat}, Line f n c → ∀ i ∈ c, i < n
  | i :: c, h, k, hk => by
    rcases List.mem_cons.1 hk with rfl | hk
    · exact h.head
    · exact h.tail.lt k hk
/-- The same row under another law. -/
theorem Line.law {f g : Nat → Nat → Bool} {n m : Nat} : ∀ {c : List Nat}, Line f n c → (∀ i ∈ c, i < m) → (∀ i ∈ c, ∀ j ∈ c, i < j → f i j = true → g i j = true) → Line g m c
  | [], _, _, _ => trivial
  | i :: c, h, hm, hg => by
    refine ⟨hm i (by simp), fun j hj => ?_, h.tail.law (fun k hk => hm k (by simp [hk])) (fun k hk l hl => hg k (by simp [hk]) l (by simp [hl]))⟩
    obtain ⟨h1, h2⟩ := h.2.1 j hj
    exact ⟨h1, hg i (by simp) j (by simp [List.mem_of_mem_head? hj]) h1 h2⟩
/-- Each pair of a row's places, where the law carries over. -/
theorem Line.pairs {f : Nat → Nat → Bool} {n : Nat} {R : Nat → Nat → Prop} (hR : ∀ i j, i < j → j < n → f i j = true → R i j) (ht : ∀ i j k, R i j → R j k → R i k) : ∀ {c : List Nat}, Line f n c → c.Pairwise R
  | [], _ => .nil
  | [i], _ => by simp
  | i :: j :: c, h => by
    have ih := Line.pairs hR ht (c := j :: c) h.tail
    have hij : R i j := hR i j h.two.1 h.tail.head h.two.2
    refine List.Pairwise.cons ?_ ih
    intro k hk
    rcases List.mem_cons.1 hk with rfl | hk
    · exact hij
    · exact ht i j k hij ((List.pairwise_cons.1 ih).1 k hk)
theorem Line.rising {f : Nat → Nat → Bool} {n : Nat} {c : List Nat} (h : Line f n c) : c.Pairwise (· < ·) := h.pairs (fun _ _ h1 _ _ => h1) (fun _ _ _ h1 h2 => Nat.lt_trans h1 h2)
/-- Pairs that may stand so make a row. -/
theorem line_of_pairs {f : Nat → Nat → Bool} {n : Nat} : ∀ {c : List Nat}, (∀ i ∈ c, i < n) → c.Pairwise (fun i j => i < j ∧ f i j = true) → Line f n c
  | [], _, _ => trivial
  | i :: c, h, hp => by
    obtain ⟨h1, h2⟩ := List.pairwise_cons.1 hp
    exact ⟨h i (by simp), fun j hj => h1 j (List.mem_of_mem_head? hj), line_of_pairs (fun k hk => h k (by simp [hk])) h2⟩
theorem line_append {f : Nat → Nat → Bool} {n i : Nat} : ∀ {c : List Nat}, Line f n c → i < n → (∀ k, c.getLast? = some k → k < i ∧ f k i = true) → Line f n (c ++ [i])
  | [], _, hi, _ => line_one hi
  | [k], h, hi, hl => line_cons (hl k rfl).1 (hl k rfl).2 (line_one hi)
  | k :: j :: c, h, hi, hl => by
    have ih := line_append (c := j :: c) h.tail hi (fun l hl' => hl l (by simpa using hl'))
    exact line_cons h.two.1 h.two.2 ih

/-- m is the length of the longest row that begins with i. -/
def Far (f : Nat → Nat → Bool) (n i m : Nat) : Prop := (∃ c, Line f n (i :: c) ∧ c.length + 1 = m) ∧ ∀ c, Line f n (i :: c) → c.length + 1 ≤ m
/-- m is the length of the longest row. -/
def Longest (f : Nat → Nat → Bool) (n m : Nat) : Prop := (∃ c, Line f n c ∧ c.length = m) ∧ ∀ c, Line f n c → c.length ≤ m
theorem Far.eq {f : Nat → Nat → Bool} {n i a b : Nat} (h : Far f n i a) (k : Far f n i b) : a = b := by
  obtain ⟨c, h1, h2⟩ := h.1
  obtain ⟨d, k1, k2⟩ := k.1
  have := h.2 d k1
  have := k.2 c h1
  omega
theorem Longest.eq {f : Nat → Nat → Bool} {n a b : Nat} (h : Longest f n a) (k : Longest f n b) : a = b := by
  obtain ⟨c, h1, h2⟩ := h.1
  obtain ⟨d, k1, k2⟩ := k.1
  have := h.2 d k1
  have := k.2 c h1
  omega
theorem Far.lt {f : Nat → Nat → Bool} {n i m : Nat} (h : Far f n i m) : i < n ∧ 0 < m := by
  obtain ⟨c, h1, h2⟩ := h.1
  exact ⟨h1.head, by omega⟩
theorem nodup_short {n : Nat} : ∀ {c : List Nat}, c.Pairwise (· < ·) → (∀ i ∈ c, i < n) → ∀ b, (∀ i ∈ c, b ≤ i) → b ≤ n → c.length + b ≤ n
  | [], _, _, b, _, hb => by simpa using hb
  | i :: c, hp, h, b, hb, _ => by
    obtain ⟨h1, h2⟩ := List.pairwise_cons.1 hp
    have hi := h i (by simp)
    have := nodup_short h2 (fun k hk => h k (by simp [hk])) (i + 1) (fun k hk => h1 k hk) hi
    have := hb i (by simp)
    simp only [List.length_cons]
    omega
theorem Line.short {f : Nat → Nat → Bool} {n : Nat} {c : List Nat} (h : Line f n c) : c.length ≤ n := by
  have := nodup_short h.rising h.lt 0 (fun _ _ => Nat.zero_le _) (Nat.zero_le _)
  omega
theorem Line.short_from {f : Nat → Nat → Bool} {n i : Nat} {c : List Nat} (h : Line f n (i :: c)) : c.length + 1 + i ≤ n := by
  refine nodup_short h.rising h.lt i (fun k hk => ?_) (Nat.le_of_lt h.head)
  rcases List.mem_cons.1 hk with rfl | hk
  · exact Nat.le_refl _
  · exact Nat.le_of_lt ((List.pairwise_cons.1 h.rising).1 k hk)
theorem Far.le {f : Nat → Nat → Bool} {n i m : Nat} (h : Far f n i m) : m + i ≤ n := by
  obtain ⟨c, h1, h2⟩ := h.1
  have := h1.short_from
  omega
theorem Longest.le {f : Nat → Nat → Bool} {n m : Nat} (h : Longest f n m) : m ≤ n := by
  obtain ⟨c, h1, h2⟩ := h.1
  have := h1.short
  omega

/-- m is the greatest length among the rows that begin with one of the places i+1 .. j-1 that may stand behind i; t is where (n: nowhere). -/
def Best (f : Nat → Nat → Bool) (n i j t m : Nat) : Prop := (t = n ∧ m = 0 ∨ i < t ∧ t < j ∧ f i t = true ∧ Far f n t m) ∧ ∀ k, i < k → k < j → f i k = true → ∃ a, a ≤ m ∧ Far f n k a
theorem best_nil (f : Nat → Nat → Bool) (n i : Nat) : Best f n i (i + 1) n 0 := ⟨.inl ⟨rfl, rfl⟩, fun k h1 h2 => absurd h2 (by omega)⟩
theorem best_no {f : Nat → Nat → Bool} {n i j t m : Nat} (h : Best f n i j t m) (hf : f i j = false) : Best f n i (j + 1) t m := by
  refine ⟨h.1.imp id (fun ⟨h1, h2, h3⟩ => ⟨h1, by omega, h3⟩), fun k h1 h2 h3 => ?_⟩
  by_cases e : k = j
  · subst e; rw [hf] at h3; cases h3
  · exact h.2 k h1 (by omega) h3
theorem best_old {f : Nat → Nat → Bool} {n i j t m a : Nat} (h : Best f n i j t m) (ha : Far f n j a) (hle : a ≤ m) : Best f n i (j + 1) t m := by
  refine ⟨h.1.imp id (fun ⟨h1, h2, h3⟩ => ⟨h1, by omega, h3⟩), fun k h1 h2 h3 => ?_⟩
  by_cases e : k = j
  · subst e; exact ⟨a, hle, ha⟩
  · exact h.2 k h1 (by omega) h3
theorem best_new {f : Nat → Nat → Bool} {n i j t m a : Nat} (h : Best f n i j t m) (hij : i < j) (hf : f i j = true) (ha : Far f n j a) (hle : m ≤ a) : Best f n i (j + 1) j a := by
  refine ⟨.inr ⟨hij, by omega, hf, ha⟩, fun k h1 h2 h3 => ?_⟩
  by_cases e : k = j
  · subst e; exact ⟨a, Nat.le_refl _, ha⟩
  · obtain ⟨b, h4, h5⟩ := h.2 k h1 (by omega) h3
    exact ⟨b, by omega, h5⟩
theorem far_of_best {f : Nat → Nat → Bool} {n i t m : Nat} (hi : i < n) (h : Best f n i n t m) : Far f n i (m + 1) := by
  constructor
  · rcases h.1 with ⟨_, rfl⟩ | ⟨h1, h2, h3, ⟨c, h4, h5⟩, _⟩
    · exact ⟨[], line_one hi, rfl⟩
    · exact ⟨t :: c, line_cons h1 h3 h4, by simp [h5]⟩
  · intro c hc
    cases c with
    | nil => simp
    | cons j c =>
      obtain ⟨h1, h2⟩ := hc.two
      obtain ⟨a, h3, h4⟩ := h.2 j h1 hc.tail.head h2
      have := h4.2 c hc.tail
      simp only [List.length_cons]
      omega
/-- m is the greatest length among the rows that begin with i or later; t is where (n: nowhere). -/
def Most (f : Nat → Nat → Bool) (n i t m : Nat) : Prop := (t = n ∧ m = 0 ∨ i ≤ t ∧ t < n ∧ Far f n t m) ∧ ∀ k, i ≤ k → k < n → ∃ a, a ≤ m ∧ Far f n k a
theorem most_nil (f : Nat → Nat → Bool) (n : Nat) : Most f n n n 0 := ⟨.inl ⟨rfl, rfl⟩, fun k h1 h2 => absurd h2 (by omega)⟩
theorem most_old {f : Nat → Nat → Bool} {n i t m a : Nat} (h : Most f n (i + 1) t m) (ha : Far f n i a) (hle : a ≤ m) : Most f n i t m := by
  refine ⟨h.1.imp id (fun ⟨h1, h2⟩ => ⟨by omega, h2⟩), fun k h1 h2 => ?_⟩
  by_cases e : k = i
  · subst e; exact ⟨a, hle, ha⟩
  · exact h.2 k (by omega) h2
theorem most_new {f : Nat → Nat → Bool} {n i t m a : Nat} (h : Most f n (i + 1) t m) (ha : Far f n i a) (hle : m ≤ a) : Most f n i i a := by
  refine ⟨.inr ⟨Nat.le_refl _, ha.lt.1, ha⟩, fun k h1 h2 => ?_⟩
  by_cases e : k = i
  · subst e; exact ⟨a, Nat.le_refl _, ha⟩
  · obtain ⟨b, h3, h4⟩ := h.2 k (by omega) h2
    exact ⟨b, by omega, h4⟩
theorem longest_of_most {f : Nat → Nat → Bool} {n t m : Nat} (h : Most f n 0 t m) : Longest f n m := by
  constructor
  · rcases h.1 with ⟨_, rfl⟩ | ⟨_, _, ⟨c, h1, h2⟩, _⟩
    · exact ⟨[], trivial, rfl⟩
    · exact ⟨t :: c, h1, by simp [h2]⟩
  · intro c hc
    cases c with
    | nil => simp
    | cons i c =>
      obtain ⟨a, h1, h2⟩ := h.2 i (Nat.zero_le _) hc.head
      have := h2.2 c hc
      simp only [List.length_cons]
      omega

/-- What stands in the list of what follows. -/
def Follows (f : Nat → Nat → Bool) (n i t m : Nat) : Prop := Far f n i (m + 1) ∧ (t = n ∧ m = 0 ∨ i < t ∧ t < n ∧ f i t = true ∧ Far f n t m)
theorem follows_of_best {f : Nat → Nat → Bool} {n i t m : Nat} (hi : i < n) (h : Best f n i n t m) : Follows f n i t m := ⟨far_of_best hi h, h.1⟩

/-- A row that is being taken along: c is taken, i comes next (n: nothing), a more to come. -/
def Taken (f : Nat → Nat → Bool) (n : Nat) (c : List Nat) (i a : Nat) : Prop := (i = n ∧ a = 0 ∧ Line f n c) ∨ (i < n ∧ Far f n i a ∧ ∀ t, Line f n (i :: t) → Line f n (c ++ i :: t))
theorem taken_step {f : Nat → Nat → Bool} {n i t m a : Nat} {c : List Nat} (h : Taken f n c i a) (hi : i < n) (hf : Follows f n i t m) : Taken f n (c ++ [i]) t m ∧ a = m + 1 := by
  rcases h with ⟨h1, _⟩ | ⟨_, h2, h3⟩
  · omega
  · refine ⟨?_, h2.eq hf.1⟩
    rcases hf.2 with ⟨rfl, rfl⟩ | ⟨k1, k2, k3, k4⟩
    · exact .inl ⟨rfl, rfl, h3 [] (line_one hi)⟩
    · refine .inr ⟨k2, k4, fun u hu => ?_⟩
      rw [List.append_assoc]
      exact h3 (t :: u) (line_cons k1 k3 hu)
theorem taken_end {f : Nat → Nat → Bool} {n a : Nat} {c : List Nat} (h : Taken f n c n a) : Line f n c ∧ a = 0 := by
  rcases h with ⟨_, h1, h2⟩ | ⟨h1, _⟩
  · exact ⟨h2, h1⟩
  · omega
theorem taken_start {f : Nat → Nat → Bool} {n t m : Nat} (h : Most f n 0 t m) : Taken f n [] t m := by
  rcases h.1 with ⟨h1, h2⟩ | ⟨_, h1, h2⟩
  · exact .inl ⟨h1, h2, trivial⟩
  · exact .inr ⟨h1, h2, fun u hu => hu⟩

/-- What rises in a list. -/
def upF (l : List Int) (i j : Nat) : Bool := decide (l.getD i 0 < l.getD j 0)
/-- What doesn't rise in a list. -/
def downF (l : List Int) (i j : Nat) : Bool := decide (l.getD j 0 ≤ l.getD i 0)
/-- A longest row. -/
def IsLongest (f : Nat → Nat → Bool) (n : Nat) (c : List Nat) : Prop := Line f n c ∧ Longest f n c.length
theorem isLongest_of {f : Nat → Nat → Bool} {n : Nat} {c : List Nat} (h : Line f n c) (hl : Longest f n c.length) : IsLongest f n c := ⟨h, hl⟩

end Go.Proofs.Ytcnljljgdkjndaa

/-
  lines.Check (P41), and the small functions that say what may stand behind what.
-/
namespace Go.Proofs.Ytcnljljgdkjndaa
open Go.RowKit

theorem lcheck_ok (A : Option Addr) (n c : Nat) (w : World) (hn : n ≤ 30) :
    Calls Try.prog 58 #[.slice A n c] w fun e w' => e = .returned (.int .i64 0) ∧ w = w' := by
  have hd : decide (30 < (n : Int)) = false := by simp; omega
  go_enter Try.func58, Try.ntmps58
  go_wp2
  go_ret
  exact ⟨rfl, rfl⟩
theorem lcheck_large (A : Option Addr) (n c : Nat) (w : World) (hn : 30 < n) (hm : n ≤ 9223372036854775807) :
    Calls Try.prog 58 #[.slice A n c] w fun e w' => e = .returned (.int .i64 2) ∧ w = w' := by
  go_enter Try.func58, Try.ntmps58
  go_wp2
  go_ret
  exact ⟨rfl, rfl⟩

set_option maxHeartbeats 800000 in
theorem mayDown (A : Option Addr) (n c b i j : Nat) (xs : List Int) (q : Bool) (w : World) (hb : w.cell? ⟨b, 0, none⟩ = some (.slice A n c)) (h : Ints w A n xs) (hi : i < n) (hj : j < n) (hq : downF xs i j = q) :
    Calls Try.prog 59 #[.int .i64 (i : Int), .int .i64 (j : Int), .pointer (some ⟨b, 0, none⟩)] w fun e w' => e = .returned (.bool q) ∧ ∃ m, w' = w.drewN m := by
  obtain ⟨g, o, rfl, hlt, hc⟩ := h.row (by omega)
  have g1 := hc i hi
  have g2 := hc j hj
  have hiI : (i : Int) < (n : Int) := by omega
  have hjI : (j : Int) < (n : Int) := by omega
  have HQ := hid hq
  unfold downF at HQ
  clear hq hc h
  generalize xs.getD i 0 = x at *
  generalize xs.getD j 0 = y at *
  go_enter Try.func59, Try.ntmps59
  go_wp2_with fail
  go_quiet (fail)
  go_wp2
  go_ret
  exact ⟨by rw [← HQ.out]; exact rfl, _, rfl⟩

end Go.Proofs.Ytcnljljgdkjndaa

/-
  lines.longest (P42), handed what rises and what doesn't.
-/
namespace Go.Proofs.Ytcnljljgdkjndaa
open Go.RowKit

/-- The world while longest reckons. -/
structure LW (w wr : World) (gn gl n : Nat) (ns ls : List Int) : Prop where
  an : Arr wr gn ns
  al : Arr wr gl ls
  ne : gn ≠ gl
  bn : w.heap.size ≤ gn
  bl : w.heap.size ≤ gl
  bel : Below w.heap.size w wr
  ln : ns.length = n
  ll : ls.length = n + 1
theorem LW.setN {w wr : World} {gn gl n : Nat} {ns ls : List Int} (h : LW w wr gn gl n ns ls) (i : Nat) (x : Int) : LW w (wr.setCell ⟨gn, i, none⟩ (.int .i64 x)) gn gl n (ns.set i x) ls :=
  ⟨h.an.set i x, h.al.setOther (fun e => h.ne e.symm) _, h.ne, h.bn, h.bl, below_one h.bel h.bn h.bel.size (one_set (one_refl _ _) _ _), by rw [List.length_set]; exact h.ln, h.ll⟩
theorem LW.setL {w wr : World} {gn gl n : Nat} {ns ls : List Int} (h : LW w wr gn gl n ns ls) (i : Nat) (x : Int) : LW w (wr.setCell ⟨gl, i, none⟩ (.int .i64 x)) gn gl n ns (ls.set i x) :=
  ⟨h.an.setOther (fun e => h.ne e) _, h.al.set i x, h.ne, h.bn, h.bl, below_one h.bel h.bl h.bel.size (one_set (one_refl _ _) _ _), h.ln, by rw [List.length_set]; exact h.ll⟩
theorem LW.drewN {w wr : World} {gn gl n : Nat} {ns ls : List Int} (h : LW w wr gn gl n ns ls) (k : Nat) : LW w (wr.drewN k) gn gl n ns ls :=
  ⟨h.an, h.al, h.ne, h.bn, h.bl, below_drewN h.bel k, h.ln, h.ll⟩
theorem LW.keep {w wr ws : World} {gn gl n : Nat} {ns ls : List Int} (h : LW w wr gn gl n ns ls) (hb : Below wr.heap.size wr ws) : LW w ws gn gl n ns ls :=
  ⟨h.an.keep hb, h.al.keep hb, h.ne, h.bn, h.bl, h.bel.trans (hb.mono h.bel.size), h.ln, h.ll⟩
/-- What the two lists hold from i on. -/
def LTab (f : Nat → Nat → Bool) (n i : Nat) (ns ls : List Int) : Prop := ls.getD n 0 = 0 ∧ ∀ j, i ≤ j → j < n → ∃ t m : Nat, ns.getD j 0 = (t : Int) ∧ ls.getD j 0 = ((m + 1 : Nat) : Int) ∧ ls.getD t 0 = (m : Int) ∧ t ≤ n ∧ Follows f n j t m
theorem getD_set_same {l : List Int} {i : Nat} (h : i < l.length) (x : Int) : (l.set i x).getD i 0 = x := by rw [getD_set, if_pos ⟨rfl, h⟩]
theorem getD_set_other {l : List Int} {i j : Nat} (h : j ≠ i) (x : Int) : (l.set i x).getD j 0 = l.getD j 0 := by rw [getD_set, if_neg (fun e => h e.1)]
theorem LTab.setN {f : Nat → Nat → Bool} {n i : Nat} {ns ls : List Int} (h : LTab f n (i + 1) ns ls) (x : Int) : LTab f n (i + 1) (ns.set i x) ls := by
  refine ⟨h.1, fun j h1 h2 => ?_⟩
  obtain ⟨t, m, k1, k2, k3, k4⟩ := h.2 j h1 h2
  exact ⟨t, m, by rw [getD_set_other (by omega)]; exact k1, k2, k3, k4⟩
theorem LTab.setL {f : Nat → Nat → Bool} {n i t m : Nat} {ns ls : List Int} (h : LTab f n (i + 1) ns ls) (hi : i < n) (hl : ls.length = n + 1) (ht : ns.getD i 0 = (t : Int)) (hm : ls.getD t 0 = (m : Int)) (htn : t ≤ n) (hti : i < t) (hF : Follows f n i t m) : LTab f n i ns (ls.set i ((m + 1 : Nat) : Int)) := by
  refine ⟨by rw [getD_set_other (by omega)]; exact h.1, fun j h1 h2 => ?_⟩
  by_cases e : j = i
  · subst e
    exact ⟨t, m, ht, getD_set_same (by omega) _, by rw [getD_set_other (by omega)]; exact hm, htn, hF⟩
  · obtain ⟨u, a, k1, k2, k3, k4, k5⟩ := h.2 j (by omega) h2
    have hu : j < u := by
      rcases k5.2 with ⟨h6, _⟩ | ⟨h6, _⟩ <;> omega
    exact ⟨u, a, k1, by rw [getD_set_other (by omega)]; exact k2, by rw [getD_set_other (by omega)]; exact k3, k4, k5⟩
theorem LW.drew {w wr : World} {gn gl n : Nat} {ns ls : List Int} (h : LW w wr gn gl n ns ls) : LW w wr.drew gn gl n ns ls := h.drewN 1
theorem LW.keepB {w wr ws : World} {gn gl n base : Nat} {ns ls : List Int} (h : LW w wr gn gl n ns ls) (h1 : gn < base) (h2 : gl < base) (h3 : w.heap.size ≤ base) (hb : Below base wr ws) : LW w ws gn gl n ns ls :=
  ⟨h.an.of_block (hb.block gn h1), h.al.of_block (hb.block gl h2), h.ne, h.bn, h.bl, h.bel.trans (hb.mono h3), h.ln, h.ll⟩
theorem made_two (w : World) (n m : Nat) (e : m = n + 1) : LW w ((w.alloc (.cells (madeCells #[.int .i64 0] n) 3)).alloc (.cells (madeCells #[.int .i64 0] m) 3)) w.heap.size (w.heap.size + 1) n (List.replicate n 0) (List.replicate (n + 1) 0) := by
  subst e
  have h2 := Arr.made (w.alloc (.cells (madeCells #[.int .i64 0] n) 3)) (n + 1)
  rw [show (w.alloc (.cells (madeCells #[.int .i64 0] n) 3)).heap.size = w.heap.size + 1 by simp] at h2
  exact ⟨(Arr.made w n).alloc _, h2, by omega, Nat.le_refl _, by omega, (((Below.refl _ _).alloc (Nat.le_refl _) _).alloc (by simp) _), by simp, by simp⟩
theorem made_two' (w : World) (n m : Nat) (e : m = n + 1) : LW w ((w.alloc (.cells (madeCells #[.int .i64 0] m) 3)).alloc (.cells (madeCells #[.int .i64 0] n) 3)) (w.heap.size + 1) w.heap.size n (List.replicate n 0) (List.replicate (n + 1) 0) := by
  subst e
  have h2 := Arr.made (w.alloc (.cells (madeCells #[.int .i64 0] (n + 1)) 3)) n
  rw [show (w.alloc (.cells (madeCells #[.int .i64 0] (n + 1)) 3)).heap.size = w.heap.size + 1 by simp] at h2
  exact ⟨h2, (Arr.made w (n + 1)).alloc _, by omega, by omega, Nat.le_refl _, (((Below.refl _ _).alloc (Nat.le_refl _) _).alloc (by simp) _), by simp, by simp⟩
/-- The outer loop. -/
structure LO (f : Nat → Nat → Bool) (w wr : World) (gn gl n k s m : Nat) (ns ls : List Int) : Prop where
  lw : LW w wr gn gl n ns ls
  tab : LTab f n k ns ls
  most : Most f n k s m
  at' : ls.getD s 0 = (m : Int)
  sn : s ≤ n
  mn : m ≤ n
/-- The inner loop. -/
structure LI (f : Nat → Nat → Bool) (w wr : World) (gn gl n i j t m s sm : Nat) (ns ls : List Int) : Prop where
  lw : LW w wr gn gl n ns ls
  tab : LTab f n (i + 1) ns ls
  best : Best f n i j t m
  at1 : ns.getD i 0 = (t : Int)
  at2 : ls.getD t 0 = (m : Int)
  it : i < t
  tn : t ≤ n
  most : Most f n (i + 1) s sm
  at' : ls.getD s 0 = (sm : Int)
  sn : s ≤ n
  is : i < s
  mn : sm ≤ n
theorem LO.start {f : Nat → Nat → Bool} {w wr : World} {gn gl n : Nat} (h : LW w wr gn gl n (List.replicate n 0) (List.replicate (n + 1) 0)) : LO f w wr gn gl n n n 0 (List.replicate n 0) (List.replicate (n + 1) 0) :=
  ⟨h, ⟨by simp [List.getD_eq_getElem?_getD], fun j h1 h2 => absurd h2 (by omega)⟩, most_nil f n, by simp [List.getD_eq_getElem?_getD], Nat.le_refl _, Nat.zero_le _⟩
theorem most_lt {f : Nat → Nat → Bool} {n i s m : Nat} (h : Most f n (i + 1) s m) (hi : i < n) : i < s := by
  rcases h.1 with ⟨h1, _⟩ | ⟨h1, _⟩ <;> omega
theorem LO.into {f : Nat → Nat → Bool} {w wr : World} {gn gl n i s m : Nat} {ns ls : List Int} (h : LO f w wr gn gl n (i + 1) s m ns ls) (hi : i < n) :
    LI f w (wr.setCell ⟨gn, i, none⟩ (.int .i64 (n : Int))) gn gl n i (i + 1) n 0 s m (ns.set i (n : Int)) ls :=
  ⟨h.lw.setN i _, h.tab.setN _, best_nil f n i, getD_set_same (by rw [h.lw.ln]; exact hi) _, h.tab.1, hi, Nat.le_refl _, h.most, h.at', h.sn, most_lt h.most hi, h.mn⟩
theorem LI.drewN {f : Nat → Nat → Bool} {w wr : World} {gn gl n i j t m s sm : Nat} {ns ls : List Int} (h : LI f w wr gn gl n i j t m s sm ns ls) (k : Nat) : LI f w (wr.drewN k) gn gl n i j t m s sm ns ls :=
  ⟨h.lw.drewN k, h.tab, h.best, h.at1, h.at2, h.it, h.tn, h.most, h.at', h.sn, h.is, h.mn⟩
theorem LI.at3 {f : Nat → Nat → Bool} {w wr : World} {gn gl n i j t m s sm : Nat} {ns ls : List Int} (h : LI f w wr gn gl n i j t m s sm ns ls) (hij : i < j) (hj : j < n) : ∃ a : Nat, ls.getD j 0 = ((a + 1 : Nat) : Int) ∧ Far f n j (a + 1) := by
  obtain ⟨t, a, _, h1, _, _, h2, _⟩ := h.tab.2 j hij hj
  exact ⟨a, h1, h2⟩
theorem LI.no {f : Nat → Nat → Bool} {w wr : World} {gn gl n i j t m s sm : Nat} {ns ls : List Int} (h : LI f w wr gn gl n i j t m s sm ns ls) (hf : f i j = false) : LI f w wr gn gl n i (j + 1) t m s sm ns ls :=
  ⟨h.lw, h.tab, best_no h.best hf, h.at1, h.at2, h.it, h.tn, h.most, h.at', h.sn, h.is, h.mn⟩
theorem LI.old {f : Nat → Nat → Bool} {w wr : World} {gn gl n i j t m s sm a : Nat} {ns ls : List Int} (h : LI f w wr gn gl n i j t m s sm ns ls) (ha : Far f n j a) (hle : a ≤ m) : LI f w wr gn gl n i (j + 1) t m s sm ns ls :=
  ⟨h.lw, h.tab, best_old h.best ha hle, h.at1, h.at2, h.it, h.tn, h.most, h.at', h.sn, h.is, h.mn⟩
theorem LI.new {f : Nat → Nat → Bool} {w wr : World} {gn gl n i j t m s sm a : Nat} {ns ls : List Int} (h : LI f w wr gn gl n i j t m s sm ns ls) (hij : i < j) (hjn : j < n) (hf : f i j = true) (ha : Far f n j a) (hl : ls.getD j 0 = (a : Int)) (hle : m ≤ a) :
    LI f w (wr.setCell ⟨gn, i, none⟩ (.int .i64 (j : Int))) gn gl n i (j + 1) j a s sm (ns.set i (j : Int)) ls :=
  ⟨h.lw.setN i _, h.tab.setN _, best_new h.best hij hf ha hle, getD_set_same (by rw [h.lw.ln]; omega) _, hl, hij, Nat.le_of_lt hjn, h.most, h.at', h.sn, h.is, h.mn⟩
theorem LI.far {f : Nat → Nat → Bool} {w wr : World} {gn gl n i t m s sm : Nat} {ns ls : List Int} (h : LI f w wr gn gl n i n t m s sm ns ls) (hi : i < n) : Far f n i (m + 1) := far_of_best hi h.best
theorem LI.done {f : Nat → Nat → Bool} {w wr : World} {gn gl n i t m s sm : Nat} {ns ls : List Int} (h : LI f w wr gn gl n i n t m s sm ns ls) (hi : i < n) (hle : m + 1 ≤ sm) :
    LO f w (wr.setCell ⟨gl, i, none⟩ (.int .i64 ((m + 1 : Nat) : Int))) gn gl n i s sm ns (ls.set i ((m + 1 : Nat) : Int)) :=
  ⟨h.lw.setL i _, h.tab.setL hi h.lw.ll h.at1 h.at2 h.tn h.it (follows_of_best hi h.best), most_old h.most (h.far hi) hle, by rw [getD_set_other (by have := h.is; omega)]; exact h.at', h.sn, h.mn⟩
theorem LI.done' {f : Nat → Nat → Bool} {w wr : World} {gn gl n i t m s sm : Nat} {ns ls : List Int} (h : LI f w wr gn gl n i n t m s sm ns ls) (hi : i < n) (hle : sm ≤ m + 1) :
    LO f w (wr.setCell ⟨gl, i, none⟩ (.int .i64 ((m + 1 : Nat) : Int))) gn gl n i i (m + 1) ns (ls.set i ((m + 1 : Nat) : Int)) :=
  ⟨h.lw.setL i _, h.tab.setL hi h.lw.ll h.at1 h.at2 h.tn h.it (follows_of_best hi h.best), most_new h.most (h.far hi) hle, getD_set_same (by rw [h.lw.ll]; omega) _, Nat.le_of_lt hi, by have := (h.far hi).le; omega⟩
theorem LO.drewN {f : Nat → Nat → Bool} {w wr : World} {gn gl n k s m : Nat} {ns ls : List Int} (h : LO f w wr gn gl n k s m ns ls) (q : Nat) : LO f w (wr.drewN q) gn gl n k s m ns ls :=
  ⟨h.lw.drewN q, h.tab, h.most, h.at', h.sn, h.mn⟩
theorem run_makeL (m : Nat) (hm : m ≤ 1000000) (W : World) :
    (Instr.makeSlice 44 (.int .i64 0) (.int .i64 (m : Int))).run Try.prog W = .ok (.slice (some ⟨W.heap.size, 0, none⟩) 0 m) (W.alloc (.cells (madeCells #[.int .i64 0] m) 3)) := by
  obtain ⟨i0, hi, hz0, hz1, hz2⟩ := info_parts infoInt
  have := run_make (P := Try.prog) W 44 3 i0 (.int .i64 0) Try.underlying44 hi hz0 .i64 .i64 0 (m : Int) (by omega) (by omega) (by rw [hz2]; omega) (by omega)
  rw [this, hz1, show ((m : Int)).toNat = m by omega]
  simp [Value.cells]
theorem madeL_own (W : World) (m : Nat) (hm : m ≤ 1000000) : OwnInts (W.alloc (.cells (madeCells #[.int .i64 0] m) 3)) W.heap.size (.slice (some ⟨W.heap.size, 0, none⟩) 0 m) [] :=
  World.ownsRow_made W _ m (Nat.le_refl _) (by unfold maxLen; omega) (by rw [size_madeCells, Nat.mul_one])
/-- A longest row of places, as numbers. -/
def Goes (f : Nat → Nat → Bool) (n : Nat) (ys : List Int) : Prop := ∃ c : List Nat, ys = c.map (fun i : Nat => (i : Int)) ∧ IsLongest f n c

set_option maxHeartbeats 3000000 in
theorem longest_down (A : Option Addr) (n c b : Nat) (xs : List Int) (w : World) (hb : w.cell? ⟨b, 0, none⟩ = some (.slice A n c)) (hbl : b < w.heap.size) (h : Ints w A n xs) (hn : n ≤ 30) :
    Calls Try.prog 60 #[.int .i64 (n : Int), .func (.func 59) #[] #[.pointer (some ⟨b, 0, none⟩)]] w fun e w' => ∃ v ys, e = .returned v ∧ OwnInts w' w.heap.size v ys ∧ Below w.heap.size w w' ∧ Goes (downF xs) n ys := by
  obtain ⟨N, hN⟩ : ∃ N, N = n + 1 := ⟨_, rfl⟩
  have hnN : (n : Int) + 1 = (N : Int) := by omega
  have hwN : IntKind.i64.wrap (N : Int) = (N : Int) := IntWalk.i64_in _ (by omega)
  have hmk : ∀ W : World, (Instr.makeSlice 44 (.int .i64 (n : Int)) (.int .i64 (n : Int))).run Try.prog W = .ok (.slice (some ⟨W.heap.size, 0, none⟩) n n) (W.alloc (.cells (madeCells #[.int .i64 0] n) 3)) :=
    fun W => run_make_row' (P := Try.prog) 44 3 (.int .i64 0) 8 Try.underlying44 infoInt rfl .i64 .i64 n (by omega) (by omega) W
  have hmk2 : ∀ W : World, (Instr.makeSlice 44 (.int .i64 (N : Int)) (.int .i64 (N : Int))).run Try.prog W = .ok (.slice (some ⟨W.heap.size, 0, none⟩) N N) (W.alloc (.cells (madeCells #[.int .i64 0] N) 3)) :=
    fun W => run_make_row' (P := Try.prog) 44 3 (.int .i64 0) 8 Try.underlying44 infoInt rfl .i64 .i64 N (by omega) (by omega) W
  have HB0 := hid hb
  have HI := hid h
  have HNN := hid hN
  obtain ⟨f, hf⟩ : ∃ f, f = downF xs := ⟨_, rfl⟩
  rw [← hf]
  have HF := hid hf
  clear hb h hf hN
  go_enter Try.func60, Try.ntmps60
  go_upto_region 1 with fail
  go_cut [5, 6] from 12 to 16 (fun s5 s6 wx => ∃ gn gl, s5 = .slice (some ⟨gn, 0, none⟩) n n ∧ s6 = .slice (some ⟨gl, 0, none⟩) N N ∧ LW w wx gn gl n (List.replicate n 0) (List.replicate (n + 1) 0))
  case first =>
    go_wp2_with fail
    go_region
    · go_wp2
      go_meet
      exact ⟨_, _, rfl, rfl, (made_two w n N HNN.out).drew⟩
    · go_wp2
      go_meet
      exact ⟨_, _, rfl, rfl, (made_two' w n N HNN.out).drew⟩
  case rest =>
    obtain ⟨gn, gl, rfl, rfl, hlw⟩ := hcut
    have HS := hid (LO.start (f := f) hlw)
    have HGE := hid (⟨hlw.bn, hlw.bl⟩ : w.heap.size ≤ gn ∧ w.heap.size ≤ gl)
    clear hlw hmk hmk2 hwN
    generalize List.replicate n (0 : Int) = ns0 at HS
    generalize List.replicate (n + 1) (0 : Int) = ls0 at HS
    go_wp2_with fail
    go_loopg [7, 8] n (fun g sv iv wr => ∃ (k s m : Nat) (z : Int) (ns ls : List Int), k ≤ n ∧ k ≤ g ∧ sv = .int .i64 (s : Int) ∧ iv = .int .i64 z ∧ z = (k : Int) - 1 ∧ LO f w wr gn gl n k s m ns ls)
    case atStart => exact ⟨n, n, 0, _, _, _, Nat.le_refl _, Nat.le_refl _, rfl, rfl, by go_num, HS.out⟩
    case round =>
      clear HS
      obtain ⟨k, s, m, z, ns, ls, hk, hg, rfl, rfl, hz, hlo⟩ := hrel
      have HO := hid hlo
      have hsn := hlo.sn
      have hmn := hlo.mn
      clear hlo
      by_cases hk0 : 0 < k
      · obtain ⟨i, rfl⟩ : ∃ i, k = i + 1 := ⟨k - 1, by omega⟩
        obtain rfl : z = (i : Int) := by omega
        have hin : i < n := by omega
        have hiI : (i : Int) < (n : Int) := by omega
        have hiN : (i : Int) < (N : Int) := by omega
        have g1 := HO.out.lw.an.cell (j := i) (by rw [HO.out.lw.ln]; exact hin)
        have f1 := HO.out.lw.an.frozen i
        have HI1 := hid (HO.out.into hin)
        clear hz HO
        generalize ns.getD i 0 = y1 at g1
        go_wp2_with fail
        obtain ⟨w8, hw8⟩ : ∃ w8, w8 = wr.setCell ⟨gn, i, none⟩ (.int .i64 (n : Int)) := ⟨_, rfl⟩
        rw [← hw8] at HI1 ⊢
        generalize ns.set i (n : Int) = ns8 at HI1
        clear hw8 g1 f1
        go_loopg [9] n (fun g jv wq => ∃ (j t m' : Nat) (ns' : List Int), j ≤ n ∧ i < j ∧ n - j ≤ g ∧ jv = .int .i64 (j : Int) ∧ LI f w wq gn gl n i j t m' s m ns' ls)
        case atStart => exact ⟨i + 1, n, 0, _, by omega, by omega, by omega, by go_num, HI1.out⟩
        case round =>
          clear HI1
          obtain ⟨j, t, m1, ns1, hjn, hij, hg2, rfl, hli⟩ := hrel
          have HL := hid hli
          have htn := hli.tn
          have g1 := hli.lw.an.cell (j := i) (by rw [hli.lw.ln]; exact hin)
          have g2 := hli.lw.al.cell (j := t) (by rw [hli.lw.ll]; omega)
          rw [hli.at1] at g1
          rw [hli.at2] at g2
          have f1 := hli.lw.an.frozen i
          have f2 := hli.lw.al.frozen i
          have g3 := hli.lw.al.cell (j := i) (by rw [hli.lw.ll]; omega)
          have htN : (t : Int) < (N : Int) := by omega
          clear hli
          by_cases hlt : j < n
          · obtain ⟨a, hla, hfa⟩ := HL.out.at3 hij hlt
            have g4 := HL.out.lw.al.cell (j := j) (by rw [HL.out.lw.ll]; omega)
            rw [hla] at g4
            have HLA := hid hla
            have HFA := hid hfa
            have hjN : (j : Int) < (N : Int) := by omega
            have HC : Hid (wr.cell? ⟨b, 0, none⟩ = some (.slice A n c)) := (HL.out.lw.bel.cell (p := ⟨b, 0, none⟩) hbl).trans HB0.out
            have HIX := hid (HI.out.keep HL.out.lw.bel)
            clear hla hfa g3
            rcases hq : downF xs i j with _ | _
            · have HQ := hid hq
              have HQ2 : Hid (f i j = false) := by rw [HF.out]; exact hq
              clear hq
              go_wp2_with fail
              go_quiet ((go_at_call 59; exact Calls.quiet_of (mayDown A n c b i j xs false _ HC.out (HIX.out.drewN _) hin hlt HQ.out)))
              go_wp2
              go_roundg (n - (j + 1))
              case measure => omega
              case rel => exact ⟨j + 1, t, m1, _, by omega, by omega, by omega, by go_num, (HL.out.drewN _).no HQ2.out⟩
            · have HQ := hid hq
              have HQ2 : Hid (f i j = true) := by rw [HF.out]; exact hq
              clear hq
              by_cases hm : a + 1 ≤ m1
              · have hd : decide ((m1 : Int) < ((a + 1 : Nat) : Int)) = false := decide_eq_false (by omega)
                go_wp2_with fail
                go_quiet ((go_at_call 59; exact Calls.quiet_of (mayDown A n c b i j xs true _ HC.out (HIX.out.drewN _) hin hlt HQ.out)))
                go_wp2
                go_roundg (n - (j + 1))
                case measure => omega
                case rel => exact ⟨j + 1, t, m1, _, by omega, by omega, by omega, by go_num, (HL.out.drewN _).old HFA.out hm⟩
              · have hd : decide ((m1 : Int) < ((a + 1 : Nat) : Int)) = true := decide_eq_true (by omega)
                go_wp2_with fail
                go_quiet ((go_at_call 59; exact Calls.quiet_of (mayDown A n c b i j xs true _ HC.out (HIX.out.drewN _) hin hlt HQ.out)))
                go_wp2
                go_roundg (n - (j + 1))
                case measure => omega
                case rel => exact ⟨j + 1, j, a + 1, _, by omega, by omega, by omega, by go_num, (HL.out.drewN _).new hij hlt HQ2.out HFA.out HLA.out (by omega)⟩
          · obtain rfl : j = n := by omega
            have HSN := HL.out.lw.al
            have h5 := (HL.out.lw.setL i ((m1 : Int) + 1)).al.cell (j := i) (by rw [(HL.out.lw.setL i ((m1 : Int) + 1)).ll]; omega)
            have h6 := (HL.out.lw.setL i ((m1 : Int) + 1)).al.cell (j := s) (by rw [(HL.out.lw.setL i ((m1 : Int) + 1)).ll]; omega)
            rw [getD_set_same (by rw [HL.out.lw.ll]; omega)] at h5
            rw [getD_set_other (by have := HL.out.is; omega), HL.out.at'] at h6
            have hm1n : m1 + 1 ≤ j := by have := (HL.out.far hin).le; omega
            have hsN : (s : Int) < (N : Int) := by omega
            clear HSN
            generalize ls.getD i 0 = y2 at g3
            by_cases hle : m1 + 1 ≤ m
            · have hd : decide ((m : Int) < (m1 : Int) + 1) = false := decide_eq_false (by omega)
              have HD := hid ((HL.out.done hin hle).drewN)
              go_wp2_with fail
              go_quiet (fail)
              go_wp2
              go_roundg i
              case measure => omega
              case rel => exact ⟨i, s, m, _, _, _, by omega, by omega, rfl, rfl, by go_num, HD.out _⟩
            · have hd : decide ((m : Int) < (m1 : Int) + 1) = true := decide_eq_true (by omega)
              have HD := hid ((HL.out.done' hin (by omega)).drewN)
              go_wp2_with fail
              go_quiet (fail)
              go_wp2
              go_roundg i
              case measure => omega
              case rel => exact ⟨i, i, m1 + 1, _, _, _, by omega, by omega, rfl, rfl, by go_num, HD.out _⟩
      · obtain rfl : k = 0 := by omega
        obtain rfl : z = -1 := by omega
        clear hz hg
        have HT := hid HO.out.tab
        have HM := hid HO.out.most
        have HLW := hid HO.out.lw
        have g1 := HO.out.lw.al.cell (j := s) (by rw [HO.out.lw.ll]; omega)
        rw [HO.out.at'] at g1
        have hsN : (s : Int) < (N : Int) := by omega
        have hmk3 := run_makeL m (by omega)
        have HO3 := hid (madeL_own wr m (by omega))
        have HL3 := hid (HLW.out.keep (below_alloc wr (.cells (madeCells #[.int .i64 0] m) 3)))
        have HTK := hid (taken_start HM.out)
        have HLL := hid (longest_of_most HM.out)
        have HBS : Hid (w.heap.size ≤ wr.heap.size ∧ gn < wr.heap.size ∧ gl < wr.heap.size) := ⟨HLW.out.bel.size, HLW.out.an.lt, HLW.out.al.lt⟩
        have HBA : Hid (wr.heap.size ≤ (wr.alloc (.cells (madeCells #[.int .i64 0] m) 3)).heap.size) := (below_alloc wr _).size
        clear HO HLW HM
        go_wp2_with fail
        generalize wr.heap.size = bs at *
        go_loopg [10, 11] m (fun g lv iv wq => ∃ (i a : Nat) (cs : List Nat), i ≤ n ∧ a ≤ g ∧ iv = .int .i64 (i : Int) ∧ OwnInts wq bs lv (cs.map (fun i : Nat => (i : Int))) ∧ LW w wq gn gl n ns ls ∧ Taken f n cs i a ∧ cs.length + a = m ∧ bs ≤ wq.heap.size)
        case atStart => exact ⟨s, m, [], hsn, Nat.le_refl _, rfl, HO3.out, HL3.out, HTK.out, by simp, HBA.out⟩
        case round =>
          clear HO3 HL3 HTK HBA hmk3 g1
          rename_i lv
          obtain ⟨i, a, cs, hi, hg, rfl, hown, hlw, htk, hlen, hbs⟩ := hrel
          have HO := hid hown
          have HL := hid hlw
          have HK := hid htk
          have HLN := hid hlen
          have HBQ := hid hbs
          clear hown hlw htk hlen hbs
          by_cases hlt : i < n
          · obtain ⟨t, m2, h1, _, _, h2, h3⟩ := HT.out.2 i (Nat.zero_le _) hlt
            obtain ⟨h4, h5⟩ := taken_step HK.out hlt h3
            have H1 := hid h1
            have H4 := hid h4
            subst h5
            clear h1 h3 h4
            go_wp2_with (at_builtin; refine wpList_app1 _ rfl (.tmp 91) (.tmp 93) rfl bs _ _ (i : Int) rfl rfl HO.out (by rw [List.length_map]; have := HLN.out; omega) HBQ.out ?_)
            intro v' w1 hown1 _ hbel1
            have HO1 : Hid (OwnInts w1 bs v' ((cs ++ [i]).map (fun i : Nat => (i : Int)))) := by rw [List.map_append]; exact hown1
            have HL1 := hid (HL.out.keepB HBS.out.2.1 HBS.out.2.2 HBS.out.1 hbel1)
            have HB1 : Hid (bs ≤ w1.heap.size) := Nat.le_trans HBQ.out hbel1.size
            have g1 := HL1.out.an.cell (j := i) (by rw [HL1.out.ln]; exact hlt)
            rw [H1.out] at g1
            have hiI : (i : Int) < (n : Int) := by omega
            clear hown1 hbel1 HO HL HK HBQ
            go_wp2
            go_roundg m2
            case measure => omega
            case rel => exact ⟨t, m2, cs ++ [i], h2, by omega, rfl, HO1.out, HL1.out, H4.out, by have := HLN.out; rw [List.length_append]; simp; omega, HB1.out⟩
          · obtain rfl : i = n := by omega
            obtain ⟨h1, rfl⟩ := taken_end HK.out
            have HLC : Hid (IsLongest f i cs) := ⟨h1, by have e : cs.length = m := HLN.out; rw [e]; exact HLL.out⟩
            clear h1
            go_wp2
            go_ret
            exact ⟨_, _, rfl, HO.out.mono HBS.out.1, HL.out.bel, cs, rfl, HLC.out⟩
end Go.Proofs.Ytcnljljgdkjndaa

/-
  lines.Up and Down (P42).
-/
namespace Go.Proofs.Ytcnljljgdkjndaa
open Go.RowKit

/-- The places of a longest row come back, and no error. -/
def RetGoes (f : Nat → Nat → Bool) (k : Nat) (w : World) (e : Ending) (w' : World) : Prop :=
  ∃ A n c ys, e = .returned (.tuple #[.slice A n c, .int .i64 0]) ∧ Below w.heap.size w w' ∧ Ints w' A n ys ∧ Cap n c ∧ Goes f k ys
theorem box_cell (w : World) (v : Value) (t : TypeId) : (w.alloc (.cells #[v] t)).cell? ⟨w.heap.size, 0, none⟩ = some v := by
  have h := heap_alloc_new w (.cells #[v] t)
  exact cell_of_row _ _ 0 _ _ _ h

set_option maxHeartbeats 800000 in
theorem down_ok (A : Option Addr) (n c : Nat) (xs : List Int) (w : World) (h : Ints w A n xs) (hn : n ≤ 30) :
    Calls Try.prog 34 #[.slice A n c] w (RetGoes (downF xs) n w) := by
  have HI := hid (h.keep (below_alloc w (.cells #[.slice A n c] 44)))
  have HC := hid (box_cell w (.slice A n c) 44)
  have HB := hid (below_alloc w (.cells #[.slice A n c] 44))
  have HZ : Hid (w.heap.size < (w.alloc (.cells #[.slice A n c] 44)).heap.size) := by show w.heap.size < _; simp
  clear h
  go_enter Try.func34, Try.ntmps34
  go_wp2_with fail
  refine (lcheck_ok A n c _ hn).mono ?_
  rintro e w1 ⟨rfl, rfl⟩
  go_wp2_with fail
  refine (longest_down A n c w.heap.size xs _ HC.out HZ.out HI.out hn).mono ?_
  rintro e w2 ⟨v, ys, rfl, hown, hb, hg⟩
  obtain ⟨B, d, hv, hI2, hC2⟩ := hown.ints
  subst hv
  have HG := hid hg
  have HI2 := hid hI2
  have HC2 := hid hC2
  have HB2 := hid (below_step HB.out (Nat.le_refl _) hb)
  have HL := hid hI2.len
  obtain ⟨m, hm⟩ : ∃ m, m = ys.length := ⟨_, rfl⟩
  rw [← hm] at HI2 HC2 ⊢
  clear hown hb hg hI2 hC2 HI HC HB HZ hm HL
  go_wp2
  go_ret2
  exact ⟨_, _, _, ys, rfl, HB2.out, HI2.out, HC2.out, HG.out⟩
set_option maxHeartbeats 800000 in
theorem down_large (A : Option Addr) (n c : Nat) (w : World) (hn : 30 < n) (hm : n ≤ 9223372036854775807) :
    Calls Try.prog 34 #[.slice A n c] w fun e w' => e = .returned (.tuple #[.slice none 0 0, .int .i64 2]) ∧ Below w.heap.size w w' := by
  have HB := hid (below_alloc w (.cells #[.slice A n c] 44))
  go_enter Try.func34, Try.ntmps34
  go_wp2_with fail
  refine (lcheck_large A n c _ hn hm).mono ?_
  rintro e w1 ⟨rfl, rfl⟩
  go_wp2
  go_ret2
  exact ⟨rfl, HB.out⟩

end Go.Proofs.Ytcnljljgdkjndaa

/-
  Heaps of patience (P43): where each number goes; as many heaps as the longest row that rises has numbers (MIRSKY); rows from behind, rows with a number more; ERDOES and SZEKERES. Plain facts; no program, no memory.
-/
namespace Go.Proofs.Ytcnljljgdkjndaa

/-- On which heap a number goes, by the heaps' last ones. -/
def hpl (x : Int) : List Int → Nat
  | [] => 0
  | y :: r => if y < x then hpl x r + 1 else 0
theorem hpl_le (x : Int) : ∀ T : List Int, hpl x T ≤ T.length
  | [] => Nat.le_refl _
  | y :: r => by
    rw [hpl]
    split
    · have := hpl_le x r
      simp only [List.length_cons]
      omega
    · exact Nat.zero_le _
theorem hpl_before {x : Int} : ∀ {T : List Int} {j : Nat}, j < hpl x T → T.getD j 0 < x
  | [], _, h => absurd h (Nat.not_lt_zero _)
  | y :: r, j, h => by
    rw [hpl] at h
    split at h
    · rename_i hy
      cases j with
      | zero => exact hy
      | succ j => exact hpl_before (T := r) (by omega)
    · omega
theorem hpl_there {x : Int} : ∀ {T : List Int}, hpl x T < T.length → ¬ T.getD (hpl x T) 0 < x
  | [], h => absurd h (Nat.not_lt_zero _)
  | y :: r, h => by
    rw [hpl] at h ⊢
    split
    · rename_i hy
      rw [if_pos hy, List.length_cons] at h
      rw [List.getD_cons_succ]
      exact hpl_there (T := r) (by omega)
    · rename_i hy
      exact hy
theorem rin_set {x : Int} : ∀ {T : List Int}, hpl x T < T.length → (rin x T).1 = T.set (hpl x T) x
  | [], h => absurd h (Nat.not_lt_zero _)
  | y :: r, h => by
    rw [hpl] at h ⊢
    rw [rin]
    split
    · rename_i hy
      rw [if_pos hy, List.length_cons] at h
      rw [List.set_cons_succ, rin_set (T := r) (by omega)]
    · rfl
theorem rin_app {x : Int} {T : List Int} (h : hpl x T = T.length) : (rin x T).1 = T ++ [x] := by
  rw [rin_all (fun z hz => ?_)]
  obtain ⟨j, hj, rfl⟩ := List.mem_iff_getElem.1 hz
  have := hpl_before (x := x) (T := T) (j := j) (by omega)
  rwa [List.getD_eq_getElem?_getD, List.getElem?_eq_getElem hj] at this
theorem rin_length (x : Int) (T : List Int) : (rin x T).1.length = max T.length (hpl x T + 1) := by
  rcases Nat.lt_or_ge (hpl x T) T.length with h | h
  · rw [rin_set h, List.length_set]; omega
  · rw [rin_app (Nat.le_antisymm (hpl_le x T) h), List.length_append]
    have := hpl_le x T
    simp
    omega
/-- What lies on each heap after one more. -/
theorem rin_getD (x : Int) (T : List Int) (k : Nat) : (rin x T).1.getD k 0 = if k = hpl x T then x else T.getD k 0 := by
  rcases Nat.lt_or_ge (hpl x T) T.length with h | h
  · rw [rin_set h, List.getD_eq_getElem?_getD, List.getElem?_set, List.getD_eq_getElem?_getD]
    by_cases e : hpl x T = k
    · subst e; rw [if_pos rfl, if_pos h, if_pos rfl]; rfl
    · rw [if_neg e, if_neg (fun e2 => e e2.symm)]
  · have h1 : hpl x T = T.length := Nat.le_antisymm (hpl_le x T) h
    rw [rin_app h1, h1]
    by_cases e : k = T.length
    · subst e
      rw [if_pos rfl]
      simp [List.getD_eq_getElem?_getD]
    · rw [if_neg e, List.getD_eq_getElem?_getD, List.getD_eq_getElem?_getD]
      rcases Nat.lt_or_ge k T.length with h2 | h2
      · rw [List.getElem?_append_left h2]
      · rw [List.getElem?_eq_none (by simp; omega), List.getElem?_eq_none h2]

/-- The heaps' last numbers, and on which heap each number lies. -/
def splitP (l : List Int) : List Int × List Nat := l.foldl (fun p x => ((rin x p.1).1, p.2 ++ [hpl x p.1])) ([], [])
theorem split_nil : splitP [] = ([], []) := rfl
theorem split_snoc (l : List Int) (x : Int) : splitP (l ++ [x]) = ((rin x (splitP l).1).1, (splitP l).2 ++ [hpl x (splitP l).1]) := by
  simp [splitP, List.foldl_append]
theorem split_length (l : List Int) : (splitP l).2.length = l.length := by
  induction l using snoc_ind with
  | h0 => rfl
  | h1 l x ih => rw [split_snoc, List.length_append, List.length_append, ih]; rfl

/-- What holds of the heaps. -/
structure PInv (l : List Int) (T : List Int) (s : List Nat) : Prop where
  len : s.length = l.length
  on : ∀ j, j < l.length → s.getD j 0 < T.length ∧ T.getD (s.getD j 0) 0 ≤ l.getD j 0
  fr : ∀ k, k < T.length → ∃ j, j < l.length ∧ s.getD j 0 = k ∧ l.getD j 0 = T.getD k 0
  srt : ∀ i j, i < j → j < T.length → T.getD i 0 < T.getD j 0
  up : ∀ j i, j < i → i < l.length → l.getD j 0 < l.getD i 0 → s.getD j 0 < s.getD i 0
  dn : ∀ i k, i < l.length → s.getD i 0 = k + 1 → ∃ j, j < i ∧ s.getD j 0 = k ∧ l.getD j 0 < l.getD i 0
theorem getD_front {α : Type} (l : List α) (x d : α) {j : Nat} (h : j < l.length) : (l ++ [x]).getD j d = l.getD j d := by
  rw [List.getD_eq_getElem?_getD, List.getD_eq_getElem?_getD, List.getElem?_append_left h]
theorem getD_back {α : Type} (l : List α) (x d : α) {j : Nat} (h : j = l.length) : (l ++ [x]).getD j d = x := by
  subst h
  simp [List.getD_eq_getElem?_getD]
theorem srt_le {T : List Int} (h : ∀ i j, i < j → j < T.length → T.getD i 0 < T.getD j 0) {i j : Nat} (hij : i ≤ j) (hj : j < T.length) : T.getD i 0 ≤ T.getD j 0 := by
  rcases Nat.lt_or_eq_of_le hij with h1 | rfl
  · exact Int.le_of_lt (h i j h1 hj)
  · exact Int.le_refl _
/-- Where the last ones rise, a number goes behind all that are smaller. -/
theorem hpl_over {x : Int} {T : List Int} (h : ∀ i j, i < j → j < T.length → T.getD i 0 < T.getD j 0) {k : Nat} (hk : k < T.length) (hx : T.getD k 0 < x) : k < hpl x T := by
  rcases Nat.lt_or_ge k (hpl x T) with h1 | h1
  · exact h1
  · exfalso
    have h2 := hpl_there (x := x) (T := T) (by omega)
    have h3 := srt_le h h1 hk
    omega
theorem pinv_step {l : List Int} {T : List Int} {s : List Nat} (h : PInv l T s) (x : Int) : PInv (l ++ [x]) (rin x T).1 (s ++ [hpl x T]) := by
  have hl : (l ++ [x]).length = l.length + 1 := by simp
  have hT := rin_length x T
  have hp := hpl_le x T
  have hs := h.len
  have htop : ∀ j, j < l.length → (rin x T).1.getD (s.getD j 0) 0 ≤ l.getD j 0 := by
    intro j hj
    obtain ⟨h1, h2⟩ := h.on j hj
    rw [rin_getD]
    split
    · rename_i e
      have h3 := hpl_there (x := x) (T := T) (by omega)
      rw [← e] at h3
      omega
    · exact h2
  refine ⟨by simp [hs], ?_, ?_, ?_, ?_, ?_⟩
  · intro j hj
    rw [hl] at hj
    by_cases e : j = l.length
    · rw [getD_back l x 0 e, getD_back s _ 0 (by omega), rin_getD, if_pos rfl]
      omega
    · rw [getD_front l x 0 (by omega), getD_front s _ 0 (by omega)]
      exact ⟨by have := (h.on j (by omega)).1; omega, htop j (by omega)⟩
  · intro k hk
    rw [rin_getD]
    by_cases e : k = hpl x T
    · rw [if_pos e]
      exact ⟨l.length, by omega, by rw [getD_back s _ 0 (by omega), e], getD_back l x 0 rfl⟩
    · rw [if_neg e]
      obtain ⟨j, h1, h2, h3⟩ := h.fr k (by omega)
      exact ⟨j, by omega, by rw [getD_front s _ 0 (by omega)]; exact h2, by rw [getD_front l x 0 h1]; exact h3⟩
  · intro i j hij hj
    rw [rin_getD, rin_getD]
    by_cases ei : i = hpl x T
    · rw [if_pos ei, if_neg (by omega)]
      have h1 : j < T.length := by omega
      have h2 := hpl_there (x := x) (T := T) (by omega)
      have h3 := h.srt (hpl x T) j (by omega) h1
      omega
    · rw [if_neg ei]
      by_cases ej : j = hpl x T
      · rw [if_pos ej]
        exact hpl_before (by omega)
      · rw [if_neg ej]
        exact h.srt i j hij (by omega)
  · intro j i hji hi hx
    rw [hl] at hi
    by_cases e : i = l.length
    · rw [getD_front l x 0 (by omega), getD_back l x 0 e] at hx
      rw [getD_front s _ 0 (by omega), getD_back s _ 0 (by omega)]
      obtain ⟨h1, h2⟩ := h.on j (by omega)
      exact hpl_over h.srt h1 (by omega)
    · rw [getD_front l x 0 (by omega), getD_front l x 0 (by omega)] at hx
      rw [getD_front s _ 0 (by omega), getD_front s _ 0 (by omega)]
      exact h.up j i hji (by omega) hx
  · intro i k hi hk
    rw [hl] at hi
    by_cases e : i = l.length
    · rw [getD_back s _ 0 (by omega)] at hk
      obtain ⟨j, h1, h2, h3⟩ := h.fr k (by omega)
      refine ⟨j, by omega, by rw [getD_front s _ 0 (by omega)]; exact h2, ?_⟩
      rw [getD_front l x 0 h1, getD_back l x 0 e, h3]
      exact hpl_before (by omega)
    · rw [getD_front s _ 0 (by omega)] at hk
      obtain ⟨j, h1, h2, h3⟩ := h.dn i k (by omega) hk
      exact ⟨j, h1, by rw [getD_front s _ 0 (by omega)]; exact h2, by rw [getD_front l x 0 (by omega), getD_front l x 0 (by omega)]; exact h3⟩
theorem pinv (l : List Int) : PInv l (splitP l).1 (splitP l).2 := by
  induction l using snoc_ind with
  | h0 => exact ⟨rfl, fun j h => absurd h (by simp), fun k h => absurd h (by simp [split_nil]), fun i j _ h => absurd h (by simp [split_nil]), fun j i _ h => absurd h (by simp), fun i k h => absurd h (by simp)⟩
  | h1 l x ih => rw [split_snoc]; exact pinv_step ih x

/-- MIRSKY: as many heaps as the longest row that rises has numbers. -/
theorem heap_line (l : List Int) : ∀ k i, i < l.length → (splitP l).2.getD i 0 = k → ∃ c, Line (upF l) l.length c ∧ c.getLast? = some i ∧ c.length = k + 1
  | 0, i, hi, _ => ⟨[i], line_one hi, rfl, rfl⟩
  | k + 1, i, hi, hk => by
    obtain ⟨j, h1, h2, h3⟩ := (pinv l).dn i k hi hk
    obtain ⟨c, c1, c2, c3⟩ := heap_line l k j (by omega) h2
    refine ⟨c ++ [i], line_append c1 hi (fun m hm => ?_), by simp, by simp [c3]⟩
    rw [c2] at hm
    injection hm with hm
    subst hm
    exact ⟨h1, decide_eq_true h3⟩
theorem heaps_longest (l : List Int) : Longest (upF l) l.length (splitP l).1.length := by
  have H := pinv l
  constructor
  · rcases Nat.eq_zero_or_pos (splitP l).1.length with h0 | h0
    · exact ⟨[], trivial, h0.symm⟩
    · obtain ⟨j, h1, h2, _⟩ := H.fr ((splitP l).1.length - 1) (by omega)
      obtain ⟨c, c1, _, c3⟩ := heap_line l _ j h1 h2
      exact ⟨c, c1, by omega⟩
  · intro c hc
    have hp : c.Pairwise (fun i j => (splitP l).2.getD i 0 < (splitP l).2.getD j 0) :=
      hc.pairs (fun i j h1 h2 h3 => H.up i j h1 h2 (of_decide_eq_true h3)) (fun _ _ _ h1 h2 => Nat.lt_trans h1 h2)
    have hp2 : (c.map (fun i => (splitP l).2.getD i 0)).Pairwise (· < ·) := List.pairwise_map.2 hp
    have := nodup_short (n := (splitP l).1.length) hp2 (fun k hk => ?_) 0 (fun _ _ => Nat.zero_le _) (Nat.zero_le _)
    · rw [List.length_map] at this; omega
    · obtain ⟨i, hi, rfl⟩ := List.mem_map.1 hk
      exact (H.on i (hc.lt i hi)).1

/-! ### ERDOES, SZEKERES -/
theorem count_step (s : Nat → Nat) (k : Nat) : ∀ L : List Nat, (L.filter (fun i => decide (s i < k + 1))).length = (L.filter (fun i => decide (s i < k))).length + (L.filter (fun i => decide (s i = k))).length
  | [] => rfl
  | i :: L => by
    have ih := count_step s k L
    rw [List.filter_cons, List.filter_cons, List.filter_cons]
    by_cases h1 : s i < k
    · rw [if_pos (decide_eq_true (show s i < k + 1 by omega)), if_pos (decide_eq_true h1), if_neg (by simp; omega)]
      simp only [List.length_cons]
      omega
    · by_cases h2 : s i = k
      · rw [if_pos (decide_eq_true (show s i < k + 1 by omega)), if_neg (by simp; omega), if_pos (decide_eq_true h2)]
        simp only [List.length_cons]
        omega
      · rw [if_neg (by simp; omega), if_neg (by simp; omega), if_neg (by simp; omega)]
        exact ih
theorem count_all (s : Nat → Nat) (L : List Nat) (D : Nat) (h : ∀ k, (L.filter (fun i => decide (s i = k))).length ≤ D) : ∀ k, (L.filter (fun i => decide (s i < k))).length ≤ k * D
  | 0 => by simp
  | k + 1 => by
    rw [count_step, Nat.succ_mul]
    have := count_all s L D h k
    have := h k
    omega
theorem range_rising (n : Nat) : (List.range n).Pairwise (· < ·) := List.pairwise_lt_range
/-- ERDOES, SZEKERES. -/
theorem erdoes_szekeres {l : List Int} {u d : Nat} (hu : Longest (upF l) l.length u) (hd : Longest (downF l) l.length d) : l.length ≤ u * d := by
  have H := pinv l
  obtain rfl : u = (splitP l).1.length := hu.eq (heaps_longest l)
  have h := count_all (fun i => (splitP l).2.getD i 0) (List.range l.length) d (fun k => ?_) (splitP l).1.length
  · have e : (List.range l.length).filter (fun i => decide ((splitP l).2.getD i 0 < (splitP l).1.length)) = List.range l.length := by
      rw [List.filter_eq_self]
      intro i hi
      exact decide_eq_true (H.on i (List.mem_range.1 hi)).1
    rw [e, List.length_range] at h
    exact h
  · refine hd.2 _ (line_of_pairs (fun i hi => List.mem_range.1 (List.mem_filter.1 hi).1) ?_)
    have hr : ((List.range l.length).filter (fun i => decide ((splitP l).2.getD i 0 = k))).Pairwise (· < ·) := (range_rising _).sublist List.filter_sublist
    refine hr.imp_of_mem ?_
    intro i j hi hj hij
    refine ⟨hij, decide_eq_true ?_⟩
    have h1 : (splitP l).2.getD i 0 = k := of_decide_eq_true (List.mem_filter.1 hi).2
    have h2 : (splitP l).2.getD j 0 = k := of_decide_eq_true (List.mem_filter.1 hj).2
    by_cases hlt : l.getD i 0 < l.getD j 0
    · have := H.up i j hij (List.mem_range.1 (List.mem_filter.1 hj).1) hlt
      omega
    · omega

/-! ### A row from behind -/
theorem line_behind {f g : Nat → Nat → Bool} {n : Nat} (hfg : ∀ i j, i < j → j < n → f i j = true → g (n - 1 - j) (n - 1 - i) = true) : ∀ {c : List Nat}, Line f n c → Line g n (c.map (fun i => n - 1 - i)).reverse
  | [], _ => trivial
  | i :: c, h => by
    rw [List.map_cons, List.reverse_cons]
    have hi := h.head
    refine line_append (line_behind hfg h.tail) (by omega) (fun k hk => ?_)
    rw [List.getLast?_reverse, List.head?_map] at hk
    cases c with
    | nil => simp at hk
    | cons j c =>
      simp only [List.head?_cons, Option.map_some, Option.some.injEq] at hk
      subst hk
      have hj := h.tail.head
      obtain ⟨h1, h2⟩ := h.two
      exact ⟨by omega, hfg i j h1 hj h2⟩
theorem longest_behind {f g : Nat → Nat → Bool} {n m : Nat} (h1 : ∀ i j, i < j → j < n → f i j = true → g (n - 1 - j) (n - 1 - i) = true) (h2 : ∀ i j, i < j → j < n → g i j = true → f (n - 1 - j) (n - 1 - i) = true) (h : Longest f n m) : Longest g n m := by
  obtain ⟨⟨c, c1, c2⟩, c3⟩ := h
  refine ⟨⟨_, line_behind h1 c1, by simp [c2]⟩, fun d hd => ?_⟩
  have := c3 _ (line_behind h2 hd)
  simpa using this
theorem getD_reverse {l : List Int} {i : Nat} (h : i < l.length) : l.reverse.getD i 0 = l.getD (l.length - 1 - i) 0 := by
  rw [List.getD_eq_getElem?_getD, List.getD_eq_getElem?_getD, List.getElem?_reverse h]
/-- From behind, and below nought, what rose rises. -/
theorem longest_back {l b : List Int} {m : Nat} (hb : b.length = l.length) (he : ∀ i, i < l.length → b.getD i 0 = -1 - l.getD (l.length - 1 - i) 0) (h : Longest (upF l) l.length m) : Longest (upF b) b.length m := by
  rw [hb]
  refine longest_behind (fun i j h1 h2 h3 => ?_) (fun i j h1 h2 h3 => ?_) h
  · have h4 : l.getD i 0 < l.getD j 0 := of_decide_eq_true h3
    refine decide_eq_true ?_
    rw [he _ (by omega), he _ (by omega), show l.length - 1 - (l.length - 1 - j) = j by omega, show l.length - 1 - (l.length - 1 - i) = i by omega]
    omega
  · have h4 : b.getD i 0 < b.getD j 0 := of_decide_eq_true h3
    rw [he _ (by omega), he _ (by omega)] at h4
    refine decide_eq_true ?_
    omega

/-! ### A number more -/
theorem longest_more {f g : Nat → Nat → Bool} {n a b : Nat} (hfg : ∀ i j, i < j → j < n → f i j = g i j) (ha : Longest f n a) (hb : Longest g (n + 1) b) : a ≤ b ∧ b ≤ a + 1 := by
  constructor
  · obtain ⟨c, c1, c2⟩ := ha.1
    have h := hb.2 c (c1.law (fun i hi => by have := c1.lt i hi; omega) (fun i hi j hj hij h => by rw [← hfg i j hij (c1.lt j hj)]; exact h))
    omega
  · obtain ⟨c, c1, c2⟩ := hb.1
    rcases List.eq_nil_or_concat c with rfl | ⟨d, k, rfl⟩
    · simp at c2; omega
    · rw [List.concat_eq_append] at c1 c2
      have hr := c1.rising
      have hk := c1.lt k (by simp)
      have hlt : ∀ i ∈ d, i < n := fun i hi => by
        have := (List.pairwise_append.1 hr).2.2 i hi k (by simp)
        omega
      have hd : Line g (n + 1) d := by
        have : ∀ (d : List Nat), Line g (n + 1) (d ++ [k]) → Line g (n + 1) d := by
          intro d
          induction d with
          | nil => intro _; trivial
          | cons i d ih =>
            intro h
            refine ⟨h.head, fun j hj => ?_, ih h.tail⟩
            refine h.2.1 j ?_
            cases d with
            | nil => simp at hj
            | cons u d => simpa using hj
        exact this d c1
      have h := ha.2 d (hd.law hlt (fun i hi j hj hij h => by rw [hfg i j hij (hlt j hj)]; exact h))
      rw [List.length_append] at c2
      simp at c2
      omega
theorem upF_more (l : List Int) (x : Int) {i j : Nat} (hi : i < l.length) (hj : j < l.length) : upF l i j = upF (l ++ [x]) i j := by
  unfold upF
  rw [getD_front l x 0 hi, getD_front l x 0 hj]
theorem downF_more (l : List Int) (x : Int) {i j : Nat} (hi : i < l.length) (hj : j < l.length) : downF l i j = downF (l ++ [x]) i j := by
  unfold downF
  rw [getD_front l x 0 hi, getD_front l x 0 hj]

/-! ### SCHENSTED: the first row -/
theorem tin_first (T : List (List Int)) (x : Int) : (tin T x).1.getD 0 [] = (rin x (T.getD 0 [])).1 := by
  cases T with
  | nil => rfl
  | cons row T =>
    rw [tin]
    cases (rin x row).2 <;> rfl
theorem first_row (l : List Int) : (PT l).getD 0 [] = (splitP l).1 := by
  induction l using snoc_ind with
  | h0 => rfl
  | h1 l x ih => rw [PT_snoc, tin_first, ih, split_snoc]
theorem down_behind {l : List Int} (hd : l.Nodup) {m : Nat} (h : Longest (upF l.reverse) l.length m) : Longest (downF l) l.length m := by
  refine longest_behind (fun i j h1 h2 h3 => ?_) (fun i j h1 h2 h3 => ?_) h
  · have h4 : l.reverse.getD i 0 < l.reverse.getD j 0 := of_decide_eq_true h3
    rw [getD_reverse (by omega), getD_reverse (by omega)] at h4
    exact decide_eq_true (by omega)
  · have h4 : l.getD j 0 ≤ l.getD i 0 := of_decide_eq_true h3
    have h5 : l.getD i 0 ≠ l.getD j 0 := by
      rw [List.getD_eq_getElem?_getD, List.getD_eq_getElem?_getD, List.getElem?_eq_getElem (by omega), List.getElem?_eq_getElem h2]
      intro e
      exact absurd ((List.getElem_inj hd).1 e) (by omega)
    refine decide_eq_true ?_
    rw [getD_reverse (by omega), getD_reverse (by omega), show l.length - 1 - (l.length - 1 - j) = j by omega, show l.length - 1 - (l.length - 1 - i) = i by omega]
    omega
end Go.Proofs.Ytcnljljgdkjndaa

/-
  castkeep.TableauFirst, walked.
-/
namespace Go.Proofs.Ytcnljljgdkjndaa
open Go.RowKit

theorem goes_len {f : Nat → Nat → Bool} {n : Nat} {ys : List Int} (h : Goes f n ys) : Longest f n ys.length := by
  obtain ⟨c, rfl, _, h2⟩ := h
  rw [List.length_map]
  exact h2
theorem Longest.pos {f : Nat → Nat → Bool} {n m : Nat} (h : Longest f n m) (hn : 0 < n) : 0 < m := h.2 [0] (line_one hn)
/-- SCHENSTED: the first row. -/
theorem first_len (l : List Int) : Longest (upF l) l.length ((PT l).getD 0 []).length := by
  rw [first_row]
  exact heaps_longest l
/-- SCHENSTED: how many rows. -/
theorem rows_len {l : List Int} (hd : l.Nodup) : Longest (downF l) l.length (PT l).length := by
  have h1 := rows_behind (w := l.reverse) ((List.reverse_perm l).nodup_iff.2 hd)
  rw [List.reverse_reverse] at h1
  rw [h1]
  refine down_behind hd ?_
  have h2 := first_len l.reverse
  rw [List.length_reverse] at h2
  exact h2

end Go.Proofs.Ytcnljljgdkjndaa

/-
  casttop.TopFew, walked.
-/
namespace Go.Proofs.Ytcnljljgdkjndaa
open Go.RowKit

theorem topgood_bel1 (w : World) (o : Obj) (cs : Array Value) (t n : Nat) (l : List Int) (h : cs = (l.map (Value.int .i64)).toArray) (hn : l.length = n) (hs : n ≤ 1000000) :
    Calls Try.prog 28 #[.slice (some ⟨w.heap.size + 1, 0, none⟩) n n] ((w.alloc o).alloc (.cells cs t)) fun e w' => e = .returned (.bool (allOK l)) ∧ Below (w.alloc o).heap.size (w.alloc o) w' := by
  have e : (w.alloc o).heap.size = w.heap.size + 1 := by simp
  have k := topgood_bel (w.alloc o) cs t n l h hn hs
  rw [e] at k ⊢
  exact k

/-- Where the loop stands: an order, not the last one gone through; or behind the last. -/
def FewAt (k j : Nat) (v er : Value) (w : World) : Prop :=
  (j < fact k ∧ er = .int .i64 0 ∧ ∃ A c, v = .slice A k c ∧ Ints w A k (atL k j) ∧ Cap k c) ∨ (j = fact k ∧ er = .int .i64 4)

set_option maxHeartbeats 4000000 in
set_option maxRecDepth 100000 in
theorem topFew_any (K : Int) (w : World) :
    Calls Try.prog 9 #[.int .i64 K] w fun e w' => e = .returned (.bool true) ∧ Below w.heap.size w w' := by
  have HB0 := hid (Below.refl w.heap.size w)
  go_enter Try.func9, Try.ntmps9
  go_wp2_with fail
  refine (within_any K 7 _ (by omega) (by omega)).mono ?_
  rintro e w' ⟨rfl, rfl⟩
  obtain ⟨k, hk0⟩ : ∃ k : Nat, K % 7 = k := ⟨(K % 7).toNat, by omega⟩
  have hk : k < 7 := by omega
  rw [hk0]
  clear hk0
  go_wp2_with fail
  refine (ncount_ok k _ (by omega)).mono ?_
  rintro e w1 ⟨rfl, hb⟩
  have HB1 := hid (below_step HB0.out (Nat.le_refl _) hb)
  clear hb HB0
  go_wp2_with fail
  refine (at_ok k 0 _ (by omega) (fact_pos k)).mono ?_
  rintro e w2 ⟨g2, rfl, hI, hb⟩
  have HB2 := hid (below_step HB1.out (Nat.le_refl _) hb)
  have HI := hid hI
  clear hb hI HB1
  go_wp2_with fail
  refine (works_any _).mono ?_
  rintro e w3 ⟨rfl, hb⟩
  have HB3 := hid (below_step HB2.out (Nat.le_refl _) hb)
  have HI3 := hid (HI.out.keep hb)
  clear hb HI HB2
  go_wp2_with fail
  refine (topgood_bel _ _ _ 2 [0, 0] rfl rfl (by omega)).mono ?_
  rintro e w4 ⟨rfl, hb⟩
  have HB4 := hid (below_step HB3.out (Nat.le_refl _) hb)
  have HI4 := hid (HI3.out.keep hb)
  clear hb HI3 HB3
  rw [show allOK [0, 0] = true by decide]
  have HF := hid (fact_ten (n := k) (by omega))
  have HFW := hid (few_at hk)
  go_wp2_with fail
  go_loopg [5, 6, 7, 8, 9, 10, 11, 12] (fact k + 1) (fun g v er a b _ _ _ _ wr => ∃ j : Nat, j ≤ fact k ∧ fact k + 1 - j ≤ g ∧ a = .int .i64 ((fewN k j : Nat) : Int) ∧ b = .int .i64 ((fewN k j : Nat) : Int) ∧ FewAt k j v er wr ∧ Below w.heap.size w wr)
  case atStart => exact ⟨0, Nat.zero_le _, by omega, rfl, rfl, Or.inl ⟨fact_pos k, rfl, _, _, rfl, HI4.out, ⟨Nat.le_refl _, by omega⟩⟩, HB4.out⟩
  case round =>
    clear HI4
    obtain ⟨j, hj, hg, rfl, rfl, hat, hbel⟩ := hrel
    have HB := hid hbel
    clear hbel
    rcases hat with ⟨hlt, rfl, A, c, rfl, hI, hcap⟩ | ⟨hje, rfl⟩
    · have HI := hid hI
      have HC := hid hcap
      clear hI hcap
      have HL : Hid ((atL k j).length = k) := length_atL k j
      have HE : Hid (permErr (atL k j) = 0) := permErr_of (isPerm_atL k j) (by rw [HL.out]; omega)
      have HND : Hid ((atL k j).Nodup) := (isPerm_atL k j).nodup
      have HNX : Hid (fewN k (j + 1) = fewN k j + (if (PT (atL k j)).length ≤ 2 then 1 else 0)) := rfl
      have hfl := fewN_le k j
      have hF := HF.out
      go_wp2_with fail
      refine (down_ok A k c (atL k j) _ HI.out (by omega)).mono ?_
      rintro e w5 ⟨A5, d, c5, zs, rfl, hb, hId, _, hgd⟩
      have HB5 := hid (below_step HB.out (Nat.le_refl _) hb)
      have HI5 := hid (HI.out.keep hb)
      have HLD := hid (goes_len hgd)
      rw [hId.len] at HLD
      clear hb hId hgd HB HI
      go_wp2_with fail
      refine (tabOf_ok A k c (atL k j) _ HI5.out HE.out).mono ?_
      rintro e w6 ⟨B1, n1, d1, B2, n2, d2, rfl, hR1, hR2, hC1, hC2, hb⟩
      have HB6 := hid (below_step (below_step HB5.out (Nat.le_refl _) hb) (Nat.le_refl _) (below_alloc w6 (.cells #[.slice B1 n1 d1, .slice B2 n2 d2] 53)))
      have HT6 : Hid (PairAt (w6.alloc (.cells #[.slice B1 n1 d1, .slice B2 n2 d2] 53)) w6.heap.size B1 n1 d1 B2 n2 d2 (PT (atL k j)) (QT (atL k j))) := PairAt.new hR1 hR2
      have HI6 := hid ((HI5.out.keep hb).keep (below_alloc w6 (.cells #[.slice B1 n1 d1, .slice B2 n2 d2] 53)))
      have hd1 : n1 = d := by
        have e := rows_len HND.out
        rw [HL.out, hR1.len] at e
        exact e.eq HLD.out
      have HN1 := hid hR1.len
      clear hR1 hR2 hC1 hC2 hb HB5 HI5
      have hn1 : n1 ≤ 10 := by have := HLD.out.le; omega
      subst hd1
      go_wp2_with fail
      refine (topgood_bel1 _ _ _ _ 2 [0, 0] rfl rfl (by omega)).mono ?_
      rintro e w7 ⟨rfl, hb⟩
      have HB7 := hid (below_step HB6.out (Nat.le_refl _) hb)
      have HT7 := hid (HT6.out.keep hb)
      have HI7 := hid (HI6.out.keep hb)
      clear hb HB6 HT6 HI6 HLD
      rw [show allOK [0, 0] = true by decide]
      have t0 := HT7.out.p0
      by_cases h2 : n1 ≤ 2
      · have HN2 : Hid (fewN k (j + 1) = fewN k j + 1) := by
          show _ = _
          rw [HNX.out, HN1.out, if_pos h2]
        have h2I : (n1 : Int) ≤ 2 := by omega
        have h2d : decide ((n1 : Int) ≤ 2) = true := decide_eq_true h2I
        generalize fewN k j = y at *
        by_cases hla : j + 1 < fact k
        · go_wp2_with fail
          refine (next_own _ k c (atL k j) _ HI7.out HE.out (by rw [rk_atL hlt]; exact hla)).mono ?_
          rintro e w8 ⟨g8, c8, q, rfl, hg8, hI8, hcap, hb8, hpm, hrk⟩
          rw [HL.out] at hI8 hcap
          rw [HL.out]
          have hq : q = atL k (j + 1) := rk_inj (hpm.trans (((isPerm_atL k j).perm (isPerm_atL k (j + 1)) (by rw [length_atL, length_atL])))) (by rw [hrk, rk_atL hlt, rk_atL hla])
          subst hq
          have HB8 := hid (below_step HB7.out (Nat.le_refl _) hb8)
          have HI8 := hid hI8
          have HCAP := hid hcap
          clear hI8 hcap hb8 hpm hrk hg8
          go_wp2
          go_roundg (fact k + 1 - (j + 1))
          case measure => omega
          case rel => exact ⟨j + 1, by omega, by omega, by rw [HN2.out]; go_num, by rw [HN2.out]; go_num, Or.inl ⟨hla, rfl, _, c8, rfl, HI8.out, HCAP.out⟩, HB8.out⟩
        · have hlb : j + 1 = fact k := by omega
          go_wp2_with fail
          refine (next_last _ k c (atL k j) _ HI7.out HE.out (by rw [rk_atL hlt]; exact hlb)).mono ?_
          rintro e w8 ⟨rfl, hb8⟩
          have HB8 := hid (below_step HB7.out (Nat.le_refl _) hb8)
          clear hb8
          go_wp2
          go_roundg (fact k + 1 - (j + 1))
          case measure => omega
          case rel => exact ⟨j + 1, by omega, by omega, by rw [HN2.out]; go_num, by rw [HN2.out]; go_num, Or.inr ⟨hlb, rfl⟩, HB8.out⟩
      · have HN2 : Hid (fewN k (j + 1) = fewN k j) := by
          show _ = _
          rw [HNX.out, HN1.out, if_neg h2]
          rfl
        have h2I : ¬ (n1 : Int) ≤ 2 := by omega
        have h2d : decide ((n1 : Int) ≤ 2) = false := decide_eq_false h2I
        generalize fewN k j = y at *
        by_cases hla : j + 1 < fact k
        · go_wp2_with fail
          refine (next_own _ k c (atL k j) _ HI7.out HE.out (by rw [rk_atL hlt]; exact hla)).mono ?_
          rintro e w8 ⟨g8, c8, q, rfl, hg8, hI8, hcap, hb8, hpm, hrk⟩
          rw [HL.out] at hI8 hcap
          rw [HL.out]
          have hq : q = atL k (j + 1) := rk_inj (hpm.trans (((isPerm_atL k j).perm (isPerm_atL k (j + 1)) (by rw [length_atL, length_atL])))) (by rw [hrk, rk_atL hlt, rk_atL hla])
          subst hq
          have HB8 := hid (below_step HB7.out (Nat.le_refl _) hb8)
          have HI8 := hid hI8
          have HCAP := hid hcap
          clear hI8 hcap hb8 hpm hrk hg8
          go_wp2
          go_roundg (fact k + 1 - (j + 1))
          case measure => omega
          case rel => exact ⟨j + 1, by omega, by omega, by rw [HN2.out], by rw [HN2.out], Or.inl ⟨hla, rfl, _, c8, rfl, HI8.out, HCAP.out⟩, HB8.out⟩
        · have hlb : j + 1 = fact k := by omega
          go_wp2_with fail
          refine (next_last _ k c (atL k j) _ HI7.out HE.out (by rw [rk_atL hlt]; exact hlb)).mono ?_
          rintro e w8 ⟨rfl, hb8⟩
          have HB8 := hid (below_step HB7.out (Nat.le_refl _) hb8)
          clear hb8
          go_wp2
          go_roundg (fact k + 1 - (j + 1))
          case measure => omega
          case rel => exact ⟨j + 1, by omega, by omega, by rw [HN2.out], by rw [HN2.out], Or.inr ⟨hlb, rfl⟩, HB8.out⟩
    · subst hje
      rw [HFW.out]
      generalize bal k k = z at *
      go_wp2
      go_ret
      exact ⟨rfl, HB.out⟩
end Go.Proofs.Ytcnljljgdkjndaa
