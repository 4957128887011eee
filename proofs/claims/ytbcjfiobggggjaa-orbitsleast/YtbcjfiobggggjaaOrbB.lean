/-
  Plain facts: BURNSIDE: there are as many colourings as rows that are the least of their own. No program, no memory.
-/
import Derived.Test.YtbcjfiobggggjaaOrbM
namespace Go.Proofs.Ytbcjfiobggggjaa

/-! ### All rows of n numbers below k -/
def dig : Nat → Nat → Nat → List Int
  | 0, _, _ => []
  | n + 1, k, x => ((x % k : Nat) : Int) :: dig n k (x / k)
def rowsL (n k : Nat) : List (List Int) := (List.range (k ^ n)).map (dig n k)

theorem length_dig : ∀ n k x, (dig n k x).length = n
  | 0, _, _ => rfl
  | n + 1, k, x => by simp [dig, length_dig n k]
theorem dig_range {k : Nat} (hk : 0 < k) : ∀ n x v, v ∈ dig n k x → 0 ≤ v ∧ v < k
  | 0, _, _, h => by simp [dig] at h
  | n + 1, x, v, h => by
    simp only [dig, List.mem_cons] at h
    rcases h with rfl | h
    · have := Nat.mod_lt x hk
      omega
    · exact dig_range hk n _ v h
theorem dig_inj {k : Nat} : ∀ n x y, x < k ^ n → y < k ^ n → dig n k x = dig n k y → x = y
  | 0, x, y, hx, hy, _ => by simp at hx hy; omega
  | n + 1, x, y, hx, hy, h => by
    simp only [dig, List.cons.injEq] at h
    rw [Nat.pow_succ] at hx hy
    have hx' : x / k < k ^ n := Nat.div_lt_of_lt_mul (by rwa [Nat.mul_comm] at hx)
    have hy' : y / k < k ^ n := Nat.div_lt_of_lt_mul (by rwa [Nat.mul_comm] at hy)
    have h1 := dig_inj n _ _ hx' hy' h.2
    have h2 := Nat.div_add_mod x k
    have h3 := Nat.div_add_mod y k
    have h4 : x % k = y % k := by omega
    rw [← h2, ← h3, h1, h4]
theorem dig_all {k : Nat} : ∀ (r : List Int), (∀ v, v ∈ r → 0 ≤ v ∧ v < (k : Int)) → ∃ x, x < k ^ r.length ∧ dig r.length k x = r
  | [], _ => ⟨0, by simp, rfl⟩
  | v :: r, h => by
    obtain ⟨x, hx, e⟩ := dig_all r (fun u hu => h u (by simp [hu]))
    have hv := h v (by simp)
    have hk : 0 < k := by omega
    refine ⟨v.toNat + k * x, ?_, ?_⟩
    · rw [List.length_cons, Nat.pow_succ]
      have : (x + 1) * k ≤ k ^ r.length * k := Nat.mul_le_mul_right k hx
      rw [Nat.succ_mul, Nat.mul_comm x k] at this
      omega
    · have h1 : (v.toNat + k * x) % k = v.toNat := by rw [Nat.add_mul_mod_self_left, Nat.mod_eq_of_lt (by omega)]
      have h2 : (v.toNat + k * x) / k = x := by rw [Nat.add_mul_div_left _ _ hk, Nat.div_eq_of_lt (by omega), Nat.zero_add]
      simp only [List.length_cons, dig, h1, h2, e]
      rw [show ((v.toNat : Nat) : Int) = v by omega]

theorem nodup_rowsL (n k : Nat) : (rowsL n k).Nodup := nodup_map_on List.nodup_range fun a ha b hb e => dig_inj n a b (List.mem_range.1 ha) (List.mem_range.1 hb) e
theorem mem_rowsL {n k : Nat} {r : List Int} : r ∈ rowsL n k ↔ r.length = n ∧ ∀ v, v ∈ r → 0 ≤ v ∧ v < (k : Int) := by
  constructor
  · intro h
    obtain ⟨x, hx, rfl⟩ := List.mem_map.1 h
    refine ⟨length_dig n k x, fun v hv => ?_⟩
    rcases Nat.eq_zero_or_pos k with h0 | h0
    · subst h0
      match n, hx, hv with
      | 0, _, hv => simp [dig] at hv
      | n + 1, hx, _ => simp at hx
    · exact dig_range h0 n x v hv
  · rintro ⟨rfl, h⟩
    obtain ⟨x, hx, e⟩ := dig_all r h
    exact List.mem_map.2 ⟨x, List.mem_range.2 hx, e⟩

/-- An order moves them among themselves. -/
theorem rowsL_mv {n k : Nat} {p : List Int} (hp : IsPerm p) (hl : p.length = n) : ((rowsL n k).map (mv p)).Perm (rowsL n k) := by
  refine (perm_of_nodup_subset (nodup_map_on (nodup_rowsL n k) fun a ha b hb e => ?_) (fun x hx => ?_) (by simp)).symm
  · exact mv_inj hp ((mem_rowsL.1 ha).1.trans hl.symm) ((mem_rowsL.1 hb).1.trans hl.symm) e
  · obtain ⟨r, hr, rfl⟩ := List.mem_map.1 hx
    have hR := mem_rowsL.1 hr
    refine mem_rowsL.2 ⟨by rw [length_mv, hl], fun v hv => hR.2 v ?_⟩
    exact (mv_perm hp (hR.1.trans hl.symm)).mem_iff.1 hv

/-! ### The least one, by a fold -/
def lstF (S : List (List Int)) (row b : List Int) : List Int := S.foldl (fun b p => if cmpL (mv p row) b < 0 then mv p row else b) b
def lst (T : List (List Int)) (row : List Int) : List Int := lstF T row row
theorem lstF_least : ∀ (S S0 : List (List Int)) (row b : List Int), LeastOn S0 row b → LeastOn (S0 ++ S) row (lstF S row b)
  | [], S0, row, b, h => by rw [List.append_nil]; exact h
  | p :: S, S0, row, b, h => by
    have e : S0 ++ p :: S = (S0 ++ [p]) ++ S := by simp
    rw [e]
    simp only [lstF, List.foldl_cons]
    by_cases hc : cmpL (mv p row) b < 0
    · rw [if_pos hc]
      exact lstF_least S _ row _ (h.less hc)
    · rw [if_neg hc]
      exact lstF_least S _ row _ (h.more hc)

section
variable {n : Nat} {l T : List (List Int)}
theorem lst_least (hT : GroupOf n l T) {row : List Int} (hr : row.length = n) : LeastRow n l row (lst T row) := by
  have h0 := LeastOn.first (iota n) row
  rw [mv_one hr] at h0
  have h1 := lstF_least T [iota n] row row h0
  have h2 : LeastOn T row (lst T row) := ⟨by
    obtain ⟨p, hp, e⟩ := h1.orb
    rcases List.mem_append.1 hp with h3 | h3
    · exact ⟨p, by rw [List.mem_singleton.1 h3]; exact hT.one, e⟩
    · exact ⟨p, h3, e⟩, fun p hp => h1.le p (List.mem_append_right _ hp)⟩
  exact h2.whole hT
theorem lst_mv (hT : GroupOf n l T) (hl : Orders n l) {row p : List Int} (hr : row.length = n) (hp : p ∈ T) : lst T (mv p row) = lst T row := by
  have hP := hT.ok hl hp
  exact (lst_least hT (by rw [length_mv, hP.1])).unique ((lst_least hT hr).moved hT hl hr ((hT.mem p).1 hp))

/-! ### Sums turned -/
theorem sum_turned {α β : Type} (q : α → β → Bool) : ∀ (T : List α) (R : List β), (T.map (fun p => R.countP (q p))).sum = (R.map (fun r => T.countP (fun p => q p r))).sum
  | [], R => by
    induction R with
    | nil => rfl
    | cons r R ih => simpa using ih
  | p :: T, R => by
    have ih := sum_turned q T R
    rw [List.map_cons, List.sum_cons, ih]
    clear ih
    induction R with
    | nil => rfl
    | cons r R ih =>
      simp only [List.countP_cons, List.map_cons, List.sum_cons] at ih ⊢
      omega
theorem sum_same {α : Type} {f g : α → Nat} {T : List α} (h : ∀ a, a ∈ T → f a = g a) : (T.map f).sum = (T.map g).sum := by rw [List.map_congr_left h]
theorem sum_const {α : Type} (c : Nat) : ∀ T : List α, (T.map (fun _ => c)).sum = T.length * c
  | [] => by simp
  | a :: T => by rw [List.map_cons, List.sum_cons, sum_const c T, List.length_cons, Nat.succ_mul, Nat.add_comm]

/-- How many rows an order leaves as they are. -/
def fixRw (n k : Nat) (p : List Int) : Nat := (rowsL n k).countP (fun r => decide (mv p r = r))
/-- How many rows are the least of their own. -/
def leastN (n k : Nat) (T : List (List Int)) : Nat := (rowsL n k).countP (fun r => decide (r = lst T r))

theorem countP_map_perm {α : Type} {f : α → α} {L : List α} (h : (L.map f).Perm L) (g : α → Bool) : L.countP g = L.countP (fun a => g (f a)) := by
  rw [← h.countP_eq, List.countP_map]
  rfl

theorem countP_same {α : Type} {f g : α → Bool} {L : List α} (h : ∀ a, a ∈ L → f a = g a) : L.countP f = L.countP g := by
  induction L with
  | nil => rfl
  | cons a L ih => rw [List.countP_cons, List.countP_cons, h a (by simp), ih (fun b hb => h b (by simp [hb]))]

/-- BURNSIDE. -/
theorem burnside (hT : GroupOf n l T) (hl : Orders n l) (k : Nat) : (T.map (fixRw n k)).sum = T.length * leastN n k T := by
  have e1 : (T.map (fixRw n k)).sum = ((rowsL n k).map (fun r => T.countP (fun p => decide (mv p r = r)))).sum := sum_turned (fun p r => decide (mv p r = r)) T (rowsL n k)
  have e2 : ((rowsL n k).map (fun r => T.countP (fun p => decide (mv p r = r)))).sum = ((rowsL n k).map (fun r => T.countP (fun p => decide (mv p r = lst T r)))).sum := by
    refine sum_same fun r hr => ?_
    have hR := (mem_rowsL.1 hr).1
    obtain ⟨c, hc, e⟩ := (lst_least hT hR).orb
    have hcT := (hT.mem c).2 hc
    have hC := hT.ok hl hcT
    rw [countP_map_perm (hT.map_mul hl hcT) (fun p => decide (mv p r = lst T r))]
    refine countP_same fun p hp => ?_
    have hP := hT.ok hl hp
    rw [decide_eq_decide, mv_mul r hP.2 hC.2 (hC.1.trans hP.1.symm), e]
    exact ⟨fun h => by rw [h], fun h => mv_inj hC.2 (by rw [length_mv, hP.1, hC.1]) (hR.trans hC.1.symm) h⟩
  have e3 : ((rowsL n k).map (fun r => T.countP (fun p => decide (mv p r = lst T r)))).sum = (T.map (fun p => (rowsL n k).countP (fun r => decide (mv p r = lst T r)))).sum := (sum_turned (fun p r => decide (mv p r = lst T r)) T (rowsL n k)).symm
  have e4 : (T.map (fun p => (rowsL n k).countP (fun r => decide (mv p r = lst T r)))).sum = (T.map (fun _ => leastN n k T)).sum := by
    refine sum_same fun p hp => ?_
    have hP := hT.ok hl hp
    unfold leastN
    rw [countP_map_perm (rowsL_mv (k := k) hP.2 hP.1) (fun r => decide (r = lst T r))]
    refine countP_same fun r hr => ?_
    rw [lst_mv hT hl (mem_rowsL.1 hr).1 hp]
  rw [e1, e2, e3, e4, sum_const]
end

/-- Each order of up to four numbers, of up to three colours: reckoned. -/
theorem fix_all : ∀ n, n < 5 → ∀ k, k < 4 → ∀ j, j < fact n → fixRw n k (atL n j) = k ^ cyc (atL n j) := by decide +kernel

theorem colN_least {n k : Nat} {l T : List (List Int)} (hT : GroupOf n l T) (hl : Orders n l) (hn : n < 5) (hk : k < 4) : colN T k = leastN n k T := by
  have h := burnside hT hl k
  have e : (T.map (fixRw n k)).sum = colS T k := by
    unfold colS
    refine sum_same fun p hp => ?_
    have hP := hT.ok hl hp
    have h1 := rk_lt p
    rw [hP.1] at h1
    have h2 := fix_all n hn k hk (rk p) h1
    have h3 := atL_rk hP.2
    rw [hP.1] at h3
    rwa [h3] at h2
  unfold colN
  rw [← e, h]
  exact Nat.mul_div_cancel_left _ hT.pos

end Go.Proofs.Ytbcjfiobggggjaa
