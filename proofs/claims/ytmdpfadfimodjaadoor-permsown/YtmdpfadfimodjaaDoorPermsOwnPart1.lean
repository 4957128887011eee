/-
  Texts joined: Clone, RatM, OddM, RatA, RatB, OddA, OddK, TabM, TabR, TabK.
-/
import Derived.Test.YtmdpfadfimodjaaDoorPermsOwnPart0
import Derived.Lib.SliceRun
import Derived.Deep.OwnRows
import Derived.Deep.AppendLies

/-
  slices.Clone at []int: the same numbers in new memory.
-/
namespace Go.Proofs.YtmdpfadfimodjaaDoor
open Go.RowKit

theorem cells_of_ints {w : World} {ad : Addr} {n : Nat} {xs : List Int} (h : Ints w (some ad) n xs) : ∀ j u, (xs.map (Value.int .i64))[j]? = some u → w.cell? (ad.add j) = some u := by
  intro j u hu
  have hj : j < xs.length := by
    rcases Nat.lt_or_ge j xs.length with hlt | hge
    · exact hlt
    · rw [List.getElem?_eq_none (by simpa using hge)] at hu
      cases hu
  obtain ⟨b, o, e, _, hc⟩ := h.row (by rw [← h.len]; omega)
  injection e with e
  subst e
  have ha : (⟨b, o, none⟩ : Addr).add j = ⟨b, o + j, none⟩ := by unfold Addr.add; split <;> simp_all
  rw [ha, hc j (by rw [← h.len]; exact hj)]
  rw [List.getElem?_map, List.getElem?_eq_getElem hj] at hu
  rw [List.getD_eq_getElem?_getD, List.getElem?_eq_getElem hj]
  exact hu

/-- 'out = append(out, xs...)', out the call's own, xs not nil. -/
theorem wpList_appNB {ops : Array Oper} {rest : List Oper} {o : Oper} {a : Act} {Q : Exit → Act → World → Prop} (W : World) (hgd : o.guard = none) (s x : Operand)
    (ho : o.op = .call { callee := .builtin .append, args := #[s, x], argTypes := #[22, 22] })
    (base : Nat) (v : Value) (xs : List Int) (hs : a.eval s = v) (ad : Addr) (n c : Nat) (ys : List Int) (hx : a.eval x = .slice (some ad) n c) (hown : OwnInts W base v xs) (hI : Ints W (some ad) n ys)
    (hlen : xs.length + n ≤ 17592186044416) (hbase : base ≤ W.heap.size)
    (h : ∀ v' w', OwnInts w' base v' (xs ++ ys) → W.grownBy w' v.ownBlock → Below base W w' → wpList Tryd.prog ops Q rest (a.put o.dst v') w') :
    wpList Tryd.prog ops Q (o :: rest) a W := by
  obtain ⟨i0, hi, hz0, hz1, hz2⟩ := info_parts infoInt
  refine wpList_append_own _ hgd s x 22 ho base 3 i0 (.int .i64 0) 1 8 Tryd.underlying22 hi hz0 hz1 hz2 rfl (by decide) v xs.length (xs.map (Value.int .i64)) hs hown
    ad n c (ys.map (Value.int .i64)) hx (by rw [List.length_map, hI.len, Nat.mul_one]) (cells_of_ints hI) (by intro u hu; obtain ⟨y, _, rfl⟩ := List.mem_map.1 hu; rfl) (by unfold maxLen; omega) (by omega) hbase ?_
  intro v' w' h1 h2 _
  refine h v' w' ?_ h2 ?_
  · unfold OwnInts
    rw [List.length_append, List.map_append, hI.len]
    exact h1
  · refine ⟨h2.os, h2.tape, h2.output, h2.size, fun k hk => h2.block k (by omega) (fun e => ?_)⟩
    have := World.ownsRow.lt hown k e.symm
    omega

theorem wpList_appN {ops : Array Oper} {rest : List Oper} {o : Oper} {a : Act} {Q : Exit → Act → World → Prop} (W : World) (hgd : o.guard = none) (s x : Operand)
    (ho : o.op = .call { callee := .builtin .append, args := #[s, x], argTypes := #[22, 22] })
    (base : Nat) (v : Value) (xs : List Int) (hs : a.eval s = v) (ad : Addr) (n c : Nat) (ys : List Int) (hx : a.eval x = .slice (some ad) n c) (hown : OwnInts W base v xs) (hI : Ints W (some ad) n ys)
    (hlen : xs.length + n ≤ 1000000000000) (hbase : base ≤ W.heap.size)
    (h : ∀ v' w', OwnInts w' base v' (xs ++ ys) → W.grownBy w' v.ownBlock → Below base W w' → wpList Tryd.prog ops Q rest (a.put o.dst v') w') :
    wpList Tryd.prog ops Q (o :: rest) a W := wpList_appNB W hgd s x ho base v xs hs ad n c ys hx hown hI (Nat.le_trans hlen (by omega)) hbase h

set_option maxHeartbeats 800000 in
theorem clone_big (A : Option Addr) (n c : Nat) (xs : List Int) (w : World) (h : Ints w A n xs) (hn : n ≤ 17592186044416) :
    Calls Tryd.prog 7 #[.slice A n c] w (RetOwn w xs) := by
  rcases A with _ | ad
  · have hn0 : n = 0 := by
      rcases Nat.eq_zero_or_pos n with h0 | h0
      · exact h0
      · obtain ⟨b, o, e, _⟩ := h.row h0
        cases e
    subst hn0
    have hxs : xs = [] := List.eq_nil_of_length_eq_zero h.len
    subst hxs
    have heq := fun W => Lib.run_eql_slice_nil (P := Tryd.prog) W 22 3 none 0 c 0 0 Tryd.underlying22
    simp only [Option.isNone_none] at heq
    go_enter Tryd.func7, Tryd.ntmps7
    go_wp2
    go_ret
    exact ⟨_, rfl, OwnInts.nil _ _, Below.refl _ _⟩
  · have heq := fun W => Lib.run_eql_slice_nil (P := Tryd.prog) W 22 3 (some ad) n c 0 0 Tryd.underlying22
    simp only [Option.isNone_some] at heq
    go_enter Tryd.func7, Tryd.ntmps7
    go_wp2_with (at_builtin; refine wpList_appNB _ rfl (.tmp 5) (.tmp 6) rfl w.heap.size _ [] rfl ad n c xs rfl (World.ownsRow_made w #[] 0 (Nat.le_refl _) (Nat.zero_le _) rfl) (h.keep (below_alloc _ _)) (by simp; omega) (by simp) ?_)
    intro v' w1 hown1 _ hbel1
    have HO1 := hid hown1
    have HB1 := hid ((below_alloc w _).trans hbel1)
    clear hown1 hbel1 heq
    go_wp2
    go_ret
    exact ⟨_, rfl, HO1.out, HB1.out⟩

theorem clone_any (A : Option Addr) (n c : Nat) (xs : List Int) (w : World) (h : Ints w A n xs) (hn : n ≤ 1000000) :
    Calls Tryd.prog 7 #[.slice A n c] w (RetOwn w xs) := clone_big A n c xs w h (by omega)

theorem below_own {B base : Nat} {a b c : World} {v : Value} {xs : List Int} (h : Below B a b) (ho : OwnInts b base v xs) (hB : B ≤ base) (hBa : B ≤ a.heap.size) (k : b.grownBy c v.ownBlock) : Below B a c :=
  h.trans ⟨k.os, k.tape, k.output, k.size, fun i hi => k.block i (Nat.lt_of_lt_of_le hi (Nat.le_trans hBa h.size)) (fun e => by have := World.ownsRow.lt ho i e.symm; omega)⟩

end Go.Proofs.YtmdpfadfimodjaaDoor

/-
  Ratios as plain numbers: lowest terms, what is too great, sums and products (over Lean's own Rat).
-/
namespace Go.Proofs.YtmdpfadfimodjaaDoor

/-- A ratio that the program can hold. -/
def RFits (r : Rat) : Prop := -1000000000 ≤ r.num ∧ r.num ≤ 1000000000 ∧ (r.den : Int) ≤ 1000000000
instance (r : Rat) : Decidable (RFits r) := by unfold RFits; infer_instance

/-- The error of what is handed in. -/
def ratioErr (P Q : Int) : Int := if Q < 1 ∨ 1000000000 < Q ∨ P < -1000000000 ∨ 1000000000 < P then 1 else if Int.gcd P Q = 1 then 0 else 3

theorem ratioErr_zero {P Q : Int} (h : ratioErr P Q = 0) : ∃ r : Rat, RFits r ∧ P = r.num ∧ Q = (r.den : Int) := by
  unfold ratioErr at h
  split at h
  · omega
  · rename_i hb
    split at h
    · rename_i hg
      obtain ⟨q, rfl⟩ : ∃ q : Nat, Q = q := ⟨Q.toNat, by omega⟩
      have hg' : Nat.Coprime P.natAbs q := by simpa [Nat.Coprime, Int.gcd] using hg
      exact ⟨⟨P, q, by omega, hg'⟩, ⟨by dsimp only; omega, by dsimp only; omega, by dsimp only; omega⟩, rfl, rfl⟩
    · omega

theorem ratioErr_of {r : Rat} (h : RFits r) : ratioErr r.num (r.den : Int) = 0 := by
  obtain ⟨h1, h2, h3⟩ := h
  have hd := r.den_pos
  have hr := r.reduced
  unfold ratioErr
  rw [if_neg (by omega), if_pos]
  simpa [Nat.Coprime, Int.gcd] using hr

theorem ratioErr_cases (P Q : Int) : ratioErr P Q = 0 ∨ ratioErr P Q = 1 ∨ ratioErr P Q = 3 := by
  unfold ratioErr
  split
  · exact .inr (.inl rfl)
  · split
    · exact .inl rfl
    · exact .inr (.inr rfl)

/-- p by q, p and q over what divides both, the sign above. -/
theorem low_num (p q : Int) (hq : q ≠ 0) : p.tdiv (if q < 0 then -(Int.gcd p q : Int) else (Int.gcd p q : Int)) = (Rat.divInt p q).num := by
  have hg : ((Int.gcd p q : Nat) : Int) ∣ p := Int.gcd_dvd_left ..
  rw [Rat.num_divInt, Int.gcd_comm q p]
  by_cases h : q < 0
  · rw [if_pos h, Int.sign_eq_neg_one_of_neg h, Int.tdiv_neg, Int.tdiv_eq_ediv_of_dvd hg, Int.neg_one_mul, Int.neg_ediv_of_dvd hg]
  · rw [if_neg h, Int.sign_eq_one_of_pos (by omega), Int.tdiv_eq_ediv_of_dvd hg, Int.one_mul]

theorem low_den (p q : Int) (hq : q ≠ 0) : q.tdiv (if q < 0 then -(Int.gcd p q : Int) else (Int.gcd p q : Int)) = ((Rat.divInt p q).den : Int) := by
  have hg : ((Int.gcd p q : Nat) : Int) ∣ q := Int.gcd_dvd_right ..
  rw [Rat.den_divInt, if_neg hq, Int.gcd_comm q p, Int.natCast_ediv]
  by_cases h : q < 0
  · rw [if_pos h, Int.tdiv_neg, Int.tdiv_eq_ediv_of_dvd hg, ← Int.neg_ediv_of_dvd hg]
    congr 1
    omega
  · rw [if_neg h, Int.tdiv_eq_ediv_of_dvd hg]
    congr 1
    omega

theorem num_le (p q : Int) (hq : q ≠ 0) : (Rat.divInt p q).num.natAbs ≤ p.natAbs := by
  rw [← low_num p q hq]
  exact Int.natAbs_tdiv_le_natAbs _ _

theorem den_le (p q : Int) (hq : q ≠ 0) : (Rat.divInt p q).den ≤ q.natAbs := by
  have h := Int.natAbs_tdiv_le_natAbs q (if q < 0 then -(Int.gcd p q : Int) else (Int.gcd p q : Int))
  rw [low_den p q hq] at h
  simpa using h

theorem add_eq (x y : Rat) : Rat.divInt (x.num * (y.den : Int) + y.num * (x.den : Int)) ((x.den : Int) * (y.den : Int)) = x + y := by
  rw [Rat.add_def', ← Rat.divInt_ofNat, Int.natCast_mul]

theorem add_eq' (x y : Rat) : Rat.divInt (x.num * (y.den : Int) + (x.den : Int) * y.num) ((x.den : Int) * (y.den : Int)) = x + y := by
  rw [Int.mul_comm (x.den : Int) y.num, add_eq]

theorem mul_eq (x y : Rat) : Rat.divInt (x.num * y.num) ((x.den : Int) * (y.den : Int)) = x * y := by
  rw [Rat.mul_def', ← Rat.divInt_ofNat, Int.natCast_mul]

theorem div_eq (x y : Rat) : Rat.divInt (x.num * (y.den : Int)) ((x.den : Int) * y.num) = x / y := by
  rw [Rat.div_def, Rat.inv_def, ← Rat.divInt_mul_divInt, Rat.num_divInt_den]

theorem lt_eq (x y : Rat) : decide (x.num * (y.den : Int) < y.num * (x.den : Int)) = decide (x < y) := by
  simp only [Rat.lt_iff]

theorem den_ne (x y : Rat) : (x.den : Int) * (y.den : Int) ≠ 0 := by
  have h1 := x.den_pos
  have h2 := y.den_pos
  exact Int.mul_ne_zero (by omega) (by omega)

/-- A product of two numbers within bounds. -/
theorem mul_bd {a b A B : Int} (ha : -A ≤ a) (ha' : a ≤ A) (hb : -B ≤ b) (hb' : b ≤ B) : -(A * B) ≤ a * b ∧ a * b ≤ A * B := by
  have h1 : a.natAbs ≤ A.toNat := by omega
  have h2 : b.natAbs ≤ B.toNat := by omega
  have h3 : (a * b).natAbs ≤ (A * B).toNat := by
    rw [Int.natAbs_mul]
    have := Nat.mul_le_mul h1 h2
    rwa [show (A * B).toNat = A.toNat * B.toNat from Int.toNat_mul (by omega) (by omega)]
  have hA : 0 ≤ A * B := Int.mul_nonneg (by omega) (by omega)
  omega

theorem mul_bd18 {a b : Int} (ha : -1000000000 ≤ a) (ha' : a ≤ 1000000000) (hb : -1000000000 ≤ b) (hb' : b ≤ 1000000000) : -1000000000000000000 ≤ a * b ∧ a * b ≤ 1000000000000000000 :=
  mul_bd ha ha' hb hb'

theorem gcd_tmod (a b : Int) : Int.gcd b (a.tmod b) = Int.gcd a b := by
  rw [Int.gcd_comm a b]
  have h : a = b * a.tdiv b + a.tmod b := (Int.mul_tdiv_add_tmod a b).symm
  conv => rhs; rw [h, Int.add_comm]
  exact (Int.gcd_add_mul_left_right ..).symm

theorem tmod_lt_natAbs {a b : Int} (hb : b ≠ 0) : (a.tmod b).natAbs < b.natAbs := by
  rw [Int.natAbs_tmod]
  exact Nat.mod_lt _ (by omega)

end Go.Proofs.YtmdpfadfimodjaaDoor

/-
  Distributions: plain mathematics. A distribution is a list of pairs (value, weight).
-/
namespace Go.Proofs.YtmdpfadfimodjaaDoor

def oneOk (v w : Int) : Bool := decide (-20 ≤ v ∧ v ≤ 20 ∧ 1 ≤ w ∧ w ≤ 100)
/-- The error of a distribution. -/
def oddErr (vs ws : List Int) : Int :=
  if vs.length < 1 ∨ 12 < vs.length then 2 else if ws.length ≠ vs.length then 3
  else if (List.range vs.length).all (fun j => oneOk (vs.getD j 0) (ws.getD j 0)) then 0 else 1
theorem oddErr_large {vs ws : List Int} (h : vs.length < 1 ∨ 12 < vs.length) : oddErr vs ws = 2 := if_pos h
theorem oddErr_form {vs ws : List Int} (h : 1 ≤ vs.length) (h' : vs.length ≤ 12) (hw : ws.length ≠ vs.length) : oddErr vs ws = 3 := by
  unfold oddErr
  rw [if_neg (by omega), if_pos hw]
theorem oddErr_ok {vs ws : List Int} (h : 1 ≤ vs.length) (h' : vs.length ≤ 12) (hw : ws.length = vs.length) (ha : ∀ j, j < vs.length → oneOk (vs.getD j 0) (ws.getD j 0) = true) : oddErr vs ws = 0 := by
  unfold oddErr
  rw [if_neg (by omega), if_neg (by omega), if_pos]
  rw [List.all_eq_true]
  intro j hj
  exact ha j (by simpa using hj)
theorem oddErr_arg {vs ws : List Int} (h : 1 ≤ vs.length) (h' : vs.length ≤ 12) (hw : ws.length = vs.length) {j : Nat} (hj : j < vs.length) (ha : oneOk (vs.getD j 0) (ws.getD j 0) = false) : oddErr vs ws = 1 := by
  unfold oddErr
  rw [if_neg (by omega), if_neg (by omega), if_neg]
  intro hall
  rw [List.all_eq_true] at hall
  have := hall j (by simpa using hj)
  rw [ha] at this
  cases this

def vsL (l : List (Int × Int)) : List Int := l.map Prod.fst
def wsL (l : List (Int × Int)) : List Int := l.map Prod.snd
theorem vsL_len (l : List (Int × Int)) : (vsL l).length = l.length := by simp [vsL]
theorem wsL_len (l : List (Int × Int)) : (wsL l).length = l.length := by simp [wsL]
theorem vsL_at (l : List (Int × Int)) (j : Nat) : (vsL l).getD j 0 = (l.getD j (0, 0)).1 := by
  simp only [vsL, List.getD_eq_getElem?_getD, List.getElem?_map]
  cases l[j]? <;> rfl
theorem wsL_at (l : List (Int × Int)) (j : Nat) : (wsL l).getD j 0 = (l.getD j (0, 0)).2 := by
  simp only [wsL, List.getD_eq_getElem?_getD, List.getElem?_map]
  cases l[j]? <;> rfl

/-- Numbers within their bounds, not too many. -/
def Fine (l : List (Int × Int)) : Prop := l.length ≤ 12 ∧ ∀ p ∈ l, -20 ≤ p.1 ∧ p.1 ≤ 20 ∧ 1 ≤ p.2 ∧ p.2 ≤ 100
def GoodD (l : List (Int × Int)) : Prop := 1 ≤ l.length ∧ Fine l
theorem Fine.at {l : List (Int × Int)} (h : Fine l) {j : Nat} (hj : j < l.length) : -20 ≤ (l.getD j (0, 0)).1 ∧ (l.getD j (0, 0)).1 ≤ 20 ∧ 1 ≤ (l.getD j (0, 0)).2 ∧ (l.getD j (0, 0)).2 ≤ 100 := by
  have e : l.getD j (0, 0) = l[j] := by simp [List.getD_eq_getElem?_getD, hj]
  rw [e]
  exact h.2 _ (List.getElem_mem hj)
theorem Fine.take {l : List (Int × Int)} (h : Fine l) (k : Nat) : Fine (l.take k) :=
  ⟨by rw [List.length_take]; have := h.1; omega, fun p hp => h.2 p (List.mem_of_mem_take hp)⟩
theorem Fine.tail {p : Int × Int} {l : List (Int × Int)} (h : Fine (p :: l)) : Fine l :=
  ⟨by have := h.1; simp at this; omega, fun q hq => h.2 q (List.mem_cons_of_mem _ hq)⟩

theorem zip_fst : ∀ (vs ws : List Int), ws.length = vs.length → vsL (vs.zip ws) = vs ∧ wsL (vs.zip ws) = ws
  | [], [], _ => ⟨rfl, rfl⟩
  | [], _ :: _, h => by simp at h
  | _ :: _, [], h => by simp at h
  | v :: vs, w :: ws, h => by
    obtain ⟨a, b⟩ := zip_fst vs ws (by simpa using h)
    constructor
    · show v :: vsL (vs.zip ws) = _
      rw [a]
    · show w :: wsL (vs.zip ws) = _
      rw [b]

theorem oddErr_zero {vs ws : List Int} (h : oddErr vs ws = 0) : ∃ l, GoodD l ∧ vs = vsL l ∧ ws = wsL l := by
  unfold oddErr at h
  split at h
  · omega
  · split at h
    · omega
    · rename_i h1 h2
      have h2 : ws.length = vs.length := by omega
      split at h
      · rename_i h3
        obtain ⟨a, b⟩ := zip_fst vs ws h2
        refine ⟨vs.zip ws, ⟨by simp; omega, by simp; omega, fun p hp => ?_⟩, a.symm, b.symm⟩
        rw [List.all_eq_true] at h3
        obtain ⟨j, hj, rfl⟩ := List.getElem_of_mem hp
        have hj' : j < vs.length := by simp at hj; omega
        have h4 := h3 j (by simpa using hj')
        unfold oneOk at h4
        have h4 := of_decide_eq_true h4
        have hw' : j < ws.length := by omega
        simpa [List.getD_eq_getElem?_getD, hj', hw'] using h4
      · omega
theorem oddErr_of {l : List (Int × Int)} (h : GoodD l) : oddErr (vsL l) (wsL l) = 0 := by
  have := h.2.1
  refine oddErr_ok (by rw [vsL_len]; exact h.1) (by rw [vsL_len]; omega) (by rw [vsL_len, wsL_len]) fun j hj => ?_
  rw [vsL_at, wsL_at]
  have := h.2.at (j := j) (by rwa [vsL_len] at hj)
  unfold oneOk
  exact decide_eq_true this
theorem oddErr_cases (vs ws : List Int) : oddErr vs ws = 0 ∨ oddErr vs ws = 1 ∨ oddErr vs ws = 2 ∨ oddErr vs ws = 3 := by
  unfold oddErr
  split
  · exact .inr (.inr (.inl rfl))
  · split
    · exact .inr (.inr (.inr rfl))
    · split
      · exact .inl rfl
      · exact .inr (.inl rfl)

/-- The weights times what is made of the values. -/
def E (f : Int → Int) : List (Int × Int) → Int
  | [] => 0
  | p :: l => p.2 * f p.1 + E f l
def one (_ : Int) : Int := 1
def idI (x : Int) : Int := x
def sq (x : Int) : Int := x * x
def geI (least x : Int) : Int := if least ≤ x then 1 else 0

theorem E_append (f : Int → Int) : ∀ (l l' : List (Int × Int)), E f (l ++ l') = E f l + E f l'
  | [], l' => by simp [E]
  | p :: l, l' => by
    show _ + E f (l ++ l') = _ + E f l + _
    rw [E_append f l l', Int.add_assoc]
theorem E_take (f : Int → Int) (l : List (Int × Int)) {k : Nat} (hk : k < l.length) : E f (l.take (k + 1)) = E f (l.take k) + (l.getD k (0, 0)).2 * f (l.getD k (0, 0)).1 := by
  have e : l.getD k (0, 0) = l[k] := by simp [List.getD_eq_getElem?_getD, hk]
  rw [List.take_succ_eq_append_getElem hk, E_append, e]
  simp [E]
theorem E_bd (f : Int → Int) (lo hi : Int) (h0 : lo ≤ 0) (h1 : 0 ≤ hi) : ∀ (l : List (Int × Int)), Fine l → (∀ p ∈ l, lo ≤ f p.1 ∧ f p.1 ≤ hi) → 1200 * lo ≤ E f l ∧ E f l ≤ 1200 * hi := by
  have key : ∀ (l : List (Int × Int)), Fine l → (∀ p ∈ l, lo ≤ f p.1 ∧ f p.1 ≤ hi) → (100 * l.length : Nat) * lo ≤ E f l ∧ E f l ≤ (100 * l.length : Nat) * hi := by
    intro l
    induction l with
    | nil => intro _ _; simp [E]
    | cons p l ih =>
      intro hF hp
      obtain ⟨i1, i2⟩ := ih hF.tail (fun q hq => hp q (List.mem_cons_of_mem _ hq))
      obtain ⟨a, b, c, d⟩ := hF.2 p List.mem_cons_self
      obtain ⟨e1, e2⟩ := hp p List.mem_cons_self
      have m1 : 100 * lo ≤ p.2 * f p.1 := by
        rcases Int.le_total 0 (f p.1) with h | h
        · have := Int.mul_nonneg (show 0 ≤ p.2 by omega) h
          omega
        · have := Int.mul_le_mul_of_nonneg_left (show -(f p.1) ≤ -lo by omega) (show (0 : Int) ≤ p.2 by omega)
          have h3 := Int.mul_le_mul_of_nonneg_right (show p.2 ≤ 100 by omega) (show (0 : Int) ≤ -lo by omega)
          simp only [Int.mul_neg] at this h3
          omega
      have m2 : p.2 * f p.1 ≤ 100 * hi := by
        rcases Int.le_total 0 (f p.1) with h | h
        · have := Int.mul_le_mul_of_nonneg_right (show p.2 ≤ 100 by omega) h
          omega
        · have := Int.mul_nonneg (show 0 ≤ p.2 by omega) (show 0 ≤ -(f p.1) by omega)
          simp only [Int.mul_neg] at this
          omega
      have el : ((100 * (p :: l).length : Nat) : Int) = 100 + (100 * l.length : Nat) := by simp; omega
      rw [el, Int.add_mul, Int.add_mul]
      show _ ≤ p.2 * f p.1 + E f l ∧ p.2 * f p.1 + E f l ≤ _
      omega
  intro l hF hp
  obtain ⟨a, b⟩ := key l hF hp
  have hl : ((100 * l.length : Nat) : Int) ≤ 1200 := by have := hF.1; omega
  have c1 := Int.mul_le_mul_of_nonneg_right hl (show (0 : Int) ≤ -lo by omega)
  have c2 := Int.mul_le_mul_of_nonneg_right hl h1
  simp only [Int.mul_neg] at c1
  omega

theorem E_one_bd {l : List (Int × Int)} (h : Fine l) : 0 ≤ E one l ∧ E one l ≤ 1200 := by
  have := E_bd one 0 1 (by omega) (by omega) l h (fun p _ => by simp [one])
  omega
theorem E_one_len : ∀ {l : List (Int × Int)}, Fine l → (l.length : Int) ≤ E one l
  | [], _ => by simp [E]
  | p :: l, h => by
    have := E_one_len h.tail
    have := h.2 p List.mem_cons_self
    show _ ≤ p.2 * 1 + E one l
    simp
    omega
theorem E_one_pos {l : List (Int × Int)} (h : GoodD l) : 1 ≤ E one l := by
  have h1 := E_one_len h.2
  have h2 := h.1
  omega
theorem E_id_bd {l : List (Int × Int)} (h : Fine l) : -24000 ≤ E idI l ∧ E idI l ≤ 24000 := by
  have := E_bd idI (-20) 20 (by omega) (by omega) l h (fun p hp => by have := h.2 p hp; unfold idI; omega)
  omega
theorem sq_bd {x : Int} (h : -20 ≤ x) (h' : x ≤ 20) : 0 ≤ x * x ∧ x * x ≤ 400 := by
  have := mul_bd (A := 20) (B := 20) h h' h h'
  have : 0 ≤ x * x := by
    rcases Int.le_total 0 x with h | h
    · exact Int.mul_nonneg h h
    · have := Int.mul_nonneg (show 0 ≤ -x by omega) (show 0 ≤ -x by omega)
      rwa [Int.neg_mul_neg] at this
  omega
theorem E_sq_bd {l : List (Int × Int)} (h : Fine l) : 0 ≤ E sq l ∧ E sq l ≤ 480000 := by
  have := E_bd sq 0 400 (by omega) (by omega) l h (fun p hp => by have := h.2 p hp; exact sq_bd (by omega) (by omega))
  omega
theorem ge_bd (least x : Int) : 0 ≤ geI least x ∧ geI least x ≤ 1 := by
  unfold geI
  split <;> omega
theorem E_ge_bd (least : Int) {l : List (Int × Int)} (h : Fine l) : 0 ≤ E (geI least) l ∧ E (geI least) l ≤ 1200 := by
  have := E_bd (geI least) 0 1 (by omega) (by omega) l h (fun p _ => ge_bd _ _)
  omega
theorem E_le (f g : Int → Int) : ∀ {l : List (Int × Int)}, Fine l → (∀ p ∈ l, f p.1 ≤ g p.1) → E f l ≤ E g l
  | [], _, _ => Int.le_refl _
  | p :: l, h, hp => by
    have h1 := E_le f g h.tail (fun q hq => hp q (List.mem_cons_of_mem _ hq))
    have h2 := h.2 p List.mem_cons_self
    have h3 := Int.mul_le_mul_of_nonneg_left (hp p List.mem_cons_self) (show (0 : Int) ≤ p.2 by omega)
    show p.2 * f p.1 + E f l ≤ p.2 * g p.1 + E g l
    omega
theorem E_congr (f g : Int → Int) : ∀ {l : List (Int × Int)}, (∀ p ∈ l, f p.1 = g p.1) → E f l = E g l
  | [], _ => rfl
  | p :: l, hp => by
    show p.2 * f p.1 + E f l = p.2 * g p.1 + E g l
    rw [hp p List.mem_cons_self, E_congr f g (fun q hq => hp q (List.mem_cons_of_mem _ hq))]
theorem E_add (f g : Int → Int) : ∀ (l : List (Int × Int)), E (fun x => f x + g x) l = E f l + E g l
  | [] => rfl
  | p :: l => by
    show p.2 * (f p.1 + g p.1) + E _ l = (p.2 * f p.1 + E f l) + (p.2 * g p.1 + E g l)
    rw [E_add f g l, Int.mul_add]
    omega
theorem E_mul (c : Int) (f : Int → Int) : ∀ (l : List (Int × Int)), E (fun x => c * f x) l = c * E f l
  | [] => by simp [E]
  | p :: l => by
    show p.2 * (c * f p.1) + E _ l = c * (p.2 * f p.1 + E f l)
    rw [E_mul c f l, Int.mul_add, ← Int.mul_assoc, ← Int.mul_assoc, Int.mul_comm p.2 c]
/-- Squares of what is off by b, of a times the values. -/
theorem E_off (a b : Int) : ∀ (l : List (Int × Int)), E (fun x => (a * x - b) * (a * x - b)) l = a * a * E sq l - 2 * a * b * E idI l + b * b * E one l
  | [] => by simp [E]
  | p :: l => by
    show p.2 * ((a * p.1 - b) * (a * p.1 - b)) + E _ l = a * a * (p.2 * (p.1 * p.1) + E sq l) - 2 * a * b * (p.2 * p.1 + E idI l) + b * b * (p.2 * 1 + E one l)
    rw [E_off a b l]
    grind

/-- Both together: all values of the one with all of the other. -/
def bothL (l l' : List (Int × Int)) : List (Int × Int) := l.flatMap fun p => l'.map fun q => (p.1 + q.1, p.2 * q.2)
theorem E_row (f : Int → Int) (p : Int × Int) : ∀ (l' : List (Int × Int)), E f (l'.map fun q => (p.1 + q.1, p.2 * q.2)) = p.2 * E (fun x => f (p.1 + x)) l'
  | [] => by simp [E]
  | q :: l' => by
    show (p.2 * q.2) * f (p.1 + q.1) + E f _ = p.2 * (q.2 * f (p.1 + q.1) + E _ l')
    rw [E_row f p l', Int.mul_add, Int.mul_assoc]
theorem E_both_one (l' : List (Int × Int)) : ∀ (l : List (Int × Int)), E one (bothL l l') = E one l * E one l'
  | [] => by simp [bothL, E]
  | p :: l => by
    show E one ((l'.map fun q => (p.1 + q.1, p.2 * q.2)) ++ bothL l l') = (p.2 * 1 + E one l) * E one l'
    rw [E_append, E_both_one l' l, E_row]
    have : E (fun x => one (p.1 + x)) l' = E one l' := rfl
    rw [this]
    grind
theorem E_both_id (l' : List (Int × Int)) : ∀ (l : List (Int × Int)), E idI (bothL l l') = E idI l * E one l' + E one l * E idI l'
  | [] => by simp [bothL, E]
  | p :: l => by
    show E idI ((l'.map fun q => (p.1 + q.1, p.2 * q.2)) ++ bothL l l') = (p.2 * p.1 + E idI l) * E one l' + (p.2 * 1 + E one l) * E idI l'
    rw [E_append, E_both_id l' l, E_row]
    have : E (fun x => idI (p.1 + x)) l' = p.1 * E one l' + E idI l' := by
      rw [← E_mul, ← E_add]
      exact E_congr _ _ (fun q _ => by simp [idI, one])
    rw [this]
    grind
theorem E_both_sq (l' : List (Int × Int)) : ∀ (l : List (Int × Int)), E sq (bothL l l') = E sq l * E one l' + 2 * E idI l * E idI l' + E one l * E sq l'
  | [] => by simp [bothL, E]
  | p :: l => by
    show E sq ((l'.map fun q => (p.1 + q.1, p.2 * q.2)) ++ bothL l l') = (p.2 * (p.1 * p.1) + E sq l) * E one l' + 2 * (p.2 * p.1 + E idI l) * E idI l' + (p.2 * 1 + E one l) * E sq l'
    rw [E_append, E_both_sq l' l, E_row]
    have : E (fun x => sq (p.1 + x)) l' = p.1 * p.1 * E one l' + 2 * p.1 * E idI l' + E sq l' := by
      rw [← E_mul, ← E_mul, ← E_add, ← E_add]
      exact E_congr _ _ (fun q _ => by simp only [idI, one, sq]; grind)
    rw [this]
    grind

/-- The rows of what both together gives, j of row i. -/
def partL (l l' : List (Int × Int)) (i j : Nat) : List (Int × Int) := bothL (l.take i) l' ++ (l'.take j).map fun q => ((l.getD i (0, 0)).1 + q.1, (l.getD i (0, 0)).2 * q.2)
theorem partL_zero (l l' : List (Int × Int)) : partL l l' 0 0 = [] := by simp [partL, bothL]
theorem partL_step (l l' : List (Int × Int)) (i : Nat) {j : Nat} (hj : j < l'.length) : partL l l' i (j + 1) = partL l l' i j ++ [((l.getD i (0, 0)).1 + (l'.getD j (0, 0)).1, (l.getD i (0, 0)).2 * (l'.getD j (0, 0)).2)] := by
  have e : l'.getD j (0, 0) = l'[j] := by simp [List.getD_eq_getElem?_getD, hj]
  unfold partL
  rw [List.take_succ_eq_append_getElem hj, List.map_append, e, List.append_assoc]
  rfl
theorem partL_row (l l' : List (Int × Int)) {i : Nat} (hi : i < l.length) : partL l l' i l'.length = partL l l' (i + 1) 0 := by
  have e : l.getD i (0, 0) = l[i] := by simp [List.getD_eq_getElem?_getD, hi]
  unfold partL
  rw [List.take_succ_eq_append_getElem hi, List.take_length, e]
  unfold bothL
  rw [List.flatMap_append, List.flatMap_cons, List.flatMap_nil, List.take_zero, List.map_nil, List.append_nil, List.append_nil]
theorem partL_all (l l' : List (Int × Int)) : partL l l' l.length 0 = bothL l l' := by simp [partL]
theorem partL_len (l l' : List (Int × Int)) {i j : Nat} (hi : i ≤ l.length) (hj : j ≤ l'.length) : (partL l l' i j).length = i * l'.length + j := by
  have h1 : ∀ (l : List (Int × Int)), (bothL l l').length = l.length * l'.length := by
    intro l
    induction l with
    | nil => simp [bothL]
    | cons p l ih =>
      show ((l'.map _) ++ bothL l l').length = (l.length + 1) * l'.length
      rw [List.length_append, ih, List.length_map, Nat.add_mul]
      omega
  unfold partL
  rw [List.length_append, h1, List.length_map, List.length_take, List.length_take]
  simp [Nat.min_eq_left hi, Nat.min_eq_left hj]
theorem both_len (l l' : List (Int × Int)) : (bothL l l').length = l.length * l'.length := by
  rw [← partL_all, partL_len l l' (Nat.le_refl _) (Nat.zero_le _), Nat.add_zero]

/-- The mean, and how far from it. -/
def mean (l : List (Int × Int)) : Rat := Rat.divInt (E idI l) (E one l)
def var (l : List (Int × Int)) : Rat := Rat.divInt (E sq l) (E one l) + -(mean l * mean l)
theorem E_both_pos {l l' : List (Int × Int)} (h : GoodD l) (h' : GoodD l') : (E one l : Rat) ≠ 0 ∧ (E one l' : Rat) ≠ 0 := by
  have h1 := E_one_pos h
  have h2 := E_one_pos h'
  constructor
  · intro e
    have : E one l = 0 := by exact_mod_cast e
    omega
  · intro e
    have : E one l' = 0 := by exact_mod_cast e
    omega
theorem mean_both {l l' : List (Int × Int)} (h : GoodD l) (h' : GoodD l') : mean (bothL l l') = mean l + mean l' := by
  obtain ⟨h1, h2⟩ := E_both_pos h h'
  unfold mean
  rw [E_both_one, E_both_id]
  simp only [Rat.divInt_eq_div, Rat.intCast_add, Rat.intCast_mul]
  generalize (E one l : Rat) = n at *
  generalize (E one l' : Rat) = m at *
  grind
theorem var_both {l l' : List (Int × Int)} (h : GoodD l) (h' : GoodD l') : var (bothL l l') = var l + var l' := by
  obtain ⟨h1, h2⟩ := E_both_pos h h'
  unfold var
  rw [mean_both h h']
  unfold mean
  rw [E_both_one, E_both_sq]
  simp only [Rat.divInt_eq_div, Rat.intCast_add, Rat.intCast_mul]
  generalize (E one l : Rat) = n at *
  generalize (E one l' : Rat) = m at *
  grind
/-- The same by the squares of what is off (n times the values, less their sum). -/
theorem var_off (l : List (Int × Int)) : E (fun x => (E one l * x - E idI l) * (E one l * x - E idI l)) l = E one l * (E one l * E sq l - E idI l * E idI l) := by
  rw [E_off]
  generalize E one l = n
  generalize E idI l = s
  generalize E sq l = q
  grind
theorem var_eq {l : List (Int × Int)} (h : GoodD l) : var l = Rat.divInt (E one l * E sq l - E idI l * E idI l) (E one l * E one l) := by
  obtain ⟨h1, _⟩ := E_both_pos h h
  unfold var mean
  simp only [Rat.divInt_eq_div, Rat.intCast_sub, Rat.intCast_mul]
  generalize (E one l : Rat) = n at *
  grind
theorem var_cube {l : List (Int × Int)} (h : GoodD l) : var l = Rat.divInt (E (fun x => (E one l * x - E idI l) * (E one l * x - E idI l)) l) (E one l * E one l * E one l) := by
  obtain ⟨h1, _⟩ := E_both_pos h h
  rw [var_eq h, var_off l]
  simp only [Rat.divInt_eq_div, Rat.intCast_sub, Rat.intCast_mul]
  generalize (E one l : Rat) = n at *
  grind
end Go.Proofs.YtmdpfadfimodjaaDoor

/-
  ratio.inRange, divisor, Check, checkBoth, lowest.
-/
namespace Go.Proofs.YtmdpfadfimodjaaDoor
open Go.RowKit

theorem rret_bool {a b : Bool} (h : a = b) : Ending.returned (.bool a) = .returned (.bool b) := by rw [h]

/-- Within reach of the products. -/
def Wide (x : Int) : Prop := -4000000000000000000 ≤ x ∧ x ≤ 4000000000000000000

end Go.Proofs.YtmdpfadfimodjaaDoor

/-
  A ratio in a block; ratio.Check, checkBoth, lowest.
-/
namespace Go.Proofs.YtmdpfadfimodjaaDoor
open Go.RowKit

/-- Block b holds P by Q. -/
structure RatAt (w : World) (b : Nat) (P Q : Int) : Prop where
  p0 : w.cell? ⟨b, 0, none⟩ = some (.int .i64 P)
  p1 : w.cell? ⟨b, 1, none⟩ = some (.int .i64 Q)
  f0 : w.frozen? ⟨b, 0, none⟩ = false
  f1 : w.frozen? ⟨b, 1, none⟩ = false
  lt : b < w.heap.size

theorem rat_row {w : World} {b : Nat} {x y : Value} : (w.alloc (.cells #[x, y] b)).rowIs w.heap.size b 2 (fun j => if j = 0 then x else y) := by
  refine ⟨#[x, y], heap_alloc_new w _, rfl, fun i hi => ?_⟩
  match i, hi with
  | 0, _ => rfl
  | 1, _ => rfl
theorem RatAt.new (w : World) (t : TypeId) (P Q : Int) : RatAt (w.alloc (.cells #[.int .i64 P, .int .i64 Q] t)) w.heap.size P Q := by
  have hr := rat_row (w := w) (b := t) (x := .int .i64 P) (y := .int .i64 Q)
  exact ⟨(hr.cell (i := 0) (by omega)).trans rfl, (hr.cell (i := 1) (by omega)).trans rfl, hr.frozen 0, hr.frozen 1, hr.lt⟩
theorem RatAt.keep {w w' : World} {b : Nat} {P Q : Int} (h : RatAt w b P Q) (hb : Below w.heap.size w w') : RatAt w' b P Q := by
  have e := hb.block b h.lt
  exact ⟨(hb.cell (p := ⟨b, 0, none⟩) h.lt).trans h.p0, (hb.cell (p := ⟨b, 1, none⟩) h.lt).trans h.p1, (World.frozen?_of_block (a := ⟨b, 0, none⟩) e).trans h.f0, (World.frozen?_of_block (a := ⟨b, 1, none⟩) e).trans h.f1, Nat.lt_of_lt_of_le h.lt hb.size⟩
theorem RatAt.keep_alloc {w : World} {b : Nat} {P Q : Int} (h : RatAt w b P Q) (o : Obj) : RatAt (w.alloc o) b P Q := h.keep (below_alloc w o)

/-- What is said of a call that hands out an error. -/
def RetE (w : World) (er : Int) (e : Ending) (w' : World) : Prop := e = .returned (.int .i64 er) ∧ Below w.heap.size w w'

/-- The first error of two. -/
def bothErr (P Q P' Q' : Int) : Int := if ratioErr P Q ≠ 0 then ratioErr P Q else ratioErr P' Q'

end Go.Proofs.YtmdpfadfimodjaaDoor

/-
  A distribution in a block; odds.Check.
-/
namespace Go.Proofs.YtmdpfadfimodjaaDoor
open Go.RowKit

/-- Block b holds two slices. -/
structure OddsAt (w : World) (b : Nat) (A : Option Addr) (n c : Nat) (B : Option Addr) (m d : Nat) : Prop where
  p0 : w.cell? ⟨b, 0, none⟩ = some (.slice A n c)
  p1 : w.cell? ⟨b, 1, none⟩ = some (.slice B m d)
  f0 : w.frozen? ⟨b, 0, none⟩ = false
  f1 : w.frozen? ⟨b, 1, none⟩ = false
  lt : b < w.heap.size
theorem OddsAt.new (w : World) (t : TypeId) (A : Option Addr) (n c : Nat) (B : Option Addr) (m d : Nat) : OddsAt (w.alloc (.cells #[.slice A n c, .slice B m d] t)) w.heap.size A n c B m d := by
  have hr := rat_row (w := w) (b := t) (x := .slice A n c) (y := .slice B m d)
  exact ⟨(hr.cell (i := 0) (by omega)).trans rfl, (hr.cell (i := 1) (by omega)).trans rfl, hr.frozen 0, hr.frozen 1, hr.lt⟩
theorem OddsAt.keep {w w' : World} {b : Nat} {A : Option Addr} {n c : Nat} {B : Option Addr} {m d : Nat} (h : OddsAt w b A n c B m d) (hb : Below w.heap.size w w') : OddsAt w' b A n c B m d := by
  have e := hb.block b h.lt
  exact ⟨(hb.cell (p := ⟨b, 0, none⟩) h.lt).trans h.p0, (hb.cell (p := ⟨b, 1, none⟩) h.lt).trans h.p1, (World.frozen?_of_block (a := ⟨b, 0, none⟩) e).trans h.f0, (World.frozen?_of_block (a := ⟨b, 1, none⟩) e).trans h.f1, Nat.lt_of_lt_of_le h.lt hb.size⟩
theorem OddsAt.keep_alloc {w : World} {b : Nat} {A : Option Addr} {n c : Nat} {B : Option Addr} {m d : Nat} (h : OddsAt w b A n c B m d) (o : Obj) : OddsAt (w.alloc o) b A n c B m d := h.keep (below_alloc w o)

end Go.Proofs.YtmdpfadfimodjaaDoor

/-
  Two slices of the call's own, kept in a struct's two cells; each grows by 'append'.
-/
namespace Go.Proofs.YtmdpfadfimodjaaDoor
open Go.RowKit

/-- The two have not one block between them. -/
def Apart2 (v u : Value) : Prop := ∀ k, v.ownBlock = some k → u.ownBlock ≠ some k
/-- Block bs holds two slices of the call's own (blocks from base on). -/
structure SumsAt (w : World) (bs base : Nat) (v u : Value) (xs ys : List Int) : Prop where
  c0 : w.cell? ⟨bs, 0, none⟩ = some v
  c1 : w.cell? ⟨bs, 1, none⟩ = some u
  f0 : w.frozen? ⟨bs, 0, none⟩ = false
  f1 : w.frozen? ⟨bs, 1, none⟩ = false
  lt : bs < w.heap.size
  lb : bs < base
  v0 : OwnInts w base v xs
  u0 : OwnInts w base u ys
  ap : Apart2 v u
theorem SumsAt.drewN {w : World} {bs base : Nat} {v u : Value} {xs ys : List Int} (h : SumsAt w bs base v u xs ys) (k : Nat) : SumsAt (w.drewN k) bs base v u xs ys :=
  ⟨h.c0, h.c1, h.f0, h.f1, h.lt, h.lb, h.v0, h.u0, h.ap⟩
theorem SumsAt.new (w : World) (t : TypeId) : SumsAt (w.alloc (.cells #[.slice none 0 0, .slice none 0 0] t)) w.heap.size (w.heap.size + 1) (.slice none 0 0) (.slice none 0 0) [] [] := by
  have h := OddsAt.new w t none 0 0 none 0 0
  exact ⟨h.p0, h.p1, h.f0, h.f1, h.lt, Nat.lt_succ_self _, OwnInts.nil _ _, OwnInts.nil _ _, fun k hk => by cases hk⟩
theorem OwnInts.grown {w w' : World} {base : Nat} {u : Value} {ys : List Int} {g : Option Nat} (h : OwnInts w base u ys) (hg : w.grownBy w' g) (hne : ∀ k, u.ownBlock = some k → g ≠ some k) : OwnInts w' base u ys := by
  refine ⟨h.1, ?_⟩
  rcases h.2 with h0 | ⟨k, cap, cur, hv, hb, hh, r⟩
  · exact .inl h0
  · refine .inr ⟨k, cap, cur, hv, hb, ?_, r⟩
    have hlt := (Array.getElem?_eq_some_iff.1 hh).1
    exact (hg.block k hlt (fun e => hne k (by rw [hv]; rfl) e.symm)).trans hh
theorem OwnInts.below_base {w : World} {base : Nat} {u : Value} {ys : List Int} (h : OwnInts w base u ys) : ∀ k, u.ownBlock = some k → base ≤ k ∧ k < w.heap.size := fun k hk => World.ownsRow.lt h k hk
theorem OwnInts.setFar {w : World} {base : Nat} {u : Value} {ys : List Int} (h : OwnInts w base u ys) (b j : Nat) (hb : b < base) (x : Value) : OwnInts (w.setCell ⟨b, j, none⟩ x) base u ys := by
  refine ⟨h.1, ?_⟩
  rcases h.2 with h0 | ⟨k, cap, cur, hv, hk, hh, r⟩
  · exact .inl h0
  · exact .inr ⟨k, cap, cur, hv, hk, (Below.heap_setCell w ⟨b, j, none⟩ x k (by show k ≠ b; omega)).trans hh, r⟩

/-- The first one grew, and is stored. -/
theorem SumsAt.grow0 {w w' : World} {bs base : Nat} {v u : Value} {xs ys xs' : List Int} (h : SumsAt w bs base v u xs ys) (v' : Value) (h1 : OwnInts w' base v' xs') (hg : w.grownBy w' v.ownBlock) (hp : v'.ownBlock = v.ownBlock ∨ ∀ k, v'.ownBlock = some k → w.heap.size ≤ k) :
    SumsAt (w'.setCell ⟨bs, 0, none⟩ v') bs base v' u xs' ys ∧ Below bs w (w'.setCell ⟨bs, 0, none⟩ v') ∧ w'.cell? ⟨bs, 0, none⟩ = some v ∧ w'.frozen? ⟨bs, 0, none⟩ = false := by
  have hvb := fun k hk => h.v0.below_base k hk
  have hub := fun k hk => h.u0.below_base k hk
  have hlb := h.lb
  have e := hg.block bs h.lt (fun e => by have := (hvb bs e.symm).1; omega)
  have k0 : w'.cell? ⟨bs, 0, none⟩ = some v := (World.cell?_of_block (a := ⟨bs, 0, none⟩) e).trans h.c0
  have k1 : w'.cell? ⟨bs, 1, none⟩ = some u := (World.cell?_of_block (a := ⟨bs, 1, none⟩) e).trans h.c1
  have kf0 : w'.frozen? ⟨bs, 0, none⟩ = false := (World.frozen?_of_block (a := ⟨bs, 0, none⟩) e).trans h.f0
  have kf1 : w'.frozen? ⟨bs, 1, none⟩ = false := (World.frozen?_of_block (a := ⟨bs, 1, none⟩) e).trans h.f1
  have hlt : bs < w'.heap.size := Nat.lt_of_lt_of_le h.lt hg.size
  refine ⟨⟨?_, ?_, ?_, ?_, by simpa [World.setCell] using hlt, hlb, h1.setFar bs 0 hlb _, (h.u0.grown hg (fun k hk e => h.ap k e hk)).setFar bs 0 hlb _, ?_⟩, ?_, k0, kf0⟩
  · exact World.cell?_setCell_same w' ⟨bs, 0, none⟩ v' (by rw [k0])
  · rw [World.cell?_setCell_other w' ⟨bs, 0, none⟩ ⟨bs, 1, none⟩ v' (fun e => by cases e)]
    exact k1
  · rw [World.frozen?_setCell]
    exact kf0
  · rw [World.frozen?_setCell]
    exact kf1
  · intro k hk hu
    rcases hp with hp | hp
    · exact h.ap k (hp.symm.trans hk) hu
    · have := hp k hk
      have := (hub k hu).2
      omega
  · have b1 : Below bs w w' := ⟨hg.os, hg.tape, hg.output, hg.size, fun k hk => hg.block k (by have := h.lt; omega) (fun e => by have := (hvb k e.symm).1; omega)⟩
    exact b1.setCell (Nat.le_refl _) _
/-- The second one grew, and is stored. -/
theorem SumsAt.grow1 {w w' : World} {bs base : Nat} {v u : Value} {xs ys ys' : List Int} (h : SumsAt w bs base v u xs ys) (u' : Value) (h1 : OwnInts w' base u' ys') (hg : w.grownBy w' u.ownBlock) (hp : u'.ownBlock = u.ownBlock ∨ ∀ k, u'.ownBlock = some k → w.heap.size ≤ k) :
    SumsAt (w'.setCell ⟨bs, 1, none⟩ u') bs base v u' xs ys' ∧ Below bs w (w'.setCell ⟨bs, 1, none⟩ u') ∧ w'.cell? ⟨bs, 1, none⟩ = some u ∧ w'.frozen? ⟨bs, 1, none⟩ = false := by
  have hvb := fun k hk => h.v0.below_base k hk
  have hub := fun k hk => h.u0.below_base k hk
  have hlb := h.lb
  have e := hg.block bs h.lt (fun e => by have := (hub bs e.symm).1; omega)
  have k0 : w'.cell? ⟨bs, 0, none⟩ = some v := (World.cell?_of_block (a := ⟨bs, 0, none⟩) e).trans h.c0
  have k1 : w'.cell? ⟨bs, 1, none⟩ = some u := (World.cell?_of_block (a := ⟨bs, 1, none⟩) e).trans h.c1
  have kf0 : w'.frozen? ⟨bs, 0, none⟩ = false := (World.frozen?_of_block (a := ⟨bs, 0, none⟩) e).trans h.f0
  have kf1 : w'.frozen? ⟨bs, 1, none⟩ = false := (World.frozen?_of_block (a := ⟨bs, 1, none⟩) e).trans h.f1
  have hlt : bs < w'.heap.size := Nat.lt_of_lt_of_le h.lt hg.size
  refine ⟨⟨?_, ?_, ?_, ?_, by simpa [World.setCell] using hlt, hlb, (h.v0.grown hg (fun k hk e => h.ap k hk e)).setFar bs 1 hlb _, h1.setFar bs 1 hlb _, ?_⟩, ?_, k1, kf1⟩
  · rw [World.cell?_setCell_other w' ⟨bs, 1, none⟩ ⟨bs, 0, none⟩ u' (fun e => by cases e)]
    exact k0
  · exact World.cell?_setCell_same w' ⟨bs, 1, none⟩ u' (by rw [k1])
  · rw [World.frozen?_setCell]
    exact kf0
  · rw [World.frozen?_setCell]
    exact kf1
  · intro k hk hu
    rcases hp with hp | hp
    · exact h.ap k hk (hp.symm.trans hu)
    · have := hp k hu
      have := (hvb k hk).2
      omega
  · have b1 : Below bs w w' := ⟨hg.os, hg.tape, hg.output, hg.size, fun k hk => hg.block k (by have := h.lt; omega) (fun e => by have := (hub k e.symm).1; omega)⟩
    exact b1.setCell (Nat.le_refl _) _

theorem app_place {W W1 w' : World} {v : Value} {g : Nat} (hW1 : W1.heap.size = W.heap.size + 1) (hB : ∀ k, k < W.heap.size → W1.heap[k]? = W.heap[k]?) (ho : W1.os = W.os) (ht : W1.tape = W.tape) (hout : W1.output = W.output)
    (h2 : W1.grownBy w' v.ownBlock) (hat : v.ownBlock = some g ∨ g = W1.heap.size) (n c : Nat) :
    W.grownBy w' v.ownBlock ∧ ((Value.slice (some ⟨g, 0, none⟩) n c).ownBlock = v.ownBlock ∨ ∀ k, (Value.slice (some ⟨g, 0, none⟩) n c).ownBlock = some k → W.heap.size ≤ k) := by
  refine ⟨⟨h2.os.trans ho, h2.tape.trans ht, h2.output.trans hout, by have := h2.size; omega, fun k hk hne => (h2.block k (by omega) hne).trans (hB k hk)⟩, ?_⟩
  rcases hat with e | e
  · exact .inl e.symm
  · right
    intro k hk
    simp only [Value.ownBlock, Option.some.injEq] at hk
    omega

/-- 'append(xs, y)' in a plain region: the world has laid y into a block of its own first. -/
theorem wpList_appK {ops : Array Oper} {rest : List Oper} {o : Oper} {a : Act} {Q : Exit → Act → World → Prop} (W : World) (hgd : o.guard = none) (s x : Operand)
    (ho : o.op = .call { callee := .builtin .append, args := #[s, x], argTypes := #[22, 22] })
    (base : Nat) (v : Value) (xs : List Int) (y : Int) (hs : a.eval s = v) (hx : a.eval x = .slice (some ⟨W.heap.size, 0, none⟩) 1 1) (hown : OwnInts W base v xs)
    (hlen : xs.length ≤ 1000000000000) (hbase : base ≤ W.heap.size)
    (h : ∀ g c w', OwnInts w' base (.slice (some ⟨g, 0, none⟩) (xs.length + 1) c) (xs ++ [y]) → W.grownBy w' v.ownBlock → ((Value.slice (some ⟨g, 0, none⟩) (xs.length + 1) c).ownBlock = v.ownBlock ∨ ∀ k, (Value.slice (some ⟨g, 0, none⟩) (xs.length + 1) c).ownBlock = some k → W.heap.size ≤ k) →
      wpList Tryd.prog ops Q rest (a.put o.dst (.slice (some ⟨g, 0, none⟩) (xs.length + 1) c)) w') :
    wpList Tryd.prog ops Q (o :: rest) a (W.alloc (.cells #[.int .i64 y] 3)) := by
  obtain ⟨i0, hi, hz0, hz1, hz2⟩ := info_parts infoInt
  refine wpList_append_lies _ hgd s x 22 ho base 3 i0 (.int .i64 0) 1 8 Tryd.underlying22 hi hz0 hz1 hz2 rfl (by decide) v xs.length (xs.map (Value.int .i64)) hs (World.ownsRow.alloc hown _)
    ⟨W.heap.size, 0, none⟩ 1 1 [.int .i64 y] hx rfl (cell_one W y) (by intro u hu; simp at hu; subst hu; rfl) (by omega) (by unfold maxLen; omega) (by omega) (by simp; omega) _ rfl ?_
  intro g cap w' h1 h2 hat _
  obtain ⟨h3, h4⟩ := app_place (W := W) (by simp) (fun k hk => Below.heap_alloc W _ k hk) rfl rfl rfl h2 hat (xs.length + 1) cap
  refine h g cap w' ?_ h3 h4
  unfold OwnInts
  simpa using h1
/-- The same in a region that draws. -/
theorem step_appK {ops : Array Oper} {o : Oper} {a : Act} {K : Act → World → Prop} {Q : Exit → Act → World → Prop} {E : Prop} (W : World) (hgd : o.guard = none) (s x : Operand)
    (ho : o.op = .call { callee := .builtin .append, args := #[s, x], argTypes := #[22, 22] })
    (base : Nat) (v : Value) (xs : List Int) (y : Int) (hs : a.eval s = v) (hx : a.eval x = .slice (some ⟨W.heap.size, 0, none⟩) 1 1) (hown : OwnInts W base v xs)
    (hlen : xs.length ≤ 1000000000000) (hbase : base ≤ W.heap.size)
    (h : ∀ g c w', OwnInts w' base (.slice (some ⟨g, 0, none⟩) (xs.length + 1) c) (xs ++ [y]) → W.grownBy w' v.ownBlock → ((Value.slice (some ⟨g, 0, none⟩) (xs.length + 1) c).ownBlock = v.ownBlock ∨ ∀ k, (Value.slice (some ⟨g, 0, none⟩) (xs.length + 1) c).ownBlock = some k → W.heap.size ≤ k) →
      K (a.put o.dst (.slice (some ⟨g, 0, none⟩) (xs.length + 1) c)) w') :
    if Region.wanted o (yielded ops a.tmps) = true then Oper.wp Tryd.prog o a (W.alloc (.cells #[.int .i64 y] 3)) K Q else E := by
  obtain ⟨i0, hi, hz0, hz1, hz2⟩ := info_parts infoInt
  refine step_append_lies _ hgd s x 22 ho base 3 i0 (.int .i64 0) 1 8 Tryd.underlying22 hi hz0 hz1 hz2 rfl (by decide) v xs.length (xs.map (Value.int .i64)) hs (World.ownsRow.alloc hown _)
    ⟨W.heap.size, 0, none⟩ 1 1 [.int .i64 y] hx rfl (cell_one W y) (by intro u hu; simp at hu; subst hu; rfl) (by omega) (by unfold maxLen; omega) (by omega) (by simp; omega) _ rfl ?_
  intro g cap w' h1 h2 hat _
  obtain ⟨h3, h4⟩ := app_place (W := W) (by simp) (fun k hk => Below.heap_alloc W _ k hk) rfl rfl rfl h2 hat (xs.length + 1) cap
  refine h g cap w' ?_ h3 h4
  unfold OwnInts
  simpa using h1
end Go.Proofs.YtmdpfadfimodjaaDoor

/-
  Rows that rise: a number put in (P38), one more at the end of a row, the two tableaux of a list. Plain facts; no program, no memory.
-/
namespace Go.Proofs.YtmdpfadfimodjaaDoor

/-- A number put into one row: the row, and what is put out. -/
def rin (x : Int) : List Int → List Int × Option Int
  | [] => ([x], none)
  | y :: r => if y < x then (y :: (rin x r).1, (rin x r).2) else (x :: r, some y)

theorem rin_all {x : Int} : ∀ {row : List Int}, (∀ z ∈ row, z < x) → rin x row = (row ++ [x], none)
  | [], _ => rfl
  | y :: r, h => by
    rw [rin, if_pos (h y (by simp)), rin_all (row := r) (fun z hz => h z (by simp [hz]))]
    rfl
theorem rin_at {x y : Int} (hy : ¬ y < x) (l2 : List Int) : ∀ {l1 : List Int}, (∀ z ∈ l1, z < x) → rin x (l1 ++ y :: l2) = (l1 ++ x :: l2, some y)
  | [], _ => by rw [List.nil_append, rin, if_neg hy]; rfl
  | z :: l1, h => by
    rw [List.cons_append, rin, if_pos (h z (by simp)), rin_at hy l2 (l1 := l1) (fun u hu => h u (by simp [hu]))]
    rfl
/-- Either all are smaller, or there is a first one that is not. -/
theorem rin_cases (x : Int) : ∀ row : List Int, (∀ z ∈ row, z < x) ∨ ∃ l1 y l2, row = l1 ++ y :: l2 ∧ (∀ z ∈ l1, z < x) ∧ ¬ y < x
  | [] => .inl (by simp)
  | y :: r => by
    by_cases h : y < x
    · rcases rin_cases x r with h1 | ⟨l1, u, l2, rfl, h1, h2⟩
      · left
        intro z hz
        rcases List.mem_cons.1 hz with rfl | hz
        · exact h
        · exact h1 z hz
      · right
        refine ⟨y :: l1, u, l2, rfl, ?_, h2⟩
        intro z hz
        rcases List.mem_cons.1 hz with rfl | hz
        · exact h
        · exact h1 z hz
    · exact .inr ⟨[], y, r, rfl, by simp, h⟩

/-- A number put in: the rows, and which one has become longer. -/
def tin : List (List Int) → Int → List (List Int) × Nat
  | [], x => ([[x]], 0)
  | row :: T, x => match (rin x row).2 with
    | none => ((rin x row).1 :: T, 0)
    | some y => ((rin x row).1 :: (tin T y).1, (tin T y).2 + 1)

theorem tin_nil (x : Int) : tin [] x = ([[x]], 0) := rfl
theorem tin_all {x : Int} {row : List Int} (T : List (List Int)) (h : ∀ z ∈ row, z < x) : tin (row :: T) x = ((row ++ [x]) :: T, 0) := by
  rw [tin, rin_all h]
theorem tin_at {x y : Int} {l1 : List Int} (l2 : List Int) (T : List (List Int)) (h : ∀ z ∈ l1, z < x) (hy : ¬ y < x) : tin ((l1 ++ y :: l2) :: T) x = ((l1 ++ x :: l2) :: (tin T y).1, (tin T y).2 + 1) := by
  rw [tin, rin_at hy l2 h]

/-- One more at the end of row r. -/
def tadd : List (List Int) → Nat → Int → List (List Int)
  | [], _, M => [[M]]
  | row :: T, 0, M => (row ++ [M]) :: T
  | row :: T, r + 1, M => row :: tadd T r M

theorem tin_le : ∀ (T : List (List Int)) (x : Int), (tin T x).2 ≤ T.length
  | [], _ => Nat.le_refl _
  | row :: T, x => by
    rcases rin_cases x row with h | ⟨l1, y, l2, rfl, h1, h2⟩
    · rw [tin_all T h]; exact Nat.zero_le _
    · rw [tin_at l2 T h1 h2, List.length_cons]
      have := tin_le T y
      omega

/-- A greatest number goes to the end of the first row. -/
theorem tin_max : ∀ (T : List (List Int)) (M : Int), (∀ y ∈ T.flatten, y < M) → tin T M = (tadd T 0 M, 0)
  | [], _, _ => rfl
  | row :: T, M, h => by
    rw [tin_all T (fun z hz => h z (by simp [hz]))]
    rfl

/-- A greatest number stands at the end of row r, and x is put in. -/
theorem tin_add : ∀ (T : List (List Int)) (r : Nat) (M x : Int), (∀ y ∈ T.flatten, y < M) → x < M → r ≤ T.length →
    tin (tadd T r M) x = if (tin T x).2 = r then (tadd (tin T x).1 (r + 1) M, r + 1) else (tadd (tin T x).1 r M, (tin T x).2)
  | [], r, M, x, _, hx, hr => by
    have : r = 0 := by simpa using hr
    subst this
    rw [tin_nil, if_pos rfl]
    exact tin_at (l1 := []) [] [] (by simp) (by omega)
  | row :: T, r, M, x, h, hx, hr => by
    have hrow : ∀ z ∈ row, z < M := fun z hz => h z (by simp [hz])
    have hT : ∀ z ∈ T.flatten, z < M := fun z hz => h z (by
      rw [List.flatten_cons]
      exact List.mem_append_right _ hz)
    rcases rin_cases x row with h1 | ⟨l1, y, l2, rfl, h1, h2⟩
    · rw [tin_all T h1]
      cases r with
      | zero =>
        rw [if_pos rfl, tadd, tin_at [] T h1 (by omega), tin_max T M hT]
        rfl
      | succ r =>
        rw [if_neg (by simp), tadd, tin_all _ h1]
        rfl
    · rw [tin_at l2 T h1 h2]
      have hy : y < M := hrow y (by simp)
      cases r with
      | zero =>
        rw [if_neg (by simp), tadd, List.append_assoc, List.cons_append, tin_at _ T h1 h2]
        simp [tadd]
      | succ r =>
        rw [tadd, tin_at l2 _ h1 h2, tin_add T r M y hT hy (by simpa using hr)]
        by_cases e : (tin T y).2 = r
        · simp [e, tadd]
        · simp [e, tadd]

/-! ### What lies in the rows -/
theorem tin_flat : ∀ (T : List (List Int)) (x : Int), (tin T x).1.flatten.Perm (x :: T.flatten)
  | [], x => by simp [tin]
  | row :: T, x => by
    rcases rin_cases x row with h1 | ⟨l1, y, l2, rfl, h1, h2⟩
    · rw [tin_all T h1, List.flatten_cons, List.flatten_cons, List.append_assoc]
      exact List.perm_middle
    · rw [tin_at l2 T h1 h2, List.flatten_cons, List.flatten_cons, List.append_assoc, List.append_assoc, List.cons_append, List.cons_append]
      have ih := tin_flat T y
      refine List.perm_middle.trans (List.Perm.cons x ?_)
      refine List.Perm.append_left l1 ?_
      exact (List.Perm.append_left l2 ih).trans List.perm_middle
theorem tadd_flat : ∀ (T : List (List Int)) (r : Nat) (M : Int), (tadd T r M).flatten.Perm (M :: T.flatten)
  | [], r, M => by cases r <;> simp [tadd]
  | row :: T, 0, M => by
    rw [tadd, List.flatten_cons, List.flatten_cons, List.append_assoc]
    exact List.perm_middle
  | row :: T, r + 1, M => by
    rw [tadd, List.flatten_cons, List.flatten_cons]
    exact (List.Perm.append_left row (tadd_flat T r M)).trans List.perm_middle

theorem tadd_length : ∀ (T : List (List Int)) (r : Nat) (M : Int), r ≤ T.length → (tadd T r M).length = max T.length (r + 1)
  | [], r, M, h => by
    have : r = 0 := by simpa using h
    subst this
    rfl
  | row :: T, 0, M, _ => by simp [tadd]
  | row :: T, r + 1, M, h => by
    rw [tadd, List.length_cons, tadd_length T r M (by simpa using h), List.length_cons]
    omega
theorem tin_length : ∀ (T : List (List Int)) (x : Int), (tin T x).1.length = max T.length ((tin T x).2 + 1)
  | [], x => rfl
  | row :: T, x => by
    rcases rin_cases x row with h1 | ⟨l1, y, l2, rfl, h1, h2⟩
    · rw [tin_all T h1]; simp
    · rw [tin_at l2 T h1 h2]
      have := tin_length T y
      simp only [List.length_cons, this]
      omega

/-- How long row i is. -/
def tlen (T : List (List Int)) (i : Nat) : Nat := (T.getD i []).length
theorem tlen_nil (i : Nat) : tlen [] i = 0 := by simp [tlen]
theorem tlen_cons (row : List Int) (T : List (List Int)) (i : Nat) : tlen (row :: T) i = if i = 0 then row.length else tlen T (i - 1) := by
  cases i with
  | zero => rfl
  | succ i => simp [tlen]
theorem tlen_tadd : ∀ (T : List (List Int)) (r : Nat) (M : Int) (i : Nat), r ≤ T.length → tlen (tadd T r M) i = tlen T i + (if i = r then 1 else 0)
  | [], r, M, i, h => by
    have : r = 0 := by simpa using h
    subst this
    rw [tadd, tlen_cons, tlen_nil, tlen_nil]
    simp
  | row :: T, 0, M, i, _ => by
    rw [tadd, tlen_cons, tlen_cons]
    by_cases e : i = 0
    · simp [e]
    · simp [e]
  | row :: T, r + 1, M, i, h => by
    rw [tadd, tlen_cons, tlen_cons]
    by_cases e : i = 0
    · simp [e]
    · rw [if_neg e, if_neg e, tlen_tadd T r M (i - 1) (by simpa using h)]
      congr 1
      by_cases e2 : i - 1 = r
      · rw [if_pos e2, if_pos (by omega)]
      · rw [if_neg e2, if_neg (by omega)]
theorem tlen_tin : ∀ (T : List (List Int)) (x : Int) (i : Nat), tlen (tin T x).1 i = tlen T i + (if i = (tin T x).2 then 1 else 0)
  | [], x, i => by
    rw [tin_nil, tlen_cons, tlen_nil, tlen_nil]
    simp
  | row :: T, x, i => by
    rcases rin_cases x row with h1 | ⟨l1, y, l2, rfl, h1, h2⟩
    · rw [tin_all T h1, tlen_cons, tlen_cons]
      by_cases e : i = 0
      · simp [e]
      · simp [e]
    · rw [tin_at l2 T h1 h2, tlen_cons, tlen_cons]
      by_cases e : i = 0
      · simp [e]
      · rw [if_neg e, if_neg e, tlen_tin T y (i - 1)]
        congr 1
        by_cases e2 : i - 1 = (tin T y).2
        · rw [if_pos e2, if_pos (by simp only; omega)]
        · rw [if_neg e2, if_neg (by simp only; omega)]

/-! ### The two tableaux of a list -/
def rsR : List Int → List (List Int) × List (List Int)
  | [] => ([], [])
  | x :: w => ((tin (rsR w).1 x).1, tadd (rsR w).2 (tin (rsR w).1 x).2 (w.length : Int))
def PT (w : List Int) : List (List Int) := (rsR w.reverse).1
def QT (w : List Int) : List (List Int) := (rsR w.reverse).2
theorem PT_nil : PT [] = [] := rfl
theorem QT_nil : QT [] = [] := rfl
theorem PT_snoc (w : List Int) (x : Int) : PT (w ++ [x]) = (tin (PT w) x).1 := by simp [PT, rsR]
theorem QT_snoc (w : List Int) (x : Int) : QT (w ++ [x]) = tadd (QT w) (tin (PT w) x).2 (w.length : Int) := by simp [PT, QT, rsR]

theorem snoc_ind {p : List Int → Prop} (h0 : p []) (h1 : ∀ w x, p w → p (w ++ [x])) (w : List Int) : p w := by
  rw [← List.reverse_reverse w]
  induction w.reverse with
  | nil => exact h0
  | cons x l ih => rw [List.reverse_cons]; exact h1 _ _ ih

theorem PT_flat (w : List Int) : (PT w).flatten.Perm w := by
  induction w using snoc_ind with
  | h0 => exact List.Perm.refl _
  | h1 w x ih =>
    rw [PT_snoc]
    refine (tin_flat _ _).trans ((List.Perm.cons x ih).trans ?_)
    exact (List.perm_append_singleton x w).symm
theorem PT_mem {w : List Int} {y : Int} (h : y ∈ (PT w).flatten) : y ∈ w := (PT_flat w).mem_iff.1 h
theorem QT_mem (w : List Int) : ∀ y ∈ (QT w).flatten, 0 ≤ y ∧ y < (w.length : Int) := by
  induction w using snoc_ind with
  | h0 => intro y hy; simp [QT_nil] at hy
  | h1 w x ih =>
    intro y hy
    rw [QT_snoc] at hy
    rw [List.length_append, List.length_singleton]
    rcases List.mem_cons.1 ((tadd_flat _ _ _).mem_iff.1 hy) with rfl | hy
    · omega
    · have := ih y hy
      omega
theorem PQ_length (w : List Int) : (PT w).length = (QT w).length := by
  induction w using snoc_ind with
  | h0 => rfl
  | h1 w x ih => rw [PT_snoc, QT_snoc, tin_length, tadd_length _ _ _ (by rw [← ih]; exact tin_le _ _), ih]
theorem PQ_tlen (w : List Int) (i : Nat) : tlen (PT w) i = tlen (QT w) i := by
  induction w using snoc_ind with
  | h0 => rfl
  | h1 w x ih => rw [PT_snoc, QT_snoc, tlen_tin, tlen_tadd _ _ _ _ (by rw [← PQ_length]; exact tin_le _ _), ih]

/-! ### A greatest number in the midst -/
/-- Numbers from k on, one more. -/
def tsh (k : Int) (v : Int) : Int := if k ≤ v then v + 1 else v
def tmap (f : Int → Int) (T : List (List Int)) : List (List Int) := T.map (fun r => r.map f)
theorem tmap_tadd (f : Int → Int) : ∀ (T : List (List Int)) (r : Nat) (M : Int), tmap f (tadd T r M) = tadd (tmap f T) r (f M)
  | [], r, M => by cases r <;> rfl
  | row :: T, 0, M => by simp [tadd, tmap]
  | row :: T, r + 1, M => by
    have := tmap_tadd f T r M
    simp only [tmap] at this
    simp [tadd, tmap, this]
theorem tmap_tin (f : Int → Int) (hf : ∀ a b, f a < f b ↔ a < b) : ∀ (T : List (List Int)) (x : Int), tin (tmap f T) (f x) = (tmap f (tin T x).1, (tin T x).2)
  | [], x => rfl
  | row :: T, x => by
    rcases rin_cases x row with h1 | ⟨l1, y, l2, rfl, h1, h2⟩
    · rw [tin_all T h1]
      have : tmap f (row :: T) = row.map f :: tmap f T := rfl
      rw [this, tin_all]
      · simp [tmap]
      · intro z hz
        obtain ⟨z, hz', rfl⟩ := List.mem_map.1 hz
        exact (hf _ _).2 (h1 z hz')
    · rw [tin_at l2 T h1 h2]
      have : tmap f ((l1 ++ y :: l2) :: T) = (l1.map f ++ f y :: l2.map f) :: tmap f T := by simp [tmap]
      rw [this, tin_at, tmap_tin f hf T y]
      · simp [tmap]
      · intro z hz
        obtain ⟨z, hz', rfl⟩ := List.mem_map.1 hz
        exact (hf _ _).2 (h1 z hz')
      · exact fun h => h2 ((hf _ _).1 h)
theorem PT_map (f : Int → Int) (hf : ∀ a b, f a < f b ↔ a < b) (w : List Int) : PT (w.map f) = tmap f (PT w) ∧ QT (w.map f) = QT w := by
  induction w using snoc_ind with
  | h0 => exact ⟨rfl, rfl⟩
  | h1 w x ih =>
    have e : (w ++ [x]).map f = w.map f ++ [f x] := by simp
    rw [e, PT_snoc, QT_snoc, PT_snoc, QT_snoc, ih.1, ih.2, tmap_tin f hf, List.length_map]
    exact ⟨rfl, rfl⟩
theorem tsh_lt (k a b : Int) : tsh k a < tsh k b ↔ a < b := by
  unfold tsh
  split <;> split <;> omega
theorem tmap_same {f : Int → Int} : ∀ (T : List (List Int)), (∀ y ∈ T.flatten, f y = y) → tmap f T = T
  | [], _ => rfl
  | row :: T, h => by
    have h1 : row.map f = row := by
      refine (List.map_congr_left (g := id) fun z hz => ?_).trans (List.map_id _)
      exact h z (by simp [hz])
    have h2 := tmap_same (f := f) T (fun z hz => h z (by
      rw [List.flatten_cons]
      exact List.mem_append_right _ hz))
    show row.map f :: tmap f T = row :: T
    rw [h1, h2]
theorem mem_tmap {f : Int → Int} {T : List (List Int)} {y : Int} (h : y ∈ (tmap f T).flatten) : ∃ z ∈ T.flatten, y = f z := by
  obtain ⟨l, hl, hy⟩ := List.mem_flatten.1 h
  obtain ⟨r, hr, rfl⟩ := List.mem_map.1 hl
  obtain ⟨z, hz, rfl⟩ := List.mem_map.1 hy
  exact ⟨z, List.mem_flatten.2 ⟨r, hr, hz⟩, rfl⟩
theorem length_tmap (f : Int → Int) (T : List (List Int)) : (tmap f T).length = T.length := by simp [tmap]

/-- SCHUETZENBERGER's step: a greatest number M at place k of the list. -/
theorem mid_max (u : List Int) (M : Int) (v : List Int) : (∀ y ∈ u ++ v, y < M) →
    ∃ r, r ≤ (PT (u ++ v)).length ∧ PT (u ++ M :: v) = tadd (PT (u ++ v)) r M ∧ tin (tmap (tsh (u.length : Int)) (QT (u ++ v))) (u.length : Int) = (QT (u ++ M :: v), r) := by
  induction v using snoc_ind with
  | h0 =>
    intro h
    rw [List.append_nil] at h ⊢
    refine ⟨0, Nat.zero_le _, ?_, ?_⟩
    · rw [PT_snoc, tin_max]
      exact fun y hy => h y (PT_mem hy)
    · rw [tmap_same, tin_max, QT_snoc, tin_max]
      · exact fun y hy => h y (PT_mem hy)
      · exact fun y hy => (QT_mem u y hy).2
      · intro y hy
        have := QT_mem u y hy
        unfold tsh
        rw [if_neg (by omega)]
  | h1 v x ih =>
    intro h
    obtain ⟨r, hr, hP, hQ⟩ := ih (fun y hy => h y (by
      rw [← List.append_assoc]
      exact List.mem_append_left _ hy))
    have hx : x < M := h x (by simp)
    have hPm : ∀ y ∈ (PT (u ++ v)).flatten, y < M := fun y hy => h y (by
      rw [← List.append_assoc]
      exact List.mem_append_left _ (PT_mem hy))
    have e1 : u ++ M :: (v ++ [x]) = (u ++ M :: v) ++ [x] := by simp
    have e2 : u ++ (v ++ [x]) = (u ++ v) ++ [x] := by simp
    have hl1 : ((u ++ M :: v).length : Int) = ((u ++ v).length : Int) + 1 := by simp; omega
    have hle : (u.length : Int) ≤ ((u ++ v).length : Int) := by simp; omega
    have hshl : tsh (u.length : Int) ((u ++ v).length : Int) = ((u ++ v).length : Int) + 1 := by
      unfold tsh
      rw [if_pos hle]
    have hQm : ∀ y ∈ (tmap (tsh (u.length : Int)) (QT (u ++ v))).flatten, y < ((u ++ v).length : Int) + 1 := by
      intro y hy
      obtain ⟨z, hz, rfl⟩ := mem_tmap hy
      have := QT_mem _ z hz
      unfold tsh
      split <;> omega
    have ha : (tin (PT (u ++ v)) x).2 ≤ (tmap (tsh (u.length : Int)) (QT (u ++ v))).length := by
      rw [length_tmap, ← PQ_length]
      exact tin_le _ _
    have A := tin_add (PT (u ++ v)) r M x hPm hx hr
    have B := tin_add (tmap (tsh (u.length : Int)) (QT (u ++ v))) (tin (PT (u ++ v)) x).2 (((u ++ v).length : Int) + 1) (u.length : Int) hQm (by omega) ha
    rw [hQ] at B
    rw [e1, e2, PT_snoc, PT_snoc, QT_snoc, QT_snoc, tmap_tadd, hshl, B, hP, A, hl1]
    have hin := tin_length (PT (u ++ v)) x
    have hil := tin_le (PT (u ++ v)) x
    by_cases e : (tin (PT (u ++ v)) x).2 = r
    · rw [if_pos e, if_pos e.symm]
      refine ⟨r + 1, by omega, rfl, ?_⟩
      simp [e]
    · rw [if_neg e, if_neg (fun h => e h.symm)]
      exact ⟨r, by omega, rfl, rfl⟩

/-! ### The inverse -/
def tinv (p : List Int) : List Int := (List.range p.length).map (fun i : Nat => ((p.idxOf (i : Int) : Nat) : Int))

theorem tinv_mid (u v : List Int) (n : Nat) (hn : (u ++ v).length = n) (hu : ∀ y ∈ u ++ v, y ≠ (n : Int)) :
    tinv (u ++ (n : Int) :: v) = (tinv (u ++ v)).map (tsh (u.length : Int)) ++ [(u.length : Int)] := by
  have hl : (u ++ (n : Int) :: v).length = n + 1 := by simp at hn ⊢; omega
  unfold tinv
  rw [hl, List.range_succ, List.map_append, hn, List.map_map]
  congr 1
  · refine List.map_congr_left fun i hi => ?_
    have hi' : i < n := by simpa using hi
    simp only [Function.comp_apply]
    rw [List.idxOf_append, List.idxOf_append]
    by_cases h : (i : Int) ∈ u
    · rw [if_pos h, if_pos h]
      have := List.idxOf_lt_length_of_mem h
      unfold tsh
      rw [if_neg (by omega)]
    · rw [if_neg h, if_neg h]
      unfold tsh
      have hne : ((n : Int) == (i : Int)) = false := by simp; omega
      rw [List.idxOf_cons, hne]
      simp only [cond_false]
      rw [if_pos (by omega)]
      omega
  · have h : ¬ (n : Int) ∈ u := fun h => hu _ (List.mem_append_left _ h) rfl
    simp [List.idxOf_append, h]

/-- SCHUETZENBERGER. -/
theorem turned_tab : ∀ (n : Nat) (p : List Int), p.length = n → p.Nodup → (∀ i : Nat, i < n → (i : Int) ∈ p) → (∀ y ∈ p, 0 ≤ y ∧ y < (n : Int)) → PT (tinv p) = QT p ∧ QT (tinv p) = PT p
  | 0, p, hl, _, _, _ => by
    have : p = [] := List.eq_nil_of_length_eq_zero hl
    subst this
    exact ⟨rfl, rfl⟩
  | n + 1, p, hl, hd, hm, hb => by
    obtain ⟨u, v, rfl⟩ := List.append_of_mem (hm n (by omega))
    have hd' := (List.perm_middle (a := (n : Int)) (l₁ := u) (l₂ := v)).nodup_iff.1 hd
    rw [List.nodup_cons] at hd'
    have hl' : (u ++ v).length = n := by simp at hl ⊢; omega
    have hb' : ∀ y ∈ u ++ v, 0 ≤ y ∧ y < (n : Int) := by
      intro y hy
      have h1 := hb y (by
        rcases List.mem_append.1 hy with h | h
        · exact List.mem_append_left _ h
        · exact List.mem_append_right _ (List.mem_cons_of_mem _ h))
      have h2 : y ≠ (n : Int) := fun e => hd'.1 (e ▸ hy)
      omega
    have hm' : ∀ i : Nat, i < n → (i : Int) ∈ u ++ v := by
      intro i hi
      rcases List.mem_append.1 (hm i (by omega)) with h | h
      · exact List.mem_append_left _ h
      · rcases List.mem_cons.1 h with h | h
        · omega
        · exact List.mem_append_right _ h
    obtain ⟨ih1, ih2⟩ := turned_tab n (u ++ v) hl' hd'.2 hm' hb'
    rw [tinv_mid u v n hl' (fun y hy => by have := hb' y hy; omega), PT_snoc, QT_snoc, (PT_map _ (tsh_lt _) _).1, (PT_map _ (tsh_lt _) _).2, ih1, ih2]
    obtain ⟨r, hr, hP, hQ⟩ := mid_max u (n : Int) v (fun y hy => (hb' y hy).2)
    rw [hQ, hP]
    refine ⟨rfl, ?_⟩
    congr 1
    simp [tinv] at hl' ⊢
    omega

end Go.Proofs.YtmdpfadfimodjaaDoor

/-
  From behind the rows are columns (SCHENSTED): plain facts on shapes. No program, no memory.
-/
namespace Go.Proofs.YtmdpfadfimodjaaDoor

/-- One cell more in row r. -/
def grow (f : Nat → Nat) (r : Nat) (i : Nat) : Nat := f i + (if i = r then 1 else 0)
theorem grow_at (f : Nat → Nat) (r : Nat) : grow f r r = f r + 1 := by simp [grow]
theorem grow_ne (f : Nat → Nat) {r i : Nat} (h : i ≠ r) : grow f r i = f i := by simp [grow, h]
theorem grow_comm (f : Nat → Nat) (a b : Nat) : grow (grow f a) b = grow (grow f b) a := by
  funext i
  simp only [grow]
  omega
theorem grow_inj {f : Nat → Nat} {a b : Nat} (h : grow f a = grow f b) : a = b := by
  have := congrFun h a
  rw [grow_at] at this
  by_cases e : a = b
  · exact e
  · rw [grow_ne f e] at this
    omega
/-- Two ways to the same two cells. -/
theorem grow_two {f : Nat → Nat} {a b c d : Nat} (h : grow (grow f a) b = grow (grow f c) d) : (a = c ∧ b = d) ∨ (a = d ∧ b = c) := by
  by_cases e : a = c
  · subst e
    exact .inl ⟨rfl, grow_inj h⟩
  · have h1 := congrFun h a
    have h2 : a = d := by
      by_cases e2 : a = d
      · exact e2
      · simp only [grow, if_neg e, if_neg e2] at h1
        simp at h1
        omega
    subst h2
    rw [grow_comm f c a] at h
    exact .inr ⟨rfl, grow_inj h⟩

theorem ind (i r : Nat) : (i = r ∧ (if i = r then 1 else 0 : Nat) = 1) ∨ (i ≠ r ∧ (if i = r then 1 else 0 : Nat) = 0) := by
  by_cases h : i = r
  · exact .inl ⟨h, if_pos h⟩
  · exact .inr ⟨h, if_neg h⟩

def Anti (f : Nat → Nat) : Prop := ∀ i, f (i + 1) ≤ f i
theorem Anti.le {f : Nat → Nat} (h : Anti f) {i j : Nat} (hij : i ≤ j) : f j ≤ f i := by
  induction hij with
  | refl => exact Nat.le_refl _
  | step _ ih => exact Nat.le_trans (h _) ih
theorem anti_zero {f : Nat → Nat} (h : Anti f) : Anti (grow f 0) := by
  intro i
  have := h i
  simp only [grow]
  rw [if_neg (by omega)]
  omega
theorem anti_two {f : Nat → Nat} {a d : Nat} (hf : Anti f) (ha : Anti (grow f a)) (hd : Anti (grow f d)) (hne : a ≠ d) : Anti (grow (grow f a) d) := by
  intro i
  have h1 := hf i
  have h2 := ha i
  have h3 := hd i
  simp only [grow] at *
  have p1 := ind i a
  have p2 := ind (i + 1) a
  have p3 := ind i d
  have p4 := ind (i + 1) d
  omega
theorem anti_next {f : Nat → Nat} {a : Nat} (hf : Anti f) (ha : Anti (grow f a)) : Anti (grow (grow f a) (a + 1)) := by
  intro i
  have h1 := hf i
  have h2 := ha i
  simp only [grow] at *
  by_cases e1 : i = a
  · subst e1
    simp
    omega
  · by_cases e2 : i + 1 = a
    · subst e2
      simp at *
      omega
    · have : ¬ i + 1 = a + 1 := by omega
      rw [if_neg e2, if_neg this]
      omega
/-- A cell that can be put there: the row above is longer. -/
theorem anti_gap {f : Nat → Nat} {a : Nat} (ha : Anti (grow f (a + 1))) : f (a + 1) + 1 ≤ f a := by
  have := ha a
  rw [grow_at, grow_ne f (by omega)] at this
  exact this

def Sh (w : List Int) : Nat → Nat := tlen (PT w)
theorem sh_nil (i : Nat) : Sh [] i = 0 := by simp [Sh, PT_nil, tlen]
theorem sh_snoc (w : List Int) (z : Int) : Sh (w ++ [z]) = grow (Sh w) (tin (PT w) z).2 := by
  funext i
  unfold Sh
  rw [PT_snoc, tlen_tin]
  rfl
theorem mid_row (u : List Int) (M : Int) (v : List Int) (h : ∀ y ∈ u ++ v, y < M) : ∃ r, r ≤ (PT (u ++ v)).length ∧ PT (u ++ M :: v) = tadd (PT (u ++ v)) r M ∧ Sh (u ++ M :: v) = grow (Sh (u ++ v)) r := by
  obtain ⟨r, h1, h2, _⟩ := mid_max u M v h
  refine ⟨r, h1, h2, ?_⟩
  funext i
  unfold Sh
  rw [h2, tlen_tadd _ _ _ _ h1]
  rfl
theorem sh_last (u : List Int) (M : Int) (h : ∀ y ∈ u, y < M) : Sh (u ++ [M]) = grow (Sh u) 0 := by
  rw [sh_snoc, tin_max]
  exact fun y hy => h y (PT_mem hy)
/-- The row rule. -/
theorem row_rule (u : List Int) (M : Int) (v : List Int) (z : Int) (h : ∀ y ∈ u ++ v, y < M) (hz : z < M) {a d : Nat} (ha : Sh ((u ++ v) ++ [z]) = grow (Sh (u ++ v)) a) (hd : Sh (u ++ M :: v) = grow (Sh (u ++ v)) d) :
    Sh ((u ++ M :: v) ++ [z]) = if a = d then grow (grow (Sh (u ++ v)) a) (a + 1) else grow (grow (Sh (u ++ v)) a) d := by
  obtain ⟨r, h1, h2, h3⟩ := mid_row u M v h
  have e1 : d = r := grow_inj (hd.symm.trans h3)
  have e2 : a = (tin (PT (u ++ v)) z).2 := grow_inj (ha.symm.trans (sh_snoc _ _))
  have A := tin_add (PT (u ++ v)) r M z (fun y hy => h y (PT_mem hy)) hz h1
  rw [sh_snoc, hd, h2, A, ← e2, ← e1]
  by_cases e : a = d
  · rw [if_pos e, if_pos e, e]
  · rw [if_neg e, if_neg e]
    exact grow_comm _ _ _

/-- The first row whose end is one cell right of where the cell of row b lies. -/
def RSh (f : Nat → Nat) (b s : Nat) : Prop := grow f b s = f b + 1 ∧ ∀ i, i < s → f b + 1 < grow f b i
theorem RSh.le {f : Nat → Nat} {b s : Nat} (h : RSh f b s) : s ≤ b := by
  rcases Nat.lt_or_ge b s with h1 | h1
  · have := h.2 b h1
    rw [grow_at] at this
    omega
  · exact h1
theorem rsh_self {f : Nat → Nat} {b : Nat} (h : ∀ i, i < b → f b + 1 < f i) : RSh f b b :=
  ⟨grow_at f b, fun i hi => by rw [grow_ne f (by omega)]; exact h i hi⟩
/-- Below it, where its row has got one more. -/
theorem RSh.next {f : Nat → Nat} {b s : Nat} (hf : Anti f) (hb : Anti (grow f b)) (h : RSh f b s) (hne : s ≠ b) : grow f b (s + 1) = f b + 1 ∧ f s = f b + 1 := by
  have hle := h.le
  have hs := h.1
  rw [grow_ne f hne] at hs
  refine ⟨?_, hs⟩
  by_cases e : s + 1 = b
  · rw [e, grow_at]
  · rw [grow_ne f e]
    obtain ⟨c, rfl⟩ : ∃ c, b = c + 1 := ⟨b - 1, by omega⟩
    have h1 := anti_gap hb
    have h2 := hf.le (show s + 1 ≤ c by omega)
    have h3 := hf s
    omega

/-! ### The induction over the length -/
structure Upto (N : Nat) : Prop where
  an : ∀ w : List Int, w.length < N → w.Nodup → Anti (Sh w)
  ge : ∀ (y : Int) (u : List Int) (M : Int) (v : List Int) (b d : Nat), (y :: (u ++ M :: v)).length < N → (y :: (u ++ M :: v)).Nodup → (∀ x ∈ y :: (u ++ v), x < M) → Sh (y :: (u ++ v)) = grow (Sh (u ++ v)) b → Sh (u ++ M :: v) = grow (Sh (u ++ v)) d →
    (b ≠ d → Sh (y :: (u ++ M :: v)) = grow (grow (Sh (u ++ v)) b) d) ∧ (b = d → ∃ s, RSh (Sh (u ++ v)) b s ∧ Sh (y :: (u ++ M :: v)) = grow (grow (Sh (u ++ v)) b) s)
  ee : ∀ (y : Int) (u : List Int), (y :: u).length < N → (y :: u).Nodup → ∃ b, Sh (y :: u) = grow (Sh u) b
  hh : ∀ (y : Int) (u : List Int) (z : Int) (a : Nat), (y :: (u ++ [z])).length < N → (y :: (u ++ [z])).Nodup → Sh (y :: u) = grow (Sh u) a → Sh (u ++ [z]) = grow (Sh u) a →
    Sh (y :: (u ++ [z])) = grow (grow (Sh u) a) a ∨ (Sh u (a + 1) = Sh u a ∧ Sh (y :: (u ++ [z])) = grow (grow (Sh u) a) (a + 1))

/-- A greatest one. -/
theorem max_of : ∀ (w : List Int), w ≠ [] → w.Nodup → ∃ u M v, w = u ++ M :: v ∧ ∀ y ∈ u ++ v, y < M
  | [x], _, _ => ⟨[], x, [], rfl, by simp⟩
  | x :: x' :: l, _, hd => by
    rw [List.nodup_cons] at hd
    obtain ⟨u, M, v, e, h⟩ := max_of (x' :: l) (by simp) hd.2
    rw [e] at hd ⊢
    rcases Int.lt_or_le x M with h1 | h1
    · refine ⟨x :: u, M, v, rfl, fun y hy => ?_⟩
      rcases List.mem_cons.1 hy with rfl | hy
      · exact h1
      · exact h y hy
    · have h2 : M < x := by
        have : x ≠ M := fun e => hd.1 (by simp [e])
        omega
      refine ⟨[], x, u ++ M :: v, rfl, fun y hy => ?_⟩
      rw [List.nil_append] at hy
      rcases List.mem_append.1 hy with hy | hy
      · have := h y (List.mem_append_left _ hy)
        omega
      · rcases List.mem_cons.1 hy with rfl | hy
        · exact h2
        · have := h y (List.mem_append_right _ hy)
          omega

theorem nodup_mid {u : List Int} {M : Int} {v : List Int} (h : (u ++ M :: v).Nodup) : (u ++ v).Nodup := by
  have := (List.perm_middle (a := M) (l₁ := u) (l₂ := v)).nodup_iff.1 h
  exact (List.nodup_cons.1 this).2
theorem nodup_front {u v : List Int} (h : (u ++ v).Nodup) : u.Nodup := (List.nodup_append.1 h).1

theorem anti_all (N : Nat) (IH : Upto N) : ∀ w : List Int, w.length = N → w.Nodup → Anti (Sh w) := by
  intro w hl hd
  by_cases h0 : w = []
  · subst h0
    intro i
    rw [sh_nil]
    exact Nat.zero_le _
  · obtain ⟨u, M, v, rfl, hM⟩ := max_of w h0 hd
    rcases List.eq_nil_or_concat v with rfl | ⟨v, z, rfl⟩
    · rw [sh_last u M (fun y hy => hM y (by simp [hy]))]
      exact anti_zero (IH.an u (by simp at hl; omega) (nodup_front hd))
    · have e1 : u ++ M :: (v ++ [z]) = (u ++ M :: v) ++ [z] := by simp
      have e2 : u ++ (v ++ [z]) = (u ++ v) ++ [z] := by simp
      rw [List.concat_eq_append] at hl hd hM ⊢
      rw [e2] at hM
      have hd1 := nodup_mid hd
      rw [e2] at hd1
      rw [e1] at hd hl ⊢
      obtain ⟨r, _, _, hr⟩ := mid_row u M v (fun y hy => hM y (List.mem_append_left _ hy))
      have A1 := IH.an (u ++ v) (by simp at hl ⊢; omega) (nodup_front hd1)
      have A2 := IH.an ((u ++ v) ++ [z]) (by simp at hl ⊢; omega) hd1
      have A3 := IH.an (u ++ M :: v) (by simp at hl ⊢; omega) (nodup_front hd)
      rw [row_rule u M v z (fun y hy => hM y (List.mem_append_left _ hy)) (hM z (by simp)) (sh_snoc _ _) hr]
      rw [sh_snoc] at A2
      rw [hr] at A3
      split
      · rename_i e
        rw [e]
        rw [e] at A2
        exact anti_next A1 A2
      · rename_i e
        exact anti_two A1 A2 A3 e

theorem ge_all (N : Nat) (IH : Upto N) (y : Int) (u : List Int) (M : Int) (v : List Int) (b d : Nat) (hl : (y :: (u ++ M :: v)).length = N) (hd : (y :: (u ++ M :: v)).Nodup) (hM : ∀ x ∈ y :: (u ++ v), x < M) (hb : Sh (y :: (u ++ v)) = grow (Sh (u ++ v)) b) (hdd : Sh (u ++ M :: v) = grow (Sh (u ++ v)) d) :
    (b ≠ d → Sh (y :: (u ++ M :: v)) = grow (grow (Sh (u ++ v)) b) d) ∧ (b = d → ∃ s, RSh (Sh (u ++ v)) b s ∧ Sh (y :: (u ++ M :: v)) = grow (grow (Sh (u ++ v)) b) s) := by
  rcases List.eq_nil_or_concat v with rfl | ⟨v, z, rfl⟩
  · rw [List.append_nil] at *
    have hu : ∀ x ∈ u, x < M := fun x hx => hM x (by simp [hx])
    have e0 : d = 0 := grow_inj (hdd.symm.trans (sh_last u M hu))
    have e1 : Sh (y :: (u ++ [M])) = grow (grow (Sh u) b) 0 := by
      have := sh_last (y :: u) M (fun x hx => hM x (by simpa using hx))
      rw [List.cons_append] at this
      rw [this, hb]
    subst e0
    refine ⟨fun _ => e1, fun e => ?_⟩
    subst e
    exact ⟨0, rsh_self (fun i hi => absurd hi (Nat.not_lt_zero _)), e1⟩
  · rw [List.concat_eq_append] at *
    have e1 : u ++ M :: (v ++ [z]) = (u ++ M :: v) ++ [z] := by simp
    have e2 : u ++ (v ++ [z]) = (u ++ v) ++ [z] := by simp
    rw [e1] at hl hd hdd ⊢
    rw [e2] at hM hb hdd ⊢
    have hMuv : ∀ x ∈ u ++ v, x < M := fun x hx => hM x (List.mem_cons_of_mem _ (List.mem_append_left _ hx))
    have hMy : y < M := hM y (by simp)
    have hMz : z < M := hM z (by simp)
    have hMyuv : ∀ x ∈ y :: (u ++ v), x < M := fun x hx => by
      rcases List.mem_cons.1 hx with rfl | hx
      · exact hMy
      · exact hMuv x hx
    -- lists without twins
    have hd1 : ((y :: u) ++ M :: (v ++ [z])).Nodup := by rw [List.cons_append, e1]; exact hd
    have hd2 : (y :: ((u ++ v) ++ [z])).Nodup := by have := nodup_mid hd1; rw [List.cons_append, e2] at this; exact this
    have hd3 : ((u ++ v) ++ [z]).Nodup := (List.nodup_cons.1 hd2).2
    have hd4 : (y :: (u ++ v)).Nodup := by
      have : ((y :: (u ++ v)) ++ [z]).Nodup := by rw [List.cons_append]; exact hd2
      exact nodup_front this
    have hd5 : (u ++ M :: v).Nodup := nodup_front (List.nodup_cons.1 hd).2
    have hd6 : (y :: (u ++ M :: v)).Nodup := by
      have : ((y :: (u ++ M :: v)) ++ [z]).Nodup := by rw [List.cons_append]; exact hd
      exact nodup_front this
    have hL : (u ++ v).length + 3 = N := by simp at hl ⊢; omega
    have hln1 : (u ++ v).length < N := by omega
    have hln2 : ((u ++ v) ++ [z]).length < N := by rw [List.length_append]; simp only [List.length_singleton]; omega
    have hln3 : (y :: (u ++ v)).length < N := by rw [List.length_cons]; omega
    have hln4 : (y :: ((u ++ v) ++ [z])).length < N := by rw [List.length_cons, List.length_append]; simp only [List.length_singleton]; omega
    have hln5 : (u ++ M :: v).length < N := by simp at hL ⊢; omega
    have hln6 : (y :: (u ++ M :: v)).length < N := by simp at hL ⊢; omega
    -- the shapes
    obtain ⟨b0, hb0⟩ := IH.ee y (u ++ v) hln3 hd4
    obtain ⟨d0, _, _, hd0⟩ := mid_row u M v hMuv
    obtain ⟨a, ha⟩ : ∃ a, Sh ((u ++ v) ++ [z]) = grow (Sh (u ++ v)) a := ⟨_, sh_snoc _ _⟩
    obtain ⟨a', ha'⟩ : ∃ a', Sh ((y :: (u ++ v)) ++ [z]) = grow (Sh (y :: (u ++ v))) a' := ⟨_, sh_snoc _ _⟩
    have A0 := IH.an (u ++ v) hln1 (nodup_front hd3)
    have Az := IH.an _ hln2 hd3
    have Ay := IH.an _ hln3 hd4
    have Ayz := IH.an _ hln4 hd2
    have AM := IH.an _ hln5 hd5
    have hzM := row_rule u M v z hMuv hMz ha hd0
    obtain ⟨g1, g2⟩ := IH.ge y u M v b0 d0 hln6 hd6 hMyuv hb0 hd0
    have HH := IH.hh y (u ++ v) z a hln4 hd2
    have hyM : ∀ m, Sh (y :: (u ++ M :: v)) = grow (Sh (y :: (u ++ v))) m → Sh (y :: ((u ++ M :: v) ++ [z])) = if a' = m then grow (grow (Sh (y :: (u ++ v))) a') (a' + 1) else grow (grow (Sh (y :: (u ++ v))) a') m := by
      intro m hm
      exact row_rule (y :: u) M v z hMyuv hMz ha' hm
    rw [List.cons_append] at ha'
    rw [hdd, ha] at hzM
    rw [hb, ha] at Ayz
    rw [hb0] at ha' hyM Ay
    rw [hd0] at AM
    rw [hb, ha] at ha'
    rw [ha] at Az
    rw [ha] at hb ⊢
    generalize hlam : Sh (u ++ v) = f at *
    have hcase := grow_two ha'
    by_cases hab : a = b0
    · subst hab
      have hba : b = a' := by rcases hcase with h | h; exact h.2; omega
      subst hba
      have HH := HH hb0 ha
      have hc : b = a ∨ (f (a + 1) = f a ∧ b = a + 1) := by
        rw [hb] at HH
        rcases HH with h | h
        · exact .inl (grow_inj h)
        · exact .inr ⟨h.1, grow_inj h.2⟩
      by_cases hda : d0 = a
      · subst hda
        rw [if_pos rfl] at hzM
        have hd1' : d = d0 + 1 := grow_inj hzM
        obtain ⟨s, hs, hsM⟩ := g2 rfl
        have hfin := hyM s hsM
        rcases hc with rfl | ⟨hc1, rfl⟩
        · -- right of it
          have hsb : s = b := by
            have hle := hs.le
            rcases Nat.lt_or_ge s b with h1 | h1
            · exfalso
              have h2 := hs.1
              rw [grow_ne f (by omega)] at h2
              obtain ⟨c, hcb⟩ : ∃ c, b = c + 1 := ⟨b - 1, by omega⟩
              have h3 := Ayz c
              rw [← hcb, grow_at, grow_at, grow_ne _ (by omega), grow_ne _ (by omega)] at h3
              have h4 := A0.le (show s ≤ c by omega)
              omega
            · omega
          subst hsb
          rw [if_pos rfl] at hfin
          subst hd1'
          refine ⟨fun _ => hfin, fun e => by omega⟩
        · -- below it
          have hsl := hs.le
          rw [if_neg (by omega)] at hfin
          subst hd1'
          refine ⟨fun e => absurd rfl e, fun _ => ⟨s, ⟨?_, fun i hi => ?_⟩, hfin⟩⟩
          · rw [grow_ne _ (by omega), grow_ne f (show d0 + 1 ≠ d0 by omega), hs.1, hc1]
          · have := hs.2 i hi
            rw [grow_ne f (show d0 + 1 ≠ d0 by omega), grow_ne _ (show i ≠ d0 + 1 by omega), hc1]
            exact this
      · rw [if_neg (fun e => hda e.symm)] at hzM
        have hd1' : d = d0 := grow_inj hzM
        subst hd1'
        have hfin := hyM d (g1 (fun e => hda e.symm))
        have hbd : b ≠ d := by
          rcases hc with rfl | ⟨hc1, rfl⟩
          · exact fun e => hda e.symm
          · intro e
            rw [← e] at AM
            have := anti_gap AM
            omega
        rw [if_neg hbd] at hfin
        exact ⟨fun _ => hfin, fun e => absurd e hbd⟩
    · have hba : b = b0 ∧ a' = a := by
        rcases hcase with h | h
        · exact absurd h.1 hab
        · exact ⟨h.2, h.1.symm⟩
      obtain ⟨rfl, rfl⟩ := hba
      by_cases hda : a' = d0
      · subst hda
        rw [if_pos rfl] at hzM
        have hd1' : d = a' + 1 := grow_inj hzM
        have hfin := hyM a' (g1 (fun e => hab e.symm))
        rw [if_pos rfl, grow_comm f b a'] at hfin
        subst hd1'
        refine ⟨fun _ => hfin, fun e => ?_⟩
        subst e
        refine ⟨a' + 1, rsh_self (fun i hi => ?_), hfin⟩
        have h1 := anti_gap Ay
        have h2 := Az.le (show i ≤ a' by omega)
        rw [grow_at] at h2
        rw [grow_ne f (show a' + 1 ≠ a' by omega)]
        omega
      · rw [if_neg hda] at hzM
        have hd1' : d = d0 := grow_inj hzM
        subst hd1'
        by_cases hbd : b = d
        · subst hbd
          obtain ⟨s, hs, hsM⟩ := g2 rfl
          have hfin := hyM s hsM
          refine ⟨fun e => absurd rfl e, fun _ => ?_⟩
          by_cases has : a' = s
          · subst has
            rw [if_pos rfl, grow_comm f b a'] at hfin
            obtain ⟨k1, k2⟩ := hs.next A0 Ay hab
            refine ⟨a' + 1, ⟨?_, fun i hi => ?_⟩, hfin⟩
            · rw [grow_comm f a' b, grow_ne _ (by omega), k1, grow_ne f (fun e => hab e.symm)]
            · rw [grow_ne f (fun e => hab e.symm), grow_comm f a' b]
              by_cases hi2 : i = a'
              · subst hi2
                rw [grow_at, grow_ne f hab, k2]
                omega
              · rw [grow_ne _ hi2]
                exact hs.2 i (by omega)
          · rw [if_neg has, grow_comm f b a'] at hfin
            refine ⟨s, ⟨?_, fun i hi => ?_⟩, hfin⟩
            · rw [grow_comm f a' b, grow_ne _ (fun e => has e.symm), hs.1, grow_ne f (fun e => hab e.symm)]
            · have := hs.2 i hi
              rw [grow_ne f (fun e => hab e.symm), grow_comm f a' b]
              refine Nat.lt_of_lt_of_le this ?_
              exact Nat.le_add_right _ _
        · have hfin := hyM d (g1 hbd)
          rw [if_neg hda, grow_comm f b a'] at hfin
          exact ⟨fun _ => hfin, fun e => absurd e hbd⟩

theorem ee_all (N : Nat) (IH : Upto N) (y : Int) (u : List Int) (hl : (y :: u).length = N) (hd : (y :: u).Nodup) : ∃ b, Sh (y :: u) = grow (Sh u) b := by
  by_cases h0 : u = []
  · subst h0
    exact ⟨_, sh_snoc [] y⟩
  · obtain ⟨u1, M, v, rfl, hM⟩ := max_of u h0 (List.nodup_cons.1 hd).2
    have hyM : y ≠ M := fun e => (List.nodup_cons.1 hd).1 (by simp [e])
    rcases Int.lt_or_le y M with h1 | h1
    · have hd1 : ((y :: u1) ++ M :: v).Nodup := hd
      have hd2 : (y :: (u1 ++ v)).Nodup := nodup_mid hd1
      obtain ⟨b, hb⟩ := IH.ee y (u1 ++ v) (by simp at hl ⊢; omega) hd2
      obtain ⟨d, _, _, hdd⟩ := mid_row u1 M v hM
      obtain ⟨g1, g2⟩ := ge_all N IH y u1 M v b d hl hd (fun x hx => by
        rcases List.mem_cons.1 hx with rfl | hx
        · exact h1
        · exact hM x hx) hb hdd
      by_cases e : b = d
      · obtain ⟨s, _, hs⟩ := g2 e
        refine ⟨s, ?_⟩
        rw [hs, hdd, e]
      · refine ⟨b, ?_⟩
        rw [g1 e, hdd]
        exact grow_comm _ _ _
    · obtain ⟨d, _, _, hdd⟩ := mid_row [] y (u1 ++ M :: v) (fun x hx => by
        rw [List.nil_append] at hx
        rcases List.mem_append.1 hx with hx | hx
        · have := hM x (List.mem_append_left _ hx)
          omega
        · rcases List.mem_cons.1 hx with rfl | hx
          · omega
          · have := hM x (List.mem_append_right _ hx)
            omega)
      exact ⟨d, hdd⟩

/-- A greatest number at the front lies at the end of the first column. -/
theorem front_max (M : Int) (u : List Int) : (∀ x ∈ u, x < M) → u.Nodup → (∀ w : List Int, w.length < u.length → w.Nodup → Anti (Sh w)) → ∀ d, Sh (M :: u) = grow (Sh u) d → Sh u d = 0 := by
  induction u using snoc_ind with
  | h0 => intro _ _ _ d _; exact sh_nil d
  | h1 u z ih =>
    intro hM hd hA d hdd
    have hMu : ∀ x ∈ [] ++ u, x < M := fun x hx => hM x (by simp at hx; simp [hx])
    obtain ⟨d0, _, _, hd0⟩ := mid_row [] M u hMu
    rw [List.nil_append, List.nil_append] at hd0
    have hA1 : ∀ w : List Int, w.length < u.length → w.Nodup → Anti (Sh w) := fun w hw hn => hA w (by rw [List.length_append]; simp only [List.length_singleton]; omega) hn
    have h0 := ih (fun x hx => hM x (by simp [hx])) (nodup_front hd) hA1 d0 hd0
    have Au := hA u (by simp) (nodup_front hd)
    have hr := row_rule [] M u z hMu (hM z (by simp)) (sh_snoc _ _) hd0
    simp only [List.nil_append] at hr
    rw [List.cons_append, hdd, sh_snoc] at hr
    rw [sh_snoc]
    split at hr
    · rename_i e
      have := grow_inj hr
      have h2 := Au d0
      rw [this, grow_ne _ (by omega), e]
      omega
    · rename_i e
      have := grow_inj hr
      rw [this, grow_ne _ (fun h => e h.symm)]
      exact h0

theorem hh_all (N : Nat) (IH : Upto N) (y : Int) (u : List Int) (z : Int) (a : Nat) (hl : (y :: (u ++ [z])).length = N) (hd : (y :: (u ++ [z])).Nodup) (hy : Sh (y :: u) = grow (Sh u) a) (hz : Sh (u ++ [z]) = grow (Sh u) a) :
    Sh (y :: (u ++ [z])) = grow (grow (Sh u) a) a ∨ (Sh u (a + 1) = Sh u a ∧ Sh (y :: (u ++ [z])) = grow (grow (Sh u) a) (a + 1)) := by
  have hyz : y ≠ z := fun e => (List.nodup_cons.1 hd).1 (by simp [e])
  have hdu : (u ++ [z]).Nodup := (List.nodup_cons.1 hd).2
  have hlu : u.length + 2 = N := by simp at hl; omega
  have hdyu : (y :: u).Nodup := by
    have : ((y :: u) ++ [z]).Nodup := by rw [List.cons_append]; exact hd
    exact nodup_front this
  obtain ⟨p, M, q, hpq, hM⟩ := max_of (y :: (u ++ [z])) (by simp) hd
  have hall : ∀ x ∈ y :: (u ++ [z]), x ≤ M := by
    intro x hx
    rw [hpq] at hx
    rcases List.mem_append.1 hx with hx | hx
    · have := hM x (List.mem_append_left _ hx)
      omega
    · rcases List.mem_cons.1 hx with rfl | hx
      · exact Int.le_refl _
      · have := hM x (List.mem_append_right _ hx)
        omega
  have hmem : M ∈ y :: (u ++ [z]) := by rw [hpq]; simp
  by_cases hMz : M = z
  · -- z is the greatest
    subst hMz
    have h1 : ∀ x ∈ y :: u, x < M := by
      intro x hx
      have h2 := hall x (by rcases List.mem_cons.1 hx with rfl | hx; simp; simp [hx])
      have h3 : x ≠ M := by
        rintro rfl
        have : ((y :: u) ++ [x]).Nodup := by rw [List.cons_append]; exact hd
        rw [List.nodup_append] at this
        exact this.2.2 x hx x (by simp) rfl
      omega
    have e0 : a = 0 := grow_inj (hz.symm.trans (sh_last u M (fun x hx => h1 x (by simp [hx]))))
    subst e0
    left
    have := sh_last (y :: u) M h1
    rw [List.cons_append] at this
    rw [this, hy]
  · by_cases hMy : M = y
    · -- y is the greatest
      subst hMy
      have h1 : ∀ x ∈ u ++ [z], x < M := by
        intro x hx
        have h2 := hall x (List.mem_cons_of_mem _ hx)
        have h3 : x ≠ M := fun e => (List.nodup_cons.1 hd).1 (e ▸ hx)
        omega
      have h0 := front_max M u (fun x hx => h1 x (by simp [hx])) (nodup_front hdu) (fun w hw hn => IH.an w (by omega) hn) a hy
      have Au := IH.an u (by omega) (nodup_front hdu)
      right
      have h4 := Au a
      refine ⟨by omega, ?_⟩
      have hr := row_rule [] M u z (fun x hx => h1 x (by simp at hx; simp [hx])) (h1 z (by simp)) (a := a) (d := a) hz hy
      simpa using hr
    · -- the greatest lies in u
      have hMu : M ∈ u := by
        rcases List.mem_cons.1 hmem with h | h
        · exact absurd h hMy
        · rcases List.mem_append.1 h with h | h
          · exact h
          · simp at h
            exact absurd h hMz
      obtain ⟨u1, u2, rfl⟩ := List.append_of_mem hMu
      clear hpq hM hmem p q
      have hlt : ∀ x ∈ y :: ((u1 ++ u2) ++ [z]), x < M := by
        intro x hx
        have hx2 : x ∈ y :: ((u1 ++ M :: u2) ++ [z]) := by
          simp only [List.mem_cons, List.mem_append] at hx ⊢
          rcases hx with h | (h | h) | h
          · exact .inl h
          · exact .inr (.inl (.inl h))
          · exact .inr (.inl (.inr (.inr h)))
          · exact .inr (.inr h)
        have h2 := hall x hx2
        have hdd : ((y :: u1) ++ M :: (u2 ++ [z])).Nodup := by
          have : (y :: u1) ++ M :: (u2 ++ [z]) = y :: ((u1 ++ M :: u2) ++ [z]) := by simp
          rw [this]
          exact hd
        have hdd2 := (List.perm_middle (a := M) (l₁ := y :: u1) (l₂ := u2 ++ [z])).nodup_iff.1 hdd
        have h3 : x ≠ M := by
          rintro rfl
          refine (List.nodup_cons.1 hdd2).1 ?_
          simp only [List.mem_cons, List.mem_append, List.cons_append] at hx ⊢
          rcases hx with h | (h | h) | h
          · exact .inl h
          · exact .inr (.inl h)
          · exact .inr (.inr (.inl h))
          · exact .inr (.inr (.inr h))
        omega
      have hMuv : ∀ x ∈ u1 ++ u2, x < M := fun x hx => hlt x (List.mem_cons_of_mem _ (List.mem_append_left _ hx))
      have hMy' : y < M := hlt y (by simp)
      have hMz' : z < M := hlt z (by simp)
      have hMyuv : ∀ x ∈ y :: (u1 ++ u2), x < M := fun x hx => by
        rcases List.mem_cons.1 hx with rfl | hx
        · exact hMy'
        · exact hMuv x hx
      have hd1 : ((y :: u1) ++ M :: (u2 ++ [z])).Nodup := by
        have : (y :: u1) ++ M :: (u2 ++ [z]) = y :: ((u1 ++ M :: u2) ++ [z]) := by simp
        rw [this]
        exact hd
      have hd2 : (y :: ((u1 ++ u2) ++ [z])).Nodup := by
        have := nodup_mid hd1
        rw [List.cons_append, ← List.append_assoc] at this
        exact this
      have hd3 : ((u1 ++ u2) ++ [z]).Nodup := (List.nodup_cons.1 hd2).2
      have hd4 : (y :: (u1 ++ u2)).Nodup := by
        have : ((y :: (u1 ++ u2)) ++ [z]).Nodup := by rw [List.cons_append]; exact hd2
        exact nodup_front this
      have hL : (u1 ++ u2).length + 3 = N := by simp at hlu ⊢; omega
      obtain ⟨B, hB⟩ := IH.ee y (u1 ++ u2) (by rw [List.length_cons]; omega) hd4
      obtain ⟨D, _, _, hD⟩ := mid_row u1 M u2 hMuv
      obtain ⟨A, hA⟩ : ∃ A, Sh ((u1 ++ u2) ++ [z]) = grow (Sh (u1 ++ u2)) A := ⟨_, sh_snoc _ _⟩
      obtain ⟨A', hA'⟩ : ∃ A', Sh ((y :: (u1 ++ u2)) ++ [z]) = grow (Sh (y :: (u1 ++ u2))) A' := ⟨_, sh_snoc _ _⟩
      have F0 := IH.an (u1 ++ u2) (by omega) (nodup_front hd3)
      have FB := IH.an _ (by rw [List.length_cons]; omega) hd4
      have FD := IH.an (u1 ++ M :: u2) (by simp at hL ⊢; omega) (nodup_front hdu)
      have hzM := row_rule u1 M u2 z hMuv hMz' hA hD
      obtain ⟨g1, g2⟩ := IH.ge y u1 M u2 B D (by simp at hL ⊢; omega) hdyu hMyuv hB hD
      have hyM : ∀ m, Sh (y :: (u1 ++ M :: u2)) = grow (Sh (y :: (u1 ++ u2))) m → Sh (y :: ((u1 ++ M :: u2) ++ [z])) = if A' = m then grow (grow (Sh (y :: (u1 ++ u2))) A') (A' + 1) else grow (grow (Sh (y :: (u1 ++ u2))) A') m := by
        intro m hm
        exact row_rule (y :: u1) M u2 z hMyuv hMz' hA' hm
      have HH := IH.hh y (u1 ++ u2) z
      obtain ⟨b2, hb2⟩ := IH.ee y ((u1 ++ u2) ++ [z]) (by rw [List.length_cons, List.length_append]; simp only [List.length_singleton]; omega) hd2
      have HH := fun a => HH a (by rw [List.length_cons, List.length_append]; simp only [List.length_singleton]; omega) hd2
      rw [hz, hD] at hzM
      rw [hD] at hy hz FD ⊢
      rw [hB] at FB hA' hyM
      rw [List.cons_append] at hA'
      rw [hy] at g1 g2 hyM
      rw [hA] at hb2
      generalize hlam : Sh (u1 ++ u2) = f at *
      by_cases hAB : A = B
      · subst hAB
        have hc : A' = A ∨ (f (A + 1) = f A ∧ A' = A + 1) := by
          rcases HH A hB hA with h | h
          · exact .inl (grow_inj (hA'.symm.trans h))
          · exact .inr ⟨h.1, grow_inj (hA'.symm.trans h.2)⟩
        by_cases hDA : A = D
        · exfalso
          subst hDA
          rw [if_pos rfl] at hzM
          have h1 := grow_inj hzM
          obtain ⟨s, hs, hsM⟩ := g2 rfl
          have h2 := grow_inj hsM
          have := hs.le
          omega
        · rw [if_neg hDA, grow_comm f A D] at hzM
          have haA : a = A := grow_inj hzM
          subst haA
          have hfin := hyM D (by rw [g1 hDA])
          have hAD : A' ≠ D := by
            rcases hc with rfl | ⟨hc1, rfl⟩
            · exact hDA
            · intro e
              rw [← e] at FD
              have := anti_gap FD
              omega
          rw [if_neg hAD] at hfin
          have e5 : grow (grow (grow f a) A') D = grow (grow (grow f D) a) A' := by
            rw [grow_comm (grow f a) A' D, grow_comm f a D]
          rw [hfin, e5]
          rcases hc with rfl | ⟨hc1, rfl⟩
          · exact .inl rfl
          · refine .inr ⟨?_, rfl⟩
            rw [grow_ne f hAD, grow_ne f hDA]
            exact hc1
      · have hA2 : A' = A := by
          rw [hb2] at hA'
          rcases grow_two hA' with h | h
          · exact absurd h.1 hAB
          · exact h.1.symm
        subst hA2
        by_cases hDA : A' = D
        · subst hDA
          rw [if_pos rfl] at hzM
          have h1 : a = A' + 1 := grow_inj hzM
          have hBa : B = a := by
            have := g1 (fun e => hAB e.symm)
            rw [grow_comm f B A'] at this
            exact (grow_inj this).symm
          have hfin := hyM A' (by rw [g1 (fun e => hAB e.symm)])
          rw [if_pos rfl] at hfin
          left
          rw [hfin, hBa, ← h1, grow_comm f a A']
        · rw [if_neg hDA, grow_comm f A' D] at hzM
          have haA : a = A' := grow_inj hzM
          subst haA
          by_cases hBD : B = D
          · subst hBD
            obtain ⟨s, hs, hsM⟩ := g2 rfl
            have hsa : a = s := grow_inj hsM
            subst hsa
            have hfin := hyM a rfl
            rw [if_pos rfl] at hfin
            obtain ⟨k1, k2⟩ := hs.next F0 FB hDA
            right
            refine ⟨?_, hfin⟩
            rw [k1, hs.1]
          · exfalso
            have := g1 hBD
            rw [grow_comm f B D] at this
            exact hAB (grow_inj this)

theorem upto_all : ∀ N, Upto N
  | 0 => ⟨fun _ h => absurd h (Nat.not_lt_zero _), fun _ _ _ _ _ _ h => absurd h (Nat.not_lt_zero _), fun _ _ h => absurd h (Nat.not_lt_zero _), fun _ _ _ _ h => absurd h (Nat.not_lt_zero _)⟩
  | N + 1 => by
    have IH := upto_all N
    refine ⟨fun w hw hd => ?_, fun y u M v b d hl hd hM hb hdd => ?_, fun y u hl hd => ?_, fun y u z a hl hd hy hz => ?_⟩
    · rcases Nat.lt_or_ge w.length N with h | h
      · exact IH.an w h hd
      · exact anti_all N IH w (by omega) hd
    · rcases Nat.lt_or_ge (y :: (u ++ M :: v)).length N with h | h
      · exact IH.ge y u M v b d h hd hM hb hdd
      · exact ge_all N IH y u M v b d (by omega) hd hM hb hdd
    · rcases Nat.lt_or_ge (y :: u).length N with h | h
      · exact IH.ee y u h hd
      · exact ee_all N IH y u (by omega) hd
    · rcases Nat.lt_or_ge (y :: (u ++ [z])).length N with h | h
      · exact IH.hh y u z a h hd hy hz
      · exact hh_all N IH y u z a (by omega) hd hy hz

theorem anti_sh {w : List Int} (h : w.Nodup) : Anti (Sh w) := (upto_all (w.length + 1)).an w (Nat.lt_succ_self _) h

end Go.Proofs.YtmdpfadfimodjaaDoor

/-
  From behind the rows are columns: the transpose, entry by entry. Plain facts; no program, no memory.
-/
namespace Go.Proofs.YtmdpfadfimodjaaDoor

/-- The one's rows are the other's columns. -/
def Tr (f g : Nat → Nat) : Prop := ∀ i k, k < f i ↔ i < g k
theorem tr_grow {f g : Nat → Nat} {r c : Nat} (h : Tr f g) (hc : c = f r) (hr : r = g c) : Tr (grow f r) (grow g c) := by
  intro i k
  have h1 := h i k
  have h2 := h r k
  have h3 := h i c
  simp only [grow]
  have p1 := ind i r
  have p2 := ind k c
  by_cases e1 : i = r
  · by_cases e2 : k = c
    · subst e1
      subst e2
      simp
      omega
    · subst e1
      simp only [if_pos, if_neg e2]
      omega
  · by_cases e2 : k = c
    · subst e2
      simp only [if_pos, if_neg e1]
      omega
    · simp only [if_neg e1, if_neg e2]
      omega
theorem tr_inv {f g : Nat → Nat} {a b : Nat} (h : Tr f g) (h2 : Tr (grow f a) (grow g b)) : b = f a ∧ a = g b := by
  have h3 := (h2 a (f a)).1 (by rw [grow_at]; omega)
  have h4 : ¬ a < g (f a) := fun e => by have := (h a (f a)).2 e; omega
  by_cases e : f a = b
  · subst e
    rw [grow_at] at h3
    exact ⟨rfl, by omega⟩
  · rw [grow_ne g e] at h3
    exact absurd h3 h4

theorem tr_all : ∀ (N : Nat) (w : List Int), w.length = N → w.Nodup → Tr (Sh w) (Sh w.reverse)
  | N, w, hl, hd => by
    by_cases h0 : w = []
    · subst h0
      intro i k
      rw [List.reverse_nil, sh_nil, sh_nil]
      omega
    · obtain ⟨u, M, v, rfl, hM⟩ := max_of w h0 hd
      have hdr : (u ++ M :: v).reverse.Nodup := (List.reverse_perm _).nodup_iff.2 hd
      rcases List.eq_nil_or_concat v with rfl | ⟨v, z, rfl⟩
      · have hu : ∀ x ∈ u, x < M := fun x hx => hM x (by simp [hx])
        have hdu := nodup_front hd
        have IH := tr_all u.length u rfl hdu
        rw [sh_last u M hu]
        have er : (u ++ [M]).reverse = [] ++ M :: u.reverse := by simp
        rw [er]
        obtain ⟨d, _, _, hdd⟩ := mid_row [] M u.reverse (fun x hx => hu x (by simpa using hx))
        rw [hdd]
        simp only [List.nil_append] at hdd ⊢
        have hz := front_max M u.reverse (fun x hx => hu x (by simpa using hx)) ((List.reverse_perm _).nodup_iff.2 hdu) (fun w _ hn => anti_sh hn) d hdd
        rw [er, List.nil_append] at hdr
        have hA := anti_sh hdr
        rw [hdd] at hA
        have hd0 : d = Sh u 0 := by
          have h1 : ¬ d < Sh u 0 := fun e => by have := (IH 0 d).1 e; omega
          rcases Nat.eq_zero_or_pos d with h2 | h2
          · omega
          · obtain ⟨c, rfl⟩ : ∃ c, d = c + 1 := ⟨d - 1, by omega⟩
            have h3 := anti_gap hA
            have h4 := (IH 0 c).2 (by omega)
            omega
        exact tr_grow IH hd0 hz.symm
      · rw [List.concat_eq_append] at *
        have e1 : u ++ M :: (v ++ [z]) = (u ++ M :: v) ++ [z] := by simp
        have e2 : u ++ (v ++ [z]) = (u ++ v) ++ [z] := by simp
        rw [e2] at hM
        have hdm := nodup_mid hd
        rw [e2] at hdm
        rw [e1] at hd hl ⊢
        have hMuv : ∀ x ∈ u ++ v, x < M := fun x hx => hM x (List.mem_append_left _ hx)
        have hMz : z < M := hM z (by simp)
        have hln : (u ++ v).length + 2 = N := by simp at hl ⊢; omega
        have T0 := tr_all (u ++ v).length (u ++ v) rfl (nodup_front hdm)
        have Tz := tr_all ((u ++ v) ++ [z]).length ((u ++ v) ++ [z]) rfl hdm
        have TM := tr_all (u ++ M :: v).length (u ++ M :: v) rfl (nodup_front hd)
        have r0 : (u ++ v).reverse = v.reverse ++ u.reverse := by simp
        have rz : ((u ++ v) ++ [z]).reverse = z :: (v.reverse ++ u.reverse) := by simp
        have rM : (u ++ M :: v).reverse = v.reverse ++ M :: u.reverse := by simp
        have rzM : ((u ++ M :: v) ++ [z]).reverse = z :: (v.reverse ++ M :: u.reverse) := by simp
        rw [r0] at T0
        rw [rz] at Tz
        rw [rM] at TM
        rw [rzM]
        have hdz : (z :: (v.reverse ++ u.reverse)).Nodup := by rw [← rz]; exact (List.reverse_perm _).nodup_iff.2 hdm
        have hdzM : (z :: (v.reverse ++ M :: u.reverse)).Nodup := by rw [← rzM]; exact (List.reverse_perm _).nodup_iff.2 hd
        obtain ⟨a, ha⟩ : ∃ a, Sh ((u ++ v) ++ [z]) = grow (Sh (u ++ v)) a := ⟨_, sh_snoc _ _⟩
        obtain ⟨d, _, _, hdd⟩ := mid_row u M v hMuv
        obtain ⟨b, hb⟩ := (upto_all _).ee z (v.reverse ++ u.reverse) (Nat.lt_succ_self _) hdz
        have hMr : ∀ x ∈ v.reverse ++ u.reverse, x < M := fun x hx => hMuv x (by simp only [List.mem_append, List.mem_reverse] at hx ⊢; exact hx.symm)
        obtain ⟨d', _, _, hd'⟩ := mid_row v.reverse M u.reverse hMr
        obtain ⟨g1, g2⟩ := (upto_all _).ge z v.reverse M u.reverse b d' (Nat.lt_succ_self _) hdzM (fun x hx => by
          rcases List.mem_cons.1 hx with rfl | hx
          · exact hMz
          · exact hMr x hx) hb hd'
        have hr := row_rule u M v z hMuv hMz ha hdd
        rw [ha, hb] at Tz
        rw [hdd, hd'] at TM
        obtain ⟨q1, q2⟩ := tr_inv T0 Tz
        obtain ⟨q3, q4⟩ := tr_inv T0 TM
        rw [hr]
        by_cases e : a = d
        · subst e
          have hbd : b = d' := q1.trans q3.symm
          subst hbd
          rw [if_pos rfl]
          obtain ⟨s, hs, hsM⟩ := g2 rfl
          rw [hsM]
          refine tr_grow Tz ?_ ?_
          · have k1 : ¬ s < grow (Sh (u ++ v)) a (a + 1) := fun e => by
              have := (Tz (a + 1) s).1 e
              rw [hs.1] at this
              omega
            rcases Nat.eq_zero_or_pos s with h2 | h2
            · omega
            · obtain ⟨c, rfl⟩ : ∃ c, s = c + 1 := ⟨s - 1, by omega⟩
              have h3 := hs.2 c (by omega)
              have h4 := (Tz (a + 1) c).2 (by omega)
              omega
          · rw [hs.1]
            omega
        · rw [if_neg e]
          have hbd : b ≠ d' := fun e2 => e (by rw [q2, q4, e2])
          rw [g1 hbd]
          refine tr_grow Tz ?_ ?_
          · rw [grow_ne _ (fun h => e h.symm)]
            exact q3
          · rw [grow_ne _ (fun h => hbd h.symm)]
            exact q4
  termination_by N w _ _ => w.length
  decreasing_by
    all_goals simp_wf
    all_goals (try simp at *)
    all_goals (try omega)

/-- What stands in row i at place k. -/
def tget (T : List (List Int)) (i k : Nat) : Option Int := (T.getD i [])[k]?
theorem tget_tadd : ∀ (T : List (List Int)) (r : Nat) (M : Int) (i k : Nat), r ≤ T.length → tget (tadd T r M) i k = if i = r ∧ k = tlen T r then some M else tget T i k
  | [], r, M, i, k, h => by
    have : r = 0 := by simpa using h
    subst this
    cases i with
    | zero =>
      cases k with
      | zero => simp [tadd, tget, tlen]
      | succ k => simp [tadd, tget, tlen]
    | succ i => simp [tadd, tget]
  | row :: T, 0, M, i, k, _ => by
    cases i with
    | zero =>
      rw [tadd]
      simp only [tget, tlen, List.getD_cons_zero, true_and]
      by_cases e : k = row.length
      · subst e
        simp
      · rw [if_neg e, List.getElem?_append]
        split
        · rfl
        · rw [List.getElem?_eq_none (by simp; omega), List.getElem?_eq_none (by omega)]
    | succ i => simp [tadd, tget]
  | row :: T, r + 1, M, i, k, h => by
    cases i with
    | zero => simp [tadd, tget]
    | succ i =>
      have := tget_tadd T r M i k (by simpa using h)
      simp only [tget, tlen] at this
      simp only [tadd, tget, tlen, List.getD_cons_succ, this, Nat.add_right_cancel_iff]
      rfl

/-- SCHENSTED. -/
theorem turned_behind : ∀ (N : Nat) (w : List Int), w.length = N → w.Nodup → ∀ i k, tget (PT w) i k = tget (PT w.reverse) k i
  | 0, w, hl, _ => by
    have : w = [] := List.eq_nil_of_length_eq_zero hl
    subst this
    intro i k
    simp [PT_nil, tget]
  | N + 1, w, hl, hd => by
    obtain ⟨u, M, v, rfl, hM⟩ := max_of w (by rintro rfl; simp at hl) hd
    have hdm := nodup_mid hd
    have IH := turned_behind N (u ++ v) (by simp at hl ⊢; omega) hdm
    have T0 := tr_all _ (u ++ v) rfl hdm
    have T1 := tr_all _ _ rfl hd
    have r0 : (u ++ v).reverse = v.reverse ++ u.reverse := by simp
    have rM : (u ++ M :: v).reverse = v.reverse ++ M :: u.reverse := by simp
    have hMr : ∀ x ∈ v.reverse ++ u.reverse, x < M := fun x hx => hM x (by simp only [List.mem_append, List.mem_reverse] at hx ⊢; exact hx.symm)
    obtain ⟨d, hd1, hd2, hd3⟩ := mid_row u M v hM
    obtain ⟨d', hd1', hd2', hd3'⟩ := mid_row v.reverse M u.reverse hMr
    rw [r0] at T0 IH
    rw [rM] at T1 ⊢
    rw [hd3, hd3'] at T1
    obtain ⟨q1, q2⟩ := tr_inv T0 T1
    intro i k
    rw [hd2, hd2', tget_tadd _ _ _ _ _ hd1, tget_tadd _ _ _ _ _ hd1', IH i k]
    have q1' : d' = tlen (PT (u ++ v)) d := q1
    have q2' : d = tlen (PT (v.reverse ++ u.reverse)) d' := q2
    rw [← q1', ← q2']
    by_cases e : i = d ∧ k = d'
    · rw [if_pos e, if_pos ⟨e.2, e.1⟩]
    · rw [if_neg e, if_neg (fun h => e ⟨h.2, h.1⟩)]

/-! ### No row is empty -/
theorem tadd_full : ∀ (T : List (List Int)) (r : Nat) (M : Int), (∀ x ∈ T, x ≠ []) → ∀ x ∈ tadd T r M, x ≠ []
  | [], r, M, _ => by cases r <;> simp [tadd]
  | row :: T, 0, M, h => by
    intro x hx
    rw [tadd] at hx
    rcases List.mem_cons.1 hx with rfl | hx
    · simp
    · exact h x (by simp [hx])
  | row :: T, r + 1, M, h => by
    intro x hx
    rw [tadd] at hx
    rcases List.mem_cons.1 hx with rfl | hx
    · exact h x (by simp)
    · exact tadd_full T r M (fun y hy => h y (by simp [hy])) x hx
theorem tin_full : ∀ (T : List (List Int)) (x : Int), (∀ r ∈ T, r ≠ []) → ∀ r ∈ (tin T x).1, r ≠ []
  | [], x, _ => by simp [tin]
  | row :: T, x, h => by
    intro r hr
    rcases rin_cases x row with h1 | ⟨l1, y, l2, rfl, h1, h2⟩
    · rw [tin_all T h1] at hr
      rcases List.mem_cons.1 hr with rfl | hr
      · simp
      · exact h r (by simp [hr])
    · rw [tin_at l2 T h1 h2] at hr
      rcases List.mem_cons.1 hr with rfl | hr
      · simp
      · exact tin_full T y (fun y hy => h y (by simp [hy])) r hr
theorem PT_full (w : List Int) : ∀ r ∈ PT w, r ≠ [] := by
  induction w using snoc_ind with
  | h0 => simp [PT_nil]
  | h1 w x ih => rw [PT_snoc]; exact tin_full _ _ ih
theorem QT_full (w : List Int) : ∀ r ∈ QT w, r ≠ [] := by
  induction w using snoc_ind with
  | h0 => simp [QT_nil]
  | h1 w x ih => rw [QT_snoc]; exact tadd_full _ _ _ ih
theorem full_iff {T : List (List Int)} (h : ∀ r ∈ T, r ≠ []) (i : Nat) : i < T.length ↔ 0 < tlen T i := by
  constructor
  · intro hi
    have h1 : T.getD i [] ∈ T := by
      rw [List.getD_eq_getElem?_getD, List.getElem?_eq_getElem hi]
      exact List.getElem_mem hi
    exact List.length_pos_iff.2 (h _ h1)
  · intro hi
    rcases Nat.lt_or_ge i T.length with h1 | h1
    · exact h1
    · rw [tlen, List.getD_eq_getElem?_getD, List.getElem?_eq_none h1] at hi
      simp at hi
/-- As many rows from behind as the first row is long. -/
theorem rows_behind {w : List Int} (hd : w.Nodup) : (PT w.reverse).length = tlen (PT w) 0 := by
  have T0 := tr_all _ w rfl hd
  have h1 : ∀ k, k < tlen (PT w) 0 ↔ k < (PT w.reverse).length := fun k => (T0 0 k).trans (full_iff (PT_full _) k).symm
  rcases Nat.lt_trichotomy (PT w.reverse).length (tlen (PT w) 0) with h | h | h
  · have := (h1 _).1 h
    omega
  · exact h
  · have := (h1 _).2 h
    omega

end Go.Proofs.YtmdpfadfimodjaaDoor
