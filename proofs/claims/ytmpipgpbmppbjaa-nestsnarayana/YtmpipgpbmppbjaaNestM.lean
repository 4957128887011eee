/-
  Balanced strings as plain mathematics: how many, errors, numbers, and back.
-/
import Derived.Test.YtmpipgpbmppbjaaSubM
namespace Go.Proofs.Ytmpipgpbmppbjaa

/-- Pascal's triangle, row by row. -/
def pasGo : Nat → List Nat → List Nat
  | p, [] => [p]
  | p, x :: l => (p + x) :: pasGo x l
def pas : Nat → List Nat
  | 0 => [1]
  | n + 1 => pasGo 0 (pas n)
theorem pasGo_zero : ∀ (p : Nat) (l : List Nat), (pasGo p l).getD 0 0 = p + l.getD 0 0
  | _, [] => rfl
  | _, _ :: _ => rfl
theorem pasGo_succ : ∀ (p : Nat) (l : List Nat) (k : Nat), (pasGo p l).getD (k + 1) 0 = l.getD k 0 + l.getD (k + 1) 0
  | _, [], _ => by simp [pasGo]
  | _, x :: l, 0 => by
    have := pasGo_zero x l
    simpa [pasGo] using this
  | _, x :: l, k + 1 => by
    have := pasGo_succ x l k
    simpa [pasGo] using this
theorem pas_cho : ∀ n k : Nat, (pas n).getD k 0 = cho n k
  | 0, 0 => rfl
  | 0, k + 1 => by simp [pas, cho]
  | n + 1, 0 => by
    rw [pas, pasGo_zero, pas_cho n 0, cho_zero, cho_zero]
  | n + 1, k + 1 => by
    rw [pas, pasGo_succ, pas_cho n k, pas_cho n (k + 1), cho_succ]

/-- With so many opening and closing ones left: in how many ways, row by row. -/
def balGo (o : Nat) : Nat → Nat → List Nat → List Nat
  | _, _, [] => []
  | c, acc, x :: l => (if c < o then 0 else x + acc) :: balGo o (c + 1) (if c < o then 0 else x + acc) l
def balRow : Nat → List Nat
  | 0 => [1, 1, 1, 1, 1, 1, 1, 1, 1, 1, 1, 1, 1, 1, 1, 1]
  | o + 1 => balGo (o + 1) 0 0 (balRow o)
def bal (o c : Nat) : Nat := (balRow o).getD c 0
theorem bal_zero {c : Nat} (hc : c < 16) : bal 0 c = 1 :=
  (by decide +kernel : ∀ c : Fin 16, bal 0 c.val = 1) ⟨c, hc⟩
theorem bal_low {o c : Nat} (ho : o < 16) (hc : c < 16) (h : c < o) : bal o c = 0 :=
  (by decide +kernel : ∀ o c : Fin 16, c.val < o.val → bal o.val c.val = 0) ⟨o, ho⟩ ⟨c, hc⟩ h
theorem bal_step {o c : Nat} (hc : c < 15) (h : o ≤ c) : bal (o + 1) (c + 1) = bal o (c + 1) + bal (o + 1) c :=
  (by decide +kernel : ∀ o c : Fin 15, o.val ≤ c.val → bal (o.val + 1) (c.val + 1) = bal o.val (c.val + 1) + bal (o.val + 1) c.val) ⟨o, by omega⟩ ⟨c, hc⟩ h
theorem bal_le {o c : Nat} (ho : o < 16) (hc : c < 16) : bal o c ≤ 9694845 :=
  (by decide +kernel : ∀ o c : Fin 16, bal o.val c.val ≤ 9694845) ⟨o, ho⟩ ⟨c, hc⟩
theorem bal_pos {o c : Nat} (hc : c < 16) (h : o ≤ c) : 0 < bal o c :=
  (by decide +kernel : ∀ o c : Fin 16, o.val ≤ c.val → 0 < bal o.val c.val) ⟨o, by omega⟩ ⟨c, hc⟩ h
/-- Those that go on with an opening one. -/
def balOp (o c : Nat) : Nat := if 0 < o then bal (o - 1) c else 0
theorem bal_op {o c : Nat} (hc : c < 16) (h0 : 0 < c) (h : o ≤ c) : bal o c = balOp o c + bal o (c - 1) :=
  (by decide +kernel : ∀ o c : Fin 16, 0 < c.val → o.val ≤ c.val → bal o.val c.val = balOp o.val c.val + bal o.val (c.val - 1)) ⟨o, by omega⟩ ⟨c, hc⟩ h0 h
theorem balOp_le {o c : Nat} (ho : o < 16) (hc : c < 16) : balOp o c ≤ 9694845 := by
  unfold balOp
  split
  · exact bal_le (by omega) hc
  · omega

/-- What is wrong with a string, from a height on. -/
def perr : List UInt8 → Nat → Int
  | [], h => if 0 < h then 6 else 0
  | x :: l, h => if x = 40 then perr l (h + 1) else if x = 41 then (if h = 0 then 3 else perr l (h - 1)) else 1
def nestE (l : List UInt8) : Int := if 30 < l.length then 2 else perr l 0

theorem perr_open (l : List UInt8) (h : Nat) : perr (40 :: l) h = perr l (h + 1) := rfl
theorem perr_close (l : List UInt8) (h : Nat) (hh : 0 < h) : perr (41 :: l) h = perr l (h - 1) := by
  rw [perr, if_neg (by decide), if_pos rfl, if_neg (by omega)]
/-- What is right ends at the bottom. -/
theorem perr_len : ∀ (l : List UInt8) (h : Nat), perr l h = 0 → h ≤ l.length ∧ (l.length - h) % 2 = 0
  | [], h, e => by
    simp only [perr] at e
    split at e
    · omega
    · simp; omega
  | x :: l, h, e => by
    simp only [perr] at e
    split at e
    · have := perr_len l (h + 1) e
      simp only [List.length_cons]
      omega
    · split at e
      · split at e
        · omega
        · have := perr_len l (h - 1) e
          simp only [List.length_cons]
          omega
      · omega
theorem perr_first {x : UInt8} {l : List UInt8} {h : Nat} (e : perr (x :: l) h = 0) : (x = 40 ∧ perr l (h + 1) = 0) ∨ (x = 41 ∧ 0 < h ∧ perr l (h - 1) = 0) := by
  simp only [perr] at e
  split at e
  · exact .inl ⟨‹_›, e⟩
  · split at e
    · split at e
      · omega
      · exact .inr ⟨‹_›, by omega, e⟩
    · omega

/-- The number of a string, with so many left. -/
def nrk : List UInt8 → Nat → Nat → Nat
  | [], _, _ => 0
  | x :: l, o, c => if x = 40 then nrk l (o - 1) c else balOp o c + nrk l o (c - 1)
theorem nrk_le : ∀ (l : List UInt8) (o c : Nat), o < 16 → c < 16 → nrk l o c ≤ 9694845 * l.length
  | [], _, _, _, _ => Nat.zero_le _
  | x :: l, o, c, ho, hc => by
    rw [nrk, List.length_cons]
    split
    · have := nrk_le l (o - 1) c (by omega) hc
      omega
    · have h1 := nrk_le l o (c - 1) ho (by omega)
      have h2 := balOp_le ho hc
      omega
/-- The string of a number. -/
def nun : Nat → Nat → Nat → Nat → List UInt8
  | 0, _, _, _ => []
  | f + 1, o, c, k => if k < balOp o c then 40 :: nun f (o - 1) c k else 41 :: nun f o (c - 1) (k - balOp o c)
theorem nun_len : ∀ (f o c k : Nat), (nun f o c k).length = f
  | 0, _, _, _ => rfl
  | f + 1, o, c, k => by
    rw [nun]
    split
    · rw [List.length_cons, nun_len]
    · rw [List.length_cons, nun_len]
theorem balOp_pos {o c k : Nat} (h : k < balOp o c) : 0 < o ∧ k < bal (o - 1) c := by
  unfold balOp at h
  split at h
  · exact ⟨‹_›, h⟩
  · omega
theorem nun_rest {o c k : Nat} (hc : c < 16) (h0 : 0 < c) (h : o ≤ c) (hk : k < bal o c) (hn : ¬ k < balOp o c) : k - balOp o c < bal o (c - 1) ∧ o ≤ c - 1 := by
  have h1 := bal_op hc h0 h
  refine ⟨by omega, ?_⟩
  by_cases e : c - 1 < o
  · have := bal_low (o := o) (c := c - 1) (by omega) (by omega) e
    omega
  · omega
theorem nun_ok : ∀ (f o c k : Nat), f = o + c → o ≤ c → c < 16 → k < bal o c → perr (nun f o c k) (c - o) = 0 ∧ nrk (nun f o c k) o c = k
  | 0, o, c, k, hf, ho, hc, hk => by
    have : o = 0 := by omega
    subst this
    have : c = 0 := by omega
    subst this
    rw [bal_zero hc] at hk
    exact ⟨rfl, by rw [nun, nrk]; omega⟩
  | f + 1, o, c, k, hf, ho, hc, hk => by
    rw [nun]
    by_cases h : k < balOp o c
    · rw [if_pos h]
      obtain ⟨h1, h2⟩ := balOp_pos h
      have := nun_ok f (o - 1) c k (by omega) (by omega) hc h2
      rw [perr_open, nrk, if_pos rfl, show c - o + 1 = c - (o - 1) by omega]
      exact this
    · rw [if_neg h]
      obtain ⟨h1, h2⟩ := nun_rest hc (by omega) ho hk h
      have := nun_ok f o (c - 1) (k - balOp o c) (by omega) h2 (by omega) h1
      rw [perr_close _ _ (by omega), nrk, if_neg (by decide), show c - o - 1 = c - 1 - o by omega]
      refine ⟨this.1, ?_⟩
      rw [this.2]
      omega
theorem nun_nest {n k : Nat} (hn : n < 16) (hk : k < bal n n) : nestE (nun (n + n) n n k) = 0 ∧ nrk (nun (n + n) n n k) n n = k := by
  have := nun_ok (n + n) n n k rfl (Nat.le_refl _) hn hk
  rw [Nat.sub_self] at this
  refine ⟨?_, this.2⟩
  unfold nestE
  rw [nun_len, if_neg (by omega)]
  exact this.1

end Go.Proofs.Ytmpipgpbmppbjaa
