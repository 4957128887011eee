/-
  Rows of places that rise, each of which may stand behind the one ahead of it; the longest ones, reckoned from behind (P42). Plain facts; no program, no memory.
-/
import Derived.Test.YtdcmknnmdiocdaaBase
namespace Go.Proofs.Ytdcmknnmdiocdaa

/-- A row of places below n: each stands behind the one ahead of it, and may do so. -/
def Line (f : Nat → Nat → Bool) (n : Nat) : List Nat → Prop
  | [] => True
  | i :: c => i < n ∧ (∀ j, c.head? = some j → i < j ∧ f i j = true) ∧ Line f n c
theorem Line.head {f : Nat → Nat → Bool} {n i : Nat} {c : List Nat} (h : Line f n (i :: c)) : i < n := h.1
theorem Line.tail {f : Nat → Nat → Bool} {n i : Nat} {c : List Nat} (h : Line f n (i :: c)) : Line f n c := h.2.2
theorem Line.two {f : Nat → Nat → Bool} {n i j : Nat} {c : List Nat} (h : Line f n (i :: j :: c)) : i < j ∧ f i j = true := h.2.1 j rfl
theorem line_nil (f : Nat → Nat → Bool) (n : Nat) : Line f n [] := trivial
theorem line_one {f : Nat → Nat → Bool} {n i : Nat} (h : i < n) : Line f n [i] := ⟨h, fun j hj => by simp at hj, trivial⟩
theorem line_cons {f : Nat → Nat → Bool} {n i j : Nat} {c : List Nat} (hij : i < j) (hf : f i j = true) (h : Line f n (j :: c)) : Line f n (i :: j :: c) :=
  ⟨Nat.lt_trans hij h.1, fun k hk => by simp at hk; subst hk; exact ⟨hij, hf⟩, h⟩
theorem Line.lt {f : Nat → Nat → Bool} {n : Nat} : ∀ {c : List Nat}, Line f n c → ∀ i ∈ c, i < n
  | i :: c, h, k, hk => by
    rcases List.mem_cons.1 hk with rfl | hk
    · exact h.head
    · exact h.tail.lt k hk
/-- The same row under another law. -/
theorem Line.law {f g : Nat → Nat → Bool} {n m : Nat} : ∀ {c : List Nat}, Line f n c → (∀ i ∈ c, i < m) → (∀ i ∈ c, ∀ j ∈ c, i < j → f i j = true → g i j = true) → Line g m c
  | [], _, _, _ => trivial
  | i :: c, h, hm, hg => by
    refine ⟨hm i (by simp), fun j hj => ?_, h.tail.law (fun k hk => hm k (by simp [hk])) (fun k hk l hl => hg k (by simp [hk]) l (by simp [hl]))⟩
    obtain ⟨h1, h2⟩ := h.2.1 j hj
    exact ⟨h1, hg i (by simp) j (by simp [List.mem_of_mem_head? hj]) h1 h2⟩
/-- Each pair of a row's places, where the law carries over. -/
theorem Line.pairs {f : Nat → Nat → Bool} {n : Nat} {R : Nat → Nat → Prop} (hR : ∀ i j, i < j → j < n → f i j = true → R i j) (ht : ∀ i j k, R i j → R j k → R i k) : ∀ {c : List Nat}, Line f n c → c.Pairwise R
  | [], _ => .nil
  | [i], _ => by simp
  | i :: j :: c, h => by
    have ih := Line.pairs hR ht (c := j :: c) h.tail
    have hij : R i j := hR i j h.two.1 h.tail.head h.two.2
    refine List.Pairwise.cons ?_ ih
    intro k hk
    rcases List.mem_cons.1 hk with rfl | hk
    · exact hij
    · exact ht i j k hij ((List.pairwise_cons.1 ih).1 k hk)
theorem Line.rising {f : Nat → Nat → Bool} {n : Nat} {c : List Nat} (h : Line f n c) : c.Pairwise (· < ·) := h.pairs (fun _ _ h1 _ _ => h1) (fun _ _ _ h1 h2 => Nat.lt_trans h1 h2)
/-- Pairs that may stand so make a row. -/
theorem line_of_pairs {f : Nat → Nat → Bool} {n : Nat} : ∀ {c : List Nat}, (∀ i ∈ c, i < n) → c.Pairwise (fun i j => i < j ∧ f i j = true) → Line f n c
  | [], _, _ => trivial
  | i :: c, h, hp => by
    obtain ⟨h1, h2⟩ := List.pairwise_cons.1 hp
    exact ⟨h i (by simp), fun j hj => h1 j (List.mem_of_mem_head? hj), line_of_pairs (fun k hk => h k (by simp [hk])) h2⟩
theorem line_append {f : Nat → Nat → Bool} {n i : Nat} : ∀ {c : List Nat}, Line f n c → i < n → (∀ k, c.getLast? = some k → k < i ∧ f k i = true) → Line f n (c ++ [i])
  | [], _, hi, _ => line_one hi
  | [k], h, hi, hl => line_cons (hl k rfl).1 (hl k rfl).2 (line_one hi)
  | k :: j :: c, h, hi, hl => by
    have ih := line_append (c := j :: c) h.tail hi (fun l hl' => hl l (by simpa using hl'))
    exact line_cons h.two.1 h.two.2 ih

/-- m is the length of the longest row that begins with i. -/
def Far (f : Nat → Nat → Bool) (n i m : Nat) : Prop := (∃ c, Line f n (i :: c) ∧ c.length + 1 = m) ∧ ∀ c, Line f n (i :: c) → c.length + 1 ≤ m
/-- m is the length of the longest row. -/
def Longest (f : Nat → Nat → Bool) (n m : Nat) : Prop := (∃ c, Line f n c ∧ c.length = m) ∧ ∀ c, Line f n c → c.length ≤ m
theorem Far.eq {f : Nat → Nat → Bool} {n i a b : Nat} (h : Far f n i a) (k : Far f n i b) : a = b := by
  obtain ⟨c, h1, h2⟩ := h.1
  obtain ⟨d, k1, k2⟩ := k.1
  have := h.2 d k1
  have := k.2 c h1
  omega
theorem Longest.eq {f : Nat → Nat → Bool} {n a b : Nat} (h : Longest f n a) (k : Longest f n b) : a = b := by
  obtain ⟨c, h1, h2⟩ := h.1
  obtain ⟨d, k1, k2⟩ := k.1
  have := h.2 d k1
  have := k.2 c h1
  omega
theorem Far.lt {f : Nat → Nat → Bool} {n i m : Nat} (h : Far f n i m) : i < n ∧ 0 < m := by
  obtain ⟨c, h1, h2⟩ := h.1
  exact ⟨h1.head, by omega⟩
theorem nodup_short {n : Nat} : ∀ {c : List Nat}, c.Pairwise (· < ·) → (∀ i ∈ c, i < n) → ∀ b, (∀ i ∈ c, b ≤ i) → b ≤ n → c.length + b ≤ n
  | [], _, _, b, _, hb => by simpa using hb
  | i :: c, hp, h, b, hb, _ => by
    obtain ⟨h1, h2⟩ := List.pairwise_cons.1 hp
    have hi := h i (by simp)
    have := nodup_short h2 (fun k hk => h k (by simp [hk])) (i + 1) (fun k hk => h1 k hk) hi
    have := hb i (by simp)
    simp only [List.length_cons]
    omega
theorem Line.short {f : Nat → Nat → Bool} {n : Nat} {c : List Nat} (h : Line f n c) : c.length ≤ n := by
  have := nodup_short h.rising h.lt 0 (fun _ _ => Nat.zero_le _) (Nat.zero_le _)
  omega
theorem Line.short_from {f : Nat → Nat → Bool} {n i : Nat} {c : List Nat} (h : Line f n (i :: c)) : c.length + 1 + i ≤ n := by
  refine nodup_short h.rising h.lt i (fun k hk => ?_) (Nat.le_of_lt h.head)
  rcases List.mem_cons.1 hk with rfl | hk
  · exact Nat.le_refl _
  · exact Nat.le_of_lt ((List.pairwise_cons.1 h.rising).1 k hk)
theorem Far.le {f : Nat → Nat → Bool} {n i m : Nat} (h : Far f n i m) : m + i ≤ n := by
  obtain ⟨c, h1, h2⟩ := h.1
  have := h1.short_from
  omega
theorem Longest.le {f : Nat → Nat → Bool} {n m : Nat} (h : Longest f n m) : m ≤ n := by
  obtain ⟨c, h1, h2⟩ := h.1
  have := h1.short
  omega

/-- m is the greatest length among the rows that begin with one of the places i+1 .. j-1 that may stand behind i; t is where (n: nowhere). -/
def Best (f : Nat → Nat → Bool) (n i j t m : Nat) : Prop := (t = n ∧ m = 0 ∨ i < t ∧ t < j ∧ f i t = true ∧ Far f n t m) ∧ ∀ k, i < k → k < j → f i k = true → ∃ a, a ≤ m ∧ Far f n k a
theorem best_nil (f : Nat → Nat → Bool) (n i : Nat) : Best f n i (i + 1) n 0 := ⟨.inl ⟨rfl, rfl⟩, fun k h1 h2 => absurd h2 (by omega)⟩
theorem best_no {f : Nat → Nat → Bool} {n i j t m : Nat} (h : Best f n i j t m) (hf : f i j = false) : Best f n i (j + 1) t m := by
  refine ⟨h.1.imp id (fun ⟨h1, h2, h3⟩ => ⟨h1, by omega, h3⟩), fun k h1 h2 h3 => ?_⟩
  by_cases e : k = j
  · subst e; rw [hf] at h3; cases h3
  · exact h.2 k h1 (by omega) h3
theorem best_old {f : Nat → Nat → Bool} {n i j t m a : Nat} (h : Best f n i j t m) (ha : Far f n j a) (hle : a ≤ m) : Best f n i (j + 1) t m := by
  refine ⟨h.1.imp id (fun ⟨h1, h2, h3⟩ => ⟨h1, by omega, h3⟩), fun k h1 h2 h3 => ?_⟩
  by_cases e : k = j
  · subst e; exact ⟨a, hle, ha⟩
  · exact h.2 k h1 (by omega) h3
theorem best_new {f : Nat → Nat → Bool} {n i j t m a : Nat} (h : Best f n i j t m) (hij : i < j) (hf : f i j = true) (ha : Far f n j a) (hle : m ≤ a) : Best f n i (j + 1) j a := by
  refine ⟨.inr ⟨hij, by omega, hf, ha⟩, fun k h1 h2 h3 => ?_⟩
  by_cases e : k = j
  · subst e; exact ⟨a, Nat.le_refl _, ha⟩
  · obtain ⟨b, h4, h5⟩ := h.2 k h1 (by omega) h3
    exact ⟨b, by omega, h5⟩
theorem far_of_best {f : Nat → Nat → Bool} {n i t m : Nat} (hi : i < n) (h : Best f n i n t m) : Far f n i (m + 1) := by
  constructor
  · rcases h.1 with ⟨_, rfl⟩ | ⟨h1, h2, h3, ⟨c, h4, h5⟩, _⟩
    · exact ⟨[], line_one hi, rfl⟩
    · exact ⟨t :: c, line_cons h1 h3 h4, by simp [h5]⟩
  · intro c hc
    cases c with
    | nil => simp
    | cons j c =>
      obtain ⟨h1, h2⟩ := hc.two
      obtain ⟨a, h3, h4⟩ := h.2 j h1 hc.tail.head h2
      have := h4.2 c hc.tail
      simp only [List.length_cons]
      omega
/-- m is the greatest length among the rows that begin with i or later; t is where (n: nowhere). -/
def Most (f : Nat → Nat → Bool) (n i t m : Nat) : Prop := (t = n ∧ m = 0 ∨ i ≤ t ∧ t < n ∧ Far f n t m) ∧ ∀ k, i ≤ k → k < n → ∃ a, a ≤ m ∧ Far f n k a
theorem most_nil (f : Nat → Nat → Bool) (n : Nat) : Most f n n n 0 := ⟨.inl ⟨rfl, rfl⟩, fun k h1 h2 => absurd h2 (by omega)⟩
theorem most_old {f : Nat → Nat → Bool} {n i t m a : Nat} (h : Most f n (i + 1) t m) (ha : Far f n i a) (hle : a ≤ m) : Most f n i t m := by
  refine ⟨h.1.imp id (fun ⟨h1, h2⟩ => ⟨by omega, h2⟩), fun k h1 h2 => ?_⟩
  by_cases e : k = i
  · subst e; exact ⟨a, hle, ha⟩
  · exact h.2 k (by omega) h2
theorem most_new {f : Nat → Nat → Bool} {n i t m a : Nat} (h : Most f n (i + 1) t m) (ha : Far f n i a) (hle : m ≤ a) : Most f n i i a := by
  refine ⟨.inr ⟨Nat.le_refl _, ha.lt.1, ha⟩, fun k h1 h2 => ?_⟩
  by_cases e : k = i
  · subst e; exact ⟨a, Nat.le_refl _, ha⟩
  · obtain ⟨b, h3, h4⟩ := h.2 k (by omega) h2
    exact ⟨b, by omega, h4⟩
theorem longest_of_most {f : Nat → Nat → Bool} {n t m : Nat} (h : Most f n 0 t m) : Longest f n m := by
  constructor
  · rcases h.1 with ⟨_, rfl⟩ | ⟨_, _, ⟨c, h1, h2⟩, _⟩
    · exact ⟨[], trivial, rfl⟩
    · exact ⟨t :: c, h1, by simp [h2]⟩
  · intro c hc
    cases c with
    | nil => simp
    | cons i c =>
      obtain ⟨a, h1, h2⟩ := h.2 i (Nat.zero_le _) hc.head
      have := h2.2 c hc
      simp only [List.length_cons]
      omega

/-- What stands in the list of what follows. -/
def Follows (f : Nat → Nat → Bool) (n i t m : Nat) : Prop := Far f n i (m + 1) ∧ (t = n ∧ m = 0 ∨ i < t ∧ t < n ∧ f i t = true ∧ Far f n t m)
theorem follows_of_best {f : Nat → Nat → Bool} {n i t m : Nat} (hi : i < n) (h : Best f n i n t m) : Follows f n i t m := ⟨far_of_best hi h, h.1⟩

/-- A row that is being taken along: c is taken, i comes next (n: nothing), a more to come. -/
def Taken (f : Nat → Nat → Bool) (n : Nat) (c : List Nat) (i a : Nat) : Prop := (i = n ∧ a = 0 ∧ Line f n c) ∨ (i < n ∧ Far f n i a ∧ ∀ t, Line f n (i :: t) → Line f n (c ++ i :: t))
theorem taken_step {f : Nat → Nat → Bool} {n i t m a : Nat} {c : List Nat} (h : Taken f n c i a) (hi : i < n) (hf : Follows f n i t m) : Taken f n (c ++ [i]) t m ∧ a = m + 1 := by
  rcases h with ⟨h1, _⟩ | ⟨_, h2, h3⟩
  · omega
  · refine ⟨?_, h2.eq hf.1⟩
    rcases hf.2 with ⟨rfl, rfl⟩ | ⟨k1, k2, k3, k4⟩
    · exact .inl ⟨rfl, rfl, h3 [] (line_one hi)⟩
    · refine .inr ⟨k2, k4, fun u hu => ?_⟩
      rw [List.append_assoc]
      exact h3 (t :: u) (line_cons k1 k3 hu)
theorem taken_end {f : Nat → Nat → Bool} {n a : Nat} {c : List Nat} (h : Taken f n c n a) : Line f n c ∧ a = 0 := by
  rcases h with ⟨_, h1, h2⟩ | ⟨h1, _⟩
  · exact ⟨h2, h1⟩
  · omega
theorem taken_start {f : Nat → Nat → Bool} {n t m : Nat} (h : Most f n 0 t m) : Taken f n [] t m := by
  rcases h.1 with ⟨h1, h2⟩ | ⟨_, h1, h2⟩
  · exact .inl ⟨h1, h2, trivial⟩
  · exact .inr ⟨h1, h2, fun u hu => hu⟩

/-- What rises in a list. -/
def upF (l : List Int) (i j : Nat) : Bool := decide (l.getD i 0 < l.getD j 0)
/-- What doesn't rise in a list. -/
def downF (l : List Int) (i j : Nat) : Bool := decide (l.getD j 0 ≤ l.getD i 0)
/-- A longest row. -/
def IsLongest (f : Nat → Nat → Bool) (n : Nat) (c : List Nat) : Prop := Line f n c ∧ Longest f n c.length
theorem isLongest_of {f : Nat → Nat → Bool} {n : Nat} {c : List Nat} (h : Line f n c) (hl : Longest f n c.length) : IsLongest f n c := ⟨h, hl⟩

end Go.Proofs.Ytdcmknnmdiocdaa
