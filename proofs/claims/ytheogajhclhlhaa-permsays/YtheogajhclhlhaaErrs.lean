/-
  Package perm at lists that Check refuses; perm.Times whatever it is handed; castlaw.alike.
-/
import Derived.Test.YtheogajhclhlhaaRefC
namespace Go.Proofs.Ytheogajhclhlhaa
open Go.RowKit

/-- Nothing and an error come back. -/
def RetErr (w : World) (er : Int) (e : Ending) (w' : World) : Prop := e = .returned (.tuple #[.slice none 0 0, .int .i64 er]) ∧ Below w.heap.size w w'

set_option maxHeartbeats 400000 in
theorem inverse_err (A : Option Addr) (n c : Nat) (p : List Int) (w : World) (hA : Ints w A n p) (hp : permErr p ≠ 0) (hn : n ≤ 9223372036854775807) :
    Calls Try.prog 10 #[.slice A n c] w (RetErr w (permErr p)) := by
  have hne : (permErr p != 0) = true := by simpa using hp
  go_enter Try.func10, Try.ntmps10
  go_wp2_with fail
  refine (check_any A n c p _ hA hn).mono ?_
  rintro e w1 ⟨rfl, hb1⟩
  have HB1 := hid hb1
  clear hb1 hp
  go_wp2
  go_ret2
  exact ⟨rfl, HB1.out⟩

set_option maxHeartbeats 400000 in
theorem cycles_err (A : Option Addr) (n c : Nat) (p : List Int) (w : World) (hA : Ints w A n p) (hp : permErr p ≠ 0) (hn : n ≤ 9223372036854775807) :
    Calls Try.prog 11 #[.slice A n c] w (RetErr w (permErr p)) := by
  have hne : (permErr p != 0) = true := by simpa using hp
  go_enter Try.func11, Try.ntmps11
  go_wp2_with fail
  refine (check_any A n c p _ hA hn).mono ?_
  rintro e w1 ⟨rfl, hb1⟩
  have HB1 := hid hb1
  clear hb1 hp
  go_wp2
  go_ret2
  exact ⟨rfl, HB1.out⟩

set_option maxHeartbeats 400000 in
theorem sign_err (A : Option Addr) (n c : Nat) (p : List Int) (w : World) (hA : Ints w A n p) (hp : permErr p ≠ 0) (hn : n ≤ 9223372036854775807) :
    Calls Try.prog 12 #[.slice A n c] w (RetOrder w 0 (permErr p)) := by
  have hne : (permErr p != 0) = true := by simpa using hp
  go_enter Try.func12, Try.ntmps12
  go_wp2_with fail
  refine (check_any A n c p _ hA hn).mono ?_
  rintro e w1 ⟨rfl, hb1⟩
  have HB1 := hid hb1
  clear hb1 hp
  go_wp2
  go_ret2
  exact ⟨rfl, HB1.out⟩

set_option maxHeartbeats 400000 in
theorem order_err (A : Option Addr) (n c : Nat) (p : List Int) (w : World) (hA : Ints w A n p) (hp : permErr p ≠ 0) (hn : n ≤ 9223372036854775807) :
    Calls Try.prog 13 #[.slice A n c] w (RetOrder w 0 (permErr p)) := by
  have hne : (permErr p != 0) = true := by simpa using hp
  go_enter Try.func13, Try.ntmps13
  go_wp2_with fail
  refine (check_any A n c p _ hA hn).mono ?_
  rintro e w1 ⟨rfl, hb1⟩
  have HB1 := hid hb1
  clear hb1 hp
  go_wp2
  go_ret2
  exact ⟨rfl, HB1.out⟩

set_option maxHeartbeats 400000 in
theorem times_err1 (A : Option Addr) (n c : Nat) (B : Value) (a : List Int) (w : World) (hA : Ints w A n a) (ha : permErr a ≠ 0) (hn : n ≤ 9223372036854775807) :
    Calls Try.prog 9 #[.slice A n c, B] w (RetErr w (permErr a)) := by
  have hne : (permErr a != 0) = true := by simpa using ha
  go_enter Try.func9, Try.ntmps9
  go_wp2_with fail
  refine (check_any A n c a _ hA hn).mono ?_
  rintro e w1 ⟨rfl, hb1⟩
  have HB1 := hid hb1
  clear hb1 ha
  go_wp2
  go_ret2
  exact ⟨rfl, HB1.out⟩

set_option maxHeartbeats 400000 in
theorem times_err2 (A : Option Addr) (n c : Nat) (B : Option Addr) (m d : Nat) (a b : List Int) (w : World) (hA : Ints w A n a) (hB : Ints w B m b) (ha : permErr a = 0) (hb : permErr b ≠ 0) (hm : m ≤ 9223372036854775807) :
    Calls Try.prog 9 #[.slice A n c, .slice B m d] w (RetErr w (permErr b)) := by
  have hne : (permErr b != 0) = true := by simpa using hb
  have hn10 : n ≤ 10 := by rw [← hA.len]; exact (permErr_ok.1 ha).1
  go_enter Try.func9, Try.ntmps9
  go_wp2_with fail
  refine (check_any A n c a _ hA (by omega)).mono ?_
  rintro e w1 ⟨rfl, hb1⟩
  have hB1 := hB.keep hb1
  have HB1 := hid hb1
  clear hb1 hA hB
  go_wp2_with fail
  refine (check_any B m d b _ hB1 hm).mono ?_
  rintro e w2 ⟨rfl, hb2⟩
  have HB2 := hid (below_step HB1.out (Nat.le_refl _) hb2)
  clear hb2 hb
  go_wp2
  go_ret2
  exact ⟨rfl, HB2.out⟩

set_option maxHeartbeats 400000 in
theorem times_err3 (A : Option Addr) (n c : Nat) (B : Option Addr) (m d : Nat) (a b : List Int) (w : World) (hA : Ints w A n a) (hB : Ints w B m b) (ha : permErr a = 0) (hb : permErr b = 0) (hnm : n ≠ m) :
    Calls Try.prog 9 #[.slice A n c, .slice B m d] w (RetErr w 1) := by
  have hn10 : n ≤ 10 := by rw [← hA.len]; exact (permErr_ok.1 ha).1
  have hm10 : m ≤ 10 := by rw [← hB.len]; exact (permErr_ok.1 hb).1
  have hne : ((n : Int) != (m : Int)) = true := by simp; omega
  go_enter Try.func9, Try.ntmps9
  go_wp2_with fail
  refine (check_any A n c a _ hA (by omega)).mono ?_
  rintro e w1 ⟨rfl, hb1⟩
  have hB1 := hB.keep hb1
  have HB1 := hid hb1
  clear hb1 hA hB
  go_wp2_with fail
  refine (check_any B m d b _ hB1 (by omega)).mono ?_
  rintro e w2 ⟨rfl, hb2⟩
  have HB2 := hid (below_step HB1.out (Nat.le_refl _) hb2)
  clear hb2 hnm
  go_wp2
  go_ret2
  exact ⟨rfl, HB2.out⟩

/-- perm.Times, whatever it is handed. -/
theorem times_any (A : Option Addr) (n c : Nat) (B : Option Addr) (m d : Nat) (a b : List Int) (w : World) (hA : Ints w A n a) (hB : Ints w B m b) (hn : n ≤ 9223372036854775807) (hm : m ≤ 9223372036854775807) :
    Calls Try.prog 9 #[.slice A n c, .slice B m d] w (RetInts w (timesRes a b) (timesErr a b)) := by
  have bad : ∀ er, timesErr a b = er → er ≠ 0 → ∀ (e : Ending) (w' : World), RetErr w er e w' → RetInts w (timesRes a b) (timesErr a b) e w' := by
    rintro er he hne e w' ⟨rfl, hb⟩
    have hr : timesRes a b = [] := if_neg (by rw [he]; exact hne)
    rw [hr, he]
    exact ⟨none, 0, 0, rfl, hb, Ints.nil _ _, Nat.le_refl _, by omega⟩
  by_cases ha : permErr a = 0
  · by_cases hb : permErr b = 0
    · by_cases hl : a.length = b.length
      · have he : timesErr a b = 0 := by unfold timesErr; rw [if_pos ha, if_pos hb, if_pos hl]
        have hr : timesRes a b = times a b := if_pos he
        rw [hr, he]
        have hnm : m = n := by rw [← hA.len, ← hB.len, hl]
        subst hnm
        exact times_ok A m c B d a b w hA hB ha hb
      · have he : timesErr a b = 1 := by unfold timesErr; rw [if_pos ha, if_pos hb, if_neg hl]
        exact (times_err3 A n c B m d a b w hA hB ha hb (by rw [← hA.len, ← hB.len]; exact hl)).mono (fun e w' h => bad 1 he (by omega) e w' h)
    · have he : timesErr a b = permErr b := by unfold timesErr; rw [if_pos ha, if_neg hb]
      exact (times_err2 A n c B m d a b w hA hB ha hb hm).mono (fun e w' h => bad _ he hb e w' h)
  · have he : timesErr a b = permErr a := by unfold timesErr; rw [if_neg ha]
    exact (times_err1 A n c _ a w hA ha hn).mono (fun e w' h => bad _ he ha e w' h)

set_option maxHeartbeats 400000 in
theorem alike_bel (A1 : Option Addr) (n c : Nat) (A2 : Option Addr) (m d : Nat) (xs ys : List Int) (w : World) (h1 : Ints w A1 n xs) (h2 : Ints w A2 m ys) (hn : n ≤ 1000000) (hm : m ≤ 1000000) :
    Calls Try.prog 19 #[.slice A1 n c, .slice A2 m d] w fun e w' => e = .returned (.bool (decide (xs = ys))) ∧ Below w.heap.size w w' := by
  go_enter Try.func19, Try.ntmps19
  go_wp2_with fail
  refine (equal_bel A1 n c A2 m d xs ys _ h1 h2 hn hm).mono ?_
  rintro e w' ⟨rfl, hb⟩
  have HB := hid hb
  clear hb
  go_wp2
  go_ret
  exact ⟨rfl, HB.out⟩

end Go.Proofs.Ytheogajhclhlhaa
