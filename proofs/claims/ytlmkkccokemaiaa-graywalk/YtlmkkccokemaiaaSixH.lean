/-
  The library's sort at []uint16: order2Ordered, medianOrdered, medianAdjacentOrdered, choosePivotOrdered.
-/
import Derived.Test.YtlmkkccokemaiaaSixG
namespace Go.Proofs.Ytlmkkccokemaiaa
open Go.RowKit

/-- Block s is one int, c. -/
def Cnt (w : World) (s c : Nat) : Prop := w.rowIs s 3 1 (fun _ => .int .i64 (c : Int))
theorem Cnt.cell {w : World} {s c : Nat} (h : Cnt w s c) : w.cell? ⟨s, 0, none⟩ = some (.int .i64 (c : Int)) := World.rowIs.cell h (by omega)
theorem Cnt.frozen {w : World} {s c : Nat} (h : Cnt w s c) : w.frozen? ⟨s, 0, none⟩ = false := World.rowIs.frozen h 0
theorem Cnt.set {w : World} {s c : Nat} (h : Cnt w s c) (d : Nat) : Cnt (w.setCell ⟨s, 0, none⟩ (.int .i64 (d : Int))) s d :=
  (World.rowIs.set h 0 (.int .i64 (d : Int))).congr fun j hj => by rw [if_pos (by omega)]
theorem Cnt.drewN {w : World} {s c : Nat} (h : Cnt w s c) (k : Nat) : Cnt (w.drewN k) s c := h
theorem Cnt.drew {w : World} {s c : Nat} (h : Cnt w s c) : Cnt w.drew s c := h
theorem Cnt.new (w : World) : Cnt (w.alloc (.cells #[.int .i64 0] 3)) w.heap.size 0 :=
  World.rowIs_alloc w #[.int .i64 0] 3 _ (fun i hi => by
    have h0 : i = 0 := by simpa using hi
    subst h0
    rfl)

/-- The two places in one order or the other; the count may have risen; nothing else has turned. -/
def RetOrd (w : World) (s c a b : Nat) (e : Ending) (w' : World) : Prop :=
  ∃ x y d : Nat, (x = a ∧ y = b ∨ x = b ∧ y = a) ∧ d ≤ c + 1 ∧ e = .returned (.tuple #[.int .i64 (x : Int), .int .i64 (y : Int)]) ∧ Cnt w' s d ∧ w.grownBy w' (some s)

set_option maxHeartbeats 800000 in
theorem order16 (g n cap a b s c : Nat) (xs : List Nat) (w : World) (h : U16 w g cap xs) (hl : xs.length = n) (hs : Cnt w s c) (ha : a < n) (hb : b < n) (_hn : n ≤ 1000000) (_hc : c ≤ 1000) :
    Calls Try.prog 34 #[.slice (some ⟨g, 0, none⟩) n cap, .int .i64 (a : Int), .int .i64 (b : Int), .pointer (some ⟨s, 0, none⟩)] w (RetOrd w s c a b) := by
  have g1 := h.cell (j := b) (by omega)
  have g2 := h.cell (j := a) (by omega)
  generalize xs.getD b 0 = x1 at g1
  generalize xs.getD a 0 = x2 at g2
  have q1 := hs.cell
  have q2 := hs.frozen
  have HS := hid hs
  clear h hs hl
  cases hc : decide ((x1 : Int) < (x2 : Int))
  case true =>
    go_enter Try.func34, Try.ntmps34
    go_wp2_with fail
    go_quiet ((go_at_call 23; exact Calls.quiet_of_same (less16_b _ _ _ _ hc)))
    go_wp2
    go_ret2
    refine ⟨b, a, c + 1, by omega, by omega, rfl, ?_, ?_⟩
    · exact (HS.out.drewN nq).set (c + 1)
    · exact grown_set (grown_drewN (grown_refl w _) nq) 0 _
  case false =>
    go_enter Try.func34, Try.ntmps34
    go_wp2_with fail
    go_quiet ((go_at_call 23; exact Calls.quiet_of_same (less16_b _ _ _ _ hc)))
    go_wp2
    go_ret2
    exact ⟨a, b, c, by omega, by omega, rfl, HS.out.drewN nq, grown_drewN (grown_refl w _) nq⟩

/-- A place between lo and hi; the count may have risen; nothing else has turned. -/
def RetMed (w : World) (s lo hi : Nat) (e : Ending) (w' : World) (top : Nat) : Prop :=
  ∃ m d : Nat, lo ≤ m ∧ m < hi ∧ d ≤ top ∧ e = .returned (.int .i64 (m : Int)) ∧ Cnt w' s d ∧ w.grownBy w' (some s)

set_option maxHeartbeats 1600000 in
theorem median16 (g n cap a b c s k lo hi : Nat) (xs : List Nat) (w : World) (h : U16 w g cap xs) (hl : xs.length = n) (hs : Cnt w s k) (hne : g ≠ s) (ha : lo ≤ a ∧ a < hi) (hb : lo ≤ b ∧ b < hi) (hc : lo ≤ c ∧ c < hi) (hhi : hi ≤ n) (hn : n ≤ 1000000) (hk : k ≤ 100) :
    Calls Try.prog 32 #[.slice (some ⟨g, 0, none⟩) n cap, .int .i64 (a : Int), .int .i64 (b : Int), .int .i64 (c : Int), .pointer (some ⟨s, 0, none⟩)] w (fun e w' => RetMed w s lo hi e w' (k + 3)) := by
  have C1 := hid (order16 g n cap a b s k xs w h hl hs (by omega) (by omega) hn (by omega))
  go_enter Try.func32, Try.ntmps32
  go_wp2_with fail
  refine C1.out.mono ?_
  rintro e w1 ⟨a1, b1, k1, hab, hk1, rfl, hs1, hg1⟩
  have h1 := h.kept hg1 hne
  have C2 := hid (order16 g n cap b1 c s k1 xs w1 h1 hl hs1 (by omega) (by omega) hn (by omega))
  have HG1 := hid hg1
  have H1 := hid h1
  clear C1 hg1 h hs h1 hs1
  go_wp2_with fail
  refine C2.out.mono ?_
  rintro e w2 ⟨b2, c2, k2, hbc, hk2, rfl, hs2, hg2⟩
  have h2 := H1.out.kept hg2 hne
  have C3 := hid (order16 g n cap a1 b2 s k2 xs w2 h2 hl hs2 (by omega) (by omega) hn (by omega))
  have HG2 := hid (grown_trans HG1.out hg2)
  clear C2 hg2 H1 h2 hs2 HG1
  go_wp2_with fail
  refine C3.out.mono ?_
  rintro e w3 ⟨a3, b3, k3, hab3, hk3, rfl, hs3, hg3⟩
  have HG3 := hid (grown_trans HG2.out hg3)
  have HS3 := hid hs3
  clear C3 hg3 hs3 HG2
  go_wp2
  go_ret
  exact ⟨b3, k3, by omega, by omega, by omega, rfl, HS3.out, HG3.out⟩

set_option maxHeartbeats 800000 in
theorem medianAdj16 (g n cap a s k lo hi : Nat) (xs : List Nat) (w : World) (h : U16 w g cap xs) (hl : xs.length = n) (hs : Cnt w s k) (hne : g ≠ s) (ha : lo + 1 ≤ a ∧ a + 1 < hi) (hhi : hi ≤ n) (hn : n ≤ 1000000) (hk : k ≤ 100) :
    Calls Try.prog 31 #[.slice (some ⟨g, 0, none⟩) n cap, .int .i64 (a : Int), .pointer (some ⟨s, 0, none⟩)] w (fun e w' => RetMed w s lo hi e w' (k + 3)) := by
  obtain ⟨m, hm⟩ : ∃ m, a = m + 1 := ⟨a - 1, by omega⟩
  obtain ⟨p, hp⟩ : ∃ p, p = a + 1 := ⟨_, rfl⟩
  have C := hid (median16 g n cap m a p s k lo hi xs w h hl hs hne (by omega) (by omega) (by omega) hhi hn hk)
  have e1 : (a : Int) - 1 = (m : Int) := by omega
  have e2 : (a : Int) + 1 = (p : Int) := by omega
  clear h hl hs hm hp
  go_enter Try.func31, Try.ntmps31
  go_wp2_with fail
  refine C.out.mono ?_
  rintro e w1 ⟨r, d, h1, h2, h3, rfl, h4, h5⟩
  have H4 := hid h4
  have H5 := hid h5
  clear h4 h5 C e1 e2
  go_wp2
  go_ret
  exact ⟨r, d, h1, h2, h3, rfl, H4.out, H5.out⟩

/-- A place of the range, and a hint; all that was there is as it was. -/
def RetPivot (w : World) (a b : Nat) (e : Ending) (w' : World) : Prop :=
  ∃ m t : Nat, a ≤ m ∧ m < b ∧ t ≤ 2 ∧ e = .returned (.tuple #[.int .i64 (m : Int), .int .i64 (t : Int)]) ∧ Below w.heap.size w w'
theorem below_grown {w w1 w2 : World} (h : Below w.heap.size w w1) (k : w1.grownBy w2 (some w.heap.size)) : Below w.heap.size w w2 :=
  h.trans ⟨k.os, k.tape, k.output, k.size, fun i hi => k.block i (Nat.lt_of_lt_of_le hi h.size) (fun e => by injection e with e; omega)⟩

set_option maxHeartbeats 1600000 in
theorem pivot16_low (g n cap a b L q i1 i2 i3 : Nat) (xs : List Nat) (w : World) (h : U16 w g cap xs) (hl : xs.length = n) (hb : b ≤ n) (hn : n ≤ 1000000) (hL : (b : Int) - (a : Int) = (L : Int)) (hL8 : 8 ≤ L ∧ L < 50) (hq : (L : Int) / 4 = (q : Int)) (e1 : (a : Int) + (q : Int) = (i1 : Int)) (e2 : (a : Int) + (q : Int) * 2 = (i2 : Int)) (e3 : (a : Int) + (q : Int) * 3 = (i3 : Int)) :
    Calls Try.prog 20 #[.slice (some ⟨g, 0, none⟩) n cap, .int .i64 (a : Int), .int .i64 (b : Int)] w (RetPivot w a b) := by
  have hne : g ≠ w.heap.size := Nat.ne_of_lt h.lt
  have HU := hid (h.alloc (.cells #[.int .i64 0] 3))
  have HC := hid (Cnt.new w)
  have HB : Hid (Below w.heap.size w (w.alloc (.cells #[.int .i64 0] 3))) := (Below.refl _ _).alloc (Nat.le_refl _) _
  have hd0 : 0 ≤ 100 := by omega
  clear h
  go_enter Try.func20, Try.ntmps20
  have C := hid (median16 g n cap i1 i2 i3 w.heap.size 0 a b xs (w.alloc (.cells #[.int .i64 0] 3)) HU.out hl HC.out hne (by omega) (by omega) (by omega) hb hn (by omega))
  go_wp2_with fail
  refine C.out.mono ?_
  rintro e wE ⟨r, d, hr1, hr2, hd, rfl, h4, h5⟩
  replace HC := hid h4
  replace HB := hid (below_grown HB.out h5)
  clear h4 h5 C HU
  have q1 := HC.out.cell
  clear HC
  by_cases d0 : d = 0
  · subst d0
    go_wp2
    go_ret2
    exact ⟨r, 1, hr1, hr2, by omega, rfl, HB.out⟩
  · have n0 : ((d : Int) == 0) = false := by simp; omega
    by_cases d1 : d = 12
    · subst d1
      go_wp2
      go_ret2
      exact ⟨r, 2, hr1, hr2, by omega, rfl, HB.out⟩
    · have n1 : ((d : Int) == 12) = false := by simp; omega
      go_wp2
      go_ret2
      exact ⟨r, 0, hr1, hr2, by omega, rfl, HB.out⟩

set_option maxHeartbeats 1600000 in
theorem pivot16_high (g n cap a b L q i1 i2 i3 : Nat) (xs : List Nat) (w : World) (h : U16 w g cap xs) (hl : xs.length = n) (hb : b ≤ n) (hn : n ≤ 1000000) (hL : (b : Int) - (a : Int) = (L : Int)) (hL8 : 50 ≤ L) (hq : (L : Int) / 4 = (q : Int)) (e1 : (a : Int) + (q : Int) = (i1 : Int)) (e2 : (a : Int) + (q : Int) * 2 = (i2 : Int)) (e3 : (a : Int) + (q : Int) * 3 = (i3 : Int)) :
    Calls Try.prog 20 #[.slice (some ⟨g, 0, none⟩) n cap, .int .i64 (a : Int), .int .i64 (b : Int)] w (RetPivot w a b) := by
  have hne : g ≠ w.heap.size := Nat.ne_of_lt h.lt
  have HU := hid (h.alloc (.cells #[.int .i64 0] 3))
  have HC := hid (Cnt.new w)
  have HB : Hid (Below w.heap.size w (w.alloc (.cells #[.int .i64 0] 3))) := (Below.refl _ _).alloc (Nat.le_refl _) _
  have hd0 : 0 ≤ 100 := by omega
  clear h
  go_enter Try.func20, Try.ntmps20
  have C := hid (medianAdj16 g n cap i1 w.heap.size 0 a b xs (w.alloc (.cells #[.int .i64 0] 3)) HU.out hl HC.out hne (by omega) hb hn (by omega))
  go_wp2_with fail
  refine C.out.mono ?_
  rintro e w1 ⟨r1, d1, hr1, hr1', hd1, rfl, h4, h5⟩
  replace HU := hid (HU.out.kept h5 hne)
  replace HC := hid h4
  replace HB := hid (below_grown HB.out h5)
  clear h4 h5 C
  have C := hid (medianAdj16 g n cap i2 w.heap.size d1 a b xs w1 HU.out hl HC.out hne (by omega) hb hn (by omega))
  go_wp2_with fail
  refine C.out.mono ?_
  rintro e w2 ⟨r2, d2, hr2, hr2', hd2, rfl, h4, h5⟩
  replace HU := hid (HU.out.kept h5 hne)
  replace HC := hid h4
  replace HB := hid (below_grown HB.out h5)
  clear h4 h5 C
  have C := hid (medianAdj16 g n cap i3 w.heap.size d2 a b xs w2 HU.out hl HC.out hne (by omega) hb hn (by omega))
  go_wp2_with fail
  refine C.out.mono ?_
  rintro e w3 ⟨r3, d3, hr3, hr3', hd3, rfl, h4, h5⟩
  replace HU := hid (HU.out.kept h5 hne)
  replace HC := hid h4
  replace HB := hid (below_grown HB.out h5)
  clear h4 h5 C
  have C := hid (median16 g n cap r1 r2 r3 w.heap.size d3 a b xs w3 HU.out hl HC.out hne (by omega) (by omega) (by omega) hb hn (by omega))
  go_wp2_with fail
  refine C.out.mono ?_
  rintro e wE ⟨r, d, hr1, hr2, hd, rfl, h4, h5⟩
  replace HC := hid h4
  replace HB := hid (below_grown HB.out h5)
  clear h4 h5 C HU
  have q1 := HC.out.cell
  clear HC
  by_cases d0 : d = 0
  · subst d0
    go_wp2
    go_ret2
    exact ⟨r, 1, hr1, hr2, by omega, rfl, HB.out⟩
  · have n0 : ((d : Int) == 0) = false := by simp; omega
    by_cases dd : d = 12
    · subst dd
      go_wp2
      go_ret2
      exact ⟨r, 2, hr1, hr2, by omega, rfl, HB.out⟩
    · have n1 : ((d : Int) == 12) = false := by simp; omega
      go_wp2
      go_ret2
      exact ⟨r, 0, hr1, hr2, by omega, rfl, HB.out⟩

theorem pivot16 (g n cap a b : Nat) (xs : List Nat) (w : World) (h : U16 w g cap xs) (hl : xs.length = n) (hab : a + 8 ≤ b) (hb : b ≤ n) (hn : n ≤ 1000000) :
    Calls Try.prog 20 #[.slice (some ⟨g, 0, none⟩) n cap, .int .i64 (a : Int), .int .i64 (b : Int)] w (RetPivot w a b) := by
  by_cases h50 : b - a < 50
  · exact pivot16_low g n cap a b (b - a) ((b - a) / 4) (a + (b - a) / 4) (a + (b - a) / 4 * 2) (a + (b - a) / 4 * 3) xs w h hl hb hn (by omega) (by omega) (by omega) (by omega) (by omega) (by omega)
  · exact pivot16_high g n cap a b (b - a) ((b - a) / 4) (a + (b - a) / 4) (a + (b - a) / 4 * 2) (a + (b - a) / 4 * 3) xs w h hl hb hn (by omega) (by omega) (by omega) (by omega) (by omega) (by omega)

end Go.Proofs.Ytlmkkccokemaiaa
