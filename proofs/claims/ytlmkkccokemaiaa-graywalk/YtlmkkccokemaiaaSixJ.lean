/-
  The library's sort at []uint16: breakPatternsOrdered.
-/
import Derived.Test.YtlmkkccokemaiaaSixI
namespace Go.Proofs.Ytlmkkccokemaiaa
open Go.RowKit

theorem Mix.other {w0 w1 w2 : World} {g cap s : Nat} {xs : List Nat} (h : Mix w0 g cap xs w1) (k : w1.grownBy w2 (some s)) (hs : w0.heap.size ≤ s) (hne : g ≠ s) : Mix w0 g cap xs w2 := by
  obtain ⟨ys, h1, h2, h3⟩ := h
  exact ⟨ys, h1.kept k hne, h2, k.os.trans h3.os, k.tape.trans h3.tape, k.output.trans h3.output, Nat.le_trans h3.size k.size,
    fun i hi hn => (k.block i (Nat.lt_of_lt_of_le hi h3.size) (fun e => by injection e with e; omega)).trans (h3.block i hi hn)⟩
theorem Rnd.new (w : World) (v : Nat) : Rnd (w.alloc (.cells #[.int .u64 (v : Int)] 50)) w.heap.size v :=
  World.rowIs_alloc w #[.int .u64 (v : Int)] 50 _ (fun i hi => by
    have h0 : i = 0 := by simpa using hi
    subst h0
    rfl)
theorem Rnd.setOther {w : World} {s v g : Nat} (h : Rnd w s v) (hne : g ≠ s) (u : Value) {i : Nat} : Rnd (w.setCell ⟨g, i, none⟩ u) s v := World.rowIs.setOther h (fun e => hne e.symm) u
theorem mix_new (w : World) (g cap v : Nat) (xs : List Nat) (h : U16 w g cap xs) : Mix w g cap xs (w.alloc (.cells #[.int .u64 (v : Int)] 50)) :=
  (Mix.refl h).below ((Below.refl _ _).alloc (Nat.le_refl _) _)
theorem and_low {u M : Nat} (hu : u < 18446744073709551616) (hM : 0 < M) (hM2 : M ≤ 200000) : ∃ o : Nat, o < M ∧ bits .and .u64 (u : Int) ((M : Int) - 1) = (o : Int) := by
  refine ⟨u &&& (M - 1), Nat.lt_of_le_of_lt Nat.and_le_right (by omega), ?_⟩
  rw [show (M : Int) - 1 = ((M - 1 : Nat) : Int) by omega, u64_and_nat _ _ hu (by omega)]

set_option maxHeartbeats 3200000 in
theorem break16_at (g n cap a b L q i2 M : Nat) (xs : List Nat) (w : World) (h : U16 w g cap xs) (hl : xs.length = n) (hb : b ≤ n) (hn : n ≤ 60000) (hL : (b : Int) - (a : Int) = (L : Int)) (hL8 : 8 ≤ L) (hq : (L : Int) / 4 = (q : Int)) (e2 : (a : Int) + (q : Int) * 2 = (i2 : Int))
    (hp : ∀ W, Calls Try.prog 29 #[.int .i64 (L : Int)] W fun e w' => e = .returned (.int .u64 (M : Int)) ∧ W = w') (hM1 : L < M) (hM2 : M ≤ 2 * L) :
    Calls Try.prog 19 #[.slice (some ⟨g, 0, none⟩) n cap, .int .i64 (a : Int), .int .i64 (b : Int)] w (RetMix w g cap xs) := by
  have hne : g ≠ w.heap.size := Nat.ne_of_lt h.lt
  have HM := hid (mix_new w g cap L xs h)
  have HR := hid (Rnd.new w L)
  have HL := hid hl
  clear h hl
  have hq8 : 2 ≤ q := by omega
  go_enter Try.func19, Try.ntmps19
  go_wp2_with fail
  generalize World.alloc _ _ = w1 at HM HR ⊢
  refine (hp _).mono ?_
  rintro e w' ⟨rfl, rfl⟩
  clear hp
  go_wp2
  go_loopg [9] 3 (fun gh s wr => ∃ k v : Nat, i2 ≤ k + 1 ∧ k ≤ i2 + 2 ∧ i2 + 2 - k ≤ gh ∧ v < 18446744073709551616 ∧ s = .int .i64 (k : Int) ∧ Mix w g cap xs wr ∧ Rnd wr w.heap.size v)
  case atStart => exact ⟨i2 - 1, L, by omega, by omega, by omega, by omega, by go_num, HM.out, HR.out⟩
  case round =>
    clear HM HR
    obtain ⟨k, v, hk0, hk1, hg, hv, rfl, hmix, hrnd⟩ := hrel
    have HM := hid hmix
    have HC := hid (next_any w.heap.size v wr hrnd hv)
    clear hmix hrnd
    by_cases hlt : k ≤ i2 + 1
    · go_wp2_with fail
      refine HC.out.mono ?_
      rintro e w2 ⟨u, hu, rfl, hR, hG⟩
      replace HM := hid (HM.out.other hG (Nat.le_refl _) hne)
      have HR := hid hR
      clear HC hR hG
      obtain ⟨o, ho, eo⟩ := and_low hu (show 0 < M by omega) (by omega)
      by_cases hol : o < L
      · have hol2 : ¬ ((L : Int) ≤ (o : Int)) := by omega
        obtain ⟨p, hp⟩ : ∃ p, p = a + o := ⟨_, rfl⟩
        have wp : IntKind.i64.wrap ((a : Int) + (o : Int)) = (p : Int) := by rw [IntWalk.i64_in _ (by omega)]; omega
        have hpn : p < n := by omega
        have hkn : k < n := by omega
        clear hp
        obtain ⟨ys, hO, hP, hG⟩ := HM.out
        have hly : ys.length = n := by rw [hP.length_eq, HL.out]
        have g1 := hO.cell (j := k) (by omega)
        have f1 := hO.frozen (k)
        have g2 := hO.cell (j := p) (by omega)
        have f2 := hO.frozen (p)
        have HS := hid (fun x y => Mix.swap (x := x) (y := y) hO hP hG (i := k) (j := p) (by omega) (by omega))
        have g3' := fun y => (hO.set (k) y).cell (j := p) (by rw [List.length_set]; omega)
        clear hO hP hG hly HM
        generalize hx1 : ys.getD (k) 0 = x1 at g1 HS
        generalize hx2 : ys.getD (p) 0 = x2 at g2 HS
        have g3 := g3' x2
        clear g3'
        generalize (ys.set (k) x2).getD (p) 0 = x3 at g3
        have HS2 := hid (HS.out x1 x2 rfl rfl)
        clear HS hx1 hx2

        have HR2 := hid (((HR.out.setOther hne (.int .u16 (x2 : Int)) (i := k)).setOther hne (.int .u16 (x1 : Int)) (i := p)).drew)
        clear HR
        go_wp2_with fail
        go_region
        go_wp2
        go_roundg (i2 + 2 - (k + 1))
        case measure => omega
        case rel => exact ⟨k + 1, u, by omega, by omega, by omega, hu, by go_num, HS2.out.drew, HR2.out⟩
      · have hol2 : (L : Int) ≤ (o : Int) := by omega
        obtain ⟨o2, ho2⟩ : ∃ o2, o2 = o - L := ⟨_, rfl⟩
        have ho3 : (o : Int) - (L : Int) = (o2 : Int) := by omega
        have ho4 : o2 < L := by omega
        clear ho2
        obtain ⟨p, hp⟩ : ∃ p, p = a + o2 := ⟨_, rfl⟩
        have wp : IntKind.i64.wrap ((a : Int) + (o2 : Int)) = (p : Int) := by rw [IntWalk.i64_in _ (by omega)]; omega
        have hpn : p < n := by omega
        have hkn : k < n := by omega
        clear hp
        obtain ⟨ys, hO, hP, hG⟩ := HM.out
        have hly : ys.length = n := by rw [hP.length_eq, HL.out]
        have g1 := hO.cell (j := k) (by omega)
        have f1 := hO.frozen (k)
        have g2 := hO.cell (j := p) (by omega)
        have f2 := hO.frozen (p)
        have HS := hid (fun x y => Mix.swap (x := x) (y := y) hO hP hG (i := k) (j := p) (by omega) (by omega))
        have g3' := fun y => (hO.set (k) y).cell (j := p) (by rw [List.length_set]; omega)
        clear hO hP hG hly HM
        generalize hx1 : ys.getD (k) 0 = x1 at g1 HS
        generalize hx2 : ys.getD (p) 0 = x2 at g2 HS
        have g3 := g3' x2
        clear g3'
        generalize (ys.set (k) x2).getD (p) 0 = x3 at g3
        have HS2 := hid (HS.out x1 x2 rfl rfl)
        clear HS hx1 hx2

        have HR2 := hid (((HR.out.setOther hne (.int .u16 (x2 : Int)) (i := k)).setOther hne (.int .u16 (x1 : Int)) (i := p)).drew)
        clear HR
        go_wp2_with fail
        go_region
        go_wp2
        go_roundg (i2 + 2 - (k + 1))
        case measure => omega
        case rel => exact ⟨k + 1, u, by omega, by omega, by omega, hu, by go_num, HS2.out.drew, HR2.out⟩
    · go_wp2
      go_end0
      exact ⟨rfl, HM.out⟩

theorem break16 (g n cap a b : Nat) (xs : List Nat) (w : World) (h : U16 w g cap xs) (hl : xs.length = n) (hab : a + 8 ≤ b) (hb : b ≤ n) (hn : n ≤ 60000) :
    Calls Try.prog 19 #[.slice (some ⟨g, 0, none⟩) n cap, .int .i64 (a : Int), .int .i64 (b : Int)] w (RetMix w g cap xs) := by
  obtain ⟨h1, h2, _⟩ := bitLen_ok (x := b - a) (by omega)
  exact break16_at g n cap a b (b - a) ((b - a) / 4) (a + (b - a) / 4 * 2) (2 ^ Lib.bitLen (b - a)) xs w h hl hb hn (by omega) (by omega) (by omega) (by omega) (fun W => power_any (b - a) W (by omega)) h1 (h2 (by omega))

end Go.Proofs.Ytlmkkccokemaiaa
