/-
  rises.isDescent, Falls, Sum, Crossed.
-/
import Derived.Test.YtcaenahhfhbiaaaSign
namespace Go.Proofs.Ytcaenahhfhbiaaa
open Go.RowKit

/-- It goes down at i. -/
def dsc (p : List Int) (i : Nat) : Bool := decide (0 < i) && decide (p.getD i 0 < p.getD (i - 1) 0)
/-- How often, and the sum of the places, among the first k. -/
def fallK (p : List Int) : Nat → Nat
  | 0 => 0
  | k + 1 => fallK p k + if dsc p k then 1 else 0
def majK (p : List Int) : Nat → Nat
  | 0 => 0
  | k + 1 => majK p k + if dsc p k then k else 0
def fallN (p : List Int) : Nat := fallK p p.length
def majN (p : List Int) : Nat := majK p p.length
theorem fallK_yes {p : List Int} {k : Nat} (h : dsc p k = true) : fallK p (k + 1) = fallK p k + 1 := by rw [fallK, h]; rfl
theorem fallK_no {p : List Int} {k : Nat} (h : dsc p k = false) : fallK p (k + 1) = fallK p k := by rw [fallK, h]; rfl
theorem majK_yes {p : List Int} {k : Nat} (h : dsc p k = true) : majK p (k + 1) = majK p k + k := by rw [majK, h]; rfl
theorem majK_no {p : List Int} {k : Nat} (h : dsc p k = false) : majK p (k + 1) = majK p k := by rw [majK, h]; rfl
theorem fallK_le (p : List Int) : ∀ k, fallK p k ≤ k
  | 0 => Nat.le_refl _
  | k + 1 => by
    have := fallK_le p k
    rw [fallK]
    split <;> omega
theorem majK_le (p : List Int) : ∀ k, majK p k ≤ k * k
  | 0 => Nat.le_refl _
  | k + 1 => by
    have := majK_le p k
    rw [majK, Nat.add_mul, Nat.mul_add]
    split <;> omega
theorem majK_100 (p : List Int) {k : Nat} (h : k ≤ 10) : majK p k ≤ 100 := Nat.le_trans (majK_le p k) (Nat.mul_le_mul h h)

set_option maxHeartbeats 800000 in
theorem isDescent_any (A : Option Addr) (n c : Nat) (p : List Int) (i : Nat) (w : World) (hA : Ints w A n p) (hi : i < n) (hn : n ≤ 1000000) :
    Calls Try.prog 32 #[.slice A n c, .int .i64 (i : Int)] w fun e w' => e = .returned (.bool (dsc p i)) ∧ Below w.heap.size w w' := by
  have HB0 := hid (Below.refl w.heap.size w)
  obtain ⟨b, o, rfl, hb, hc⟩ := hA.row (by omega)
  have HC := hid hc
  clear hc hA
  by_cases h0 : 0 < i
  · have HD : Hid (dsc p i = decide (p.getD i 0 < p.getD (i - 1) 0)) := by unfold dsc; simp [Hid, h0]
    have g1 : w.cell? ⟨b, o + i, none⟩ = some (.int .i64 (p.getD i 0)) := HC.out i hi
    have g2 : w.cell? ⟨b, o + (i - 1), none⟩ = some (.int .i64 (p.getD (i - 1) 0)) := HC.out (i - 1) (by omega)
    generalize p.getD i 0 = x at *
    generalize p.getD (i - 1) 0 = y at *
    have hiN : (i : Int) < (n : Int) := by omega
    have hi0 : 0 < (i : Int) := by omega
    have hd : decide (0 < (i : Int)) = true := decide_eq_true hi0
    have hwr : IntKind.i64.wrap ((i : Int) - 1) = ((i - 1 : Nat) : Int) := by
      rw [IntWalk.i64_in _ (by omega)]
      omega
    have hiM : ((i - 1 : Nat) : Int) < (n : Int) := by omega
    have hd2 : decide (0 < i) = true := decide_eq_true h0
    by_cases hxy : x < y
    · have hd3 : decide (x < y) = true := decide_eq_true hxy
      rw [hd3] at HD
      go_enter Try.func32, Try.ntmps32
      go_wp2_with fail
      go_quiet (fail)
      go_wp2
      go_ret
      exact ⟨by rw [HD.out]; rfl, below_drewN HB0.out _⟩
    · have hd3 : decide (x < y) = false := decide_eq_false hxy
      rw [hd3] at HD
      go_enter Try.func32, Try.ntmps32
      go_wp2_with fail
      go_quiet (fail)
      go_wp2
      go_ret
      exact ⟨by rw [HD.out]; rfl, below_drewN HB0.out _⟩
  · have hi0 : i = 0 := by omega
    subst hi0
    go_enter Try.func32, Try.ntmps32
    go_wp2_with fail
    go_quiet (fail)
    go_wp2
    go_ret
    exact ⟨rfl, below_drewN HB0.out _⟩


set_option maxHeartbeats 400000 in
theorem falls_err (A : Option Addr) (n c : Nat) (p : List Int) (w : World) (hA : Ints w A n p) (hp : permErr p ≠ 0) (hn : n ≤ 9223372036854775807) :
    Calls Try.prog 10 #[.slice A n c] w fun e w' => e = .returned (.tuple #[.int .i64 0, .int .i64 (permErr p)]) ∧ Below w.heap.size w w' := by
  have hne : (permErr p != 0) = true := by simpa using hp
  go_enter Try.func10, Try.ntmps10
  go_wp2_with fail
  refine (check_any A n c p _ hA hn).mono ?_
  rintro e w1 ⟨rfl, hb1⟩
  have HB1 := hid hb1
  clear hb1 hp
  go_wp2
  go_ret2
  exact ⟨rfl, HB1.out⟩

set_option maxHeartbeats 800000 in
theorem falls_ok (A : Option Addr) (n c : Nat) (p : List Int) (w : World) (hA : Ints w A n p) (hp : permErr p = 0) :
    Calls Try.prog 10 #[.slice A n c] w fun e w' => e = .returned (.tuple #[.int .i64 ((fallN p : Nat) : Int), .int .i64 0]) ∧ Below w.heap.size w w' := by
  have hn10 : n ≤ 10 := by rw [← hA.len]; exact (permErr_ok.1 hp).1
  have HL := hid hA.len
  go_enter Try.func10, Try.ntmps10
  go_wp2_with fail
  refine (check_any A n c p _ hA (by omega)).mono ?_
  rintro e w1 ⟨rfl, hb1⟩
  have HI := hid (hA.keep hb1)
  have HB1 := hid hb1
  clear hb1
  rw [hp]
  go_wp2_with fail
  go_loopg [5, 6, 14] n (fun g u _ s wr => ∃ k : Nat, k ≤ n ∧ n - k ≤ g ∧ u = .int .i64 ((fallK p k : Nat) : Int) ∧ s = .int .i64 (k : Int) ∧ Below w.heap.size w wr)
  case atStart => exact ⟨0, Nat.zero_le _, by omega, rfl, rfl, HB1.out⟩
  case round =>
    clear HB1 HI
    obtain ⟨k, hk, hg, rfl, rfl, hbel⟩ := hrel
    have HB := hid hbel
    have HI := hid (hA.keep hbel)
    clear hbel
    have hle := fallK_le p k
    by_cases hlt : k < n
    · have hltI : (k : Int) < (n : Int) := by omega
      go_wp2_with fail
      refine (isDescent_any A n c p k _ HI.out hlt (by omega)).mono ?_
      rintro e w2 ⟨rfl, hb⟩
      have HB2 := hid (HB.out.trans (hb.mono HB.out.size))
      clear hb HB
      cases hx : dsc p k
      · have HN := hid (fallK_no hx)
        clear hx
        generalize fallK p k = z at *
        go_wp2
        go_roundg (n - (k + 1))
        case measure => omega
        case rel => exact ⟨k + 1, by omega, by omega, by rw [HN.out], by go_num, HB2.out⟩
      · have HN := hid (fallK_yes hx)
        clear hx
        generalize fallK p k = z at *
        go_wp2
        go_roundg (n - (k + 1))
        case measure => omega
        case rel => exact ⟨k + 1, by omega, by omega, by rw [HN.out]; go_num, by go_num, HB2.out⟩
    · have hkn : k = n := by omega
      subst hkn
      have HN : Hid (fallN p = fallK p k) := by unfold fallN; rw [HL.out]; exact rfl
      generalize fallK p k = z at *
      go_wp2
      go_ret2
      exact ⟨by rw [HN.out]; rfl, HB.out⟩

set_option maxHeartbeats 400000 in
theorem rsum_err (A : Option Addr) (n c : Nat) (p : List Int) (w : World) (hA : Ints w A n p) (hp : permErr p ≠ 0) (hn : n ≤ 9223372036854775807) :
    Calls Try.prog 12 #[.slice A n c] w fun e w' => e = .returned (.tuple #[.int .i64 0, .int .i64 (permErr p)]) ∧ Below w.heap.size w w' := by
  have hne : (permErr p != 0) = true := by simpa using hp
  go_enter Try.func12, Try.ntmps12
  go_wp2_with fail
  refine (check_any A n c p _ hA hn).mono ?_
  rintro e w1 ⟨rfl, hb1⟩
  have HB1 := hid hb1
  clear hb1 hp
  go_wp2
  go_ret2
  exact ⟨rfl, HB1.out⟩

set_option maxHeartbeats 800000 in
theorem rsum_ok (A : Option Addr) (n c : Nat) (p : List Int) (w : World) (hA : Ints w A n p) (hp : permErr p = 0) :
    Calls Try.prog 12 #[.slice A n c] w fun e w' => e = .returned (.tuple #[.int .i64 ((majN p : Nat) : Int), .int .i64 0]) ∧ Below w.heap.size w w' := by
  have hn10 : n ≤ 10 := by rw [← hA.len]; exact (permErr_ok.1 hp).1
  have HL := hid hA.len
  go_enter Try.func12, Try.ntmps12
  go_wp2_with fail
  refine (check_any A n c p _ hA (by omega)).mono ?_
  rintro e w1 ⟨rfl, hb1⟩
  have HI := hid (hA.keep hb1)
  have HB1 := hid hb1
  clear hb1
  rw [hp]
  go_wp2_with fail
  go_loopg [5, 6, 14] n (fun g u _ s wr => ∃ k : Nat, k ≤ n ∧ n - k ≤ g ∧ u = .int .i64 ((majK p k : Nat) : Int) ∧ s = .int .i64 (k : Int) ∧ Below w.heap.size w wr)
  case atStart => exact ⟨0, Nat.zero_le _, by omega, rfl, rfl, HB1.out⟩
  case round =>
    clear HB1 HI
    obtain ⟨k, hk, hg, rfl, rfl, hbel⟩ := hrel
    have HB := hid hbel
    have HI := hid (hA.keep hbel)
    clear hbel
    have hle := majK_100 p (show k ≤ 10 by omega)
    by_cases hlt : k < n
    · have hltI : (k : Int) < (n : Int) := by omega
      go_wp2_with fail
      refine (isDescent_any A n c p k _ HI.out hlt (by omega)).mono ?_
      rintro e w2 ⟨rfl, hb⟩
      have HB2 := hid (HB.out.trans (hb.mono HB.out.size))
      clear hb HB
      cases hx : dsc p k
      · have HN := hid (majK_no hx)
        clear hx
        generalize majK p k = z at *
        go_wp2
        go_roundg (n - (k + 1))
        case measure => omega
        case rel => exact ⟨k + 1, by omega, by omega, by rw [HN.out], by go_num, HB2.out⟩
      · have HN := hid (majK_yes hx)
        clear hx
        generalize majK p k = z at *
        go_wp2
        go_roundg (n - (k + 1))
        case measure => omega
        case rel => exact ⟨k + 1, by omega, by omega, by rw [HN.out]; go_num, by go_num, HB2.out⟩
    · have hkn : k = n := by omega
      subst hkn
      have HN : Hid (majN p = majK p k) := by unfold majN; rw [HL.out]; exact rfl
      generalize majK p k = z at *
      go_wp2
      go_ret2
      exact ⟨by rw [HN.out]; rfl, HB.out⟩

set_option maxHeartbeats 400000 in
theorem rcrossed_err (A : Option Addr) (n c : Nat) (p : List Int) (w : World) (hA : Ints w A n p) (hp : permErr p ≠ 0) (hn : n ≤ 9223372036854775807) :
    Calls Try.prog 11 #[.slice A n c] w fun e w' => e = .returned (.tuple #[.int .i64 0, .int .i64 (permErr p)]) ∧ Below w.heap.size w w' := by
  have hne : (permErr p != 0) = true := by simpa using hp
  go_enter Try.func11, Try.ntmps11
  go_wp2_with fail
  refine (check_any A n c p _ hA hn).mono ?_
  rintro e w1 ⟨rfl, hb1⟩
  have HB1 := hid hb1
  clear hb1 hp
  go_wp2
  go_ret2
  exact ⟨rfl, HB1.out⟩

theorem crs_yes {p : List Int} {k m : Nat} (h : k + 1 + m < p.length) (hlt : p.getD (k + 1 + m) 0 < p.getD k 0) : cntUpto p k (m + 1) = cntUpto p k m + 1 := by
  unfold cntUpto
  rw [take_drop_snoc h, List.countP_append, ← Nat.add_assoc]
  simp only [List.countP_cons, List.countP_nil, hlt, decide_true, if_true, Nat.zero_add]
theorem invUpto_le (p : List Int) : ∀ k, invUpto p k ≤ k * p.length
  | 0 => Nat.zero_le _
  | k + 1 => by
    have h1 := invUpto_le p k
    have h2 : (p.drop (k + 1)).countP (fun y => decide (y < p.getD k 0)) ≤ p.length := Nat.le_trans List.countP_le_length (by rw [List.length_drop]; omega)
    rw [Nat.add_mul]
    show invUpto p k + (p.drop (k + 1)).countP (fun y => decide (y < p.getD k 0)) ≤ _
    omega
theorem invUpto_100 {p : List Int} {k : Nat} (hl : p.length ≤ 10) (hk : k ≤ 10) : invUpto p k ≤ 100 := Nat.le_trans (invUpto_le p k) (Nat.mul_le_mul hk hl)
theorem inv_100 {p : List Int} (hl : p.length ≤ 10) : inv p ≤ 100 := by rw [inv_all]; exact invUpto_100 hl hl
theorem cntUpto_200 {p : List Int} {k m : Nat} (hl : p.length ≤ 10) (hk : k ≤ 10) : cntUpto p k m ≤ 110 := by
  have h1 := invUpto_100 hl hk
  have h2 : ((p.drop (k + 1)).take m).countP (fun y => decide (y < p.getD k 0)) ≤ p.length := Nat.le_trans List.countP_le_length (by rw [List.length_take, List.length_drop]; omega)
  unfold cntUpto
  omega

set_option maxHeartbeats 1600000 in
theorem rcrossed_ok (A : Option Addr) (n c : Nat) (p : List Int) (w : World) (hA : Ints w A n p) (hp : permErr p = 0) (hc : n ≤ c) (hc2 : c ≤ 9223372036854775807) :
    Calls Try.prog 11 #[.slice A n c] w fun e w' => e = .returned (.tuple #[.int .i64 ((inv p : Nat) : Int), .int .i64 0]) ∧ Below w.heap.size w w' := by
  have hn10 : n ≤ 10 := by rw [← hA.len]; exact (permErr_ok.1 hp).1
  have HLP : Hid (p.length ≤ 10) := (permErr_ok.1 hp).1
  go_enter Try.func11, Try.ntmps11
  go_wp2_with fail
  refine (check_any A n c p _ hA (by omega)).mono ?_
  rintro e w1 ⟨rfl, hb1⟩
  have hA1 := hA.keep hb1
  have HB1 := hid hb1
  have HL := hid hA.len
  clear hA hb1
  rw [hp]
  go_wp2_with fail
  go_loopg [5, 6, 7, 9, 17] n (fun g u _ _ _ s wr => ∃ k : Nat, k ≤ n ∧ n - k ≤ g ∧ s = .int .i64 k ∧ u = .int .i64 ((invUpto p k : Nat) : Int) ∧ w1 = wr)
  case atStart => exact ⟨0, Nat.zero_le _, by omega, rfl, rfl, rfl⟩
  case round =>
    obtain ⟨k, hk, hg, rfl, rfl, rfl⟩ := hrel
    by_cases hlt : k < n
    · obtain ⟨b, o, rfl, hb, hcell⟩ := hA1.row (by omega)
      have g1 := hcell k hlt
      have HC := hid hcell
      have HS0 : Hid (cntUpto p k 0 = invUpto p k) := by unfold cntUpto; simp [Hid]
      generalize hx : p.getD k 0 = x at g1
      have HX := hid hx
      clear hcell hx
      by_cases hck : c = k + 1
      · subst hck
        go_wp2
        go_loopg [5, 9, 27] 0 (fun g u _ s wr => s = .int .i64 0 ∧ u = .int .i64 ((invUpto p k : Nat) : Int) ∧ w1 = wr)
        case atStart => exact ⟨rfl, rfl, rfl⟩
        case round =>
          obtain ⟨rfl, rfl, rfl⟩ := hrel
          have HE : Hid (invUpto p k = invUpto p (k + 1)) := by
            have := cntUpto_end (p := p) (k := k) (m := 0) (by rw [HL.out]; omega)
            rw [HS0.out] at this
            exact this
          go_wp2
          go_roundg (n - (k + 1))
          case measure => omega
          case rel => exact ⟨k + 1, by omega, by omega, by go_num, by rw [HE.out], rfl⟩
      · go_wp2
        go_loopg [5, 9, 27] (n - (k + 1)) (fun g u _ s wr => ∃ m : Nat, m ≤ n - (k + 1) ∧ n - (k + 1) - m ≤ g ∧ s = .int .i64 m ∧ u = .int .i64 ((cntUpto p k m : Nat) : Int) ∧ w1 = wr)
        case atStart => exact ⟨0, Nat.zero_le _, by omega, rfl, by rw [HS0.out], rfl⟩
        case round =>
          obtain ⟨m, hm, hgm, rfl, rfl, rfl⟩ := hrel
          by_cases hmlt : m < n - (k + 1)
          · have g2 := HC.out (k + 1 + m) (by omega)
            have hbd := cntUpto_200 (m := m) HLP.out (show k ≤ 10 by omega)
            have HYES := hid (crs_yes (p := p) (k := k) (m := m) (by rw [HL.out]; omega))
            have HNO := hid (cntUpto_no (p := p) (k := k) (m := m) (by rw [HL.out]; omega))
            rw [HX.out] at HYES HNO
            rw [show o + (k + 1 + m) = o + (k + 1) + m by omega] at g2
            generalize p.getD (k + 1 + m) 0 = y at g2 HYES HNO
            generalize cntUpto p k m = s at HYES HNO hbd ⊢
            by_cases hyx : y < x
            · go_wp2
              go_roundg (n - (k + 1) - (m + 1))
              case measure => omega
              case rel => exact ⟨m + 1, by omega, by omega, by go_num, by rw [HYES.out hyx]; go_num, rfl⟩
            · go_wp2
              go_roundg (n - (k + 1) - (m + 1))
              case measure => omega
              case rel => exact ⟨m + 1, by omega, by omega, by go_num, by rw [HNO.out hyx], rfl⟩
          · have hme : m = n - (k + 1) := by omega
            have HE := hid (cntUpto_end (p := p) (k := k) (m := m) (by rw [HL.out]; omega))
            rw [HE.out]
            have HM := hid hme
            clear hme
            go_wp2
            go_roundg (n - (k + 1))
            case measure => omega
            case rel => exact ⟨k + 1, by omega, by omega, by go_num, rfl, rfl⟩
    · have hkn : k = n := by omega
      subst hkn
      have HE : Hid (invUpto p k = inv p) := by rw [inv_all, HL.out]; exact rfl
      rw [HE.out]
      go_wp2
      go_ret2
      exact ⟨rfl, HB1.out⟩

end Go.Proofs.Ytcaenahhfhbiaaa
