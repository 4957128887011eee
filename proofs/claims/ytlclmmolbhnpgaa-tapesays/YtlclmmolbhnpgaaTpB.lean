/-
  package tape: Check, Bits, value; castref.TapeErr, BitsOf.
-/
import Derived.Test.YtlclmmolbhnpgaaTpA
import Derived.Test.YtlclmmolbhnpgaaSixI
import Derived.Laws.BitsAllLaws
import Derived.Laws.BitsLemmas
namespace Go.Proofs.Ytlclmmolbhnpgaa
open Go.RowKit

set_option maxHeartbeats 800000 in
theorem tpCheck_any (A : Option Addr) (n c : Nat) (xs : List Nat) (w : World) (h : Byts w A n xs) :
    Calls Try.prog 12 #[.slice A n c] w fun e w' => e = .returned (.int .i64 (tapeErr xs)) ∧ w = w' := by
  have HL := hid h.len
  by_cases hn : 200 < n
  · have HE : Hid (tapeErr xs = 2) := tapeErr_large (by rw [HL.out]; exact hn)
    have hnI : (n : Int) > 200 := by omega
    clear h
    go_enter Try.func12, Try.ntmps12
    go_wp2
    go_ret
    exact ⟨by rw [HE.out]; rfl, rfl⟩
  · have HN : Hid (¬ 200 < xs.length) := by rw [Hid, HL.out]; exact hn
    go_enter Try.func12, Try.ntmps12
    go_wp2
    go_loopg [4, 10] n (fun g _ s wr => ∃ k : Nat, k ≤ n ∧ n - k ≤ g ∧ s = .int .i64 (k : Int) ∧ w = wr ∧ ∀ j, j < k → xs.getD j 0 ≤ 1)
    case atStart => exact ⟨0, Nat.zero_le _, by omega, rfl, rfl, fun j hj => absurd hj (Nat.not_lt_zero _)⟩
    case round =>
      obtain ⟨k, hk, hg, rfl, rfl, hall⟩ := hrel
      have HA := hid hall
      clear hall
      by_cases hlt : k < n
      · obtain ⟨b, o, rfl, hb, hc⟩ := h.row (by omega)
        have g1 := hc k hlt
        have hx := h.get hlt
        have HR : Hid (1 < xs.getD k 0 → tapeErr xs = 3) := fun h1 => tapeErr_form HN.out (getD_memT (by rw [HL.out]; exact hlt)) h1
        have HY : Hid (xs.getD k 0 ≤ 1 → ∀ j, j < k + 1 → xs.getD j 0 ≤ 1) := fun h1 j hj => by
          by_cases e : j = k
          · subst e; exact h1
          · exact HA.out j (by omega)
        clear hc h HA
        generalize xs.getD k 0 = x at *
        by_cases c1 : 1 < x
        · have HX := hid (HR.out c1)
          have c2 : (x : Int) > 1 := by omega
          clear HR HY
          go_wp2
          go_ret
          exact ⟨by rw [HX.out]; rfl, rfl⟩
        · have HX := hid (HY.out (by omega))
          have c2 : ¬ (x : Int) > 1 := by omega
          clear HR HY
          go_wp2
          go_roundg (n - (k + 1))
          case measure => omega
          case rel => exact ⟨k + 1, by omega, by omega, by go_num, rfl, HX.out⟩
      · obtain rfl : k = n := by omega
        have HX : Hid (tapeErr xs = 0) := tapeErr_ok HN.out (h.bin HA.out)
        clear h HA
        go_wp2
        go_ret
        exact ⟨by rw [HX.out]; rfl, rfl⟩

/-- Bits: how many, and the error. -/
def bitsX (n : Int) : Nat × Int := if n < 1 ∨ 1024 < n then (0, 1) else (wd n.toNat, 0)
theorem bitsX_arg {n : Int} (h : n < 1 ∨ 1024 < n) : bitsX n = (0, 1) := if_pos h
theorem bitsX_ok {n : Nat} (h1 : 1 ≤ n) (h2 : n ≤ 1024) : bitsX n = (wd n, 0) := by rw [bitsX, if_neg (by omega), Int.toNat_natCast]

theorem tpBits_bad (n : Int) (w : World) (h : n < 1 ∨ 1024 < n) :
    Calls Try.prog 7 #[.int .i64 n] w fun e w' => e = .returned (.tuple #[.int .i64 0, .int .i64 1]) ∧ w = w' := by
  rcases h with h | h
  · go_enter Try.func7, Try.ntmps7
    go_wp2
    go_ret2
    exact ⟨rfl, rfl⟩
  · have h1 : ¬ n < 1 := by omega
    go_enter Try.func7, Try.ntmps7
    go_wp2
    go_ret2
    exact ⟨rfl, rfl⟩
theorem tpBits_ok (n : Nat) (w : World) (h1 : 1 ≤ n) (h2 : n ≤ 1024) :
    Calls Try.prog 7 #[.int .i64 (n : Int)] w fun e w' => e = .returned (.tuple #[.int .i64 ((wd n : Nat) : Int), .int .i64 0]) ∧ w = w' := by
  have HC : Hid (Calls Try.prog 24 #[.int .u64 (((n : Int) - 1))] w fun e w' => e = .returned (.int .i64 ((wd n : Nat) : Int)) ∧ w = w') := by
    have := len_any (n - 1) w (by omega)
    rw [show (((n - 1 : Nat)) : Int) = (n : Int) - 1 by omega] at this
    exact this
  have c1 : ¬ (n : Int) < 1 := by omega
  have c2 : ¬ (n : Int) > 1024 := by omega
  go_enter Try.func7, Try.ntmps7
  go_wp2_with (go_at_call 24; refine HC.out.mono ?_; rintro e w' ⟨rfl, rfl⟩)
  go_ret2
  exact ⟨rfl, rfl⟩

theorem or_tab : ((List.range 512).all fun x => (List.range 2).all fun d => decide (bits .or .i64 (((2 * x : Nat) : Int)) (d : Int) = ((2 * x + d : Nat) : Int))) = true := by decide +kernel
theorem or_at {x d : Nat} (hx : x < 512) (hd : d ≤ 1) : bits .or .i64 (((2 * x : Nat) : Int)) (d : Int) = ((2 * x + d : Nat) : Int) := by
  have h1 := List.all_eq_true.1 or_tab x (List.mem_range.2 hx)
  have h2 := List.all_eq_true.1 h1 d (List.mem_range.2 (by omega))
  exact of_decide_eq_true h2

set_option maxHeartbeats 800000 in
theorem tpValue_any (A : Option Addr) (n c : Nat) (xs : List Nat) (w : World) (h : Byts w A n xs) (hb : Bin xs) (hn : n ≤ 10) :
    Calls Try.prog 25 #[.slice A n c] w fun e w' => e = .returned (.int .i64 ((bvl 0 xs : Nat) : Int)) ∧ w = w' := by
  have HL := hid h.len
  have HB := hid hb
  clear hb
  go_enter Try.func25, Try.ntmps25
  go_wp2
  go_loopg [3, 5, 8] n (fun g v _ s wr => ∃ k : Nat, k ≤ n ∧ n - k ≤ g ∧ v = .int .i64 ((bvl 0 (xs.take k) : Nat) : Int) ∧ s = .int .i64 (k : Int) ∧ w = wr)
  case atStart => exact ⟨0, Nat.zero_le _, by omega, rfl, rfl, rfl⟩
  case round =>
    obtain ⟨k, hk, hg, rfl, rfl, rfl⟩ := hrel
    by_cases hlt : k < n
    · obtain ⟨b, o, rfl, hb, hc⟩ := h.row (by omega)
      have g1 := hc k hlt
      have hkl : k < xs.length := by rw [HL.out]; exact hlt
      have HS := hid (bvl_step hkl)
      have hd := HB.out _ (getD_memT hkl)
      have hv : bvl 0 (xs.take k) < 512 := by
        have h1 := bvl_lt0 (HB.out.take k)
        have h2 : 2 ^ (xs.take k).length ≤ 2 ^ 9 := Nat.pow_le_pow_right (by omega) (by rw [List.length_take]; omega)
        omega
      clear hc h hkl
      generalize xs.getD k 0 = d at *
      generalize bvl 0 (xs.take k) = x at *
      have h1 : bits .or .i64 (2 * (x : Int)) (d : Int) = ((2 * x + d : Nat) : Int) := by rw [show 2 * (x : Int) = ((2 * x : Nat) : Int) by omega]; exact or_at hv hd
      have h2 : IntKind.i64.wrap ((x : Int) * 2) = ((2 * x : Nat) : Int) := by rw [show (x : Int) * 2 = ((2 * x : Nat) : Int) by omega]; exact IntWalk.i64_in _ (by omega)
      have H1 := hid h1
      clear h1
      go_wp2
      go_roundg (n - (k + 1))
      case measure => omega
      case rel => exact ⟨k + 1, by omega, by omega, by rw [HS.out, H1.out], by go_num, rfl⟩
    · obtain rfl : k = n := by omega
      have HE : Hid (xs.take k = xs) := by rw [← HL.out]; exact List.take_length
      clear h
      go_wp2
      go_ret
      exact ⟨by rw [HE.out]; rfl, rfl⟩

theorem tapeErr1_any (x : Nat) (w : World) (hx : x < 256) : Calls Try.prog 27 #[.int .u8 (x : Int)] w fun e w' => e = .returned (.bool (!decide (x ≤ 1))) ∧ w = w' := by
  by_cases h : x ≤ 1
  · have c1 : ¬ (x : Int) > 1 := by omega
    have HE : Hid (decide (x ≤ 1) = true) := decide_eq_true h
    clear h
    go_enter Try.func27, Try.ntmps27
    go_wp2
    go_ret
    exact ⟨by rw [HE.out]; rfl, rfl⟩
  · have c1 : (x : Int) > 1 := by omega
    have HE : Hid (decide (x ≤ 1) = false) := decide_eq_false h
    clear h
    go_enter Try.func27, Try.ntmps27
    go_wp2
    go_ret
    exact ⟨by rw [HE.out]; rfl, rfl⟩

/-- A place, or none: is it there? -/
def RetSpotB (b : Bool) (w : World) (e : Ending) (w' : World) : Prop := ∃ r : Int, e = .returned (.int .i64 r) ∧ decide (0 ≤ r) = b ∧ w = w'

set_option maxHeartbeats 800000 in
set_option maxRecDepth 100000 in
theorem indexFunc_b (B : Option Addr) (m d : Nat) (l : List Nat) (w : World) (h : Byts w B m l) (hm : m ≤ 9223372036854775807) :
    Calls Try.prog 33 #[.slice B m d, .func (.func 27) #[] #[]] w (RetSpotB (!l.all (fun x => decide (x ≤ 1))) w) := by
  have HL := hid h.len
  have HC := hid (fun (s : Nat) (hs : s < 256) => tapeErr1_any s w hs)
  go_enter Try.func33, Try.ntmps33
  go_wp2
  go_loopg [8] m (fun g s wr => ∃ k : Nat, k ≤ m ∧ m - k ≤ g ∧ s = .int .i64 k ∧ w = wr ∧ ∀ j, j < k → decide (l.getD j 0 ≤ 1) = true)
  case atStart => exact ⟨0, Nat.zero_le _, by omega, rfl, rfl, fun j hj => absurd hj (Nat.not_lt_zero _)⟩
  case round =>
    obtain ⟨k, hk, hg, rfl, rfl, hall⟩ := hrel
    have HA := hid hall
    clear hall
    by_cases hlt : k < m
    · have HG := hid (HC.out _ (h.get hlt))
      obtain ⟨b, o, rfl, hb, hc⟩ := h.row (by omega)
      have g1 := hc k hlt
      have HB : Hid (decide (l.getD k 0 ≤ 1) = false → l.all (fun x => decide (x ≤ 1)) = false) := fun hh => List.all_eq_false.2 ⟨l.getD k 0, getD_memT (by rw [HL.out]; exact hlt), by simpa using hh⟩
      have HX : Hid (decide (l.getD k 0 ≤ 1) = true → ∀ j, j < k + 1 → decide (l.getD j 0 ≤ 1) = true) := fun hh j hj => by
        by_cases e : j = k
        · subst e; exact hh
        · exact HA.out j (by omega)
      clear hc h HA HC
      generalize l.getD k 0 = x at *
      generalize hx : decide (x ≤ 1) = q at *
      cases q with
      | true =>
        have HY := hid (HX.out rfl)
        clear HX HB hx
        go_wp2_with (go_at_call 27; refine HG.out.mono ?_; rintro e w' ⟨rfl, rfl⟩; rw [Bool.not_true])
        go_roundg (m - (k + 1))
        case measure => omega
        case rel => exact ⟨k + 1, by omega, by omega, by go_num, rfl, HY.out⟩
      | false =>
        have HY := hid (HB.out rfl)
        clear HX HB hx
        go_wp2_with (go_at_call 27; refine HG.out.mono ?_; rintro e w' ⟨rfl, rfl⟩; rw [Bool.not_false])
        go_ret
        exact ⟨_, rfl, by rw [HY.out]; simp, rfl⟩
    · obtain rfl : k = m := by omega
      have HS : Hid (l.all (fun x => decide (x ≤ 1)) = true) := List.all_eq_true.2 fun x hx => by
        obtain ⟨j, hj, rfl⟩ := List.getElem_of_mem hx
        have := HA.out j (by rw [← HL.out]; exact hj)
        rw [List.getD_eq_getElem?_getD, List.getElem?_eq_getElem hj] at this
        exact this
      clear h
      go_wp2
      go_ret
      exact ⟨_, rfl, by rw [HS.out]; rfl, rfl⟩

set_option maxHeartbeats 800000 in
theorem containsFunc_b (B : Option Addr) (m d : Nat) (l : List Nat) (w : World) (h : Byts w B m l) (hm : m ≤ 9223372036854775807) :
    Calls Try.prog 26 #[.slice B m d, .func (.func 27) #[] #[]] w fun e w' => e = .returned (.bool (!l.all (fun x => decide (x ≤ 1)))) ∧ w = w' := by
  have HH := hid (indexFunc_b B m d l w h hm)
  clear h
  generalize (!l.all (fun x => decide (x ≤ 1))) = q at *
  go_enter Try.func26, Try.ntmps26
  go_wp2_with fail
  refine HH.out.mono ?_
  rintro e w' ⟨r, rfl, hr, rfl⟩
  have HR := hid hr
  clear hr
  go_wp2
  go_ret
  exact ⟨by rw [← HR.out]; rfl, rfl⟩

set_option maxHeartbeats 800000 in
theorem refTapeErr_any (A : Option Addr) (n c : Nat) (xs : List Nat) (w : World) (h : Byts w A n xs) :
    Calls Try.prog 11 #[.slice A n c] w fun e w' => e = .returned (.int .i64 (tapeErr xs)) ∧ w = w' := by
  have HL := hid h.len
  by_cases hn : 200 < n
  · have HE : Hid (tapeErr xs = 2) := tapeErr_large (by rw [HL.out]; exact hn)
    have hnI : (n : Int) > 200 := by omega
    clear h
    go_enter Try.func11, Try.ntmps11
    go_wp2
    go_ret
    exact ⟨by rw [HE.out]; rfl, rfl⟩
  · have HC := hid (containsFunc_b A n c xs w h (by omega))
    have HN : Hid (tapeErr xs = if xs.all (fun x => decide (x ≤ 1)) = false then 3 else 0) := by
      rw [Hid, tapeErr, if_neg (by rw [HL.out]; exact hn)]
    clear h
    generalize xs.all (fun x => decide (x ≤ 1)) = q at *
    cases q with
    | false =>
      have HE : Hid (tapeErr xs = 3) := by rw [Hid, HN.out]; rfl
      go_enter Try.func11, Try.ntmps11
      go_wp2_with fail
      refine HC.out.mono ?_
      rintro e w' ⟨rfl, rfl⟩
      go_wp2
      go_ret
      exact ⟨by rw [HE.out]; rfl, rfl⟩
    | true =>
      have HE : Hid (tapeErr xs = 0) := by rw [Hid, HN.out]; rfl
      go_enter Try.func11, Try.ntmps11
      go_wp2_with fail
      refine HC.out.mono ?_
      rintro e w' ⟨rfl, rfl⟩
      go_wp2
      go_ret
      exact ⟨by rw [HE.out]; rfl, rfl⟩

end Go.Proofs.Ytlclmmolbhnpgaa
