/-
  castref.CasesErr, Heavy.
-/
import Derived.Test.YtlepgeipcofapaaEvA
import Derived.Test.YtlepgeipcofapaaRatB
namespace Go.Proofs.Ytlepgeipcofapaa
open Go.RowKit

theorem cases1_any (x : Int) (w : World) : Calls Try.prog 26 #[.int .i64 x] w fun e w' => e = .returned (.bool (!wOk x)) ∧ w = w' := by
  by_cases h1 : x < 1
  · have HE : Hid (wOk x = false) := decide_eq_false (by omega)
    go_enter Try.func26, Try.ntmps26
    go_wp2
    go_ret
    exact ⟨by rw [HE.out]; simp, rfl⟩
  · by_cases h2 : 100 < x
    · have HE : Hid (wOk x = false) := decide_eq_false (by omega)
      go_enter Try.func26, Try.ntmps26
      go_wp2
      go_ret
      exact ⟨by rw [HE.out]; simp, rfl⟩
    · have HE : Hid (wOk x = true) := decide_eq_true (by omega)
      go_enter Try.func26, Try.ntmps26
      go_wp2
      go_ret
      exact ⟨by rw [HE.out]; simp, rfl⟩

/-- A place, or none: is it there? -/
def RetSpot (b : Bool) (w : World) (e : Ending) (w' : World) : Prop := ∃ r : Int, e = .returned (.int .i64 r) ∧ decide (0 ≤ r) = b ∧ w = w'

set_option maxHeartbeats 800000 in
set_option maxRecDepth 100000 in
theorem indexFunc_w (A : Option Addr) (n c : Nat) (ws : List Int) (w : World) (h : Ints w A n ws) (hn : n ≤ 1000000) :
    Calls Try.prog 35 #[.slice A n c, .func (.func 26) #[] #[]] w (RetSpot (!ws.all wOk) w) := by
  have HL := hid h.len
  go_enter Try.func35, Try.ntmps35
  go_wp2
  go_loopg [8] n (fun g s wr => ∃ k : Nat, k ≤ n ∧ n - k ≤ g ∧ s = .int .i64 k ∧ w = wr ∧ ∀ j, j < k → wOk (ws.getD j 0) = true)
  case atStart => exact ⟨0, Nat.zero_le _, by omega, rfl, rfl, fun j hj => absurd hj (Nat.not_lt_zero _)⟩
  case round =>
    obtain ⟨k, hk, hg, rfl, rfl, hall⟩ := hrel
    have HA := hid hall
    clear hall
    by_cases hlt : k < n
    · obtain ⟨b, o, rfl, hb, hc⟩ := h.row (by omega)
      have g1 := hc k hlt
      have HB : Hid (wOk (ws.getD k 0) = false → ws.all wOk = false) := fun hh => List.all_eq_false.2 ⟨_, getD_mem (by rw [HL.out]; exact hlt), by simpa using hh⟩
      have HX : Hid (wOk (ws.getD k 0) = true → ∀ j, j < k + 1 → wOk (ws.getD j 0) = true) := fun hh j hj => by
        by_cases e : j = k
        · subst e; exact hh
        · exact HA.out j (by omega)
      clear hc h HA
      generalize ws.getD k 0 = x at *
      cases hx : wOk x with
      | true =>
        have HY := hid (HX.out hx)
        have hy : (!wOk x) = false := by rw [hx]; rfl
        have HY2 := hid hy
        clear HX HB hx hy
        go_wp2_with (go_at_call 26; refine (cases1_any _ _).mono ?_; rintro e w' ⟨rfl, rfl⟩; rw [HY2.out])
        go_roundg (n - (k + 1))
        case measure => omega
        case rel => exact ⟨k + 1, by omega, by omega, by go_num, rfl, HY.out⟩
      | false =>
        have HY := hid (HB.out hx)
        have hy : (!wOk x) = true := by rw [hx]; rfl
        have HY2 := hid hy
        clear HX HB hx hy
        go_wp2_with (go_at_call 26; refine (cases1_any _ _).mono ?_; rintro e w' ⟨rfl, rfl⟩; rw [HY2.out])
        go_ret
        exact ⟨_, rfl, by rw [HY.out]; simp, rfl⟩
    · obtain rfl : k = n := by omega
      have HS : Hid (ws.all wOk = true) := all_wOk (by rw [HL.out]; exact HA.out)
      go_wp2
      go_ret
      exact ⟨_, rfl, by rw [HS.out]; rfl, rfl⟩

set_option maxHeartbeats 800000 in
theorem containsFunc_w (A : Option Addr) (n c : Nat) (ws : List Int) (w : World) (h : Ints w A n ws) (hn : n ≤ 1000000) :
    Calls Try.prog 25 #[.slice A n c, .func (.func 26) #[] #[]] w fun e w' => e = .returned (.bool (!ws.all wOk)) ∧ w = w' := by
  have HH := hid (indexFunc_w A n c ws w h hn)
  clear h
  generalize (!ws.all wOk) = q at *
  go_enter Try.func25, Try.ntmps25
  go_wp2_with fail
  refine HH.out.mono ?_
  rintro e w' ⟨r, rfl, hr, rfl⟩
  have HR := hid hr
  clear hr
  go_wp2
  go_ret
  exact ⟨by rw [← HR.out]; rfl, rfl⟩

theorem lt_pow {s n : Nat} (h : s < 2 ^ n) : (s : Int) < (2 : Int) ^ n := by rw [pow_int]; omega
theorem not_lt_pow {s n : Nat} (h : ¬ s < 2 ^ n) : ¬ (s : Int) < (2 : Int) ^ n := by rw [pow_int]; omega
theorem wrap_pw12 {n : Nat} (h : n ≤ 12) : IntKind.i64.wrap ((2 : Int) ^ n) = (2 : Int) ^ n := by
  have h1 : 2 ^ n ≤ 2 ^ 12 := Nat.pow_le_pow_right (by omega) h
  rw [pow_int]
  generalize 2 ^ n = z at *
  exact IntWalk.i64_in _ (by omega)

set_option maxHeartbeats 800000 in
theorem cases2_any (A : Option Addr) (n c bl : Nat) (s : Nat) (w : World) (hc : w.cell? ⟨bl, 0, none⟩ = some (.slice A n c)) (hn : n ≤ 12) (hs : s < 65536) :
    Calls Try.prog 28 #[.int .u16 (s : Int), .pointer (some ⟨bl, 0, none⟩)] w fun e w' => e = .returned (.bool (!decide (s < 2 ^ n))) ∧ w = w' := by
  have h1 := wrap_pw12 hn
  by_cases h : s < 2 ^ n
  · have HE : Hid (decide (s < 2 ^ n) = true) := decide_eq_true h
    have h2 := lt_pow h
    clear h
    go_enter Try.func28, Try.ntmps28
    go_wp2
    go_ret
    exact ⟨by rw [HE.out]; simp; omega, rfl⟩
  · have HE : Hid (decide (s < 2 ^ n) = false) := decide_eq_false h
    have h2 := not_lt_pow h
    clear h
    go_enter Try.func28, Try.ntmps28
    go_wp2
    go_ret
    exact ⟨by rw [HE.out]; simp, rfl⟩

set_option maxHeartbeats 800000 in
set_option maxRecDepth 100000 in
theorem indexFunc_s (A : Option Addr) (n c bl : Nat) (B : Option Addr) (m d : Nat) (l : List Nat) (w : World) (hcl : w.cell? ⟨bl, 0, none⟩ = some (.slice A n c)) (hn : n ≤ 12) (h : Sets w B m l) (hm : m ≤ 9223372036854775807) :
    Calls Try.prog 36 #[.slice B m d, .func (.func 28) #[] #[.pointer (some ⟨bl, 0, none⟩)]] w (RetSpot (!l.all (fun s => decide (s < 2 ^ n))) w) := by
  have HL := hid h.len
  have HC := hid (fun (s : Nat) (hs : s < 65536) => cases2_any A n c bl s w hcl hn hs)
  clear hcl hn
  go_enter Try.func36, Try.ntmps36
  go_wp2
  go_loopg [5, 8] m (fun g _ s wr => ∃ k : Nat, k ≤ m ∧ m - k ≤ g ∧ s = .int .i64 k ∧ w = wr ∧ ∀ j, j < k → decide (l.getD j 0 < 2 ^ n) = true)
  case atStart => exact ⟨0, Nat.zero_le _, by omega, rfl, rfl, fun j hj => absurd hj (Nat.not_lt_zero _)⟩
  case round =>
    obtain ⟨k, hk, hg, rfl, rfl, hall⟩ := hrel
    have HA := hid hall
    clear hall
    by_cases hlt : k < m
    · have HG := hid (HC.out _ (h.get hlt))
      obtain ⟨b, o, rfl, hb, hc⟩ := h.row (by omega)
      have g1 := hc k hlt
      have HB : Hid (decide (l.getD k 0 < 2 ^ n) = false → l.all (fun s => decide (s < 2 ^ n)) = false) := fun hh => List.all_eq_false.2 ⟨l.getD k 0, by
        have hk' : k < l.length := by rw [HL.out]; exact hlt
        rw [List.getD_eq_getElem?_getD, List.getElem?_eq_getElem hk']
        exact List.getElem_mem hk', by simpa using hh⟩
      have HX : Hid (decide (l.getD k 0 < 2 ^ n) = true → ∀ j, j < k + 1 → decide (l.getD j 0 < 2 ^ n) = true) := fun hh j hj => by
        by_cases e : j = k
        · subst e; exact hh
        · exact HA.out j (by omega)
      clear hc h HA HC
      generalize l.getD k 0 = x at *
      have HD : Hid (∀ q, decide (x < 2 ^ n) = q → (decide (x < 2 ^ n) = true → ∀ j, j < k + 1 → decide (l.getD j 0 < 2 ^ n) = true) → True) := fun _ _ _ => trivial
      clear HD
      generalize hx : decide (x < 2 ^ n) = q at *
      cases q with
      | true =>
        have HY := hid (HX.out rfl)
        clear HX HB hx
        go_wp2_with (go_at_call 28; refine HG.out.mono ?_; rintro e w' ⟨rfl, rfl⟩; rw [Bool.not_true])
        go_roundg (m - (k + 1))
        case measure => omega
        case rel => exact ⟨k + 1, by omega, by omega, by go_num, rfl, HY.out⟩
      | false =>
        have HY := hid (HB.out rfl)
        clear HX HB hx
        go_wp2_with (go_at_call 28; refine HG.out.mono ?_; rintro e w' ⟨rfl, rfl⟩; rw [Bool.not_false])
        go_ret
        exact ⟨_, rfl, by rw [HY.out]; simp, rfl⟩
    · obtain rfl : k = m := by omega
      have HS : Hid (l.all (fun s => decide (s < 2 ^ n)) = true) := List.all_eq_true.2 fun x hx => by
        obtain ⟨j, hj, rfl⟩ := List.getElem_of_mem hx
        have := HA.out j (by rw [← HL.out]; exact hj)
        rw [List.getD_eq_getElem?_getD, List.getElem?_eq_getElem hj] at this
        exact this
      clear h
      go_wp2
      go_ret
      exact ⟨_, rfl, by rw [HS.out]; rfl, rfl⟩

set_option maxHeartbeats 800000 in
theorem containsFunc_s (A : Option Addr) (n c bl : Nat) (B : Option Addr) (m d : Nat) (l : List Nat) (w : World) (hcl : w.cell? ⟨bl, 0, none⟩ = some (.slice A n c)) (hn : n ≤ 12) (h : Sets w B m l) (hm : m ≤ 9223372036854775807) :
    Calls Try.prog 27 #[.slice B m d, .func (.func 28) #[] #[.pointer (some ⟨bl, 0, none⟩)]] w fun e w' => e = .returned (.bool (!l.all (fun s => decide (s < 2 ^ n)))) ∧ w = w' := by
  have HH := hid (indexFunc_s A n c bl B m d l w hcl hn h hm)
  clear h hcl
  generalize (!l.all (fun s => decide (s < 2 ^ n))) = q at *
  go_enter Try.func27, Try.ntmps27
  go_wp2_with fail
  refine HH.out.mono ?_
  rintro e w' ⟨r, rfl, hr, rfl⟩
  have HR := hid hr
  clear hr
  go_wp2
  go_ret
  exact ⟨by rw [← HR.out]; rfl, rfl⟩

set_option maxHeartbeats 1600000 in
set_option maxRecDepth 100000 in
theorem refCasesErr_any (A : Option Addr) (n c : Nat) (B : Option Addr) (m d : Nat) (ws : List Int) (l : List Nat) (w : World) (hI : Ints w A n ws) (hJ : Sets w B m l) (hm : m ≤ 9223372036854775807) :
    Calls Try.prog 13 #[.slice A n c, .slice B m d] w (RetE w (casesErr ws l)) := by
  have HB0 : Hid (Below w.heap.size w (w.alloc (.cells #[.slice A n c] 22))) := below_alloc w _
  have hcl : (w.alloc (.cells #[.slice A n c] 22)).cell? ⟨w.heap.size, 0, none⟩ = some (.slice A n c) := by
    rw [cell_of_row (w.alloc _) w.heap.size 0 _ 22 (0, 0) (heap_alloc_new w _)]
    rfl
  have hl := hI.len
  by_cases h1 : n < 1
  · have HE : Hid (casesErr ws l = 2) := casesErr_large l (by omega)
    obtain rfl : n = 0 := by omega
    clear hl hI hJ hcl
    go_enter Try.func13, Try.ntmps13
    go_wp2
    go_ret
    exact ⟨by rw [HE.out]; rfl, HB0.out⟩
  · by_cases h2 : 12 < n
    · have HE : Hid (casesErr ws l = 2) := casesErr_large l (by omega)
      have hz : ((n : Int) == 0) = false := by simp; omega
      clear hl hI hJ hcl
      go_enter Try.func13, Try.ntmps13
      go_wp2
      go_ret
      exact ⟨by rw [HE.out]; rfl, HB0.out⟩
    · have hz : ((n : Int) == 0) = false := by simp; omega
      have HN : Hid (casesErr ws l = if ws.all wOk = false then 1 else if l.all (fun s => decide (s < 2 ^ n)) = false then 3 else 0) := by
        rw [Hid, casesErr, if_neg (by omega), hl]
      have HC1 := hid (containsFunc_w A n c ws _ (hI.keep HB0.out) (by omega))
      have HC2 := hid (containsFunc_s A n c w.heap.size B m d l _ hcl (by omega) (hJ.keep HB0.out) hm)
      clear hl hI hJ
      generalize ws.all wOk = q1 at *
      generalize l.all (fun s => decide (s < 2 ^ n)) = q2 at *
      cases q1 with
      | false =>
        have HE : Hid (casesErr ws l = 1) := by rw [Hid, HN.out]; rfl
        go_enter Try.func13, Try.ntmps13
        go_wp2_with fail
        refine HC1.out.mono ?_
        rintro e w' ⟨rfl, rfl⟩
        rw [Bool.not_false]
        go_wp2
        go_ret
        exact ⟨by rw [HE.out]; rfl, HB0.out⟩
      | true =>
        cases q2 with
        | false =>
          have HE : Hid (casesErr ws l = 3) := by rw [Hid, HN.out]; rfl
          go_enter Try.func13, Try.ntmps13
          go_wp2_with fail
          refine HC1.out.mono ?_
          rintro e w' ⟨rfl, rfl⟩
          rw [Bool.not_true]
          go_wp2_with fail
          refine HC2.out.mono ?_
          rintro e w' ⟨rfl, rfl⟩
          rw [Bool.not_false]
          go_wp2
          go_ret
          exact ⟨by rw [HE.out]; rfl, HB0.out⟩
        | true =>
          have HE : Hid (casesErr ws l = 0) := by rw [Hid, HN.out]; rfl
          go_enter Try.func13, Try.ntmps13
          go_wp2_with fail
          refine HC1.out.mono ?_
          rintro e w' ⟨rfl, rfl⟩
          rw [Bool.not_true]
          go_wp2_with fail
          refine HC2.out.mono ?_
          rintro e w' ⟨rfl, rfl⟩
          rw [Bool.not_true]
          go_wp2
          go_ret
          exact ⟨by rw [HE.out]; rfl, HB0.out⟩

set_option maxHeartbeats 1600000 in
theorem refHeavy_ok (A : Option Addr) (n c : Nat) (ws : List Int) (s : Nat) (w : World) (hI : Ints w A n ws) (hS : Space ws) (hs : s < 65536) :
    Calls Try.prog 15 #[.slice A n c, .int .u16 (s : Int)] w fun e w' => e = .returned (.int .i64 (wgt ws s)) ∧ ∃ q, w' = w.drewN q := by
  have HL := hid hI.len
  have HS := hid hS
  have HI := hid hI
  have hn : n ≤ 12 := by have := hS.hi; have := hI.len; omega
  clear hS hI
  go_enter Try.func15, Try.ntmps15
  go_wp2
  go_loopg [5, 6, 9] n (fun g u _ z wr => ∃ k q : Nat, k ≤ n ∧ n - k ≤ g ∧ u = .int .i64 (wgt (ws.take k) s) ∧ z = .int .i64 (k : Int) ∧ wr = w.drewN q)
  case atStart => exact ⟨0, 0, by omega, by omega, rfl, rfl, rfl⟩
  case round =>
    obtain ⟨k, q0, hk, hg, rfl, rfl, hw⟩ := hrel
    have HQ := hid hw
    have HI1 : Hid (Ints wr A n ws) := by rw [hw]; exact HI.out.drewN q0
    clear hw
    by_cases hlt : k < n
    · obtain ⟨b, o, rfl, hb, hc⟩ := HI1.out.row (by omega)
      have g1 := hc k hlt
      have h1 := shr_one (k := k) hs
      have hkl : k < ws.length := by rw [HL.out]; exact hlt
      have HM := hid (wgt_step s hkl)
      have h2 : s / 2 ^ k % 2 < 2 := Nat.mod_lt _ (by omega)
      have h3 := wgt_part HS.out s k
      have h4 := HS.out.w _ (getD_mem hkl)
      have hkI : (k : Int) < (n : Int) := by omega
      clear hc hkl
      generalize s / 2 ^ k % 2 = q at *
      generalize wgt (ws.take k) s = x at *
      generalize ws.getD k 0 = y at *
      obtain rfl | rfl : q = 0 ∨ q = 1 := by omega
      · go_wp2_with fail
        go_quiet (fail)
        go_wp2
        go_roundg (n - (k + 1))
        case measure => omega
        case rel => exact ⟨k + 1, _, by omega, by omega, by rw [HM.out]; go_num, by go_num, by rw [HQ.out, World.drewN_drewN]⟩
      · go_wp2_with fail
        go_quiet (fail)
        go_wp2
        go_roundg (n - (k + 1))
        case measure => omega
        case rel => exact ⟨k + 1, _, by omega, by omega, by rw [HM.out]; go_num, by go_num, by rw [HQ.out, World.drewN_drewN]⟩
    · obtain rfl : k = n := by omega
      have HE : Hid (ws.take k = ws) := by rw [← HL.out]; exact List.take_length
      go_wp2
      go_ret
      exact ⟨by rw [HE.out]; rfl, _, HQ.out⟩
end Go.Proofs.Ytlepgeipcofapaa
