/-
  package rank: Count, Code, Of.
-/
import Derived.Test.YtmdpfadfimodjaaArr
import Derived.Test.YtmdpfadfimodjaaRankM
import Derived.Test.YtmdpfadfimodjaaOrder
namespace Go.Proofs.Ytmdpfadfimodjaa
open Go.RowKit

/-! ### Count -/

theorem fact_mul (k : Nat) : ((fact (k + 1) : Nat) : Int) * ((k : Int) + 2) = ((fact (k + 2) : Nat) : Int) := by
  rw [show fact (k + 2) = (k + 2) * fact (k + 1) from rfl, Int.natCast_mul, Int.mul_comm]
  rfl

set_option maxHeartbeats 400000 in
theorem count_ok (n : Nat) (w : World) (hn : n ≤ 10) :
    Calls Try.prog 24 #[.int .i64 (n : Int)] w fun e w' => e = .returned (.tuple #[.int .i64 ((fact n : Nat) : Int), .int .i64 0]) ∧ w = w' := by
  go_enter Try.func24, Try.ntmps24
  go_wp2
  go_loopg [4, 5] n (fun g u s wr => ∃ k : Nat, (k + 1 ≤ n ∨ k = 0) ∧ n - k ≤ g ∧ u = .int .i64 ((fact (k + 1) : Nat) : Int) ∧ s = .int .i64 ((k : Int) + 2) ∧ w = wr)
  case atStart => exact ⟨0, Or.inr rfl, by omega, rfl, rfl, rfl⟩
  case round =>
    obtain ⟨k, hk, hg, rfl, rfl, rfl⟩ := hrel
    by_cases hlt : k + 2 ≤ n
    · have HM := hid (fact_mul k)
      have h1 : ((fact (k + 1) : Nat) : Int) * ((k : Int) + 2) ≤ 3628800 := by have := fact_ten (n := k + 2) (by omega); rw [HM.out]; omega
      have h0 : 0 ≤ ((fact (k + 1) : Nat) : Int) * ((k : Int) + 2) := by rw [HM.out]; omega
      generalize fact (k + 1) = F at HM h1 h0 ⊢
      go_wp2
      go_roundg (n - (k + 1))
      case measure => omega
      case rel => exact ⟨k + 1, by omega, by omega, by rw [HM.out], by go_num, rfl⟩
    · have HE : Hid (fact (k + 1) = fact n) := by
        rcases hk with h | h
        · rw [show n = k + 1 by omega]; exact rfl
        · subst h
          have : n = 0 ∨ n = 1 := by omega
          rcases this with rfl | rfl <;> rfl
      have h2 : ¬ (k : Int) + 2 ≤ (n : Int) := by omega
      rw [HE.out]
      go_wp2
      go_ret2
      exact ⟨rfl, rfl⟩

theorem count_bad (n : Int) (w : World) (hn : n < 0 ∨ 10 < n) :
    Calls Try.prog 24 #[.int .i64 n] w fun e w' => e = .returned (.tuple #[.int .i64 0, .int .i64 1]) ∧ w = w' := by
  rcases hn with h | h
  all_goals
    go_enter Try.func24, Try.ntmps24
    go_wp2
    go_ret2
    exact ⟨rfl, rfl⟩

/-! ### Code -/

/-- The cells of the code when k numbers are done, and m behind the next one are looked at. -/
def cellK (p : List Int) (k m j : Nat) : Value := .int .i64 (if j < k then (codeL p).getD j 0 else if j = k then (less (p.getD k 0) ((p.drop (k + 1)).take m) : Int) else 0)
theorem cellK_start (p : List Int) (j : Nat) : Value.int .i64 0 = cellK p 0 0 j := by
  unfold cellK
  rw [if_neg (by omega)]
  split <;> rfl
theorem take_drop_snoc' {p : List Int} {a m : Nat} (h : a + m < p.length) : (p.drop a).take (m + 1) = (p.drop a).take m ++ [p.getD (a + m) 0] := by
  rw [take_snoc (by rw [List.length_drop]; omega)]
  congr 1
  simp [List.getD_eq_getElem?_getD]
theorem less_step {p : List Int} {k m : Nat} (h : k + 1 + m < p.length) : less (p.getD k 0) ((p.drop (k + 1)).take (m + 1)) = less (p.getD k 0) ((p.drop (k + 1)).take m) + if p.getD (k + 1 + m) 0 < p.getD k 0 then 1 else 0 := by
  rw [take_drop_snoc' h, less_append, less_cons]
  simp [less]
theorem cellK_yes {p : List Int} {k m : Nat} (h : k + 1 + m < p.length) (hlt : p.getD (k + 1 + m) 0 < p.getD k 0) (j : Nat) :
    (if j = k then Value.int .i64 ((less (p.getD k 0) ((p.drop (k + 1)).take m) : Int) + 1) else cellK p k m j) = cellK p k (m + 1) j := by
  unfold cellK
  by_cases e : j = k
  · subst e
    rw [if_pos rfl, if_neg (by omega), if_pos rfl, less_step h, if_pos hlt]
    rfl
  · rw [if_neg e, if_neg e, if_neg e]
theorem cellK_no {p : List Int} {k m : Nat} (h : k + 1 + m < p.length) (hlt : ¬ p.getD (k + 1 + m) 0 < p.getD k 0) (j : Nat) : cellK p k m j = cellK p k (m + 1) j := by
  unfold cellK
  rw [less_step h, if_neg hlt]
  rfl
theorem cellK_end {p : List Int} {k m : Nat} (hk : k < p.length) (h : k + 1 + m = p.length) (j : Nat) : cellK p k m j = cellK p (k + 1) 0 j := by
  unfold cellK
  rw [List.take_of_length_le (by rw [List.length_drop]; omega), List.take_zero, ← getD_codeL p k hk]
  by_cases h1 : j < k
  · rw [if_pos h1, if_pos (by omega)]
  · rw [if_neg h1]
    by_cases h2 : j = k
    · subst h2
      rw [if_pos rfl, if_pos (by omega)]
    · rw [if_neg h2, if_neg (by omega)]
      split <;> rfl

set_option maxHeartbeats 1600000 in
theorem code_ok (A : Option Addr) (n c : Nat) (p : List Int) (w : World) (hA : Ints w A n p) (hp : permErr p = 0) (hc : n ≤ c) :
    Calls Try.prog 34 #[.slice A n c] w (RetInts w (codeL p) 0) := by
  have hn10 : n ≤ 10 := by rw [← hA.len]; exact (permErr_ok.1 hp).1
  have hmk := fun W => run_make_row' (P := Try.prog) 22 3 (.int .i64 0) 8 Try.underlying22 infoInt rfl .i64 .i64 n (by omega) (by omega) W
  go_enter Try.func34, Try.ntmps34
  go_wp2_with fail
  refine (check_any A n c p _ hA (by omega)).mono ?_
  rintro e w1 ⟨rfl, hb1⟩
  have hA1 := hA.keep hb1
  have HB1 := hid hb1
  have HL := hid hA.len
  clear hA hb1
  go_wp2_with fail
  go_loopg [20] n (fun g s wr => ∃ k : Nat, k ≤ n ∧ n - k ≤ g ∧ s = .int .i64 k ∧ wr.rowIs w1.heap.size 3 n (cellK p k 0) ∧ Below w1.heap.size w1 wr)
  case atStart => exact ⟨0, Nat.zero_le _, by omega, rfl, (World.rowIs_made w1 _ n _).congr (fun j _ => cellK_start p j), (Below.refl _ _).alloc (Nat.le_refl _) _⟩
  case round =>
    obtain ⟨k, hk, hg, rfl, hrow, hbel⟩ := hrel
    have HR := hid hrow
    have HB := hid hbel
    clear hrow hbel hmk
    by_cases hlt : k < n
    · have hI := hA1.keep HB.out
      have HS := hid (hA1.drop (c := c) (l := k + 1) (by omega) hc)
      obtain ⟨b, o, rfl, hb, hcell⟩ := hI.row (by omega)
      have g1 := hcell k hlt
      have hsl := fun W => run_from (some ⟨b, o, none⟩) n c (k + 1) ((k : Int) + 1) (by omega) (by omega) W
      clear hcell hI hb
      generalize hx : p.getD k 0 = x at g1
      have HX := hid hx
      clear hx
      generalize subA (some ⟨b, o, none⟩) c (k + 1) = S at HS hsl
      go_wp2
      go_loopg [30] (n - (k + 1)) (fun g s wr => ∃ m : Nat, m ≤ n - (k + 1) ∧ n - (k + 1) - m ≤ g ∧ s = .int .i64 m ∧ wr.rowIs w1.heap.size 3 n (cellK p k m) ∧ Below w1.heap.size w1 wr)
      case atStart => exact ⟨0, Nat.zero_le _, by omega, rfl, HR.out, HB.out⟩
      case round =>
        clear HR HB
        obtain ⟨m, hm, hgm, rfl, hrow, hbel⟩ := hrel
        have HR := hid hrow
        have HB := hid hbel
        clear hrow hbel hsl
        by_cases hmlt : m < n - (k + 1)
        · obtain ⟨b2, o2, rfl, hb2, hcell2⟩ := (HS.out.keep HB.out).row (by omega)
          have g2 := hcell2 m hmlt
          have hy : (p.drop (k + 1)).getD m 0 = p.getD (k + 1 + m) 0 := by simp [List.getD_eq_getElem?_getD]
          rw [hy] at g2
          have g3 : wr.cell? ⟨w1.heap.size, k, none⟩ = some (.int .i64 (less (p.getD k 0) ((p.drop (k + 1)).take m) : Int)) := by
            rw [HR.out.cell (by omega)]
            unfold cellK
            rw [if_neg (by omega), if_pos rfl]
          have g4 : wr.frozen? ⟨w1.heap.size, k, none⟩ = false := HR.out.frozen k
          have hle : less (p.getD k 0) ((p.drop (k + 1)).take m) ≤ n := by
            have := less_le (p.getD k 0) ((p.drop (k + 1)).take m)
            have h2 := List.length_take_le m (p.drop (k + 1))
            omega
          have HYES := hid (fun h => cellK_yes (p := p) (k := k) (m := m) (by rw [HL.out]; omega) h)
          have HNO := hid (cellK_no (p := p) (k := k) (m := m) (by rw [HL.out]; omega))
          rw [HX.out] at HYES HNO g3 hle
          clear hcell2 hy
          generalize p.getD (k + 1 + m) 0 = y at g2 HYES HNO
          generalize less x ((p.drop (k + 1)).take m) = L at g3 hle HYES
          by_cases hyx : y < x
          · have HW := hid (HR.out.set k (.int .i64 ((L : Int) + 1)))
            go_wp2
            go_roundg (n - (k + 1) - (m + 1))
            case measure => omega
            case rel => exact ⟨m + 1, by omega, by omega, by go_num, HW.out.congr (fun j _ => HYES.out hyx j), HB.out.setCell (Nat.le_refl _) _⟩
          · go_wp2
            go_roundg (n - (k + 1) - (m + 1))
            case measure => omega
            case rel => exact ⟨m + 1, by omega, by omega, by go_num, HR.out.congr (fun j _ => HNO.out hyx j), HB.out⟩
        · have hme : m = n - (k + 1) := by omega
          have HE := hid (cellK_end (p := p) (k := k) (m := m) (by rw [HL.out]; omega) (by rw [HL.out]; omega))
          have HM := hid hme
          clear hme
          go_wp2
          go_roundg (n - (k + 1))
          case measure => omega
          case rel => exact ⟨k + 1, by omega, by omega, by go_num, HR.out.congr (fun j _ => HE.out j), HB.out⟩
    · have hkn : k = n := by omega
      subst hkn
      go_wp2
      go_ret2
      refine ⟨_, _, _, rfl, HB1.out.trans (HB.out.mono HB1.out.size), ints_of_row HR.out (by rw [length_codeL, HL.out]) (fun j hj => ?_), Nat.le_refl _, by omega⟩
      unfold cellK
      rw [if_pos hj]

/-! ### Of -/

set_option maxHeartbeats 800000 in
theorem of_ok (A : Option Addr) (n c : Nat) (p : List Int) (w : World) (hA : Ints w A n p) (hp : permErr p = 0) (hc : n ≤ c) :
    Calls Try.prog 25 #[.slice A n c] w (RetOrder w ((rk p : Nat) : Int) 0) := by
  have hn10 : n ≤ 10 := by rw [← hA.len]; exact (permErr_ok.1 hp).1
  have HL := hid hA.len
  go_enter Try.func25, Try.ntmps25
  go_wp2_with fail
  refine (code_ok A n c p _ hA hp hc).mono ?_
  rintro e w1 ⟨A1, n1, c1, rfl, hb1, hI, _⟩
  have hn1 : n = n1 := by rw [← hI.len, length_codeL, HL.out]
  subst hn1
  have HB1 := hid hb1
  have HI := hid hI
  have HD := hid (isDig_codeL p)
  have HV : Hid (val (codeL p) = rk p) := val_codeL p
  have HF : Hid (rk p < fact n) := by have := rk_lt p; rw [HL.out] at this; exact this
  have HCL : Hid ((codeL p).length = n) := by rw [length_codeL]; exact HL.out
  clear hb1 hI hA
  generalize codeL p = d at HI HD HV HCL
  go_wp2_with fail
  go_loopg [6, 19] n (fun g u s wr => ∃ k : Nat, k ≤ n ∧ n - k ≤ g ∧ s = .int .i64 k ∧ u = .int .i64 ((part d k : Nat) : Int) ∧ w1 = wr)
  case atStart => exact ⟨0, Nat.zero_le _, by omega, rfl, rfl, rfl⟩
  case round =>
    obtain ⟨k, hk, hg, rfl, rfl, rfl⟩ := hrel
    by_cases hlt : k < n
    · obtain ⟨b, o, rfl, hb, hcell⟩ := HI.out.row (by omega)
      have g1 := hcell k hlt
      have hd := HD.out.getD k (by rw [HCL.out]; exact hlt)
      have h1 := part_le d (k := k + 1) (by rw [HCL.out]; omega)
      have h2 := fact_ten hn10
      have h3 := HF.out
      rw [HV.out] at h1
      simp only [part, HCL.out] at h1
      have HP : Hid (part d (k + 1) = part d k * (n - k) + (d.getD k 0).toNat) := by show part d k * (d.length - k) + _ = _; rw [HCL.out]
      clear hcell hb
      generalize d.getD k 0 = x at g1 hd h1 HP
      obtain ⟨y, rfl⟩ := Int.eq_ofNat_of_zero_le hd.1
      simp only [Int.toNat_natCast] at h1 HP
      generalize part d k = q at h1 HP ⊢
      have HQ : Hid ((q : Int) * ((n : Int) - (k : Int)) = ((q * (n - k) : Nat) : Int)) := by rw [Int.natCast_mul, Int.ofNat_sub (by omega)]; exact rfl
      have h5 : 0 ≤ (q : Int) * ((n : Int) - (k : Int)) := by rw [HQ.out]; omega
      have h6 : (q : Int) * ((n : Int) - (k : Int)) + y ≤ 3628800 := by rw [HQ.out]; omega
      clear hd h1 h2 h3
      go_wp2
      go_roundg (n - (k + 1))
      case measure => omega
      case rel => exact ⟨k + 1, by omega, by omega, by go_num, by rw [HP.out, HQ.out]; rfl, rfl⟩
    · have hkn : k = n := by omega
      subst hkn
      have HE : Hid (part d k = rk p) := by rw [← HV.out, ← part_end d, HCL.out]; exact rfl
      rw [HE.out]
      go_wp2
      go_ret2
      exact ⟨rfl, HB1.out⟩

end Go.Proofs.Ytmdpfadfimodjaa
