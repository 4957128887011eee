/-
  Texts joined: RankA, RankB, RankC, RankD, RankE, LinM, LinA, LinL, LinU.
-/
import Derived.Test.YtmdpfadfimodjaaDoorPermsOwnPart3
import Derived.Deep.RegionLaw
import Derived.Lib.SliceRun
import Derived.Deep.RegionWith
import Derived.Deep.DeepCutAuto
import Derived.Laws.MakeOwn

/-
  package rank: Count, Code, Of.
-/
namespace Go.Proofs.YtmdpfadfimodjaaDoor
open Go.RowKit

/-! ### Count -/

theorem fact_mul (k : Nat) : ((fact (k + 1) : Nat) : Int) * ((k : Int) + 2) = ((fact (k + 2) : Nat) : Int) := by
  rw [show fact (k + 2) = (k + 2) * fact (k + 1) from rfl, Int.natCast_mul, Int.mul_comm]
  rfl

set_option maxHeartbeats 400000 in
theorem count_ok (n : Nat) (w : World) (hn : n ≤ 10) :
    Calls Tryd.prog 50 #[.int .i64 (n : Int)] w fun e w' => e = .returned (.tuple #[.int .i64 ((fact n : Nat) : Int), .int .i64 0]) ∧ w = w' := by
  go_enter Tryd.func50, Tryd.ntmps50
  go_wp2
  go_loopg [4, 5] n (fun g u s wr => ∃ k : Nat, (k + 1 ≤ n ∨ k = 0) ∧ n - k ≤ g ∧ u = .int .i64 ((fact (k + 1) : Nat) : Int) ∧ s = .int .i64 ((k : Int) + 2) ∧ w = wr)
  case atStart => exact ⟨0, Or.inr rfl, by omega, rfl, rfl, rfl⟩
  case round =>
    obtain ⟨k, hk, hg, rfl, rfl, rfl⟩ := hrel
    by_cases hlt : k + 2 ≤ n
    · have HM := hid (fact_mul k)
      have h1 : ((fact (k + 1) : Nat) : Int) * ((k : Int) + 2) ≤ 3628800 := by have := fact_ten (n := k + 2) (by omega); rw [HM.out]; omega
      have h0 : 0 ≤ ((fact (k + 1) : Nat) : Int) * ((k : Int) + 2) := by rw [HM.out]; omega
      generalize fact (k + 1) = F at HM h1 h0 ⊢
      go_wp2
      go_roundg (n - (k + 1))
      case measure => omega
      case rel => exact ⟨k + 1, by omega, by omega, by rw [HM.out], by go_num, rfl⟩
    · have HE : Hid (fact (k + 1) = fact n) := by
        rcases hk with h | h
        · rw [show n = k + 1 by omega]; exact rfl
        · subst h
          have : n = 0 ∨ n = 1 := by omega
          rcases this with rfl | rfl <;> rfl
      have h2 : ¬ (k : Int) + 2 ≤ (n : Int) := by omega
      rw [HE.out]
      go_wp2
      go_ret2
      exact ⟨rfl, rfl⟩

theorem count_bad (n : Int) (w : World) (hn : n < 0 ∨ 10 < n) :
    Calls Tryd.prog 50 #[.int .i64 n] w fun e w' => e = .returned (.tuple #[.int .i64 0, .int .i64 1]) ∧ w = w' := by
  rcases hn with h | h
  all_goals
    go_enter Tryd.func50, Tryd.ntmps50
    go_wp2
    go_ret2
    exact ⟨rfl, rfl⟩

/-! ### Code -/

/-- The cells of the code when k numbers are done, and m behind the next one are looked at. -/
def cellK (p : List Int) (k m j : Nat) : Value := .int .i64 (if j < k then (codeL p).getD j 0 else if j = k then (less (p.getD k 0) ((p.drop (k + 1)).take m) : Int) else 0)
theorem cellK_start (p : List Int) (j : Nat) : Value.int .i64 0 = cellK p 0 0 j := by
  unfold cellK
  rw [if_neg (by omega)]
  split <;> rfl
theorem take_drop_snoc' {p : List Int} {a m : Nat} (h : a + m < p.length) : (p.drop a).take (m + 1) = (p.drop a).take m ++ [p.getD (a + m) 0] := by
  rw [take_snoc (by rw [List.length_drop]; omega)]
  congr 1
  simp [List.getD_eq_getElem?_getD]
theorem less_step {p : List Int} {k m : Nat} (h : k + 1 + m < p.length) : less (p.getD k 0) ((p.drop (k + 1)).take (m + 1)) = less (p.getD k 0) ((p.drop (k + 1)).take m) + if p.getD (k + 1 + m) 0 < p.getD k 0 then 1 else 0 := by
  rw [take_drop_snoc' h, less_append, less_cons]
  simp [less]
theorem cellK_yes {p : List Int} {k m : Nat} (h : k + 1 + m < p.length) (hlt : p.getD (k + 1 + m) 0 < p.getD k 0) (j : Nat) :
    (if j = k then Value.int .i64 ((less (p.getD k 0) ((p.drop (k + 1)).take m) : Int) + 1) else cellK p k m j) = cellK p k (m + 1) j := by
  unfold cellK
  by_cases e : j = k
  · subst e
    rw [if_pos rfl, if_neg (by omega), if_pos rfl, less_step h, if_pos hlt]
    rfl
  · rw [if_neg e, if_neg e, if_neg e]
theorem cellK_no {p : List Int} {k m : Nat} (h : k + 1 + m < p.length) (hlt : ¬ p.getD (k + 1 + m) 0 < p.getD k 0) (j : Nat) : cellK p k m j = cellK p k (m + 1) j := by
  unfold cellK
  rw [less_step h, if_neg hlt]
  rfl
theorem cellK_end {p : List Int} {k m : Nat} (hk : k < p.length) (h : k + 1 + m = p.length) (j : Nat) : cellK p k m j = cellK p (k + 1) 0 j := by
  unfold cellK
  rw [List.take_of_length_le (by rw [List.length_drop]; omega), List.take_zero, ← getD_codeL p k hk]
  by_cases h1 : j < k
  · rw [if_pos h1, if_pos (by omega)]
  · rw [if_neg h1]
    by_cases h2 : j = k
    · subst h2
      rw [if_pos rfl, if_pos (by omega)]
    · rw [if_neg h2, if_neg (by omega)]
      split <;> rfl

set_option maxHeartbeats 1600000 in
theorem code_own (A : Option Addr) (n c : Nat) (p : List Int) (w : World) (hA : Ints w A n p) (hp : permErr p = 0) (hc : n ≤ c) :
    Calls Tryd.prog 12 #[.slice A n c] w (RetOwnE w (codeL p) 0) := by
  have hn10 : n ≤ 10 := by rw [← hA.len]; exact (permErr_ok.1 hp).1
  have hmk := fun W => run_make_row' (P := Tryd.prog) 22 3 (.int .i64 0) 8 Tryd.underlying22 infoInt rfl .i64 .i64 n (by omega) (by omega) W
  go_enter Tryd.func12, Tryd.ntmps12
  go_wp2_with fail
  refine (check_any A n c p _ hA (by omega)).mono ?_
  rintro e w1 ⟨rfl, hb1⟩
  have hA1 := hA.keep hb1
  have HB1 := hid hb1
  have HL := hid hA.len
  clear hA hb1
  go_wp2_with fail
  go_loopg [20] n (fun g s wr => ∃ k : Nat, k ≤ n ∧ n - k ≤ g ∧ s = .int .i64 k ∧ wr.rowIs w1.heap.size 3 n (cellK p k 0) ∧ Below w1.heap.size w1 wr)
  case atStart => exact ⟨0, Nat.zero_le _, by omega, rfl, (World.rowIs_made w1 _ n _).congr (fun j _ => cellK_start p j), (Below.refl _ _).alloc (Nat.le_refl _) _⟩
  case round =>
    obtain ⟨k, hk, hg, rfl, hrow, hbel⟩ := hrel
    have HR := hid hrow
    have HB := hid hbel
    clear hrow hbel hmk
    by_cases hlt : k < n
    · have hI := hA1.keep HB.out
      have HS := hid (hA1.drop (c := c) (l := k + 1) (by omega) hc)
      obtain ⟨b, o, rfl, hb, hcell⟩ := hI.row (by omega)
      have g1 := hcell k hlt
      have hsl := fun W => run_from (some ⟨b, o, none⟩) n c (k + 1) ((k : Int) + 1) (by omega) (by omega) W
      clear hcell hI hb
      generalize hx : p.getD k 0 = x at g1
      have HX := hid hx
      clear hx
      generalize subA (some ⟨b, o, none⟩) c (k + 1) = S at HS hsl
      go_wp2
      go_loopg [30] (n - (k + 1)) (fun g s wr => ∃ m : Nat, m ≤ n - (k + 1) ∧ n - (k + 1) - m ≤ g ∧ s = .int .i64 m ∧ wr.rowIs w1.heap.size 3 n (cellK p k m) ∧ Below w1.heap.size w1 wr)
      case atStart => exact ⟨0, Nat.zero_le _, by omega, rfl, HR.out, HB.out⟩
      case round =>
        clear HR HB
        obtain ⟨m, hm, hgm, rfl, hrow, hbel⟩ := hrel
        have HR := hid hrow
        have HB := hid hbel
        clear hrow hbel hsl
        by_cases hmlt : m < n - (k + 1)
        · obtain ⟨b2, o2, rfl, hb2, hcell2⟩ := (HS.out.keep HB.out).row (by omega)
          have g2 := hcell2 m hmlt
          have hy : (p.drop (k + 1)).getD m 0 = p.getD (k + 1 + m) 0 := by simp [List.getD_eq_getElem?_getD]
          rw [hy] at g2
          have g3 : wr.cell? ⟨w1.heap.size, k, none⟩ = some (.int .i64 (less (p.getD k 0) ((p.drop (k + 1)).take m) : Int)) := by
            rw [HR.out.cell (by omega)]
            unfold cellK
            rw [if_neg (by omega), if_pos rfl]
          have g4 : wr.frozen? ⟨w1.heap.size, k, none⟩ = false := HR.out.frozen k
          have hle : less (p.getD k 0) ((p.drop (k + 1)).take m) ≤ n := by
            have := less_le (p.getD k 0) ((p.drop (k + 1)).take m)
            have h2 := List.length_take_le m (p.drop (k + 1))
            omega
          have HYES := hid (fun h => cellK_yes (p := p) (k := k) (m := m) (by rw [HL.out]; omega) h)
          have HNO := hid (cellK_no (p := p) (k := k) (m := m) (by rw [HL.out]; omega))
          rw [HX.out] at HYES HNO g3 hle
          clear hcell2 hy
          generalize p.getD (k + 1 + m) 0 = y at g2 HYES HNO
          generalize less x ((p.drop (k + 1)).take m) = L at g3 hle HYES
          by_cases hyx : y < x
          · have HW := hid (HR.out.set k (.int .i64 ((L : Int) + 1)))
            go_wp2
            go_roundg (n - (k + 1) - (m + 1))
            case measure => omega
            case rel => exact ⟨m + 1, by omega, by omega, by go_num, HW.out.congr (fun j _ => HYES.out hyx j), HB.out.setCell (Nat.le_refl _) _⟩
          · go_wp2
            go_roundg (n - (k + 1) - (m + 1))
            case measure => omega
            case rel => exact ⟨m + 1, by omega, by omega, by go_num, HR.out.congr (fun j _ => HNO.out hyx j), HB.out⟩
        · have hme : m = n - (k + 1) := by omega
          have HE := hid (cellK_end (p := p) (k := k) (m := m) (by rw [HL.out]; omega) (by rw [HL.out]; omega))
          have HM := hid hme
          clear hme
          go_wp2
          go_roundg (n - (k + 1))
          case measure => omega
          case rel => exact ⟨k + 1, by omega, by omega, by go_num, HR.out.congr (fun j _ => HE.out j), HB.out⟩
    · have hkn : k = n := by omega
      subst hkn
      go_wp2
      go_ret2
      refine ⟨_, rfl, own_of_rowIs HR.out (by rw [length_codeL, HL.out]) (fun j hj => ?_) HB1.out.size (by unfold maxLen; omega), HB1.out.trans (HB.out.mono HB1.out.size)⟩
      unfold cellK
      rw [if_pos hj]
theorem code_ok (A : Option Addr) (n c : Nat) (p : List Int) (w : World) (hA : Ints w A n p) (hp : permErr p = 0) (hc : n ≤ c) :
    Calls Tryd.prog 12 #[.slice A n c] w (RetInts w (codeL p) 0) := by
  refine (code_own A n c p w hA hp hc).mono ?_
  rintro e w' ⟨v, rfl, ho, hbel⟩
  obtain ⟨A', c', rfl, hI, hc⟩ := ho.ints
  exact ⟨_, _, _, rfl, hbel, hI, hc⟩

/-! ### Of -/

set_option maxHeartbeats 800000 in
theorem of_ok (A : Option Addr) (n c : Nat) (p : List Int) (w : World) (hA : Ints w A n p) (hp : permErr p = 0) (hc : n ≤ c) :
    Calls Tryd.prog 29 #[.slice A n c] w (RetOrder w ((rk p : Nat) : Int) 0) := by
  have hn10 : n ≤ 10 := by rw [← hA.len]; exact (permErr_ok.1 hp).1
  have HL := hid hA.len
  go_enter Tryd.func29, Tryd.ntmps29
  go_wp2_with fail
  refine (code_ok A n c p _ hA hp hc).mono ?_
  rintro e w1 ⟨A1, n1, c1, rfl, hb1, hI, _⟩
  have hn1 : n = n1 := by rw [← hI.len, length_codeL, HL.out]
  subst hn1
  have HB1 := hid hb1
  have HI := hid hI
  have HD := hid (isDig_codeL p)
  have HV : Hid (val (codeL p) = rk p) := val_codeL p
  have HF : Hid (rk p < fact n) := by have := rk_lt p; rw [HL.out] at this; exact this
  have HCL : Hid ((codeL p).length = n) := by rw [length_codeL]; exact HL.out
  clear hb1 hI hA
  generalize codeL p = d at HI HD HV HCL
  go_wp2_with fail
  go_loopg [6, 19] n (fun g u s wr => ∃ k : Nat, k ≤ n ∧ n - k ≤ g ∧ s = .int .i64 k ∧ u = .int .i64 ((part d k : Nat) : Int) ∧ w1 = wr)
  case atStart => exact ⟨0, Nat.zero_le _, by omega, rfl, rfl, rfl⟩
  case round =>
    obtain ⟨k, hk, hg, rfl, rfl, rfl⟩ := hrel
    by_cases hlt : k < n
    · obtain ⟨b, o, rfl, hb, hcell⟩ := HI.out.row (by omega)
      have g1 := hcell k hlt
      have hd := HD.out.getD k (by rw [HCL.out]; exact hlt)
      have h1 := part_le d (k := k + 1) (by rw [HCL.out]; omega)
      have h2 := fact_ten hn10
      have h3 := HF.out
      rw [HV.out] at h1
      simp only [part, HCL.out] at h1
      have HP : Hid (part d (k + 1) = part d k * (n - k) + (d.getD k 0).toNat) := by show part d k * (d.length - k) + _ = _; rw [HCL.out]
      clear hcell hb
      generalize d.getD k 0 = x at g1 hd h1 HP
      obtain ⟨y, rfl⟩ := Int.eq_ofNat_of_zero_le hd.1
      simp only [Int.toNat_natCast] at h1 HP
      generalize part d k = q at h1 HP ⊢
      have HQ : Hid ((q : Int) * ((n : Int) - (k : Int)) = ((q * (n - k) : Nat) : Int)) := by rw [Int.natCast_mul, Int.ofNat_sub (by omega)]; exact rfl
      have h5 : 0 ≤ (q : Int) * ((n : Int) - (k : Int)) := by rw [HQ.out]; omega
      have h6 : (q : Int) * ((n : Int) - (k : Int)) + y ≤ 3628800 := by rw [HQ.out]; omega
      clear hd h1 h2 h3
      go_wp2
      go_roundg (n - (k + 1))
      case measure => omega
      case rel => exact ⟨k + 1, by omega, by omega, by go_num, by rw [HP.out, HQ.out]; rfl, rfl⟩
    · have hkn : k = n := by omega
      subst hkn
      have HE : Hid (part d k = rk p) := by rw [← HV.out, ← part_end d, HCL.out]; exact rfl
      rw [HE.out]
      go_wp2
      go_ret2
      exact ⟨rfl, HB1.out⟩

end Go.Proofs.YtmdpfadfimodjaaDoor

/-
  package rank: digits, decode, At; slices.Delete of one number.
-/
namespace Go.Proofs.YtmdpfadfimodjaaDoor
open Go.RowKit

/-! ### digits -/

/-- The cells when j digits are laid, from the end on. -/
def cellD (n k j i : Nat) : Value := .int .i64 (if n - j ≤ i then (digL n k).getD i 0 else 0)
theorem cellD_step {n k j m : Nat} (hm : m + j + 1 = n) (x : Int) (hx : x = ((k / fact j % (j + 1) : Nat) : Int)) (i : Nat) (_hi : i < n) :
    (if i = m then Value.int .i64 x else cellD n k j i) = cellD n k (j + 1) i := by
  unfold cellD
  by_cases e : i = m
  · subst e
    rw [if_pos rfl, if_pos (by omega), getD_digL n k i (by omega), hx, show n - 1 - i = j by omega, show n - i = j + 1 by omega]
  · rw [if_neg e]
    by_cases h : n - j ≤ i
    · rw [if_pos h, if_pos (by omega)]
    · rw [if_neg h, if_neg (by omega)]

set_option maxHeartbeats 800000 in
theorem digits_any (n k : Nat) (w : World) (hn : n ≤ 10) (hk : k ≤ 1000000000) :
    Calls Tryd.prog 52 #[.int .i64 (n : Int), .int .i64 (k : Int)] w fun e w' => e = .returned (.slice (some ⟨w.heap.size, 0, none⟩) n n) ∧ Ints w' (some ⟨w.heap.size, 0, none⟩) n (digL n k) ∧ Below w.heap.size w w' := by
  have hmk := fun W => run_make_row' (P := Tryd.prog) 22 3 (.int .i64 0) 8 Tryd.underlying22 infoInt rfl .i64 .i64 n (by omega) (by omega) W
  go_enter Tryd.func52, Tryd.ntmps52
  go_wp2_with fail
  go_loopg [1, 6] n (fun g u s wr => ∃ j : Nat, j ≤ n ∧ n - j ≤ g ∧ u = .int .i64 ((k / fact j : Nat) : Int) ∧ s = .int .i64 ((n : Int) - 1 - j) ∧ wr.rowIs w.heap.size 3 n (cellD n k j) ∧ Below w.heap.size w wr)
  case atStart => exact ⟨0, Nat.zero_le _, by omega, by simp [fact], by go_num, (World.rowIs_made w _ n _).congr (fun i hi => by unfold cellD; rw [if_neg (by omega)]), (Below.refl _ _).alloc (Nat.le_refl _) _⟩
  case round =>
    obtain ⟨j, hj, hg, rfl, rfl, hrow, hbel⟩ := hrel
    have HR := hid hrow
    have HB := hid hbel
    clear hrow hbel hmk
    by_cases hlt : j < n
    · obtain ⟨m, hm⟩ : ∃ m, m + j + 1 = n := ⟨n - 1 - j, by omega⟩
      have hi : (n : Int) - 1 - j = m := by omega
      have HI := hid hi
      have HM := hid hm
      have hmn : m < n := by omega
      have hq : k / fact j ≤ k := Nat.div_le_self _ _
      have f1 : wr.frozen? ⟨w.heap.size, m, none⟩ = false := HR.out.frozen m
      have g1 := HR.out.cell (i := m) (by omega)
      have HC : Hid (∀ x : Int, x = ((k / fact j % (j + 1) : Nat) : Int) → (wr.setCell ⟨w.heap.size, m, none⟩ (.int .i64 x)).rowIs w.heap.size 3 n (cellD n k (j + 1))) :=
        fun x hx => (HR.out.set m (.int .i64 x)).congr (cellD_step hm x hx)
      have HF := hid (fact_step k j)
      rw [HI.out]
      clear hi hm
      generalize cellD n k j m = v1 at g1
      generalize k / fact j = q at hq HC HF ⊢
      have HN : Hid ((n : Int) - (m : Int) = ((j + 1 : Nat) : Int)) := by have := HM.out; show (n : Int) - m = _; omega
      have e1 : (q : Int) % ((n : Int) - (m : Int)) = ((q % (j + 1) : Nat) : Int) := by rw [HN.out]; exact (Int.natCast_emod q (j + 1)).symm
      have e2 : (q : Int) / ((n : Int) - (m : Int)) = ((q / (j + 1) : Nat) : Int) := by rw [HN.out]; exact (Int.natCast_ediv q (j + 1)).symm
      have E1 := hid e1
      have E2 := hid e2
      clear e1 e2
      go_wp2
      have hm := HM.out
      go_roundg (n - (j + 1))
      case measure => omega
      case rel => exact ⟨j + 1, by omega, by omega, by have := Nat.div_le_self k (fact (j + 1)); rw [E2.out, HF.out]; generalize k / fact (j + 1) = z at *; rw [IntWalk.wrap64_in _ (by omega)], by go_num, HC.out _ E1.out, HB.out.setCell (Nat.le_refl _) _⟩
    · have hjn : j = n := by omega
      subst hjn
      have hneg : ¬ (0 : Int) ≤ (j : Int) - 1 - j := by omega
      go_wp2
      go_ret
      exact ⟨rfl, ints_of_row HR.out (length_digL j k) (fun i _ => by unfold cellD; rw [if_pos (by omega)]), HB.out⟩

/-! ### Delete -/

theorem drop_app_one {a b : List Int} {k : Nat} (h : a.length = k) : (a ++ b).drop (k + [(0 : Int)].length) = b.drop 1 := by
  subst h
  simp

set_option maxRecDepth 100000 in
set_option maxHeartbeats 1600000 in
/-- 'slices.Delete(s, i, i+1)' in a block that is known whole. -/
theorem delete_one (g m cap i : Nat) (L : Int) (xs : List Int) (w : World) (h : Arr w g xs) (hcap : xs.length = cap) (hm : m ≤ cap) (hi : i < m) (_hc2 : cap ≤ 1000000) (hL : L = (i : Int) + 1) :
    Calls Tryd.prog 59 #[.slice (some ⟨g, 0, none⟩) m cap, .int .i64 (i : Int), .int .i64 L] w fun e w' =>
      e = .returned (.slice (some ⟨g, 0, none⟩) (m - 1) cap) ∧ Arr w' g (xs.take i ++ (xs.take m).drop (i + 1) ++ 0 :: xs.drop m) ∧ w.grownBy w' (some g) := by
  subst hL
  obtain ⟨i0, hi0, hz0, hz1, hz2⟩ := info_parts infoInt
  obtain ⟨news, hnews⟩ : ∃ news, news = ((xs.take m).drop (i + 1)).map (Value.int .i64) := ⟨_, rfl⟩
  have hlen : news.length = m - (i + 1) := by rw [hnews]; simp; omega
  have HX := hid hcap
  obtain ⟨A, hA, hsrc⟩ : ∃ A : Addr, subA (some ⟨g, 0, none⟩) cap (i + 1) = some A ∧ Hid (∀ t u, news[t]? = some u → w.drew.cell? (A.add t) = some u) := by
    by_cases hc : cap = i + 1
    · refine ⟨⟨g, 0, none⟩, by unfold subA; rw [if_pos hc], fun t u hu => ?_⟩
      have h0 : news.length = 0 := by rw [hlen]; omega
      rw [List.length_eq_zero_iff.1 h0] at hu
      simp at hu
    · refine ⟨⟨g, i + 1, none⟩, by unfold subA; rw [if_neg hc]; simp [Addr.add], fun t u hu => ?_⟩
      have ht : t < m - (i + 1) := by
        have := (List.getElem?_eq_some_iff.1 hu).1
        rwa [hlen] at this
      rw [Addr.add_lit]
      have hcell := h.cell (j := i + 1 + t) (by omega)
      show w.cell? _ = _
      rw [hcell, ← hu, hnews, List.getElem?_map, List.getElem?_drop, List.getElem?_take, if_pos (by omega), List.getElem?_eq_getElem (by omega), List.getD_eq_getElem?_getD, List.getElem?_eq_getElem (by omega)]
      rfl
  have hsl := fun W => run_from (some ⟨g, 0, none⟩) m cap (i + 1) ((i : Int) + 1) (by omega) (by omega) W
  simp only [hA] at hsl
  have s1 : Hid (news.length = (m - (i + 1)) * 1) := by rw [Nat.mul_one]; exact hlen
  have s2 : Hid (∀ u ∈ news, u.oneCell' = true) := by
    intro u hu
    rw [hnews] at hu
    obtain ⟨x, _, rfl⟩ := List.mem_map.1 hu
    rfl
  have s3 : Hid (∀ t, t < news.length → (w.drew.cell? ⟨g, 0 + i * 1 + t, none⟩).isSome = true ∧ w.drew.frozen? ⟨g, 0 + i * 1 + t, none⟩ = false) := by
    intro t ht
    rw [hlen] at ht
    refine ⟨?_, h.frozen _⟩
    show (w.cell? _).isSome = true
    rw [h.cell (by omega)]
    rfl
  obtain ⟨W1, hW1⟩ : ∃ W1, W1 = w.drew.setCells g (0 + i * 1) news := ⟨_, rfl⟩
  have hnl : ((xs.take m).drop (i + 1)).length = m - (i + 1) := by simp; omega
  have a1 : Arr W1 g (xs.take i ++ (xs.take m).drop (i + 1) ++ xs.drop (i + (m - (i + 1)))) := by
    have := h.drew.setCells (o := i) (ys := (xs.take m).drop (i + 1)) (by rw [hnl]; omega)
    rw [hnl] at this
    rw [hW1, hnews, show 0 + i * 1 = i by omega]
    exact this
  have o1 : w.grownBy W1 (some g) := by rw [hW1]; exact one_sets (one_drew (one_refl w _))
  have A1 := hid a1
  have O1 := hid o1
  have hyl : (xs.take i ++ (xs.take m).drop (i + 1) ++ xs.drop (i + (m - (i + 1)))).length = cap := by
    simp only [List.length_append, hnl, List.length_take, List.length_drop]; omega
  have HYL := hid hyl
  have hcl : ∀ ty, (Builtin.clear_ #[22] ty #[.slice (some ⟨g, i + (m - (i + 1)), none⟩) (m - (i + (m - (i + 1)))) (cap - (i + (m - (i + 1))))]).run Tryd.prog W1 = .ok (.tuple #[]) (W1.setCells g (i + (m - (i + 1))) (List.replicate (m - (i + (m - (i + 1)))) (.int .i64 0))) :=
    fun ty => Lib.run_clear_slice W1 22 3 ty (.int .i64 0) Tryd.underlying22 (fun _ => by kernel_rfl) rfl rfl g (i + (m - (i + 1))) _ _ (by omega) (fun t ht => by rw [a1.cell (by rw [hyl]; omega)]; rfl) (fun t ht => a1.frozen _)
  have hW := hid hW1
  have HN := hid hnews
  clear hW1 a1 o1 hyl hnews hnl hlen hcap h hA
  have hic : i ≤ cap := by omega
  go_enter Tryd.func59, Tryd.ntmps59
  go_wp2_with fail
  go_region_law (refine step_append_room rfl (.tmp 22) (.tmp 25) 22 rfl 3 i0 1 Tryd.underlying22 hi0 hz1 g 0 i cap (by simp [Act.eval, Act.put]) A (m - (i + 1)) (cap - (i + 1)) news (by simp [Act.eval, Act.put]) s1.out hsrc.out s2.out (by omega) s3.out ?_; rw [← hW.out])
  go_wp2
  go_ret
  have hl2 : (xs.take i ++ (xs.take m).drop (i + 1)).length = i + (m - (i + 1)) := by
    have := HX.out
    simp only [List.length_append, List.length_take, List.length_drop]; omega
  refine ⟨by rw [show m - 1 = i + (m - (i + 1)) by omega]; rfl, ?_, one_sets O1.out⟩
  have a2 := A1.out.setCells (o := i + (m - (i + 1))) (ys := [0]) (by rw [HYL.out]; simp; omega)
  rw [show m - (i + (m - (i + 1))) = 1 by omega]
  rw [List.take_left' hl2, drop_app_one hl2, List.drop_drop, show i + (m - (i + 1)) + 1 = m by omega, List.append_assoc] at a2
  exact a2

/-! ### decode -/

/-- The first k cells hold their own number. -/
def ownUpto (n k : Nat) : List Int := iota k ++ List.replicate (n - k) 0
theorem length_ownUpto {n k : Nat} (h : k ≤ n) : (ownUpto n k).length = n := by simp [ownUpto, length_iota]; omega
theorem iota_succ (k : Nat) : iota (k + 1) = iota k ++ [(k : Int)] := by simp [iota, List.range_succ]
theorem ownUpto_step {n k : Nat} (h : k < n) : (ownUpto n k).set k (k : Int) = ownUpto n (k + 1) := by
  unfold ownUpto
  obtain ⟨m, rfl⟩ : ∃ m, n = k + 1 + m := ⟨n - (k + 1), by omega⟩
  rw [show k + 1 + m - k = m + 1 by omega, show k + 1 + m - (k + 1) = m by omega, List.replicate_succ, List.set_append_right _ _ (by rw [length_iota]; exact Nat.le_refl _), length_iota, Nat.sub_self, List.set_cons_zero, iota_succ, List.append_assoc]
  rfl
theorem ownUpto_end (n : Nat) : ownUpto n n = iota n := by simp [ownUpto]

theorem pick_step {left ds : List Int} {k : Nat} (hk : k < ds.length) : pick left (ds.drop k) = left.getD (ds.getD k 0).toNat 0 :: pick (left.eraseIdx (ds.getD k 0).toNat) (ds.drop (k + 1)) := by
  have e : ds.getD k 0 = ds[k] := by rw [List.getD_eq_getElem?_getD, List.getElem?_eq_getElem hk]; rfl
  rw [List.drop_eq_getElem_cons hk, e]
  rfl
theorem erase_take (xs : List Int) {m i : Nat} (hi : i < m) (hm : m ≤ xs.length) : (xs.take i ++ (xs.take m).drop (i + 1) ++ 0 :: xs.drop m).take (m - 1) = (xs.take m).eraseIdx i := by
  rw [List.take_left' (by simp only [List.length_append, List.length_take, List.length_drop]; omega), List.eraseIdx_eq_take_drop_succ, List.take_take, Nat.min_eq_left (by omega)]

theorem dec_step {L P ds Z : List Int} {k t y : Nat} (hL : L.length = k) (hP : P.length = k) (hds : ds.length = k) (hZ : Z.length = k) (ht : t < k) (hy : ds.getD t 0 = (y : Int)) (hyl : y < k - t)
    (h1 : P.take t = Z.take t) (h2 : pick (L.take (k - t)) (ds.drop t) = Z.drop t) :
    (P.set t (L.getD y 0)).take (t + 1) = Z.take (t + 1) ∧ pick ((L.take y ++ (L.take (k - t)).drop (y + 1) ++ 0 :: L.drop (k - t)).take (k - (t + 1))) (ds.drop (t + 1)) = Z.drop (t + 1) := by
  have hzd : Z.drop t = Z[t]'(by omega) :: Z.drop (t + 1) := List.drop_eq_getElem_cons (by omega)
  rw [pick_step (by omega), hy, Int.toNat_natCast, hzd] at h2
  injection h2 with h3 h4
  have e1 : (L.take (k - t)).getD y 0 = L.getD y 0 := by simp [List.getD_eq_getElem?_getD, hyl]
  have e2 : Z.getD t 0 = Z[t] := by rw [List.getD_eq_getElem?_getD, List.getElem?_eq_getElem (by omega)]; rfl
  constructor
  · rw [take_snoc (by rw [List.length_set]; omega), getD_set, if_pos ⟨rfl, by omega⟩, List.take_set_of_le (by omega), h1, take_snoc (by omega), e2, ← h3, e1]
  · rw [show k - (t + 1) = k - t - 1 by omega, erase_take L hyl (by omega), h4]

/-- What holds of the two blocks when t numbers are laid. -/
def DecInv (w : World) (g2 : Nat) (k t : Nat) (ds : List Int) (wq : World) : Prop :=
  Below w.heap.size w wq ∧ ∃ L P : List Int, Arr wq w.heap.size L ∧ L.length = k ∧ Arr wq g2 P ∧ P.length = k ∧ P.take t = (pick (iota k) ds).take t ∧ pick (L.take (k - t)) (ds.drop t) = (pick (iota k) ds).drop t

def RetAt (w : World) (n : Nat) (ys : List Int) (e : Ending) (w' : World) : Prop := ∃ g, e = .returned (.slice (some ⟨g, 0, none⟩) n n) ∧ Ints w' (some ⟨g, 0, none⟩) n ys ∧ Below w.heap.size w w'

def RetAtO (w : World) (n : Nat) (ys : List Int) (e : Ending) (w' : World) : Prop := ∃ g, e = .returned (.slice (some ⟨g, 0, none⟩) n n) ∧ w.heap.size ≤ g ∧ Arr w' g ys ∧ ys.length = n ∧ Below w.heap.size w w'

set_option maxHeartbeats 1600000 in
theorem decode_own (A : Option Addr) (n c : Nat) (ds : List Int) (w : World) (hA : Ints w A n ds) (hd : IsDig ds) (hn : n ≤ 10) :
    Calls Tryd.prog 51 #[.slice A n c] w (RetAtO w n (pick (iota n) ds)) := by
  have hmk := fun W => run_make_row' (P := Tryd.prog) 22 3 (.int .i64 0) 8 Tryd.underlying22 infoInt rfl .i64 .i64 n (by omega) (by omega) W
  have HL := hid hA.len
  go_enter Tryd.func51, Tryd.ntmps51
  go_wp2_with fail
  go_loopg [13] n (fun g s wr => ∃ k : Nat, k ≤ n ∧ n - k ≤ g ∧ s = .int .i64 k ∧ Arr wr w.heap.size (ownUpto n k) ∧ Below w.heap.size w wr)
  case atStart => exact ⟨0, Nat.zero_le _, by omega, rfl, by simpa [ownUpto, iota] using Arr.made w n, below_alloc _ _⟩
  case round =>
    obtain ⟨k, hk, hg, rfl, harr, hbel⟩ := hrel
    have HR := hid harr
    have HB := hid hbel
    clear harr hbel
    by_cases hlt : k < n
    · have f1 : wr.frozen? ⟨w.heap.size, k, none⟩ = false := HR.out.frozen k
      have g1 := HR.out.cell (j := k) (by rw [length_ownUpto hk]; exact hlt)
      have HS := hid (ownUpto_step hlt)
      have HW := hid (HR.out.set k (k : Int))
      generalize (ownUpto n k).getD k 0 = v1 at g1
      go_wp2
      go_roundg (n - (k + 1))
      case measure => omega
      case rel => exact ⟨k + 1, by omega, by omega, by go_num, by rw [← HS.out]; exact HW.out, HB.out.setCell (Nat.le_refl _) _⟩
    · have hkn : k = n := by omega
      subst hkn
      obtain ⟨w1, rfl⟩ : ∃ w1, w1 = wr := ⟨wr, rfl⟩
      have HI : Hid (Arr w1 w.heap.size (iota k)) := by have := HR.out; rw [ownUpto_end] at this; exact this
      have HZ := hid HB.out.size
      have hz : w.heap.size < w1.heap.size := HR.out.lt
      clear HR
      go_wp2_with fail
      go_loopg [3, 26] k (fun g v s wq => ∃ t : Nat, t ≤ k ∧ k - t ≤ g ∧ s = .int .i64 t ∧ v = .slice (some ⟨w.heap.size, 0, none⟩) (k - t) k ∧ DecInv w w1.heap.size k t ds wq)
      case atStart => exact ⟨0, Nat.zero_le _, by omega, rfl, rfl, HB.out.alloc HZ.out _, iota k, _, HI.out.alloc _, length_iota k, Arr.made w1 k, List.length_replicate, rfl, by rw [Nat.sub_zero, List.take_of_length_le (by rw [length_iota]; exact Nat.le_refl _)]; rfl⟩
      case round =>
        clear HB
        obtain ⟨t, ht, hgt, rfl, rfl, hinv⟩ := hrel
        obtain ⟨hbel, L, P, aL, hL, aP, hP, e1, e2⟩ := hinv
        have HB := hid hbel
        have AL := hid aL
        have AP := hid aP
        have HLL := hid hL
        have HPL := hid hP
        have E1 := hid e1
        have E2 := hid e2
        clear hbel aL aP hL hP e1 e2 hmk HI
        by_cases htk : t < k
        · obtain ⟨b, o, rfl, hb, hcell⟩ := (hA.keep HB.out).row (by omega)
          have g1 := hcell t htk
          have hdt := hd.getD t (by rw [HL.out]; exact htk)
          obtain ⟨y, hy⟩ := Int.eq_ofNat_of_zero_le hdt.1
          have hyl : y < k - t := by rw [hy, HL.out] at hdt; omega
          have HS := hid (dec_step (Z := pick (iota k) ds) HLL.out HPL.out HL.out (by rw [length_pick, HL.out]) htk hy hyl E1.out E2.out)
          rw [hy] at g1
          have g2 := AL.out.cell (j := y) (by rw [HLL.out]; omega)
          have g3 := AP.out.cell (j := t) (by rw [HPL.out]; exact htk)
          have f3 := AP.out.frozen t
          have HP2 := hid (AP.out.set t (L.getD y 0))
          have HL2 := hid (AL.out.setOther (a := ⟨w1.heap.size, t, none⟩) (by show _ ≠ w1.heap.size; omega) (.int .i64 (L.getD y 0)))
          have HB2 := hid (HB.out.setCell (p := ⟨w1.heap.size, t, none⟩) (show w.heap.size ≤ w1.heap.size by omega) (.int .i64 (L.getD y 0)))
          clear hcell hdt hy hb E1 E2
          generalize L.getD y 0 = x at g2 HP2 HL2 HB2 HS
          generalize P.getD t 0 = z at g3
          go_wp2_with fail
          refine (delete_one w.heap.size (k - t) k y _ L _ HL2.out HLL.out (by omega) hyl (by omega) rfl).mono ?_
          rintro e w3 ⟨rfl, aL3, hone⟩
          have HL3 := hid aL3
          have HP3 := hid (HP2.out.kept hone (show w1.heap.size ≠ w.heap.size by omega))
          have HB3 := hid (below_one HB2.out (Nat.le_refl _) HB2.out.size hone)
          clear aL3 hone HB2 HP2 HL2
          go_wp2
          go_roundg (k - (t + 1))
          case measure => omega
          case rel =>
            refine ⟨t + 1, by omega, by omega, by go_num, by rw [show k - t - 1 = k - (t + 1) by omega], HB3.out, _, _, HL3.out, ?_, HP3.out, ?_, HS.out.1, HS.out.2⟩
            · have := HLL.out
              simp only [List.length_append, List.length_take, List.length_drop, List.length_cons]; omega
            · rw [List.length_set]; exact HPL.out
        · have htn : t = k := by omega
          subst htn
          have HE : Hid (P = pick (iota t) ds) := by
            have := E1.out
            rw [List.take_of_length_le (by rw [HPL.out]; exact Nat.le_refl _), List.take_of_length_le (by rw [length_pick, HL.out]; exact Nat.le_refl _)] at this
            exact this
          go_wp2
          go_ret
          refine ⟨_, rfl, HZ.out, ?_, by rw [← HE.out]; exact HPL.out, HB.out⟩
          rw [← HE.out]
          exact AP.out

theorem decode_any (A : Option Addr) (n c : Nat) (ds : List Int) (w : World) (hA : Ints w A n ds) (hd : IsDig ds) (hn : n ≤ 10) :
    Calls Tryd.prog 51 #[.slice A n c] w (RetAt w n (pick (iota n) ds)) := by
  refine (decode_own A n c ds w hA hd hn).mono ?_
  rintro e w' ⟨g, rfl, _, ha, hl, hb⟩
  have := ha.ints0 n (by omega)
  rw [List.take_of_length_le (by omega)] at this
  exact ⟨g, rfl, this, hb⟩

/-! ### At -/

def RetAt2 (w : World) (n : Nat) (ys : List Int) (e : Ending) (w' : World) : Prop := ∃ g, e = .returned (.tuple #[.slice (some ⟨g, 0, none⟩) n n, .int .i64 0]) ∧ Ints w' (some ⟨g, 0, none⟩) n ys ∧ Below w.heap.size w w'

def RetAt3 (w : World) (n : Nat) (ys : List Int) (e : Ending) (w' : World) : Prop := ∃ g, e = .returned (.tuple #[.slice (some ⟨g, 0, none⟩) n n, .int .i64 0]) ∧ w.heap.size ≤ g ∧ Arr w' g ys ∧ ys.length = n ∧ Below w.heap.size w w'

set_option maxHeartbeats 800000 in
theorem at_own (n k : Nat) (w : World) (hn : n ≤ 10) (hk : k < fact n) :
    Calls Tryd.prog 28 #[.int .i64 (n : Int), .int .i64 (k : Int)] w (RetAt3 w n (atL n k)) := by
  have hf := fact_ten hn
  have hk2 : (k : Int) < (fact n : Nat) := by omega
  go_enter Tryd.func28, Tryd.ntmps28
  go_wp2_with fail
  refine (count_ok n _ hn).mono ?_
  rintro e w' ⟨rfl, rfl⟩
  generalize fact n = F at hk hf hk2
  go_wp2_with fail
  refine (digits_any n k _ hn (by omega)).mono ?_
  rintro e w1 ⟨rfl, hI, hb1⟩
  have HB1 := hid hb1
  have HI := hid hI
  clear hb1 hI
  go_wp2_with fail
  refine (decode_own _ n n _ _ HI.out (isDig_digL n k) hn).mono ?_
  rintro e w2 ⟨g, rfl, hg2, hI2, hl2, hb2⟩
  have HG2 := hid (Nat.le_trans HB1.out.size hg2)
  have HB2 := hid (below_step HB1.out (Nat.le_refl _) hb2)
  have HI2 := hid hI2
  have HL2 := hid hl2
  clear hb2 hI2 HB1 HI hg2 hl2
  go_wp2
  go_ret2
  exact ⟨g, rfl, HG2.out, HI2.out, HL2.out, HB2.out⟩

theorem at_ok (n k : Nat) (w : World) (hn : n ≤ 10) (hk : k < fact n) :
    Calls Tryd.prog 28 #[.int .i64 (n : Int), .int .i64 (k : Int)] w (RetAt2 w n (atL n k)) := by
  refine (at_own n k w hn hk).mono ?_
  rintro e w' ⟨g, rfl, _, ha, hl, hb⟩
  have := ha.ints0 n (by omega)
  rw [List.take_of_length_le (by omega)] at this
  exact ⟨g, rfl, this, hb⟩

/-- The first order, in memory of the call's own. -/
theorem at_first (n : Nat) (w : World) (hn : n ≤ 10) :
    Calls Tryd.prog 28 #[.int .i64 (n : Int), .int .i64 0] w (RetOwnE w (iota n) 0) := by
  refine (at_own n 0 w hn (fact_pos n)).mono ?_
  rintro e w' ⟨g, rfl, hg, ha, hl, hb⟩
  have e0 : atL n 0 = iota n := by
    have h1 := atL_rk (p := iota n) (by unfold IsPerm; rw [length_iota])
    rwa [length_iota, rk_rises (sorted_iotaP n)] at h1
  have := own_of_rowIs (base := w.heap.size) ha rfl (fun _ _ => rfl) hg (by rw [hl]; unfold maxLen; omega)
  rw [hl, e0] at this
  exact ⟨_, rfl, this, hb⟩

set_option maxHeartbeats 800000 in
theorem at_bad1 (n k : Int) (w : World) (hn : n < 0 ∨ 10 < n) :
    Calls Tryd.prog 28 #[.int .i64 n, .int .i64 k] w fun e w' => e = .returned (.tuple #[.slice none 0 0, .int .i64 1]) ∧ w = w' := by
  go_enter Tryd.func28, Tryd.ntmps28
  go_wp2_with fail
  refine (count_bad n _ hn).mono ?_
  rintro e w' ⟨rfl, rfl⟩
  go_wp2
  go_ret2
  exact ⟨rfl, rfl⟩

set_option maxHeartbeats 800000 in
theorem at_bad2 (n : Nat) (k : Int) (w : World) (hn : n ≤ 10) (hk : k < 0 ∨ ((fact n : Nat) : Int) ≤ k) :
    Calls Tryd.prog 28 #[.int .i64 (n : Int), .int .i64 k] w fun e w' => e = .returned (.tuple #[.slice none 0 0, .int .i64 1]) ∧ w = w' := by
  go_enter Tryd.func28, Tryd.ntmps28
  go_wp2_with fail
  refine (count_ok n _ hn).mono ?_
  rintro e w' ⟨rfl, rfl⟩
  generalize fact n = F at hk
  rcases hk with h | h
  all_goals
    go_wp2
    go_ret2
    exact ⟨rfl, rfl⟩

end Go.Proofs.YtmdpfadfimodjaaDoor

/-
  package rank: fallingTail, Next; slices.Reverse of the end of a block; slices.Compare.
-/
namespace Go.Proofs.YtmdpfadfimodjaaDoor
open Go.RowKit

/-! ### fallingTail -/

theorem run_max2 {P : Program} (x : Int) (m : Nat) (hm : (m : Int) = if 0 > x then 0 else x) (ts : Array TypeId) (t : TypeId) (W : World) :
    (Builtin.max_ ts t #[.int .i64 x, .int .i64 0]).run P W = .ok (.int .i64 (m : Int)) W := by
  simp only [Builtin.max_, Builtin.max2, List.foldlM_cons, List.foldlM_nil, pure_bind]
  simp only [hm]
  rfl

/-- From t on p falls, and it did not where it could have gone on. -/
def IsTail (p : List Int) (t : Nat) : Prop := t ≤ p.length - 1 ∧ (∀ j, t < j → j < p.length → p.getD j 0 < p.getD (j - 1) 0) ∧ (0 < t → p.getD (t - 1) 0 ≤ p.getD t 0)

def RetTail (w : World) (p : List Int) (e : Ending) (w' : World) : Prop := ∃ t q : Nat, e = .returned (.int .i64 (t : Int)) ∧ IsTail p t ∧ w' = w.drewN q

set_option maxHeartbeats 800000 in
theorem fallingTail_any (A : Option Addr) (n c : Nat) (p : List Int) (w : World) (hA : Ints w A n p) (hn : n ≤ 1000000) :
    Calls Tryd.prog 35 #[.slice A n c] w (RetTail w p) := by
  have HL := hid hA.len
  have hmax := run_max2 (P := Tryd.prog) ((n : Int) - 1) (n - 1) (by split <;> omega)
  go_enter Tryd.func35, Tryd.ntmps35
  go_wp2_with fail
  go_loopg [3] n (fun g s wr => ∃ t q : Nat, t ≤ n - 1 ∧ t ≤ g ∧ s = .int .i64 t ∧ wr = w.drewN q ∧ ∀ j, t < j → j < n → p.getD j 0 < p.getD (j - 1) 0)
  case atStart => exact ⟨n - 1, 0, Nat.le_refl _, by omega, rfl, rfl, fun j h1 h2 => by omega⟩
  case round =>
    obtain ⟨t, q, ht, hg, rfl, rfl, hall⟩ := hrel
    have HA := hid hall
    clear hall hmax
    rcases Nat.eq_zero_or_pos t with h0 | h0
    · subst h0
      go_wp2_with fail
      go_region
      go_wp2
      go_ret
      exact ⟨0, q + 1, rfl, ⟨Nat.zero_le _, fun j h1 h2 => HA.out j h1 (by rw [← HL.out]; exact h2), fun h => absurd h (by omega)⟩, rfl⟩
    · obtain ⟨s, rfl⟩ : ∃ s, t = s + 1 := ⟨t - 1, by omega⟩
      obtain ⟨b, o, rfl, hb, hcell⟩ := hA.row (by omega)
      have g1 := hcell s (by omega)
      have g2 := hcell (s + 1) (by omega)
      clear hcell hb
      generalize hx : p.getD s 0 = x at g1
      generalize hy : p.getD (s + 1) 0 = y at g2
      have HX := hid hx
      have HY := hid hy
      clear hx hy
      have hd : decide (0 < ((s + 1 : Nat) : Int)) = true := by simp
      have hd2 : decide (0 < s + 1) = true := by simp
      by_cases hxy : y < x
      · have hd3 : decide (y < x) = true := decide_eq_true hxy
        go_wp2_with fail
        go_region
        go_wp2
        go_roundg s
        case measure => omega
        case rel =>
          refine ⟨s, q + 1, by omega, by omega, by go_num, rfl, fun j h1 h2 => ?_⟩
          by_cases e : j = s + 1
          · subst e
            rw [HY.out, Nat.add_sub_cancel, HX.out]
            exact hxy
          · exact HA.out j (by omega) h2
      · have hd3 : decide (y < x) = false := decide_eq_false hxy
        go_wp2_with fail
        go_region
        go_wp2
        go_ret
        refine ⟨s + 1, q + 1, rfl, ⟨by rw [HL.out]; exact ht, fun j h1 h2 => HA.out j h1 (by rw [← HL.out]; exact h2), fun _ => ?_⟩, rfl⟩
        rw [HY.out, Nat.add_sub_cancel, HX.out]
        omega

/-! ### The next list -/

theorem IsTail.falls {p : List Int} {t : Nat} (h : IsTail p t) : (p.drop t).Pairwise (· > ·) := by
  refine pairwise_of_sortedTo (r := (· > ·)) ?_
  have key : ∀ d i, t + i + d + 1 < p.length → p.getD (t + i + d + 1) 0 < p.getD (t + i) 0 := by
    intro d
    induction d with
    | zero => intro i hi; have := h.2.1 (t + i + 1) (by omega) (by omega); rwa [Nat.add_sub_cancel] at this
    | succ d ih =>
      intro i hi
      have h1 := ih i (by omega)
      have h2 := h.2.1 (t + i + d + 1 + 1) (by omega) (by omega)
      rw [Nat.add_sub_cancel] at h2
      rw [show t + i + (d + 1) + 1 = t + i + d + 1 + 1 by omega]
      omega
  intro a b hab hb
  rw [List.length_drop] at hb
  have := key (b - a - 1) a (by omega)
  rw [show t + a + (b - a - 1) + 1 = t + b by omega] at this
  simpa [List.getD_eq_getElem?_getD] using this

theorem swapAt_mid (pre u v : List Int) (x y : Int) : swapAt (pre ++ x :: (u ++ y :: v)) pre.length (pre.length + 1 + u.length) = pre ++ y :: (u ++ x :: v) := by
  unfold swapAt
  have e1 : (pre ++ x :: (u ++ y :: v)).getD pre.length 0 = x := by simp [List.getD_eq_getElem?_getD]
  have e2 : (pre ++ x :: (u ++ y :: v)).getD (pre.length + 1 + u.length) 0 = y := by
    rw [List.getD_eq_getElem?_getD, List.getElem?_append_right (by omega), show pre.length + 1 + u.length - pre.length = u.length + 1 by omega, List.getElem?_cons_succ, List.getElem?_append_right (Nat.le_refl _)]
    simp
  rw [e1, e2, List.set_append_right _ _ (Nat.le_refl _), Nat.sub_self, List.set_cons_zero, List.set_append_right _ _ (by omega), show pre.length + 1 + u.length - pre.length = u.length + 1 by omega, List.set_cons_succ,
    List.set_append_right _ _ (Nat.le_refl _), Nat.sub_self, List.set_cons_zero]

/-- The end of a list, from t on, the other way round. -/
def revFrom (xs : List Int) (t : Nat) : List Int := xs.take t ++ (xs.drop t).reverse

theorem next_list {p : List Int} {t l : Nat} (h : IsTail p t) (ht : 0 < t) (hl : t ≤ l) (hln : l < p.length) (hx : p.getD (t - 1) 0 < p.getD l 0) (hv : ∀ j, l < j → j < p.length → p.getD j 0 < p.getD (t - 1) 0) :
    (revFrom (swapAt p (t - 1) l) t).Perm p ∧ rk (revFrom (swapAt p (t - 1) l) t) = rk p + 1 := by
  have e1 : p.drop (t - 1) = p.getD (t - 1) 0 :: p.drop t := by
    rw [List.drop_eq_getElem_cons (by omega), show t - 1 + 1 = t by omega, List.getD_eq_getElem?_getD, List.getElem?_eq_getElem (by omega)]; rfl
  have e2 : p.drop l = p.getD l 0 :: p.drop (l + 1) := by
    rw [List.drop_eq_getElem_cons hln, List.getD_eq_getElem?_getD, List.getElem?_eq_getElem hln]; rfl
  have e3 : p.drop t = (p.drop t).take (l - t) ++ p.getD l 0 :: p.drop (l + 1) := by
    rw [← e2]
    have := (List.take_append_drop (l - t) (p.drop t)).symm
    rwa [List.drop_drop, show t + (l - t) = l by omega] at this
  have hf := h.falls
  have hv2 : ∀ z, z ∈ p.drop (l + 1) → z < p.getD (t - 1) 0 := fun z hz => by
    obtain ⟨i, hi, rfl⟩ := mem_getD hz
    rw [List.length_drop] at hi
    have := hv (l + 1 + i) (by omega) (by omega)
    simpa [List.getD_eq_getElem?_getD] using this
  have hul : ((p.drop t).take (l - t)).length = l - t := by rw [List.length_take, List.length_drop]; omega
  have hpl : (p.take (t - 1)).length = t - 1 := by rw [List.length_take]; omega
  have e0 : p = p.take (t - 1) ++ p.getD (t - 1) 0 :: ((p.drop t).take (l - t) ++ p.getD l 0 :: p.drop (l + 1)) := by
    rw [← e3, ← e1, List.take_append_drop]
  rw [e3] at hf
  generalize p.getD (t - 1) 0 = x at *
  generalize p.getD l 0 = y at *
  generalize p.drop (l + 1) = v at *
  generalize (p.drop t).take (l - t) = u at *
  generalize p.take (t - 1) = pre at *
  clear e1 e2 e3 h hv
  have hs : swapAt p (t - 1) l = pre ++ y :: (u ++ x :: v) := by
    have := swapAt_mid pre u v x y
    rwa [hpl, hul, show t - 1 + 1 + (l - t) = l by omega, ← e0] at this
  have hr : revFrom (swapAt p (t - 1) l) t = pre ++ y :: (u ++ x :: v).reverse := by
    rw [hs]
    unfold revFrom
    have : pre ++ y :: (u ++ x :: v) = (pre ++ [y]) ++ (u ++ x :: v) := by simp
    rw [this, List.take_left' (by simp; omega), List.drop_left' (by simp; omega)]
    simp
  have hp : (y :: (u ++ x :: v).reverse).Perm (x :: (u ++ y :: v)) := by
    refine ((List.reverse_perm (u ++ x :: v)).cons y).trans ?_
    refine (List.perm_middle.cons y).trans ((List.Perm.swap _ _ _).trans ((List.perm_middle.symm).cons x))
  have hb := rk_behind pre hp
  have hc := next_core hf hx hv2
  rw [hr]
  constructor
  · rw [e0]
    exact hp.append_left pre
  · have : rk p = rk (pre ++ x :: (u ++ y :: v)) := by rw [← e0]
    omega

theorem swapAt_append {a b : List Int} {s i j : Nat} (hs : a.length = s) : swapAt (a ++ b) (s + i) (s + j) = a ++ swapAt b i j := by
  subst hs
  unfold swapAt
  have e : ∀ k, (a ++ b).getD (a.length + k) 0 = b.getD k 0 := fun k => by
    rw [List.getD_eq_getElem?_getD, List.getElem?_append_right (by omega), Nat.add_sub_cancel_left, List.getD_eq_getElem?_getD]
  rw [e, e, List.set_append_right _ _ (by omega), Nat.add_sub_cancel_left, List.set_append_right _ _ (by omega), Nat.add_sub_cancel_left]

set_option maxHeartbeats 800000 in
/-- 'slices.Reverse(s[t:])', s the call's own. -/
theorem reverse_sub (base g n cap t c : Nat) (xs : List Int) (w : World) (h : OwnInts w base (.slice (some ⟨g, 0, none⟩) n cap) xs) (hl : xs.length = n) (htn : t ≤ n) (_hn : n ≤ 1000000) :
    Calls Tryd.prog 36 #[.slice (some ⟨g, t, none⟩) (n - t) c] w fun e w' =>
      e = .returned (.tuple #[]) ∧ OwnInts w' base (.slice (some ⟨g, 0, none⟩) n cap) (revFrom xs t) ∧ w.grownBy w' (some g) := by
  have HO := hid h
  have HL := hid hl
  obtain ⟨m0, hm0⟩ : ∃ m0, n - t = m0 := ⟨_, rfl⟩
  have HD : Hid ((xs.drop t).length = m0) := by rw [List.length_drop, hl]; exact hm0
  have HT : Hid ((xs.take t).length = t) := by rw [List.length_take, hl]; exact Nat.min_eq_left htn
  have hm1 : m0 + t ≤ n := by omega
  rw [hm0]
  clear h hl hm0
  go_enter Tryd.func36, Tryd.ntmps36
  go_wp2
  go_loopg [2, 3] m0 (fun gh s u wr => ∃ k : Nat, k ≤ m0 ∧ m0 - k ≤ gh ∧ s = .int .i64 k ∧ u = .int .i64 ((m0 : Int) - 1 - k) ∧ OwnInts wr base (.slice (some ⟨g, 0, none⟩) n cap) (xs.take t ++ revUpto (xs.drop t) k) ∧ w.grownBy wr (some g))
  case atStart => exact ⟨0, Nat.zero_le _, by omega, rfl, by go_num, by rw [revUpto_zero, List.take_append_drop]; exact HO.out, one_refl _ _⟩
  case round =>
    obtain ⟨k, hk, hg, rfl, rfl, hown, hgrow⟩ := hrel
    have HO2 := hid hown
    have HG2 := hid hgrow
    clear hown hgrow
    by_cases hlt : k + k + 1 < m0
    · obtain ⟨m, hmk⟩ : ∃ m, m + k + 1 = m0 := ⟨m0 - 1 - k, by omega⟩
      have hkm : k < m := by omega
      have hj : (m0 : Int) - 1 - k = m := by omega
      have HJ := hid hj
      have HMK := hid hmk
      have hmn : m < m0 := by omega
      have hkn : k < m0 := by omega
      have hlr : (xs.take t ++ revUpto (xs.drop t) k).length = n := by rw [List.length_append, length_revUpto, HT.out, HD.out]; have := HL.out; have := HD.out; rw [List.length_drop] at this; omega
      rw [HJ.out]
      have hO : OwnInts wr base (.slice (some ⟨g, 0, none⟩) (xs.take t ++ revUpto (xs.drop t) k).length cap) (xs.take t ++ revUpto (xs.drop t) k) := by rw [hlr]; exact HO2.out
      have g1 : wr.cell? ⟨g, t + k, none⟩ = some (.int .i64 ((xs.take t ++ revUpto (xs.drop t) k).getD (t + k) 0)) := hO.cell (by omega)
      have g2 : wr.cell? ⟨g, t + m, none⟩ = some (.int .i64 ((xs.take t ++ revUpto (xs.drop t) k).getD (t + m) 0)) := hO.cell (by omega)
      have f1 : wr.frozen? ⟨g, t + k, none⟩ = false := hO.frozen _
      have f2 : wr.frozen? ⟨g, t + m, none⟩ = false := hO.frozen _
      have HST : Hid (swapAt (xs.take t ++ revUpto (xs.drop t) k) (t + k) (t + m) = xs.take t ++ revUpto (xs.drop t) (k + 1)) := by
        rw [swapAt_append HT.out, revUpto_step (by rw [HD.out]; exact hmk) hkm]; exact rfl
      have HSW : Hid (swapAt (xs.take t ++ revUpto (xs.drop t) k) (t + k) (t + m) = ((xs.take t ++ revUpto (xs.drop t) k).set (t + k) ((xs.take t ++ revUpto (xs.drop t) k).getD (t + m) 0)).set (t + m) ((xs.take t ++ revUpto (xs.drop t) k).getD (t + k) 0)) := rfl
      have HLR := hid hlr
      clear hO hlr hj hmk
      generalize (xs.take t ++ revUpto (xs.drop t) k).getD (t + k) 0 = x at g1 HSW
      generalize (xs.take t ++ revUpto (xs.drop t) k).getD (t + m) 0 = y at g2 HSW
      go_wp2_with fail
      go_region
      go_wp2
      have hmk := HMK.out
      go_roundg (m0 - (k + 1))
      case measure => omega
      case rel =>
        refine ⟨k + 1, by omega, by omega, by go_num, by go_num, ?_, ?_⟩
        · rw [← HST.out, HSW.out]
          exact ((HO2.out.set HLR.out.symm (t + k) y).set (by rw [List.length_set]; exact HLR.out.symm) (t + m) x).drew
        · exact one_drewN (one_set (one_set HG2.out (t + k) _) (t + m) _) 1
    · have hd : ¬ ((k : Int) < (m0 : Int) - 1 - k) := by omega
      go_wp2
      go_end0
      refine ⟨rfl, ?_, HG2.out⟩
      unfold revFrom
      rw [← revUpto_end (xs := xs.drop t) (k := k) (by rw [HD.out]; omega)]
      exact HO2.out

/-! ### Next -/

/-- There is a last one behind the tail that is greater. -/
theorem find_last {p : List Int} (hp : IsPerm p) {t : Nat} (h : IsTail p t) (ht : 0 < t) : ∀ d, d ≤ p.length - 1 - t → (∀ j, p.length - 1 - d < j → j < p.length → p.getD j 0 < p.getD (t - 1) 0) →
    ∃ l, t ≤ l ∧ l < p.length ∧ p.getD (t - 1) 0 < p.getD l 0 ∧ ∀ j, l < j → j < p.length → p.getD j 0 < p.getD (t - 1) 0 := by
  have hlen : t < p.length := by have := h.1; omega
  have hnd := nodup_iff_getD.1 hp.nodup
  intro d
  generalize he : p.length - 1 - t - d = r
  induction r generalizing d with
  | zero =>
    intro hd hall
    refine ⟨t, Nat.le_refl _, hlen, ?_, fun j h1 h2 => hall j (by omega) h2⟩
    have h1 := h.2.2 ht
    have h2 := hnd (t - 1) t (by omega) hlen
    omega
  | succ r ih =>
    intro hd hall
    by_cases hc : p.getD (t - 1) 0 < p.getD (p.length - 1 - d) 0
    · exact ⟨p.length - 1 - d, by omega, by omega, hc, fun j h1 h2 => hall j h1 h2⟩
    · refine ih (d + 1) (by omega) (by omega) fun j h1 h2 => ?_
      by_cases e : j = p.length - 1 - d
      · subst e
        have := hnd (t - 1) (p.length - 1 - d) (by omega) (by omega)
        omega
      · exact hall j (by omega) h2
theorem last_tail {p : List Int} (hp : IsPerm p) {t : Nat} (h : IsTail p t) (ht : 0 < t) (hl : rk p + 1 = fact p.length) : False := by
  obtain ⟨l, h1, h2, h3, h4⟩ := find_last hp h ht 0 (by omega) (fun j h1 h2 => by omega)
  have h5 := next_list h ht h1 h2 h3 h4
  have h6 := rk_lt (revFrom (swapAt p (t - 1) l) t)
  rw [h5.1.length_eq] at h6
  omega

def RetNext (w : World) (p : List Int) (e : Ending) (w' : World) : Prop := ∃ A c q, e = .returned (.tuple #[.slice A p.length c, .int .i64 0]) ∧ Ints w' A p.length q ∧ Cap p.length c ∧ Below w.heap.size w w' ∧ q.Perm p ∧ rk q = rk p + 1

/-- The same; the list lies in a block that is new. -/
def RetNextV (w : World) (p : List Int) (e : Ending) (w' : World) : Prop := ∃ g c q, e = .returned (.tuple #[.slice (some ⟨g, 0, none⟩) p.length c, .int .i64 0]) ∧ w.heap.size ≤ g ∧ OwnInts w' w.heap.size (.slice (some ⟨g, 0, none⟩) p.length c) q ∧ Below w.heap.size w w' ∧ q.Perm p ∧ rk q = rk p + 1
theorem OwnInts.rebase {w : World} {base base' g n cap : Nat} {xs : List Int} (h : OwnInts w base (.slice (some ⟨g, 0, none⟩) n cap) xs) (hb : base' ≤ g) : OwnInts w base' (.slice (some ⟨g, 0, none⟩) n cap) xs := by
  refine ⟨h.1, ?_⟩
  rcases h.2 with ⟨e, _⟩ | ⟨g', cap', cur, hv, hg, r⟩
  · cases e
  · have e := hv
    injection e with e1
    injection e1 with e1
    injection e1 with e1
    subst e1
    exact .inr ⟨g, cap', cur, hv, hb, r⟩
def RetNextO (w : World) (p : List Int) (e : Ending) (w' : World) : Prop := ∃ g c q, e = .returned (.tuple #[.slice (some ⟨g, 0, none⟩) p.length c, .int .i64 0]) ∧ w.heap.size ≤ g ∧ Ints w' (some ⟨g, 0, none⟩) p.length q ∧ Cap p.length c ∧ Below w.heap.size w w' ∧ q.Perm p ∧ rk q = rk p + 1

set_option maxHeartbeats 1600000 in
theorem next_mine (A : Option Addr) (n c : Nat) (p : List Int) (w : World) (hA : Ints w A n p) (hp : permErr p = 0) (hlast : rk p + 1 < fact n) :
    Calls Tryd.prog 13 #[.slice A n c] w (RetNextV w p) := by
  have hn10 : n ≤ 10 := by rw [← hA.len]; exact (permErr_ok.1 hp).1
  have HPP := hid (permErr_ok.1 hp).2
  have HL := hid hA.len
  go_enter Tryd.func13, Tryd.ntmps13
  go_wp2_with fail
  refine (check_any A n c p _ hA (by omega)).mono ?_
  rintro e w1 ⟨rfl, hb1⟩
  have hA1 := hA.keep hb1
  have HB1 := hid hb1
  clear hA hb1
  go_wp2_with fail
  refine (fallingTail_any A n c p _ hA1 (by omega)).mono ?_
  rintro e w2 ⟨t, q, rfl, htail, rfl⟩
  have hA2 := hA1.drewN q
  have HB2 := hid (below_drewN HB1.out q)
  have HTL := hid htail
  have ht0 : 0 < t := by
    rcases Nat.eq_zero_or_pos t with h0 | h0
    · subst h0
      have := rk_falls (HTL.out.falls)
      rw [List.drop_zero, HL.out] at this
      omega
    · exact h0
  have htn : t ≤ n - 1 := by rw [← HL.out]; exact htail.1
  have ht1 : ((t : Int) == 0) = false := by simp; omega
  clear htail hA1 HB1
  generalize w1.drewN q = w2 at hA2 HB2 ⊢
  go_wp2_with fail
  refine (clone_any A n c p _ hA2 (by omega)).mono ?_
  rintro e w3 ⟨v, rfl, hown, hb3⟩
  have HB3 := hid (below_step HB2.out (Nat.le_refl _) hb3)
  have hlp : p.length = n := HL.out
  obtain ⟨g, cap, rfl, hgb, hgs, hcap⟩ := hown.form (by omega)
  rw [hlp] at hown hcap
  have HO := hid hown
  have hgw : w.heap.size ≤ g := Nat.le_trans HB2.out.size hgb
  have HGW := hid hgw
  have HNE := hid hlp
  rw [hlp]
  clear hown hb3 hlp hgb hgw HB2 hA2
  obtain ⟨s, rfl⟩ : ∃ s, t = s + 1 := ⟨t - 1, by omega⟩
  have HC : Hid (∀ j, j < n → w3.cell? ⟨g, j, none⟩ = some (.int .i64 (p.getD j 0))) := fun j hj => by
    have h := HO.out
    rw [← HL.out] at h
    exact h.cell (by rw [HL.out]; exact hj)
  have HF : Hid (∀ j, w3.frozen? ⟨g, j, none⟩ = false) := fun j => by
    have h := HO.out
    rw [← HL.out] at h
    exact h.frozen j
  have g1 := HC.out s (by omega)
  have HND := hid (nodup_iff_getD.1 HPP.out.nodup)
  go_wp2_with fail
  go_loopg [7] n (fun gh u wr => ∃ l q : Nat, s + 1 ≤ l ∧ l < n ∧ l ≤ gh ∧ u = .int .i64 l ∧ wr = w3.drewN q ∧ ∀ j, l < j → j < n → p.getD j 0 < p.getD s 0)
  case atStart => exact ⟨n - 1, 0, by omega, by omega, by omega, by go_num, rfl, fun j h1 h2 => by omega⟩
  case round =>
    obtain ⟨l, q, hl1, hl2, hg, rfl, hq, hall⟩ := hrel
    have HQ := hid hq
    have HA := hid hall
    have g1' : wr.cell? ⟨g, s, none⟩ = some (.int .i64 (p.getD s 0)) := by rw [hq]; exact g1
    have g2' : wr.cell? ⟨g, l, none⟩ = some (.int .i64 (p.getD l 0)) := by rw [hq]; exact HC.out l hl2
    have f1' : wr.frozen? ⟨g, s, none⟩ = false := by rw [hq]; exact HF.out s
    have f2' : wr.frozen? ⟨g, l, none⟩ = false := by rw [hq]; exact HF.out l
    clear hq hall g1
    generalize hx : p.getD s 0 = x at g1'
    generalize hy : p.getD l 0 = y at g2'
    have HX := hid hx
    have HY := hid hy
    clear hx hy
    by_cases hyx : y < x
    · have hsl : s + 1 < l := by
        rcases Nat.lt_or_ge (s + 1) l with h | h
        · exact h
        · have e : l = s + 1 := by omega
          have := HTL.out.2.2 (by omega)
          rw [← e, HY.out, show l - 1 = s by omega, HX.out] at this
          omega
      go_wp2_with fail
      go_region
      go_wp2
      go_roundg (l - 1)
      case measure => omega
      case rel =>
        refine ⟨l - 1, q + 1, by omega, by omega, by omega, by go_num, by rw [HQ.out]; rfl, fun j h1 h2 => ?_⟩
        rw [HX.out]
        by_cases e : j = l
        · subst e
          rw [HY.out]
          exact hyx
        · have := HA.out j (by omega) h2
          rwa [HX.out] at this
    · have HLT : Hid (x < y) := by
        have := HND.out s l (by omega) (by rw [HL.out]; exact hl2)
        rw [HX.out, HY.out] at this
        show x < y
        omega
      have HNX : Hid ((revFrom (swapAt p s l) (s + 1)).Perm p ∧ rk (revFrom (swapAt p s l) (s + 1)) = rk p + 1) := by
        have := next_list (p := p) (t := s + 1) (l := l) HTL.out (by omega) hl1 (by rw [HL.out]; exact hl2) (by rw [Nat.add_sub_cancel, HX.out, HY.out]; exact HLT.out) (fun j h1 h2 => by rw [Nat.add_sub_cancel]; exact HA.out j h1 (by rw [← HL.out]; exact h2))
        rwa [Nat.add_sub_cancel] at this
      have HSW : Hid (swapAt p s l = (p.set s y).set l x) := by unfold swapAt; rw [HX.out, HY.out]; exact rfl
      have HOW : Hid (OwnInts wr w2.heap.size (.slice (some ⟨g, 0, none⟩) n cap) p) := by rw [HQ.out]; exact HO.out
      have HBW : Hid (Below w.heap.size w wr) := by rw [HQ.out]; exact below_drewN HB3.out q
      have hne : l ≠ s := by omega
      have hle : s < l := by omega
      clear HQ HA HC HF HO HB3 HTL
      go_wp2_with fail
      go_region
      go_wp2_with fail
      go_region
      have hfr := fun W => run_from (some ⟨g, 0, none⟩) n cap (s + 1) ((s : Int) + 1) (by omega) (by omega) W
      have hsA : subA (some ⟨g, 0, none⟩) cap (s + 1) = some ⟨g, s + 1, none⟩ := by unfold subA; rw [if_neg (by omega)]; simp [Addr.add]
      simp only [hsA] at hfr
      clear hsA
      go_wp2_with fail
      refine (reverse_sub w2.heap.size g n cap (s + 1) _ ((p.set s y).set l x) _ ((HOW.out.set HNE.out.symm s y).set (by rw [List.length_set]; exact HNE.out.symm) l x).drew.drew (by rw [List.length_set, List.length_set]; exact HNE.out) (by omega) (by omega)).mono ?_
      rintro e w4 ⟨rfl, hown4, hone⟩
      have hb3 := ((HBW.out.setCell (p := ⟨g, s, none⟩) HGW.out (.int .i64 y)).setCell (p := ⟨g, l, none⟩) HGW.out (.int .i64 x)).drew.drew
      have HB4 := hid (below_one hb3 HGW.out hb3.size hone)
      obtain ⟨A', c', hv, hI, hcp⟩ := hown4.ints
      have hown5 := hown4.rebase HGW.out
      rw [← HSW.out] at hI hv hcp hown5
      have hl4 : (revFrom (swapAt p s l) (s + 1)).length = n := by rw [HNX.out.1.length_eq]; exact HNE.out
      rw [hl4] at hI hv hcp
      injection hv with hv1 _ hv2
      subst hv1
      subst hv2
      have HO5 := hid hown5
      clear hone hown4 hown5 hb3 hfr hI hcp hl4
      go_wp2
      go_ret2
      exact ⟨g, cap, revFrom (swapAt p s l) (s + 1), by rw [HNE.out]; rfl, HGW.out, by rw [HNE.out]; exact HO5.out, HB4.out, HNX.out.1, HNX.out.2⟩
theorem next_own (A : Option Addr) (n c : Nat) (p : List Int) (w : World) (hA : Ints w A n p) (hp : permErr p = 0) (hlast : rk p + 1 < fact n) :
    Calls Tryd.prog 13 #[.slice A n c] w (RetNextO w p) := by
  refine (next_mine A n c p w hA hp hlast).mono ?_
  rintro e w' ⟨g, c', q, rfl, hg, ho, hb, h1, h2⟩
  have := ho.asInts
  exact ⟨g, c', q, rfl, hg, this.1, this.2, hb, h1, h2⟩
theorem next_ok (A : Option Addr) (n c : Nat) (p : List Int) (w : World) (hA : Ints w A n p) (hp : permErr p = 0) (hlast : rk p + 1 < fact n) :
    Calls Tryd.prog 13 #[.slice A n c] w (RetNext w p) :=
  (next_own A n c p w hA hp hlast).mono fun _ _ ⟨_, c', q, he, _, hI, hc, hb, hp', hr⟩ => ⟨_, c', q, he, hI, hc, hb, hp', hr⟩

set_option maxHeartbeats 800000 in
theorem next_last (A : Option Addr) (n c : Nat) (p : List Int) (w : World) (hA : Ints w A n p) (hp : permErr p = 0) (hlast : rk p + 1 = fact n) :
    Calls Tryd.prog 13 #[.slice A n c] w fun e w' => e = .returned (.tuple #[.slice none 0 0, .int .i64 4]) ∧ Below w.heap.size w w' := by
  have hn10 : n ≤ 10 := by rw [← hA.len]; exact (permErr_ok.1 hp).1
  have HPP := hid (permErr_ok.1 hp).2
  have HL := hid hA.len
  have HLA := hid hlast
  clear hlast
  go_enter Tryd.func13, Tryd.ntmps13
  go_wp2_with fail
  refine (check_any A n c p _ hA (by omega)).mono ?_
  rintro e w1 ⟨rfl, hb1⟩
  have hA1 := hA.keep hb1
  have HB1 := hid hb1
  clear hA hb1
  go_wp2_with fail
  refine (fallingTail_any A n c p _ hA1 (by omega)).mono ?_
  rintro e w2 ⟨t, q, rfl, htail, rfl⟩
  have ht0 : t = 0 := by
    rcases Nat.eq_zero_or_pos t with h0 | h0
    · exact h0
    · exfalso
      exact last_tail HPP.out htail h0 (by rw [HL.out]; exact HLA.out)
  subst ht0
  go_wp2
  go_ret2
  exact ⟨rfl, below_drewN HB1.out q⟩

end Go.Proofs.YtmdpfadfimodjaaDoor

/-
  slices.Compare; castref.Factorial, castref.RankOf; castkeep.ranks; the refused lists of package rank.
-/
namespace Go.Proofs.YtmdpfadfimodjaaDoor
open Go.RowKit

/-! ### Compare -/

/-! ### Factorial, RankOf -/

def RetInt (w : World) (x : Int) (e : Ending) (w' : World) : Prop := e = .returned (.int .i64 x) ∧ Below w.heap.size w w'

/-! ### ranks -/

set_option maxHeartbeats 1000000 in
theorem ranks_any (w : World) : Calls Tryd.prog 5 #[] w fun e w' => e = .returned (.bool true) ∧ Below w.heap.size w w' := by
  go_enter Tryd.func5, Tryd.ntmps5
  go_wp2_with fail
  refine (at_ok 3 3 w (by omega) (by decide)).mono ?_
  rintro e w1 ⟨g1, rfl, hI1, hb1⟩
  have HB1 := hid hb1
  have HI1 := hid hI1
  clear hb1 hI1
  go_wp2_with fail
  refine (of_ok _ 3 3 [1, 2, 0] _ (ints_lit w1 _ _ 3 [1, 2, 0] rfl rfl) (by decide) (by omega)).mono ?_
  rintro e w2 ⟨rfl, hb2⟩
  have HB2 := hid (HB1.out.trans ((below_step (below_alloc w1 _) (Nat.le_refl _) hb2).mono HB1.out.size))
  have HI2 := hid ((HI1.out.keep (below_alloc w1 _)).keep hb2)
  clear hb2 HB1 HI1
  rw [show rk [1, 2, 0] = 3 by decide]
  go_wp2_with fail
  refine (good_any _ 2 2 [0, 0] _ (ints_lit w2 _ _ 2 [0, 0] rfl rfl) (by omega)).mono ?_
  rintro e w3 ⟨rfl, rfl⟩
  rw [show allOK [0, 0] = true by decide]
  go_wp2_with fail
  have hX := HI2.out.keep (below_step (below_alloc w2 (.cells #[.int .i64 0, .int .i64 0] 25)) (Nat.le_refl _) (below_alloc _ (.cells #[.int .i64 1, .int .i64 2, .int .i64 0] 3)))
  have hY := ints_lit (w2.alloc (.cells #[.int .i64 0, .int .i64 0] 25)) #[.int .i64 1, .int .i64 2, .int .i64 0] 3 3 [1, 2, 0] rfl rfl
  rw [show (w2.alloc (.cells #[.int .i64 0, .int .i64 0] 25)).heap.size = w2.heap.size + 1 by simp] at hY
  have HX := hid hX
  have HY := hid hY
  clear hX hY
  refine (equal_any _ 3 3 _ 3 3 _ [1, 2, 0] _ HX.out HY.out (by omega) (by omega)).mono ?_
  rintro e w3 ⟨rfl, q, rfl⟩
  rw [show decide (atL 3 3 = [1, 2, 0]) = true by decide]
  go_wp2
  go_ret
  exact ⟨rfl, below_drewN (HB2.out.trans ((below_step (below_alloc w2 _) (Nat.le_refl _) (below_alloc _ _)).mono HB2.out.size)) q⟩

end Go.Proofs.YtmdpfadfimodjaaDoor

/-
  Package rank at lists that Check refuses.
-/
namespace Go.Proofs.YtmdpfadfimodjaaDoor
open Go.RowKit

set_option maxHeartbeats 400000 in
theorem code_err (A : Option Addr) (n c : Nat) (p : List Int) (w : World) (hA : Ints w A n p) (hp : permErr p ≠ 0) (hn : n ≤ 9223372036854775807) :
    Calls Tryd.prog 12 #[.slice A n c] w fun e w' => e = .returned (.tuple #[.slice none 0 0, .int .i64 (permErr p)]) ∧ Below w.heap.size w w' := by
  have hne : (permErr p != 0) = true := by simpa using hp
  go_enter Tryd.func12, Tryd.ntmps12
  go_wp2_with fail
  refine (check_any A n c p _ hA hn).mono ?_
  rintro e w1 ⟨rfl, hb1⟩
  have HB1 := hid hb1
  clear hb1 hp
  go_wp2
  go_ret2
  exact ⟨rfl, HB1.out⟩

set_option maxHeartbeats 400000 in
theorem of_err (A : Option Addr) (n c : Nat) (p : List Int) (w : World) (hA : Ints w A n p) (hp : permErr p ≠ 0) (hn : n ≤ 9223372036854775807) :
    Calls Tryd.prog 29 #[.slice A n c] w fun e w' => e = .returned (.tuple #[.int .i64 0, .int .i64 (permErr p)]) ∧ Below w.heap.size w w' := by
  have hne : (permErr p != 0) = true := by simpa using hp
  go_enter Tryd.func29, Tryd.ntmps29
  go_wp2_with fail
  refine (code_err A n c p _ hA hp hn).mono ?_
  rintro e w1 ⟨rfl, hb1⟩
  have HB1 := hid hb1
  clear hb1 hp
  go_wp2
  go_ret2
  exact ⟨rfl, HB1.out⟩

set_option maxHeartbeats 400000 in
theorem next_err (A : Option Addr) (n c : Nat) (p : List Int) (w : World) (hA : Ints w A n p) (hp : permErr p ≠ 0) (hn : n ≤ 9223372036854775807) :
    Calls Tryd.prog 13 #[.slice A n c] w fun e w' => e = .returned (.tuple #[.slice none 0 0, .int .i64 (permErr p)]) ∧ Below w.heap.size w w' := by
  have hne : (permErr p != 0) = true := by simpa using hp
  go_enter Tryd.func13, Tryd.ntmps13
  go_wp2_with fail
  refine (check_any A n c p _ hA hn).mono ?_
  rintro e w1 ⟨rfl, hb1⟩
  have HB1 := hid hb1
  clear hb1 hp
  go_wp2
  go_ret2
  exact ⟨rfl, HB1.out⟩

end Go.Proofs.YtmdpfadfimodjaaDoor

/-
  Rows of places that rise, each of which may stand behind the one ahead of it; the longest ones, reckoned from behind (P42). Plain facts; no program, no memory.
-/
namespace Go.Proofs.YtmdpfadfimodjaaDoor

/-- A row of places below n: each stands behind the one ahead of it, and may do so. -/
def Line (f : Nat → Nat → Bool) (n : Nat) : List Nat → Prop
  | [] => True
  | i :: c => i < n ∧ (∀ j, c.head? = some j → i < j ∧ f i j = true) ∧ Line f n c
theorem Line.head {f : Nat → Nat → Bool} {n i : Nat} {c : List Nat} (h : Line f n (i :: c)) : i < n := h.1
theorem Line.tail {f : Nat → Nat → Bool} {n i : Nat} {c : List Nat} (h : Line f n (i :: c)) : Line f n c := h.2.2
theorem Line.two {f : Nat → Nat → Bool} {n i j : Nat} {c : List Nat} (h : Line f n (i :: j :: c)) : i < j ∧ f i j = true := h.2.1 j rfl
theorem line_nil (f : Nat → Nat → Bool) (n : Nat) : Line f n [] := trivial
theorem line_one {f : Nat → Nat → Bool} {n i : Nat} (h : i < n) : Line f n [i] := ⟨h, fun j hj => by simp at hj, trivial⟩
theorem line_cons {f : Nat → Nat → Bool} {n i j : Nat} {c : List Nat} (hij : i < j) (hf : f i j = true) (h : Line f n (j :: c)) : Line f n (i :: j :: c) :=
  ⟨Nat.lt_trans hij h.1, fun k hk => by simp at hk; subst hk; exact ⟨hij, hf⟩, h⟩
theorem Line.lt {f : Nat → Nat → Bool} {n : Nat} : ∀ {c : List Nat}, Line f n c → ∀ i ∈ c, i < n
  | i :: c, h, k, hk => by
    rcases List.mem_cons.1 hk with rfl | hk
    · exact h.head
    · exact h.tail.lt k hk
/-- The same row under another law. -/
theorem Line.law {f g : Nat → Nat → Bool} {n m : Nat} : ∀ {c : List Nat}, Line f n c → (∀ i ∈ c, i < m) → (∀ i ∈ c, ∀ j ∈ c, i < j → f i j = true → g i j = true) → Line g m c
  | [], _, _, _ => trivial
  | i :: c, h, hm, hg => by
    refine ⟨hm i (by simp), fun j hj => ?_, h.tail.law (fun k hk => hm k (by simp [hk])) (fun k hk l hl => hg k (by simp [hk]) l (by simp [hl]))⟩
    obtain ⟨h1, h2⟩ := h.2.1 j hj
    exact ⟨h1, hg i (by simp) j (by simp [List.mem_of_mem_head? hj]) h1 h2⟩
/-- Each pair of a row's places, where the law carries over. -/
theorem Line.pairs {f : Nat → Nat → Bool} {n : Nat} {R : Nat → Nat → Prop} (hR : ∀ i j, i < j → j < n → f i j = true → R i j) (ht : ∀ i j k, R i j → R j k → R i k) : ∀ {c : List Nat}, Line f n c → c.Pairwise R
  | [], _ => .nil
  | [i], _ => by simp
  | i :: j :: c, h => by
    have ih := Line.pairs hR ht (c := j :: c) h.tail
    have hij : R i j := hR i j h.two.1 h.tail.head h.two.2
    refine List.Pairwise.cons ?_ ih
    intro k hk
    rcases List.mem_cons.1 hk with rfl | hk
    · exact hij
    · exact ht i j k hij ((List.pairwise_cons.1 ih).1 k hk)
theorem Line.rising {f : Nat → Nat → Bool} {n : Nat} {c : List Nat} (h : Line f n c) : c.Pairwise (· < ·) := h.pairs (fun _ _ h1 _ _ => h1) (fun _ _ _ h1 h2 => Nat.lt_trans h1 h2)
/-- Pairs that may stand so make a row. -/
theorem line_of_pairs {f : Nat → Nat → Bool} {n : Nat} : ∀ {c : List Nat}, (∀ i ∈ c, i < n) → c.Pairwise (fun i j => i < j ∧ f i j = true) → Line f n c
  | [], _, _ => trivial
  | i :: c, h, hp => by
    obtain ⟨h1, h2⟩ := List.pairwise_cons.1 hp
    exact ⟨h i (by simp), fun j hj => h1 j (List.mem_of_mem_head? hj), line_of_pairs (fun k hk => h k (by simp [hk])) h2⟩
theorem line_append {f : Nat → Nat → Bool} {n i : Nat} : ∀ {c : List Nat}, Line f n c → i < n → (∀ k, c.getLast? = some k → k < i ∧ f k i = true) → Line f n (c ++ [i])
  | [], _, hi, _ => line_one hi
  | [k], h, hi, hl => line_cons (hl k rfl).1 (hl k rfl).2 (line_one hi)
  | k :: j :: c, h, hi, hl => by
    have ih := line_append (c := j :: c) h.tail hi (fun l hl' => hl l (by simpa using hl'))
    exact line_cons h.two.1 h.two.2 ih

/-- m is the length of the longest row that begins with i. -/
def Far (f : Nat → Nat → Bool) (n i m : Nat) : Prop := (∃ c, Line f n (i :: c) ∧ c.length + 1 = m) ∧ ∀ c, Line f n (i :: c) → c.length + 1 ≤ m
/-- m is the length of the longest row. -/
def Longest (f : Nat → Nat → Bool) (n m : Nat) : Prop := (∃ c, Line f n c ∧ c.length = m) ∧ ∀ c, Line f n c → c.length ≤ m
theorem Far.eq {f : Nat → Nat → Bool} {n i a b : Nat} (h : Far f n i a) (k : Far f n i b) : a = b := by
  obtain ⟨c, h1, h2⟩ := h.1
  obtain ⟨d, k1, k2⟩ := k.1
  have := h.2 d k1
  have := k.2 c h1
  omega
theorem Longest.eq {f : Nat → Nat → Bool} {n a b : Nat} (h : Longest f n a) (k : Longest f n b) : a = b := by
  obtain ⟨c, h1, h2⟩ := h.1
  obtain ⟨d, k1, k2⟩ := k.1
  have := h.2 d k1
  have := k.2 c h1
  omega
theorem Far.lt {f : Nat → Nat → Bool} {n i m : Nat} (h : Far f n i m) : i < n ∧ 0 < m := by
  obtain ⟨c, h1, h2⟩ := h.1
  exact ⟨h1.head, by omega⟩
theorem nodup_short {n : Nat} : ∀ {c : List Nat}, c.Pairwise (· < ·) → (∀ i ∈ c, i < n) → ∀ b, (∀ i ∈ c, b ≤ i) → b ≤ n → c.length + b ≤ n
  | [], _, _, b, _, hb => by simpa using hb
  | i :: c, hp, h, b, hb, _ => by
    obtain ⟨h1, h2⟩ := List.pairwise_cons.1 hp
    have hi := h i (by simp)
    have := nodup_short h2 (fun k hk => h k (by simp [hk])) (i + 1) (fun k hk => h1 k hk) hi
    have := hb i (by simp)
    simp only [List.length_cons]
    omega
theorem Line.short {f : Nat → Nat → Bool} {n : Nat} {c : List Nat} (h : Line f n c) : c.length ≤ n := by
  have := nodup_short h.rising h.lt 0 (fun _ _ => Nat.zero_le _) (Nat.zero_le _)
  omega
theorem Line.short_from {f : Nat → Nat → Bool} {n i : Nat} {c : List Nat} (h : Line f n (i :: c)) : c.length + 1 + i ≤ n := by
  refine nodup_short h.rising h.lt i (fun k hk => ?_) (Nat.le_of_lt h.head)
  rcases List.mem_cons.1 hk with rfl | hk
  · exact Nat.le_refl _
  · exact Nat.le_of_lt ((List.pairwise_cons.1 h.rising).1 k hk)
theorem Far.le {f : Nat → Nat → Bool} {n i m : Nat} (h : Far f n i m) : m + i ≤ n := by
  obtain ⟨c, h1, h2⟩ := h.1
  have := h1.short_from
  omega
theorem Longest.le {f : Nat → Nat → Bool} {n m : Nat} (h : Longest f n m) : m ≤ n := by
  obtain ⟨c, h1, h2⟩ := h.1
  have := h1.short
  omega

/-- m is the greatest length among the rows that begin with one of the places i+1 .. j-1 that may stand behind i; t is where (n: nowhere). -/
def Best (f : Nat → Nat → Bool) (n i j t m : Nat) : Prop := (t = n ∧ m = 0 ∨ i < t ∧ t < j ∧ f i t = true ∧ Far f n t m) ∧ ∀ k, i < k → k < j → f i k = true → ∃ a, a ≤ m ∧ Far f n k a
theorem best_nil (f : Nat → Nat → Bool) (n i : Nat) : Best f n i (i + 1) n 0 := ⟨.inl ⟨rfl, rfl⟩, fun k h1 h2 => absurd h2 (by omega)⟩
theorem best_no {f : Nat → Nat → Bool} {n i j t m : Nat} (h : Best f n i j t m) (hf : f i j = false) : Best f n i (j + 1) t m := by
  refine ⟨h.1.imp id (fun ⟨h1, h2, h3⟩ => ⟨h1, by omega, h3⟩), fun k h1 h2 h3 => ?_⟩
  by_cases e : k = j
  · subst e; rw [hf] at h3; cases h3
  · exact h.2 k h1 (by omega) h3
theorem best_old {f : Nat → Nat → Bool} {n i j t m a : Nat} (h : Best f n i j t m) (ha : Far f n j a) (hle : a ≤ m) : Best f n i (j + 1) t m := by
  refine ⟨h.1.imp id (fun ⟨h1, h2, h3⟩ => ⟨h1, by omega, h3⟩), fun k h1 h2 h3 => ?_⟩
  by_cases e : k = j
  · subst e; exact ⟨a, hle, ha⟩
  · exact h.2 k h1 (by omega) h3
theorem best_new {f : Nat → Nat → Bool} {n i j t m a : Nat} (h : Best f n i j t m) (hij : i < j) (hf : f i j = true) (ha : Far f n j a) (hle : m ≤ a) : Best f n i (j + 1) j a := by
  refine ⟨.inr ⟨hij, by omega, hf, ha⟩, fun k h1 h2 h3 => ?_⟩
  by_cases e : k = j
  · subst e; exact ⟨a, Nat.le_refl _, ha⟩
  · obtain ⟨b, h4, h5⟩ := h.2 k h1 (by omega) h3
    exact ⟨b, by omega, h5⟩
theorem far_of_best {f : Nat → Nat → Bool} {n i t m : Nat} (hi : i < n) (h : Best f n i n t m) : Far f n i (m + 1) := by
  constructor
  · rcases h.1 with ⟨_, rfl⟩ | ⟨h1, h2, h3, ⟨c, h4, h5⟩, _⟩
    · exact ⟨[], line_one hi, rfl⟩
    · exact ⟨t :: c, line_cons h1 h3 h4, by simp [h5]⟩
  · intro c hc
    cases c with
    | nil => simp
    | cons j c =>
      obtain ⟨h1, h2⟩ := hc.two
      obtain ⟨a, h3, h4⟩ := h.2 j h1 hc.tail.head h2
      have := h4.2 c hc.tail
      simp only [List.length_cons]
      omega
/-- m is the greatest length among the rows that begin with i or later; t is where (n: nowhere). -/
def Most (f : Nat → Nat → Bool) (n i t m : Nat) : Prop := (t = n ∧ m = 0 ∨ i ≤ t ∧ t < n ∧ Far f n t m) ∧ ∀ k, i ≤ k → k < n → ∃ a, a ≤ m ∧ Far f n k a
theorem most_nil (f : Nat → Nat → Bool) (n : Nat) : Most f n n n 0 := ⟨.inl ⟨rfl, rfl⟩, fun k h1 h2 => absurd h2 (by omega)⟩
theorem most_old {f : Nat → Nat → Bool} {n i t m a : Nat} (h : Most f n (i + 1) t m) (ha : Far f n i a) (hle : a ≤ m) : Most f n i t m := by
  refine ⟨h.1.imp id (fun ⟨h1, h2⟩ => ⟨by omega, h2⟩), fun k h1 h2 => ?_⟩
  by_cases e : k = i
  · subst e; exact ⟨a, hle, ha⟩
  · exact h.2 k (by omega) h2
theorem most_new {f : Nat → Nat → Bool} {n i t m a : Nat} (h : Most f n (i + 1) t m) (ha : Far f n i a) (hle : m ≤ a) : Most f n i i a := by
  refine ⟨.inr ⟨Nat.le_refl _, ha.lt.1, ha⟩, fun k h1 h2 => ?_⟩
  by_cases e : k = i
  · subst e; exact ⟨a, Nat.le_refl _, ha⟩
  · obtain ⟨b, h3, h4⟩ := h.2 k (by omega) h2
    exact ⟨b, by omega, h4⟩
theorem longest_of_most {f : Nat → Nat → Bool} {n t m : Nat} (h : Most f n 0 t m) : Longest f n m := by
  constructor
  · rcases h.1 with ⟨_, rfl⟩ | ⟨_, _, ⟨c, h1, h2⟩, _⟩
    · exact ⟨[], trivial, rfl⟩
    · exact ⟨t :: c, h1, by simp [h2]⟩
  · intro c hc
    cases c with
    | nil => simp
    | cons i c =>
      obtain ⟨a, h1, h2⟩ := h.2 i (Nat.zero_le _) hc.head
      have := h2.2 c hc
      simp only [List.length_cons]
      omega

/-- What stands in the list of what follows. -/
def Follows (f : Nat → Nat → Bool) (n i t m : Nat) : Prop := Far f n i (m + 1) ∧ (t = n ∧ m = 0 ∨ i < t ∧ t < n ∧ f i t = true ∧ Far f n t m)
theorem follows_of_best {f : Nat → Nat → Bool} {n i t m : Nat} (hi : i < n) (h : Best f n i n t m) : Follows f n i t m := ⟨far_of_best hi h, h.1⟩

/-- A row that is being taken along: c is taken, i comes next (n: nothing), a more to come. -/
def Taken (f : Nat → Nat → Bool) (n : Nat) (c : List Nat) (i a : Nat) : Prop := (i = n ∧ a = 0 ∧ Line f n c) ∨ (i < n ∧ Far f n i a ∧ ∀ t, Line f n (i :: t) → Line f n (c ++ i :: t))
theorem taken_step {f : Nat → Nat → Bool} {n i t m a : Nat} {c : List Nat} (h : Taken f n c i a) (hi : i < n) (hf : Follows f n i t m) : Taken f n (c ++ [i]) t m ∧ a = m + 1 := by
  rcases h with ⟨h1, _⟩ | ⟨_, h2, h3⟩
  · omega
  · refine ⟨?_, h2.eq hf.1⟩
    rcases hf.2 with ⟨rfl, rfl⟩ | ⟨k1, k2, k3, k4⟩
    · exact .inl ⟨rfl, rfl, h3 [] (line_one hi)⟩
    · refine .inr ⟨k2, k4, fun u hu => ?_⟩
      rw [List.append_assoc]
      exact h3 (t :: u) (line_cons k1 k3 hu)
theorem taken_end {f : Nat → Nat → Bool} {n a : Nat} {c : List Nat} (h : Taken f n c n a) : Line f n c ∧ a = 0 := by
  rcases h with ⟨_, h1, h2⟩ | ⟨h1, _⟩
  · exact ⟨h2, h1⟩
  · omega
theorem taken_start {f : Nat → Nat → Bool} {n t m : Nat} (h : Most f n 0 t m) : Taken f n [] t m := by
  rcases h.1 with ⟨h1, h2⟩ | ⟨_, h1, h2⟩
  · exact .inl ⟨h1, h2, trivial⟩
  · exact .inr ⟨h1, h2, fun u hu => hu⟩

/-- What rises in a list. -/
def upF (l : List Int) (i j : Nat) : Bool := decide (l.getD i 0 < l.getD j 0)
/-- What doesn't rise in a list. -/
def downF (l : List Int) (i j : Nat) : Bool := decide (l.getD j 0 ≤ l.getD i 0)
/-- A longest row. -/
def IsLongest (f : Nat → Nat → Bool) (n : Nat) (c : List Nat) : Prop := Line f n c ∧ Longest f n c.length
theorem isLongest_of {f : Nat → Nat → Bool} {n : Nat} {c : List Nat} (h : Line f n c) (hl : Longest f n c.length) : IsLongest f n c := ⟨h, hl⟩

end Go.Proofs.YtmdpfadfimodjaaDoor

/-
  lines.Check (P41), and the small functions that say what may stand behind what.
-/
namespace Go.Proofs.YtmdpfadfimodjaaDoor
open Go.RowKit

theorem lcheck_ok (A : Option Addr) (n c : Nat) (w : World) (hn : n ≤ 30) :
    Calls Tryd.prog 39 #[.slice A n c] w fun e w' => e = .returned (.int .i64 0) ∧ w = w' := by
  have hd : decide (30 < (n : Int)) = false := by simp; omega
  go_enter Tryd.func39, Tryd.ntmps39
  go_wp2
  go_ret
  exact ⟨rfl, rfl⟩
theorem lcheck_large (A : Option Addr) (n c : Nat) (w : World) (hn : 30 < n) (hm : n ≤ 9223372036854775807) :
    Calls Tryd.prog 39 #[.slice A n c] w fun e w' => e = .returned (.int .i64 2) ∧ w = w' := by
  go_enter Tryd.func39, Tryd.ntmps39
  go_wp2
  go_ret
  exact ⟨rfl, rfl⟩

set_option maxHeartbeats 800000 in
theorem mayUp (A : Option Addr) (n c b i j : Nat) (xs : List Int) (q : Bool) (w : World) (hb : w.cell? ⟨b, 0, none⟩ = some (.slice A n c)) (h : Ints w A n xs) (hi : i < n) (hj : j < n) (hq : upF xs i j = q) :
    Calls Tryd.prog 40 #[.int .i64 (i : Int), .int .i64 (j : Int), .pointer (some ⟨b, 0, none⟩)] w fun e w' => e = .returned (.bool q) ∧ ∃ m, w' = w.drewN m := by
  obtain ⟨g, o, rfl, hlt, hc⟩ := h.row (by omega)
  have g1 := hc i hi
  have g2 := hc j hj
  have hiI : (i : Int) < (n : Int) := by omega
  have hjI : (j : Int) < (n : Int) := by omega
  have HQ := hid hq
  unfold upF at HQ
  clear hq hc h
  generalize xs.getD i 0 = x at *
  generalize xs.getD j 0 = y at *
  go_enter Tryd.func40, Tryd.ntmps40
  go_wp2_with fail
  go_quiet (fail)
  go_wp2
  go_ret
  exact ⟨by rw [← HQ.out]; exact rfl, _, rfl⟩
set_option maxHeartbeats 800000 in
theorem mayDown (A : Option Addr) (n c b i j : Nat) (xs : List Int) (q : Bool) (w : World) (hb : w.cell? ⟨b, 0, none⟩ = some (.slice A n c)) (h : Ints w A n xs) (hi : i < n) (hj : j < n) (hq : downF xs i j = q) :
    Calls Tryd.prog 42 #[.int .i64 (i : Int), .int .i64 (j : Int), .pointer (some ⟨b, 0, none⟩)] w fun e w' => e = .returned (.bool q) ∧ ∃ m, w' = w.drewN m := by
  obtain ⟨g, o, rfl, hlt, hc⟩ := h.row (by omega)
  have g1 := hc i hi
  have g2 := hc j hj
  have hiI : (i : Int) < (n : Int) := by omega
  have hjI : (j : Int) < (n : Int) := by omega
  have HQ := hid hq
  unfold downF at HQ
  clear hq hc h
  generalize xs.getD i 0 = x at *
  generalize xs.getD j 0 = y at *
  go_enter Tryd.func42, Tryd.ntmps42
  go_wp2_with fail
  go_quiet (fail)
  go_wp2
  go_ret
  exact ⟨by rw [← HQ.out]; exact rfl, _, rfl⟩

end Go.Proofs.YtmdpfadfimodjaaDoor

/-
  lines.longest (P42), handed what rises and what doesn't.
-/
namespace Go.Proofs.YtmdpfadfimodjaaDoor
open Go.RowKit

/-- The world while longest reckons. -/
structure LW (w wr : World) (gn gl n : Nat) (ns ls : List Int) : Prop where
  an : Arr wr gn ns
  al : Arr wr gl ls
  ne : gn ≠ gl
  bn : w.heap.size ≤ gn
  bl : w.heap.size ≤ gl
  bel : Below w.heap.size w wr
  ln : ns.length = n
  ll : ls.length = n + 1
theorem LW.setN {w wr : World} {gn gl n : Nat} {ns ls : List Int} (h : LW w wr gn gl n ns ls) (i : Nat) (x : Int) : LW w (wr.setCell ⟨gn, i, none⟩ (.int .i64 x)) gn gl n (ns.set i x) ls :=
  ⟨h.an.set i x, h.al.setOther (fun e => h.ne e.symm) _, h.ne, h.bn, h.bl, below_one h.bel h.bn h.bel.size (one_set (one_refl _ _) _ _), by rw [List.length_set]; exact h.ln, h.ll⟩
theorem LW.setL {w wr : World} {gn gl n : Nat} {ns ls : List Int} (h : LW w wr gn gl n ns ls) (i : Nat) (x : Int) : LW w (wr.setCell ⟨gl, i, none⟩ (.int .i64 x)) gn gl n ns (ls.set i x) :=
  ⟨h.an.setOther (fun e => h.ne e) _, h.al.set i x, h.ne, h.bn, h.bl, below_one h.bel h.bl h.bel.size (one_set (one_refl _ _) _ _), h.ln, by rw [List.length_set]; exact h.ll⟩
theorem LW.drewN {w wr : World} {gn gl n : Nat} {ns ls : List Int} (h : LW w wr gn gl n ns ls) (k : Nat) : LW w (wr.drewN k) gn gl n ns ls :=
  ⟨h.an, h.al, h.ne, h.bn, h.bl, below_drewN h.bel k, h.ln, h.ll⟩
theorem LW.keep {w wr ws : World} {gn gl n : Nat} {ns ls : List Int} (h : LW w wr gn gl n ns ls) (hb : Below wr.heap.size wr ws) : LW w ws gn gl n ns ls :=
  ⟨h.an.keep hb, h.al.keep hb, h.ne, h.bn, h.bl, h.bel.trans (hb.mono h.bel.size), h.ln, h.ll⟩
/-- What the two lists hold from i on. -/
def LTab (f : Nat → Nat → Bool) (n i : Nat) (ns ls : List Int) : Prop := ls.getD n 0 = 0 ∧ ∀ j, i ≤ j → j < n → ∃ t m : Nat, ns.getD j 0 = (t : Int) ∧ ls.getD j 0 = ((m + 1 : Nat) : Int) ∧ ls.getD t 0 = (m : Int) ∧ t ≤ n ∧ Follows f n j t m
theorem getD_set_same {l : List Int} {i : Nat} (h : i < l.length) (x : Int) : (l.set i x).getD i 0 = x := by rw [getD_set, if_pos ⟨rfl, h⟩]
theorem getD_set_other {l : List Int} {i j : Nat} (h : j ≠ i) (x : Int) : (l.set i x).getD j 0 = l.getD j 0 := by rw [getD_set, if_neg (fun e => h e.1)]
theorem LTab.setN {f : Nat → Nat → Bool} {n i : Nat} {ns ls : List Int} (h : LTab f n (i + 1) ns ls) (x : Int) : LTab f n (i + 1) (ns.set i x) ls := by
  refine ⟨h.1, fun j h1 h2 => ?_⟩
  obtain ⟨t, m, k1, k2, k3, k4⟩ := h.2 j h1 h2
  exact ⟨t, m, by rw [getD_set_other (by omega)]; exact k1, k2, k3, k4⟩
theorem LTab.setL {f : Nat → Nat → Bool} {n i t m : Nat} {ns ls : List Int} (h : LTab f n (i + 1) ns ls) (hi : i < n) (hl : ls.length = n + 1) (ht : ns.getD i 0 = (t : Int)) (hm : ls.getD t 0 = (m : Int)) (htn : t ≤ n) (hti : i < t) (hF : Follows f n i t m) : LTab f n i ns (ls.set i ((m + 1 : Nat) : Int)) := by
  refine ⟨by rw [getD_set_other (by omega)]; exact h.1, fun j h1 h2 => ?_⟩
  by_cases e : j = i
  · subst e
    exact ⟨t, m, ht, getD_set_same (by omega) _, by rw [getD_set_other (by omega)]; exact hm, htn, hF⟩
  · obtain ⟨u, a, k1, k2, k3, k4, k5⟩ := h.2 j (by omega) h2
    have hu : j < u := by
      rcases k5.2 with ⟨h6, _⟩ | ⟨h6, _⟩ <;> omega
    exact ⟨u, a, k1, by rw [getD_set_other (by omega)]; exact k2, by rw [getD_set_other (by omega)]; exact k3, k4, k5⟩
theorem LW.drew {w wr : World} {gn gl n : Nat} {ns ls : List Int} (h : LW w wr gn gl n ns ls) : LW w wr.drew gn gl n ns ls := h.drewN 1
theorem LW.keepB {w wr ws : World} {gn gl n base : Nat} {ns ls : List Int} (h : LW w wr gn gl n ns ls) (h1 : gn < base) (h2 : gl < base) (h3 : w.heap.size ≤ base) (hb : Below base wr ws) : LW w ws gn gl n ns ls :=
  ⟨h.an.of_block (hb.block gn h1), h.al.of_block (hb.block gl h2), h.ne, h.bn, h.bl, h.bel.trans (hb.mono h3), h.ln, h.ll⟩
theorem made_two (w : World) (n m : Nat) (e : m = n + 1) : LW w ((w.alloc (.cells (madeCells #[.int .i64 0] n) 3)).alloc (.cells (madeCells #[.int .i64 0] m) 3)) w.heap.size (w.heap.size + 1) n (List.replicate n 0) (List.replicate (n + 1) 0) := by
  subst e
  have h2 := Arr.made (w.alloc (.cells (madeCells #[.int .i64 0] n) 3)) (n + 1)
  rw [show (w.alloc (.cells (madeCells #[.int .i64 0] n) 3)).heap.size = w.heap.size + 1 by simp] at h2
  exact ⟨(Arr.made w n).alloc _, h2, by omega, Nat.le_refl _, by omega, (((Below.refl _ _).alloc (Nat.le_refl _) _).alloc (by simp) _), by simp, by simp⟩
theorem made_two' (w : World) (n m : Nat) (e : m = n + 1) : LW w ((w.alloc (.cells (madeCells #[.int .i64 0] m) 3)).alloc (.cells (madeCells #[.int .i64 0] n) 3)) (w.heap.size + 1) w.heap.size n (List.replicate n 0) (List.replicate (n + 1) 0) := by
  subst e
  have h2 := Arr.made (w.alloc (.cells (madeCells #[.int .i64 0] (n + 1)) 3)) n
  rw [show (w.alloc (.cells (madeCells #[.int .i64 0] (n + 1)) 3)).heap.size = w.heap.size + 1 by simp] at h2
  exact ⟨h2, (Arr.made w (n + 1)).alloc _, by omega, by omega, Nat.le_refl _, (((Below.refl _ _).alloc (Nat.le_refl _) _).alloc (by simp) _), by simp, by simp⟩
/-- The outer loop. -/
structure LO (f : Nat → Nat → Bool) (w wr : World) (gn gl n k s m : Nat) (ns ls : List Int) : Prop where
  lw : LW w wr gn gl n ns ls
  tab : LTab f n k ns ls
  most : Most f n k s m
  at' : ls.getD s 0 = (m : Int)
  sn : s ≤ n
  mn : m ≤ n
/-- The inner loop. -/
structure LI (f : Nat → Nat → Bool) (w wr : World) (gn gl n i j t m s sm : Nat) (ns ls : List Int) : Prop where
  lw : LW w wr gn gl n ns ls
  tab : LTab f n (i + 1) ns ls
  best : Best f n i j t m
  at1 : ns.getD i 0 = (t : Int)
  at2 : ls.getD t 0 = (m : Int)
  it : i < t
  tn : t ≤ n
  most : Most f n (i + 1) s sm
  at' : ls.getD s 0 = (sm : Int)
  sn : s ≤ n
  is : i < s
  mn : sm ≤ n
theorem LO.start {f : Nat → Nat → Bool} {w wr : World} {gn gl n : Nat} (h : LW w wr gn gl n (List.replicate n 0) (List.replicate (n + 1) 0)) : LO f w wr gn gl n n n 0 (List.replicate n 0) (List.replicate (n + 1) 0) :=
  ⟨h, ⟨by simp [List.getD_eq_getElem?_getD], fun j h1 h2 => absurd h2 (by omega)⟩, most_nil f n, by simp [List.getD_eq_getElem?_getD], Nat.le_refl _, Nat.zero_le _⟩
theorem most_lt {f : Nat → Nat → Bool} {n i s m : Nat} (h : Most f n (i + 1) s m) (hi : i < n) : i < s := by
  rcases h.1 with ⟨h1, _⟩ | ⟨h1, _⟩ <;> omega
theorem LO.into {f : Nat → Nat → Bool} {w wr : World} {gn gl n i s m : Nat} {ns ls : List Int} (h : LO f w wr gn gl n (i + 1) s m ns ls) (hi : i < n) :
    LI f w (wr.setCell ⟨gn, i, none⟩ (.int .i64 (n : Int))) gn gl n i (i + 1) n 0 s m (ns.set i (n : Int)) ls :=
  ⟨h.lw.setN i _, h.tab.setN _, best_nil f n i, getD_set_same (by rw [h.lw.ln]; exact hi) _, h.tab.1, hi, Nat.le_refl _, h.most, h.at', h.sn, most_lt h.most hi, h.mn⟩
theorem LI.drewN {f : Nat → Nat → Bool} {w wr : World} {gn gl n i j t m s sm : Nat} {ns ls : List Int} (h : LI f w wr gn gl n i j t m s sm ns ls) (k : Nat) : LI f w (wr.drewN k) gn gl n i j t m s sm ns ls :=
  ⟨h.lw.drewN k, h.tab, h.best, h.at1, h.at2, h.it, h.tn, h.most, h.at', h.sn, h.is, h.mn⟩
theorem LI.at3 {f : Nat → Nat → Bool} {w wr : World} {gn gl n i j t m s sm : Nat} {ns ls : List Int} (h : LI f w wr gn gl n i j t m s sm ns ls) (hij : i < j) (hj : j < n) : ∃ a : Nat, ls.getD j 0 = ((a + 1 : Nat) : Int) ∧ Far f n j (a + 1) := by
  obtain ⟨t, a, _, h1, _, _, h2, _⟩ := h.tab.2 j hij hj
  exact ⟨a, h1, h2⟩
theorem LI.no {f : Nat → Nat → Bool} {w wr : World} {gn gl n i j t m s sm : Nat} {ns ls : List Int} (h : LI f w wr gn gl n i j t m s sm ns ls) (hf : f i j = false) : LI f w wr gn gl n i (j + 1) t m s sm ns ls :=
  ⟨h.lw, h.tab, best_no h.best hf, h.at1, h.at2, h.it, h.tn, h.most, h.at', h.sn, h.is, h.mn⟩
theorem LI.old {f : Nat → Nat → Bool} {w wr : World} {gn gl n i j t m s sm a : Nat} {ns ls : List Int} (h : LI f w wr gn gl n i j t m s sm ns ls) (ha : Far f n j a) (hle : a ≤ m) : LI f w wr gn gl n i (j + 1) t m s sm ns ls :=
  ⟨h.lw, h.tab, best_old h.best ha hle, h.at1, h.at2, h.it, h.tn, h.most, h.at', h.sn, h.is, h.mn⟩
theorem LI.new {f : Nat → Nat → Bool} {w wr : World} {gn gl n i j t m s sm a : Nat} {ns ls : List Int} (h : LI f w wr gn gl n i j t m s sm ns ls) (hij : i < j) (hjn : j < n) (hf : f i j = true) (ha : Far f n j a) (hl : ls.getD j 0 = (a : Int)) (hle : m ≤ a) :
    LI f w (wr.setCell ⟨gn, i, none⟩ (.int .i64 (j : Int))) gn gl n i (j + 1) j a s sm (ns.set i (j : Int)) ls :=
  ⟨h.lw.setN i _, h.tab.setN _, best_new h.best hij hf ha hle, getD_set_same (by rw [h.lw.ln]; omega) _, hl, hij, Nat.le_of_lt hjn, h.most, h.at', h.sn, h.is, h.mn⟩
theorem LI.far {f : Nat → Nat → Bool} {w wr : World} {gn gl n i t m s sm : Nat} {ns ls : List Int} (h : LI f w wr gn gl n i n t m s sm ns ls) (hi : i < n) : Far f n i (m + 1) := far_of_best hi h.best
theorem LI.done {f : Nat → Nat → Bool} {w wr : World} {gn gl n i t m s sm : Nat} {ns ls : List Int} (h : LI f w wr gn gl n i n t m s sm ns ls) (hi : i < n) (hle : m + 1 ≤ sm) :
    LO f w (wr.setCell ⟨gl, i, none⟩ (.int .i64 ((m + 1 : Nat) : Int))) gn gl n i s sm ns (ls.set i ((m + 1 : Nat) : Int)) :=
  ⟨h.lw.setL i _, h.tab.setL hi h.lw.ll h.at1 h.at2 h.tn h.it (follows_of_best hi h.best), most_old h.most (h.far hi) hle, by rw [getD_set_other (by have := h.is; omega)]; exact h.at', h.sn, h.mn⟩
theorem LI.done' {f : Nat → Nat → Bool} {w wr : World} {gn gl n i t m s sm : Nat} {ns ls : List Int} (h : LI f w wr gn gl n i n t m s sm ns ls) (hi : i < n) (hle : sm ≤ m + 1) :
    LO f w (wr.setCell ⟨gl, i, none⟩ (.int .i64 ((m + 1 : Nat) : Int))) gn gl n i i (m + 1) ns (ls.set i ((m + 1 : Nat) : Int)) :=
  ⟨h.lw.setL i _, h.tab.setL hi h.lw.ll h.at1 h.at2 h.tn h.it (follows_of_best hi h.best), most_new h.most (h.far hi) hle, getD_set_same (by rw [h.lw.ll]; omega) _, Nat.le_of_lt hi, by have := (h.far hi).le; omega⟩
theorem LO.drewN {f : Nat → Nat → Bool} {w wr : World} {gn gl n k s m : Nat} {ns ls : List Int} (h : LO f w wr gn gl n k s m ns ls) (q : Nat) : LO f w (wr.drewN q) gn gl n k s m ns ls :=
  ⟨h.lw.drewN q, h.tab, h.most, h.at', h.sn, h.mn⟩
theorem run_makeL (m : Nat) (hm : m ≤ 1000000) (W : World) :
    (Instr.makeSlice 22 (.int .i64 0) (.int .i64 (m : Int))).run Tryd.prog W = .ok (.slice (some ⟨W.heap.size, 0, none⟩) 0 m) (W.alloc (.cells (madeCells #[.int .i64 0] m) 3)) := by
  obtain ⟨i0, hi, hz0, hz1, hz2⟩ := info_parts infoInt
  have := run_make (P := Tryd.prog) W 22 3 i0 (.int .i64 0) Tryd.underlying22 hi hz0 .i64 .i64 0 (m : Int) (by omega) (by omega) (by rw [hz2]; omega) (by omega)
  rw [this, hz1, show ((m : Int)).toNat = m by omega]
  simp [Value.cells]
theorem madeL_own (W : World) (m : Nat) (hm : m ≤ 1000000) : OwnInts (W.alloc (.cells (madeCells #[.int .i64 0] m) 3)) W.heap.size (.slice (some ⟨W.heap.size, 0, none⟩) 0 m) [] :=
  World.ownsRow_made W _ m (Nat.le_refl _) (by unfold maxLen; omega) (by rw [size_madeCells, Nat.mul_one])
/-- A longest row of places, as numbers. -/
def Goes (f : Nat → Nat → Bool) (n : Nat) (ys : List Int) : Prop := ∃ c : List Nat, ys = c.map (fun i : Nat => (i : Int)) ∧ IsLongest f n c

set_option maxHeartbeats 3000000 in
theorem longest_up (A : Option Addr) (n c b : Nat) (xs : List Int) (w : World) (hb : w.cell? ⟨b, 0, none⟩ = some (.slice A n c)) (hbl : b < w.heap.size) (h : Ints w A n xs) (hn : n ≤ 30) :
    Calls Tryd.prog 41 #[.int .i64 (n : Int), .func (.func 40) #[] #[.pointer (some ⟨b, 0, none⟩)]] w fun e w' => ∃ v ys, e = .returned v ∧ OwnInts w' w.heap.size v ys ∧ Below w.heap.size w w' ∧ Goes (upF xs) n ys := by
  obtain ⟨N, hN⟩ : ∃ N, N = n + 1 := ⟨_, rfl⟩
  have hnN : (n : Int) + 1 = (N : Int) := by omega
  have hwN : IntKind.i64.wrap (N : Int) = (N : Int) := IntWalk.i64_in _ (by omega)
  have hmk : ∀ W : World, (Instr.makeSlice 22 (.int .i64 (n : Int)) (.int .i64 (n : Int))).run Tryd.prog W = .ok (.slice (some ⟨W.heap.size, 0, none⟩) n n) (W.alloc (.cells (madeCells #[.int .i64 0] n) 3)) :=
    fun W => run_make_row' (P := Tryd.prog) 22 3 (.int .i64 0) 8 Tryd.underlying22 infoInt rfl .i64 .i64 n (by omega) (by omega) W
  have hmk2 : ∀ W : World, (Instr.makeSlice 22 (.int .i64 (N : Int)) (.int .i64 (N : Int))).run Tryd.prog W = .ok (.slice (some ⟨W.heap.size, 0, none⟩) N N) (W.alloc (.cells (madeCells #[.int .i64 0] N) 3)) :=
    fun W => run_make_row' (P := Tryd.prog) 22 3 (.int .i64 0) 8 Tryd.underlying22 infoInt rfl .i64 .i64 N (by omega) (by omega) W
  have HB0 := hid hb
  have HI := hid h
  have HNN := hid hN
  obtain ⟨f, hf⟩ : ∃ f, f = upF xs := ⟨_, rfl⟩
  rw [← hf]
  have HF := hid hf
  clear hb h hf hN
  go_enter Tryd.func41, Tryd.ntmps41
  go_upto_region 1 with fail
  go_cut [5, 6] from 12 to 16 (fun s5 s6 wx => ∃ gn gl, s5 = .slice (some ⟨gn, 0, none⟩) n n ∧ s6 = .slice (some ⟨gl, 0, none⟩) N N ∧ LW w wx gn gl n (List.replicate n 0) (List.replicate (n + 1) 0))
  case first =>
    go_wp2_with fail
    go_region
    · go_wp2
      go_meet
      exact ⟨_, _, rfl, rfl, (made_two w n N HNN.out).drew⟩
    · go_wp2
      go_meet
      exact ⟨_, _, rfl, rfl, (made_two' w n N HNN.out).drew⟩
  case rest =>
    obtain ⟨gn, gl, rfl, rfl, hlw⟩ := hcut
    have HS := hid (LO.start (f := f) hlw)
    have HGE := hid (⟨hlw.bn, hlw.bl⟩ : w.heap.size ≤ gn ∧ w.heap.size ≤ gl)
    clear hlw hmk hmk2 hwN
    generalize List.replicate n (0 : Int) = ns0 at HS
    generalize List.replicate (n + 1) (0 : Int) = ls0 at HS
    go_wp2_with fail
    go_loopg [7, 8] n (fun g sv iv wr => ∃ (k s m : Nat) (z : Int) (ns ls : List Int), k ≤ n ∧ k ≤ g ∧ sv = .int .i64 (s : Int) ∧ iv = .int .i64 z ∧ z = (k : Int) - 1 ∧ LO f w wr gn gl n k s m ns ls)
    case atStart => exact ⟨n, n, 0, _, _, _, Nat.le_refl _, Nat.le_refl _, rfl, rfl, by go_num, HS.out⟩
    case round =>
      clear HS
      obtain ⟨k, s, m, z, ns, ls, hk, hg, rfl, rfl, hz, hlo⟩ := hrel
      have HO := hid hlo
      have hsn := hlo.sn
      have hmn := hlo.mn
      clear hlo
      by_cases hk0 : 0 < k
      · obtain ⟨i, rfl⟩ : ∃ i, k = i + 1 := ⟨k - 1, by omega⟩
        obtain rfl : z = (i : Int) := by omega
        have hin : i < n := by omega
        have hiI : (i : Int) < (n : Int) := by omega
        have hiN : (i : Int) < (N : Int) := by omega
        have g1 := HO.out.lw.an.cell (j := i) (by rw [HO.out.lw.ln]; exact hin)
        have f1 := HO.out.lw.an.frozen i
        have HI1 := hid (HO.out.into hin)
        clear hz HO
        generalize ns.getD i 0 = y1 at g1
        go_wp2_with fail
        obtain ⟨w8, hw8⟩ : ∃ w8, w8 = wr.setCell ⟨gn, i, none⟩ (.int .i64 (n : Int)) := ⟨_, rfl⟩
        rw [← hw8] at HI1 ⊢
        generalize ns.set i (n : Int) = ns8 at HI1
        clear hw8 g1 f1
        go_loopg [9] n (fun g jv wq => ∃ (j t m' : Nat) (ns' : List Int), j ≤ n ∧ i < j ∧ n - j ≤ g ∧ jv = .int .i64 (j : Int) ∧ LI f w wq gn gl n i j t m' s m ns' ls)
        case atStart => exact ⟨i + 1, n, 0, _, by omega, by omega, by omega, by go_num, HI1.out⟩
        case round =>
          clear HI1
          obtain ⟨j, t, m1, ns1, hjn, hij, hg2, rfl, hli⟩ := hrel
          have HL := hid hli
          have htn := hli.tn
          have g1 := hli.lw.an.cell (j := i) (by rw [hli.lw.ln]; exact hin)
          have g2 := hli.lw.al.cell (j := t) (by rw [hli.lw.ll]; omega)
          rw [hli.at1] at g1
          rw [hli.at2] at g2
          have f1 := hli.lw.an.frozen i
          have f2 := hli.lw.al.frozen i
          have g3 := hli.lw.al.cell (j := i) (by rw [hli.lw.ll]; omega)
          have htN : (t : Int) < (N : Int) := by omega
          clear hli
          by_cases hlt : j < n
          · obtain ⟨a, hla, hfa⟩ := HL.out.at3 hij hlt
            have g4 := HL.out.lw.al.cell (j := j) (by rw [HL.out.lw.ll]; omega)
            rw [hla] at g4
            have HLA := hid hla
            have HFA := hid hfa
            have hjN : (j : Int) < (N : Int) := by omega
            have HC : Hid (wr.cell? ⟨b, 0, none⟩ = some (.slice A n c)) := (HL.out.lw.bel.cell (p := ⟨b, 0, none⟩) hbl).trans HB0.out
            have HIX := hid (HI.out.keep HL.out.lw.bel)
            clear hla hfa g3
            rcases hq : upF xs i j with _ | _
            · have HQ := hid hq
              have HQ2 : Hid (f i j = false) := by rw [HF.out]; exact hq
              clear hq
              go_wp2_with fail
              go_quiet ((go_at_call 40; exact Calls.quiet_of (mayUp A n c b i j xs false _ HC.out (HIX.out.drewN _) hin hlt HQ.out)))
              go_wp2
              go_roundg (n - (j + 1))
              case measure => omega
              case rel => exact ⟨j + 1, t, m1, _, by omega, by omega, by omega, by go_num, (HL.out.drewN _).no HQ2.out⟩
            · have HQ := hid hq
              have HQ2 : Hid (f i j = true) := by rw [HF.out]; exact hq
              clear hq
              by_cases hm : a + 1 ≤ m1
              · have hd : decide ((m1 : Int) < ((a + 1 : Nat) : Int)) = false := decide_eq_false (by omega)
                go_wp2_with fail
                go_quiet ((go_at_call 40; exact Calls.quiet_of (mayUp A n c b i j xs true _ HC.out (HIX.out.drewN _) hin hlt HQ.out)))
                go_wp2
                go_roundg (n - (j + 1))
                case measure => omega
                case rel => exact ⟨j + 1, t, m1, _, by omega, by omega, by omega, by go_num, (HL.out.drewN _).old HFA.out hm⟩
              · have hd : decide ((m1 : Int) < ((a + 1 : Nat) : Int)) = true := decide_eq_true (by omega)
                go_wp2_with fail
                go_quiet ((go_at_call 40; exact Calls.quiet_of (mayUp A n c b i j xs true _ HC.out (HIX.out.drewN _) hin hlt HQ.out)))
                go_wp2
                go_roundg (n - (j + 1))
                case measure => omega
                case rel => exact ⟨j + 1, j, a + 1, _, by omega, by omega, by omega, by go_num, (HL.out.drewN _).new hij hlt HQ2.out HFA.out HLA.out (by omega)⟩
          · obtain rfl : j = n := by omega
            have HSN := HL.out.lw.al
            have h5 := (HL.out.lw.setL i ((m1 : Int) + 1)).al.cell (j := i) (by rw [(HL.out.lw.setL i ((m1 : Int) + 1)).ll]; omega)
            have h6 := (HL.out.lw.setL i ((m1 : Int) + 1)).al.cell (j := s) (by rw [(HL.out.lw.setL i ((m1 : Int) + 1)).ll]; omega)
            rw [getD_set_same (by rw [HL.out.lw.ll]; omega)] at h5
            rw [getD_set_other (by have := HL.out.is; omega), HL.out.at'] at h6
            have hm1n : m1 + 1 ≤ j := by have := (HL.out.far hin).le; omega
            have hsN : (s : Int) < (N : Int) := by omega
            clear HSN
            generalize ls.getD i 0 = y2 at g3
            by_cases hle : m1 + 1 ≤ m
            · have hd : decide ((m : Int) < (m1 : Int) + 1) = false := decide_eq_false (by omega)
              have HD := hid ((HL.out.done hin hle).drewN)
              go_wp2_with fail
              go_quiet (fail)
              go_wp2
              go_roundg i
              case measure => omega
              case rel => exact ⟨i, s, m, _, _, _, by omega, by omega, rfl, rfl, by go_num, HD.out _⟩
            · have hd : decide ((m : Int) < (m1 : Int) + 1) = true := decide_eq_true (by omega)
              have HD := hid ((HL.out.done' hin (by omega)).drewN)
              go_wp2_with fail
              go_quiet (fail)
              go_wp2
              go_roundg i
              case measure => omega
              case rel => exact ⟨i, i, m1 + 1, _, _, _, by omega, by omega, rfl, rfl, by go_num, HD.out _⟩
      · obtain rfl : k = 0 := by omega
        obtain rfl : z = -1 := by omega
        clear hz hg
        have HT := hid HO.out.tab
        have HM := hid HO.out.most
        have HLW := hid HO.out.lw
        have g1 := HO.out.lw.al.cell (j := s) (by rw [HO.out.lw.ll]; omega)
        rw [HO.out.at'] at g1
        have hsN : (s : Int) < (N : Int) := by omega
        have hmk3 := run_makeL m (by omega)
        have HO3 := hid (madeL_own wr m (by omega))
        have HL3 := hid (HLW.out.keep (below_alloc wr (.cells (madeCells #[.int .i64 0] m) 3)))
        have HTK := hid (taken_start HM.out)
        have HLL := hid (longest_of_most HM.out)
        have HBS : Hid (w.heap.size ≤ wr.heap.size ∧ gn < wr.heap.size ∧ gl < wr.heap.size) := ⟨HLW.out.bel.size, HLW.out.an.lt, HLW.out.al.lt⟩
        have HBA : Hid (wr.heap.size ≤ (wr.alloc (.cells (madeCells #[.int .i64 0] m) 3)).heap.size) := (below_alloc wr _).size
        clear HO HLW HM
        go_wp2_with fail
        generalize wr.heap.size = bs at *
        go_loopg [10, 11] m (fun g lv iv wq => ∃ (i a : Nat) (cs : List Nat), i ≤ n ∧ a ≤ g ∧ iv = .int .i64 (i : Int) ∧ OwnInts wq bs lv (cs.map (fun i : Nat => (i : Int))) ∧ LW w wq gn gl n ns ls ∧ Taken f n cs i a ∧ cs.length + a = m ∧ bs ≤ wq.heap.size)
        case atStart => exact ⟨s, m, [], hsn, Nat.le_refl _, rfl, HO3.out, HL3.out, HTK.out, by simp, HBA.out⟩
        case round =>
          clear HO3 HL3 HTK HBA hmk3 g1
          rename_i lv
          obtain ⟨i, a, cs, hi, hg, rfl, hown, hlw, htk, hlen, hbs⟩ := hrel
          have HO := hid hown
          have HL := hid hlw
          have HK := hid htk
          have HLN := hid hlen
          have HBQ := hid hbs
          clear hown hlw htk hlen hbs
          by_cases hlt : i < n
          · obtain ⟨t, m2, h1, _, _, h2, h3⟩ := HT.out.2 i (Nat.zero_le _) hlt
            obtain ⟨h4, h5⟩ := taken_step HK.out hlt h3
            have H1 := hid h1
            have H4 := hid h4
            subst h5
            clear h1 h3 h4
            go_wp2_with (at_builtin; refine wpList_app1 _ rfl (.tmp 91) (.tmp 93) rfl bs _ _ (i : Int) rfl rfl HO.out (by rw [List.length_map]; have := HLN.out; omega) HBQ.out ?_)
            intro v' w1 hown1 _ hbel1
            have HO1 : Hid (OwnInts w1 bs v' ((cs ++ [i]).map (fun i : Nat => (i : Int)))) := by rw [List.map_append]; exact hown1
            have HL1 := hid (HL.out.keepB HBS.out.2.1 HBS.out.2.2 HBS.out.1 hbel1)
            have HB1 : Hid (bs ≤ w1.heap.size) := Nat.le_trans HBQ.out hbel1.size
            have g1 := HL1.out.an.cell (j := i) (by rw [HL1.out.ln]; exact hlt)
            rw [H1.out] at g1
            have hiI : (i : Int) < (n : Int) := by omega
            clear hown1 hbel1 HO HL HK HBQ
            go_wp2
            go_roundg m2
            case measure => omega
            case rel => exact ⟨t, m2, cs ++ [i], h2, by omega, rfl, HO1.out, HL1.out, H4.out, by have := HLN.out; rw [List.length_append]; simp; omega, HB1.out⟩
          · obtain rfl : i = n := by omega
            obtain ⟨h1, rfl⟩ := taken_end HK.out
            have HLC : Hid (IsLongest f i cs) := ⟨h1, by have e : cs.length = m := HLN.out; rw [e]; exact HLL.out⟩
            clear h1
            go_wp2
            go_ret
            exact ⟨_, _, rfl, HO.out.mono HBS.out.1, HL.out.bel, cs, rfl, HLC.out⟩
set_option maxHeartbeats 3000000 in
theorem longest_down (A : Option Addr) (n c b : Nat) (xs : List Int) (w : World) (hb : w.cell? ⟨b, 0, none⟩ = some (.slice A n c)) (hbl : b < w.heap.size) (h : Ints w A n xs) (hn : n ≤ 30) :
    Calls Tryd.prog 41 #[.int .i64 (n : Int), .func (.func 42) #[] #[.pointer (some ⟨b, 0, none⟩)]] w fun e w' => ∃ v ys, e = .returned v ∧ OwnInts w' w.heap.size v ys ∧ Below w.heap.size w w' ∧ Goes (downF xs) n ys := by
  obtain ⟨N, hN⟩ : ∃ N, N = n + 1 := ⟨_, rfl⟩
  have hnN : (n : Int) + 1 = (N : Int) := by omega
  have hwN : IntKind.i64.wrap (N : Int) = (N : Int) := IntWalk.i64_in _ (by omega)
  have hmk : ∀ W : World, (Instr.makeSlice 22 (.int .i64 (n : Int)) (.int .i64 (n : Int))).run Tryd.prog W = .ok (.slice (some ⟨W.heap.size, 0, none⟩) n n) (W.alloc (.cells (madeCells #[.int .i64 0] n) 3)) :=
    fun W => run_make_row' (P := Tryd.prog) 22 3 (.int .i64 0) 8 Tryd.underlying22 infoInt rfl .i64 .i64 n (by omega) (by omega) W
  have hmk2 : ∀ W : World, (Instr.makeSlice 22 (.int .i64 (N : Int)) (.int .i64 (N : Int))).run Tryd.prog W = .ok (.slice (some ⟨W.heap.size, 0, none⟩) N N) (W.alloc (.cells (madeCells #[.int .i64 0] N) 3)) :=
    fun W => run_make_row' (P := Tryd.prog) 22 3 (.int .i64 0) 8 Tryd.underlying22 infoInt rfl .i64 .i64 N (by omega) (by omega) W
  have HB0 := hid hb
  have HI := hid h
  have HNN := hid hN
  obtain ⟨f, hf⟩ : ∃ f, f = downF xs := ⟨_, rfl⟩
  rw [← hf]
  have HF := hid hf
  clear hb h hf hN
  go_enter Tryd.func41, Tryd.ntmps41
  go_upto_region 1 with fail
  go_cut [5, 6] from 12 to 16 (fun s5 s6 wx => ∃ gn gl, s5 = .slice (some ⟨gn, 0, none⟩) n n ∧ s6 = .slice (some ⟨gl, 0, none⟩) N N ∧ LW w wx gn gl n (List.replicate n 0) (List.replicate (n + 1) 0))
  case first =>
    go_wp2_with fail
    go_region
    · go_wp2
      go_meet
      exact ⟨_, _, rfl, rfl, (made_two w n N HNN.out).drew⟩
    · go_wp2
      go_meet
      exact ⟨_, _, rfl, rfl, (made_two' w n N HNN.out).drew⟩
  case rest =>
    obtain ⟨gn, gl, rfl, rfl, hlw⟩ := hcut
    have HS := hid (LO.start (f := f) hlw)
    have HGE := hid (⟨hlw.bn, hlw.bl⟩ : w.heap.size ≤ gn ∧ w.heap.size ≤ gl)
    clear hlw hmk hmk2 hwN
    generalize List.replicate n (0 : Int) = ns0 at HS
    generalize List.replicate (n + 1) (0 : Int) = ls0 at HS
    go_wp2_with fail
    go_loopg [7, 8] n (fun g sv iv wr => ∃ (k s m : Nat) (z : Int) (ns ls : List Int), k ≤ n ∧ k ≤ g ∧ sv = .int .i64 (s : Int) ∧ iv = .int .i64 z ∧ z = (k : Int) - 1 ∧ LO f w wr gn gl n k s m ns ls)
    case atStart => exact ⟨n, n, 0, _, _, _, Nat.le_refl _, Nat.le_refl _, rfl, rfl, by go_num, HS.out⟩
    case round =>
      clear HS
      obtain ⟨k, s, m, z, ns, ls, hk, hg, rfl, rfl, hz, hlo⟩ := hrel
      have HO := hid hlo
      have hsn := hlo.sn
      have hmn := hlo.mn
      clear hlo
      by_cases hk0 : 0 < k
      · obtain ⟨i, rfl⟩ : ∃ i, k = i + 1 := ⟨k - 1, by omega⟩
        obtain rfl : z = (i : Int) := by omega
        have hin : i < n := by omega
        have hiI : (i : Int) < (n : Int) := by omega
        have hiN : (i : Int) < (N : Int) := by omega
        have g1 := HO.out.lw.an.cell (j := i) (by rw [HO.out.lw.ln]; exact hin)
        have f1 := HO.out.lw.an.frozen i
        have HI1 := hid (HO.out.into hin)
        clear hz HO
        generalize ns.getD i 0 = y1 at g1
        go_wp2_with fail
        obtain ⟨w8, hw8⟩ : ∃ w8, w8 = wr.setCell ⟨gn, i, none⟩ (.int .i64 (n : Int)) := ⟨_, rfl⟩
        rw [← hw8] at HI1 ⊢
        generalize ns.set i (n : Int) = ns8 at HI1
        clear hw8 g1 f1
        go_loopg [9] n (fun g jv wq => ∃ (j t m' : Nat) (ns' : List Int), j ≤ n ∧ i < j ∧ n - j ≤ g ∧ jv = .int .i64 (j : Int) ∧ LI f w wq gn gl n i j t m' s m ns' ls)
        case atStart => exact ⟨i + 1, n, 0, _, by omega, by omega, by omega, by go_num, HI1.out⟩
        case round =>
          clear HI1
          obtain ⟨j, t, m1, ns1, hjn, hij, hg2, rfl, hli⟩ := hrel
          have HL := hid hli
          have htn := hli.tn
          have g1 := hli.lw.an.cell (j := i) (by rw [hli.lw.ln]; exact hin)
          have g2 := hli.lw.al.cell (j := t) (by rw [hli.lw.ll]; omega)
          rw [hli.at1] at g1
          rw [hli.at2] at g2
          have f1 := hli.lw.an.frozen i
          have f2 := hli.lw.al.frozen i
          have g3 := hli.lw.al.cell (j := i) (by rw [hli.lw.ll]; omega)
          have htN : (t : Int) < (N : Int) := by omega
          clear hli
          by_cases hlt : j < n
          · obtain ⟨a, hla, hfa⟩ := HL.out.at3 hij hlt
            have g4 := HL.out.lw.al.cell (j := j) (by rw [HL.out.lw.ll]; omega)
            rw [hla] at g4
            have HLA := hid hla
            have HFA := hid hfa
            have hjN : (j : Int) < (N : Int) := by omega
            have HC : Hid (wr.cell? ⟨b, 0, none⟩ = some (.slice A n c)) := (HL.out.lw.bel.cell (p := ⟨b, 0, none⟩) hbl).trans HB0.out
            have HIX := hid (HI.out.keep HL.out.lw.bel)
            clear hla hfa g3
            rcases hq : downF xs i j with _ | _
            · have HQ := hid hq
              have HQ2 : Hid (f i j = false) := by rw [HF.out]; exact hq
              clear hq
              go_wp2_with fail
              go_quiet ((go_at_call 42; exact Calls.quiet_of (mayDown A n c b i j xs false _ HC.out (HIX.out.drewN _) hin hlt HQ.out)))
              go_wp2
              go_roundg (n - (j + 1))
              case measure => omega
              case rel => exact ⟨j + 1, t, m1, _, by omega, by omega, by omega, by go_num, (HL.out.drewN _).no HQ2.out⟩
            · have HQ := hid hq
              have HQ2 : Hid (f i j = true) := by rw [HF.out]; exact hq
              clear hq
              by_cases hm : a + 1 ≤ m1
              · have hd : decide ((m1 : Int) < ((a + 1 : Nat) : Int)) = false := decide_eq_false (by omega)
                go_wp2_with fail
                go_quiet ((go_at_call 42; exact Calls.quiet_of (mayDown A n c b i j xs true _ HC.out (HIX.out.drewN _) hin hlt HQ.out)))
                go_wp2
                go_roundg (n - (j + 1))
                case measure => omega
                case rel => exact ⟨j + 1, t, m1, _, by omega, by omega, by omega, by go_num, (HL.out.drewN _).old HFA.out hm⟩
              · have hd : decide ((m1 : Int) < ((a + 1 : Nat) : Int)) = true := decide_eq_true (by omega)
                go_wp2_with fail
                go_quiet ((go_at_call 42; exact Calls.quiet_of (mayDown A n c b i j xs true _ HC.out (HIX.out.drewN _) hin hlt HQ.out)))
                go_wp2
                go_roundg (n - (j + 1))
                case measure => omega
                case rel => exact ⟨j + 1, j, a + 1, _, by omega, by omega, by omega, by go_num, (HL.out.drewN _).new hij hlt HQ2.out HFA.out HLA.out (by omega)⟩
          · obtain rfl : j = n := by omega
            have HSN := HL.out.lw.al
            have h5 := (HL.out.lw.setL i ((m1 : Int) + 1)).al.cell (j := i) (by rw [(HL.out.lw.setL i ((m1 : Int) + 1)).ll]; omega)
            have h6 := (HL.out.lw.setL i ((m1 : Int) + 1)).al.cell (j := s) (by rw [(HL.out.lw.setL i ((m1 : Int) + 1)).ll]; omega)
            rw [getD_set_same (by rw [HL.out.lw.ll]; omega)] at h5
            rw [getD_set_other (by have := HL.out.is; omega), HL.out.at'] at h6
            have hm1n : m1 + 1 ≤ j := by have := (HL.out.far hin).le; omega
            have hsN : (s : Int) < (N : Int) := by omega
            clear HSN
            generalize ls.getD i 0 = y2 at g3
            by_cases hle : m1 + 1 ≤ m
            · have hd : decide ((m : Int) < (m1 : Int) + 1) = false := decide_eq_false (by omega)
              have HD := hid ((HL.out.done hin hle).drewN)
              go_wp2_with fail
              go_quiet (fail)
              go_wp2
              go_roundg i
              case measure => omega
              case rel => exact ⟨i, s, m, _, _, _, by omega, by omega, rfl, rfl, by go_num, HD.out _⟩
            · have hd : decide ((m : Int) < (m1 : Int) + 1) = true := decide_eq_true (by omega)
              have HD := hid ((HL.out.done' hin (by omega)).drewN)
              go_wp2_with fail
              go_quiet (fail)
              go_wp2
              go_roundg i
              case measure => omega
              case rel => exact ⟨i, i, m1 + 1, _, _, _, by omega, by omega, rfl, rfl, by go_num, HD.out _⟩
      · obtain rfl : k = 0 := by omega
        obtain rfl : z = -1 := by omega
        clear hz hg
        have HT := hid HO.out.tab
        have HM := hid HO.out.most
        have HLW := hid HO.out.lw
        have g1 := HO.out.lw.al.cell (j := s) (by rw [HO.out.lw.ll]; omega)
        rw [HO.out.at'] at g1
        have hsN : (s : Int) < (N : Int) := by omega
        have hmk3 := run_makeL m (by omega)
        have HO3 := hid (madeL_own wr m (by omega))
        have HL3 := hid (HLW.out.keep (below_alloc wr (.cells (madeCells #[.int .i64 0] m) 3)))
        have HTK := hid (taken_start HM.out)
        have HLL := hid (longest_of_most HM.out)
        have HBS : Hid (w.heap.size ≤ wr.heap.size ∧ gn < wr.heap.size ∧ gl < wr.heap.size) := ⟨HLW.out.bel.size, HLW.out.an.lt, HLW.out.al.lt⟩
        have HBA : Hid (wr.heap.size ≤ (wr.alloc (.cells (madeCells #[.int .i64 0] m) 3)).heap.size) := (below_alloc wr _).size
        clear HO HLW HM
        go_wp2_with fail
        generalize wr.heap.size = bs at *
        go_loopg [10, 11] m (fun g lv iv wq => ∃ (i a : Nat) (cs : List Nat), i ≤ n ∧ a ≤ g ∧ iv = .int .i64 (i : Int) ∧ OwnInts wq bs lv (cs.map (fun i : Nat => (i : Int))) ∧ LW w wq gn gl n ns ls ∧ Taken f n cs i a ∧ cs.length + a = m ∧ bs ≤ wq.heap.size)
        case atStart => exact ⟨s, m, [], hsn, Nat.le_refl _, rfl, HO3.out, HL3.out, HTK.out, by simp, HBA.out⟩
        case round =>
          clear HO3 HL3 HTK HBA hmk3 g1
          rename_i lv
          obtain ⟨i, a, cs, hi, hg, rfl, hown, hlw, htk, hlen, hbs⟩ := hrel
          have HO := hid hown
          have HL := hid hlw
          have HK := hid htk
          have HLN := hid hlen
          have HBQ := hid hbs
          clear hown hlw htk hlen hbs
          by_cases hlt : i < n
          · obtain ⟨t, m2, h1, _, _, h2, h3⟩ := HT.out.2 i (Nat.zero_le _) hlt
            obtain ⟨h4, h5⟩ := taken_step HK.out hlt h3
            have H1 := hid h1
            have H4 := hid h4
            subst h5
            clear h1 h3 h4
            go_wp2_with (at_builtin; refine wpList_app1 _ rfl (.tmp 91) (.tmp 93) rfl bs _ _ (i : Int) rfl rfl HO.out (by rw [List.length_map]; have := HLN.out; omega) HBQ.out ?_)
            intro v' w1 hown1 _ hbel1
            have HO1 : Hid (OwnInts w1 bs v' ((cs ++ [i]).map (fun i : Nat => (i : Int)))) := by rw [List.map_append]; exact hown1
            have HL1 := hid (HL.out.keepB HBS.out.2.1 HBS.out.2.2 HBS.out.1 hbel1)
            have HB1 : Hid (bs ≤ w1.heap.size) := Nat.le_trans HBQ.out hbel1.size
            have g1 := HL1.out.an.cell (j := i) (by rw [HL1.out.ln]; exact hlt)
            rw [H1.out] at g1
            have hiI : (i : Int) < (n : Int) := by omega
            clear hown1 hbel1 HO HL HK HBQ
            go_wp2
            go_roundg m2
            case measure => omega
            case rel => exact ⟨t, m2, cs ++ [i], h2, by omega, rfl, HO1.out, HL1.out, H4.out, by have := HLN.out; rw [List.length_append]; simp; omega, HB1.out⟩
          · obtain rfl : i = n := by omega
            obtain ⟨h1, rfl⟩ := taken_end HK.out
            have HLC : Hid (IsLongest f i cs) := ⟨h1, by have e : cs.length = m := HLN.out; rw [e]; exact HLL.out⟩
            clear h1
            go_wp2
            go_ret
            exact ⟨_, _, rfl, HO.out.mono HBS.out.1, HL.out.bel, cs, rfl, HLC.out⟩
end Go.Proofs.YtmdpfadfimodjaaDoor

/-
  lines.Up and Down (P42).
-/
namespace Go.Proofs.YtmdpfadfimodjaaDoor
open Go.RowKit

/-- The places of a longest row come back, and no error. -/
def RetGoesO (f : Nat → Nat → Bool) (k : Nat) (w : World) (e : Ending) (w' : World) : Prop :=
  ∃ v ys, e = .returned (.tuple #[v, .int .i64 0]) ∧ OwnInts w' w.heap.size v ys ∧ Below w.heap.size w w' ∧ Goes f k ys
def RetGoes (f : Nat → Nat → Bool) (k : Nat) (w : World) (e : Ending) (w' : World) : Prop :=
  ∃ A n c ys, e = .returned (.tuple #[.slice A n c, .int .i64 0]) ∧ Below w.heap.size w w' ∧ Ints w' A n ys ∧ Cap n c ∧ Goes f k ys
theorem box_cell (w : World) (v : Value) (t : TypeId) : (w.alloc (.cells #[v] t)).cell? ⟨w.heap.size, 0, none⟩ = some v := by
  have h := heap_alloc_new w (.cells #[v] t)
  exact cell_of_row _ _ 0 _ _ _ h

set_option maxHeartbeats 800000 in
theorem up_own (A : Option Addr) (n c : Nat) (xs : List Int) (w : World) (h : Ints w A n xs) (hn : n ≤ 30) :
    Calls Tryd.prog 16 #[.slice A n c] w (RetGoesO (upF xs) n w) := by
  have HI := hid (h.keep (below_alloc w (.cells #[.slice A n c] 22)))
  have HC := hid (box_cell w (.slice A n c) 22)
  have HB := hid (below_alloc w (.cells #[.slice A n c] 22))
  have HZ : Hid (w.heap.size < (w.alloc (.cells #[.slice A n c] 22)).heap.size) := by show w.heap.size < _; simp
  clear h
  go_enter Tryd.func16, Tryd.ntmps16
  go_wp2_with fail
  refine (lcheck_ok A n c _ hn).mono ?_
  rintro e w1 ⟨rfl, rfl⟩
  go_wp2_with fail
  refine (longest_up A n c w.heap.size xs _ HC.out HZ.out HI.out hn).mono ?_
  rintro e w2 ⟨v, ys, rfl, hown, hb, hg⟩
  have HO2 := hid (hown.mono HB.out.size)
  have HG := hid hg
  have HB2 := hid (below_step HB.out (Nat.le_refl _) hb)
  clear hown hb hg HI HC HB HZ
  go_wp2
  go_ret2
  exact ⟨_, ys, rfl, HO2.out, HB2.out, HG.out⟩
theorem up_ok (A : Option Addr) (n c : Nat) (xs : List Int) (w : World) (h : Ints w A n xs) (hn : n ≤ 30) :
    Calls Tryd.prog 16 #[.slice A n c] w (RetGoes (upF xs) n w) := by
  refine (up_own A n c xs w h hn).mono ?_
  rintro e w' ⟨v, ys, rfl, ho, hbel, hg⟩
  obtain ⟨A', c', rfl, hI, hc⟩ := ho.ints
  exact ⟨_, _, _, ys, rfl, hbel, hI, hc, hg⟩
set_option maxHeartbeats 800000 in
theorem up_large (A : Option Addr) (n c : Nat) (w : World) (hn : 30 < n) (hm : n ≤ 9223372036854775807) :
    Calls Tryd.prog 16 #[.slice A n c] w fun e w' => e = .returned (.tuple #[.slice none 0 0, .int .i64 2]) ∧ Below w.heap.size w w' := by
  have HB := hid (below_alloc w (.cells #[.slice A n c] 22))
  go_enter Tryd.func16, Tryd.ntmps16
  go_wp2_with fail
  refine (lcheck_large A n c _ hn hm).mono ?_
  rintro e w1 ⟨rfl, rfl⟩
  go_wp2
  go_ret2
  exact ⟨rfl, HB.out⟩

set_option maxHeartbeats 800000 in
theorem down_own (A : Option Addr) (n c : Nat) (xs : List Int) (w : World) (h : Ints w A n xs) (hn : n ≤ 30) :
    Calls Tryd.prog 17 #[.slice A n c] w (RetGoesO (downF xs) n w) := by
  have HI := hid (h.keep (below_alloc w (.cells #[.slice A n c] 22)))
  have HC := hid (box_cell w (.slice A n c) 22)
  have HB := hid (below_alloc w (.cells #[.slice A n c] 22))
  have HZ : Hid (w.heap.size < (w.alloc (.cells #[.slice A n c] 22)).heap.size) := by show w.heap.size < _; simp
  clear h
  go_enter Tryd.func17, Tryd.ntmps17
  go_wp2_with fail
  refine (lcheck_ok A n c _ hn).mono ?_
  rintro e w1 ⟨rfl, rfl⟩
  go_wp2_with fail
  refine (longest_down A n c w.heap.size xs _ HC.out HZ.out HI.out hn).mono ?_
  rintro e w2 ⟨v, ys, rfl, hown, hb, hg⟩
  have HO2 := hid (hown.mono HB.out.size)
  have HG := hid hg
  have HB2 := hid (below_step HB.out (Nat.le_refl _) hb)
  clear hown hb hg HI HC HB HZ
  go_wp2
  go_ret2
  exact ⟨_, ys, rfl, HO2.out, HB2.out, HG.out⟩
theorem down_ok (A : Option Addr) (n c : Nat) (xs : List Int) (w : World) (h : Ints w A n xs) (hn : n ≤ 30) :
    Calls Tryd.prog 17 #[.slice A n c] w (RetGoes (downF xs) n w) := by
  refine (down_own A n c xs w h hn).mono ?_
  rintro e w' ⟨v, ys, rfl, ho, hbel, hg⟩
  obtain ⟨A', c', rfl, hI, hc⟩ := ho.ints
  exact ⟨_, _, _, ys, rfl, hbel, hI, hc, hg⟩
set_option maxHeartbeats 800000 in
theorem down_large (A : Option Addr) (n c : Nat) (w : World) (hn : 30 < n) (hm : n ≤ 9223372036854775807) :
    Calls Tryd.prog 17 #[.slice A n c] w fun e w' => e = .returned (.tuple #[.slice none 0 0, .int .i64 2]) ∧ Below w.heap.size w w' := by
  have HB := hid (below_alloc w (.cells #[.slice A n c] 22))
  go_enter Tryd.func17, Tryd.ntmps17
  go_wp2_with fail
  refine (lcheck_large A n c _ hn hm).mono ?_
  rintro e w1 ⟨rfl, rfl⟩
  go_wp2
  go_ret2
  exact ⟨rfl, HB.out⟩

end Go.Proofs.YtmdpfadfimodjaaDoor
