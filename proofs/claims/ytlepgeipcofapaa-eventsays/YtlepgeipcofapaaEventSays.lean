/-
  castlaw.EventSays, walked.
-/
import Derived.Test.YtlepgeipcofapaaEvE
import Derived.Test.YtlepgeipcofapaaEvC
import Derived.Test.YtlepgeipcofapaaEvD
import Derived.Test.YtlepgeipcofapaaRatF
import Derived.Deep.RegionHeld3
import Derived.Deep.QuietTactic
import Derived.Deep.DeepCutAuto
import Derived.BigQuiet
import Derived.BigRegion
namespace Go.Proofs.Ytlepgeipcofapaa
open Go.RowKit

/-- The sum of all numbers, as a machine adds them up. -/
def aw (l : List Int) : Int := l.foldl (fun s x => wrap64 (s + x)) 0
theorem aw_take {l : List Int} {k : Nat} (h : k < l.length) : aw (l.take (k + 1)) = wrap64 (aw (l.take k) + l.getD k 0) := by
  unfold aw
  rw [← List.take_append_getElem h, List.foldl_append, List.getD_eq_getElem?_getD, List.getElem?_eq_getElem h]
  rfl
theorem aw_tot : ∀ (l : List Int) (s : Int), (∀ x ∈ l, 1 ≤ x ∧ x ≤ 100) → 0 ≤ s → s + 100 * (l.length : Int) ≤ 1000000 → l.foldl (fun s x => wrap64 (s + x)) s = s + totW l
  | [], s, _, _, _ => by simp [totW, cw]
  | x :: l, s, h, h0, h1 => by
    have hx := h x (by simp)
    rw [List.length_cons] at h1
    have e : wrap64 (s + x) = s + x := IntWalk.wrap64_in _ (by omega)
    rw [List.foldl_cons, e, aw_tot l (s + x) (fun y hy => h y (by simp [hy])) (by omega) (by omega)]
    simp only [totW, cw]
    omega
theorem aw_space {ws : List Int} (h : Space ws) : aw ws = totW ws := by
  have h1 := aw_tot ws 0 h.w (by omega) (by have := h.hi; omega)
  rw [Int.zero_add] at h1
  exact h1

theorem part_bd {ws : List Int} (h : Space ws) (l : List Nat) (least : Int) (k : Nat) : 0 ≤ cw (ws.take k) (enI l least) ∧ cw (ws.take k) (enI l least) ≤ 1200 := by
  have h1 := wgt_part h (enM l least (ws.take k).length) k
  rwa [wgt_enM] at h1

/-- What stands when all functions have been called. -/
structure ESay (w W : World) (b1 : Nat) (P1 Q1 : Int) (b2 : Nat) (P2 Q2 : Int) (b3 : Nat) (P3 Q3 : Int) : Prop where
  r1 : RatAt W b1 P1 Q1
  r2 : RatAt W b2 P2 Q2
  r3 : RatAt W b3 P3 Q3
  bel : Below w.heap.size w W
theorem ESay.keep {w W W' : World} {b1 : Nat} {P1 Q1 : Int} {b2 : Nat} {P2 Q2 : Int} {b3 : Nat} {P3 Q3 : Int} (h : ESay w W b1 P1 Q1 b2 P2 Q2 b3 P3 Q3) (hb : Below W.heap.size W W') : ESay w W' b1 P1 Q1 b2 P2 Q2 b3 P3 Q3 :=
  ⟨h.r1.keep hb, h.r2.keep hb, h.r3.keep hb, below_step h.bel (Nat.le_refl _) hb⟩

theorem say_chance (A : Option Addr) (n c : Nat) (ws : List Int) (a : Nat) (w : World) (hI : Ints w A n ws) (ha : a < 65536) :
    ∃ e1 P Q : Int, (∀ W, Below w.heap.size w W → Calls Try.prog 8 #[.slice A n c, .int .u16 (a : Int)] W (RetR W (P) (Q) (e1))) ∧ casesErr ws [a] = e1 ∧ ((e1 ≠ 0 ∧ P = 0 ∧ Q = 0) ∨ (e1 = 0 ∧ Space ws ∧ a < 2 ^ n ∧ P = (chR ws a).num ∧ Q = ((chR ws a).den : Int))) := by
  by_cases h : casesErr ws [a] = 0
  · obtain ⟨hS, hab⟩ := casesErr_zero h
    have h2 : a < 2 ^ n := by rw [← hI.len]; exact hab a (by simp)
    exact ⟨0, _, _, fun W hb => evChance_ok A n c ws a W (hI.keep hb) hS h2, h, .inr ⟨rfl, hS, h2, rfl, rfl⟩⟩
  · exact ⟨_, 0, 0, fun W hb => evChance_bad A n c ws a W (hI.keep hb) ha h, rfl, .inl ⟨h, rfl, rfl⟩⟩
theorem say_apart (A : Option Addr) (n c : Nat) (ws : List Int) (a b : Nat) (w : World) (hI : Ints w A n ws) (ha : a < 65536) (hb : b < 65536) :
    ∃ q, (∀ W, Below w.heap.size w W → Calls Try.prog 10 #[.slice A n c, .int .u16 (a : Int), .int .u16 (b : Int)] W (fun e w' => e = .returned (.tuple #[.bool (q), .int .i64 (casesErr ws [a, b])]) ∧ Below W.heap.size W w')) ∧ ((casesErr ws [a, b] ≠ 0 ∧ q = false) ∨ (casesErr ws [a, b] = 0 ∧ Space ws ∧ a < 2 ^ n ∧ b < 2 ^ n ∧ q = apB ws a b)) := by
  by_cases h : casesErr ws [a, b] = 0
  · obtain ⟨hS, hab⟩ := casesErr_zero h
    have h2 : a < 2 ^ n := by rw [← hI.len]; exact hab a (by simp)
    have h3 : b < 2 ^ n := by rw [← hI.len]; exact hab b (by simp)
    refine ⟨_, fun W hw => ?_, .inr ⟨h, hS, h2, h3, rfl⟩⟩
    rw [h]
    exact evApart_ok A n c ws a b W (hI.keep hw) hS h2 h3
  · exact ⟨_, fun W hw => evApart_bad A n c ws a b W (hI.keep hw) ha hb h, .inl ⟨h, rfl⟩⟩
theorem say_given (A : Option Addr) (n c : Nat) (ws : List Int) (a b : Nat) (w : World) (hI : Ints w A n ws) (ha : a < 65536) (hb : b < 65536) :
    ∃ e3 P Q : Int, (∀ W, Below w.heap.size w W → Calls Try.prog 9 #[.slice A n c, .int .u16 (a : Int), .int .u16 (b : Int)] W (RetR W (P) (Q) (e3))) ∧ ((casesErr ws [a, b] ≠ 0 ∧ e3 = casesErr ws [a, b] ∧ P = 0 ∧ Q = 0) ∨ (casesErr ws [a, b] = 0 ∧ b = 0 ∧ e3 = 5 ∧ P = 0 ∧ Q = 0) ∨ (casesErr ws [a, b] = 0 ∧ b ≠ 0 ∧ e3 = 0 ∧ (Space ws ∧ a < 2 ^ n ∧ b < 2 ^ n) ∧ P = (gvR ws a b).num ∧ Q = ((gvR ws a b).den : Int))) := by
  by_cases h : casesErr ws [a, b] = 0
  · obtain ⟨hS, hab⟩ := casesErr_zero h
    have h2 : a < 2 ^ n := by rw [← hI.len]; exact hab a (by simp)
    have h3 : b < 2 ^ n := by rw [← hI.len]; exact hab b (by simp)
    by_cases h0 : b = 0
    · refine ⟨5, 0, 0, fun W hw => ?_, .inr (.inl ⟨h, h0, rfl, rfl, rfl⟩)⟩
      subst h0
      exact evGiven_zero A n c ws a W (hI.keep hw) ha h
    · exact ⟨0, _, _, fun W hw => evGiven_ok A n c ws a b W (hI.keep hw) hS h2 h3 h0, .inr (.inr ⟨h, h0, rfl, ⟨hS, h2, h3⟩, rfl, rfl⟩)⟩
  · exact ⟨_, 0, 0, fun W hw => evGiven_bad A n c ws a b W (hI.keep hw) ha hb h, .inl ⟨h, rfl, rfl, rfl⟩⟩
theorem say_some (A : Option Addr) (n c : Nat) (B : Option Addr) (m d : Nat) (ws : List Int) (l : List Nat) (least : Int) (w : World) (hI : Ints w A n ws) (hJ : Sets w B m l) (hm : m ≤ 9223372036854775807) :
    ∃ e4 P Q : Int, (∀ W, Below w.heap.size w W → Calls Try.prog 11 #[.slice A n c, .slice B m d, .int .i64 least] W (RetR W P Q e4)) ∧ ((casesErr ws l ≠ 0 ∧ e4 = casesErr ws l ∧ P = 0 ∧ Q = 0) ∨ (casesErr ws l = 0 ∧ 12 < m ∧ e4 = 2 ∧ P = 0 ∧ Q = 0) ∨ (casesErr ws l = 0 ∧ m ≤ 12 ∧ e4 = 0 ∧ (Space ws ∧ ∀ s ∈ l, s < 2 ^ n) ∧ P = (chR ws (enM l least n)).num ∧ Q = ((chR ws (enM l least n)).den : Int))) := by
  by_cases h : casesErr ws l = 0
  · obtain ⟨hS, hl⟩ := casesErr_zero h
    rw [hI.len] at hl
    by_cases h2 : 12 < m
    · exact ⟨2, 0, 0, fun W hw => evSome_large A n c B m d ws l least W (hI.keep hw) (hJ.keep hw) hm h h2, .inr (.inl ⟨h, h2, rfl, rfl, rfl⟩)⟩
    · exact ⟨0, _, _, fun W hw => evSome_ok A n c B m d ws l least W (hI.keep hw) (hJ.keep hw) hS hl (by omega), .inr (.inr ⟨h, by omega, rfl, ⟨hS, hl⟩, rfl, rfl⟩)⟩
  · exact ⟨_, 0, 0, fun W hw => evSome_bad A n c B m d ws l least W (hI.keep hw) (hJ.keep hw) hm h, .inl ⟨h, rfl, rfl, rfl⟩⟩
/-- Whole of two weights. -/
theorem whole_w (x y : Int) (hx : 0 ≤ x ∧ x ≤ 1200) (hy : 1 ≤ y ∧ y ≤ 1200) (W : World) :
    Calls Try.prog 14 #[.int .i64 x, .int .i64 y] W fun e w' => e = .returned (.agg #[.int .i64 (Rat.divInt x y).num, .int .i64 ((Rat.divInt x y).den : Int)]) ∧ Below W.heap.size W w' := by
  have k := whole_any x y W ⟨by omega, by omega⟩ ⟨by omega, by omega⟩ (by omega)
  obtain ⟨o1, o2, _⟩ := out_fits (fits_make (p := x) (q := y) (by omega) (by omega) (by omega) (by omega) (by omega))
  rwa [o1, o2] at k
theorem heavy_w (A : Option Addr) (n c : Nat) (ws : List Int) (s : Nat) (w : World) (hI : Ints w A n ws) (hS : Space ws) (hs : s < 2 ^ n) :
    Calls Try.prog 15 #[.slice A n c, .int .u16 (s : Int)] w fun e w' => e = .returned (.int .i64 (wgt ws s)) ∧ Below w.heap.size w w' := by
  refine (refHeavy_ok A n c ws s w hI hS (by have := hS.pow; rw [hI.len] at this; omega)).mono ?_
  rintro e w' ⟨rfl, q, rfl⟩
  exact ⟨rfl, below_drewN (Below.refl _ _) q⟩
theorem say_one (w : World) (t : TypeId) (a : Nat) (ha : a < 65536) : Sets (w.alloc (.cells #[.int .u16 (a : Int)] t)) (some ⟨w.heap.size, 0, none⟩) 1 [a] := sets_lit w #[.int .u16 (a : Int)] t 1 [a] rfl rfl (by simpa using ha)
theorem say_two (w : World) (t : TypeId) (a b : Nat) (ha : a < 65536) (hb : b < 65536) : Sets (w.alloc (.cells #[.int .u16 (a : Int), .int .u16 (b : Int)] t)) (some ⟨w.heap.size, 0, none⟩) 2 [a, b] := sets_lit w #[.int .u16 (a : Int), .int .u16 (b : Int)] t 2 [a, b] rfl rfl (by simp; omega)

set_option maxHeartbeats 16000000 in
set_option maxRecDepth 100000 in
theorem eventSays_any (A : Option Addr) (n c : Nat) (B : Option Addr) (m d : Nat) (ws : List Int) (l : List Nat) (a b : Nat) (least : Int) (w : World) (hI : Ints w A n ws) (hJ : Sets w B m l) (ha : a < 65536) (hb : b < 65536) (hn : n ≤ 9223372036854775807) (hm : m ≤ 9223372036854775807) :
    Calls Try.prog 3 #[.slice A n c, .int .u16 (a : Int), .int .u16 (b : Int), .slice B m d, .int .i64 least] w fun e w' => e = .returned (.bool true) ∧ Below w.heap.size w w' := by
  have HB0 := hid (Below.refl w.heap.size w)
  obtain ⟨e1, P1, Q1, h1, hc1, C1⟩ := say_chance A n c ws a w hI ha
  obtain ⟨q, h3, C2⟩ := say_apart A n c ws a b w hI ha hb
  obtain ⟨e3, P2, Q2, h2, C3⟩ := say_given A n c ws a b w hI ha hb
  obtain ⟨e4, P3, Q3, h4, C4⟩ := say_some A n c B m d ws l least w hI hJ hm
  have h1' := hid h1
  have h2' := hid h2
  have h3' := hid h3
  have h4' := hid h4
  have D1 := hid C1
  have D2 := hid C2
  have D3 := hid C3
  have D4 := hid C4
  have HI := hid hI
  have HJ := hid hJ
  have HL := hid hI.len
  have HK1 : Hid (∀ W, Below w.heap.size w W → Calls Try.prog 13 #[.slice A n c, .slice (some ⟨W.heap.size, 0, none⟩) 1 1] (W.alloc (.cells #[.int .u16 (a : Int)] 23)) (RetE (W.alloc (.cells #[.int .u16 (a : Int)] 23)) e1)) := fun W hw => by
    rw [← hc1]
    exact refCasesErr_any A n c _ 1 1 ws [a] _ (hI.keep (below_step hw (Nat.le_refl _) (below_alloc _ _))) (say_one W _ a ha) (by omega)
  have HK2 : Hid (∀ W, Below w.heap.size w W → Calls Try.prog 13 #[.slice A n c, .slice (some ⟨W.heap.size, 0, none⟩) 2 2] (W.alloc (.cells #[.int .u16 (a : Int), .int .u16 (b : Int)] 23)) (RetE (W.alloc (.cells #[.int .u16 (a : Int), .int .u16 (b : Int)] 23)) (casesErr ws [a, b]))) := fun W hw =>
    refCasesErr_any A n c _ 2 2 ws [a, b] _ (hI.keep (below_step hw (Nat.le_refl _) (below_alloc _ _))) (say_two W _ a b ha hb) (by omega)
  have HK3 : Hid (∀ W, Below w.heap.size w W → Calls Try.prog 13 #[.slice A n c, .slice B m d] W (RetE W (casesErr ws l))) := fun W hw => refCasesErr_any A n c B m d ws l W (hI.keep hw) (hJ.keep hw) hm
  have HK4 : Hid (∀ W, Below w.heap.size w W → Calls Try.prog 12 #[.slice A n c, .slice B m d] W fun e w' => e = .returned (.int .i64 (casesErr ws l)) ∧ W = w') := fun W hw => evCheck_any A n c B m d ws l W (hI.keep hw) (hJ.keep hw) hm
  have HAND := hid (u16_and_nat a b ha hb)
  clear h1 h2 h3 h4 hc1 hI hJ ha hb C1 C2 C3 C4
  generalize casesErr ws l = e5 at *
  generalize casesErr ws [a, b] = e2 at *
  have hne5 : (e5 != e5) = false := by simp
  go_enter Try.func3, Try.ntmps3
  go_wp2_with fail
  have HBN := hid (HB0.out)
  refine (h1'.out _ HBN.out).mono ?_
  rintro e w1 ⟨rfl, hb⟩
  have HB1 := hid (below_step HB0.out (Nat.le_refl _) hb)
  clear hb HB0 
  clear HBN
  go_wp2_with fail
  have HBN := hid (below_step HB1.out (Nat.le_refl _) (below_alloc w1 (.cells #[.int .i64 (P1), .int .i64 (Q1)] 26)))
  refine (h2'.out _ HBN.out).mono ?_
  rintro e w2 ⟨rfl, hb⟩
  have HB2 := hid (below_step (below_step HB1.out (Nat.le_refl _) (below_alloc w1 (.cells #[.int .i64 (P1), .int .i64 (Q1)] 26))) (Nat.le_refl _) hb)
  have R2_x := hid ((RatAt.new w1 26 (P1) (Q1)).keep hb)
  clear hb HB1 
  clear HBN
  go_wp2_with fail
  have HBN := hid (below_step HB2.out (Nat.le_refl _) (below_alloc w2 (.cells #[.int .i64 (P2), .int .i64 (Q2)] 26)))
  refine (h3'.out _ HBN.out).mono ?_
  rintro e w3 ⟨rfl, hb⟩
  have R3_x := hid (((R2_x.out).keep_alloc (.cells #[.int .i64 (P2), .int .i64 (Q2)] 26)).keep hb)
  have HB3 := hid (below_step (below_step HB2.out (Nat.le_refl _) (below_alloc w2 (.cells #[.int .i64 (P2), .int .i64 (Q2)] 26))) (Nat.le_refl _) hb)
  have R3_g := hid ((RatAt.new w2 26 (P2) (Q2)).keep hb)
  clear hb HB2 R2_x
  clear HBN
  go_wp2_with fail
  have HBN := hid (HB3.out)
  refine (h4'.out _ HBN.out).mono ?_
  rintro e w4 ⟨rfl, hb⟩
  have R4_x := hid ((R3_x.out).keep hb)
  have R4_g := hid ((R3_g.out).keep hb)
  have HB4 := hid (below_step HB3.out (Nat.le_refl _) hb)
  clear hb HB3 R3_x R3_g
  clear HBN
  obtain ⟨V, hV⟩ : ∃ V, V = w4.alloc (.cells #[.int .i64 (P3), .int .i64 (Q3)] 26) := ⟨_, rfl⟩
  have HES : Hid (ESay w V w1.heap.size P1 Q1 w2.heap.size P2 Q2 w4.heap.size P3 Q3) := by
    rw [hV]
    exact ⟨R4_x.out.keep_alloc _, R4_g.out.keep_alloc _, RatAt.new w4 _ P3 Q3, below_step HB4.out (Nat.le_refl _) (below_alloc w4 (.cells #[.int .i64 (P3), .int .i64 (Q3)] 26))⟩
  go_wp2_with fail
  rw [← hV]
  clear hV HB4 R4_x R4_g h1' h2' h3' h4'
  refine (HK4.out _ HES.out.bel).mono ?_
  rintro e w' ⟨rfl, rfl⟩
  go_wp2_with fail
  refine (HK3.out _ HES.out.bel).mono ?_
  rintro e W ⟨rfl, hb⟩
  have HES := hid (HES.out.keep hb)
  clear hb
  go_wp2_with fail
  have HIW := hid (HI.out.keep HES.out.bel)
  go_loopg [19, 21, 66] n (fun g s _ z wr => ∃ k : Nat, k ≤ n ∧ n - k ≤ g ∧ s = .int .i64 (aw (ws.take k)) ∧ z = .int .i64 (k : Int) ∧ W = wr)
  case atStart => exact ⟨0, by omega, by omega, rfl, rfl, rfl⟩
  case round =>
    obtain ⟨k, hk, hg, rfl, rfl, rfl⟩ := hrel
    by_cases hlt : k < n
    · obtain ⟨b', o, rfl, hb, hc⟩ := HIW.out.row (by omega)
      have g1 := hc k hlt
      have HT := hid (aw_take (l := ws) (k := k) (by rw [HL.out]; exact hlt))
      clear hc
      generalize aw (ws.take k) = x at *
      generalize ws.getD k 0 = y at *
      go_wp2
      go_roundg (n - (k + 1))
      case measure => omega
      case rel => exact ⟨k + 1, by omega, by omega, by rw [HT.out], by go_num, rfl⟩
    · obtain rfl : n = k := by omega
      rw [show ws.take n = ws by rw [← HL.out]; exact List.take_length]
      have HAW : Hid (Space ws → aw ws = totW ws) := aw_space
      generalize aw ws = T at *
      go_wp2_with fail
      refine (HK1.out _ HES.out.bel).mono ?_
      rintro e W1 ⟨rfl, hb⟩
      have HE1 := hid (HES.out.keep ((below_alloc W (.cells #[.int .u16 (a : Int)] 23)).trans (hb.mono (below_alloc W _).size)))
      clear hb HK1 HK4 HIW
      have HWW := hid (Below.refl W1.heap.size W1)
      have z0 := HE1.out.r1.p0
      have z1 := HE1.out.r1.p1
      go_upto_region 14 with fail
      go_cut [102] from 78 to 102 (fun t wx => t = .bool false ∧ Hid (ESay w wx w1.heap.size P1 Q1 w2.heap.size P2 Q2 w4.heap.size P3 Q3))
      case first =>
        have dd : (e1 != e1) = false := by simp
        rcases D1.out with ⟨f1, f2, f3⟩ | ⟨f1, f2, f3, f4, f5⟩
        · subst f2 f3
          have d1 : (e1 != 0) = true := by simpa using f1
          have d2 : (e1 == 0) = false := by simpa using f1
          have HS8 := hid (HE1.out.keep (below_drewN (Below.refl _ _) 1))
          clear f1
          go_wp2_with fail
          refine wp_region_noPanic ?_
          refine wp_region_held_drew (S := (fun u => u.cell? ⟨w1.heap.size, 0, none⟩ = some (.int .i64 0) ∧ u.cell? ⟨w1.heap.size, 1, none⟩ = some (.int .i64 0))) (by kernel_rfl) ⟨z0, z1⟩ (fun hHeld => ?_)
          refine wpAnyH_take (i := 0) (oi := { dst := some 78, op := Op.move (Operand.tmp 12), type := 27, pos := "law.go:529", after := #[], guard := none }) (v := ?v1) rfl (by kernel_rfl) (by kernel_rfl) (by kernel_rfl) (fun _ _ _ h => h) (Or.inl ⟨by rfl, ?hy1⟩) (by assumption) ?rest1
          case hy1 => (intro w9 hSw; (try dsimp only at hSw); go_simp; try with_reducible rfl)
          try simp only [Act.put, List.setIfInBounds_toArray, List.set_cons_zero, List.set_cons_succ]
          refine wpAnyH_take (i := 1) (oi := { dst := some 79, op := Op.move (Operand.tmp 22), type := 27, pos := "law.go:529", after := #[], guard := none }) (v := ?v2) rfl (by kernel_rfl) (by kernel_rfl) (by kernel_rfl) (fun _ _ _ h => h) (Or.inl ⟨by rfl, ?hy2⟩) (by assumption) ?rest2
          case hy2 => (intro w9 hSw; (try dsimp only at hSw); go_simp; try with_reducible rfl)
          try simp only [Act.put, List.setIfInBounds_toArray, List.set_cons_zero, List.set_cons_succ]
          refine wpAnyH_take (i := 2) (oi := { dst := some 80, op := Op.binOp BinOp.neq 27 (Operand.tmp 78) (Operand.tmp 79) 27, type := 4, pos := "law.go:529", after := #[{ on := 0, ground := Ground.data }, { on := 1, ground := Ground.data }], guard := none }) (v := ?v3) rfl (by kernel_rfl) (by kernel_rfl) (by kernel_rfl) (fun _ _ _ h => h) (Or.inl ⟨by rfl, ?hy3⟩) (by assumption) ?rest3
          case hy3 => (intro w9 hSw; (try dsimp only at hSw); go_simp; try with_reducible rfl)
          try simp only [Act.put, List.setIfInBounds_toArray, List.set_cons_zero, List.set_cons_succ]
          refine wpAnyH_take (i := 3) (oi := { dst := some 81, op := Op.move (Operand.tmp 80), type := 4, pos := "law.go:529", after := #[{ on := 2, ground := Ground.data }], guard := none }) (v := ?v4) rfl (by kernel_rfl) (by kernel_rfl) (by kernel_rfl) (fun _ _ _ h => h) (Or.inl ⟨by rfl, ?hy4⟩) (by assumption) ?rest4
          case hy4 => (intro w9 hSw; (try dsimp only at hSw); go_simp; try with_reducible rfl)
          try simp only [Act.put, List.setIfInBounds_toArray, List.set_cons_zero, List.set_cons_succ]
          refine wpAnyH_take (i := 4) (oi := { dst := some 82, op := Op.move (Operand.tmp 22), type := 27, pos := "law.go:529", after := #[{ on := 3, ground := Ground.guard }], guard := some (3, false) }) (v := ?v5) rfl (by kernel_rfl) (by kernel_rfl) (by kernel_rfl) (fun _ _ _ h => h) (Or.inl ⟨by rfl, ?hy5⟩) (by assumption) ?rest5
          case hy5 => (intro w9 hSw; (try dsimp only at hSw); go_simp; try with_reducible rfl)
          try simp only [Act.put, List.setIfInBounds_toArray, List.set_cons_zero, List.set_cons_succ]
          refine wpAnyH_take (i := 5) (oi := { dst := some 83, op := Op.binOp BinOp.neq 27 (Operand.tmp 82) (Operand.const (Value.int IntKind.i64 0)) 27, type := 4, pos := "law.go:529", after := #[{ on := 4, ground := Ground.data }, { on := 3, ground := Ground.guard }], guard := some (3, false) }) (v := ?v6) rfl (by kernel_rfl) (by kernel_rfl) (by kernel_rfl) (fun _ _ _ h => h) (Or.inl ⟨by rfl, ?hy6⟩) (by assumption) ?rest6
          case hy6 => (intro w9 hSw; (try dsimp only at hSw); go_simp; try with_reducible rfl)
          try simp only [Act.put, List.setIfInBounds_toArray, List.set_cons_zero, List.set_cons_succ]
          refine wpAnyH_take (i := 6) (oi := { dst := some 84, op := Op.move (Operand.tmp 83), type := 4, pos := "law.go:529", after := #[{ on := 5, ground := Ground.data }, { on := 3, ground := Ground.chain }, { on := 3, ground := Ground.guard }], guard := some (3, false) }) (v := ?v7) rfl (by kernel_rfl) (by kernel_rfl) (by kernel_rfl) (fun _ _ _ h => h) (Or.inl ⟨by rfl, ?hy7⟩) (by assumption) ?rest7
          case hy7 => (intro w9 hSw; (try dsimp only at hSw); go_simp; try with_reducible rfl)
          try simp only [Act.put, List.setIfInBounds_toArray, List.set_cons_zero, List.set_cons_succ]
          refine wpAnyH_take (i := 7) (oi := { dst := some 85, op := Op.load 26 (Operand.tmp 11), type := 26, pos := "law.go:529", after := #[{ on := 6, ground := Ground.guard }], guard := some (6, true) }) (v := ?v8) rfl (by kernel_rfl) (by kernel_rfl) (by kernel_rfl) (fun _ _ _ h => h) (Or.inl ⟨by rfl, ?hy8⟩) (by assumption) ?rest8
          case hy8 => (intro w9 hSw; (try dsimp only at hSw); go_simp; try with_reducible rfl)
          try simp only [Act.put, List.setIfInBounds_toArray, List.set_cons_zero, List.set_cons_succ]
          refine wpAnyH_take (i := 8) (oi := { dst := some 86, op := Op.build 26 #[], type := 26, pos := "law.go:529", after := #[{ on := 6, ground := Ground.guard }], guard := some (6, true) }) (v := ?v9) rfl (by kernel_rfl) (by kernel_rfl) (by kernel_rfl) (fun _ _ _ h => h) (Or.inl ⟨by rfl, ?hy9⟩) (by assumption) ?rest9
          case hy9 => (intro w9 hSw; (try dsimp only at hSw); go_simp; try with_reducible rfl)
          try simp only [Act.put, List.setIfInBounds_toArray, List.set_cons_zero, List.set_cons_succ]
          refine wpAnyH_take (i := 9) (oi := { dst := some 87, op := Op.binOp BinOp.neq 26 (Operand.tmp 85) (Operand.tmp 86) 26, type := 4, pos := "law.go:529", after := #[{ on := 7, ground := Ground.data }, { on := 8, ground := Ground.data }, { on := 6, ground := Ground.guard }], guard := some (6, true) }) (v := ?v10) rfl (by kernel_rfl) (by kernel_rfl) (by kernel_rfl) (fun _ _ _ h => h) (Or.inl ⟨by rfl, ?hy10⟩) (by assumption) ?rest10
          case hy10 => (intro w9 hSw; (try dsimp only at hSw); go_simp; try with_reducible rfl)
          try simp only [Act.put, List.setIfInBounds_toArray, List.set_cons_zero, List.set_cons_succ]
          refine wpAnyH_take (i := 10) (oi := { dst := some 88, op := Op.pick (Operand.tmp 84) (Operand.tmp 87) (Operand.const (Value.bool false)), type := 4, pos := "law.go:529", after := #[{ on := 6, ground := Ground.data }, { on := 9, ground := Ground.data }, { on := 3, ground := Ground.guard }], guard := some (3, false) }) (v := ?v11) rfl (by kernel_rfl) (by kernel_rfl) (by kernel_rfl) (fun _ _ _ h => h) (Or.inl ⟨by rfl, ?hy11⟩) (by assumption) ?rest11
          case hy11 => (intro w9 hSw; (try dsimp only at hSw); go_simp; try with_reducible rfl)
          try simp only [Act.put, List.setIfInBounds_toArray, List.set_cons_zero, List.set_cons_succ]
          refine wpAnyH_take (i := 11) (oi := { dst := some 89, op := Op.pick (Operand.tmp 81) (Operand.const (Value.bool true)) (Operand.tmp 88), type := 4, pos := "law.go:529", after := #[{ on := 3, ground := Ground.data }, { on := 10, ground := Ground.data }], guard := none }) (v := ?v12) rfl (by kernel_rfl) (by kernel_rfl) (by kernel_rfl) (fun _ _ _ h => h) (Or.inl ⟨by rfl, ?hy12⟩) (by assumption) ?rest12
          case hy12 => (intro w9 hSw; (try dsimp only at hSw); go_simp; try with_reducible rfl)
          try simp only [Act.put, List.setIfInBounds_toArray, List.set_cons_zero, List.set_cons_succ]
          refine wpAnyH_take (i := 12) (oi := { dst := some 90, op := Op.move (Operand.tmp 89), type := 4, pos := "law.go:529", after := #[{ on := 11, ground := Ground.data }, { on := 6, ground := Ground.chain }], guard := none }) (v := ?v13) rfl (by kernel_rfl) (by kernel_rfl) (by kernel_rfl) (fun _ _ _ h => h) (Or.inl ⟨by rfl, ?hy13⟩) (by assumption) ?rest13
          case hy13 => (intro w9 hSw; (try dsimp only at hSw); go_simp; try with_reducible rfl)
          try simp only [Act.put, List.setIfInBounds_toArray, List.set_cons_zero, List.set_cons_succ]
          refine wpAnyH_take (i := 13) (oi := { dst := some 91, op := Op.move (Operand.tmp 22), type := 27, pos := "law.go:529", after := #[{ on := 12, ground := Ground.guard }], guard := some (12, false) }) (v := ?v14) rfl (by kernel_rfl) (by kernel_rfl) (by kernel_rfl) (fun _ _ _ h => h) (Or.inl ⟨by rfl, ?hy14⟩) (by assumption) ?rest14
          case hy14 => (intro w9 hSw; (try dsimp only at hSw); go_simp; try with_reducible rfl)
          try simp only [Act.put, List.setIfInBounds_toArray, List.set_cons_zero, List.set_cons_succ]
          refine wpAnyH_take (i := 14) (oi := { dst := some 92, op := Op.binOp BinOp.eql 27 (Operand.tmp 91) (Operand.const (Value.int IntKind.i64 0)) 27, type := 4, pos := "law.go:529", after := #[{ on := 13, ground := Ground.data }, { on := 12, ground := Ground.guard }], guard := some (12, false) }) (v := ?v15) rfl (by kernel_rfl) (by kernel_rfl) (by kernel_rfl) (fun _ _ _ h => h) (Or.inl ⟨by rfl, ?hy15⟩) (by assumption) ?rest15
          case hy15 => (intro w9 hSw; (try dsimp only at hSw); go_simp; try with_reducible rfl)
          try simp only [Act.put, List.setIfInBounds_toArray, List.set_cons_zero, List.set_cons_succ]
          refine wpAnyH_take (i := 15) (oi := { dst := some 93, op := Op.move (Operand.tmp 92), type := 4, pos := "law.go:529", after := #[{ on := 14, ground := Ground.data }, { on := 12, ground := Ground.chain }, { on := 12, ground := Ground.guard }], guard := some (12, false) }) (v := ?v16) rfl (by kernel_rfl) (by kernel_rfl) (by kernel_rfl) (fun _ _ _ h => h) (Or.inl ⟨by rfl, ?hy16⟩) (by assumption) ?rest16
          case hy16 => (intro w9 hSw; (try dsimp only at hSw); go_simp; try with_reducible rfl)
          try simp only [Act.put, List.setIfInBounds_toArray, List.set_cons_zero, List.set_cons_succ]
          refine wpAnyH_take (i := 16) (oi := { dst := some 94, op := Op.load 26 (Operand.tmp 11), type := 26, pos := "law.go:529", after := #[{ on := 15, ground := Ground.guard }], guard := some (15, true) }) (v := undef) rfl (by kernel_rfl) (by kernel_rfl) (by kernel_rfl) (fun _ _ _ h => h) (Or.inr ⟨by rfl, rfl⟩) (by assumption) ?rest17
          try simp only [Act.put, List.setIfInBounds_toArray, List.set_cons_zero, List.set_cons_succ]
          refine wpAnyH_take (i := 17) (oi := { dst := some 95, op := Op.move (Operand.tmp 0), type := 22, pos := "law.go:529", after := #[{ on := 15, ground := Ground.guard }], guard := some (15, true) }) (v := undef) rfl (by kernel_rfl) (by kernel_rfl) (by kernel_rfl) (fun _ _ _ h => h) (Or.inr ⟨by rfl, rfl⟩) (by assumption) ?rest18
          try simp only [Act.put, List.setIfInBounds_toArray, List.set_cons_zero, List.set_cons_succ]
          refine wpAnyH_take (i := 18) (oi := { dst := some 96, op := Op.move (Operand.tmp 1), type := 23, pos := "law.go:529", after := #[{ on := 15, ground := Ground.guard }], guard := some (15, true) }) (v := undef) rfl (by kernel_rfl) (by kernel_rfl) (by kernel_rfl) (fun _ _ _ h => h) (Or.inr ⟨by rfl, rfl⟩) (by assumption) ?rest19
          try simp only [Act.put, List.setIfInBounds_toArray, List.set_cons_zero, List.set_cons_succ]
          refine wpAnyH_take (i := 19) (oi := { dst := some 97, op := Op.call { callee := Callee.value (Operand.func 15), args := #[Operand.tmp 95, Operand.tmp 96], argTypes := #[22, 23] }, type := 3, pos := "law.go:529", after := #[{ on := 17, ground := Ground.data }, { on := 18, ground := Ground.data }, { on := 15, ground := Ground.chain }, { on := 15, ground := Ground.guard }], guard := some (15, true) }) (v := undef) rfl (by kernel_rfl) (by kernel_rfl) (by kernel_rfl) (fun _ _ _ h => h) (Or.inr ⟨by rfl, rfl⟩) (by assumption) ?rest20
          try simp only [Act.put, List.setIfInBounds_toArray, List.set_cons_zero, List.set_cons_succ]
          refine wpAnyH_take (i := 20) (oi := { dst := some 98, op := Op.move (Operand.tmp 19), type := 3, pos := "law.go:529", after := #[{ on := 15, ground := Ground.guard }], guard := some (15, true) }) (v := undef) rfl (by kernel_rfl) (by kernel_rfl) (by kernel_rfl) (fun _ _ _ h => h) (Or.inr ⟨by rfl, rfl⟩) (by assumption) ?rest21
          try simp only [Act.put, List.setIfInBounds_toArray, List.set_cons_zero, List.set_cons_succ]
          refine wpAnyH_take (i := 21) (oi := { dst := some 99, op := Op.call { callee := Callee.value (Operand.func 14), args := #[Operand.tmp 97, Operand.tmp 98], argTypes := #[3, 3] }, type := 26, pos := "law.go:529", after := #[{ on := 19, ground := Ground.data }, { on := 20, ground := Ground.data }, { on := 19, ground := Ground.chain }, { on := 15, ground := Ground.guard }], guard := some (15, true) }) (v := undef) rfl (by kernel_rfl) (by kernel_rfl) (by kernel_rfl) (fun _ _ _ h => h) (Or.inr ⟨by rfl, rfl⟩) (by assumption) ?rest22
          try simp only [Act.put, List.setIfInBounds_toArray, List.set_cons_zero, List.set_cons_succ]
          refine wpAnyH_take (i := 22) (oi := { dst := some 100, op := Op.binOp BinOp.neq 26 (Operand.tmp 94) (Operand.tmp 99) 26, type := 4, pos := "law.go:529", after := #[{ on := 16, ground := Ground.data }, { on := 21, ground := Ground.data }, { on := 15, ground := Ground.guard }], guard := some (15, true) }) (v := undef) rfl (by kernel_rfl) (by kernel_rfl) (by kernel_rfl) (fun _ _ _ h => h) (Or.inr ⟨by rfl, rfl⟩) (by assumption) ?rest23
          try simp only [Act.put, List.setIfInBounds_toArray, List.set_cons_zero, List.set_cons_succ]
          refine wpAnyH_take (i := 23) (oi := { dst := some 101, op := Op.pick (Operand.tmp 93) (Operand.tmp 100) (Operand.const (Value.bool false)), type := 4, pos := "law.go:529", after := #[{ on := 15, ground := Ground.data }, { on := 22, ground := Ground.data }, { on := 12, ground := Ground.guard }], guard := some (12, false) }) (v := ?v24) rfl (by kernel_rfl) (by kernel_rfl) (by kernel_rfl) (fun _ _ _ h => h) (Or.inl ⟨by rfl, ?hy24⟩) (by assumption) ?rest24
          case hy24 => (intro w9 hSw; (try dsimp only at hSw); go_simp; try with_reducible rfl)
          try simp only [Act.put, List.setIfInBounds_toArray, List.set_cons_zero, List.set_cons_succ]
          refine wpAnyH_take (i := 24) (oi := { dst := some 102, op := Op.pick (Operand.tmp 90) (Operand.const (Value.bool true)) (Operand.tmp 101), type := 4, pos := "law.go:529", after := #[{ on := 12, ground := Ground.data }, { on := 23, ground := Ground.data }], guard := none }) (v := ?v25) rfl (by kernel_rfl) (by kernel_rfl) (by kernel_rfl) (fun _ _ _ h => h) (Or.inl ⟨by rfl, ?hy25⟩) (by assumption) ?rest25
          case hy25 => (intro w9 hSw; (try dsimp only at hSw); go_simp; try with_reducible rfl)
          try simp only [Act.put, List.setIfInBounds_toArray, List.set_cons_zero, List.set_cons_succ]
          refine wpAnyH_done (by kernel_rfl) ?_ _
          refine NoPanic.normal ?_
          go_wp2_with fail
          go_meet
          exact ⟨rfl, HS8⟩
        · subst f1
          have eT := HAW.out f2
          have hx := f2.bd a
          have ht := f2.totW
          have HWH : Hid (∀ W, Calls Try.prog 14 #[.int .i64 (wgt ws a), .int .i64 T] W fun e w' => e = .returned (.agg #[.int .i64 P1, .int .i64 Q1]) ∧ Below W.heap.size W w') := fun W => by
            rw [eT, f4, f5]
            exact whole_w _ _ hx ⟨ht.1, ht.2⟩ W
          have HHV : Hid (∀ W, Below w.heap.size w W → Calls Try.prog 15 #[.slice A n c, .int .u16 (a : Int)] W fun e w' => e = .returned (.int .i64 (wgt ws a)) ∧ Below W.heap.size W w') := fun W hw => heavy_w A n c ws a W (HI.out.keep hw) f2 f3
          clear eT f4 f5 hx ht f2 f3
          generalize wgt ws a = x at *
          go_wp2_with fail
          refine wp_region_noPanic ?_
          refine wp_region_held_drew (S := (fun u => u.cell? ⟨w1.heap.size, 0, none⟩ = some (.int .i64 P1) ∧ u.cell? ⟨w1.heap.size, 1, none⟩ = some (.int .i64 Q1))) (by kernel_rfl) ⟨z0, z1⟩ (fun hHeld => ?_)
          refine wpAnyH_take (i := 0) (oi := { dst := some 78, op := Op.move (Operand.tmp 12), type := 27, pos := "law.go:529", after := #[], guard := none }) (v := ?v26) rfl (by kernel_rfl) (by kernel_rfl) (by kernel_rfl) (fun _ _ _ h => h) (Or.inl ⟨by rfl, ?hy26⟩) (by assumption) ?rest26
          case hy26 => (intro w9 hSw; (try dsimp only at hSw); go_simp; try with_reducible rfl)
          try simp only [Act.put, List.setIfInBounds_toArray, List.set_cons_zero, List.set_cons_succ]
          refine wpAnyH_take (i := 1) (oi := { dst := some 79, op := Op.move (Operand.tmp 22), type := 27, pos := "law.go:529", after := #[], guard := none }) (v := ?v27) rfl (by kernel_rfl) (by kernel_rfl) (by kernel_rfl) (fun _ _ _ h => h) (Or.inl ⟨by rfl, ?hy27⟩) (by assumption) ?rest27
          case hy27 => (intro w9 hSw; (try dsimp only at hSw); go_simp; try with_reducible rfl)
          try simp only [Act.put, List.setIfInBounds_toArray, List.set_cons_zero, List.set_cons_succ]
          refine wpAnyH_take (i := 2) (oi := { dst := some 80, op := Op.binOp BinOp.neq 27 (Operand.tmp 78) (Operand.tmp 79) 27, type := 4, pos := "law.go:529", after := #[{ on := 0, ground := Ground.data }, { on := 1, ground := Ground.data }], guard := none }) (v := ?v28) rfl (by kernel_rfl) (by kernel_rfl) (by kernel_rfl) (fun _ _ _ h => h) (Or.inl ⟨by rfl, ?hy28⟩) (by assumption) ?rest28
          case hy28 => (intro w9 hSw; (try dsimp only at hSw); go_simp; try with_reducible rfl)
          try simp only [Act.put, List.setIfInBounds_toArray, List.set_cons_zero, List.set_cons_succ]
          refine wpAnyH_take (i := 3) (oi := { dst := some 81, op := Op.move (Operand.tmp 80), type := 4, pos := "law.go:529", after := #[{ on := 2, ground := Ground.data }], guard := none }) (v := ?v29) rfl (by kernel_rfl) (by kernel_rfl) (by kernel_rfl) (fun _ _ _ h => h) (Or.inl ⟨by rfl, ?hy29⟩) (by assumption) ?rest29
          case hy29 => (intro w9 hSw; (try dsimp only at hSw); go_simp; try with_reducible rfl)
          try simp only [Act.put, List.setIfInBounds_toArray, List.set_cons_zero, List.set_cons_succ]
          refine wpAnyH_take (i := 4) (oi := { dst := some 82, op := Op.move (Operand.tmp 22), type := 27, pos := "law.go:529", after := #[{ on := 3, ground := Ground.guard }], guard := some (3, false) }) (v := ?v30) rfl (by kernel_rfl) (by kernel_rfl) (by kernel_rfl) (fun _ _ _ h => h) (Or.inl ⟨by rfl, ?hy30⟩) (by assumption) ?rest30
          case hy30 => (intro w9 hSw; (try dsimp only at hSw); go_simp; try with_reducible rfl)
          try simp only [Act.put, List.setIfInBounds_toArray, List.set_cons_zero, List.set_cons_succ]
          refine wpAnyH_take (i := 5) (oi := { dst := some 83, op := Op.binOp BinOp.neq 27 (Operand.tmp 82) (Operand.const (Value.int IntKind.i64 0)) 27, type := 4, pos := "law.go:529", after := #[{ on := 4, ground := Ground.data }, { on := 3, ground := Ground.guard }], guard := some (3, false) }) (v := ?v31) rfl (by kernel_rfl) (by kernel_rfl) (by kernel_rfl) (fun _ _ _ h => h) (Or.inl ⟨by rfl, ?hy31⟩) (by assumption) ?rest31
          case hy31 => (intro w9 hSw; (try dsimp only at hSw); go_simp; try with_reducible rfl)
          try simp only [Act.put, List.setIfInBounds_toArray, List.set_cons_zero, List.set_cons_succ]
          refine wpAnyH_take (i := 6) (oi := { dst := some 84, op := Op.move (Operand.tmp 83), type := 4, pos := "law.go:529", after := #[{ on := 5, ground := Ground.data }, { on := 3, ground := Ground.chain }, { on := 3, ground := Ground.guard }], guard := some (3, false) }) (v := ?v32) rfl (by kernel_rfl) (by kernel_rfl) (by kernel_rfl) (fun _ _ _ h => h) (Or.inl ⟨by rfl, ?hy32⟩) (by assumption) ?rest32
          case hy32 => (intro w9 hSw; (try dsimp only at hSw); go_simp; try with_reducible rfl)
          try simp only [Act.put, List.setIfInBounds_toArray, List.set_cons_zero, List.set_cons_succ]
          refine wpAnyH_take (i := 7) (oi := { dst := some 85, op := Op.load 26 (Operand.tmp 11), type := 26, pos := "law.go:529", after := #[{ on := 6, ground := Ground.guard }], guard := some (6, true) }) (v := undef) rfl (by kernel_rfl) (by kernel_rfl) (by kernel_rfl) (fun _ _ _ h => h) (Or.inr ⟨by rfl, rfl⟩) (by assumption) ?rest33
          try simp only [Act.put, List.setIfInBounds_toArray, List.set_cons_zero, List.set_cons_succ]
          refine wpAnyH_take (i := 8) (oi := { dst := some 86, op := Op.build 26 #[], type := 26, pos := "law.go:529", after := #[{ on := 6, ground := Ground.guard }], guard := some (6, true) }) (v := undef) rfl (by kernel_rfl) (by kernel_rfl) (by kernel_rfl) (fun _ _ _ h => h) (Or.inr ⟨by rfl, rfl⟩) (by assumption) ?rest34
          try simp only [Act.put, List.setIfInBounds_toArray, List.set_cons_zero, List.set_cons_succ]
          refine wpAnyH_take (i := 9) (oi := { dst := some 87, op := Op.binOp BinOp.neq 26 (Operand.tmp 85) (Operand.tmp 86) 26, type := 4, pos := "law.go:529", after := #[{ on := 7, ground := Ground.data }, { on := 8, ground := Ground.data }, { on := 6, ground := Ground.guard }], guard := some (6, true) }) (v := undef) rfl (by kernel_rfl) (by kernel_rfl) (by kernel_rfl) (fun _ _ _ h => h) (Or.inr ⟨by rfl, rfl⟩) (by assumption) ?rest35
          try simp only [Act.put, List.setIfInBounds_toArray, List.set_cons_zero, List.set_cons_succ]
          refine wpAnyH_take (i := 10) (oi := { dst := some 88, op := Op.pick (Operand.tmp 84) (Operand.tmp 87) (Operand.const (Value.bool false)), type := 4, pos := "law.go:529", after := #[{ on := 6, ground := Ground.data }, { on := 9, ground := Ground.data }, { on := 3, ground := Ground.guard }], guard := some (3, false) }) (v := ?v36) rfl (by kernel_rfl) (by kernel_rfl) (by kernel_rfl) (fun _ _ _ h => h) (Or.inl ⟨by rfl, ?hy36⟩) (by assumption) ?rest36
          case hy36 => (intro w9 hSw; (try dsimp only at hSw); go_simp; try with_reducible rfl)
          try simp only [Act.put, List.setIfInBounds_toArray, List.set_cons_zero, List.set_cons_succ]
          refine wpAnyH_take (i := 11) (oi := { dst := some 89, op := Op.pick (Operand.tmp 81) (Operand.const (Value.bool true)) (Operand.tmp 88), type := 4, pos := "law.go:529", after := #[{ on := 3, ground := Ground.data }, { on := 10, ground := Ground.data }], guard := none }) (v := ?v37) rfl (by kernel_rfl) (by kernel_rfl) (by kernel_rfl) (fun _ _ _ h => h) (Or.inl ⟨by rfl, ?hy37⟩) (by assumption) ?rest37
          case hy37 => (intro w9 hSw; (try dsimp only at hSw); go_simp; try with_reducible rfl)
          try simp only [Act.put, List.setIfInBounds_toArray, List.set_cons_zero, List.set_cons_succ]
          refine wpAnyH_take (i := 12) (oi := { dst := some 90, op := Op.move (Operand.tmp 89), type := 4, pos := "law.go:529", after := #[{ on := 11, ground := Ground.data }, { on := 6, ground := Ground.chain }], guard := none }) (v := ?v38) rfl (by kernel_rfl) (by kernel_rfl) (by kernel_rfl) (fun _ _ _ h => h) (Or.inl ⟨by rfl, ?hy38⟩) (by assumption) ?rest38
          case hy38 => (intro w9 hSw; (try dsimp only at hSw); go_simp; try with_reducible rfl)
          try simp only [Act.put, List.setIfInBounds_toArray, List.set_cons_zero, List.set_cons_succ]
          refine wpAnyH_take (i := 13) (oi := { dst := some 91, op := Op.move (Operand.tmp 22), type := 27, pos := "law.go:529", after := #[{ on := 12, ground := Ground.guard }], guard := some (12, false) }) (v := ?v39) rfl (by kernel_rfl) (by kernel_rfl) (by kernel_rfl) (fun _ _ _ h => h) (Or.inl ⟨by rfl, ?hy39⟩) (by assumption) ?rest39
          case hy39 => (intro w9 hSw; (try dsimp only at hSw); go_simp; try with_reducible rfl)
          try simp only [Act.put, List.setIfInBounds_toArray, List.set_cons_zero, List.set_cons_succ]
          refine wpAnyH_take (i := 14) (oi := { dst := some 92, op := Op.binOp BinOp.eql 27 (Operand.tmp 91) (Operand.const (Value.int IntKind.i64 0)) 27, type := 4, pos := "law.go:529", after := #[{ on := 13, ground := Ground.data }, { on := 12, ground := Ground.guard }], guard := some (12, false) }) (v := ?v40) rfl (by kernel_rfl) (by kernel_rfl) (by kernel_rfl) (fun _ _ _ h => h) (Or.inl ⟨by rfl, ?hy40⟩) (by assumption) ?rest40
          case hy40 => (intro w9 hSw; (try dsimp only at hSw); go_simp; try with_reducible rfl)
          try simp only [Act.put, List.setIfInBounds_toArray, List.set_cons_zero, List.set_cons_succ]
          refine wpAnyH_take (i := 15) (oi := { dst := some 93, op := Op.move (Operand.tmp 92), type := 4, pos := "law.go:529", after := #[{ on := 14, ground := Ground.data }, { on := 12, ground := Ground.chain }, { on := 12, ground := Ground.guard }], guard := some (12, false) }) (v := ?v41) rfl (by kernel_rfl) (by kernel_rfl) (by kernel_rfl) (fun _ _ _ h => h) (Or.inl ⟨by rfl, ?hy41⟩) (by assumption) ?rest41
          case hy41 => (intro w9 hSw; (try dsimp only at hSw); go_simp; try with_reducible rfl)
          try simp only [Act.put, List.setIfInBounds_toArray, List.set_cons_zero, List.set_cons_succ]
          refine wpAnyH_take (i := 16) (oi := { dst := some 94, op := Op.load 26 (Operand.tmp 11), type := 26, pos := "law.go:529", after := #[{ on := 15, ground := Ground.guard }], guard := some (15, true) }) (v := ?v42) rfl (by kernel_rfl) (by kernel_rfl) (by kernel_rfl) (fun _ _ _ h => h) (Or.inl ⟨by rfl, ?hy42⟩) (by assumption) ?rest42
          case hy42 => (intro w9 hSw; (try dsimp only at hSw); go_simp; try with_reducible rfl)
          try simp only [Act.put, List.setIfInBounds_toArray, List.set_cons_zero, List.set_cons_succ]
          refine wpAnyH_take (i := 17) (oi := { dst := some 95, op := Op.move (Operand.tmp 0), type := 22, pos := "law.go:529", after := #[{ on := 15, ground := Ground.guard }], guard := some (15, true) }) (v := ?v43) rfl (by kernel_rfl) (by kernel_rfl) (by kernel_rfl) (fun _ _ _ h => h) (Or.inl ⟨by rfl, ?hy43⟩) (by assumption) ?rest43
          case hy43 => (intro w9 hSw; (try dsimp only at hSw); go_simp; try with_reducible rfl)
          try simp only [Act.put, List.setIfInBounds_toArray, List.set_cons_zero, List.set_cons_succ]
          refine wpAnyH_take (i := 18) (oi := { dst := some 96, op := Op.move (Operand.tmp 1), type := 23, pos := "law.go:529", after := #[{ on := 15, ground := Ground.guard }], guard := some (15, true) }) (v := ?v44) rfl (by kernel_rfl) (by kernel_rfl) (by kernel_rfl) (fun _ _ _ h => h) (Or.inl ⟨by rfl, ?hy44⟩) (by assumption) ?rest44
          case hy44 => (intro w9 hSw; (try dsimp only at hSw); go_simp; try with_reducible rfl)
          try simp only [Act.put, List.setIfInBounds_toArray, List.set_cons_zero, List.set_cons_succ]
          refine wpAnyH_take (i := 20) (oi := { dst := some 98, op := Op.move (Operand.tmp 19), type := 3, pos := "law.go:529", after := #[{ on := 15, ground := Ground.guard }], guard := some (15, true) }) (v := ?v45) rfl (by kernel_rfl) (by kernel_rfl) (by kernel_rfl) (fun _ _ _ h => h) (Or.inl ⟨by rfl, ?hy45⟩) (by assumption) ?rest45
          case hy45 => (intro w9 hSw; (try dsimp only at hSw); go_simp; try with_reducible rfl)
          try simp only [Act.put, List.setIfInBounds_toArray, List.set_cons_zero, List.set_cons_succ]
          refine wpAnyH_ready (rs := [19]) (by kernel_rfl) (by simp) ?_
          refine AllReadyH.cons (o := { dst := some 97, op := Op.call { callee := Callee.value (Operand.func 15), args := #[Operand.tmp 95, Operand.tmp 96], argTypes := #[22, 23] }, type := 3, pos := "law.go:529", after := #[{ on := 17, ground := Ground.data }, { on := 18, ground := Ground.data }, { on := 15, ground := Ground.chain }, { on := 15, ground := Ground.guard }], guard := some (15, true) }) rfl (fun K hK => ?_) AllReadyH.nil
          go_simp
          refine (HHV.out W1.drew (below_step HE1.out.bel (Nat.le_refl _) (below_drewN (Below.refl _ _) 1))).mono ?_
          rintro e w7 ⟨rfl, hb⟩
          have HS7 := hid ((HE1.out.keep (below_drewN (Below.refl _ _) 1)).keep hb)
          have z0w7 := HS7.out.r1.p0
          have z1w7 := HS7.out.r1.p1
          clear hb
          go_wp2_with fail
          refine hK.out _ _ ?hS46 (fun hHeld => ?rest46)
          case hS46 => (try dsimp only); (exact ⟨z0w7, z1w7⟩)
          clear hK K
          try simp only [Act.put, List.setIfInBounds_toArray, List.set_cons_zero, List.set_cons_succ]
          refine wpAnyH_ready (rs := [21]) (by kernel_rfl) (by simp) ?_
          refine AllReadyH.cons (o := { dst := some 99, op := Op.call { callee := Callee.value (Operand.func 14), args := #[Operand.tmp 97, Operand.tmp 98], argTypes := #[3, 3] }, type := 26, pos := "law.go:529", after := #[{ on := 19, ground := Ground.data }, { on := 20, ground := Ground.data }, { on := 19, ground := Ground.chain }, { on := 15, ground := Ground.guard }], guard := some (15, true) }) rfl (fun K hK => ?_) AllReadyH.nil
          go_simp
          refine (HWH.out w7).mono ?_
          rintro e w8 ⟨rfl, hb⟩
          have HS8 := hid (HS7.out.keep hb)
          have z0w8 := HS8.out.r1.p0
          have z1w8 := HS8.out.r1.p1
          clear hb
          go_wp2_with fail
          refine hK.out _ _ ?hS47 (fun hHeld => ?rest47)
          case hS47 => (try dsimp only); (exact ⟨z0w8, z1w8⟩)
          clear hK K
          try simp only [Act.put, List.setIfInBounds_toArray, List.set_cons_zero, List.set_cons_succ]
          refine wpAnyH_take (i := 22) (oi := { dst := some 100, op := Op.binOp BinOp.neq 26 (Operand.tmp 94) (Operand.tmp 99) 26, type := 4, pos := "law.go:529", after := #[{ on := 16, ground := Ground.data }, { on := 21, ground := Ground.data }, { on := 15, ground := Ground.guard }], guard := some (15, true) }) (v := ?v48) rfl (by kernel_rfl) (by kernel_rfl) (by kernel_rfl) (fun _ _ _ h => h) (Or.inl ⟨by rfl, ?hy48⟩) (by assumption) ?rest48
          case hy48 => (intro w9 hSw; (try dsimp only at hSw); go_simp; try with_reducible rfl)
          try simp only [Act.put, List.setIfInBounds_toArray, List.set_cons_zero, List.set_cons_succ]
          refine wpAnyH_take (i := 23) (oi := { dst := some 101, op := Op.pick (Operand.tmp 93) (Operand.tmp 100) (Operand.const (Value.bool false)), type := 4, pos := "law.go:529", after := #[{ on := 15, ground := Ground.data }, { on := 22, ground := Ground.data }, { on := 12, ground := Ground.guard }], guard := some (12, false) }) (v := ?v49) rfl (by kernel_rfl) (by kernel_rfl) (by kernel_rfl) (fun _ _ _ h => h) (Or.inl ⟨by rfl, ?hy49⟩) (by assumption) ?rest49
          case hy49 => (intro w9 hSw; (try dsimp only at hSw); go_simp; try with_reducible rfl)
          try simp only [Act.put, List.setIfInBounds_toArray, List.set_cons_zero, List.set_cons_succ]
          refine wpAnyH_take (i := 24) (oi := { dst := some 102, op := Op.pick (Operand.tmp 90) (Operand.const (Value.bool true)) (Operand.tmp 101), type := 4, pos := "law.go:529", after := #[{ on := 12, ground := Ground.data }, { on := 23, ground := Ground.data }], guard := none }) (v := ?v50) rfl (by kernel_rfl) (by kernel_rfl) (by kernel_rfl) (fun _ _ _ h => h) (Or.inl ⟨by rfl, ?hy50⟩) (by assumption) ?rest50
          case hy50 => (intro w9 hSw; (try dsimp only at hSw); go_simp; try with_reducible rfl)
          try simp only [Act.put, List.setIfInBounds_toArray, List.set_cons_zero, List.set_cons_succ]
          refine wpAnyH_done (by kernel_rfl) ?_ _
          refine NoPanic.normal ?_
          go_wp2_with fail
          go_meet
          exact ⟨rfl, HS8⟩
      case rest =>
        obtain ⟨rfl, HE2⟩ := hcut
        obtain ⟨V2, rfl⟩ : ∃ V2, V2 = wc := ⟨_, rfl⟩
        clear z0 z1 HE1 HWW D1
        go_wp2_with fail
        refine (HK2.out _ HE2.out.bel).mono ?_
        rintro e W2 ⟨rfl, hb⟩
        have HE3 := hid (HE2.out.keep ((below_alloc V2 (.cells #[.int .u16 (a : Int), .int .u16 (b : Int)] 23)).trans (hb.mono (below_alloc V2 _).size)))
        clear hb HK2 HE2
        go_upto_region 17 with fail
        go_cut [133] from 108 to 133 (fun t wx => t = .bool false ∧ Hid (ESay w wx w1.heap.size P1 Q1 w2.heap.size P2 Q2 w4.heap.size P3 Q3))
        case first =>
          have dd : (e2 != e2) = false := by simp
          rcases D2.out with ⟨f1, f2⟩ | ⟨f1, f2, f3, f4, f5⟩
          · subst f2
            have d2 : (e2 == 0) = false := by simpa using f1
            clear f1
            go_wp2_with fail
            go_meet
            exact ⟨rfl, HE3⟩
          · subst f1
            have eT := HAW.out f2
            have ht := f2.totW
            rw [← eT] at ht
            have hx := f2.bd a
            have hy := f2.bd b
            have hz := f2.bd (a &&& b)
            have hq : (wgt ws (a &&& b) * T == wgt ws a * wgt ws b) = q := by rw [f5, eT]; rfl
            obtain ⟨p1, p2⟩ := prod_bd hz ⟨by omega, ht.2⟩
            obtain ⟨p3, p4⟩ := prod_bd hx hy
            have HHV : Hid (∀ (s : Nat) W, s < 2 ^ n → Below w.heap.size w W → Calls Try.prog 15 #[.slice A n c, .int .u16 (s : Int)] W fun e w' => e = .returned (.int .i64 (wgt ws s)) ∧ Below W.heap.size W w') := fun s W hs hw => heavy_w A n c ws s W (HI.out.keep hw) f2 hs
            have HH1 := hid (fun W => HHV.out a W f3)
            have HH2 := hid (fun W => HHV.out b W f4)
            have HH3 := hid (fun W => HHV.out (a &&& b) W (and_lt f3))
            clear eT f2 f3 f4 f5 ht hx hy hz HHV
            generalize wgt ws (a &&& b) = z at *
            generalize wgt ws a = x at *
            generalize wgt ws b = y at *
            go_wp2_with fail
            rw [HAND.out]
            refine (HH3.out _ HE3.out.bel).mono ?_
            rintro e W3 ⟨rfl, hb⟩
            have HE4 := hid (HE3.out.keep hb)
            clear hb
            go_wp2_with fail
            refine (HH1.out _ HE4.out.bel).mono ?_
            rintro e W4 ⟨rfl, hb⟩
            have HE5 := hid (HE4.out.keep hb)
            clear hb
            go_wp2_with fail
            refine (HH2.out _ HE5.out.bel).mono ?_
            rintro e W5 ⟨rfl, hb⟩
            have HE6 := hid (HE5.out.keep hb)
            clear hb HH1 HH2 HH3
            go_wp2_with fail
            go_meet
            exact ⟨by cases q <;> simp_all, HE6⟩
        case rest =>
          obtain ⟨rfl, HE7⟩ := hcut
          obtain ⟨V3, rfl⟩ : ∃ V3, V3 = wc := ⟨_, rfl⟩
          clear D2 HE3
          by_cases hz : e2 = 0 ∧ b = 0
          · have d1 : (e2 == 0) = true := by rw [hz.1]; rfl
            have d2 : ((b : Int) == 0) = true := by rw [hz.2]; rfl
            have h3 : e3 = 5 ∧ P2 = 0 ∧ Q2 = 0 := by
              rcases D3.out with ⟨f1, _⟩ | ⟨_, _, f2⟩ | ⟨_, f1, _⟩
              · exact absurd hz.1 f1
              · exact f2
              · exact absurd hz.2 f1
            obtain ⟨f1, f2, f3⟩ := h3
            clear D3 hz
            subst f1 f2 f3
            have z0 := HE7.out.r2.p0
            have z1 := HE7.out.r2.p1
            go_upto_region 21 with fail
            go_cut [168] from 140 to 168 (fun t wx => t = .bool false ∧ Hid (ESay w wx w1.heap.size P1 Q1 w2.heap.size 0 0 w4.heap.size P3 Q3))
            case first =>
              have HS8 := hid (HE7.out.keep (below_drewN (Below.refl _ _) 1))
              go_wp2_with fail
              refine wp_region_noPanic ?_
              refine wp_region_held_drew (S := (fun u => u.cell? ⟨w2.heap.size, 0, none⟩ = some (.int .i64 0) ∧ u.cell? ⟨w2.heap.size, 1, none⟩ = some (.int .i64 0))) (by kernel_rfl) ⟨z0, z1⟩ (fun hHeld => ?_)
              refine wpAnyH_take (i := 0) (oi := { dst := some 140, op := Op.move (Operand.tmp 14), type := 27, pos := "law.go:539", after := #[], guard := none }) (v := ?v51) rfl (by kernel_rfl) (by kernel_rfl) (by kernel_rfl) (fun _ _ _ h => h) (Or.inl ⟨by rfl, ?hy51⟩) (by assumption) ?rest51
              case hy51 => (intro w9 hSw; (try dsimp only at hSw); go_simp; try with_reducible rfl)
              try simp only [Act.put, List.setIfInBounds_toArray, List.set_cons_zero, List.set_cons_succ]
              refine wpAnyH_take (i := 1) (oi := { dst := some 141, op := Op.move (Operand.tmp 23), type := 27, pos := "law.go:539", after := #[], guard := none }) (v := ?v52) rfl (by kernel_rfl) (by kernel_rfl) (by kernel_rfl) (fun _ _ _ h => h) (Or.inl ⟨by rfl, ?hy52⟩) (by assumption) ?rest52
              case hy52 => (intro w9 hSw; (try dsimp only at hSw); go_simp; try with_reducible rfl)
              try simp only [Act.put, List.setIfInBounds_toArray, List.set_cons_zero, List.set_cons_succ]
              refine wpAnyH_take (i := 2) (oi := { dst := some 142, op := Op.binOp BinOp.neq 27 (Operand.tmp 140) (Operand.tmp 141) 27, type := 4, pos := "law.go:539", after := #[{ on := 0, ground := Ground.data }, { on := 1, ground := Ground.data }], guard := none }) (v := ?v53) rfl (by kernel_rfl) (by kernel_rfl) (by kernel_rfl) (fun _ _ _ h => h) (Or.inl ⟨by rfl, ?hy53⟩) (by assumption) ?rest53
              case hy53 => (intro w9 hSw; (try dsimp only at hSw); go_simp; try with_reducible rfl)
              try simp only [Act.put, List.setIfInBounds_toArray, List.set_cons_zero, List.set_cons_succ]
              refine wpAnyH_take (i := 3) (oi := { dst := some 143, op := Op.move (Operand.tmp 142), type := 4, pos := "law.go:539", after := #[{ on := 2, ground := Ground.data }], guard := none }) (v := ?v54) rfl (by kernel_rfl) (by kernel_rfl) (by kernel_rfl) (fun _ _ _ h => h) (Or.inl ⟨by rfl, ?hy54⟩) (by assumption) ?rest54
              case hy54 => (intro w9 hSw; (try dsimp only at hSw); go_simp; try with_reducible rfl)
              try simp only [Act.put, List.setIfInBounds_toArray, List.set_cons_zero, List.set_cons_succ]
              refine wpAnyH_take (i := 4) (oi := { dst := some 144, op := Op.move (Operand.tmp 23), type := 27, pos := "law.go:539", after := #[{ on := 3, ground := Ground.guard }], guard := some (3, false) }) (v := ?v55) rfl (by kernel_rfl) (by kernel_rfl) (by kernel_rfl) (fun _ _ _ h => h) (Or.inl ⟨by rfl, ?hy55⟩) (by assumption) ?rest55
              case hy55 => (intro w9 hSw; (try dsimp only at hSw); go_simp; try with_reducible rfl)
              try simp only [Act.put, List.setIfInBounds_toArray, List.set_cons_zero, List.set_cons_succ]
              refine wpAnyH_take (i := 5) (oi := { dst := some 145, op := Op.binOp BinOp.neq 27 (Operand.tmp 144) (Operand.const (Value.int IntKind.i64 0)) 27, type := 4, pos := "law.go:539", after := #[{ on := 4, ground := Ground.data }, { on := 3, ground := Ground.guard }], guard := some (3, false) }) (v := ?v56) rfl (by kernel_rfl) (by kernel_rfl) (by kernel_rfl) (fun _ _ _ h => h) (Or.inl ⟨by rfl, ?hy56⟩) (by assumption) ?rest56
              case hy56 => (intro w9 hSw; (try dsimp only at hSw); go_simp; try with_reducible rfl)
              try simp only [Act.put, List.setIfInBounds_toArray, List.set_cons_zero, List.set_cons_succ]
              refine wpAnyH_take (i := 6) (oi := { dst := some 146, op := Op.move (Operand.tmp 145), type := 4, pos := "law.go:539", after := #[{ on := 5, ground := Ground.data }, { on := 3, ground := Ground.chain }, { on := 3, ground := Ground.guard }], guard := some (3, false) }) (v := ?v57) rfl (by kernel_rfl) (by kernel_rfl) (by kernel_rfl) (fun _ _ _ h => h) (Or.inl ⟨by rfl, ?hy57⟩) (by assumption) ?rest57
              case hy57 => (intro w9 hSw; (try dsimp only at hSw); go_simp; try with_reducible rfl)
              try simp only [Act.put, List.setIfInBounds_toArray, List.set_cons_zero, List.set_cons_succ]
              refine wpAnyH_take (i := 7) (oi := { dst := some 147, op := Op.load 26 (Operand.tmp 13), type := 26, pos := "law.go:539", after := #[{ on := 6, ground := Ground.guard }], guard := some (6, true) }) (v := ?v58) rfl (by kernel_rfl) (by kernel_rfl) (by kernel_rfl) (fun _ _ _ h => h) (Or.inl ⟨by rfl, ?hy58⟩) (by assumption) ?rest58
              case hy58 => (intro w9 hSw; (try dsimp only at hSw); go_simp; try with_reducible rfl)
              try simp only [Act.put, List.setIfInBounds_toArray, List.set_cons_zero, List.set_cons_succ]
              refine wpAnyH_take (i := 8) (oi := { dst := some 148, op := Op.build 26 #[], type := 26, pos := "law.go:539", after := #[{ on := 6, ground := Ground.guard }], guard := some (6, true) }) (v := ?v59) rfl (by kernel_rfl) (by kernel_rfl) (by kernel_rfl) (fun _ _ _ h => h) (Or.inl ⟨by rfl, ?hy59⟩) (by assumption) ?rest59
              case hy59 => (intro w9 hSw; (try dsimp only at hSw); go_simp; try with_reducible rfl)
              try simp only [Act.put, List.setIfInBounds_toArray, List.set_cons_zero, List.set_cons_succ]
              refine wpAnyH_take (i := 9) (oi := { dst := some 149, op := Op.binOp BinOp.neq 26 (Operand.tmp 147) (Operand.tmp 148) 26, type := 4, pos := "law.go:539", after := #[{ on := 7, ground := Ground.data }, { on := 8, ground := Ground.data }, { on := 6, ground := Ground.guard }], guard := some (6, true) }) (v := ?v60) rfl (by kernel_rfl) (by kernel_rfl) (by kernel_rfl) (fun _ _ _ h => h) (Or.inl ⟨by rfl, ?hy60⟩) (by assumption) ?rest60
              case hy60 => (intro w9 hSw; (try dsimp only at hSw); go_simp; try with_reducible rfl)
              try simp only [Act.put, List.setIfInBounds_toArray, List.set_cons_zero, List.set_cons_succ]
              refine wpAnyH_take (i := 10) (oi := { dst := some 150, op := Op.pick (Operand.tmp 146) (Operand.tmp 149) (Operand.const (Value.bool false)), type := 4, pos := "law.go:539", after := #[{ on := 6, ground := Ground.data }, { on := 9, ground := Ground.data }, { on := 3, ground := Ground.guard }], guard := some (3, false) }) (v := ?v61) rfl (by kernel_rfl) (by kernel_rfl) (by kernel_rfl) (fun _ _ _ h => h) (Or.inl ⟨by rfl, ?hy61⟩) (by assumption) ?rest61
              case hy61 => (intro w9 hSw; (try dsimp only at hSw); go_simp; try with_reducible rfl)
              try simp only [Act.put, List.setIfInBounds_toArray, List.set_cons_zero, List.set_cons_succ]
              refine wpAnyH_take (i := 11) (oi := { dst := some 151, op := Op.pick (Operand.tmp 143) (Operand.const (Value.bool true)) (Operand.tmp 150), type := 4, pos := "law.go:539", after := #[{ on := 3, ground := Ground.data }, { on := 10, ground := Ground.data }], guard := none }) (v := ?v62) rfl (by kernel_rfl) (by kernel_rfl) (by kernel_rfl) (fun _ _ _ h => h) (Or.inl ⟨by rfl, ?hy62⟩) (by assumption) ?rest62
              case hy62 => (intro w9 hSw; (try dsimp only at hSw); go_simp; try with_reducible rfl)
              try simp only [Act.put, List.setIfInBounds_toArray, List.set_cons_zero, List.set_cons_succ]
              refine wpAnyH_take (i := 12) (oi := { dst := some 152, op := Op.move (Operand.tmp 151), type := 4, pos := "law.go:539", after := #[{ on := 11, ground := Ground.data }, { on := 6, ground := Ground.chain }], guard := none }) (v := ?v63) rfl (by kernel_rfl) (by kernel_rfl) (by kernel_rfl) (fun _ _ _ h => h) (Or.inl ⟨by rfl, ?hy63⟩) (by assumption) ?rest63
              case hy63 => (intro w9 hSw; (try dsimp only at hSw); go_simp; try with_reducible rfl)
              try simp only [Act.put, List.setIfInBounds_toArray, List.set_cons_zero, List.set_cons_succ]
              refine wpAnyH_take (i := 13) (oi := { dst := some 153, op := Op.move (Operand.tmp 23), type := 27, pos := "law.go:539", after := #[{ on := 12, ground := Ground.guard }], guard := some (12, false) }) (v := ?v64) rfl (by kernel_rfl) (by kernel_rfl) (by kernel_rfl) (fun _ _ _ h => h) (Or.inl ⟨by rfl, ?hy64⟩) (by assumption) ?rest64
              case hy64 => (intro w9 hSw; (try dsimp only at hSw); go_simp; try with_reducible rfl)
              try simp only [Act.put, List.setIfInBounds_toArray, List.set_cons_zero, List.set_cons_succ]
              refine wpAnyH_take (i := 14) (oi := { dst := some 154, op := Op.binOp BinOp.eql 27 (Operand.tmp 153) (Operand.const (Value.int IntKind.i64 0)) 27, type := 4, pos := "law.go:539", after := #[{ on := 13, ground := Ground.data }, { on := 12, ground := Ground.guard }], guard := some (12, false) }) (v := ?v65) rfl (by kernel_rfl) (by kernel_rfl) (by kernel_rfl) (fun _ _ _ h => h) (Or.inl ⟨by rfl, ?hy65⟩) (by assumption) ?rest65
              case hy65 => (intro w9 hSw; (try dsimp only at hSw); go_simp; try with_reducible rfl)
              try simp only [Act.put, List.setIfInBounds_toArray, List.set_cons_zero, List.set_cons_succ]
              refine wpAnyH_take (i := 15) (oi := { dst := some 155, op := Op.move (Operand.tmp 154), type := 4, pos := "law.go:539", after := #[{ on := 14, ground := Ground.data }, { on := 12, ground := Ground.chain }, { on := 12, ground := Ground.guard }], guard := some (12, false) }) (v := ?v66) rfl (by kernel_rfl) (by kernel_rfl) (by kernel_rfl) (fun _ _ _ h => h) (Or.inl ⟨by rfl, ?hy66⟩) (by assumption) ?rest66
              case hy66 => (intro w9 hSw; (try dsimp only at hSw); go_simp; try with_reducible rfl)
              try simp only [Act.put, List.setIfInBounds_toArray, List.set_cons_zero, List.set_cons_succ]
              refine wpAnyH_take (i := 16) (oi := { dst := some 156, op := Op.load 26 (Operand.tmp 13), type := 26, pos := "law.go:539", after := #[{ on := 15, ground := Ground.guard }], guard := some (15, true) }) (v := undef) rfl (by kernel_rfl) (by kernel_rfl) (by kernel_rfl) (fun _ _ _ h => h) (Or.inr ⟨by rfl, rfl⟩) (by assumption) ?rest67
              try simp only [Act.put, List.setIfInBounds_toArray, List.set_cons_zero, List.set_cons_succ]
              refine wpAnyH_take (i := 17) (oi := { dst := some 157, op := Op.move (Operand.tmp 0), type := 22, pos := "law.go:539", after := #[{ on := 15, ground := Ground.guard }], guard := some (15, true) }) (v := undef) rfl (by kernel_rfl) (by kernel_rfl) (by kernel_rfl) (fun _ _ _ h => h) (Or.inr ⟨by rfl, rfl⟩) (by assumption) ?rest68
              try simp only [Act.put, List.setIfInBounds_toArray, List.set_cons_zero, List.set_cons_succ]
              refine wpAnyH_take (i := 18) (oi := { dst := some 158, op := Op.move (Operand.tmp 1), type := 23, pos := "law.go:539", after := #[{ on := 15, ground := Ground.guard }], guard := some (15, true) }) (v := undef) rfl (by kernel_rfl) (by kernel_rfl) (by kernel_rfl) (fun _ _ _ h => h) (Or.inr ⟨by rfl, rfl⟩) (by assumption) ?rest69
              try simp only [Act.put, List.setIfInBounds_toArray, List.set_cons_zero, List.set_cons_succ]
              refine wpAnyH_take (i := 19) (oi := { dst := some 159, op := Op.move (Operand.tmp 2), type := 23, pos := "law.go:539", after := #[{ on := 15, ground := Ground.guard }], guard := some (15, true) }) (v := undef) rfl (by kernel_rfl) (by kernel_rfl) (by kernel_rfl) (fun _ _ _ h => h) (Or.inr ⟨by rfl, rfl⟩) (by assumption) ?rest70
              try simp only [Act.put, List.setIfInBounds_toArray, List.set_cons_zero, List.set_cons_succ]
              refine wpAnyH_take (i := 20) (oi := { dst := some 160, op := Op.binOp BinOp.and 23 (Operand.tmp 158) (Operand.tmp 159) 23, type := 23, pos := "law.go:539", after := #[{ on := 18, ground := Ground.data }, { on := 19, ground := Ground.data }, { on := 15, ground := Ground.guard }], guard := some (15, true) }) (v := undef) rfl (by kernel_rfl) (by kernel_rfl) (by kernel_rfl) (fun _ _ _ h => h) (Or.inr ⟨by rfl, rfl⟩) (by assumption) ?rest71
              try simp only [Act.put, List.setIfInBounds_toArray, List.set_cons_zero, List.set_cons_succ]
              refine wpAnyH_take (i := 21) (oi := { dst := some 161, op := Op.call { callee := Callee.value (Operand.func 15), args := #[Operand.tmp 157, Operand.tmp 160], argTypes := #[22, 23] }, type := 3, pos := "law.go:539", after := #[{ on := 17, ground := Ground.data }, { on := 20, ground := Ground.data }, { on := 15, ground := Ground.chain }, { on := 15, ground := Ground.guard }], guard := some (15, true) }) (v := undef) rfl (by kernel_rfl) (by kernel_rfl) (by kernel_rfl) (fun _ _ _ h => h) (Or.inr ⟨by rfl, rfl⟩) (by assumption) ?rest72
              try simp only [Act.put, List.setIfInBounds_toArray, List.set_cons_zero, List.set_cons_succ]
              refine wpAnyH_take (i := 22) (oi := { dst := some 162, op := Op.move (Operand.tmp 0), type := 22, pos := "law.go:539", after := #[{ on := 15, ground := Ground.guard }], guard := some (15, true) }) (v := undef) rfl (by kernel_rfl) (by kernel_rfl) (by kernel_rfl) (fun _ _ _ h => h) (Or.inr ⟨by rfl, rfl⟩) (by assumption) ?rest73
              try simp only [Act.put, List.setIfInBounds_toArray, List.set_cons_zero, List.set_cons_succ]
              refine wpAnyH_take (i := 23) (oi := { dst := some 163, op := Op.move (Operand.tmp 2), type := 23, pos := "law.go:539", after := #[{ on := 15, ground := Ground.guard }], guard := some (15, true) }) (v := undef) rfl (by kernel_rfl) (by kernel_rfl) (by kernel_rfl) (fun _ _ _ h => h) (Or.inr ⟨by rfl, rfl⟩) (by assumption) ?rest74
              try simp only [Act.put, List.setIfInBounds_toArray, List.set_cons_zero, List.set_cons_succ]
              refine wpAnyH_take (i := 24) (oi := { dst := some 164, op := Op.call { callee := Callee.value (Operand.func 15), args := #[Operand.tmp 162, Operand.tmp 163], argTypes := #[22, 23] }, type := 3, pos := "law.go:539", after := #[{ on := 22, ground := Ground.data }, { on := 23, ground := Ground.data }, { on := 21, ground := Ground.chain }, { on := 15, ground := Ground.guard }], guard := some (15, true) }) (v := undef) rfl (by kernel_rfl) (by kernel_rfl) (by kernel_rfl) (fun _ _ _ h => h) (Or.inr ⟨by rfl, rfl⟩) (by assumption) ?rest75
              try simp only [Act.put, List.setIfInBounds_toArray, List.set_cons_zero, List.set_cons_succ]
              refine wpAnyH_take (i := 25) (oi := { dst := some 165, op := Op.call { callee := Callee.value (Operand.func 14), args := #[Operand.tmp 161, Operand.tmp 164], argTypes := #[3, 3] }, type := 26, pos := "law.go:539", after := #[{ on := 21, ground := Ground.data }, { on := 24, ground := Ground.data }, { on := 24, ground := Ground.chain }, { on := 15, ground := Ground.guard }], guard := some (15, true) }) (v := undef) rfl (by kernel_rfl) (by kernel_rfl) (by kernel_rfl) (fun _ _ _ h => h) (Or.inr ⟨by rfl, rfl⟩) (by assumption) ?rest76
              try simp only [Act.put, List.setIfInBounds_toArray, List.set_cons_zero, List.set_cons_succ]
              refine wpAnyH_take (i := 26) (oi := { dst := some 166, op := Op.binOp BinOp.neq 26 (Operand.tmp 156) (Operand.tmp 165) 26, type := 4, pos := "law.go:539", after := #[{ on := 16, ground := Ground.data }, { on := 25, ground := Ground.data }, { on := 15, ground := Ground.guard }], guard := some (15, true) }) (v := undef) rfl (by kernel_rfl) (by kernel_rfl) (by kernel_rfl) (fun _ _ _ h => h) (Or.inr ⟨by rfl, rfl⟩) (by assumption) ?rest77
              try simp only [Act.put, List.setIfInBounds_toArray, List.set_cons_zero, List.set_cons_succ]
              refine wpAnyH_take (i := 27) (oi := { dst := some 167, op := Op.pick (Operand.tmp 155) (Operand.tmp 166) (Operand.const (Value.bool false)), type := 4, pos := "law.go:539", after := #[{ on := 15, ground := Ground.data }, { on := 26, ground := Ground.data }, { on := 12, ground := Ground.guard }], guard := some (12, false) }) (v := ?v78) rfl (by kernel_rfl) (by kernel_rfl) (by kernel_rfl) (fun _ _ _ h => h) (Or.inl ⟨by rfl, ?hy78⟩) (by assumption) ?rest78
              case hy78 => (intro w9 hSw; (try dsimp only at hSw); go_simp; try with_reducible rfl)
              try simp only [Act.put, List.setIfInBounds_toArray, List.set_cons_zero, List.set_cons_succ]
              refine wpAnyH_take (i := 28) (oi := { dst := some 168, op := Op.pick (Operand.tmp 152) (Operand.const (Value.bool true)) (Operand.tmp 167), type := 4, pos := "law.go:539", after := #[{ on := 12, ground := Ground.data }, { on := 27, ground := Ground.data }], guard := none }) (v := ?v79) rfl (by kernel_rfl) (by kernel_rfl) (by kernel_rfl) (fun _ _ _ h => h) (Or.inl ⟨by rfl, ?hy79⟩) (by assumption) ?rest79
              case hy79 => (intro w9 hSw; (try dsimp only at hSw); go_simp; try with_reducible rfl)
              try simp only [Act.put, List.setIfInBounds_toArray, List.set_cons_zero, List.set_cons_succ]
              refine wpAnyH_done (by kernel_rfl) ?_ _
              refine NoPanic.normal ?_
              go_wp2_with fail
              go_meet
              exact ⟨rfl, HS8⟩
            case rest =>
              obtain ⟨rfl, HE8⟩ := hcut
              obtain ⟨V4, rfl⟩ : ∃ V4, V4 = wc := ⟨_, rfl⟩
              clear z0 z1 d1 d2 HE7
              go_wp2_with fail
              refine (HK3.out _ HE8.out.bel).mono ?_
              rintro e W7 ⟨rfl, hb⟩
              have HF := hid (HE8.out.keep hb)
              have z0 := HF.out.r3.p0
              have z1 := HF.out.r3.p1
              clear hb HK3
              rcases D4.out with ⟨f1, f2, f3, f4⟩ | ⟨f1, f2, f3, f4, f5⟩ | ⟨f1, f2, f3, ⟨f4, f5⟩, f6, f7⟩
              · subst f2 f3 f4
                have d1 : (e4 != 0) = true := by simpa using f1
                have d2 : (e4 == 0) = false := by simpa using f1
                clear f1
                go_wp2
                go_ret
                exact ⟨rfl, HF.out.bel⟩
              · subst f1 f3 f4 f5
                go_wp2
                go_ret
                exact ⟨rfl, HF.out.bel⟩
              · subst f1 f3
                have eT := HAW.out f4
                have ht := f4.totW
                have hx : 0 ≤ cw ws (enI l least) ∧ cw ws (enI l least) ≤ 1200 := by
                  have h := f4.bd (enM l least ws.length)
                  rw [wgt_enM] at h
                  exact h
                have HWH : Hid (∀ W, Calls Try.prog 14 #[.int .i64 (cw ws (enI l least)), .int .i64 T] W fun e w' => e = .returned (.agg #[.int .i64 P3, .int .i64 Q3]) ∧ Below W.heap.size W w') := fun W => by
                  have e1 : chR ws (enM l least n) = Rat.divInt (cw ws (enI l least)) (totW ws) := by rw [chR, ← HL.out, wgt_enM]
                  rw [f6, f7, e1, eT]
                  exact whole_w _ _ hx ⟨ht.1, ht.2⟩ W
                have HS := hid f4
                have hn12 : n ≤ 12 := by rw [← HL.out]; exact f4.hi
                have HLJ := hid HJ.out.len
                have HI9 := hid (HI.out.keep HF.out.bel)
                have HJ9 := hid (HJ.out.keep HF.out.bel)
                clear eT ht hx f4 f5 f6 f7 z0 z1 D4
                go_wp2_with fail
                go_loopg [24, 191] n (fun g s z wr => ∃ k : Nat, k ≤ n ∧ n - k ≤ g ∧ s = .int .i64 (cw (ws.take k) (enI l least)) ∧ z = .int .i64 (k : Int) ∧ W7 = wr)
                case atStart => exact ⟨0, by omega, by omega, rfl, rfl, rfl⟩
                case round =>
                  obtain ⟨k, hk, hg, rfl, rfl, rfl⟩ := hrel
                  by_cases hlt : k < n
                  · obtain ⟨b', o, rfl, hb, hc⟩ := HI9.out.row (by omega)
                    have g1 := hc k hlt
                    have hkl : k < ws.length := by rw [HL.out]; exact hlt
                    have HT := hid (cw_take (l := ws) (enI l least) hkl)
                    have hpart : 0 ≤ cw (ws.take k) (enI l least) ∧ cw (ws.take k) (enI l least) ≤ 1200 := by
                      have h9 := part_bd HS.out l least k
                      exact h9
                    have hw := HS.out.w _ (getD_mem hkl)
                    clear hc hkl
                    generalize cw (ws.take k) (enI l least) = x at *
                    generalize ws.getD k 0 = y at *
                    go_wp2_with fail
                    go_loopg [27, 29, 198] m (fun g s _ z wr => ∃ j : Nat, j ≤ m ∧ m - j ≤ g ∧ s = .int .i64 ((occ (l.take j) k : Nat) : Int) ∧ z = .int .i64 (j : Int) ∧ W7 = wr)
                    case atStart => exact ⟨0, by omega, by omega, rfl, rfl, rfl⟩
                    case round =>
                      obtain ⟨j, hj, hgj, rfl, rfl, rfl⟩ := hrel
                      by_cases hjm : j < m
                      · obtain ⟨b'', o', rfl, hb', hc'⟩ := HJ9.out.row (by omega)
                        have g2 := hc' j hjm
                        have h1 := shr_one (k := k) (HJ9.out.get hjm)
                        have HM := hid (occ_take (l := l) k (k := j) (by rw [HLJ.out]; exact hjm))
                        have h2 : l.getD j 0 / 2 ^ k % 2 < 2 := Nat.mod_lt _ (by omega)
                        have h3 := occ_le (l.take j) k
                        rw [List.length_take] at h3
                        clear hc'
                        generalize l.getD j 0 / 2 ^ k % 2 = r at *
                        generalize occ (l.take j) k = u at *
                        generalize l.getD j 0 = v at *
                        go_wp2
                        go_roundg (m - (j + 1))
                        case measure => omega
                        case rel => exact ⟨j + 1, by omega, by omega, by rw [HM.out]; go_num, by go_num, rfl⟩
                      · obtain rfl : m = j := by omega
                        rw [show l.take m = l by rw [← HLJ.out]; exact List.take_length]
                        have HIE : Hid (enI l least k = if least ≤ (occ l k : Int) then 1 else 0) := rfl
                        have h3 := occ_le l k
                        generalize occ l k = u at *
                        by_cases hle : least ≤ (u : Int)
                        · rw [if_pos hle] at HIE
                          rw [HIE.out, Int.mul_one] at HT
                          go_wp2
                          go_roundg (n - (k + 1))
                          case measure => omega
                          case rel => exact ⟨k + 1, by omega, by omega, by rw [HT.out], by go_num, rfl⟩
                        · rw [if_neg hle] at HIE
                          rw [HIE.out, Int.mul_zero, Int.add_zero] at HT
                          go_wp2
                          go_roundg (n - (k + 1))
                          case measure => omega
                          case rel => exact ⟨k + 1, by omega, by omega, by rw [HT.out], by go_num, rfl⟩
                  · obtain rfl : n = k := by omega
                    rw [show ws.take n = ws by rw [← HL.out]; exact List.take_length]
                    have z0 := HF.out.r3.p0
                    have z1 := HF.out.r3.p1
                    generalize cw ws (enI l least) = x at *
                    go_wp2_with fail
                    refine wp_region_noPanic ?_
                    refine wp_region_held_drew (S := (fun u => u.cell? ⟨w4.heap.size, 0, none⟩ = some (.int .i64 P3) ∧ u.cell? ⟨w4.heap.size, 1, none⟩ = some (.int .i64 Q3))) (by kernel_rfl) ⟨z0, z1⟩ (fun hHeld => ?_)
                    refine wpAnyH_take (i := 0) (oi := { dst := some 217, op := Op.move (Operand.tmp 18), type := 27, pos := "law.go:559", after := #[], guard := none }) (v := ?v80) rfl (by kernel_rfl) (by kernel_rfl) (by kernel_rfl) (fun _ _ _ h => h) (Or.inl ⟨by rfl, ?hy80⟩) (by assumption) ?rest80
                    case hy80 => (intro w9 hSw; (try dsimp only at hSw); go_simp; try with_reducible rfl)
                    try simp only [Act.put, List.setIfInBounds_toArray, List.set_cons_zero, List.set_cons_succ]
                    refine wpAnyH_take (i := 1) (oi := { dst := some 218, op := Op.binOp BinOp.eql 27 (Operand.tmp 217) (Operand.const (Value.int IntKind.i64 0)) 27, type := 4, pos := "law.go:559", after := #[{ on := 0, ground := Ground.data }], guard := none }) (v := ?v81) rfl (by kernel_rfl) (by kernel_rfl) (by kernel_rfl) (fun _ _ _ h => h) (Or.inl ⟨by rfl, ?hy81⟩) (by assumption) ?rest81
                    case hy81 => (intro w9 hSw; (try dsimp only at hSw); go_simp; try with_reducible rfl)
                    try simp only [Act.put, List.setIfInBounds_toArray, List.set_cons_zero, List.set_cons_succ]
                    refine wpAnyH_take (i := 2) (oi := { dst := some 219, op := Op.move (Operand.tmp 218), type := 4, pos := "law.go:559", after := #[{ on := 1, ground := Ground.data }], guard := none }) (v := ?v82) rfl (by kernel_rfl) (by kernel_rfl) (by kernel_rfl) (fun _ _ _ h => h) (Or.inl ⟨by rfl, ?hy82⟩) (by assumption) ?rest82
                    case hy82 => (intro w9 hSw; (try dsimp only at hSw); go_simp; try with_reducible rfl)
                    try simp only [Act.put, List.setIfInBounds_toArray, List.set_cons_zero, List.set_cons_succ]
                    refine wpAnyH_take (i := 3) (oi := { dst := some 220, op := Op.load 26 (Operand.tmp 17), type := 26, pos := "law.go:559", after := #[{ on := 2, ground := Ground.guard }], guard := some (2, true) }) (v := ?v83) rfl (by kernel_rfl) (by kernel_rfl) (by kernel_rfl) (fun _ _ _ h => h) (Or.inl ⟨by rfl, ?hy83⟩) (by assumption) ?rest83
                    case hy83 => (intro w9 hSw; (try dsimp only at hSw); go_simp; try with_reducible rfl)
                    try simp only [Act.put, List.setIfInBounds_toArray, List.set_cons_zero, List.set_cons_succ]
                    refine wpAnyH_take (i := 4) (oi := { dst := some 221, op := Op.move (Operand.tmp 24), type := 3, pos := "law.go:559", after := #[{ on := 2, ground := Ground.guard }], guard := some (2, true) }) (v := ?v84) rfl (by kernel_rfl) (by kernel_rfl) (by kernel_rfl) (fun _ _ _ h => h) (Or.inl ⟨by rfl, ?hy84⟩) (by assumption) ?rest84
                    case hy84 => (intro w9 hSw; (try dsimp only at hSw); go_simp; try with_reducible rfl)
                    try simp only [Act.put, List.setIfInBounds_toArray, List.set_cons_zero, List.set_cons_succ]
                    refine wpAnyH_take (i := 5) (oi := { dst := some 222, op := Op.move (Operand.tmp 19), type := 3, pos := "law.go:559", after := #[{ on := 2, ground := Ground.guard }], guard := some (2, true) }) (v := ?v85) rfl (by kernel_rfl) (by kernel_rfl) (by kernel_rfl) (fun _ _ _ h => h) (Or.inl ⟨by rfl, ?hy85⟩) (by assumption) ?rest85
                    case hy85 => (intro w9 hSw; (try dsimp only at hSw); go_simp; try with_reducible rfl)
                    try simp only [Act.put, List.setIfInBounds_toArray, List.set_cons_zero, List.set_cons_succ]
                    refine wpAnyH_ready (rs := [6]) (by kernel_rfl) (by simp) ?_
                    refine AllReadyH.cons (o := { dst := some 223, op := Op.call { callee := Callee.value (Operand.func 14), args := #[Operand.tmp 221, Operand.tmp 222], argTypes := #[3, 3] }, type := 26, pos := "law.go:559", after := #[{ on := 4, ground := Ground.data }, { on := 5, ground := Ground.data }, { on := 2, ground := Ground.chain }, { on := 2, ground := Ground.guard }], guard := some (2, true) }) rfl (fun K hK => ?_) AllReadyH.nil
                    go_simp
                    refine (HWH.out W7.drew).mono ?_
                    rintro e w8 ⟨rfl, hb⟩
                    have HS8 := hid ((HF.out.keep (below_drewN (Below.refl _ _) 1)).keep hb)
                    have z0w8 := HS8.out.r3.p0
                    have z1w8 := HS8.out.r3.p1
                    clear hb
                    go_wp2_with fail
                    refine hK.out _ _ ?hS86 (fun hHeld => ?rest86)
                    case hS86 => (try dsimp only); (exact ⟨z0w8, z1w8⟩)
                    clear hK K
                    try simp only [Act.put, List.setIfInBounds_toArray, List.set_cons_zero, List.set_cons_succ]
                    refine wpAnyH_take (i := 7) (oi := { dst := some 224, op := Op.binOp BinOp.eql 26 (Operand.tmp 220) (Operand.tmp 223) 26, type := 4, pos := "law.go:559", after := #[{ on := 3, ground := Ground.data }, { on := 6, ground := Ground.data }, { on := 2, ground := Ground.guard }], guard := some (2, true) }) (v := ?v87) rfl (by kernel_rfl) (by kernel_rfl) (by kernel_rfl) (fun _ _ _ h => h) (Or.inl ⟨by rfl, ?hy87⟩) (by assumption) ?rest87
                    case hy87 => (intro w9 hSw; (try dsimp only at hSw); go_simp; try with_reducible rfl)
                    try simp only [Act.put, List.setIfInBounds_toArray, List.set_cons_zero, List.set_cons_succ]
                    refine wpAnyH_take (i := 8) (oi := { dst := some 225, op := Op.pick (Operand.tmp 219) (Operand.tmp 224) (Operand.const (Value.bool false)), type := 4, pos := "law.go:559", after := #[{ on := 2, ground := Ground.data }, { on := 7, ground := Ground.data }], guard := none }) (v := ?v88) rfl (by kernel_rfl) (by kernel_rfl) (by kernel_rfl) (fun _ _ _ h => h) (Or.inl ⟨by rfl, ?hy88⟩) (by assumption) ?rest88
                    case hy88 => (intro w9 hSw; (try dsimp only at hSw); go_simp; try with_reducible rfl)
                    try simp only [Act.put, List.setIfInBounds_toArray, List.set_cons_zero, List.set_cons_succ]
                    refine wpAnyH_take (i := 9) (oi := { dst := some 10, op := Op.assign (Operand.tmp 225), type := 4, pos := "law.go:559", after := #[{ on := 8, ground := Ground.data }, { on := 6, ground := Ground.chain }, { on := 0, ground := Ground.phase }, { on := 1, ground := Ground.phase }, { on := 2, ground := Ground.phase }, { on := 3, ground := Ground.phase }, { on := 4, ground := Ground.phase }, { on := 5, ground := Ground.phase }, { on := 6, ground := Ground.phase }, { on := 7, ground := Ground.phase }, { on := 8, ground := Ground.phase }], guard := none }) (v := ?v89) rfl (by kernel_rfl) (by kernel_rfl) (by kernel_rfl) (fun _ _ _ h => h) (Or.inl ⟨by rfl, ?hy89⟩) (by assumption) ?rest89
                    case hy89 => (intro w9 hSw; (try dsimp only at hSw); go_simp; try with_reducible rfl)
                    try simp only [Act.put, List.setIfInBounds_toArray, List.set_cons_zero, List.set_cons_succ]
                    refine wpAnyH_done (by kernel_rfl) ?_ _
                    refine NoPanic.normal ?_
                    go_wp2
                    go_ret
                    exact ⟨by simp, HS8.out.bel⟩
          · go_upto_region 19 with fail
            go_cut [139] from 134 to 139 (fun t wx => t = .bool false ∧ V3 = wx)
            case first =>
              by_cases hz1 : e2 = 0
              · have d1 : (e2 == 0) = true := by rw [hz1]; rfl
                have d2 : ((b : Int) == 0) = false := by
                  have : ¬ b = 0 := fun h => hz ⟨hz1, h⟩
                  simpa using this
                go_wp2_with fail
                go_meet
                exact ⟨rfl, rfl⟩
              · have d1 : (e2 == 0) = false := by simpa using hz1
                go_wp2_with fail
                go_meet
                exact ⟨rfl, rfl⟩
            case rest =>
              obtain ⟨rfl, rfl⟩ := hcut
              have z0 := HE7.out.r2.p0
              have z1 := HE7.out.r2.p1
              go_upto_region 21 with fail
              go_cut [168] from 140 to 168 (fun t wx => t = .bool false ∧ Hid (ESay w wx w1.heap.size P1 Q1 w2.heap.size P2 Q2 w4.heap.size P3 Q3))
              case first =>
                rcases D3.out with ⟨f1, f2, f3, f4⟩ | ⟨f1, f2, _⟩ | ⟨f1, f2, f3, ⟨f4, f5, f6⟩, f7, f8⟩
                · subst f2 f3 f4
                  have dd : (e3 != e3) = false := by simp
                  have d1 : (e3 != 0) = true := by simpa using f1
                  have d2 : (e3 == 0) = false := by simpa using f1
                  have HS8 := hid (HE7.out.keep (below_drewN (Below.refl _ _) 1))
                  clear f1 hz
                  go_wp2_with fail
                  refine wp_region_noPanic ?_
                  refine wp_region_held_drew (S := (fun u => u.cell? ⟨w2.heap.size, 0, none⟩ = some (.int .i64 0) ∧ u.cell? ⟨w2.heap.size, 1, none⟩ = some (.int .i64 0))) (by kernel_rfl) ⟨z0, z1⟩ (fun hHeld => ?_)
                  refine wpAnyH_take (i := 0) (oi := { dst := some 140, op := Op.move (Operand.tmp 14), type := 27, pos := "law.go:539", after := #[], guard := none }) (v := ?v90) rfl (by kernel_rfl) (by kernel_rfl) (by kernel_rfl) (fun _ _ _ h => h) (Or.inl ⟨by rfl, ?hy90⟩) (by assumption) ?rest90
                  case hy90 => (intro w9 hSw; (try dsimp only at hSw); go_simp; try with_reducible rfl)
                  try simp only [Act.put, List.setIfInBounds_toArray, List.set_cons_zero, List.set_cons_succ]
                  refine wpAnyH_take (i := 1) (oi := { dst := some 141, op := Op.move (Operand.tmp 23), type := 27, pos := "law.go:539", after := #[], guard := none }) (v := ?v91) rfl (by kernel_rfl) (by kernel_rfl) (by kernel_rfl) (fun _ _ _ h => h) (Or.inl ⟨by rfl, ?hy91⟩) (by assumption) ?rest91
                  case hy91 => (intro w9 hSw; (try dsimp only at hSw); go_simp; try with_reducible rfl)
                  try simp only [Act.put, List.setIfInBounds_toArray, List.set_cons_zero, List.set_cons_succ]
                  refine wpAnyH_take (i := 2) (oi := { dst := some 142, op := Op.binOp BinOp.neq 27 (Operand.tmp 140) (Operand.tmp 141) 27, type := 4, pos := "law.go:539", after := #[{ on := 0, ground := Ground.data }, { on := 1, ground := Ground.data }], guard := none }) (v := ?v92) rfl (by kernel_rfl) (by kernel_rfl) (by kernel_rfl) (fun _ _ _ h => h) (Or.inl ⟨by rfl, ?hy92⟩) (by assumption) ?rest92
                  case hy92 => (intro w9 hSw; (try dsimp only at hSw); go_simp; try with_reducible rfl)
                  try simp only [Act.put, List.setIfInBounds_toArray, List.set_cons_zero, List.set_cons_succ]
                  refine wpAnyH_take (i := 3) (oi := { dst := some 143, op := Op.move (Operand.tmp 142), type := 4, pos := "law.go:539", after := #[{ on := 2, ground := Ground.data }], guard := none }) (v := ?v93) rfl (by kernel_rfl) (by kernel_rfl) (by kernel_rfl) (fun _ _ _ h => h) (Or.inl ⟨by rfl, ?hy93⟩) (by assumption) ?rest93
                  case hy93 => (intro w9 hSw; (try dsimp only at hSw); go_simp; try with_reducible rfl)
                  try simp only [Act.put, List.setIfInBounds_toArray, List.set_cons_zero, List.set_cons_succ]
                  refine wpAnyH_take (i := 4) (oi := { dst := some 144, op := Op.move (Operand.tmp 23), type := 27, pos := "law.go:539", after := #[{ on := 3, ground := Ground.guard }], guard := some (3, false) }) (v := ?v94) rfl (by kernel_rfl) (by kernel_rfl) (by kernel_rfl) (fun _ _ _ h => h) (Or.inl ⟨by rfl, ?hy94⟩) (by assumption) ?rest94
                  case hy94 => (intro w9 hSw; (try dsimp only at hSw); go_simp; try with_reducible rfl)
                  try simp only [Act.put, List.setIfInBounds_toArray, List.set_cons_zero, List.set_cons_succ]
                  refine wpAnyH_take (i := 5) (oi := { dst := some 145, op := Op.binOp BinOp.neq 27 (Operand.tmp 144) (Operand.const (Value.int IntKind.i64 0)) 27, type := 4, pos := "law.go:539", after := #[{ on := 4, ground := Ground.data }, { on := 3, ground := Ground.guard }], guard := some (3, false) }) (v := ?v95) rfl (by kernel_rfl) (by kernel_rfl) (by kernel_rfl) (fun _ _ _ h => h) (Or.inl ⟨by rfl, ?hy95⟩) (by assumption) ?rest95
                  case hy95 => (intro w9 hSw; (try dsimp only at hSw); go_simp; try with_reducible rfl)
                  try simp only [Act.put, List.setIfInBounds_toArray, List.set_cons_zero, List.set_cons_succ]
                  refine wpAnyH_take (i := 6) (oi := { dst := some 146, op := Op.move (Operand.tmp 145), type := 4, pos := "law.go:539", after := #[{ on := 5, ground := Ground.data }, { on := 3, ground := Ground.chain }, { on := 3, ground := Ground.guard }], guard := some (3, false) }) (v := ?v96) rfl (by kernel_rfl) (by kernel_rfl) (by kernel_rfl) (fun _ _ _ h => h) (Or.inl ⟨by rfl, ?hy96⟩) (by assumption) ?rest96
                  case hy96 => (intro w9 hSw; (try dsimp only at hSw); go_simp; try with_reducible rfl)
                  try simp only [Act.put, List.setIfInBounds_toArray, List.set_cons_zero, List.set_cons_succ]
                  refine wpAnyH_take (i := 7) (oi := { dst := some 147, op := Op.load 26 (Operand.tmp 13), type := 26, pos := "law.go:539", after := #[{ on := 6, ground := Ground.guard }], guard := some (6, true) }) (v := ?v97) rfl (by kernel_rfl) (by kernel_rfl) (by kernel_rfl) (fun _ _ _ h => h) (Or.inl ⟨by rfl, ?hy97⟩) (by assumption) ?rest97
                  case hy97 => (intro w9 hSw; (try dsimp only at hSw); go_simp; try with_reducible rfl)
                  try simp only [Act.put, List.setIfInBounds_toArray, List.set_cons_zero, List.set_cons_succ]
                  refine wpAnyH_take (i := 8) (oi := { dst := some 148, op := Op.build 26 #[], type := 26, pos := "law.go:539", after := #[{ on := 6, ground := Ground.guard }], guard := some (6, true) }) (v := ?v98) rfl (by kernel_rfl) (by kernel_rfl) (by kernel_rfl) (fun _ _ _ h => h) (Or.inl ⟨by rfl, ?hy98⟩) (by assumption) ?rest98
                  case hy98 => (intro w9 hSw; (try dsimp only at hSw); go_simp; try with_reducible rfl)
                  try simp only [Act.put, List.setIfInBounds_toArray, List.set_cons_zero, List.set_cons_succ]
                  refine wpAnyH_take (i := 9) (oi := { dst := some 149, op := Op.binOp BinOp.neq 26 (Operand.tmp 147) (Operand.tmp 148) 26, type := 4, pos := "law.go:539", after := #[{ on := 7, ground := Ground.data }, { on := 8, ground := Ground.data }, { on := 6, ground := Ground.guard }], guard := some (6, true) }) (v := ?v99) rfl (by kernel_rfl) (by kernel_rfl) (by kernel_rfl) (fun _ _ _ h => h) (Or.inl ⟨by rfl, ?hy99⟩) (by assumption) ?rest99
                  case hy99 => (intro w9 hSw; (try dsimp only at hSw); go_simp; try with_reducible rfl)
                  try simp only [Act.put, List.setIfInBounds_toArray, List.set_cons_zero, List.set_cons_succ]
                  refine wpAnyH_take (i := 10) (oi := { dst := some 150, op := Op.pick (Operand.tmp 146) (Operand.tmp 149) (Operand.const (Value.bool false)), type := 4, pos := "law.go:539", after := #[{ on := 6, ground := Ground.data }, { on := 9, ground := Ground.data }, { on := 3, ground := Ground.guard }], guard := some (3, false) }) (v := ?v100) rfl (by kernel_rfl) (by kernel_rfl) (by kernel_rfl) (fun _ _ _ h => h) (Or.inl ⟨by rfl, ?hy100⟩) (by assumption) ?rest100
                  case hy100 => (intro w9 hSw; (try dsimp only at hSw); go_simp; try with_reducible rfl)
                  try simp only [Act.put, List.setIfInBounds_toArray, List.set_cons_zero, List.set_cons_succ]
                  refine wpAnyH_take (i := 11) (oi := { dst := some 151, op := Op.pick (Operand.tmp 143) (Operand.const (Value.bool true)) (Operand.tmp 150), type := 4, pos := "law.go:539", after := #[{ on := 3, ground := Ground.data }, { on := 10, ground := Ground.data }], guard := none }) (v := ?v101) rfl (by kernel_rfl) (by kernel_rfl) (by kernel_rfl) (fun _ _ _ h => h) (Or.inl ⟨by rfl, ?hy101⟩) (by assumption) ?rest101
                  case hy101 => (intro w9 hSw; (try dsimp only at hSw); go_simp; try with_reducible rfl)
                  try simp only [Act.put, List.setIfInBounds_toArray, List.set_cons_zero, List.set_cons_succ]
                  refine wpAnyH_take (i := 12) (oi := { dst := some 152, op := Op.move (Operand.tmp 151), type := 4, pos := "law.go:539", after := #[{ on := 11, ground := Ground.data }, { on := 6, ground := Ground.chain }], guard := none }) (v := ?v102) rfl (by kernel_rfl) (by kernel_rfl) (by kernel_rfl) (fun _ _ _ h => h) (Or.inl ⟨by rfl, ?hy102⟩) (by assumption) ?rest102
                  case hy102 => (intro w9 hSw; (try dsimp only at hSw); go_simp; try with_reducible rfl)
                  try simp only [Act.put, List.setIfInBounds_toArray, List.set_cons_zero, List.set_cons_succ]
                  refine wpAnyH_take (i := 13) (oi := { dst := some 153, op := Op.move (Operand.tmp 23), type := 27, pos := "law.go:539", after := #[{ on := 12, ground := Ground.guard }], guard := some (12, false) }) (v := ?v103) rfl (by kernel_rfl) (by kernel_rfl) (by kernel_rfl) (fun _ _ _ h => h) (Or.inl ⟨by rfl, ?hy103⟩) (by assumption) ?rest103
                  case hy103 => (intro w9 hSw; (try dsimp only at hSw); go_simp; try with_reducible rfl)
                  try simp only [Act.put, List.setIfInBounds_toArray, List.set_cons_zero, List.set_cons_succ]
                  refine wpAnyH_take (i := 14) (oi := { dst := some 154, op := Op.binOp BinOp.eql 27 (Operand.tmp 153) (Operand.const (Value.int IntKind.i64 0)) 27, type := 4, pos := "law.go:539", after := #[{ on := 13, ground := Ground.data }, { on := 12, ground := Ground.guard }], guard := some (12, false) }) (v := ?v104) rfl (by kernel_rfl) (by kernel_rfl) (by kernel_rfl) (fun _ _ _ h => h) (Or.inl ⟨by rfl, ?hy104⟩) (by assumption) ?rest104
                  case hy104 => (intro w9 hSw; (try dsimp only at hSw); go_simp; try with_reducible rfl)
                  try simp only [Act.put, List.setIfInBounds_toArray, List.set_cons_zero, List.set_cons_succ]
                  refine wpAnyH_take (i := 15) (oi := { dst := some 155, op := Op.move (Operand.tmp 154), type := 4, pos := "law.go:539", after := #[{ on := 14, ground := Ground.data }, { on := 12, ground := Ground.chain }, { on := 12, ground := Ground.guard }], guard := some (12, false) }) (v := ?v105) rfl (by kernel_rfl) (by kernel_rfl) (by kernel_rfl) (fun _ _ _ h => h) (Or.inl ⟨by rfl, ?hy105⟩) (by assumption) ?rest105
                  case hy105 => (intro w9 hSw; (try dsimp only at hSw); go_simp; try with_reducible rfl)
                  try simp only [Act.put, List.setIfInBounds_toArray, List.set_cons_zero, List.set_cons_succ]
                  refine wpAnyH_take (i := 16) (oi := { dst := some 156, op := Op.load 26 (Operand.tmp 13), type := 26, pos := "law.go:539", after := #[{ on := 15, ground := Ground.guard }], guard := some (15, true) }) (v := undef) rfl (by kernel_rfl) (by kernel_rfl) (by kernel_rfl) (fun _ _ _ h => h) (Or.inr ⟨by rfl, rfl⟩) (by assumption) ?rest106
                  try simp only [Act.put, List.setIfInBounds_toArray, List.set_cons_zero, List.set_cons_succ]
                  refine wpAnyH_take (i := 17) (oi := { dst := some 157, op := Op.move (Operand.tmp 0), type := 22, pos := "law.go:539", after := #[{ on := 15, ground := Ground.guard }], guard := some (15, true) }) (v := undef) rfl (by kernel_rfl) (by kernel_rfl) (by kernel_rfl) (fun _ _ _ h => h) (Or.inr ⟨by rfl, rfl⟩) (by assumption) ?rest107
                  try simp only [Act.put, List.setIfInBounds_toArray, List.set_cons_zero, List.set_cons_succ]
                  refine wpAnyH_take (i := 18) (oi := { dst := some 158, op := Op.move (Operand.tmp 1), type := 23, pos := "law.go:539", after := #[{ on := 15, ground := Ground.guard }], guard := some (15, true) }) (v := undef) rfl (by kernel_rfl) (by kernel_rfl) (by kernel_rfl) (fun _ _ _ h => h) (Or.inr ⟨by rfl, rfl⟩) (by assumption) ?rest108
                  try simp only [Act.put, List.setIfInBounds_toArray, List.set_cons_zero, List.set_cons_succ]
                  refine wpAnyH_take (i := 19) (oi := { dst := some 159, op := Op.move (Operand.tmp 2), type := 23, pos := "law.go:539", after := #[{ on := 15, ground := Ground.guard }], guard := some (15, true) }) (v := undef) rfl (by kernel_rfl) (by kernel_rfl) (by kernel_rfl) (fun _ _ _ h => h) (Or.inr ⟨by rfl, rfl⟩) (by assumption) ?rest109
                  try simp only [Act.put, List.setIfInBounds_toArray, List.set_cons_zero, List.set_cons_succ]
                  refine wpAnyH_take (i := 20) (oi := { dst := some 160, op := Op.binOp BinOp.and 23 (Operand.tmp 158) (Operand.tmp 159) 23, type := 23, pos := "law.go:539", after := #[{ on := 18, ground := Ground.data }, { on := 19, ground := Ground.data }, { on := 15, ground := Ground.guard }], guard := some (15, true) }) (v := undef) rfl (by kernel_rfl) (by kernel_rfl) (by kernel_rfl) (fun _ _ _ h => h) (Or.inr ⟨by rfl, rfl⟩) (by assumption) ?rest110
                  try simp only [Act.put, List.setIfInBounds_toArray, List.set_cons_zero, List.set_cons_succ]
                  refine wpAnyH_take (i := 21) (oi := { dst := some 161, op := Op.call { callee := Callee.value (Operand.func 15), args := #[Operand.tmp 157, Operand.tmp 160], argTypes := #[22, 23] }, type := 3, pos := "law.go:539", after := #[{ on := 17, ground := Ground.data }, { on := 20, ground := Ground.data }, { on := 15, ground := Ground.chain }, { on := 15, ground := Ground.guard }], guard := some (15, true) }) (v := undef) rfl (by kernel_rfl) (by kernel_rfl) (by kernel_rfl) (fun _ _ _ h => h) (Or.inr ⟨by rfl, rfl⟩) (by assumption) ?rest111
                  try simp only [Act.put, List.setIfInBounds_toArray, List.set_cons_zero, List.set_cons_succ]
                  refine wpAnyH_take (i := 22) (oi := { dst := some 162, op := Op.move (Operand.tmp 0), type := 22, pos := "law.go:539", after := #[{ on := 15, ground := Ground.guard }], guard := some (15, true) }) (v := undef) rfl (by kernel_rfl) (by kernel_rfl) (by kernel_rfl) (fun _ _ _ h => h) (Or.inr ⟨by rfl, rfl⟩) (by assumption) ?rest112
                  try simp only [Act.put, List.setIfInBounds_toArray, List.set_cons_zero, List.set_cons_succ]
                  refine wpAnyH_take (i := 23) (oi := { dst := some 163, op := Op.move (Operand.tmp 2), type := 23, pos := "law.go:539", after := #[{ on := 15, ground := Ground.guard }], guard := some (15, true) }) (v := undef) rfl (by kernel_rfl) (by kernel_rfl) (by kernel_rfl) (fun _ _ _ h => h) (Or.inr ⟨by rfl, rfl⟩) (by assumption) ?rest113
                  try simp only [Act.put, List.setIfInBounds_toArray, List.set_cons_zero, List.set_cons_succ]
                  refine wpAnyH_take (i := 24) (oi := { dst := some 164, op := Op.call { callee := Callee.value (Operand.func 15), args := #[Operand.tmp 162, Operand.tmp 163], argTypes := #[22, 23] }, type := 3, pos := "law.go:539", after := #[{ on := 22, ground := Ground.data }, { on := 23, ground := Ground.data }, { on := 21, ground := Ground.chain }, { on := 15, ground := Ground.guard }], guard := some (15, true) }) (v := undef) rfl (by kernel_rfl) (by kernel_rfl) (by kernel_rfl) (fun _ _ _ h => h) (Or.inr ⟨by rfl, rfl⟩) (by assumption) ?rest114
                  try simp only [Act.put, List.setIfInBounds_toArray, List.set_cons_zero, List.set_cons_succ]
                  refine wpAnyH_take (i := 25) (oi := { dst := some 165, op := Op.call { callee := Callee.value (Operand.func 14), args := #[Operand.tmp 161, Operand.tmp 164], argTypes := #[3, 3] }, type := 26, pos := "law.go:539", after := #[{ on := 21, ground := Ground.data }, { on := 24, ground := Ground.data }, { on := 24, ground := Ground.chain }, { on := 15, ground := Ground.guard }], guard := some (15, true) }) (v := undef) rfl (by kernel_rfl) (by kernel_rfl) (by kernel_rfl) (fun _ _ _ h => h) (Or.inr ⟨by rfl, rfl⟩) (by assumption) ?rest115
                  try simp only [Act.put, List.setIfInBounds_toArray, List.set_cons_zero, List.set_cons_succ]
                  refine wpAnyH_take (i := 26) (oi := { dst := some 166, op := Op.binOp BinOp.neq 26 (Operand.tmp 156) (Operand.tmp 165) 26, type := 4, pos := "law.go:539", after := #[{ on := 16, ground := Ground.data }, { on := 25, ground := Ground.data }, { on := 15, ground := Ground.guard }], guard := some (15, true) }) (v := undef) rfl (by kernel_rfl) (by kernel_rfl) (by kernel_rfl) (fun _ _ _ h => h) (Or.inr ⟨by rfl, rfl⟩) (by assumption) ?rest116
                  try simp only [Act.put, List.setIfInBounds_toArray, List.set_cons_zero, List.set_cons_succ]
                  refine wpAnyH_take (i := 27) (oi := { dst := some 167, op := Op.pick (Operand.tmp 155) (Operand.tmp 166) (Operand.const (Value.bool false)), type := 4, pos := "law.go:539", after := #[{ on := 15, ground := Ground.data }, { on := 26, ground := Ground.data }, { on := 12, ground := Ground.guard }], guard := some (12, false) }) (v := ?v117) rfl (by kernel_rfl) (by kernel_rfl) (by kernel_rfl) (fun _ _ _ h => h) (Or.inl ⟨by rfl, ?hy117⟩) (by assumption) ?rest117
                  case hy117 => (intro w9 hSw; (try dsimp only at hSw); go_simp; try with_reducible rfl)
                  try simp only [Act.put, List.setIfInBounds_toArray, List.set_cons_zero, List.set_cons_succ]
                  refine wpAnyH_take (i := 28) (oi := { dst := some 168, op := Op.pick (Operand.tmp 152) (Operand.const (Value.bool true)) (Operand.tmp 167), type := 4, pos := "law.go:539", after := #[{ on := 12, ground := Ground.data }, { on := 27, ground := Ground.data }], guard := none }) (v := ?v118) rfl (by kernel_rfl) (by kernel_rfl) (by kernel_rfl) (fun _ _ _ h => h) (Or.inl ⟨by rfl, ?hy118⟩) (by assumption) ?rest118
                  case hy118 => (intro w9 hSw; (try dsimp only at hSw); go_simp; try with_reducible rfl)
                  try simp only [Act.put, List.setIfInBounds_toArray, List.set_cons_zero, List.set_cons_succ]
                  refine wpAnyH_done (by kernel_rfl) ?_ _
                  refine NoPanic.normal ?_
                  go_wp2_with fail
                  go_meet
                  exact ⟨rfl, HS8⟩
                · exact absurd ⟨f1, f2⟩ hz
                · subst f1 f3
                  have hx := f4.bd (a &&& b)
                  have hy := f4.bd b
                  have hy1 := wgt_pos f4.w (by rw [HL.out]; exact f6) f2
                  have HWH : Hid (∀ W, Calls Try.prog 14 #[.int .i64 (wgt ws (a &&& b)), .int .i64 (wgt ws b)] W fun e w' => e = .returned (.agg #[.int .i64 P2, .int .i64 Q2]) ∧ Below W.heap.size W w') := fun W => by
                    rw [f7, f8]
                    exact whole_w _ _ hx ⟨hy1, hy.2⟩ W
                  have HH1 : Hid (∀ W, Below w.heap.size w W → Calls Try.prog 15 #[.slice A n c, .int .u16 (bits .and .u16 (a : Int) (b : Int))] W fun e w' => e = .returned (.int .i64 (wgt ws (a &&& b))) ∧ Below W.heap.size W w') := fun W hw => by
                    rw [HAND.out]
                    exact heavy_w A n c ws (a &&& b) W (HI.out.keep hw) f4 (and_lt f5)
                  have HH2 : Hid (∀ W, Below w.heap.size w W → Calls Try.prog 15 #[.slice A n c, .int .u16 (b : Int)] W fun e w' => e = .returned (.int .i64 (wgt ws b)) ∧ Below W.heap.size W w') := fun W hw => heavy_w A n c ws b W (HI.out.keep hw) f4 f6
                  clear hx hy hy1 f2 f4 f5 f6 f7 f8 hz
                  generalize wgt ws (a &&& b) = x at *
                  generalize wgt ws b = y at *
                  go_wp2_with fail
                  refine wp_region_noPanic ?_
                  refine wp_region_held_drew (S := (fun u => u.cell? ⟨w2.heap.size, 0, none⟩ = some (.int .i64 P2) ∧ u.cell? ⟨w2.heap.size, 1, none⟩ = some (.int .i64 Q2))) (by kernel_rfl) ⟨z0, z1⟩ (fun hHeld => ?_)
                  refine wpAnyH_take (i := 0) (oi := { dst := some 140, op := Op.move (Operand.tmp 14), type := 27, pos := "law.go:539", after := #[], guard := none }) (v := ?v119) rfl (by kernel_rfl) (by kernel_rfl) (by kernel_rfl) (fun _ _ _ h => h) (Or.inl ⟨by rfl, ?hy119⟩) (by assumption) ?rest119
                  case hy119 => (intro w9 hSw; (try dsimp only at hSw); go_simp; try with_reducible rfl)
                  try simp only [Act.put, List.setIfInBounds_toArray, List.set_cons_zero, List.set_cons_succ]
                  refine wpAnyH_take (i := 1) (oi := { dst := some 141, op := Op.move (Operand.tmp 23), type := 27, pos := "law.go:539", after := #[], guard := none }) (v := ?v120) rfl (by kernel_rfl) (by kernel_rfl) (by kernel_rfl) (fun _ _ _ h => h) (Or.inl ⟨by rfl, ?hy120⟩) (by assumption) ?rest120
                  case hy120 => (intro w9 hSw; (try dsimp only at hSw); go_simp; try with_reducible rfl)
                  try simp only [Act.put, List.setIfInBounds_toArray, List.set_cons_zero, List.set_cons_succ]
                  refine wpAnyH_take (i := 2) (oi := { dst := some 142, op := Op.binOp BinOp.neq 27 (Operand.tmp 140) (Operand.tmp 141) 27, type := 4, pos := "law.go:539", after := #[{ on := 0, ground := Ground.data }, { on := 1, ground := Ground.data }], guard := none }) (v := ?v121) rfl (by kernel_rfl) (by kernel_rfl) (by kernel_rfl) (fun _ _ _ h => h) (Or.inl ⟨by rfl, ?hy121⟩) (by assumption) ?rest121
                  case hy121 => (intro w9 hSw; (try dsimp only at hSw); go_simp; try with_reducible rfl)
                  try simp only [Act.put, List.setIfInBounds_toArray, List.set_cons_zero, List.set_cons_succ]
                  refine wpAnyH_take (i := 3) (oi := { dst := some 143, op := Op.move (Operand.tmp 142), type := 4, pos := "law.go:539", after := #[{ on := 2, ground := Ground.data }], guard := none }) (v := ?v122) rfl (by kernel_rfl) (by kernel_rfl) (by kernel_rfl) (fun _ _ _ h => h) (Or.inl ⟨by rfl, ?hy122⟩) (by assumption) ?rest122
                  case hy122 => (intro w9 hSw; (try dsimp only at hSw); go_simp; try with_reducible rfl)
                  try simp only [Act.put, List.setIfInBounds_toArray, List.set_cons_zero, List.set_cons_succ]
                  refine wpAnyH_take (i := 4) (oi := { dst := some 144, op := Op.move (Operand.tmp 23), type := 27, pos := "law.go:539", after := #[{ on := 3, ground := Ground.guard }], guard := some (3, false) }) (v := ?v123) rfl (by kernel_rfl) (by kernel_rfl) (by kernel_rfl) (fun _ _ _ h => h) (Or.inl ⟨by rfl, ?hy123⟩) (by assumption) ?rest123
                  case hy123 => (intro w9 hSw; (try dsimp only at hSw); go_simp; try with_reducible rfl)
                  try simp only [Act.put, List.setIfInBounds_toArray, List.set_cons_zero, List.set_cons_succ]
                  refine wpAnyH_take (i := 5) (oi := { dst := some 145, op := Op.binOp BinOp.neq 27 (Operand.tmp 144) (Operand.const (Value.int IntKind.i64 0)) 27, type := 4, pos := "law.go:539", after := #[{ on := 4, ground := Ground.data }, { on := 3, ground := Ground.guard }], guard := some (3, false) }) (v := ?v124) rfl (by kernel_rfl) (by kernel_rfl) (by kernel_rfl) (fun _ _ _ h => h) (Or.inl ⟨by rfl, ?hy124⟩) (by assumption) ?rest124
                  case hy124 => (intro w9 hSw; (try dsimp only at hSw); go_simp; try with_reducible rfl)
                  try simp only [Act.put, List.setIfInBounds_toArray, List.set_cons_zero, List.set_cons_succ]
                  refine wpAnyH_take (i := 6) (oi := { dst := some 146, op := Op.move (Operand.tmp 145), type := 4, pos := "law.go:539", after := #[{ on := 5, ground := Ground.data }, { on := 3, ground := Ground.chain }, { on := 3, ground := Ground.guard }], guard := some (3, false) }) (v := ?v125) rfl (by kernel_rfl) (by kernel_rfl) (by kernel_rfl) (fun _ _ _ h => h) (Or.inl ⟨by rfl, ?hy125⟩) (by assumption) ?rest125
                  case hy125 => (intro w9 hSw; (try dsimp only at hSw); go_simp; try with_reducible rfl)
                  try simp only [Act.put, List.setIfInBounds_toArray, List.set_cons_zero, List.set_cons_succ]
                  refine wpAnyH_take (i := 7) (oi := { dst := some 147, op := Op.load 26 (Operand.tmp 13), type := 26, pos := "law.go:539", after := #[{ on := 6, ground := Ground.guard }], guard := some (6, true) }) (v := undef) rfl (by kernel_rfl) (by kernel_rfl) (by kernel_rfl) (fun _ _ _ h => h) (Or.inr ⟨by rfl, rfl⟩) (by assumption) ?rest126
                  try simp only [Act.put, List.setIfInBounds_toArray, List.set_cons_zero, List.set_cons_succ]
                  refine wpAnyH_take (i := 8) (oi := { dst := some 148, op := Op.build 26 #[], type := 26, pos := "law.go:539", after := #[{ on := 6, ground := Ground.guard }], guard := some (6, true) }) (v := undef) rfl (by kernel_rfl) (by kernel_rfl) (by kernel_rfl) (fun _ _ _ h => h) (Or.inr ⟨by rfl, rfl⟩) (by assumption) ?rest127
                  try simp only [Act.put, List.setIfInBounds_toArray, List.set_cons_zero, List.set_cons_succ]
                  refine wpAnyH_take (i := 9) (oi := { dst := some 149, op := Op.binOp BinOp.neq 26 (Operand.tmp 147) (Operand.tmp 148) 26, type := 4, pos := "law.go:539", after := #[{ on := 7, ground := Ground.data }, { on := 8, ground := Ground.data }, { on := 6, ground := Ground.guard }], guard := some (6, true) }) (v := undef) rfl (by kernel_rfl) (by kernel_rfl) (by kernel_rfl) (fun _ _ _ h => h) (Or.inr ⟨by rfl, rfl⟩) (by assumption) ?rest128
                  try simp only [Act.put, List.setIfInBounds_toArray, List.set_cons_zero, List.set_cons_succ]
                  refine wpAnyH_take (i := 10) (oi := { dst := some 150, op := Op.pick (Operand.tmp 146) (Operand.tmp 149) (Operand.const (Value.bool false)), type := 4, pos := "law.go:539", after := #[{ on := 6, ground := Ground.data }, { on := 9, ground := Ground.data }, { on := 3, ground := Ground.guard }], guard := some (3, false) }) (v := ?v129) rfl (by kernel_rfl) (by kernel_rfl) (by kernel_rfl) (fun _ _ _ h => h) (Or.inl ⟨by rfl, ?hy129⟩) (by assumption) ?rest129
                  case hy129 => (intro w9 hSw; (try dsimp only at hSw); go_simp; try with_reducible rfl)
                  try simp only [Act.put, List.setIfInBounds_toArray, List.set_cons_zero, List.set_cons_succ]
                  refine wpAnyH_take (i := 11) (oi := { dst := some 151, op := Op.pick (Operand.tmp 143) (Operand.const (Value.bool true)) (Operand.tmp 150), type := 4, pos := "law.go:539", after := #[{ on := 3, ground := Ground.data }, { on := 10, ground := Ground.data }], guard := none }) (v := ?v130) rfl (by kernel_rfl) (by kernel_rfl) (by kernel_rfl) (fun _ _ _ h => h) (Or.inl ⟨by rfl, ?hy130⟩) (by assumption) ?rest130
                  case hy130 => (intro w9 hSw; (try dsimp only at hSw); go_simp; try with_reducible rfl)
                  try simp only [Act.put, List.setIfInBounds_toArray, List.set_cons_zero, List.set_cons_succ]
                  refine wpAnyH_take (i := 12) (oi := { dst := some 152, op := Op.move (Operand.tmp 151), type := 4, pos := "law.go:539", after := #[{ on := 11, ground := Ground.data }, { on := 6, ground := Ground.chain }], guard := none }) (v := ?v131) rfl (by kernel_rfl) (by kernel_rfl) (by kernel_rfl) (fun _ _ _ h => h) (Or.inl ⟨by rfl, ?hy131⟩) (by assumption) ?rest131
                  case hy131 => (intro w9 hSw; (try dsimp only at hSw); go_simp; try with_reducible rfl)
                  try simp only [Act.put, List.setIfInBounds_toArray, List.set_cons_zero, List.set_cons_succ]
                  refine wpAnyH_take (i := 13) (oi := { dst := some 153, op := Op.move (Operand.tmp 23), type := 27, pos := "law.go:539", after := #[{ on := 12, ground := Ground.guard }], guard := some (12, false) }) (v := ?v132) rfl (by kernel_rfl) (by kernel_rfl) (by kernel_rfl) (fun _ _ _ h => h) (Or.inl ⟨by rfl, ?hy132⟩) (by assumption) ?rest132
                  case hy132 => (intro w9 hSw; (try dsimp only at hSw); go_simp; try with_reducible rfl)
                  try simp only [Act.put, List.setIfInBounds_toArray, List.set_cons_zero, List.set_cons_succ]
                  refine wpAnyH_take (i := 14) (oi := { dst := some 154, op := Op.binOp BinOp.eql 27 (Operand.tmp 153) (Operand.const (Value.int IntKind.i64 0)) 27, type := 4, pos := "law.go:539", after := #[{ on := 13, ground := Ground.data }, { on := 12, ground := Ground.guard }], guard := some (12, false) }) (v := ?v133) rfl (by kernel_rfl) (by kernel_rfl) (by kernel_rfl) (fun _ _ _ h => h) (Or.inl ⟨by rfl, ?hy133⟩) (by assumption) ?rest133
                  case hy133 => (intro w9 hSw; (try dsimp only at hSw); go_simp; try with_reducible rfl)
                  try simp only [Act.put, List.setIfInBounds_toArray, List.set_cons_zero, List.set_cons_succ]
                  refine wpAnyH_take (i := 15) (oi := { dst := some 155, op := Op.move (Operand.tmp 154), type := 4, pos := "law.go:539", after := #[{ on := 14, ground := Ground.data }, { on := 12, ground := Ground.chain }, { on := 12, ground := Ground.guard }], guard := some (12, false) }) (v := ?v134) rfl (by kernel_rfl) (by kernel_rfl) (by kernel_rfl) (fun _ _ _ h => h) (Or.inl ⟨by rfl, ?hy134⟩) (by assumption) ?rest134
                  case hy134 => (intro w9 hSw; (try dsimp only at hSw); go_simp; try with_reducible rfl)
                  try simp only [Act.put, List.setIfInBounds_toArray, List.set_cons_zero, List.set_cons_succ]
                  refine wpAnyH_take (i := 16) (oi := { dst := some 156, op := Op.load 26 (Operand.tmp 13), type := 26, pos := "law.go:539", after := #[{ on := 15, ground := Ground.guard }], guard := some (15, true) }) (v := ?v135) rfl (by kernel_rfl) (by kernel_rfl) (by kernel_rfl) (fun _ _ _ h => h) (Or.inl ⟨by rfl, ?hy135⟩) (by assumption) ?rest135
                  case hy135 => (intro w9 hSw; (try dsimp only at hSw); go_simp; try with_reducible rfl)
                  try simp only [Act.put, List.setIfInBounds_toArray, List.set_cons_zero, List.set_cons_succ]
                  refine wpAnyH_take (i := 17) (oi := { dst := some 157, op := Op.move (Operand.tmp 0), type := 22, pos := "law.go:539", after := #[{ on := 15, ground := Ground.guard }], guard := some (15, true) }) (v := ?v136) rfl (by kernel_rfl) (by kernel_rfl) (by kernel_rfl) (fun _ _ _ h => h) (Or.inl ⟨by rfl, ?hy136⟩) (by assumption) ?rest136
                  case hy136 => (intro w9 hSw; (try dsimp only at hSw); go_simp; try with_reducible rfl)
                  try simp only [Act.put, List.setIfInBounds_toArray, List.set_cons_zero, List.set_cons_succ]
                  refine wpAnyH_take (i := 18) (oi := { dst := some 158, op := Op.move (Operand.tmp 1), type := 23, pos := "law.go:539", after := #[{ on := 15, ground := Ground.guard }], guard := some (15, true) }) (v := ?v137) rfl (by kernel_rfl) (by kernel_rfl) (by kernel_rfl) (fun _ _ _ h => h) (Or.inl ⟨by rfl, ?hy137⟩) (by assumption) ?rest137
                  case hy137 => (intro w9 hSw; (try dsimp only at hSw); go_simp; try with_reducible rfl)
                  try simp only [Act.put, List.setIfInBounds_toArray, List.set_cons_zero, List.set_cons_succ]
                  refine wpAnyH_take (i := 19) (oi := { dst := some 159, op := Op.move (Operand.tmp 2), type := 23, pos := "law.go:539", after := #[{ on := 15, ground := Ground.guard }], guard := some (15, true) }) (v := ?v138) rfl (by kernel_rfl) (by kernel_rfl) (by kernel_rfl) (fun _ _ _ h => h) (Or.inl ⟨by rfl, ?hy138⟩) (by assumption) ?rest138
                  case hy138 => (intro w9 hSw; (try dsimp only at hSw); go_simp; try with_reducible rfl)
                  try simp only [Act.put, List.setIfInBounds_toArray, List.set_cons_zero, List.set_cons_succ]
                  refine wpAnyH_take (i := 20) (oi := { dst := some 160, op := Op.binOp BinOp.and 23 (Operand.tmp 158) (Operand.tmp 159) 23, type := 23, pos := "law.go:539", after := #[{ on := 18, ground := Ground.data }, { on := 19, ground := Ground.data }, { on := 15, ground := Ground.guard }], guard := some (15, true) }) (v := ?v139) rfl (by kernel_rfl) (by kernel_rfl) (by kernel_rfl) (fun _ _ _ h => h) (Or.inl ⟨by rfl, ?hy139⟩) (by assumption) ?rest139
                  case hy139 => (intro w9 hSw; (try dsimp only at hSw); go_simp; try with_reducible rfl)
                  try simp only [Act.put, List.setIfInBounds_toArray, List.set_cons_zero, List.set_cons_succ]
                  refine wpAnyH_take (i := 22) (oi := { dst := some 162, op := Op.move (Operand.tmp 0), type := 22, pos := "law.go:539", after := #[{ on := 15, ground := Ground.guard }], guard := some (15, true) }) (v := ?v140) rfl (by kernel_rfl) (by kernel_rfl) (by kernel_rfl) (fun _ _ _ h => h) (Or.inl ⟨by rfl, ?hy140⟩) (by assumption) ?rest140
                  case hy140 => (intro w9 hSw; (try dsimp only at hSw); go_simp; try with_reducible rfl)
                  try simp only [Act.put, List.setIfInBounds_toArray, List.set_cons_zero, List.set_cons_succ]
                  refine wpAnyH_take (i := 23) (oi := { dst := some 163, op := Op.move (Operand.tmp 2), type := 23, pos := "law.go:539", after := #[{ on := 15, ground := Ground.guard }], guard := some (15, true) }) (v := ?v141) rfl (by kernel_rfl) (by kernel_rfl) (by kernel_rfl) (fun _ _ _ h => h) (Or.inl ⟨by rfl, ?hy141⟩) (by assumption) ?rest141
                  case hy141 => (intro w9 hSw; (try dsimp only at hSw); go_simp; try with_reducible rfl)
                  try simp only [Act.put, List.setIfInBounds_toArray, List.set_cons_zero, List.set_cons_succ]
                  refine wpAnyH_ready (rs := [21]) (by kernel_rfl) (by simp) ?_
                  refine AllReadyH.cons (o := { dst := some 161, op := Op.call { callee := Callee.value (Operand.func 15), args := #[Operand.tmp 157, Operand.tmp 160], argTypes := #[22, 23] }, type := 3, pos := "law.go:539", after := #[{ on := 17, ground := Ground.data }, { on := 20, ground := Ground.data }, { on := 15, ground := Ground.chain }, { on := 15, ground := Ground.guard }], guard := some (15, true) }) rfl (fun K hK => ?_) AllReadyH.nil
                  go_simp
                  refine (HH1.out V3.drew (below_step HE7.out.bel (Nat.le_refl _) (below_drewN (Below.refl _ _) 1))).mono ?_
                  rintro e w7 ⟨rfl, hb⟩
                  have HS7 := hid ((HE7.out.keep (below_drewN (Below.refl _ _) 1)).keep hb)
                  have z0w7 := HS7.out.r2.p0
                  have z1w7 := HS7.out.r2.p1
                  clear hb
                  go_wp2_with fail
                  refine hK.out _ _ ?hS142 (fun hHeld => ?rest142)
                  case hS142 => (try dsimp only); (exact ⟨z0w7, z1w7⟩)
                  clear hK K
                  try simp only [Act.put, List.setIfInBounds_toArray, List.set_cons_zero, List.set_cons_succ]
                  refine wpAnyH_ready (rs := [24]) (by kernel_rfl) (by simp) ?_
                  refine AllReadyH.cons (o := { dst := some 164, op := Op.call { callee := Callee.value (Operand.func 15), args := #[Operand.tmp 162, Operand.tmp 163], argTypes := #[22, 23] }, type := 3, pos := "law.go:539", after := #[{ on := 22, ground := Ground.data }, { on := 23, ground := Ground.data }, { on := 21, ground := Ground.chain }, { on := 15, ground := Ground.guard }], guard := some (15, true) }) rfl (fun K hK => ?_) AllReadyH.nil
                  go_simp
                  refine (HH2.out w7 HS7.out.bel).mono ?_
                  rintro e w8 ⟨rfl, hb⟩
                  have HS8 := hid (HS7.out.keep hb)
                  have z0w8 := HS8.out.r2.p0
                  have z1w8 := HS8.out.r2.p1
                  clear hb
                  go_wp2_with fail
                  refine hK.out _ _ ?hS143 (fun hHeld => ?rest143)
                  case hS143 => (try dsimp only); (exact ⟨z0w8, z1w8⟩)
                  clear hK K
                  try simp only [Act.put, List.setIfInBounds_toArray, List.set_cons_zero, List.set_cons_succ]
                  refine wpAnyH_ready (rs := [25]) (by kernel_rfl) (by simp) ?_
                  refine AllReadyH.cons (o := { dst := some 165, op := Op.call { callee := Callee.value (Operand.func 14), args := #[Operand.tmp 161, Operand.tmp 164], argTypes := #[3, 3] }, type := 26, pos := "law.go:539", after := #[{ on := 21, ground := Ground.data }, { on := 24, ground := Ground.data }, { on := 24, ground := Ground.chain }, { on := 15, ground := Ground.guard }], guard := some (15, true) }) rfl (fun K hK => ?_) AllReadyH.nil
                  go_simp
                  refine (HWH.out w8).mono ?_
                  rintro e w9 ⟨rfl, hb⟩
                  have HS9 := hid (HS8.out.keep hb)
                  have z0w9 := HS9.out.r2.p0
                  have z1w9 := HS9.out.r2.p1
                  clear hb
                  go_wp2_with fail
                  refine hK.out _ _ ?hS144 (fun hHeld => ?rest144)
                  case hS144 => (try dsimp only); (exact ⟨z0w9, z1w9⟩)
                  clear hK K
                  try simp only [Act.put, List.setIfInBounds_toArray, List.set_cons_zero, List.set_cons_succ]
                  refine wpAnyH_take (i := 26) (oi := { dst := some 166, op := Op.binOp BinOp.neq 26 (Operand.tmp 156) (Operand.tmp 165) 26, type := 4, pos := "law.go:539", after := #[{ on := 16, ground := Ground.data }, { on := 25, ground := Ground.data }, { on := 15, ground := Ground.guard }], guard := some (15, true) }) (v := ?v145) rfl (by kernel_rfl) (by kernel_rfl) (by kernel_rfl) (fun _ _ _ h => h) (Or.inl ⟨by rfl, ?hy145⟩) (by assumption) ?rest145
                  case hy145 => (intro w9 hSw; (try dsimp only at hSw); go_simp; try with_reducible rfl)
                  try simp only [Act.put, List.setIfInBounds_toArray, List.set_cons_zero, List.set_cons_succ]
                  refine wpAnyH_take (i := 27) (oi := { dst := some 167, op := Op.pick (Operand.tmp 155) (Operand.tmp 166) (Operand.const (Value.bool false)), type := 4, pos := "law.go:539", after := #[{ on := 15, ground := Ground.data }, { on := 26, ground := Ground.data }, { on := 12, ground := Ground.guard }], guard := some (12, false) }) (v := ?v146) rfl (by kernel_rfl) (by kernel_rfl) (by kernel_rfl) (fun _ _ _ h => h) (Or.inl ⟨by rfl, ?hy146⟩) (by assumption) ?rest146
                  case hy146 => (intro w9 hSw; (try dsimp only at hSw); go_simp; try with_reducible rfl)
                  try simp only [Act.put, List.setIfInBounds_toArray, List.set_cons_zero, List.set_cons_succ]
                  refine wpAnyH_take (i := 28) (oi := { dst := some 168, op := Op.pick (Operand.tmp 152) (Operand.const (Value.bool true)) (Operand.tmp 167), type := 4, pos := "law.go:539", after := #[{ on := 12, ground := Ground.data }, { on := 27, ground := Ground.data }], guard := none }) (v := ?v147) rfl (by kernel_rfl) (by kernel_rfl) (by kernel_rfl) (fun _ _ _ h => h) (Or.inl ⟨by rfl, ?hy147⟩) (by assumption) ?rest147
                  case hy147 => (intro w9 hSw; (try dsimp only at hSw); go_simp; try with_reducible rfl)
                  try simp only [Act.put, List.setIfInBounds_toArray, List.set_cons_zero, List.set_cons_succ]
                  refine wpAnyH_done (by kernel_rfl) ?_ _
                  refine NoPanic.normal ?_
                  go_wp2_with fail
                  go_meet
                  exact ⟨rfl, HS9⟩
              case rest =>
                obtain ⟨rfl, HE8⟩ := hcut
                obtain ⟨V4, rfl⟩ : ∃ V4, V4 = wc := ⟨_, rfl⟩
                clear z0 z1 HE7 D3
                go_wp2_with fail
                refine (HK3.out _ HE8.out.bel).mono ?_
                rintro e W7 ⟨rfl, hb⟩
                have HF := hid (HE8.out.keep hb)
                have z0 := HF.out.r3.p0
                have z1 := HF.out.r3.p1
                clear hb HK3
                rcases D4.out with ⟨f1, f2, f3, f4⟩ | ⟨f1, f2, f3, f4, f5⟩ | ⟨f1, f2, f3, ⟨f4, f5⟩, f6, f7⟩
                · subst f2 f3 f4
                  have d1 : (e4 != 0) = true := by simpa using f1
                  have d2 : (e4 == 0) = false := by simpa using f1
                  clear f1
                  go_wp2
                  go_ret
                  exact ⟨rfl, HF.out.bel⟩
                · subst f1 f3 f4 f5
                  go_wp2
                  go_ret
                  exact ⟨rfl, HF.out.bel⟩
                · subst f1 f3
                  have eT := HAW.out f4
                  have ht := f4.totW
                  have hx : 0 ≤ cw ws (enI l least) ∧ cw ws (enI l least) ≤ 1200 := by
                    have h := f4.bd (enM l least ws.length)
                    rw [wgt_enM] at h
                    exact h
                  have HWH : Hid (∀ W, Calls Try.prog 14 #[.int .i64 (cw ws (enI l least)), .int .i64 T] W fun e w' => e = .returned (.agg #[.int .i64 P3, .int .i64 Q3]) ∧ Below W.heap.size W w') := fun W => by
                    have e1 : chR ws (enM l least n) = Rat.divInt (cw ws (enI l least)) (totW ws) := by rw [chR, ← HL.out, wgt_enM]
                    rw [f6, f7, e1, eT]
                    exact whole_w _ _ hx ⟨ht.1, ht.2⟩ W
                  have HS := hid f4
                  have hn12 : n ≤ 12 := by rw [← HL.out]; exact f4.hi
                  have HLJ := hid HJ.out.len
                  have HI9 := hid (HI.out.keep HF.out.bel)
                  have HJ9 := hid (HJ.out.keep HF.out.bel)
                  clear eT ht hx f4 f5 f6 f7 z0 z1 D4
                  go_wp2_with fail
                  go_loopg [24, 191] n (fun g s z wr => ∃ k : Nat, k ≤ n ∧ n - k ≤ g ∧ s = .int .i64 (cw (ws.take k) (enI l least)) ∧ z = .int .i64 (k : Int) ∧ W7 = wr)
                  case atStart => exact ⟨0, by omega, by omega, rfl, rfl, rfl⟩
                  case round =>
                    obtain ⟨k, hk, hg, rfl, rfl, rfl⟩ := hrel
                    by_cases hlt : k < n
                    · obtain ⟨b', o, rfl, hb, hc⟩ := HI9.out.row (by omega)
                      have g1 := hc k hlt
                      have hkl : k < ws.length := by rw [HL.out]; exact hlt
                      have HT := hid (cw_take (l := ws) (enI l least) hkl)
                      have hpart : 0 ≤ cw (ws.take k) (enI l least) ∧ cw (ws.take k) (enI l least) ≤ 1200 := by
                        have h9 := part_bd HS.out l least k
                        exact h9
                      have hw := HS.out.w _ (getD_mem hkl)
                      clear hc hkl
                      generalize cw (ws.take k) (enI l least) = x at *
                      generalize ws.getD k 0 = y at *
                      go_wp2_with fail
                      go_loopg [27, 29, 198] m (fun g s _ z wr => ∃ j : Nat, j ≤ m ∧ m - j ≤ g ∧ s = .int .i64 ((occ (l.take j) k : Nat) : Int) ∧ z = .int .i64 (j : Int) ∧ W7 = wr)
                      case atStart => exact ⟨0, by omega, by omega, rfl, rfl, rfl⟩
                      case round =>
                        obtain ⟨j, hj, hgj, rfl, rfl, rfl⟩ := hrel
                        by_cases hjm : j < m
                        · obtain ⟨b'', o', rfl, hb', hc'⟩ := HJ9.out.row (by omega)
                          have g2 := hc' j hjm
                          have h1 := shr_one (k := k) (HJ9.out.get hjm)
                          have HM := hid (occ_take (l := l) k (k := j) (by rw [HLJ.out]; exact hjm))
                          have h2 : l.getD j 0 / 2 ^ k % 2 < 2 := Nat.mod_lt _ (by omega)
                          have h3 := occ_le (l.take j) k
                          rw [List.length_take] at h3
                          clear hc'
                          generalize l.getD j 0 / 2 ^ k % 2 = r at *
                          generalize occ (l.take j) k = u at *
                          generalize l.getD j 0 = v at *
                          go_wp2
                          go_roundg (m - (j + 1))
                          case measure => omega
                          case rel => exact ⟨j + 1, by omega, by omega, by rw [HM.out]; go_num, by go_num, rfl⟩
                        · obtain rfl : m = j := by omega
                          rw [show l.take m = l by rw [← HLJ.out]; exact List.take_length]
                          have HIE : Hid (enI l least k = if least ≤ (occ l k : Int) then 1 else 0) := rfl
                          have h3 := occ_le l k
                          generalize occ l k = u at *
                          by_cases hle : least ≤ (u : Int)
                          · rw [if_pos hle] at HIE
                            rw [HIE.out, Int.mul_one] at HT
                            go_wp2
                            go_roundg (n - (k + 1))
                            case measure => omega
                            case rel => exact ⟨k + 1, by omega, by omega, by rw [HT.out], by go_num, rfl⟩
                          · rw [if_neg hle] at HIE
                            rw [HIE.out, Int.mul_zero, Int.add_zero] at HT
                            go_wp2
                            go_roundg (n - (k + 1))
                            case measure => omega
                            case rel => exact ⟨k + 1, by omega, by omega, by rw [HT.out], by go_num, rfl⟩
                    · obtain rfl : n = k := by omega
                      rw [show ws.take n = ws by rw [← HL.out]; exact List.take_length]
                      have z0 := HF.out.r3.p0
                      have z1 := HF.out.r3.p1
                      generalize cw ws (enI l least) = x at *
                      go_wp2_with fail
                      refine wp_region_noPanic ?_
                      refine wp_region_held_drew (S := (fun u => u.cell? ⟨w4.heap.size, 0, none⟩ = some (.int .i64 P3) ∧ u.cell? ⟨w4.heap.size, 1, none⟩ = some (.int .i64 Q3))) (by kernel_rfl) ⟨z0, z1⟩ (fun hHeld => ?_)
                      refine wpAnyH_take (i := 0) (oi := { dst := some 217, op := Op.move (Operand.tmp 18), type := 27, pos := "law.go:559", after := #[], guard := none }) (v := ?v148) rfl (by kernel_rfl) (by kernel_rfl) (by kernel_rfl) (fun _ _ _ h => h) (Or.inl ⟨by rfl, ?hy148⟩) (by assumption) ?rest148
                      case hy148 => (intro w9 hSw; (try dsimp only at hSw); go_simp; try with_reducible rfl)
                      try simp only [Act.put, List.setIfInBounds_toArray, List.set_cons_zero, List.set_cons_succ]
                      refine wpAnyH_take (i := 1) (oi := { dst := some 218, op := Op.binOp BinOp.eql 27 (Operand.tmp 217) (Operand.const (Value.int IntKind.i64 0)) 27, type := 4, pos := "law.go:559", after := #[{ on := 0, ground := Ground.data }], guard := none }) (v := ?v149) rfl (by kernel_rfl) (by kernel_rfl) (by kernel_rfl) (fun _ _ _ h => h) (Or.inl ⟨by rfl, ?hy149⟩) (by assumption) ?rest149
                      case hy149 => (intro w9 hSw; (try dsimp only at hSw); go_simp; try with_reducible rfl)
                      try simp only [Act.put, List.setIfInBounds_toArray, List.set_cons_zero, List.set_cons_succ]
                      refine wpAnyH_take (i := 2) (oi := { dst := some 219, op := Op.move (Operand.tmp 218), type := 4, pos := "law.go:559", after := #[{ on := 1, ground := Ground.data }], guard := none }) (v := ?v150) rfl (by kernel_rfl) (by kernel_rfl) (by kernel_rfl) (fun _ _ _ h => h) (Or.inl ⟨by rfl, ?hy150⟩) (by assumption) ?rest150
                      case hy150 => (intro w9 hSw; (try dsimp only at hSw); go_simp; try with_reducible rfl)
                      try simp only [Act.put, List.setIfInBounds_toArray, List.set_cons_zero, List.set_cons_succ]
                      refine wpAnyH_take (i := 3) (oi := { dst := some 220, op := Op.load 26 (Operand.tmp 17), type := 26, pos := "law.go:559", after := #[{ on := 2, ground := Ground.guard }], guard := some (2, true) }) (v := ?v151) rfl (by kernel_rfl) (by kernel_rfl) (by kernel_rfl) (fun _ _ _ h => h) (Or.inl ⟨by rfl, ?hy151⟩) (by assumption) ?rest151
                      case hy151 => (intro w9 hSw; (try dsimp only at hSw); go_simp; try with_reducible rfl)
                      try simp only [Act.put, List.setIfInBounds_toArray, List.set_cons_zero, List.set_cons_succ]
                      refine wpAnyH_take (i := 4) (oi := { dst := some 221, op := Op.move (Operand.tmp 24), type := 3, pos := "law.go:559", after := #[{ on := 2, ground := Ground.guard }], guard := some (2, true) }) (v := ?v152) rfl (by kernel_rfl) (by kernel_rfl) (by kernel_rfl) (fun _ _ _ h => h) (Or.inl ⟨by rfl, ?hy152⟩) (by assumption) ?rest152
                      case hy152 => (intro w9 hSw; (try dsimp only at hSw); go_simp; try with_reducible rfl)
                      try simp only [Act.put, List.setIfInBounds_toArray, List.set_cons_zero, List.set_cons_succ]
                      refine wpAnyH_take (i := 5) (oi := { dst := some 222, op := Op.move (Operand.tmp 19), type := 3, pos := "law.go:559", after := #[{ on := 2, ground := Ground.guard }], guard := some (2, true) }) (v := ?v153) rfl (by kernel_rfl) (by kernel_rfl) (by kernel_rfl) (fun _ _ _ h => h) (Or.inl ⟨by rfl, ?hy153⟩) (by assumption) ?rest153
                      case hy153 => (intro w9 hSw; (try dsimp only at hSw); go_simp; try with_reducible rfl)
                      try simp only [Act.put, List.setIfInBounds_toArray, List.set_cons_zero, List.set_cons_succ]
                      refine wpAnyH_ready (rs := [6]) (by kernel_rfl) (by simp) ?_
                      refine AllReadyH.cons (o := { dst := some 223, op := Op.call { callee := Callee.value (Operand.func 14), args := #[Operand.tmp 221, Operand.tmp 222], argTypes := #[3, 3] }, type := 26, pos := "law.go:559", after := #[{ on := 4, ground := Ground.data }, { on := 5, ground := Ground.data }, { on := 2, ground := Ground.chain }, { on := 2, ground := Ground.guard }], guard := some (2, true) }) rfl (fun K hK => ?_) AllReadyH.nil
                      go_simp
                      refine (HWH.out W7.drew).mono ?_
                      rintro e w8 ⟨rfl, hb⟩
                      have HS8 := hid ((HF.out.keep (below_drewN (Below.refl _ _) 1)).keep hb)
                      have z0w8 := HS8.out.r3.p0
                      have z1w8 := HS8.out.r3.p1
                      clear hb
                      go_wp2_with fail
                      refine hK.out _ _ ?hS154 (fun hHeld => ?rest154)
                      case hS154 => (try dsimp only); (exact ⟨z0w8, z1w8⟩)
                      clear hK K
                      try simp only [Act.put, List.setIfInBounds_toArray, List.set_cons_zero, List.set_cons_succ]
                      refine wpAnyH_take (i := 7) (oi := { dst := some 224, op := Op.binOp BinOp.eql 26 (Operand.tmp 220) (Operand.tmp 223) 26, type := 4, pos := "law.go:559", after := #[{ on := 3, ground := Ground.data }, { on := 6, ground := Ground.data }, { on := 2, ground := Ground.guard }], guard := some (2, true) }) (v := ?v155) rfl (by kernel_rfl) (by kernel_rfl) (by kernel_rfl) (fun _ _ _ h => h) (Or.inl ⟨by rfl, ?hy155⟩) (by assumption) ?rest155
                      case hy155 => (intro w9 hSw; (try dsimp only at hSw); go_simp; try with_reducible rfl)
                      try simp only [Act.put, List.setIfInBounds_toArray, List.set_cons_zero, List.set_cons_succ]
                      refine wpAnyH_take (i := 8) (oi := { dst := some 225, op := Op.pick (Operand.tmp 219) (Operand.tmp 224) (Operand.const (Value.bool false)), type := 4, pos := "law.go:559", after := #[{ on := 2, ground := Ground.data }, { on := 7, ground := Ground.data }], guard := none }) (v := ?v156) rfl (by kernel_rfl) (by kernel_rfl) (by kernel_rfl) (fun _ _ _ h => h) (Or.inl ⟨by rfl, ?hy156⟩) (by assumption) ?rest156
                      case hy156 => (intro w9 hSw; (try dsimp only at hSw); go_simp; try with_reducible rfl)
                      try simp only [Act.put, List.setIfInBounds_toArray, List.set_cons_zero, List.set_cons_succ]
                      refine wpAnyH_take (i := 9) (oi := { dst := some 10, op := Op.assign (Operand.tmp 225), type := 4, pos := "law.go:559", after := #[{ on := 8, ground := Ground.data }, { on := 6, ground := Ground.chain }, { on := 0, ground := Ground.phase }, { on := 1, ground := Ground.phase }, { on := 2, ground := Ground.phase }, { on := 3, ground := Ground.phase }, { on := 4, ground := Ground.phase }, { on := 5, ground := Ground.phase }, { on := 6, ground := Ground.phase }, { on := 7, ground := Ground.phase }, { on := 8, ground := Ground.phase }], guard := none }) (v := ?v157) rfl (by kernel_rfl) (by kernel_rfl) (by kernel_rfl) (fun _ _ _ h => h) (Or.inl ⟨by rfl, ?hy157⟩) (by assumption) ?rest157
                      case hy157 => (intro w9 hSw; (try dsimp only at hSw); go_simp; try with_reducible rfl)
                      try simp only [Act.put, List.setIfInBounds_toArray, List.set_cons_zero, List.set_cons_succ]
                      refine wpAnyH_done (by kernel_rfl) ?_ _
                      refine NoPanic.normal ?_
                      go_wp2
                      go_ret
                      exact ⟨by simp, HS8.out.bel⟩

end Go.Proofs.Ytlepgeipcofapaa
