/-
  odds.Both.
-/
import Derived.Test.YthdjbmogdlodcaaOddK
import Derived.Test.YthdjbmogdlodcaaTill
import Derived.Test.YthdjbmogdlodcaaRatD
namespace Go.Proofs.Ythdjbmogdlodcaa
open Go.RowKit

theorem vsL_append (l l' : List (Int × Int)) : vsL (l ++ l') = vsL l ++ vsL l' := List.map_append
theorem wsL_append (l l' : List (Int × Int)) : wsL (l ++ l') = wsL l ++ wsL l' := List.map_append
theorem ww_bd {x y : Int} (h : 1 ≤ x) (h' : x ≤ 100) (k : 1 ≤ y) (k' : y ≤ 100) : -10000 ≤ x * y ∧ x * y ≤ 10000 := mul_bd (A := 100) (B := 100) (by omega) h' (by omega) k'

set_option maxHeartbeats 1600000 in
theorem oboth_bad_a (A : Option Addr) (n c : Nat) (B : Option Addr) (m d : Nat) (A' : Option Addr) (n' c' : Nat) (B' : Option Addr) (m' d' : Nat) (vs ws : List Int) (w : World) (hI : Ints w A n vs) (hJ : Ints w B m ws) (h : oddErr vs ws ≠ 0) :
    Calls Try.prog 13 #[.agg #[.slice A n c, .slice B m d], .agg #[.slice A' n' c', .slice B' m' d']] w (fun e w' => e = .returned (.tuple #[.agg #[.slice none 0 0, .slice none 0 0], .int .i64 (oddErr vs ws)]) ∧ Below w.heap.size w w') := by
  have HB0 : Hid (Below w.heap.size w (((w.alloc (.cells #[.slice A n c, .slice B m d] 24)).alloc (.cells #[.slice A' n' c', .slice B' m' d'] 24)).alloc (.cells #[.slice none 0 0, .slice none 0 0] 24))) := three_alloc w _ _ _
  have HZ : Hid (OddsAt (((w.alloc (.cells #[.slice A n c, .slice B m d] 24)).alloc (.cells #[.slice A' n' c', .slice B' m' d'] 24)).alloc (.cells #[.slice none 0 0, .slice none 0 0] 24)) (w.heap.size + 2) none 0 0 none 0 0) := by
    have h := OddsAt.new ((w.alloc (.cells #[.slice A n c, .slice B m d] 24)).alloc (.cells #[.slice A' n' c', .slice B' m' d'] 24)) 24 none 0 0 none 0 0
    rwa [show ((w.alloc (.cells #[.slice A n c, .slice B m d] 24)).alloc (.cells #[.slice A' n' c', .slice B' m' d'] 24)).heap.size = w.heap.size + 2 by simp] at h
  have HOA : Hid (OddsAt (((w.alloc (.cells #[.slice A n c, .slice B m d] 24)).alloc (.cells #[.slice A' n' c', .slice B' m' d'] 24)).alloc (.cells #[.slice none 0 0, .slice none 0 0] 24)) w.heap.size A n c B m d) := ((OddsAt.new w _ A n c B m d).keep_alloc _).keep_alloc _
  have HOB : Hid (OddsAt (((w.alloc (.cells #[.slice A n c, .slice B m d] 24)).alloc (.cells #[.slice A' n' c', .slice B' m' d'] 24)).alloc (.cells #[.slice none 0 0, .slice none 0 0] 24)) (w.heap.size + 1) A' n' c' B' m' d') := by
    have h := OddsAt.new (w.alloc (.cells #[.slice A n c, .slice B m d] 24)) 24 A' n' c' B' m' d'
    rw [show (w.alloc (.cells #[.slice A n c, .slice B m d] 24)).heap.size = w.heap.size + 1 by simp] at h
    exact h.keep_alloc _
  have HX := hid (ocheck_any A n c B m d vs ws _ (hI.keep HB0.out) (hJ.keep HB0.out))
  have hne : (oddErr vs ws != 0) = true := by simpa using h
  clear h hI hJ
  generalize oddErr vs ws = er at *
  go_enter Try.func13, Try.ntmps13
  go_wp2_with fail
  refine HX.out.mono ?_
  rintro e w1 ⟨rfl, hb⟩
  have hz := HZ.out.keep hb
  have g0 := hz.p0
  have g1 := hz.p1
  have f0 := hz.f0
  have f1 := hz.f1
  have HB1 := hid (below_step HB0.out (by simp) hb)
  clear hz hb HB0 HZ HX HOA HOB
  go_wp2
  (try simp only [Exit.inBlock, Exit.then])
  refine bodyPost_ret (v := .tuple #[.agg #[.slice none 0 0, .slice none 0 0], .int .i64 er]) ?_ rfl ⟨rfl, HB1.out.trans (below_set2 (by omega))⟩
  rw [results_cell_tmp rfl]
  go_simp

set_option maxHeartbeats 1600000 in
theorem oboth_bad_b (A : Option Addr) (n c : Nat) (B : Option Addr) (m d : Nat) (A' : Option Addr) (n' c' : Nat) (B' : Option Addr) (m' d' : Nat) (vs ws us xs : List Int) (w : World) (hI : Ints w A n vs) (hJ : Ints w B m ws) (hI' : Ints w A' n' us) (hJ' : Ints w B' m' xs) (h0 : oddErr vs ws = 0) (h : oddErr us xs ≠ 0) :
    Calls Try.prog 13 #[.agg #[.slice A n c, .slice B m d], .agg #[.slice A' n' c', .slice B' m' d']] w (fun e w' => e = .returned (.tuple #[.agg #[.slice none 0 0, .slice none 0 0], .int .i64 (oddErr us xs)]) ∧ Below w.heap.size w w') := by
  have HB0 : Hid (Below w.heap.size w (((w.alloc (.cells #[.slice A n c, .slice B m d] 24)).alloc (.cells #[.slice A' n' c', .slice B' m' d'] 24)).alloc (.cells #[.slice none 0 0, .slice none 0 0] 24))) := three_alloc w _ _ _
  have HZ : Hid (OddsAt (((w.alloc (.cells #[.slice A n c, .slice B m d] 24)).alloc (.cells #[.slice A' n' c', .slice B' m' d'] 24)).alloc (.cells #[.slice none 0 0, .slice none 0 0] 24)) (w.heap.size + 2) none 0 0 none 0 0) := by
    have h := OddsAt.new ((w.alloc (.cells #[.slice A n c, .slice B m d] 24)).alloc (.cells #[.slice A' n' c', .slice B' m' d'] 24)) 24 none 0 0 none 0 0
    rwa [show ((w.alloc (.cells #[.slice A n c, .slice B m d] 24)).alloc (.cells #[.slice A' n' c', .slice B' m' d'] 24)).heap.size = w.heap.size + 2 by simp] at h
  have HOA : Hid (OddsAt (((w.alloc (.cells #[.slice A n c, .slice B m d] 24)).alloc (.cells #[.slice A' n' c', .slice B' m' d'] 24)).alloc (.cells #[.slice none 0 0, .slice none 0 0] 24)) w.heap.size A n c B m d) := ((OddsAt.new w _ A n c B m d).keep_alloc _).keep_alloc _
  have HOB : Hid (OddsAt (((w.alloc (.cells #[.slice A n c, .slice B m d] 24)).alloc (.cells #[.slice A' n' c', .slice B' m' d'] 24)).alloc (.cells #[.slice none 0 0, .slice none 0 0] 24)) (w.heap.size + 1) A' n' c' B' m' d') := by
    have h := OddsAt.new (w.alloc (.cells #[.slice A n c, .slice B m d] 24)) 24 A' n' c' B' m' d'
    rw [show (w.alloc (.cells #[.slice A n c, .slice B m d] 24)).heap.size = w.heap.size + 1 by simp] at h
    exact h.keep_alloc _
  have HX := hid (ocheck_any A n c B m d vs ws _ (hI.keep HB0.out) (hJ.keep HB0.out))
  have HY : Hid (∀ W : World, Below w.heap.size w W → Calls Try.prog 15 #[.agg #[.slice A' n' c', .slice B' m' d']] W (RetE W (oddErr us xs))) := fun W hb => ocheck_any A' n' c' B' m' d' us xs W (hI'.keep hb) (hJ'.keep hb)
  have hne : (oddErr us xs != 0) = true := by simpa using h
  rw [h0] at HX
  clear h h0 hI hJ hI' hJ'
  generalize oddErr us xs = er at *
  go_enter Try.func13, Try.ntmps13
  go_wp2_with fail
  refine HX.out.mono ?_
  rintro e w1 ⟨rfl, hb⟩
  have HZ1 := hid (HZ.out.keep hb)
  have HOB1 := hid (HOB.out.keep hb)
  have HB1 := hid (below_step HB0.out (by simp) hb)
  clear hb HB0 HZ HX HOA HOB
  have g0 := HOB1.out.p0
  have g1 := HOB1.out.p1
  go_wp2_with fail
  refine (HY.out _ HB1.out).mono ?_
  rintro e w2 ⟨rfl, hb⟩
  have hz := HZ1.out.keep hb
  have HB2 := hid (below_step HB1.out (Nat.le_refl _) hb)
  clear g0 g1 hb HB1 HZ1 HY HOB1
  have g0 := hz.p0
  have g1 := hz.p1
  have f0 := hz.f0
  have f1 := hz.f1
  clear hz
  go_wp2
  (try simp only [Exit.inBlock, Exit.then])
  refine bodyPost_ret (v := .tuple #[.agg #[.slice none 0 0, .slice none 0 0], .int .i64 er]) ?_ rfl ⟨rfl, HB2.out.trans (below_set2 (by omega))⟩
  rw [results_cell_tmp rfl]
  go_simp

/-- Two lists of the call's own come back, and OK; or nothing, and that they are too many or too great. -/
def RetBoth (w : World) (b : List (Int × Int)) (e : Ending) (w' : World) : Prop :=
  Below w.heap.size w w' ∧ ((GoodD b ∧ ∃ A n c B m d, e = .returned (.tuple #[.agg #[.slice A n c, .slice B m d], .int .i64 0]) ∧ OwnInts w' w.heap.size (.slice A n c) (vsL b) ∧ OwnInts w' w.heap.size (.slice B m d) (wsL b) ∧ Cap n c ∧ Cap m d) ∨
    (¬ GoodD b ∧ e = .returned (.tuple #[.agg #[.slice none 0 0, .slice none 0 0], .int .i64 9])))
theorem good_of_err {b : List (Int × Int)} (h : oddErr (vsL b) (wsL b) = 0) : GoodD b := by
  obtain ⟨l, hl, h1, h2⟩ := oddErr_zero h
  have : b = l := by
    have e1 : b.map Prod.fst = l.map Prod.fst := h1
    have e2 : b.map Prod.snd = l.map Prod.snd := h2
    have z : ∀ (x : List (Int × Int)), (x.map Prod.fst).zip (x.map Prod.snd) = x := by
      intro x
      induction x with
      | nil => rfl
      | cons p x ih => simp [ih]
    rw [← z b, ← z l, e1, e2]
  rw [this]
  exact hl

set_option maxHeartbeats 6400000 in
set_option maxRecDepth 100000 in
theorem oboth_ok (A : Option Addr) (n c : Nat) (B : Option Addr) (m d : Nat) (A' : Option Addr) (n' c' : Nat) (B' : Option Addr) (m' d' : Nat) (l l' : List (Int × Int)) (w : World) (hI : Ints w A n (vsL l)) (hJ : Ints w B m (wsL l)) (hI' : Ints w A' n' (vsL l')) (hJ' : Ints w B' m' (wsL l')) (hG : GoodD l) (hG' : GoodD l') :
    Calls Try.prog 13 #[.agg #[.slice A n c, .slice B m d], .agg #[.slice A' n' c', .slice B' m' d']] w (RetBoth w (bothL l l')) := by
  have HB0 : Hid (Below w.heap.size w (((w.alloc (.cells #[.slice A n c, .slice B m d] 24)).alloc (.cells #[.slice A' n' c', .slice B' m' d'] 24)).alloc (.cells #[.slice none 0 0, .slice none 0 0] 24))) := three_alloc w _ _ _
  have HZ : Hid (OddsAt (((w.alloc (.cells #[.slice A n c, .slice B m d] 24)).alloc (.cells #[.slice A' n' c', .slice B' m' d'] 24)).alloc (.cells #[.slice none 0 0, .slice none 0 0] 24)) (w.heap.size + 2) none 0 0 none 0 0) := by
    have h := OddsAt.new ((w.alloc (.cells #[.slice A n c, .slice B m d] 24)).alloc (.cells #[.slice A' n' c', .slice B' m' d'] 24)) 24 none 0 0 none 0 0
    rwa [show ((w.alloc (.cells #[.slice A n c, .slice B m d] 24)).alloc (.cells #[.slice A' n' c', .slice B' m' d'] 24)).heap.size = w.heap.size + 2 by simp] at h
  have HOA : Hid (OddsAt (((w.alloc (.cells #[.slice A n c, .slice B m d] 24)).alloc (.cells #[.slice A' n' c', .slice B' m' d'] 24)).alloc (.cells #[.slice none 0 0, .slice none 0 0] 24)) w.heap.size A n c B m d) := ((OddsAt.new w _ A n c B m d).keep_alloc _).keep_alloc _
  have HOB : Hid (OddsAt (((w.alloc (.cells #[.slice A n c, .slice B m d] 24)).alloc (.cells #[.slice A' n' c', .slice B' m' d'] 24)).alloc (.cells #[.slice none 0 0, .slice none 0 0] 24)) (w.heap.size + 1) A' n' c' B' m' d') := by
    have h := OddsAt.new (w.alloc (.cells #[.slice A n c, .slice B m d] 24)) 24 A' n' c' B' m' d'
    rw [show (w.alloc (.cells #[.slice A n c, .slice B m d] 24)).heap.size = w.heap.size + 1 by simp] at h
    exact h.keep_alloc _
  have hn : n = l.length := by rw [← hI.len, vsL_len]
  have hm : m = l.length := by rw [← hJ.len, wsL_len]
  have hn' : n' = l'.length := by rw [← hI'.len, vsL_len]
  have hm' : m' = l'.length := by rw [← hJ'.len, wsL_len]
  have HX := hid (ocheck_any A n c B m d _ _ _ (hI.keep HB0.out) (hJ.keep HB0.out))
  have HY : Hid (∀ W : World, Below w.heap.size w W → Calls Try.prog 15 #[.agg #[.slice A' n' c', .slice B' m' d']] W (RetE W (oddErr (vsL l') (wsL l')))) := fun W hb => ocheck_any A' n' c' B' m' d' _ _ W (hI'.keep hb) (hJ'.keep hb)
  rw [oddErr_of hG] at HX
  rw [oddErr_of hG'] at HY
  have HI := hid (hI.keep HB0.out)
  have HJ := hid (hJ.keep HB0.out)
  have HI' := hid (hI'.keep HB0.out)
  have HJ' := hid (hJ'.keep HB0.out)
  have hl2 := hG.2.1
  have hl2' := hG'.2.1
  have HG := hid hG
  have HG' := hid hG'
  obtain ⟨N, hN⟩ : ∃ N, N = l.length := ⟨_, rfl⟩
  obtain ⟨M, hM⟩ : ∃ M, M = l'.length := ⟨_, rfl⟩
  rw [← hN] at hn hm hl2
  rw [← hM] at hn' hm' hl2'
  have hm := hn.trans hm.symm
  have hm' := hn'.trans hm'.symm
  subst hm hm' hn hn'
  have HN := hid hN
  have HM := hid hM
  clear hI hJ hI' hJ' hG hG' hN hM
  go_enter Try.func13, Try.ntmps13
  go_wp2_with fail
  refine HX.out.mono ?_
  rintro e w1 ⟨rfl, hb⟩
  have HZ1 := hid (HZ.out.keep hb)
  have HOA1 := hid (HOA.out.keep hb)
  have HOB1 := hid (HOB.out.keep hb)
  have HI1 := hid (HI.out.keep hb)
  have HJ1 := hid (HJ.out.keep hb)
  have HI1' := hid (HI'.out.keep hb)
  have HJ1' := hid (HJ'.out.keep hb)
  have HB1 := hid (below_step HB0.out (by simp) hb)
  clear hb HB0 HZ HX HOA HOB HI HJ HI' HJ'
  have g0 := HOB1.out.p0
  have g1 := HOB1.out.p1
  go_wp2_with fail
  refine (HY.out _ HB1.out).mono ?_
  rintro e w2 ⟨rfl, hb⟩
  have HZ2 := hid (HZ1.out.keep hb)
  have HOA2 := hid (HOA1.out.keep hb)
  have HOB2 := hid (HOB1.out.keep hb)
  have HI2 := hid (HI1.out.keep hb)
  have HJ2 := hid (HJ1.out.keep hb)
  have HI2' := hid (HI1'.out.keep hb)
  have HJ2' := hid (HJ1'.out.keep hb)
  have HB2 := hid (below_step HB1.out (Nat.le_refl _) hb)
  clear g0 g1 hb HB1 HZ1 HOA1 HOB1 HI1 HJ1 HI1' HJ1' HY
  obtain ⟨bs, hbs⟩ : ∃ bs, bs = w2.heap.size := ⟨_, rfl⟩
  have HBS := hid hbs
  have HS0 : Hid (SumsAt (w2.alloc (.cells #[.slice none 0 0, .slice none 0 0] 24)) bs (bs + 1) (.slice none 0 0) (.slice none 0 0) (vsL (partL l l' 0 0)) (wsL (partL l l' 0 0))) := by
    rw [hbs, partL_zero]
    exact SumsAt.new w2 _
  have HL0 : Hid (Below bs w2 (w2.alloc (.cells #[.slice none 0 0, .slice none 0 0] 24))) := by rw [hbs]; exact below_alloc w2 _
  have g0 := (HOA2.out.keep_alloc (.cells #[.slice none 0 0, .slice none 0 0] 24)).p0
  have g1 := (HOA2.out.keep_alloc (.cells #[.slice none 0 0, .slice none 0 0] 24)).p1
  have hzl := HZ2.out.lt
  clear hbs
  go_wp2_with fail
  obtain ⟨w8, hw8⟩ : ∃ w8, w8 = w2.alloc (.cells #[.slice none 0 0, .slice none 0 0] 24) := ⟨_, rfl⟩
  rw [← hw8] at HS0 HL0 g0 g1 ⊢
  rw [← HBS.out] at hzl ⊢
  have hw28 : Below w2.heap.size w2 w8 := by rw [hw8]; exact below_alloc _ _
  have HZ8 := hid (HZ2.out.keep hw28)
  clear hw8 hw28
  go_loopg [28] n (fun g t wr => ∃ (i : Nat) (v u : Value), i ≤ n ∧ n - i ≤ g ∧ t = .int .i64 (i : Int) ∧ SumsAt wr bs (bs + 1) v u (vsL (partL l l' i 0)) (wsL (partL l l' i 0)) ∧ Below bs w2 wr)
  case atStart => exact ⟨0, _, _, Nat.zero_le _, by omega, rfl, HS0.out, HL0.out⟩
  case round =>
    clear HS0 HL0 g0 g1 HZ8
    obtain ⟨i, v, u, hi, hg, rfl, hs, hbel⟩ := hrel
    have HS := hid hs
    have hbelw : Below w2.heap.size w2 wr := by rw [← HBS.out]; exact hbel
    have HOA3 := hid (HOA2.out.keep hbelw)
    have HOB3 := hid (HOB2.out.keep hbelw)
    have HI3 := hid (HI2.out.keep hbelw)
    have HBEL := hid hbel
    clear hs hbel hbelw
    by_cases hlt : i < n
    · have hil : i < l.length := by rw [← HN.out]; exact hlt
      have hati := HG.out.2.at hil
      obtain ⟨b1, o1, rfl, hb1, hc1⟩ := HI3.out.row (by omega)
      have g0 := HOA3.out.p0
      have g1 := HOA3.out.p1
      have g2 := hc1 i hlt
      rw [vsL_at] at g2
      have g3 := HOB3.out.p0
      have g4 := HOB3.out.p1
      have hiI : (i : Int) < (n : Int) := by omega
      have HIL := hid hil
      clear hc1 hil HOA3 HOB3 HI3
      obtain ⟨x, hx⟩ : ∃ x, x = (l.getD i (0, 0)).1 := ⟨_, rfl⟩
      obtain ⟨wt, hwt⟩ : ∃ wt, wt = (l.getD i (0, 0)).2 := ⟨_, rfl⟩
      rw [← hx] at g2 hati
      rw [← hwt] at hati
      have HXE := hid hx
      have HWE := hid hwt
      obtain ⟨x1, x2, x3, x4⟩ := hati
      clear hx hwt
      go_wp2_with fail
      obtain ⟨w9, hw9⟩ : ∃ w9, w9 = wr := ⟨_, rfl⟩
      rw [← hw9] at HS HBEL ⊢
      clear g0 g1 g2 g3 g4 hw9
      go_loopg [36] n' (fun g t wr => ∃ (j : Nat) (v u : Value), j ≤ n' ∧ n' - j ≤ g ∧ t = .int .i64 (j : Int) ∧ SumsAt wr bs (bs + 1) v u (vsL (partL l l' i j)) (wsL (partL l l' i j)) ∧ Below bs w2 wr)
      case atStart => exact ⟨0, _, _, Nat.zero_le _, by omega, rfl, HS.out, HBEL.out⟩
      case round =>
        clear HS HBEL
        obtain ⟨j, v1, u1, hj, hg1, rfl, hs, hbel⟩ := hrel
        have HS := hid hs
        have HBEL := hid hbel
        clear hs hbel
        by_cases hlt' : j < n'
        · have hjl : j < l'.length := by rw [← HM.out]; exact hlt'
          have hbelw : Below w2.heap.size w2 wr := by rw [← HBS.out]; exact HBEL.out
          have hatj := HG'.out.2.at hjl
          obtain ⟨b2, o2, rfl, hb2, hc2⟩ := (HI2'.out.keep hbelw).row (by omega)
          obtain ⟨b3, o3, rfl, hb3, hc3⟩ := (HJ2.out.keep hbelw).row (by omega)
          obtain ⟨b4, o4, rfl, hb4, hc4⟩ := (HJ2'.out.keep hbelw).row (by omega)
          have g0 := (HOB2.out.keep hbelw).p0
          have g1 := (HOB2.out.keep hbelw).p1
          have g2 := hc2 j hlt'
          rw [vsL_at] at g2
          obtain ⟨y, hy⟩ : ∃ y, y = (l'.getD j (0, 0)).1 := ⟨_, rfl⟩
          obtain ⟨z, hz⟩ : ∃ z, z = (l'.getD j (0, 0)).2 := ⟨_, rfl⟩
          rw [← hy] at g2 hatj
          rw [← hz] at hatj
          obtain ⟨y1, y2, y3, y4⟩ := hatj
          have h3 := hc3 i hlt
          rw [wsL_at, ← HWE.out] at h3
          have h4 := hc4 j hlt'
          rw [wsL_at, ← hz] at h4
          have HP1 : Hid (vsL (partL l l' i (j + 1)) = vsL (partL l l' i j) ++ [x + y]) := by rw [partL_step l l' i hjl, vsL_append, ← HXE.out, ← hy]; rfl
          have HP2 : Hid (wsL (partL l l' i (j + 1)) = wsL (partL l l' i j) ++ [wt * z]) := by rw [partL_step l l' i hjl, wsL_append, ← HWE.out, ← hz]; rfl
          have hlen : (partL l l' i j).length ≤ 1000 := by
            rw [partL_len l l' (by rw [← HN.out]; exact hi) (by rw [← HM.out]; exact hj)]
            have h1 : i ≤ 12 := by omega
            have h2 : l'.length ≤ 12 := by rw [← HM.out]; omega
            have := Nat.mul_le_mul h1 h2
            omega
          have hlx : (vsL (partL l l' i j)).length ≤ 1000000000000 := by rw [vsL_len]; omega
          have hly : (wsL (partL l l' i j)).length ≤ 1000000000000 := by rw [wsL_len]; omega
          have HLX := hid hlx
          have HLY := hid hly
          have HH2 : Hid (wr.cell? ⟨w.heap.size, 0, none⟩ = _) := (HOA2.out.keep hbelw).p0
          have HH3 : Hid (wr.cell? ⟨w.heap.size, 1, none⟩ = _) := (HOA2.out.keep hbelw).p1
          have HC3 := hid h3
          have HC4 := hid h4
          have HB3 := hid hb3
          have HB4 := hid hb4
          have hjI : (j : Int) < (n' : Int) := by omega
          have h2bs : w2.heap.size = bs := HBS.out.symm
          have hlt1 : w.heap.size < bs := by rw [← h2bs]; exact HOA2.out.lt
          have hlt2 : w.heap.size + 1 < bs := by rw [← h2bs]; exact HOB2.out.lt
          have HB3' : Hid (b3 < bs) := by
            rw [← h2bs]
            obtain ⟨b, o, e, h, _⟩ := HJ2.out.row (by omega)
            cases e
            exact h
          have HB4' : Hid (b4 < bs) := by
            rw [← h2bs]
            obtain ⟨b, o, e, h, _⟩ := HJ2'.out.row (by omega)
            cases e
            exact h
          clear hc2 hc3 hc4 h3 h4 hb3 hb4 hlx hly hlen hy hz hjl hbelw
          generalize vsL (partL l l' i j) = XS at *
          generalize wsL (partL l l' i j) = YS at *
          have s0 := HS.out.c0
          have s1 := HS.out.f0
          have hbsl := HS.out.lt
          go_wp2_with (at_builtin; refine wpList_appK wr rfl (.tmp 42) (.tmp 46) rfl (bs + 1) v1 XS (x + y) rfl rfl HS.out.v0 HLX.out hbsl ?_)
          intro gA cA wA hoA hgA hpA
          obtain ⟨hSA, hBA, a0, a1⟩ := HS.out.grow0 _ hoA hgA hpA
          have HSA := hid hSA
          have HBA := hid hBA
          clear hSA hBA hoA hgA hpA s0 s1 g0 g1 g2
          go_wp2_with fail
          clear a0 a1
          obtain ⟨wB, hwB⟩ : ∃ wB, wB = wA.setCell ⟨bs, 0, none⟩ (.slice (some ⟨gA, 0, none⟩) (XS.length + 1) cA) := ⟨_, rfl⟩
          rw [← hwB] at HSA HBA ⊢
          clear hwB
          have q0 : wB.cell? ⟨w.heap.size, 0, none⟩ = _ := (HBA.out.cell (p := ⟨w.heap.size, 0, none⟩) hlt1).trans HH2.out
          have q1 : wB.cell? ⟨w.heap.size, 1, none⟩ = _ := (HBA.out.cell (p := ⟨w.heap.size, 1, none⟩) hlt1).trans HH3.out
          have q2 : wB.cell? ⟨w.heap.size + 1, 1, none⟩ = _ := (HBA.out.cell (p := ⟨w.heap.size + 1, 1, none⟩) hlt2).trans ((HOB2.out.keep (by rw [h2bs]; exact HBEL.out)).p1)
          have q3 : wB.cell? ⟨b3, o3 + i, none⟩ = some (.int .i64 wt) := (HBA.out.cell (p := ⟨b3, o3 + i, none⟩) HB3'.out).trans HC3.out
          have q4 : wB.cell? ⟨b4, o4 + j, none⟩ = some (.int .i64 z) := (HBA.out.cell (p := ⟨b4, o4 + j, none⟩) HB4'.out).trans HC4.out
          have q5 := HSA.out.c1
          have q6 := HSA.out.f1
          have hbl := HSA.out.lt
          obtain ⟨p1, p2⟩ := ww_bd x3 x4 y3 y4
          have HSET : Hid (wB.cell? ⟨w.heap.size, 1, none⟩ = some (.slice (some ⟨b3, o3, none⟩) n d) ∧ wB.cell? ⟨w.heap.size + 1, 1, none⟩ = some (.slice (some ⟨b4, o4, none⟩) n' d') ∧ wB.cell? ⟨b3, o3 + i, none⟩ = some (.int .i64 wt) ∧ wB.cell? ⟨b4, o4 + j, none⟩ = some (.int .i64 z) ∧ wB.cell? ⟨bs, 1, none⟩ = some u1) := ⟨q1, q2, q3, q4, q5⟩
          have HKEEP : Hid (∀ wz : World, Below wB.heap.size wB wz → wz.cell? ⟨w.heap.size, 1, none⟩ = some (.slice (some ⟨b3, o3, none⟩) n d) ∧ wz.cell? ⟨w.heap.size + 1, 1, none⟩ = some (.slice (some ⟨b4, o4, none⟩) n' d') ∧ wz.cell? ⟨b3, o3 + i, none⟩ = some (.int .i64 wt) ∧ wz.cell? ⟨b4, o4 + j, none⟩ = some (.int .i64 z) ∧ wz.cell? ⟨bs, 1, none⟩ = some u1) := fun wz hb => by
            have k0 : w.heap.size < wB.heap.size := by omega
            have k1 : w.heap.size + 1 < wB.heap.size := by omega
            have k2 : b3 < wB.heap.size := by have := HB3'.out; omega
            have k3 : b4 < wB.heap.size := by have := HB4'.out; omega
            exact ⟨(hb.cell (p := ⟨w.heap.size, 1, none⟩) k0).trans HSET.out.1, (hb.cell (p := ⟨w.heap.size + 1, 1, none⟩) k1).trans HSET.out.2.1, (hb.cell (p := ⟨b3, o3 + i, none⟩) k2).trans HSET.out.2.2.1, (hb.cell (p := ⟨b4, o4 + j, none⟩) k3).trans HSET.out.2.2.2.1, (hb.cell (p := ⟨bs, 1, none⟩) hbl).trans HSET.out.2.2.2.2⟩
          have hwrp : IntKind.i64.wrap (wt * z) = wt * z := IntWalk.i64_in _ (by omega)
          clear q0 q1 q2 q3 q4 q5 q6
          go_wp2_with fail
          refine region_till (fun w' => w'.cell? ⟨w.heap.size, 1, none⟩ = some (.slice (some ⟨b3, o3, none⟩) n d) ∧ w'.cell? ⟨w.heap.size + 1, 1, none⟩ = some (.slice (some ⟨b4, o4, none⟩) n' d') ∧ w'.cell? ⟨b3, o3 + i, none⟩ = some (.int .i64 wt) ∧ w'.cell? ⟨b4, o4 + j, none⟩ = some (.int .i64 z) ∧ w'.cell? ⟨bs, 1, none⟩ = some u1) [16] (by kernel_rfl) (HKEEP.out _ (below_drewN (Below.refl _ _) 1)) (fun hHeld => ?_)
          refine till_take (i := 0) (o := { dst := some 49, op := Op.fieldAddr 24 (Operand.tmp 8) 1, type := 0, pos := "odds.go:72", after := #[], guard := none }) (x := ?v1) rfl (by kernel_rfl) (by kernel_rfl) (by kernel_rfl) (by kernel_rfl) (by kernel_rfl) (fun _ _ _ h => h) (Or.inl ⟨by rfl, ?hy1⟩) (by assumption) ?rest1
          case hy1 => (intro w9 hSw; (try dsimp only at hSw); go_simp; try with_reducible rfl)
          try simp only [Act.put, List.setIfInBounds_toArray, List.set_cons_zero, List.set_cons_succ]
          refine till_take (i := 2) (o := { dst := some 51, op := Op.fieldAddr 24 (Operand.tmp 2) 1, type := 0, pos := "odds.go:72", after := #[], guard := none }) (x := ?v2) rfl (by kernel_rfl) (by kernel_rfl) (by kernel_rfl) (by kernel_rfl) (by kernel_rfl) (fun _ _ _ h => h) (Or.inl ⟨by rfl, ?hy2⟩) (by assumption) ?rest2
          case hy2 => (intro w9 hSw; (try dsimp only at hSw); go_simp; try with_reducible rfl)
          try simp only [Act.put, List.setIfInBounds_toArray, List.set_cons_zero, List.set_cons_succ]
          refine till_take (i := 4) (o := { dst := some 53, op := Op.move (Operand.tmp 9), type := 3, pos := "odds.go:72", after := #[], guard := none }) (x := ?v3) rfl (by kernel_rfl) (by kernel_rfl) (by kernel_rfl) (by kernel_rfl) (by kernel_rfl) (fun _ _ _ h => h) (Or.inl ⟨by rfl, ?hy3⟩) (by assumption) ?rest3
          case hy3 => (intro w9 hSw; (try dsimp only at hSw); go_simp; try with_reducible rfl)
          try simp only [Act.put, List.setIfInBounds_toArray, List.set_cons_zero, List.set_cons_succ]
          refine till_take (i := 7) (o := { dst := some 56, op := Op.fieldAddr 24 (Operand.tmp 3) 1, type := 0, pos := "odds.go:72", after := #[], guard := none }) (x := ?v4) rfl (by kernel_rfl) (by kernel_rfl) (by kernel_rfl) (by kernel_rfl) (by kernel_rfl) (fun _ _ _ h => h) (Or.inl ⟨by rfl, ?hy4⟩) (by assumption) ?rest4
          case hy4 => (intro w9 hSw; (try dsimp only at hSw); go_simp; try with_reducible rfl)
          try simp only [Act.put, List.setIfInBounds_toArray, List.set_cons_zero, List.set_cons_succ]
          refine till_take (i := 9) (o := { dst := some 58, op := Op.move (Operand.tmp 11), type := 3, pos := "odds.go:72", after := #[], guard := none }) (x := ?v5) rfl (by kernel_rfl) (by kernel_rfl) (by kernel_rfl) (by kernel_rfl) (by kernel_rfl) (fun _ _ _ h => h) (Or.inl ⟨by rfl, ?hy5⟩) (by assumption) ?rest5
          case hy5 => (intro w9 hSw; (try dsimp only at hSw); go_simp; try with_reducible rfl)
          try simp only [Act.put, List.setIfInBounds_toArray, List.set_cons_zero, List.set_cons_succ]
          refine till_take (i := 1) (o := { dst := some 50, op := Op.load 22 (Operand.tmp 49), type := 22, pos := "odds.go:72", after := #[{ on := 0, ground := Ground.data }], guard := none }) (x := ?v6) rfl (by kernel_rfl) (by kernel_rfl) (by kernel_rfl) (by kernel_rfl) (by kernel_rfl) (fun _ _ _ h => h) (Or.inl ⟨by rfl, ?hy6⟩) (by assumption) ?rest6
          case hy6 => (intro w9 hSw; (try dsimp only at hSw); go_simp; try with_reducible rfl)
          try simp only [Act.put, List.setIfInBounds_toArray, List.set_cons_zero, List.set_cons_succ]
          refine till_take (i := 3) (o := { dst := some 52, op := Op.load 22 (Operand.tmp 51), type := 22, pos := "odds.go:72", after := #[{ on := 2, ground := Ground.data }], guard := none }) (x := ?v7) rfl (by kernel_rfl) (by kernel_rfl) (by kernel_rfl) (by kernel_rfl) (by kernel_rfl) (fun _ _ _ h => h) (Or.inl ⟨by rfl, ?hy7⟩) (by assumption) ?rest7
          case hy7 => (intro w9 hSw; (try dsimp only at hSw); go_simp; try with_reducible rfl)
          try simp only [Act.put, List.setIfInBounds_toArray, List.set_cons_zero, List.set_cons_succ]
          refine till_take (i := 8) (o := { dst := some 57, op := Op.load 22 (Operand.tmp 56), type := 22, pos := "odds.go:72", after := #[{ on := 7, ground := Ground.data }], guard := none }) (x := ?v8) rfl (by kernel_rfl) (by kernel_rfl) (by kernel_rfl) (by kernel_rfl) (by kernel_rfl) (fun _ _ _ h => h) (Or.inl ⟨by rfl, ?hy8⟩) (by assumption) ?rest8
          case hy8 => (intro w9 hSw; (try dsimp only at hSw); go_simp; try with_reducible rfl)
          try simp only [Act.put, List.setIfInBounds_toArray, List.set_cons_zero, List.set_cons_succ]
          refine till_take (i := 5) (o := { dst := some 54, op := Op.indexAddr 22 (Operand.tmp 52) (Operand.tmp 53), type := 0, pos := "odds.go:72", after := #[{ on := 3, ground := Ground.data }, { on := 4, ground := Ground.data }], guard := none }) (x := ?v9) rfl (by kernel_rfl) (by kernel_rfl) (by kernel_rfl) (by kernel_rfl) (by kernel_rfl) (fun _ _ _ h => h) (Or.inl ⟨by rfl, ?hy9⟩) (by assumption) ?rest9
          case hy9 => (intro w9 hSw; (try dsimp only at hSw); go_simp; try with_reducible rfl)
          try simp only [Act.put, List.setIfInBounds_toArray, List.set_cons_zero, List.set_cons_succ]
          refine till_take (i := 10) (o := { dst := some 59, op := Op.indexAddr 22 (Operand.tmp 57) (Operand.tmp 58), type := 0, pos := "odds.go:72", after := #[{ on := 8, ground := Ground.data }, { on := 9, ground := Ground.data }], guard := none }) (x := ?v10) rfl (by kernel_rfl) (by kernel_rfl) (by kernel_rfl) (by kernel_rfl) (by kernel_rfl) (fun _ _ _ h => h) (Or.inl ⟨by rfl, ?hy10⟩) (by assumption) ?rest10
          case hy10 => (intro w9 hSw; (try dsimp only at hSw); go_simp; try with_reducible rfl)
          try simp only [Act.put, List.setIfInBounds_toArray, List.set_cons_zero, List.set_cons_succ]
          refine till_take (i := 6) (o := { dst := some 55, op := Op.load 3 (Operand.tmp 54), type := 3, pos := "odds.go:72", after := #[{ on := 5, ground := Ground.data }], guard := none }) (x := ?v11) rfl (by kernel_rfl) (by kernel_rfl) (by kernel_rfl) (by kernel_rfl) (by kernel_rfl) (fun _ _ _ h => h) (Or.inl ⟨by rfl, ?hy11⟩) (by assumption) ?rest11
          case hy11 => (intro w9 hSw; (try dsimp only at hSw); go_simp; try with_reducible rfl)
          try simp only [Act.put, List.setIfInBounds_toArray, List.set_cons_zero, List.set_cons_succ]
          refine till_take (i := 11) (o := { dst := some 60, op := Op.load 3 (Operand.tmp 59), type := 3, pos := "odds.go:72", after := #[{ on := 10, ground := Ground.data }], guard := none }) (x := ?v12) rfl (by kernel_rfl) (by kernel_rfl) (by kernel_rfl) (by kernel_rfl) (by kernel_rfl) (fun _ _ _ h => h) (Or.inl ⟨by rfl, ?hy12⟩) (by assumption) ?rest12
          case hy12 => (intro w9 hSw; (try dsimp only at hSw); go_simp; try with_reducible rfl)
          try simp only [Act.put, List.setIfInBounds_toArray, List.set_cons_zero, List.set_cons_succ]
          refine till_take (i := 12) (o := { dst := some 61, op := Op.binOp BinOp.mul 3 (Operand.tmp 55) (Operand.tmp 60) 3, type := 3, pos := "odds.go:72", after := #[{ on := 6, ground := Ground.data }, { on := 11, ground := Ground.data }], guard := none }) (x := ?v13) rfl (by kernel_rfl) (by kernel_rfl) (by kernel_rfl) (by kernel_rfl) (by kernel_rfl) (fun _ _ _ h => h) (Or.inl ⟨by rfl, ?hy13⟩) (by assumption) ?rest13
          case hy13 => (intro w9 hSw; (try dsimp only at hSw); go_simp; try with_reducible rfl)
          try simp only [Act.put, List.setIfInBounds_toArray, List.set_cons_zero, List.set_cons_succ]
          refine till_next (rs := [13]) (by kernel_rfl) (by simp) ?_
          refine TillNext.cons (o := { dst := some 62, op := Op.buildSlice 22 1 #[(0, Operand.tmp 61)], type := 22, pos := "odds.go:72", after := #[{ on := 12, ground := Ground.data }], guard := none }) rfl (fun K hK => ?_) TillNext.nil
          go_simp
          refine hK.out _ _ ?hS14 (fun hHeld => ?rest14)
          case hS14 => (try dsimp only); (exact HKEEP.out _ ((below_drewN (Below.refl _ _) 1).trans (below_alloc wB.drew _)))
          clear hK K
          try simp only [Act.put, List.setIfInBounds_toArray, List.set_cons_zero, List.set_cons_succ]
          refine till_next (rs := [14]) (by kernel_rfl) (by simp) ?_
          refine TillNext.cons (o := { dst := some 63, op := Op.call { callee := Callee.builtin Builtin.append, args := #[Operand.tmp 50, Operand.tmp 62], argTypes := #[22, 22] }, type := 22, pos := "odds.go:72", after := #[{ on := 1, ground := Ground.data }, { on := 13, ground := Ground.data }], guard := none }) rfl (fun K hK => ?_) TillNext.nil
          
          refine step_appK wB.drew rfl (.tmp 50) (.tmp 62) rfl (bs + 1) u1 YS (wt * z) rfl rfl (HSA.out.drewN 1).u0 HLY.out (show bs + 1 ≤ wB.heap.size by omega) ?_
          intro gC cC wC hoC hgC hpC
          obtain ⟨hSC, hBC, a0, a1⟩ := (HSA.out.drewN 1).grow1 _ hoC hgC hpC
          have HFIN := hid (And.intro hSC ((below_drewN (Below.refl bs wB) 1).trans hBC))
          have HKC : Hid (Below wC.heap.size wC wC) := Below.refl _ _
          have hgC' : ∀ (q : Addr) (x : Value), q.block < wB.heap.size → some q.block ≠ u1.ownBlock → wB.cell? q = some x → wC.cell? q = some x := fun q x h1 h2 h3 => (hgC.cell_far q h1 h2).trans h3
          have hub := fun k hk => HSA.out.u0.below_base k hk
          have e1 : wC.cell? ⟨w.heap.size, 1, none⟩ = some (.slice (some ⟨b3, o3, none⟩) n d) := hgC' _ _ (show w.heap.size < wB.heap.size by omega) (fun e => by have := (hub _ e.symm).1; simp at this; omega) HSET.out.1
          have e2 : wC.cell? ⟨w.heap.size + 1, 1, none⟩ = some (.slice (some ⟨b4, o4, none⟩) n' d') := hgC' _ _ (show w.heap.size + 1 < wB.heap.size by omega) (fun e => by have := (hub _ e.symm).1; simp at this; omega) HSET.out.2.1
          have e3 : wC.cell? ⟨b3, o3 + i, none⟩ = some (.int .i64 wt) := hgC' _ _ (show b3 < wB.heap.size by have := HB3'.out; omega) (fun e => by have := (hub _ e.symm).1; have := HB3'.out; simp at *; omega) HSET.out.2.2.1
          have e4 : wC.cell? ⟨b4, o4 + j, none⟩ = some (.int .i64 z) := hgC' _ _ (show b4 < wB.heap.size by have := HB4'.out; omega) (fun e => by have := (hub _ e.symm).1; have := HB4'.out; simp at *; omega) HSET.out.2.2.2.1
          clear hSC hBC hgC' hub hoC hgC hpC
          refine hK.out _ _ ?hS15 (fun hHeld => ?rest15)
          case hS15 => (try dsimp only); (exact ⟨e1, e2, e3, e4, a0⟩)
          clear hK K
          try simp only [Act.put, List.setIfInBounds_toArray, List.set_cons_zero, List.set_cons_succ]
          refine till_take (i := 15) (o := { dst := some 64, op := Op.fieldAddr 24 (Operand.tmp 8) 1, type := 0, pos := "odds.go:72", after := #[{ on := 0, ground := Ground.phase }, { on := 1, ground := Ground.phase }, { on := 2, ground := Ground.phase }, { on := 3, ground := Ground.phase }, { on := 4, ground := Ground.phase }, { on := 5, ground := Ground.phase }, { on := 6, ground := Ground.phase }, { on := 7, ground := Ground.phase }, { on := 8, ground := Ground.phase }, { on := 9, ground := Ground.phase }, { on := 10, ground := Ground.phase }, { on := 11, ground := Ground.phase }, { on := 12, ground := Ground.phase }, { on := 13, ground := Ground.phase }, { on := 14, ground := Ground.phase }], guard := none }) (x := ?v16) rfl (by kernel_rfl) (by kernel_rfl) (by kernel_rfl) (by kernel_rfl) (by kernel_rfl) (fun _ _ _ h => h) (Or.inl ⟨by rfl, ?hy16⟩) (by assumption) ?rest16
          case hy16 => (intro w9 hSw; (try dsimp only at hSw); go_simp; try with_reducible rfl)
          try simp only [Act.put, List.setIfInBounds_toArray, List.set_cons_zero, List.set_cons_succ]
          refine till_next (rs := [16]) (by kernel_rfl) (by simp) ?_
          refine TillNext.done (o := { dst := none, op := Op.store 22 (Operand.tmp 64) (Operand.tmp 63), type := 0, pos := "odds.go:72", after := #[{ on := 15, ground := Ground.data }, { on := 14, ground := Ground.data }, { on := 14, ground := Ground.chain }, { on := 0, ground := Ground.phase }, { on := 1, ground := Ground.phase }, { on := 2, ground := Ground.phase }, { on := 3, ground := Ground.phase }, { on := 4, ground := Ground.phase }, { on := 5, ground := Ground.phase }, { on := 6, ground := Ground.phase }, { on := 7, ground := Ground.phase }, { on := 8, ground := Ground.phase }, { on := 9, ground := Ground.phase }, { on := 10, ground := Ground.phase }, { on := 11, ground := Ground.phase }, { on := 12, ground := Ground.phase }, { on := 13, ground := Ground.phase }, { on := 14, ground := Ground.phase }], guard := none }) rfl (by kernel_rfl) (fun K hK => ?_) TillNext.nil
          go_simp
          refine hK.out _ _ ?rest17
          clear hK K
          try simp only [Act.put, List.setIfInBounds_toArray, List.set_cons_zero, List.set_cons_succ]
          refine till_done (by kernel_rfl) ?_ _
          go_wp2
          go_roundg (n' - (j + 1))
          case measure => omega
          case rel =>
            have hfin := HFIN.out
            exact ⟨j + 1, .slice (some ⟨gA, 0, none⟩) (XS.length + 1) cA, .slice (some ⟨gC, 0, none⟩) (YS.length + 1) cC, by omega, by omega, by go_num, by rw [HP1.out, HP2.out]; exact hfin.1, (HBEL.out.trans HBA.out).trans hfin.2⟩
        · obtain rfl : j = n' := by omega
          have HROW : Hid (partL l l' i j = partL l l' (i + 1) 0) := by rw [HM.out]; exact partL_row l l' HIL.out
          go_wp2
          go_roundg (n - (i + 1))
          case measure => omega
          case rel =>
            exact ⟨i + 1, v1, u1, by omega, by omega, by go_num, by rw [← HROW.out]; exact HS.out, HBEL.out⟩
    · obtain rfl : i = n := by omega
      have HALL : Hid (partL l l' i 0 = bothL l l') := by rw [HN.out]; exact partL_all l l'
      rw [HALL.out] at HS
      obtain ⟨A5, c5, rfl, hI5, hC5⟩ := HS.out.v0.ints
      obtain ⟨A6, c6, rfl, hI6, hC6⟩ := HS.out.u0.ints
      obtain ⟨k5, hk5⟩ : ∃ k5, k5 = (vsL (bothL l l')).length := ⟨_, rfl⟩
      obtain ⟨k6, hk6⟩ : ∃ k6, k6 = (wsL (bothL l l')).length := ⟨_, rfl⟩
      rw [← hk5] at HS hI5 hC5
      rw [← hk6] at HS hI6 hC6
      have HOW5 := hid HS.out.v0
      have HOW6 := hid HS.out.u0
      have HI5 := hid hI5
      have HI6 := hid hI6
      have HC5 := hid hC5
      have HC6 := hid hC6
      have s0 := HS.out.c0
      have s1 := HS.out.c1
      have hsl := HS.out.lt
      have HZ9 := hid (HZ2.out.keep (by rw [← HBS.out]; exact HBEL.out))
      have HSO : Hid (OddsAt wr bs A5 k5 c5 A6 k6 c6) := ⟨HS.out.c0, HS.out.c1, HS.out.f0, HS.out.f1, HS.out.lt⟩
      have HBF : Hid (Below w.heap.size w wr) := HB2.out.trans (HBEL.out.mono (by rw [HBS.out]; exact HB2.out.size))
      clear hI5 hI6 hC5 hC6 hk5 hk6 HS HBEL HOA3 HOB3 HI3 HOA2 HOB2 HZ2 HB2 HI2 HJ2 HI2' HJ2'
      go_wp2_with fail
      refine (ocheck_any A5 k5 c5 A6 k6 c6 _ _ _ HI5.out HI6.out).mono ?_
      rintro e w7 ⟨rfl, hb⟩
      have hz := HZ9.out.keep hb
      have HSO7 := hid (HSO.out.keep hb)
      have HI7 := hid (HOW5.out.keep hb)
      have HJ7 := hid (HOW6.out.keep hb)
      have hblt : w.heap.size + 2 < bs + 1 := by omega
      have HB7 := hid (below_step HBF.out (Nat.le_refl _) hb)
      clear s0 s1 hsl hb HI5 HI6 HSO HBF HZ9
      have g0 := hz.p0
      have g1 := hz.p1
      have f0 := hz.f0
      have f1 := hz.f1
      have g2 := HSO7.out.p0
      have g3 := HSO7.out.p1
      have hzl2 := hz.lt
      clear hz
      by_cases hgd : oddErr (vsL (bothL l l')) (wsL (bothL l l')) = 0
      · rw [hgd]
        have HGD := hid (good_of_err hgd)
        clear hgd
        go_wp2
        (try simp only [Exit.inBlock, Exit.then])
        refine bodyPost_ret (v := .tuple #[.agg #[.slice A5 k5 c5, .slice A6 k6 c6], .int .i64 0]) ?_ rfl ⟨HB7.out.trans (below_set2 (by omega)), .inl ⟨HGD.out, _, _, _, _, _, _, rfl, ?_, ?_, HC5.out, HC6.out⟩⟩
        · rw [results_cell_tmp rfl]
          go_simp
        · exact ((HI7.out.setFar _ 0 hblt _).setFar _ 1 hblt _).mono (by omega)
        · exact ((HJ7.out.setFar _ 0 hblt _).setFar _ 1 hblt _).mono (by omega)
      · have HGD : Hid (¬ GoodD (bothL l l')) := fun h => hgd (oddErr_of h)
        have hne : (oddErr (vsL (bothL l l')) (wsL (bothL l l')) != 0) = true := by simpa using hgd
        clear hgd
        generalize oddErr (vsL (bothL l l')) (wsL (bothL l l')) = er at *
        go_wp2
        (try simp only [Exit.inBlock, Exit.then])
        refine bodyPost_ret (v := .tuple #[.agg #[.slice none 0 0, .slice none 0 0], .int .i64 9]) ?_ rfl ⟨HB7.out.trans (below_set2 (by omega)), .inr ⟨HGD.out, rfl⟩⟩
        rw [results_cell_tmp rfl]
        go_simp
end Go.Proofs.Ythdjbmogdlodcaa
