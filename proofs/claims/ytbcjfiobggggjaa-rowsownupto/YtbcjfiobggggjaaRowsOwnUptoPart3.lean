/-
  Texts joined: OrbG, OrbN, TabM, TabR, TabK.
-/
import Derived.Test.YtbcjfiobggggjaaRowsOwnUptoPart2
import Derived.Deep.WholeRow

/-
  orbits.Group: the whole group, in order, in memory of the call's own.
-/
namespace Go.Proofs.Ytbcjfiobggggjaa
open Go.RowKit

/-! ### What the search keeps -/
structure Bfs (n : Nat) (l T : List (List Int)) (i : Nat) : Prop where
  one : iota n ∈ T
  gen : ∀ p, p ∈ T → Gen n l p
  inj : T.Pairwise (fun a b => rk a ≠ rk b)
  closed : ∀ j, j < i → ∀ g, g ∈ l → times g (T.getD j []) ∈ T

structure BfsIn (n : Nat) (l T : List (List Int)) (i t : Nat) : Prop where
  base : Bfs n l T i
  lt : i < T.length
  some : ∀ s, s < t → times (l.getD s []) (T.getD i []) ∈ T

section
variable {n : Nat} {l T : List (List Int)} {i t : Nat}

theorem Bfs.start (n : Nat) (l : List (List Int)) : Bfs n l [iota n] 0 :=
  ⟨by simp, fun p hp => by rw [List.mem_singleton.1 hp]; exact .one, by simp, fun j hj => absurd hj (Nat.not_lt_zero _)⟩
theorem Bfs.len (h : Bfs n l T i) (hl : Orders n l) : T.length ≤ fact n := by
  have := length_le_of_nodup (l := T.map rk) (n := fact n) (by
    rw [List.nodup_iff_pairwise_ne, List.pairwise_map]
    exact h.inj) (fun x hx => by
    obtain ⟨p, hp, rfl⟩ := List.mem_map.1 hx
    have := rk_lt p
    rwa [((h.gen p hp).ok hl).1] at this)
  simpa using this
theorem Bfs.enter (h : Bfs n l T i) (hi : i < T.length) : BfsIn n l T i 0 := ⟨h, hi, fun _ hs => absurd hs (Nat.not_lt_zero _)⟩
theorem getD_mem_rows {L : List (List Int)} {j : Nat} (hj : j < L.length) : L.getD j [] ∈ L := by
  rw [List.getD_eq_getElem?_getD, List.getElem?_eq_getElem hj]
  exact List.getElem_mem hj
theorem mem_rows_getD {L : List (List Int)} {x : List Int} (h : x ∈ L) : ∃ j, j < L.length ∧ L.getD j [] = x := by
  obtain ⟨j, hj, e⟩ := List.getElem_of_mem h
  exact ⟨j, hj, by rw [List.getD_eq_getElem?_getD, List.getElem?_eq_getElem hj]; exact e⟩
theorem BfsIn.leave (h : BfsIn n l T i l.length) : Bfs n l T (i + 1) :=
  ⟨h.base.one, h.base.gen, h.base.inj, fun j hj g hg => by
    by_cases e : j < i
    · exact h.base.closed j e g hg
    · have : j = i := by omega
      subst this
      obtain ⟨s, hs, rfl⟩ := mem_rows_getD hg
      exact h.some s hs⟩
/-- The next product. -/
theorem BfsIn.prod (h : BfsIn n l T i t) (ht : t < l.length) : Gen n l (times (l.getD t []) (T.getD i [])) := .step (getD_mem_rows ht) (h.base.gen _ (getD_mem_rows h.lt))
theorem BfsIn.old (h : BfsIn n l T i t) (hl : Orders n l) (ht : t < l.length) (hin : rk (times (l.getD t []) (T.getD i [])) ∈ T.map rk) : BfsIn n l T i (t + 1) := by
  refine ⟨h.base, h.lt, fun s hs => ?_⟩
  by_cases e : s < t
  · exact h.some s e
  · have : s = t := by omega
    subst this
    obtain ⟨q, hq, hr⟩ := List.mem_map.1 hin
    have hP := (h.prod ht).ok hl
    have hQ := (h.base.gen q hq).ok hl
    rw [← rk_inj (hQ.2.perm hP.2 (hQ.1.trans hP.1.symm)) hr]
    exact hq
theorem BfsIn.new (h : BfsIn n l T i t) (ht : t < l.length) (hin : rk (times (l.getD t []) (T.getD i [])) ∉ T.map rk) : BfsIn n l (T ++ [times (l.getD t []) (T.getD i [])]) i (t + 1) := by
  have hg : ∀ j, j < T.length → (T ++ [times (l.getD t []) (T.getD i [])]).getD j [] = T.getD j [] := fun j hj => by
    rw [List.getD_eq_getElem?_getD, List.getElem?_append_left hj, ← List.getD_eq_getElem?_getD]
  refine ⟨⟨by simp [h.base.one], fun p hp => ?_, ?_, fun j hj g hgl => ?_⟩, by rw [List.length_append]; have := h.lt; omega, fun s hs => ?_⟩
  · rcases List.mem_append.1 hp with h1 | h1
    · exact h.base.gen p h1
    · rw [List.mem_singleton.1 h1]
      exact h.prod ht
  · rw [List.pairwise_append]
    refine ⟨h.base.inj, by simp, fun a ha b hb e => ?_⟩
    rw [List.mem_singleton.1 hb] at e
    exact hin (List.mem_map.2 ⟨a, ha, e⟩)
  · rw [hg j (by have := h.lt; omega)]
    exact List.mem_append_left _ (h.base.closed j hj g hgl)
  · rw [hg i h.lt]
    by_cases e : s < t
    · exact List.mem_append_left _ (h.some s e)
    · have : s = t := by omega
      subst this
      simp
theorem Bfs.done (h : Bfs n l T T.length) (hl : Orders n l) {T' : List (List Int)} (hp : T'.Perm T) (hr : Rising T') : GroupOf n l T' := by
  have hm : ∀ p, p ∈ T' ↔ p ∈ T := fun p => hp.mem_iff
  refine ⟨?_, fun p => (hm p).trans ⟨h.gen p, fun hg => ?_⟩⟩
  · have hi : T'.Pairwise (fun a b => rk a ≠ rk b) := (hp.pairwise_iff (fun {a b} (hab : rk a ≠ rk b) => Ne.symm hab)).2 h.inj
    refine List.Pairwise.imp_of_mem ?_ (hi.and hr)
    intro a b ha hb hab
    have hA := (h.gen a ((hm a).1 ha)).ok hl
    have hB := (h.gen b ((hm b).1 hb)).ok hl
    have h1 := hab.1
    have h2 := hab.2
    rw [cmp_lt (hB.2.perm hA.2 (hB.1.trans hA.1.symm))] at h2
    omega
  · refine Gen.sub (G := fun p => p ∈ T) h.one (fun g p hgl hpT => ?_) hg
    obtain ⟨j, hj, rfl⟩ := mem_rows_getD hpT
    exact h.closed j hj g hgl
end

/-! ### Blocks of other kinds -/
theorem row_ne_own {w : World} {b t m base e s n : Nat} {f : Nat → Value} {v : Value} {xs : List Value} (hr : w.rowIs b t m f) (ho : w.ownsRow base e s v n xs) (hne : e ≠ t) : v.ownBlock ≠ some b := by
  obtain ⟨c, h1, _⟩ := hr
  rcases ho.2 with ⟨rfl, _⟩ | ⟨g, cap, cur, rfl, _, hh, _⟩
  · simp [Value.ownBlock]
  · simp only [Value.ownBlock, ne_eq, Option.some.injEq]
    intro e9
    rw [e9, h1] at hh
    injection hh with hh
    injection hh with _ hh
    exact hne hh.symm
theorem own_row {w w' : World} {b t m base e s n : Nat} {f : Nat → Value} {v : Value} {xs : List Value} (ho : w.ownsRow base e s v n xs) (hr : w.rowIs b t m f) (hne : e ≠ t) (hg : w.grownBy w' (some b)) : w'.ownsRow base e s v n xs := by
  refine World.ownsRow.kept ho hg ?_
  have := row_ne_own hr ho hne
  rcases hv : v.ownBlock with _ | k
  · exact .inl rfl
  · right
    rw [hv] at this
    exact fun e => this e
theorem BRows.row {w w' : World} {b t m base : Nat} {f : Nat → Value} {v : Value} {T : List (List Int)} (h : BRows w base v T) (hr : w.rowIs b t m f) (h1 : 23 ≠ t) (h2 : 3 ≠ t) (hg : w.grownBy w' (some b)) : BRows w' base v T := by
  obtain ⟨vals, hl, ho, hv⟩ := h
  exact ⟨vals, hl, own_row ho hr h1 hg, fun j hj => own_row (hv j hj) hr h2 hg⟩
theorem rowIs_kept {w w' : World} {b t m base : Nat} {f : Nat → Value} {v : Value} {T : List (List Int)} (hr : w.rowIs b t m f) (h : BRows w base v T) (hne : 23 ≠ t) (hg : w.grownBy w' v.ownBlock) : w'.rowIs b t m f := by
  obtain ⟨vals, hl, ho, hv⟩ := h
  exact World.rowIs.of_block hr (hg.block b (World.rowIs.lt hr) (fun e => row_ne_own hr ho hne e.symm))

/-! ### The walk -/
/-- Found: the numbers of the orders that are there. -/
def fndB (T : List (List Int)) (j : Nat) : Value := .bool (decide (j ∈ T.map rk))
theorem fndB_step {T : List (List Int)} {p : List Int} (j : Nat) : (if j = rk p then Value.bool true else fndB T j) = fndB (T ++ [p]) j := by
  unfold fndB
  by_cases e : j = rk p
  · subst e
    simp
  · rw [if_neg e]
    congr 1
    simp [e]
def zero720 : Array Value := Array.replicate 720 (.bool false)
theorem zero_found : (∀ w, (zeroValue 67).run Try.prog w = .ok (.agg zero720) w) ∧ (Try.prog.info? 67).map (·.size) = some 720 :=
  zero_of_info (by kernel_rfl)
theorem found_start (w : World) (n : Nat) : (w.alloc (.cells (zero720.setIfInBounds 0 (.bool true)) 67)).rowIs w.heap.size 67 720 (fndB [iota n]) := by
  have hs : (zero720.setIfInBounds 0 (.bool true)).size = 720 := by simp [zero720]
  have h := World.rowIs_alloc w (zero720.setIfInBounds 0 (.bool true)) 67 (fndB [iota n]) (fun i hi => by
    have hi' : i < 720 := by rw [hs] at hi; exact hi
    have hr : rk (iota n) = 0 := rk_rises (sorted_iotaP n)
    unfold fndB
    rw [Array.getElem?_setIfInBounds]
    by_cases e : i = 0
    · subst e
      simp [hr, zero720]
    · rw [if_neg (fun h => e h.symm)]
      simp [hr, zero720, e, hi'])
  rw [hs] at h
  exact h

/-- The group comes back. -/
def RetGroup (w : World) (k : Nat) (L : List (List Int)) (e : Ending) (w' : World) : Prop := ∃ v T, e = .returned (.tuple #[v, .int .i64 0]) ∧ GroupOf k L T ∧ BRows w' w.heap.size v T ∧ Below w.heap.size w w'

theorem group_bad (A : Option Addr) (m c : Nat) (L : List (List Int)) (n : Int) (w : World) (h : RRows w A m L) (hm : m ≤ 9223372036854775807) (he : orbE n L ≠ 0) :
    Calls Try.prog 9 #[.int .i64 n, .slice A m c] w fun e w' => e = .returned (.tuple #[.slice none 0 0, .int .i64 (orbE n L)]) ∧ Below w.heap.size w w' := by
  have e1 : (orbE n L != 0) = true := by simp [he]
  have HZ := hid (show orbE n L = orbE n L from rfl)
  have hc := checkO_any A m c L n w h hm
  clear h he
  generalize orbE n L = z at *
  go_enter Try.func9, Try.ntmps9
  go_wp2_with fail
  refine hc.mono ?_
  rintro e w1 ⟨rfl, hb1⟩
  have HB1 := hid hb1
  clear hb1
  go_wp2
  go_ret2
  exact ⟨rfl, HB1.out⟩

theorem rowIs_keep {w w' : World} {b t n : Nat} {f : Nat → Value} (h : w.rowIs b t n f) (hb : Below w.heap.size w w') : w'.rowIs b t n f := World.rowIs.of_block h (hb.block b (World.rowIs.lt h))

set_option maxRecDepth 100000 in
set_option maxHeartbeats 1600000 in
theorem group_ok (A : Option Addr) (m c : Nat) (L : List (List Int)) (k : Nat) (w : World) (h : RRows w A m L) (he : orbE (k : Int) L = 0) :
    Calls Try.prog 9 #[.int .i64 (k : Int), .slice A m c] w (RetGroup w k L) := by
  obtain ⟨k', hk1, hk6, hl6, hgood⟩ := orbE_zero he
  have hkk : k' = k := by omega
  subst hkk
  have hL : Orders k' L := hgood
  have HOr := hid hL
  have HL := hid h.len
  have hm6 : m ≤ 6 := by rw [← h.len]; exact hl6
  have hc := checkO_any A m c L (k' : Int) w h (by omega)
  rw [he] at hc
  have HF := hid (show fact k' ≤ 720 from Nat.le_trans (fact_mono hk6) (by decide))
  have hz := zero_found.1
  have HST := fun W : World => hid (found_start W k')
  have hzs : zero720.size = 720 := rfl
  have hz0 : zero720[0]? = some (.bool false) := rfl
  clear he hk1 hgood hL hl6
  generalize zero720 = Z at *
  go_enter Try.func9, Try.ntmps9
  go_wp2_with fail
  refine hc.mono ?_
  rintro e w1 ⟨rfl, hb1⟩
  have HB1 := hid hb1
  have HH := hid h
  clear hb1 h hc
  go_wp2_with fail
  refine (at_first k' _ (by omega)).mono ?_
  rintro e w2 ⟨v2, rfl, ho2, hb2⟩
  obtain ⟨A2, c2, e2, _, _⟩ := ho2.ints
  rw [length_iota] at e2
  subst e2
  have HB2 := hid (below_step HB1.out (Nat.le_refl _) hb2)
  have HO2 := hid (BRows.one (ho2.mono HB1.out.size) HB2.out.size)
  clear hb2 ho2 HB1
  have hsz : (w2.alloc (.cells #[.slice A2 k' c2] 23)).heap.size = w2.heap.size + 1 := by simp
  have HR2 := HST (w2.alloc (.cells #[.slice A2 k' c2] 23))
  rw [hsz] at HR2
  have hgeb : w.heap.size ≤ w2.heap.size + 1 := Nat.le_succ_of_le HB2.out.size
  go_wp2_with fail
  go_loopg [9, 11] (fact k') (fun g v s wr => ∃ i T, i ≤ T.length ∧ fact k' - i ≤ g ∧ s = .int .i64 (i : Nat) ∧ Bfs k' L T i ∧ BRows wr w.heap.size v T ∧ wr.rowIs (w2.heap.size + 1) 67 720 (fndB T) ∧ Below w.heap.size w wr)
  case atStart =>
    refine ⟨0, [iota k'], Nat.zero_le _, by omega, rfl, Bfs.start _ _, ?_, HR2.out, ?_⟩
    · exact HO2.out.keep (below_alloc _ _)
    · exact (HB2.out.trans ((below_alloc w2 _).mono HB2.out.size)).alloc (by rw [hsz]; exact hgeb) _
  case round =>
    obtain ⟨i, T, hi, hg, rfl, hbfs, hrows, hfnd, hbel⟩ := hrel
    clear HO2 HR2 HST hz hzs hz0
    have HBF := hid hbfs
    have HTL := hid (Nat.le_trans (hbfs.len HOr.out) HF.out)
    have HTF := hid (hbfs.len HOr.out)
    have HRW := hid hrows
    have HFN := hid hfnd
    have HB := hid hbel
    obtain ⟨A3, c3, e3, _⟩ := hrows.form
    subst e3
    have hR := HH.out.keep hbel
    clear hbfs hrows hfnd hbel
    by_cases hlt : i < T.length
    · go_wp2_with fail
      go_loopg [9, 43] m (fun g v s wq => ∃ t T', t ≤ m ∧ m - t ≤ g ∧ s = .int .i64 (t : Nat) ∧ BfsIn k' L T' i t ∧ BRows wq w.heap.size v T' ∧ wq.rowIs (w2.heap.size + 1) 67 720 (fndB T') ∧ Below w.heap.size w wq)
      case atStart => exact ⟨0, T, Nat.zero_le _, by omega, rfl, HBF.out.enter hlt, HRW.out, HFN.out, HB.out⟩
      case round =>
        clear HBF HTL HTF HRW HFN HB hR
        obtain ⟨t, T', ht, hgt, rfl, hin, hrows, hfnd, hbel⟩ := hrel
        have HTL := hid (Nat.le_trans (hin.base.len HOr.out) HF.out)
        have hTL := HTL.out
        have hlt' := hin.lt
        have HIN := hid hin
        have HB := hid hbel
        by_cases htm : t < m
        · obtain ⟨b, off, Aj, nj, cj, eA, hcell, hI, hcap⟩ := (HH.out.keep hbel).at htm
          subst eA
          obtain ⟨g, cap, u, ev, _, _, hcg, _, hou⟩ := hrows.at hin.lt
          subst ev
          obtain ⟨A5, c5, e5, hI5, _⟩ := hou.ints
          have hTi := (hin.base.gen _ (getD_mem_rows hin.lt)).ok HOr.out
          rw [hTi.1] at e5 hI5
          subst e5
          have htL : t < L.length := by rw [HL.out]; exact htm
          have hGt := HOr.out _ (getD_mem_rows htL)
          have hnj : k' = nj := by rw [← hI.len, hGt.1]
          subst hnj
          have HPE := hid (show permErr (L.getD t []) = 0 ∧ permErr (T'.getD i []) = 0 from ⟨permErr_of hGt.2 (by omega), permErr_of hTi.2 (by omega)⟩)
          have HPR := hid ((hin.prod htL).ok HOr.out)
          have HNEW := hid (hin.new (t := t) htL)
          have HOLD := hid (hin.old (t := t) HOr.out htL)
          have HRW := hid hrows
          have HFN := hid hfnd
          have HTE := hid hTi.1
          clear hin hrows hfnd hou hGt hTi htL hbel
          go_wp2_with fail
          refine (times_own Aj k' cj A5 c5 (L.getD t []) (T'.getD i []) _ hI hI5 HPE.out.1 HPE.out.2).mono ?_
          rintro e w5 ⟨v5, rfl, ho5, hb5⟩
          obtain ⟨A6, c6, e6, hI6, hcap6⟩ := ho5.ints
          rw [length_times, HTE.out] at e6 hI6 hcap6
          subst e6
          have HO5 := hid (ho5.mono HB.out.size)
          have HRW5 := hid (HRW.out.keep hb5)
          have HFN5 := hid (rowIs_keep HFN.out hb5)
          have HB5 := hid (below_step HB.out (Nat.le_refl _) hb5)
          clear hI hI5 hcell hcg hb5 ho5 HRW HFN HB
          generalize hpr : times (L.getD t []) (T'.getD i []) = pr at *
          have HPRE := hid hpr
          clear hpr
          have hr720 : rk pr < 720 := by
            have h1 := rk_lt pr
            rw [HPR.out.1] at h1
            exact Nat.lt_of_lt_of_le h1 HF.out
          go_wp2_with fail
          refine (of_ok A6 k' c6 pr _ hI6 (permErr_of HPR.out.2 (by rw [HPR.out.1]; omega)) hcap6.1).mono ?_
          rintro e w6 ⟨rfl, hb6⟩
          have HO6 := hid (HO5.out.keep hb6)
          have HRW6 := hid (HRW5.out.keep hb6)
          have HFN6 := hid (rowIs_keep HFN5.out hb6)
          have HB6 := hid (below_step HB5.out (Nat.le_refl _) hb6)
          clear hb6 hI6 HO5 HRW5 HFN5 HB5
          have g1 : w6.cell? ⟨w2.heap.size + 1, rk pr, none⟩ = some (fndB T' (rk pr)) := HFN6.out.cell hr720
          have f1 : w6.frozen? ⟨w2.heap.size + 1, rk pr, none⟩ = false := HFN6.out.frozen _
          have HS := hid (HFN6.out.set (rk pr) (.bool true))
          have HSC := hid ((HFN6.out.set (rk pr) (.bool true)).congr (fun j _ => fndB_step (T := T') (p := pr) j))
          by_cases hin2 : rk pr ∈ T'.map rk
          · have HI2 := hid (HOLD.out hin2)
            have e1 : fndB T' (rk pr) = .bool true := by unfold fndB; rw [decide_eq_true hin2]
            rw [e1] at g1
            clear hin2 HNEW HOLD e1 HS HSC
            generalize rk pr = r at g1 f1 hr720
            go_wp2
            go_roundg (m - (t + 1))
            case measure => omega
            case rel => exact ⟨t + 1, T', by omega, by omega, by go_num, HI2.out, HRW6.out, HFN6.out, HB6.out⟩
          · have HI2 := hid (HNEW.out hin2)
            have e1 : fndB T' (rk pr) = .bool false := by unfold fndB; rw [decide_eq_false hin2]
            rw [e1] at g1
            have hgr : w6.grownBy (w6.setCell ⟨w2.heap.size + 1, rk pr, none⟩ (.bool true)) (some (w2.heap.size + 1)) := only_set (one_refl w6 _) _ _
            have HR7 := hid (HRW6.out.row HFN6.out (by decide) (by decide) hgr)
            have HO7 := hid (own_row HO6.out HFN6.out (by decide) hgr)
            have HB7 := hid (HB6.out.setCell (p := ⟨w2.heap.size + 1, rk pr, none⟩) hgeb (.bool true))
            clear hin2 HNEW HOLD e1 HS hgr
            generalize rk pr = r at g1 f1 hr720 HR7 HO7 HB7 HSC
            have hsz7 : (w6.setCell ⟨w2.heap.size + 1, r, none⟩ (.bool true)).heap.size = w6.heap.size := by simp [World.setCell]
            go_wp2_with (at_builtin; refine wpList_appBR _ rfl (.tmp 67) (.tmp 69) rfl w.heap.size _ T' _ pr rfl (by rw [hsz7]; rfl) HR7.out HO7.out (Nat.le_trans HTL.out (by omega)) HB7.out.size ?_)
            intro v8 w8 hrows8 hgr8 hbel8
            have HR8 := hid hrows8
            have HF8 := hid (rowIs_kept HSC.out HR7.out (by decide) hgr8)
            have HB8 := hid (HB7.out.trans hbel8)
            clear hrows8 hgr8 hbel8
            go_wp2
            go_roundg (m - (t + 1))
            case measure => omega
            case rel => exact ⟨t + 1, T' ++ [pr], by omega, by omega, by go_num, HI2.out, HR8.out, HF8.out, HB8.out⟩
        · have htm' : t = m := by omega
          subst htm'
          have HI2 : Hid (Bfs k' L T' (i + 1)) := by
            have h1 := HIN.out
            rw [← HL.out] at h1
            exact h1.leave
          have HRW := hid hrows
          have HFN := hid hfnd
          clear hin hrows hfnd hbel
          go_wp2
          go_roundg (fact k' - (i + 1))
          case measure =>
            have := HIN.out.base.len HOr.out
            omega
          case rel => exact ⟨i + 1, T', hlt', by omega, by go_num, HI2.out, HRW.out, HFN.out, HB.out⟩
    · have hit : i = T.length := by omega
      subst hit
      have hTl : ∀ j, j < T.length → (T.getD j []).length = k' := fun j hj => ((HBF.out.gen _ (getD_mem_rows hj)).ok HOr.out).1
      have hT0 : 0 < T.length := List.length_pos_of_mem HBF.out.one
      have hs := sortRows_any w.heap.size k' (.slice A3 T.length c3) T wr HRW.out hT0 (by have := HTL.out; omega) (by omega) hTl
      clear hTl hR
      go_wp2_with (go_at_call 44; refine hs.mono ?_)
      rintro e w7 ⟨T7, rfl, hperm, hris, hrows7, hgr7⟩
      have HG := hid (HBF.out.done HOr.out hperm hris)
      have HR7 := hid hrows7
      have HB7 := hid (HB.out.grown hgr7 HB.out.size (fun k hk => (HRW.out.lt k hk).1))
      clear hs hperm hris hrows7 hgr7
      go_wp2
      go_ret2
      exact ⟨_, T7, rfl, HG.out, HR7.out, HB7.out⟩

end Go.Proofs.Ytbcjfiobggggjaa

/-
  orbits.Least, castref.LeastOf: the least row that the group makes of one.
-/
namespace Go.Proofs.Ytbcjfiobggggjaa
open Go.RowKit

/-! ### 'group[1:]' -/
set_option maxRecDepth 100000 in
theorem sizeRowO : ∀ w, (Go.sizeOf 23).run Try.prog w = .ok 1 w := by
  exact fun _ => by kernel_rfl
theorem run_fromO (A : Option Addr) (n c l : Nat) (L : Int) (hL : L = (l : Int)) (hl : l ≤ n) (W : World) :
    (Instr.slice 22 (.slice A n c) (some (.int .i64 L)) none none).run Try.prog W = .ok (.slice (subA A c l) (n - l) (c - l)) W := by
  subst hL
  have ht' : Try.prog.underlying 22 = some (.slice (Try.prog.elem 22)) := by simp [Program.elem, Try.underlying22]
  have he : Try.prog.elem 22 = 23 := by simp [Program.elem, Try.underlying22]
  rw [run_slice_l W _ _ _ _ ht' .i64 _ (by omega) (by omega), he, sizeRowO]
  simp [Result.andThen, sliced, subA]
theorem RRows.drop {w : World} {A : Option Addr} {n c l : Nat} {T : List (List Int)} (h : RRows w A n T) (hl : l ≤ n) (hc : n ≤ c) : RRows w (subA A c l) (n - l) (T.drop l) := by
  refine ⟨by rw [List.length_drop, h.len], fun hp => ?_⟩
  obtain ⟨b, o, rfl, hb, hcell⟩ := h.row (by omega)
  refine ⟨b, o + l, ?_, hb, fun j hj => ?_⟩
  · unfold subA
    rw [if_neg (by omega)]
    simp only [Option.map_some, Addr.add]
    by_cases h0 : l = 0
    · subst h0
      rfl
    · rw [if_neg h0]
  · have := hcell (l + j) (by omega)
    rw [show o + l + j = o + (l + j) by omega]
    simpa [List.getD_eq_getElem?_getD] using this

theorem LeastOn.length {S : List (List Int)} {row b : List Int} {k : Nat} (h : LeastOn S row b) (hS : ∀ p, p ∈ S → p.length = k) : b.length = k := by
  obtain ⟨p, hp, rfl⟩ := h.orb
  rw [length_mv, hS p hp]

/-- The least row comes back. -/
def RetLeast (w : World) (k : Nat) (L : List (List Int)) (row : List Int) (e : Ending) (w' : World) : Prop := ∃ v b, e = .returned (.tuple #[v, .int .i64 0]) ∧ LeastRow k L row b ∧ OwnInts w' w.heap.size v b ∧ Below w.heap.size w w'

theorem least_bad (A : Option Addr) (m c : Nat) (B : Option Addr) (q d : Nat) (L : List (List Int)) (n : Int) (w : World) (h : RRows w A m L) (hm : m ≤ 9223372036854775807) (he : orbE n L ≠ 0) :
    Calls Try.prog 11 #[.int .i64 n, .slice A m c, .slice B q d] w fun e w' => e = .returned (.tuple #[.slice none 0 0, .int .i64 (orbE n L)]) ∧ Below w.heap.size w w' := by
  have e1 : (orbE n L != 0) = true := by simp [he]
  have hc := group_bad A m c L n w h hm he
  clear h he
  generalize orbE n L = z at *
  go_enter Try.func11, Try.ntmps11
  go_wp2_with fail
  refine hc.mono ?_
  rintro e w1 ⟨rfl, hb1⟩
  have HB1 := hid hb1
  clear hb1
  go_wp2
  go_ret2
  exact ⟨rfl, HB1.out⟩

theorem least_form (A : Option Addr) (m c : Nat) (B : Option Addr) (q d : Nat) (L : List (List Int)) (k : Nat) (w : World) (h : RRows w A m L) (he : orbE (k : Int) L = 0) (hq : q ≠ k) :
    Calls Try.prog 11 #[.int .i64 (k : Int), .slice A m c, .slice B q d] w fun e w' => e = .returned (.tuple #[.slice none 0 0, .int .i64 3]) ∧ Below w.heap.size w w' := by
  have e1 : ((q : Int) != (k : Int)) = true := by simp; omega
  have hc := group_ok A m c L k w h he
  clear h he
  go_enter Try.func11, Try.ntmps11
  go_wp2_with fail
  refine hc.mono ?_
  rintro e w1 ⟨v, T, rfl, _, hr, hb1⟩
  obtain ⟨A1, c1, rfl, _⟩ := hr.form
  have HB1 := hid hb1
  clear hb1 hr hc
  go_wp2
  go_ret2
  exact ⟨rfl, HB1.out⟩

set_option maxRecDepth 100000 in
set_option maxHeartbeats 1600000 in
theorem least_ok (A : Option Addr) (m c : Nat) (B : Option Addr) (d : Nat) (L : List (List Int)) (k : Nat) (row : List Int) (w : World) (h : RRows w A m L) (hB : Ints w B k row) (he : orbE (k : Int) L = 0) :
    Calls Try.prog 11 #[.int .i64 (k : Int), .slice A m c, .slice B k d] w (RetLeast w k L row) := by
  have hc := group_ok A m c L k w h he
  obtain ⟨k', hk1, hk6, _, hgood⟩ := orbE_zero he
  have hkk : k = k' := by omega
  subst hkk
  have HOr := hid (show Orders k L from hgood)
  have HRW := hid hB.len
  clear h he hk1 hgood
  have e1 : ((k : Int) != (k : Int)) = false := by simp
  go_enter Try.func11, Try.ntmps11
  go_wp2_with fail
  refine hc.mono ?_
  rintro e w1 ⟨v, T, rfl, hG, hr, hb1⟩
  have hB1 := hB.keep hb1
  obtain ⟨A1, c1, ev, hR1, hcp1, _⟩ := hr.rrows
  subst ev
  have HG := hid hG
  have HB1 := hid hb1
  have hTL := Nat.le_trans (hG.length_le HOr.out) (Nat.le_trans (fact_mono hk6) (show fact 6 ≤ 720 by decide))
  have hT0 := hG.pos
  have HOK := hid (fun p (hp : p ∈ T) => hG.ok HOr.out hp)
  obtain ⟨b0, off0, Aj, nj, cj, eA, hcell0, hI0, _⟩ := hR1.at hT0
  rw [Nat.add_zero] at hcell0
  have hk0 : k = nj := by rw [← hI0.len, (HOK.out _ (getD_mem_rows hT0)).1]
  subst hk0
  have hfrom := run_fromO A1 T.length c1 1 1 rfl (by omega)
  have HR1 := hid (hR1.drop (l := 1) (by omega) hcp1.1)
  generalize hA2 : subA A1 c1 1 = A2 at hfrom HR1
  have HA2 := hid hA2
  have hm0 := moved_ok B k d Aj cj row (T.getD 0 []) w1 hB1 hI0 (HOK.out _ (getD_mem_rows hT0)).2 (by omega)
  subst eA
  clear hb1 hr hc hG hR1 hB hA2 hI0
  go_wp2_with fail
  refine hm0.mono ?_
  rintro e w2 ⟨v2, rfl, ho2, hb2⟩
  obtain ⟨A3, c3, e3, _⟩ := ho2.ints
  rw [length_mv, (HOK.out _ (getD_mem_rows hT0)).1] at e3
  subst e3
  have HO2 := hid (ho2.mono HB1.out.size)
  have HB2 := hid (below_step HB1.out (Nat.le_refl _) hb2)
  have HR2 := hid (HR1.out.keep hb2)
  have HBI := hid (hB1.keep hb2)
  have HL0 : Hid (LeastOn (T.take 1) row (mv (T.getD 0 []) row)) := by
    show LeastOn (T.take 1) row (mv (T.getD 0 []) row)
    rw [take_snocR hT0]
    exact LeastOn.first _ _
  clear hb2 ho2 hm0 hB1 HR1 hcell0
  have hTl : T.length - 1 ≤ 719 := by omega
  go_wp2_with fail
  go_loopg [10, 35] (T.length - 1) (fun g v s wr => ∃ j b A9 c9, j ≤ T.length - 1 ∧ T.length - 1 - j ≤ g ∧ s = .int .i64 (j : Nat) ∧ v = .slice A9 k c9 ∧ b.length = k ∧ LeastOn (T.take (j + 1)) row b ∧ OwnInts wr w.heap.size v b ∧ Below w2.heap.size w2 wr)
  case atStart => exact ⟨0, _, A3, c3, Nat.zero_le _, by omega, rfl, rfl, by rw [length_mv]; exact (HOK.out _ (getD_mem_rows hT0)).1, HL0.out, HO2.out, Below.refl _ _⟩
  case round =>
    clear HO2 HL0
    obtain ⟨j, b, A9, c9, hj, hg, rfl, rfl, hbl, hlo, hown, hbel⟩ := hrel
    have HLO := hid hlo
    have HOW := hid hown
    have HB := hid (below_step HB2.out (Nat.le_refl _) hbel)
    have HBL := hid hbl
    have hbel0 := hid hbel
    have hBI := HBI.out.keep hbel
    have hRR := HR2.out.keep hbel
    clear hlo hown hbel hbl
    by_cases hlt : j < T.length - 1
    · obtain ⟨b5, off5, Aj, nj, cj, eA, hcell, hI, hcap⟩ := hRR.at hlt
      subst eA
      have hj1 : j + 1 < T.length := by omega
      have hgd : (T.drop 1).getD j [] = T.getD (j + 1) [] := by simp [List.getD_eq_getElem?_getD]
      rw [hgd] at hI
      have hOk := HOK.out _ (getD_mem_rows hj1)
      have hk0 : k = nj := by rw [← hI.len, hOk.1]
      subst hk0
      have hm0 := moved_ok B k d Aj cj row (T.getD (j + 1) []) wr hBI hI hOk.2 (by omega)
      have HP := hid hOk
      have HTS := hid (take_snocR hj1)
      clear hOk hI hcap hgd hRR hBI
      generalize T.getD (j + 1) [] = p at *
      go_wp2_with fail
      refine hm0.mono ?_
      rintro e w4 ⟨v4, rfl, ho4, hb4⟩
      obtain ⟨A4, c4, e4, hI4, _⟩ := ho4.ints
      rw [length_mv, HP.out.1] at e4 hI4
      subst e4
      have HO4 := hid (ho4.mono HB.out.size)
      have HOW4 := hid (HOW.out.keep hb4)
      have hI8 := HOW4.out.asInts.1
      have HB4 := hid (below_step HB.out (Nat.le_refl _) hb4)
      have HBW := hid ((below_step hbel0.out (Nat.le_refl _) hb4))
      have hcp := compareL_any A4 k c4 A9 c9 (mv p row) b w4 hI4 hI8 (by omega)
      have HYES := hid (fun h9 : cmpL (mv p row) b < 0 => HLO.out.less h9)
      have HNO := hid (fun h9 : ¬ cmpL (mv p row) b < 0 => HLO.out.more h9)
      have HLM : Hid ((mv p row).length = k) := by show (mv p row).length = k; rw [length_mv, HP.out.1]
      clear hb4 ho4 hm0 hI4 hI8 hcell HLO
      generalize hcv : cmpL (mv p row) b = cv at *
      by_cases hneg : cv < 0
      · have d0 : decide (cv < 0) = true := by simp [hneg]
        have HY2 := hid (HYES.out hneg)
        clear hneg HYES HNO hcv
        go_wp2_with fail
        refine hcp.mono ?_
        rintro e w5 ⟨rfl, rfl⟩
        clear hcp
        go_wp2
        go_roundg (T.length - 1 - (j + 1))
        case measure => omega
        case rel => exact ⟨j + 1, _, A4, c4, by omega, by omega, by go_num, rfl, HLM.out, by rw [HTS.out]; exact HY2.out, HO4.out, HBW.out⟩
      · have d0 : decide (cv < 0) = false := by simp; omega
        have HN2 := hid (HNO.out hneg)
        clear hneg HYES HNO hcv
        go_wp2_with fail
        refine hcp.mono ?_
        rintro e w5 ⟨rfl, rfl⟩
        clear hcp
        go_wp2
        go_roundg (T.length - 1 - (j + 1))
        case measure => omega
        case rel => exact ⟨j + 1, b, A9, c9, by omega, by omega, by go_num, rfl, HBL.out, by rw [HTS.out]; exact HN2.out, HOW4.out, HBW.out⟩
    · have hjl : j = T.length - 1 := by omega
      subst hjl
      have HE : Hid (LeastRow k L row b) := by
        have := HLO.out
        rw [show T.length - 1 + 1 = T.length by omega, List.take_length] at this
        exact this.whole HG.out
      clear hRR hBI
      go_wp2
      go_ret2
      exact ⟨_, b, rfl, HE.out, HOW.out, HB.out⟩

def RetOwnLeast (w : World) (k : Nat) (L : List (List Int)) (row : List Int) (e : Ending) (w' : World) : Prop := ∃ b, LeastRow k L row b ∧ RetOwn w b e w'

set_option maxRecDepth 100000 in
set_option maxHeartbeats 1600000 in
theorem refLeast_ok (A : Option Addr) (c : Nat) (B : Option Addr) (d : Nat) (L T : List (List Int)) (k : Nat) (row : List Int) (w : World) (h : RRows w A T.length T) (hB : Ints w B k row) (hG : GroupOf k L T) (hL : Orders k L) (hk6 : k ≤ 6) :
    Calls Try.prog 18 #[.slice A T.length c, .slice B k d] w (RetOwnLeast w k L row) := by
  have HG := hid hG
  have hTL := Nat.le_trans (hG.length_le hL) (Nat.le_trans (fact_mono hk6) (show fact 6 ≤ 720 by decide))
  have HOK := hid (fun p (hp : p ∈ T) => hG.ok hL hp)
  have HRW := hid hB.len
  have hc := clone_any B k d row w hB (by omega)
  have HH := hid h
  have HBI := hid hB
  clear h hB hG hL
  go_enter Try.func18, Try.ntmps18
  go_wp2_with fail
  refine hc.mono ?_
  rintro e w2 ⟨v2, rfl, ho2, hb2⟩
  obtain ⟨A3, c3, e3, _⟩ := ho2.ints
  rw [HRW.out] at e3
  subst e3
  have HO2 := hid ho2
  have HB2 := hid hb2
  clear hc hb2 ho2
  go_wp2_with fail
  go_loopg [5, 13] T.length (fun g v s wr => ∃ j b A9 c9, j ≤ T.length ∧ T.length - j ≤ g ∧ s = .int .i64 (j : Nat) ∧ v = .slice A9 k c9 ∧ b.length = k ∧ LeastOn (iota k :: T.take j) row b ∧ OwnInts wr w.heap.size v b ∧ Below w.heap.size w wr)
  case atStart => exact ⟨0, row, A3, c3, Nat.zero_le _, by omega, rfl, rfl, HRW.out, by have := LeastOn.first (iota k) row; rwa [mv_one HRW.out] at this, HO2.out, HB2.out⟩
  case round =>
    clear HO2 HB2
    obtain ⟨j, b, A9, c9, hj, hg, rfl, rfl, hbl, hlo, hown, hbel⟩ := hrel
    have HLO := hid hlo
    have HOW := hid hown
    have HB := hid hbel
    have HBL := hid hbl
    have hBI := HBI.out.keep hbel
    have hRR := HH.out.keep hbel
    clear hlo hown hbel hbl
    by_cases hlt : j < T.length
    · obtain ⟨b5, off5, Aj, nj, cj, eA, hcell, hI, hcap⟩ := hRR.at hlt
      subst eA
      have hOk := HOK.out _ (getD_mem_rows hlt)
      have hk0 : k = nj := by rw [← hI.len, hOk.1]
      subst hk0
      have hm0 := refMoved_ok B k d Aj cj row (T.getD j []) wr hBI hI hOk.2 (by omega)
      have HP := hid hOk
      have HTS := hid (take_snocR hlt)
      clear hOk hI hcap hRR hBI
      generalize T.getD j [] = p at *
      go_wp2_with fail
      refine hm0.mono ?_
      rintro e w4 ⟨v4, rfl, ho4, hb4⟩
      obtain ⟨A4, c4, e4, hI4, _⟩ := ho4.ints
      rw [length_mv, HP.out.1] at e4 hI4
      subst e4
      have HO4 := hid (ho4.mono HB.out.size)
      have HOW4 := hid (HOW.out.keep hb4)
      have hI8 := HOW4.out.asInts.1
      have HB4 := hid (below_step HB.out (Nat.le_refl _) hb4)
      have hcp := compareL_any A4 k c4 A9 c9 (mv p row) b w4 hI4 hI8 (by omega)
      have HYES := hid (fun h9 : cmpL (mv p row) b < 0 => HLO.out.less h9)
      have HNO := hid (fun h9 : ¬ cmpL (mv p row) b < 0 => HLO.out.more h9)
      have HLM : Hid ((mv p row).length = k) := by show (mv p row).length = k; rw [length_mv, HP.out.1]
      clear hb4 ho4 hm0 hI4 hI8 hcell HLO
      generalize hcv : cmpL (mv p row) b = cv at *
      by_cases hneg : cv < 0
      · have d0 : decide (cv < 0) = true := by simp [hneg]
        have HY2 := hid (HYES.out hneg)
        clear hneg HYES HNO hcv
        go_wp2_with fail
        refine hcp.mono ?_
        rintro e w5 ⟨rfl, rfl⟩
        clear hcp
        go_wp2
        go_roundg (T.length - (j + 1))
        case measure => omega
        case rel => exact ⟨j + 1, _, A4, c4, by omega, by omega, by go_num, rfl, HLM.out, by rw [HTS.out]; exact HY2.out, HO4.out, HB4.out⟩
      · have d0 : decide (cv < 0) = false := by simp; omega
        have HN2 := hid (HNO.out hneg)
        clear hneg HYES HNO hcv
        go_wp2_with fail
        refine hcp.mono ?_
        rintro e w5 ⟨rfl, rfl⟩
        clear hcp
        go_wp2
        go_roundg (T.length - (j + 1))
        case measure => omega
        case rel => exact ⟨j + 1, b, A9, c9, by omega, by omega, by go_num, rfl, HBL.out, by rw [HTS.out]; exact HN2.out, HOW4.out, HB4.out⟩
    · have hjl : j = T.length := by omega
      subst hjl
      have HE : Hid (LeastRow k L row b) := by
        have h1 := HLO.out
        rw [List.take_length] at h1
        have h2 : LeastOn T row b := ⟨by
          obtain ⟨p, hp, e⟩ := h1.orb
          rcases List.mem_cons.1 hp with e2 | h3
          · exact ⟨p, by rw [e2]; exact HG.out.one, e⟩
          · exact ⟨p, h3, e⟩, fun p hp => h1.le p (List.mem_cons_of_mem _ hp)⟩
        exact h2.whole HG.out
      clear hRR hBI
      go_wp2
      go_ret
      exact ⟨b, HE.out, _, rfl, HOW.out, HB.out⟩

end Go.Proofs.Ytbcjfiobggggjaa

/-
  Rows that rise: a number put in (P38), one more at the end of a row, the two tableaux of a list. Plain facts; no program, no memory.
-/
namespace Go.Proofs.Ytbcjfiobggggjaa

/-- A number put into one row: the row, and what is put out. -/
def rin (x : Int) : List Int → List Int × Option Int
  | [] => ([x], none)
  | y :: r => if y < x then (y :: (rin x r).1, (rin x r).2) else (x :: r, some y)

theorem rin_all {x : Int} : ∀ {row : List Int}, (∀ z ∈ row, z < x) → rin x row = (row ++ [x], none)
  | [], _ => rfl
  | y :: r, h => by
    rw [rin, if_pos (h y (by simp)), rin_all (row := r) (fun z hz => h z (by simp [hz]))]
    rfl
theorem rin_at {x y : Int} (hy : ¬ y < x) (l2 : List Int) : ∀ {l1 : List Int}, (∀ z ∈ l1, z < x) → rin x (l1 ++ y :: l2) = (l1 ++ x :: l2, some y)
  | [], _ => by rw [List.nil_append, rin, if_neg hy]; rfl
  | z :: l1, h => by
    rw [List.cons_append, rin, if_pos (h z (by simp)), rin_at hy l2 (l1 := l1) (fun u hu => h u (by simp [hu]))]
    rfl
/-- Either all are smaller, or there is a first one that is not. -/
theorem rin_cases (x : Int) : ∀ row : List Int, (∀ z ∈ row, z < x) ∨ ∃ l1 y l2, row = l1 ++ y :: l2 ∧ (∀ z ∈ l1, z < x) ∧ ¬ y < x
  | [] => .inl (by simp)
  | y :: r => by
    by_cases h : y < x
    · rcases rin_cases x r with h1 | ⟨l1, u, l2, rfl, h1, h2⟩
      · left
        intro z hz
        rcases List.mem_cons.1 hz with rfl | hz
        · exact h
        · exact h1 z hz
      · right
        refine ⟨y :: l1, u, l2, rfl, ?_, h2⟩
        intro z hz
        rcases List.mem_cons.1 hz with rfl | hz
        · exact h
        · exact h1 z hz
    · exact .inr ⟨[], y, r, rfl, by simp, h⟩

/-- A number put in: the rows, and which one has become longer. -/
def tin : List (List Int) → Int → List (List Int) × Nat
  | [], x => ([[x]], 0)
  | row :: T, x => match (rin x row).2 with
    | none => ((rin x row).1 :: T, 0)
    | some y => ((rin x row).1 :: (tin T y).1, (tin T y).2 + 1)

theorem tin_nil (x : Int) : tin [] x = ([[x]], 0) := rfl
theorem tin_all {x : Int} {row : List Int} (T : List (List Int)) (h : ∀ z ∈ row, z < x) : tin (row :: T) x = ((row ++ [x]) :: T, 0) := by
  rw [tin, rin_all h]
theorem tin_at {x y : Int} {l1 : List Int} (l2 : List Int) (T : List (List Int)) (h : ∀ z ∈ l1, z < x) (hy : ¬ y < x) : tin ((l1 ++ y :: l2) :: T) x = ((l1 ++ x :: l2) :: (tin T y).1, (tin T y).2 + 1) := by
  rw [tin, rin_at hy l2 h]

/-- One more at the end of row r. -/
def tadd : List (List Int) → Nat → Int → List (List Int)
  | [], _, M => [[M]]
  | row :: T, 0, M => (row ++ [M]) :: T
  | row :: T, r + 1, M => row :: tadd T r M

theorem tin_le : ∀ (T : List (List Int)) (x : Int), (tin T x).2 ≤ T.length
  | [], _ => Nat.le_refl _
  | row :: T, x => by
    rcases rin_cases x row with h | ⟨l1, y, l2, rfl, h1, h2⟩
    · rw [tin_all T h]; exact Nat.zero_le _
    · rw [tin_at l2 T h1 h2, List.length_cons]
      have := tin_le T y
      omega

/-- A greatest number goes to the end of the first row. -/
theorem tin_max : ∀ (T : List (List Int)) (M : Int), (∀ y ∈ T.flatten, y < M) → tin T M = (tadd T 0 M, 0)
  | [], _, _ => rfl
  | row :: T, M, h => by
    rw [tin_all T (fun z hz => h z (by simp [hz]))]
    rfl

/-- A greatest number stands at the end of row r, and x is put in. -/
theorem tin_add : ∀ (T : List (List Int)) (r : Nat) (M x : Int), (∀ y ∈ T.flatten, y < M) → x < M → r ≤ T.length →
    tin (tadd T r M) x = if (tin T x).2 = r then (tadd (tin T x).1 (r + 1) M, r + 1) else (tadd (tin T x).1 r M, (tin T x).2)
  | [], r, M, x, _, hx, hr => by
    have : r = 0 := by simpa using hr
    subst this
    rw [tin_nil, if_pos rfl]
    exact tin_at (l1 := []) [] [] (by simp) (by omega)
  | row :: T, r, M, x, h, hx, hr => by
    have hrow : ∀ z ∈ row, z < M := fun z hz => h z (by simp [hz])
    have hT : ∀ z ∈ T.flatten, z < M := fun z hz => h z (by
      rw [List.flatten_cons]
      exact List.mem_append_right _ hz)
    rcases rin_cases x row with h1 | ⟨l1, y, l2, rfl, h1, h2⟩
    · rw [tin_all T h1]
      cases r with
      | zero =>
        rw [if_pos rfl, tadd, tin_at [] T h1 (by omega), tin_max T M hT]
        rfl
      | succ r =>
        rw [if_neg (by simp), tadd, tin_all _ h1]
        rfl
    · rw [tin_at l2 T h1 h2]
      have hy : y < M := hrow y (by simp)
      cases r with
      | zero =>
        rw [if_neg (by simp), tadd, List.append_assoc, List.cons_append, tin_at _ T h1 h2]
        simp [tadd]
      | succ r =>
        rw [tadd, tin_at l2 _ h1 h2, tin_add T r M y hT hy (by simpa using hr)]
        by_cases e : (tin T y).2 = r
        · simp [e, tadd]
        · simp [e, tadd]

/-! ### What lies in the rows -/
theorem tin_flat : ∀ (T : List (List Int)) (x : Int), (tin T x).1.flatten.Perm (x :: T.flatten)
  | [], x => by simp [tin]
  | row :: T, x => by
    rcases rin_cases x row with h1 | ⟨l1, y, l2, rfl, h1, h2⟩
    · rw [tin_all T h1, List.flatten_cons, List.flatten_cons, List.append_assoc]
      exact List.perm_middle
    · rw [tin_at l2 T h1 h2, List.flatten_cons, List.flatten_cons, List.append_assoc, List.append_assoc, List.cons_append, List.cons_append]
      have ih := tin_flat T y
      refine List.perm_middle.trans (List.Perm.cons x ?_)
      refine List.Perm.append_left l1 ?_
      exact (List.Perm.append_left l2 ih).trans List.perm_middle
theorem tadd_flat : ∀ (T : List (List Int)) (r : Nat) (M : Int), (tadd T r M).flatten.Perm (M :: T.flatten)
  | [], r, M => by cases r <;> simp [tadd]
  | row :: T, 0, M => by
    rw [tadd, List.flatten_cons, List.flatten_cons, List.append_assoc]
    exact List.perm_middle
  | row :: T, r + 1, M => by
    rw [tadd, List.flatten_cons, List.flatten_cons]
    exact (List.Perm.append_left row (tadd_flat T r M)).trans List.perm_middle

theorem tadd_length : ∀ (T : List (List Int)) (r : Nat) (M : Int), r ≤ T.length → (tadd T r M).length = max T.length (r + 1)
  | [], r, M, h => by
    have : r = 0 := by simpa using h
    subst this
    rfl
  | row :: T, 0, M, _ => by simp [tadd]
  | row :: T, r + 1, M, h => by
    rw [tadd, List.length_cons, tadd_length T r M (by simpa using h), List.length_cons]
    omega
theorem tin_length : ∀ (T : List (List Int)) (x : Int), (tin T x).1.length = max T.length ((tin T x).2 + 1)
  | [], x => rfl
  | row :: T, x => by
    rcases rin_cases x row with h1 | ⟨l1, y, l2, rfl, h1, h2⟩
    · rw [tin_all T h1]; simp
    · rw [tin_at l2 T h1 h2]
      have := tin_length T y
      simp only [List.length_cons, this]
      omega

/-- How long row i is. -/
def tlen (T : List (List Int)) (i : Nat) : Nat := (T.getD i []).length
theorem tlen_nil (i : Nat) : tlen [] i = 0 := by simp [tlen]
theorem tlen_cons (row : List Int) (T : List (List Int)) (i : Nat) : tlen (row :: T) i = if i = 0 then row.length else tlen T (i - 1) := by
  cases i with
  | zero => rfl
  | succ i => simp [tlen]
theorem tlen_tadd : ∀ (T : List (List Int)) (r : Nat) (M : Int) (i : Nat), r ≤ T.length → tlen (tadd T r M) i = tlen T i + (if i = r then 1 else 0)
  | [], r, M, i, h => by
    have : r = 0 := by simpa using h
    subst this
    rw [tadd, tlen_cons, tlen_nil, tlen_nil]
    simp
  | row :: T, 0, M, i, _ => by
    rw [tadd, tlen_cons, tlen_cons]
    by_cases e : i = 0
    · simp [e]
    · simp [e]
  | row :: T, r + 1, M, i, h => by
    rw [tadd, tlen_cons, tlen_cons]
    by_cases e : i = 0
    · simp [e]
    · rw [if_neg e, if_neg e, tlen_tadd T r M (i - 1) (by simpa using h)]
      congr 1
      by_cases e2 : i - 1 = r
      · rw [if_pos e2, if_pos (by omega)]
      · rw [if_neg e2, if_neg (by omega)]
theorem tlen_tin : ∀ (T : List (List Int)) (x : Int) (i : Nat), tlen (tin T x).1 i = tlen T i + (if i = (tin T x).2 then 1 else 0)
  | [], x, i => by
    rw [tin_nil, tlen_cons, tlen_nil, tlen_nil]
    simp
  | row :: T, x, i => by
    rcases rin_cases x row with h1 | ⟨l1, y, l2, rfl, h1, h2⟩
    · rw [tin_all T h1, tlen_cons, tlen_cons]
      by_cases e : i = 0
      · simp [e]
      · simp [e]
    · rw [tin_at l2 T h1 h2, tlen_cons, tlen_cons]
      by_cases e : i = 0
      · simp [e]
      · rw [if_neg e, if_neg e, tlen_tin T y (i - 1)]
        congr 1
        by_cases e2 : i - 1 = (tin T y).2
        · rw [if_pos e2, if_pos (by simp only; omega)]
        · rw [if_neg e2, if_neg (by simp only; omega)]

/-! ### The two tableaux of a list -/
def rsR : List Int → List (List Int) × List (List Int)
  | [] => ([], [])
  | x :: w => ((tin (rsR w).1 x).1, tadd (rsR w).2 (tin (rsR w).1 x).2 (w.length : Int))
def PT (w : List Int) : List (List Int) := (rsR w.reverse).1
def QT (w : List Int) : List (List Int) := (rsR w.reverse).2
theorem PT_nil : PT [] = [] := rfl
theorem QT_nil : QT [] = [] := rfl
theorem PT_snoc (w : List Int) (x : Int) : PT (w ++ [x]) = (tin (PT w) x).1 := by simp [PT, rsR]
theorem QT_snoc (w : List Int) (x : Int) : QT (w ++ [x]) = tadd (QT w) (tin (PT w) x).2 (w.length : Int) := by simp [PT, QT, rsR]

theorem snoc_ind {p : List Int → Prop} (h0 : p []) (h1 : ∀ w x, p w → p (w ++ [x])) (w : List Int) : p w := by
  rw [← List.reverse_reverse w]
  induction w.reverse with
  | nil => exact h0
  | cons x l ih => rw [List.reverse_cons]; exact h1 _ _ ih

theorem PT_flat (w : List Int) : (PT w).flatten.Perm w := by
  induction w using snoc_ind with
  | h0 => exact List.Perm.refl _
  | h1 w x ih =>
    rw [PT_snoc]
    refine (tin_flat _ _).trans ((List.Perm.cons x ih).trans ?_)
    exact (List.perm_append_singleton x w).symm
theorem PT_mem {w : List Int} {y : Int} (h : y ∈ (PT w).flatten) : y ∈ w := (PT_flat w).mem_iff.1 h
theorem QT_mem (w : List Int) : ∀ y ∈ (QT w).flatten, 0 ≤ y ∧ y < (w.length : Int) := by
  induction w using snoc_ind with
  | h0 => intro y hy; simp [QT_nil] at hy
  | h1 w x ih =>
    intro y hy
    rw [QT_snoc] at hy
    rw [List.length_append, List.length_singleton]
    rcases List.mem_cons.1 ((tadd_flat _ _ _).mem_iff.1 hy) with rfl | hy
    · omega
    · have := ih y hy
      omega
theorem PQ_length (w : List Int) : (PT w).length = (QT w).length := by
  induction w using snoc_ind with
  | h0 => rfl
  | h1 w x ih => rw [PT_snoc, QT_snoc, tin_length, tadd_length _ _ _ (by rw [← ih]; exact tin_le _ _), ih]
theorem PQ_tlen (w : List Int) (i : Nat) : tlen (PT w) i = tlen (QT w) i := by
  induction w using snoc_ind with
  | h0 => rfl
  | h1 w x ih => rw [PT_snoc, QT_snoc, tlen_tin, tlen_tadd _ _ _ _ (by rw [← PQ_length]; exact tin_le _ _), ih]

/-! ### A greatest number in the midst -/
/-- Numbers from k on, one more. -/
def tsh (k : Int) (v : Int) : Int := if k ≤ v then v + 1 else v
def tmap (f : Int → Int) (T : List (List Int)) : List (List Int) := T.map (fun r => r.map f)
theorem tmap_tadd (f : Int → Int) : ∀ (T : List (List Int)) (r : Nat) (M : Int), tmap f (tadd T r M) = tadd (tmap f T) r (f M)
  | [], r, M => by cases r <;> rfl
  | row :: T, 0, M => by simp [tadd, tmap]
  | row :: T, r + 1, M => by
    have := tmap_tadd f T r M
    simp only [tmap] at this
    simp [tadd, tmap, this]
theorem tmap_tin (f : Int → Int) (hf : ∀ a b, f a < f b ↔ a < b) : ∀ (T : List (List Int)) (x : Int), tin (tmap f T) (f x) = (tmap f (tin T x).1, (tin T x).2)
  | [], x => rfl
  | row :: T, x => by
    rcases rin_cases x row with h1 | ⟨l1, y, l2, rfl, h1, h2⟩
    · rw [tin_all T h1]
      have : tmap f (row :: T) = row.map f :: tmap f T := rfl
      rw [this, tin_all]
      · simp [tmap]
      · intro z hz
        obtain ⟨z, hz', rfl⟩ := List.mem_map.1 hz
        exact (hf _ _).2 (h1 z hz')
    · rw [tin_at l2 T h1 h2]
      have : tmap f ((l1 ++ y :: l2) :: T) = (l1.map f ++ f y :: l2.map f) :: tmap f T := by simp [tmap]
      rw [this, tin_at, tmap_tin f hf T y]
      · simp [tmap]
      · intro z hz
        obtain ⟨z, hz', rfl⟩ := List.mem_map.1 hz
        exact (hf _ _).2 (h1 z hz')
      · exact fun h => h2 ((hf _ _).1 h)
theorem PT_map (f : Int → Int) (hf : ∀ a b, f a < f b ↔ a < b) (w : List Int) : PT (w.map f) = tmap f (PT w) ∧ QT (w.map f) = QT w := by
  induction w using snoc_ind with
  | h0 => exact ⟨rfl, rfl⟩
  | h1 w x ih =>
    have e : (w ++ [x]).map f = w.map f ++ [f x] := by simp
    rw [e, PT_snoc, QT_snoc, PT_snoc, QT_snoc, ih.1, ih.2, tmap_tin f hf, List.length_map]
    exact ⟨rfl, rfl⟩
theorem tsh_lt (k a b : Int) : tsh k a < tsh k b ↔ a < b := by
  unfold tsh
  split <;> split <;> omega
theorem tmap_same {f : Int → Int} : ∀ (T : List (List Int)), (∀ y ∈ T.flatten, f y = y) → tmap f T = T
  | [], _ => rfl
  | row :: T, h => by
    have h1 : row.map f = row := by
      refine (List.map_congr_left (g := id) fun z hz => ?_).trans (List.map_id _)
      exact h z (by simp [hz])
    have h2 := tmap_same (f := f) T (fun z hz => h z (by
      rw [List.flatten_cons]
      exact List.mem_append_right _ hz))
    show row.map f :: tmap f T = row :: T
    rw [h1, h2]
theorem mem_tmap {f : Int → Int} {T : List (List Int)} {y : Int} (h : y ∈ (tmap f T).flatten) : ∃ z ∈ T.flatten, y = f z := by
  obtain ⟨l, hl, hy⟩ := List.mem_flatten.1 h
  obtain ⟨r, hr, rfl⟩ := List.mem_map.1 hl
  obtain ⟨z, hz, rfl⟩ := List.mem_map.1 hy
  exact ⟨z, List.mem_flatten.2 ⟨r, hr, hz⟩, rfl⟩
theorem length_tmap (f : Int → Int) (T : List (List Int)) : (tmap f T).length = T.length := by simp [tmap]

/-- SCHUETZENBERGER's step: a greatest number M at place k of the list. -/
theorem mid_max (u : List Int) (M : Int) (v : List Int) : (∀ y ∈ u ++ v, y < M) →
    ∃ r, r ≤ (PT (u ++ v)).length ∧ PT (u ++ M :: v) = tadd (PT (u ++ v)) r M ∧ tin (tmap (tsh (u.length : Int)) (QT (u ++ v))) (u.length : Int) = (QT (u ++ M :: v), r) := by
  induction v using snoc_ind with
  | h0 =>
    intro h
    rw [List.append_nil] at h ⊢
    refine ⟨0, Nat.zero_le _, ?_, ?_⟩
    · rw [PT_snoc, tin_max]
      exact fun y hy => h y (PT_mem hy)
    · rw [tmap_same, tin_max, QT_snoc, tin_max]
      · exact fun y hy => h y (PT_mem hy)
      · exact fun y hy => (QT_mem u y hy).2
      · intro y hy
        have := QT_mem u y hy
        unfold tsh
        rw [if_neg (by omega)]
  | h1 v x ih =>
    intro h
    obtain ⟨r, hr, hP, hQ⟩ := ih (fun y hy => h y (by
      rw [← List.append_assoc]
      exact List.mem_append_left _ hy))
    have hx : x < M := h x (by simp)
    have hPm : ∀ y ∈ (PT (u ++ v)).flatten, y < M := fun y hy => h y (by
      rw [← List.append_assoc]
      exact List.mem_append_left _ (PT_mem hy))
    have e1 : u ++ M :: (v ++ [x]) = (u ++ M :: v) ++ [x] := by simp
    have e2 : u ++ (v ++ [x]) = (u ++ v) ++ [x] := by simp
    have hl1 : ((u ++ M :: v).length : Int) = ((u ++ v).length : Int) + 1 := by simp; omega
    have hle : (u.length : Int) ≤ ((u ++ v).length : Int) := by simp; omega
    have hshl : tsh (u.length : Int) ((u ++ v).length : Int) = ((u ++ v).length : Int) + 1 := by
      unfold tsh
      rw [if_pos hle]
    have hQm : ∀ y ∈ (tmap (tsh (u.length : Int)) (QT (u ++ v))).flatten, y < ((u ++ v).length : Int) + 1 := by
      intro y hy
      obtain ⟨z, hz, rfl⟩ := mem_tmap hy
      have := QT_mem _ z hz
      unfold tsh
      split <;> omega
    have ha : (tin (PT (u ++ v)) x).2 ≤ (tmap (tsh (u.length : Int)) (QT (u ++ v))).length := by
      rw [length_tmap, ← PQ_length]
      exact tin_le _ _
    have A := tin_add (PT (u ++ v)) r M x hPm hx hr
    have B := tin_add (tmap (tsh (u.length : Int)) (QT (u ++ v))) (tin (PT (u ++ v)) x).2 (((u ++ v).length : Int) + 1) (u.length : Int) hQm (by omega) ha
    rw [hQ] at B
    rw [e1, e2, PT_snoc, PT_snoc, QT_snoc, QT_snoc, tmap_tadd, hshl, B, hP, A, hl1]
    have hin := tin_length (PT (u ++ v)) x
    have hil := tin_le (PT (u ++ v)) x
    by_cases e : (tin (PT (u ++ v)) x).2 = r
    · rw [if_pos e, if_pos e.symm]
      refine ⟨r + 1, by omega, rfl, ?_⟩
      simp [e]
    · rw [if_neg e, if_neg (fun h => e h.symm)]
      exact ⟨r, by omega, rfl, rfl⟩

/-! ### The inverse -/
def tinv (p : List Int) : List Int := (List.range p.length).map (fun i : Nat => ((p.idxOf (i : Int) : Nat) : Int))

theorem tinv_mid (u v : List Int) (n : Nat) (hn : (u ++ v).length = n) (hu : ∀ y ∈ u ++ v, y ≠ (n : Int)) :
    tinv (u ++ (n : Int) :: v) = (tinv (u ++ v)).map (tsh (u.length : Int)) ++ [(u.length : Int)] := by
  have hl : (u ++ (n : Int) :: v).length = n + 1 := by simp at hn ⊢; omega
  unfold tinv
  rw [hl, List.range_succ, List.map_append, hn, List.map_map]
  congr 1
  · refine List.map_congr_left fun i hi => ?_
    have hi' : i < n := by simpa using hi
    simp only [Function.comp_apply]
    rw [List.idxOf_append, List.idxOf_append]
    by_cases h : (i : Int) ∈ u
    · rw [if_pos h, if_pos h]
      have := List.idxOf_lt_length_of_mem h
      unfold tsh
      rw [if_neg (by omega)]
    · rw [if_neg h, if_neg h]
      unfold tsh
      have hne : ((n : Int) == (i : Int)) = false := by simp; omega
      rw [List.idxOf_cons, hne]
      simp only [cond_false]
      rw [if_pos (by omega)]
      omega
  · have h : ¬ (n : Int) ∈ u := fun h => hu _ (List.mem_append_left _ h) rfl
    simp [List.idxOf_append, h]

/-- SCHUETZENBERGER. -/
theorem turned_tab : ∀ (n : Nat) (p : List Int), p.length = n → p.Nodup → (∀ i : Nat, i < n → (i : Int) ∈ p) → (∀ y ∈ p, 0 ≤ y ∧ y < (n : Int)) → PT (tinv p) = QT p ∧ QT (tinv p) = PT p
  | 0, p, hl, _, _, _ => by
    have : p = [] := List.eq_nil_of_length_eq_zero hl
    subst this
    exact ⟨rfl, rfl⟩
  | n + 1, p, hl, hd, hm, hb => by
    obtain ⟨u, v, rfl⟩ := List.append_of_mem (hm n (by omega))
    have hd' := (List.perm_middle (a := (n : Int)) (l₁ := u) (l₂ := v)).nodup_iff.1 hd
    rw [List.nodup_cons] at hd'
    have hl' : (u ++ v).length = n := by simp at hl ⊢; omega
    have hb' : ∀ y ∈ u ++ v, 0 ≤ y ∧ y < (n : Int) := by
      intro y hy
      have h1 := hb y (by
        rcases List.mem_append.1 hy with h | h
        · exact List.mem_append_left _ h
        · exact List.mem_append_right _ (List.mem_cons_of_mem _ h))
      have h2 : y ≠ (n : Int) := fun e => hd'.1 (e ▸ hy)
      omega
    have hm' : ∀ i : Nat, i < n → (i : Int) ∈ u ++ v := by
      intro i hi
      rcases List.mem_append.1 (hm i (by omega)) with h | h
      · exact List.mem_append_left _ h
      · rcases List.mem_cons.1 h with h | h
        · omega
        · exact List.mem_append_right _ h
    obtain ⟨ih1, ih2⟩ := turned_tab n (u ++ v) hl' hd'.2 hm' hb'
    rw [tinv_mid u v n hl' (fun y hy => by have := hb' y hy; omega), PT_snoc, QT_snoc, (PT_map _ (tsh_lt _) _).1, (PT_map _ (tsh_lt _) _).2, ih1, ih2]
    obtain ⟨r, hr, hP, hQ⟩ := mid_max u (n : Int) v (fun y hy => (hb' y hy).2)
    rw [hQ, hP]
    refine ⟨rfl, ?_⟩
    congr 1
    simp [tinv] at hl' ⊢
    omega

end Go.Proofs.Ytbcjfiobggggjaa

/-
  From behind the rows are columns (SCHENSTED): plain facts on shapes. No program, no memory.
-/
namespace Go.Proofs.Ytbcjfiobggggjaa

/-- One cell more in row r. -/
def grow (f : Nat → Nat) (r : Nat) (i : Nat) : Nat := f i + (if i = r then 1 else 0)
theorem grow_at (f : Nat → Nat) (r : Nat) : grow f r r = f r + 1 := by simp [grow]
theorem grow_ne (f : Nat → Nat) {r i : Nat} (h : i ≠ r) : grow f r i = f i := by simp [grow, h]
theorem grow_comm (f : Nat → Nat) (a b : Nat) : grow (grow f a) b = grow (grow f b) a := by
  funext i
  simp only [grow]
  omega
theorem grow_inj {f : Nat → Nat} {a b : Nat} (h : grow f a = grow f b) : a = b := by
  have := congrFun h a
  rw [grow_at] at this
  by_cases e : a = b
  · exact e
  · rw [grow_ne f e] at this
    omega
/-- Two ways to the same two cells. -/
theorem grow_two {f : Nat → Nat} {a b c d : Nat} (h : grow (grow f a) b = grow (grow f c) d) : (a = c ∧ b = d) ∨ (a = d ∧ b = c) := by
  by_cases e : a = c
  · subst e
    exact .inl ⟨rfl, grow_inj h⟩
  · have h1 := congrFun h a
    have h2 : a = d := by
      by_cases e2 : a = d
      · exact e2
      · simp only [grow, if_neg e, if_neg e2] at h1
        simp at h1
        omega
    subst h2
    rw [grow_comm f c a] at h
    exact .inr ⟨rfl, grow_inj h⟩

theorem ind (i r : Nat) : (i = r ∧ (if i = r then 1 else 0 : Nat) = 1) ∨ (i ≠ r ∧ (if i = r then 1 else 0 : Nat) = 0) := by
  by_cases h : i = r
  · exact .inl ⟨h, if_pos h⟩
  · exact .inr ⟨h, if_neg h⟩

def Anti (f : Nat → Nat) : Prop := ∀ i, f (i + 1) ≤ f i
theorem Anti.le {f : Nat → Nat} (h : Anti f) {i j : Nat} (hij : i ≤ j) : f j ≤ f i := by
  induction hij with
  | refl => exact Nat.le_refl _
  | step _ ih => exact Nat.le_trans (h _) ih
theorem anti_zero {f : Nat → Nat} (h : Anti f) : Anti (grow f 0) := by
  intro i
  have := h i
  simp only [grow]
  rw [if_neg (by omega)]
  omega
theorem anti_two {f : Nat → Nat} {a d : Nat} (hf : Anti f) (ha : Anti (grow f a)) (hd : Anti (grow f d)) (hne : a ≠ d) : Anti (grow (grow f a) d) := by
  intro i
  have h1 := hf i
  have h2 := ha i
  have h3 := hd i
  simp only [grow] at *
  have p1 := ind i a
  have p2 := ind (i + 1) a
  have p3 := ind i d
  have p4 := ind (i + 1) d
  omega
theorem anti_next {f : Nat → Nat} {a : Nat} (hf : Anti f) (ha : Anti (grow f a)) : Anti (grow (grow f a) (a + 1)) := by
  intro i
  have h1 := hf i
  have h2 := ha i
  simp only [grow] at *
  by_cases e1 : i = a
  · subst e1
    simp
    omega
  · by_cases e2 : i + 1 = a
    · subst e2
      simp at *
      omega
    · have : ¬ i + 1 = a + 1 := by omega
      rw [if_neg e2, if_neg this]
      omega
/-- A cell that can be put there: the row above is longer. -/
theorem anti_gap {f : Nat → Nat} {a : Nat} (ha : Anti (grow f (a + 1))) : f (a + 1) + 1 ≤ f a := by
  have := ha a
  rw [grow_at, grow_ne f (by omega)] at this
  exact this

def Sh (w : List Int) : Nat → Nat := tlen (PT w)
theorem sh_nil (i : Nat) : Sh [] i = 0 := by simp [Sh, PT_nil, tlen]
theorem sh_snoc (w : List Int) (z : Int) : Sh (w ++ [z]) = grow (Sh w) (tin (PT w) z).2 := by
  funext i
  unfold Sh
  rw [PT_snoc, tlen_tin]
  rfl
theorem mid_row (u : List Int) (M : Int) (v : List Int) (h : ∀ y ∈ u ++ v, y < M) : ∃ r, r ≤ (PT (u ++ v)).length ∧ PT (u ++ M :: v) = tadd (PT (u ++ v)) r M ∧ Sh (u ++ M :: v) = grow (Sh (u ++ v)) r := by
  obtain ⟨r, h1, h2, _⟩ := mid_max u M v h
  refine ⟨r, h1, h2, ?_⟩
  funext i
  unfold Sh
  rw [h2, tlen_tadd _ _ _ _ h1]
  rfl
theorem sh_last (u : List Int) (M : Int) (h : ∀ y ∈ u, y < M) : Sh (u ++ [M]) = grow (Sh u) 0 := by
  rw [sh_snoc, tin_max]
  exact fun y hy => h y (PT_mem hy)
/-- The row rule. -/
theorem row_rule (u : List Int) (M : Int) (v : List Int) (z : Int) (h : ∀ y ∈ u ++ v, y < M) (hz : z < M) {a d : Nat} (ha : Sh ((u ++ v) ++ [z]) = grow (Sh (u ++ v)) a) (hd : Sh (u ++ M :: v) = grow (Sh (u ++ v)) d) :
    Sh ((u ++ M :: v) ++ [z]) = if a = d then grow (grow (Sh (u ++ v)) a) (a + 1) else grow (grow (Sh (u ++ v)) a) d := by
  obtain ⟨r, h1, h2, h3⟩ := mid_row u M v h
  have e1 : d = r := grow_inj (hd.symm.trans h3)
  have e2 : a = (tin (PT (u ++ v)) z).2 := grow_inj (ha.symm.trans (sh_snoc _ _))
  have A := tin_add (PT (u ++ v)) r M z (fun y hy => h y (PT_mem hy)) hz h1
  rw [sh_snoc, hd, h2, A, ← e2, ← e1]
  by_cases e : a = d
  · rw [if_pos e, if_pos e, e]
  · rw [if_neg e, if_neg e]
    exact grow_comm _ _ _

/-- The first row whose end is one cell right of where the cell of row b lies. -/
def RSh (f : Nat → Nat) (b s : Nat) : Prop := grow f b s = f b + 1 ∧ ∀ i, i < s → f b + 1 < grow f b i
theorem RSh.le {f : Nat → Nat} {b s : Nat} (h : RSh f b s) : s ≤ b := by
  rcases Nat.lt_or_ge b s with h1 | h1
  · have := h.2 b h1
    rw [grow_at] at this
    omega
  · exact h1
theorem rsh_self {f : Nat → Nat} {b : Nat} (h : ∀ i, i < b → f b + 1 < f i) : RSh f b b :=
  ⟨grow_at f b, fun i hi => by rw [grow_ne f (by omega)]; exact h i hi⟩
/-- Below it, where its row has got one more. -/
theorem RSh.next {f : Nat → Nat} {b s : Nat} (hf : Anti f) (hb : Anti (grow f b)) (h : RSh f b s) (hne : s ≠ b) : grow f b (s + 1) = f b + 1 ∧ f s = f b + 1 := by
  have hle := h.le
  have hs := h.1
  rw [grow_ne f hne] at hs
  refine ⟨?_, hs⟩
  by_cases e : s + 1 = b
  · rw [e, grow_at]
  · rw [grow_ne f e]
    obtain ⟨c, rfl⟩ : ∃ c, b = c + 1 := ⟨b - 1, by omega⟩
    have h1 := anti_gap hb
    have h2 := hf.le (show s + 1 ≤ c by omega)
    have h3 := hf s
    omega

/-! ### The induction over the length -/
structure Upto (N : Nat) : Prop where
  an : ∀ w : List Int, w.length < N → w.Nodup → Anti (Sh w)
  ge : ∀ (y : Int) (u : List Int) (M : Int) (v : List Int) (b d : Nat), (y :: (u ++ M :: v)).length < N → (y :: (u ++ M :: v)).Nodup → (∀ x ∈ y :: (u ++ v), x < M) → Sh (y :: (u ++ v)) = grow (Sh (u ++ v)) b → Sh (u ++ M :: v) = grow (Sh (u ++ v)) d →
    (b ≠ d → Sh (y :: (u ++ M :: v)) = grow (grow (Sh (u ++ v)) b) d) ∧ (b = d → ∃ s, RSh (Sh (u ++ v)) b s ∧ Sh (y :: (u ++ M :: v)) = grow (grow (Sh (u ++ v)) b) s)
  ee : ∀ (y : Int) (u : List Int), (y :: u).length < N → (y :: u).Nodup → ∃ b, Sh (y :: u) = grow (Sh u) b
  hh : ∀ (y : Int) (u : List Int) (z : Int) (a : Nat), (y :: (u ++ [z])).length < N → (y :: (u ++ [z])).Nodup → Sh (y :: u) = grow (Sh u) a → Sh (u ++ [z]) = grow (Sh u) a →
    Sh (y :: (u ++ [z])) = grow (grow (Sh u) a) a ∨ (Sh u (a + 1) = Sh u a ∧ Sh (y :: (u ++ [z])) = grow (grow (Sh u) a) (a + 1))

/-- A greatest one. -/
theorem max_of : ∀ (w : List Int), w ≠ [] → w.Nodup → ∃ u M v, w = u ++ M :: v ∧ ∀ y ∈ u ++ v, y < M
  | [x], _, _ => ⟨[], x, [], rfl, by simp⟩
  | x :: x' :: l, _, hd => by
    rw [List.nodup_cons] at hd
    obtain ⟨u, M, v, e, h⟩ := max_of (x' :: l) (by simp) hd.2
    rw [e] at hd ⊢
    rcases Int.lt_or_le x M with h1 | h1
    · refine ⟨x :: u, M, v, rfl, fun y hy => ?_⟩
      rcases List.mem_cons.1 hy with rfl | hy
      · exact h1
      · exact h y hy
    · have h2 : M < x := by
        have : x ≠ M := fun e => hd.1 (by simp [e])
        omega
      refine ⟨[], x, u ++ M :: v, rfl, fun y hy => ?_⟩
      rw [List.nil_append] at hy
      rcases List.mem_append.1 hy with hy | hy
      · have := h y (List.mem_append_left _ hy)
        omega
      · rcases List.mem_cons.1 hy with rfl | hy
        · exact h2
        · have := h y (List.mem_append_right _ hy)
          omega

theorem nodup_mid {u : List Int} {M : Int} {v : List Int} (h : (u ++ M :: v).Nodup) : (u ++ v).Nodup := by
  have := (List.perm_middle (a := M) (l₁ := u) (l₂ := v)).nodup_iff.1 h
  exact (List.nodup_cons.1 this).2
theorem nodup_front {u v : List Int} (h : (u ++ v).Nodup) : u.Nodup := (List.nodup_append.1 h).1

theorem anti_all (N : Nat) (IH : Upto N) : ∀ w : List Int, w.length = N → w.Nodup → Anti (Sh w) := by
  intro w hl hd
  by_cases h0 : w = []
  · subst h0
    intro i
    rw [sh_nil]
    exact Nat.zero_le _
  · obtain ⟨u, M, v, rfl, hM⟩ := max_of w h0 hd
    rcases List.eq_nil_or_concat v with rfl | ⟨v, z, rfl⟩
    · rw [sh_last u M (fun y hy => hM y (by simp [hy]))]
      exact anti_zero (IH.an u (by simp at hl; omega) (nodup_front hd))
    · have e1 : u ++ M :: (v ++ [z]) = (u ++ M :: v) ++ [z] := by simp
      have e2 : u ++ (v ++ [z]) = (u ++ v) ++ [z] := by simp
      rw [List.concat_eq_append] at hl hd hM ⊢
      rw [e2] at hM
      have hd1 := nodup_mid hd
      rw [e2] at hd1
      rw [e1] at hd hl ⊢
      obtain ⟨r, _, _, hr⟩ := mid_row u M v (fun y hy => hM y (List.mem_append_left _ hy))
      have A1 := IH.an (u ++ v) (by simp at hl ⊢; omega) (nodup_front hd1)
      have A2 := IH.an ((u ++ v) ++ [z]) (by simp at hl ⊢; omega) hd1
      have A3 := IH.an (u ++ M :: v) (by simp at hl ⊢; omega) (nodup_front hd)
      rw [row_rule u M v z (fun y hy => hM y (List.mem_append_left _ hy)) (hM z (by simp)) (sh_snoc _ _) hr]
      rw [sh_snoc] at A2
      rw [hr] at A3
      split
      · rename_i e
        rw [e]
        rw [e] at A2
        exact anti_next A1 A2
      · rename_i e
        exact anti_two A1 A2 A3 e

theorem ge_all (N : Nat) (IH : Upto N) (y : Int) (u : List Int) (M : Int) (v : List Int) (b d : Nat) (hl : (y :: (u ++ M :: v)).length = N) (hd : (y :: (u ++ M :: v)).Nodup) (hM : ∀ x ∈ y :: (u ++ v), x < M) (hb : Sh (y :: (u ++ v)) = grow (Sh (u ++ v)) b) (hdd : Sh (u ++ M :: v) = grow (Sh (u ++ v)) d) :
    (b ≠ d → Sh (y :: (u ++ M :: v)) = grow (grow (Sh (u ++ v)) b) d) ∧ (b = d → ∃ s, RSh (Sh (u ++ v)) b s ∧ Sh (y :: (u ++ M :: v)) = grow (grow (Sh (u ++ v)) b) s) := by
  rcases List.eq_nil_or_concat v with rfl | ⟨v, z, rfl⟩
  · rw [List.append_nil] at *
    have hu : ∀ x ∈ u, x < M := fun x hx => hM x (by simp [hx])
    have e0 : d = 0 := grow_inj (hdd.symm.trans (sh_last u M hu))
    have e1 : Sh (y :: (u ++ [M])) = grow (grow (Sh u) b) 0 := by
      have := sh_last (y :: u) M (fun x hx => hM x (by simpa using hx))
      rw [List.cons_append] at this
      rw [this, hb]
    subst e0
    refine ⟨fun _ => e1, fun e => ?_⟩
    subst e
    exact ⟨0, rsh_self (fun i hi => absurd hi (Nat.not_lt_zero _)), e1⟩
  · rw [List.concat_eq_append] at *
    have e1 : u ++ M :: (v ++ [z]) = (u ++ M :: v) ++ [z] := by simp
    have e2 : u ++ (v ++ [z]) = (u ++ v) ++ [z] := by simp
    rw [e1] at hl hd hdd ⊢
    rw [e2] at hM hb hdd ⊢
    have hMuv : ∀ x ∈ u ++ v, x < M := fun x hx => hM x (List.mem_cons_of_mem _ (List.mem_append_left _ hx))
    have hMy : y < M := hM y (by simp)
    have hMz : z < M := hM z (by simp)
    have hMyuv : ∀ x ∈ y :: (u ++ v), x < M := fun x hx => by
      rcases List.mem_cons.1 hx with rfl | hx
      · exact hMy
      · exact hMuv x hx
    -- lists without twins
    have hd1 : ((y :: u) ++ M :: (v ++ [z])).Nodup := by rw [List.cons_append, e1]; exact hd
    have hd2 : (y :: ((u ++ v) ++ [z])).Nodup := by have := nodup_mid hd1; rw [List.cons_append, e2] at this; exact this
    have hd3 : ((u ++ v) ++ [z]).Nodup := (List.nodup_cons.1 hd2).2
    have hd4 : (y :: (u ++ v)).Nodup := by
      have : ((y :: (u ++ v)) ++ [z]).Nodup := by rw [List.cons_append]; exact hd2
      exact nodup_front this
    have hd5 : (u ++ M :: v).Nodup := nodup_front (List.nodup_cons.1 hd).2
    have hd6 : (y :: (u ++ M :: v)).Nodup := by
      have : ((y :: (u ++ M :: v)) ++ [z]).Nodup := by rw [List.cons_append]; exact hd
      exact nodup_front this
    have hL : (u ++ v).length + 3 = N := by simp at hl ⊢; omega
    have hln1 : (u ++ v).length < N := by omega
    have hln2 : ((u ++ v) ++ [z]).length < N := by rw [List.length_append]; simp only [List.length_singleton]; omega
    have hln3 : (y :: (u ++ v)).length < N := by rw [List.length_cons]; omega
    have hln4 : (y :: ((u ++ v) ++ [z])).length < N := by rw [List.length_cons, List.length_append]; simp only [List.length_singleton]; omega
    have hln5 : (u ++ M :: v).length < N := by simp at hL ⊢; omega
    have hln6 : (y :: (u ++ M :: v)).length < N := by simp at hL ⊢; omega
    -- the shapes
    obtain ⟨b0, hb0⟩ := IH.ee y (u ++ v) hln3 hd4
    obtain ⟨d0, _, _, hd0⟩ := mid_row u M v hMuv
    obtain ⟨a, ha⟩ : ∃ a, Sh ((u ++ v) ++ [z]) = grow (Sh (u ++ v)) a := ⟨_, sh_snoc _ _⟩
    obtain ⟨a', ha'⟩ : ∃ a', Sh ((y :: (u ++ v)) ++ [z]) = grow (Sh (y :: (u ++ v))) a' := ⟨_, sh_snoc _ _⟩
    have A0 := IH.an (u ++ v) hln1 (nodup_front hd3)
    have Az := IH.an _ hln2 hd3
    have Ay := IH.an _ hln3 hd4
    have Ayz := IH.an _ hln4 hd2
    have AM := IH.an _ hln5 hd5
    have hzM := row_rule u M v z hMuv hMz ha hd0
    obtain ⟨g1, g2⟩ := IH.ge y u M v b0 d0 hln6 hd6 hMyuv hb0 hd0
    have HH := IH.hh y (u ++ v) z a hln4 hd2
    have hyM : ∀ m, Sh (y :: (u ++ M :: v)) = grow (Sh (y :: (u ++ v))) m → Sh (y :: ((u ++ M :: v) ++ [z])) = if a' = m then grow (grow (Sh (y :: (u ++ v))) a') (a' + 1) else grow (grow (Sh (y :: (u ++ v))) a') m := by
      intro m hm
      exact row_rule (y :: u) M v z hMyuv hMz ha' hm
    rw [List.cons_append] at ha'
    rw [hdd, ha] at hzM
    rw [hb, ha] at Ayz
    rw [hb0] at ha' hyM Ay
    rw [hd0] at AM
    rw [hb, ha] at ha'
    rw [ha] at Az
    rw [ha] at hb ⊢
    generalize hlam : Sh (u ++ v) = f at *
    have hcase := grow_two ha'
    by_cases hab : a = b0
    · subst hab
      have hba : b = a' := by rcases hcase with h | h; exact h.2; omega
      subst hba
      have HH := HH hb0 ha
      have hc : b = a ∨ (f (a + 1) = f a ∧ b = a + 1) := by
        rw [hb] at HH
        rcases HH with h | h
        · exact .inl (grow_inj h)
        · exact .inr ⟨h.1, grow_inj h.2⟩
      by_cases hda : d0 = a
      · subst hda
        rw [if_pos rfl] at hzM
        have hd1' : d = d0 + 1 := grow_inj hzM
        obtain ⟨s, hs, hsM⟩ := g2 rfl
        have hfin := hyM s hsM
        rcases hc with rfl | ⟨hc1, rfl⟩
        · -- right of it
          have hsb : s = b := by
            have hle := hs.le
            rcases Nat.lt_or_ge s b with h1 | h1
            · exfalso
              have h2 := hs.1
              rw [grow_ne f (by omega)] at h2
              obtain ⟨c, hcb⟩ : ∃ c, b = c + 1 := ⟨b - 1, by omega⟩
              have h3 := Ayz c
              rw [← hcb, grow_at, grow_at, grow_ne _ (by omega), grow_ne _ (by omega)] at h3
              have h4 := A0.le (show s ≤ c by omega)
              omega
            · omega
          subst hsb
          rw [if_pos rfl] at hfin
          subst hd1'
          refine ⟨fun _ => hfin, fun e => by omega⟩
        · -- below it
          have hsl := hs.le
          rw [if_neg (by omega)] at hfin
          subst hd1'
          refine ⟨fun e => absurd rfl e, fun _ => ⟨s, ⟨?_, fun i hi => ?_⟩, hfin⟩⟩
          · rw [grow_ne _ (by omega), grow_ne f (show d0 + 1 ≠ d0 by omega), hs.1, hc1]
          · have := hs.2 i hi
            rw [grow_ne f (show d0 + 1 ≠ d0 by omega), grow_ne _ (show i ≠ d0 + 1 by omega), hc1]
            exact this
      · rw [if_neg (fun e => hda e.symm)] at hzM
        have hd1' : d = d0 := grow_inj hzM
        subst hd1'
        have hfin := hyM d (g1 (fun e => hda e.symm))
        have hbd : b ≠ d := by
          rcases hc with rfl | ⟨hc1, rfl⟩
          · exact fun e => hda e.symm
          · intro e
            rw [← e] at AM
            have := anti_gap AM
            omega
        rw [if_neg hbd] at hfin
        exact ⟨fun _ => hfin, fun e => absurd e hbd⟩
    · have hba : b = b0 ∧ a' = a := by
        rcases hcase with h | h
        · exact absurd h.1 hab
        · exact ⟨h.2, h.1.symm⟩
      obtain ⟨rfl, rfl⟩ := hba
      by_cases hda : a' = d0
      · subst hda
        rw [if_pos rfl] at hzM
        have hd1' : d = a' + 1 := grow_inj hzM
        have hfin := hyM a' (g1 (fun e => hab e.symm))
        rw [if_pos rfl, grow_comm f b a'] at hfin
        subst hd1'
        refine ⟨fun _ => hfin, fun e => ?_⟩
        subst e
        refine ⟨a' + 1, rsh_self (fun i hi => ?_), hfin⟩
        have h1 := anti_gap Ay
        have h2 := Az.le (show i ≤ a' by omega)
        rw [grow_at] at h2
        rw [grow_ne f (show a' + 1 ≠ a' by omega)]
        omega
      · rw [if_neg hda] at hzM
        have hd1' : d = d0 := grow_inj hzM
        subst hd1'
        by_cases hbd : b = d
        · subst hbd
          obtain ⟨s, hs, hsM⟩ := g2 rfl
          have hfin := hyM s hsM
          refine ⟨fun e => absurd rfl e, fun _ => ?_⟩
          by_cases has : a' = s
          · subst has
            rw [if_pos rfl, grow_comm f b a'] at hfin
            obtain ⟨k1, k2⟩ := hs.next A0 Ay hab
            refine ⟨a' + 1, ⟨?_, fun i hi => ?_⟩, hfin⟩
            · rw [grow_comm f a' b, grow_ne _ (by omega), k1, grow_ne f (fun e => hab e.symm)]
            · rw [grow_ne f (fun e => hab e.symm), grow_comm f a' b]
              by_cases hi2 : i = a'
              · subst hi2
                rw [grow_at, grow_ne f hab, k2]
                omega
              · rw [grow_ne _ hi2]
                exact hs.2 i (by omega)
          · rw [if_neg has, grow_comm f b a'] at hfin
            refine ⟨s, ⟨?_, fun i hi => ?_⟩, hfin⟩
            · rw [grow_comm f a' b, grow_ne _ (fun e => has e.symm), hs.1, grow_ne f (fun e => hab e.symm)]
            · have := hs.2 i hi
              rw [grow_ne f (fun e => hab e.symm), grow_comm f a' b]
              refine Nat.lt_of_lt_of_le this ?_
              exact Nat.le_add_right _ _
        · have hfin := hyM d (g1 hbd)
          rw [if_neg hda, grow_comm f b a'] at hfin
          exact ⟨fun _ => hfin, fun e => absurd e hbd⟩

theorem ee_all (N : Nat) (IH : Upto N) (y : Int) (u : List Int) (hl : (y :: u).length = N) (hd : (y :: u).Nodup) : ∃ b, Sh (y :: u) = grow (Sh u) b := by
  by_cases h0 : u = []
  · subst h0
    exact ⟨_, sh_snoc [] y⟩
  · obtain ⟨u1, M, v, rfl, hM⟩ := max_of u h0 (List.nodup_cons.1 hd).2
    have hyM : y ≠ M := fun e => (List.nodup_cons.1 hd).1 (by simp [e])
    rcases Int.lt_or_le y M with h1 | h1
    · have hd1 : ((y :: u1) ++ M :: v).Nodup := hd
      have hd2 : (y :: (u1 ++ v)).Nodup := nodup_mid hd1
      obtain ⟨b, hb⟩ := IH.ee y (u1 ++ v) (by simp at hl ⊢; omega) hd2
      obtain ⟨d, _, _, hdd⟩ := mid_row u1 M v hM
      obtain ⟨g1, g2⟩ := ge_all N IH y u1 M v b d hl hd (fun x hx => by
        rcases List.mem_cons.1 hx with rfl | hx
        · exact h1
        · exact hM x hx) hb hdd
      by_cases e : b = d
      · obtain ⟨s, _, hs⟩ := g2 e
        refine ⟨s, ?_⟩
        rw [hs, hdd, e]
      · refine ⟨b, ?_⟩
        rw [g1 e, hdd]
        exact grow_comm _ _ _
    · obtain ⟨d, _, _, hdd⟩ := mid_row [] y (u1 ++ M :: v) (fun x hx => by
        rw [List.nil_append] at hx
        rcases List.mem_append.1 hx with hx | hx
        · have := hM x (List.mem_append_left _ hx)
          omega
        · rcases List.mem_cons.1 hx with rfl | hx
          · omega
          · have := hM x (List.mem_append_right _ hx)
            omega)
      exact ⟨d, hdd⟩

/-- A greatest number at the front lies at the end of the first column. -/
theorem front_max (M : Int) (u : List Int) : (∀ x ∈ u, x < M) → u.Nodup → (∀ w : List Int, w.length < u.length → w.Nodup → Anti (Sh w)) → ∀ d, Sh (M :: u) = grow (Sh u) d → Sh u d = 0 := by
  induction u using snoc_ind with
  | h0 => intro _ _ _ d _; exact sh_nil d
  | h1 u z ih =>
    intro hM hd hA d hdd
    have hMu : ∀ x ∈ [] ++ u, x < M := fun x hx => hM x (by simp at hx; simp [hx])
    obtain ⟨d0, _, _, hd0⟩ := mid_row [] M u hMu
    rw [List.nil_append, List.nil_append] at hd0
    have hA1 : ∀ w : List Int, w.length < u.length → w.Nodup → Anti (Sh w) := fun w hw hn => hA w (by rw [List.length_append]; simp only [List.length_singleton]; omega) hn
    have h0 := ih (fun x hx => hM x (by simp [hx])) (nodup_front hd) hA1 d0 hd0
    have Au := hA u (by simp) (nodup_front hd)
    have hr := row_rule [] M u z hMu (hM z (by simp)) (sh_snoc _ _) hd0
    simp only [List.nil_append] at hr
    rw [List.cons_append, hdd, sh_snoc] at hr
    rw [sh_snoc]
    split at hr
    · rename_i e
      have := grow_inj hr
      have h2 := Au d0
      rw [this, grow_ne _ (by omega), e]
      omega
    · rename_i e
      have := grow_inj hr
      rw [this, grow_ne _ (fun h => e h.symm)]
      exact h0

theorem hh_all (N : Nat) (IH : Upto N) (y : Int) (u : List Int) (z : Int) (a : Nat) (hl : (y :: (u ++ [z])).length = N) (hd : (y :: (u ++ [z])).Nodup) (hy : Sh (y :: u) = grow (Sh u) a) (hz : Sh (u ++ [z]) = grow (Sh u) a) :
    Sh (y :: (u ++ [z])) = grow (grow (Sh u) a) a ∨ (Sh u (a + 1) = Sh u a ∧ Sh (y :: (u ++ [z])) = grow (grow (Sh u) a) (a + 1)) := by
  have hyz : y ≠ z := fun e => (List.nodup_cons.1 hd).1 (by simp [e])
  have hdu : (u ++ [z]).Nodup := (List.nodup_cons.1 hd).2
  have hlu : u.length + 2 = N := by simp at hl; omega
  have hdyu : (y :: u).Nodup := by
    have : ((y :: u) ++ [z]).Nodup := by rw [List.cons_append]; exact hd
    exact nodup_front this
  obtain ⟨p, M, q, hpq, hM⟩ := max_of (y :: (u ++ [z])) (by simp) hd
  have hall : ∀ x ∈ y :: (u ++ [z]), x ≤ M := by
    intro x hx
    rw [hpq] at hx
    rcases List.mem_append.1 hx with hx | hx
    · have := hM x (List.mem_append_left _ hx)
      omega
    · rcases List.mem_cons.1 hx with rfl | hx
      · exact Int.le_refl _
      · have := hM x (List.mem_append_right _ hx)
        omega
  have hmem : M ∈ y :: (u ++ [z]) := by rw [hpq]; simp
  by_cases hMz : M = z
  · -- z is the greatest
    subst hMz
    have h1 : ∀ x ∈ y :: u, x < M := by
      intro x hx
      have h2 := hall x (by rcases List.mem_cons.1 hx with rfl | hx; simp; simp [hx])
      have h3 : x ≠ M := by
        rintro rfl
        have : ((y :: u) ++ [x]).Nodup := by rw [List.cons_append]; exact hd
        rw [List.nodup_append] at this
        exact this.2.2 x hx x (by simp) rfl
      omega
    have e0 : a = 0 := grow_inj (hz.symm.trans (sh_last u M (fun x hx => h1 x (by simp [hx]))))
    subst e0
    left
    have := sh_last (y :: u) M h1
    rw [List.cons_append] at this
    rw [this, hy]
  · by_cases hMy : M = y
    · -- y is the greatest
      subst hMy
      have h1 : ∀ x ∈ u ++ [z], x < M := by
        intro x hx
        have h2 := hall x (List.mem_cons_of_mem _ hx)
        have h3 : x ≠ M := fun e => (List.nodup_cons.1 hd).1 (e ▸ hx)
        omega
      have h0 := front_max M u (fun x hx => h1 x (by simp [hx])) (nodup_front hdu) (fun w hw hn => IH.an w (by omega) hn) a hy
      have Au := IH.an u (by omega) (nodup_front hdu)
      right
      have h4 := Au a
      refine ⟨by omega, ?_⟩
      have hr := row_rule [] M u z (fun x hx => h1 x (by simp at hx; simp [hx])) (h1 z (by simp)) (a := a) (d := a) hz hy
      simpa using hr
    · -- the greatest lies in u
      have hMu : M ∈ u := by
        rcases List.mem_cons.1 hmem with h | h
        · exact absurd h hMy
        · rcases List.mem_append.1 h with h | h
          · exact h
          · simp at h
            exact absurd h hMz
      obtain ⟨u1, u2, rfl⟩ := List.append_of_mem hMu
      clear hpq hM hmem p q
      have hlt : ∀ x ∈ y :: ((u1 ++ u2) ++ [z]), x < M := by
        intro x hx
        have hx2 : x ∈ y :: ((u1 ++ M :: u2) ++ [z]) := by
          simp only [List.mem_cons, List.mem_append] at hx ⊢
          rcases hx with h | (h | h) | h
          · exact .inl h
          · exact .inr (.inl (.inl h))
          · exact .inr (.inl (.inr (.inr h)))
          · exact .inr (.inr h)
        have h2 := hall x hx2
        have hdd : ((y :: u1) ++ M :: (u2 ++ [z])).Nodup := by
          have : (y :: u1) ++ M :: (u2 ++ [z]) = y :: ((u1 ++ M :: u2) ++ [z]) := by simp
          rw [this]
          exact hd
        have hdd2 := (List.perm_middle (a := M) (l₁ := y :: u1) (l₂ := u2 ++ [z])).nodup_iff.1 hdd
        have h3 : x ≠ M := by
          rintro rfl
          refine (List.nodup_cons.1 hdd2).1 ?_
          simp only [List.mem_cons, List.mem_append, List.cons_append] at hx ⊢
          rcases hx with h | (h | h) | h
          · exact .inl h
          · exact .inr (.inl h)
          · exact .inr (.inr (.inl h))
          · exact .inr (.inr (.inr h))
        omega
      have hMuv : ∀ x ∈ u1 ++ u2, x < M := fun x hx => hlt x (List.mem_cons_of_mem _ (List.mem_append_left _ hx))
      have hMy' : y < M := hlt y (by simp)
      have hMz' : z < M := hlt z (by simp)
      have hMyuv : ∀ x ∈ y :: (u1 ++ u2), x < M := fun x hx => by
        rcases List.mem_cons.1 hx with rfl | hx
        · exact hMy'
        · exact hMuv x hx
      have hd1 : ((y :: u1) ++ M :: (u2 ++ [z])).Nodup := by
        have : (y :: u1) ++ M :: (u2 ++ [z]) = y :: ((u1 ++ M :: u2) ++ [z]) := by simp
        rw [this]
        exact hd
      have hd2 : (y :: ((u1 ++ u2) ++ [z])).Nodup := by
        have := nodup_mid hd1
        rw [List.cons_append, ← List.append_assoc] at this
        exact this
      have hd3 : ((u1 ++ u2) ++ [z]).Nodup := (List.nodup_cons.1 hd2).2
      have hd4 : (y :: (u1 ++ u2)).Nodup := by
        have : ((y :: (u1 ++ u2)) ++ [z]).Nodup := by rw [List.cons_append]; exact hd2
        exact nodup_front this
      have hL : (u1 ++ u2).length + 3 = N := by simp at hlu ⊢; omega
      obtain ⟨B, hB⟩ := IH.ee y (u1 ++ u2) (by rw [List.length_cons]; omega) hd4
      obtain ⟨D, _, _, hD⟩ := mid_row u1 M u2 hMuv
      obtain ⟨A, hA⟩ : ∃ A, Sh ((u1 ++ u2) ++ [z]) = grow (Sh (u1 ++ u2)) A := ⟨_, sh_snoc _ _⟩
      obtain ⟨A', hA'⟩ : ∃ A', Sh ((y :: (u1 ++ u2)) ++ [z]) = grow (Sh (y :: (u1 ++ u2))) A' := ⟨_, sh_snoc _ _⟩
      have F0 := IH.an (u1 ++ u2) (by omega) (nodup_front hd3)
      have FB := IH.an _ (by rw [List.length_cons]; omega) hd4
      have FD := IH.an (u1 ++ M :: u2) (by simp at hL ⊢; omega) (nodup_front hdu)
      have hzM := row_rule u1 M u2 z hMuv hMz' hA hD
      obtain ⟨g1, g2⟩ := IH.ge y u1 M u2 B D (by simp at hL ⊢; omega) hdyu hMyuv hB hD
      have hyM : ∀ m, Sh (y :: (u1 ++ M :: u2)) = grow (Sh (y :: (u1 ++ u2))) m → Sh (y :: ((u1 ++ M :: u2) ++ [z])) = if A' = m then grow (grow (Sh (y :: (u1 ++ u2))) A') (A' + 1) else grow (grow (Sh (y :: (u1 ++ u2))) A') m := by
        intro m hm
        exact row_rule (y :: u1) M u2 z hMyuv hMz' hA' hm
      have HH := IH.hh y (u1 ++ u2) z
      obtain ⟨b2, hb2⟩ := IH.ee y ((u1 ++ u2) ++ [z]) (by rw [List.length_cons, List.length_append]; simp only [List.length_singleton]; omega) hd2
      have HH := fun a => HH a (by rw [List.length_cons, List.length_append]; simp only [List.length_singleton]; omega) hd2
      rw [hz, hD] at hzM
      rw [hD] at hy hz FD ⊢
      rw [hB] at FB hA' hyM
      rw [List.cons_append] at hA'
      rw [hy] at g1 g2 hyM
      rw [hA] at hb2
      generalize hlam : Sh (u1 ++ u2) = f at *
      by_cases hAB : A = B
      · subst hAB
        have hc : A' = A ∨ (f (A + 1) = f A ∧ A' = A + 1) := by
          rcases HH A hB hA with h | h
          · exact .inl (grow_inj (hA'.symm.trans h))
          · exact .inr ⟨h.1, grow_inj (hA'.symm.trans h.2)⟩
        by_cases hDA : A = D
        · exfalso
          subst hDA
          rw [if_pos rfl] at hzM
          have h1 := grow_inj hzM
          obtain ⟨s, hs, hsM⟩ := g2 rfl
          have h2 := grow_inj hsM
          have := hs.le
          omega
        · rw [if_neg hDA, grow_comm f A D] at hzM
          have haA : a = A := grow_inj hzM
          subst haA
          have hfin := hyM D (by rw [g1 hDA])
          have hAD : A' ≠ D := by
            rcases hc with rfl | ⟨hc1, rfl⟩
            · exact hDA
            · intro e
              rw [← e] at FD
              have := anti_gap FD
              omega
          rw [if_neg hAD] at hfin
          have e5 : grow (grow (grow f a) A') D = grow (grow (grow f D) a) A' := by
            rw [grow_comm (grow f a) A' D, grow_comm f a D]
          rw [hfin, e5]
          rcases hc with rfl | ⟨hc1, rfl⟩
          · exact .inl rfl
          · refine .inr ⟨?_, rfl⟩
            rw [grow_ne f hAD, grow_ne f hDA]
            exact hc1
      · have hA2 : A' = A := by
          rw [hb2] at hA'
          rcases grow_two hA' with h | h
          · exact absurd h.1 hAB
          · exact h.1.symm
        subst hA2
        by_cases hDA : A' = D
        · subst hDA
          rw [if_pos rfl] at hzM
          have h1 : a = A' + 1 := grow_inj hzM
          have hBa : B = a := by
            have := g1 (fun e => hAB e.symm)
            rw [grow_comm f B A'] at this
            exact (grow_inj this).symm
          have hfin := hyM A' (by rw [g1 (fun e => hAB e.symm)])
          rw [if_pos rfl] at hfin
          left
          rw [hfin, hBa, ← h1, grow_comm f a A']
        · rw [if_neg hDA, grow_comm f A' D] at hzM
          have haA : a = A' := grow_inj hzM
          subst haA
          by_cases hBD : B = D
          · subst hBD
            obtain ⟨s, hs, hsM⟩ := g2 rfl
            have hsa : a = s := grow_inj hsM
            subst hsa
            have hfin := hyM a rfl
            rw [if_pos rfl] at hfin
            obtain ⟨k1, k2⟩ := hs.next F0 FB hDA
            right
            refine ⟨?_, hfin⟩
            rw [k1, hs.1]
          · exfalso
            have := g1 hBD
            rw [grow_comm f B D] at this
            exact hAB (grow_inj this)

theorem upto_all : ∀ N, Upto N
  | 0 => ⟨fun _ h => absurd h (Nat.not_lt_zero _), fun _ _ _ _ _ _ h => absurd h (Nat.not_lt_zero _), fun _ _ h => absurd h (Nat.not_lt_zero _), fun _ _ _ _ h => absurd h (Nat.not_lt_zero _)⟩
  | N + 1 => by
    have IH := upto_all N
    refine ⟨fun w hw hd => ?_, fun y u M v b d hl hd hM hb hdd => ?_, fun y u hl hd => ?_, fun y u z a hl hd hy hz => ?_⟩
    · rcases Nat.lt_or_ge w.length N with h | h
      · exact IH.an w h hd
      · exact anti_all N IH w (by omega) hd
    · rcases Nat.lt_or_ge (y :: (u ++ M :: v)).length N with h | h
      · exact IH.ge y u M v b d h hd hM hb hdd
      · exact ge_all N IH y u M v b d (by omega) hd hM hb hdd
    · rcases Nat.lt_or_ge (y :: u).length N with h | h
      · exact IH.ee y u h hd
      · exact ee_all N IH y u (by omega) hd
    · rcases Nat.lt_or_ge (y :: (u ++ [z])).length N with h | h
      · exact IH.hh y u z a h hd hy hz
      · exact hh_all N IH y u z a (by omega) hd hy hz

theorem anti_sh {w : List Int} (h : w.Nodup) : Anti (Sh w) := (upto_all (w.length + 1)).an w (Nat.lt_succ_self _) h

end Go.Proofs.Ytbcjfiobggggjaa

/-
  From behind the rows are columns: the transpose, entry by entry. Plain facts; no program, no memory.
-/
namespace Go.Proofs.Ytbcjfiobggggjaa

/-- The one's rows are the other's columns. -/
def Tr (f g : Nat → Nat) : Prop := ∀ i k, k < f i ↔ i < g k
theorem tr_grow {f g : Nat → Nat} {r c : Nat} (h : Tr f g) (hc : c = f r) (hr : r = g c) : Tr (grow f r) (grow g c) := by
  intro i k
  have h1 := h i k
  have h2 := h r k
  have h3 := h i c
  simp only [grow]
  have p1 := ind i r
  have p2 := ind k c
  by_cases e1 : i = r
  · by_cases e2 : k = c
    · subst e1
      subst e2
      simp
      omega
    · subst e1
      simp only [if_pos, if_neg e2]
      omega
  · by_cases e2 : k = c
    · subst e2
      simp only [if_pos, if_neg e1]
      omega
    · simp only [if_neg e1, if_neg e2]
      omega
theorem tr_inv {f g : Nat → Nat} {a b : Nat} (h : Tr f g) (h2 : Tr (grow f a) (grow g b)) : b = f a ∧ a = g b := by
  have h3 := (h2 a (f a)).1 (by rw [grow_at]; omega)
  have h4 : ¬ a < g (f a) := fun e => by have := (h a (f a)).2 e; omega
  by_cases e : f a = b
  · subst e
    rw [grow_at] at h3
    exact ⟨rfl, by omega⟩
  · rw [grow_ne g e] at h3
    exact absurd h3 h4

theorem tr_all : ∀ (N : Nat) (w : List Int), w.length = N → w.Nodup → Tr (Sh w) (Sh w.reverse)
  | N, w, hl, hd => by
    by_cases h0 : w = []
    · subst h0
      intro i k
      rw [List.reverse_nil, sh_nil, sh_nil]
      omega
    · obtain ⟨u, M, v, rfl, hM⟩ := max_of w h0 hd
      have hdr : (u ++ M :: v).reverse.Nodup := (List.reverse_perm _).nodup_iff.2 hd
      rcases List.eq_nil_or_concat v with rfl | ⟨v, z, rfl⟩
      · have hu : ∀ x ∈ u, x < M := fun x hx => hM x (by simp [hx])
        have hdu := nodup_front hd
        have IH := tr_all u.length u rfl hdu
        rw [sh_last u M hu]
        have er : (u ++ [M]).reverse = [] ++ M :: u.reverse := by simp
        rw [er]
        obtain ⟨d, _, _, hdd⟩ := mid_row [] M u.reverse (fun x hx => hu x (by simpa using hx))
        rw [hdd]
        simp only [List.nil_append] at hdd ⊢
        have hz := front_max M u.reverse (fun x hx => hu x (by simpa using hx)) ((List.reverse_perm _).nodup_iff.2 hdu) (fun w _ hn => anti_sh hn) d hdd
        rw [er, List.nil_append] at hdr
        have hA := anti_sh hdr
        rw [hdd] at hA
        have hd0 : d = Sh u 0 := by
          have h1 : ¬ d < Sh u 0 := fun e => by have := (IH 0 d).1 e; omega
          rcases Nat.eq_zero_or_pos d with h2 | h2
          · omega
          · obtain ⟨c, rfl⟩ : ∃ c, d = c + 1 := ⟨d - 1, by omega⟩
            have h3 := anti_gap hA
            have h4 := (IH 0 c).2 (by omega)
            omega
        exact tr_grow IH hd0 hz.symm
      · rw [List.concat_eq_append] at *
        have e1 : u ++ M :: (v ++ [z]) = (u ++ M :: v) ++ [z] := by simp
        have e2 : u ++ (v ++ [z]) = (u ++ v) ++ [z] := by simp
        rw [e2] at hM
        have hdm := nodup_mid hd
        rw [e2] at hdm
        rw [e1] at hd hl ⊢
        have hMuv : ∀ x ∈ u ++ v, x < M := fun x hx => hM x (List.mem_append_left _ hx)
        have hMz : z < M := hM z (by simp)
        have hln : (u ++ v).length + 2 = N := by simp at hl ⊢; omega
        have T0 := tr_all (u ++ v).length (u ++ v) rfl (nodup_front hdm)
        have Tz := tr_all ((u ++ v) ++ [z]).length ((u ++ v) ++ [z]) rfl hdm
        have TM := tr_all (u ++ M :: v).length (u ++ M :: v) rfl (nodup_front hd)
        have r0 : (u ++ v).reverse = v.reverse ++ u.reverse := by simp
        have rz : ((u ++ v) ++ [z]).reverse = z :: (v.reverse ++ u.reverse) := by simp
        have rM : (u ++ M :: v).reverse = v.reverse ++ M :: u.reverse := by simp
        have rzM : ((u ++ M :: v) ++ [z]).reverse = z :: (v.reverse ++ M :: u.reverse) := by simp
        rw [r0] at T0
        rw [rz] at Tz
        rw [rM] at TM
        rw [rzM]
        have hdz : (z :: (v.reverse ++ u.reverse)).Nodup := by rw [← rz]; exact (List.reverse_perm _).nodup_iff.2 hdm
        have hdzM : (z :: (v.reverse ++ M :: u.reverse)).Nodup := by rw [← rzM]; exact (List.reverse_perm _).nodup_iff.2 hd
        obtain ⟨a, ha⟩ : ∃ a, Sh ((u ++ v) ++ [z]) = grow (Sh (u ++ v)) a := ⟨_, sh_snoc _ _⟩
        obtain ⟨d, _, _, hdd⟩ := mid_row u M v hMuv
        obtain ⟨b, hb⟩ := (upto_all _).ee z (v.reverse ++ u.reverse) (Nat.lt_succ_self _) hdz
        have hMr : ∀ x ∈ v.reverse ++ u.reverse, x < M := fun x hx => hMuv x (by simp only [List.mem_append, List.mem_reverse] at hx ⊢; exact hx.symm)
        obtain ⟨d', _, _, hd'⟩ := mid_row v.reverse M u.reverse hMr
        obtain ⟨g1, g2⟩ := (upto_all _).ge z v.reverse M u.reverse b d' (Nat.lt_succ_self _) hdzM (fun x hx => by
          rcases List.mem_cons.1 hx with rfl | hx
          · exact hMz
          · exact hMr x hx) hb hd'
        have hr := row_rule u M v z hMuv hMz ha hdd
        rw [ha, hb] at Tz
        rw [hdd, hd'] at TM
        obtain ⟨q1, q2⟩ := tr_inv T0 Tz
        obtain ⟨q3, q4⟩ := tr_inv T0 TM
        rw [hr]
        by_cases e : a = d
        · subst e
          have hbd : b = d' := q1.trans q3.symm
          subst hbd
          rw [if_pos rfl]
          obtain ⟨s, hs, hsM⟩ := g2 rfl
          rw [hsM]
          refine tr_grow Tz ?_ ?_
          · have k1 : ¬ s < grow (Sh (u ++ v)) a (a + 1) := fun e => by
              have := (Tz (a + 1) s).1 e
              rw [hs.1] at this
              omega
            rcases Nat.eq_zero_or_pos s with h2 | h2
            · omega
            · obtain ⟨c, rfl⟩ : ∃ c, s = c + 1 := ⟨s - 1, by omega⟩
              have h3 := hs.2 c (by omega)
              have h4 := (Tz (a + 1) c).2 (by omega)
              omega
          · rw [hs.1]
            omega
        · rw [if_neg e]
          have hbd : b ≠ d' := fun e2 => e (by rw [q2, q4, e2])
          rw [g1 hbd]
          refine tr_grow Tz ?_ ?_
          · rw [grow_ne _ (fun h => e h.symm)]
            exact q3
          · rw [grow_ne _ (fun h => hbd h.symm)]
            exact q4
  termination_by N w _ _ => w.length
  decreasing_by
    all_goals simp_wf
    all_goals (try simp at *)
    all_goals (try omega)

/-- What stands in row i at place k. -/
def tget (T : List (List Int)) (i k : Nat) : Option Int := (T.getD i [])[k]?
theorem tget_tadd : ∀ (T : List (List Int)) (r : Nat) (M : Int) (i k : Nat), r ≤ T.length → tget (tadd T r M) i k = if i = r ∧ k = tlen T r then some M else tget T i k
  | [], r, M, i, k, h => by
    have : r = 0 := by simpa using h
    subst this
    cases i with
    | zero =>
      cases k with
      | zero => simp [tadd, tget, tlen]
      | succ k => simp [tadd, tget, tlen]
    | succ i => simp [tadd, tget]
  | row :: T, 0, M, i, k, _ => by
    cases i with
    | zero =>
      rw [tadd]
      simp only [tget, tlen, List.getD_cons_zero, true_and]
      by_cases e : k = row.length
      · subst e
        simp
      · rw [if_neg e, List.getElem?_append]
        split
        · rfl
        · rw [List.getElem?_eq_none (by simp; omega), List.getElem?_eq_none (by omega)]
    | succ i => simp [tadd, tget]
  | row :: T, r + 1, M, i, k, h => by
    cases i with
    | zero => simp [tadd, tget]
    | succ i =>
      have := tget_tadd T r M i k (by simpa using h)
      simp only [tget, tlen] at this
      simp only [tadd, tget, tlen, List.getD_cons_succ, this, Nat.add_right_cancel_iff]
      rfl

/-- SCHENSTED. -/
theorem turned_behind : ∀ (N : Nat) (w : List Int), w.length = N → w.Nodup → ∀ i k, tget (PT w) i k = tget (PT w.reverse) k i
  | 0, w, hl, _ => by
    have : w = [] := List.eq_nil_of_length_eq_zero hl
    subst this
    intro i k
    simp [PT_nil, tget]
  | N + 1, w, hl, hd => by
    obtain ⟨u, M, v, rfl, hM⟩ := max_of w (by rintro rfl; simp at hl) hd
    have hdm := nodup_mid hd
    have IH := turned_behind N (u ++ v) (by simp at hl ⊢; omega) hdm
    have T0 := tr_all _ (u ++ v) rfl hdm
    have T1 := tr_all _ _ rfl hd
    have r0 : (u ++ v).reverse = v.reverse ++ u.reverse := by simp
    have rM : (u ++ M :: v).reverse = v.reverse ++ M :: u.reverse := by simp
    have hMr : ∀ x ∈ v.reverse ++ u.reverse, x < M := fun x hx => hM x (by simp only [List.mem_append, List.mem_reverse] at hx ⊢; exact hx.symm)
    obtain ⟨d, hd1, hd2, hd3⟩ := mid_row u M v hM
    obtain ⟨d', hd1', hd2', hd3'⟩ := mid_row v.reverse M u.reverse hMr
    rw [r0] at T0 IH
    rw [rM] at T1 ⊢
    rw [hd3, hd3'] at T1
    obtain ⟨q1, q2⟩ := tr_inv T0 T1
    intro i k
    rw [hd2, hd2', tget_tadd _ _ _ _ _ hd1, tget_tadd _ _ _ _ _ hd1', IH i k]
    have q1' : d' = tlen (PT (u ++ v)) d := q1
    have q2' : d = tlen (PT (v.reverse ++ u.reverse)) d' := q2
    rw [← q1', ← q2']
    by_cases e : i = d ∧ k = d'
    · rw [if_pos e, if_pos ⟨e.2, e.1⟩]
    · rw [if_neg e, if_neg (fun h => e ⟨h.2, h.1⟩)]

/-! ### No row is empty -/
theorem tadd_full : ∀ (T : List (List Int)) (r : Nat) (M : Int), (∀ x ∈ T, x ≠ []) → ∀ x ∈ tadd T r M, x ≠ []
  | [], r, M, _ => by cases r <;> simp [tadd]
  | row :: T, 0, M, h => by
    intro x hx
    rw [tadd] at hx
    rcases List.mem_cons.1 hx with rfl | hx
    · simp
    · exact h x (by simp [hx])
  | row :: T, r + 1, M, h => by
    intro x hx
    rw [tadd] at hx
    rcases List.mem_cons.1 hx with rfl | hx
    · exact h x (by simp)
    · exact tadd_full T r M (fun y hy => h y (by simp [hy])) x hx
theorem tin_full : ∀ (T : List (List Int)) (x : Int), (∀ r ∈ T, r ≠ []) → ∀ r ∈ (tin T x).1, r ≠ []
  | [], x, _ => by simp [tin]
  | row :: T, x, h => by
    intro r hr
    rcases rin_cases x row with h1 | ⟨l1, y, l2, rfl, h1, h2⟩
    · rw [tin_all T h1] at hr
      rcases List.mem_cons.1 hr with rfl | hr
      · simp
      · exact h r (by simp [hr])
    · rw [tin_at l2 T h1 h2] at hr
      rcases List.mem_cons.1 hr with rfl | hr
      · simp
      · exact tin_full T y (fun y hy => h y (by simp [hy])) r hr
theorem PT_full (w : List Int) : ∀ r ∈ PT w, r ≠ [] := by
  induction w using snoc_ind with
  | h0 => simp [PT_nil]
  | h1 w x ih => rw [PT_snoc]; exact tin_full _ _ ih
theorem QT_full (w : List Int) : ∀ r ∈ QT w, r ≠ [] := by
  induction w using snoc_ind with
  | h0 => simp [QT_nil]
  | h1 w x ih => rw [QT_snoc]; exact tadd_full _ _ _ ih
theorem full_iff {T : List (List Int)} (h : ∀ r ∈ T, r ≠ []) (i : Nat) : i < T.length ↔ 0 < tlen T i := by
  constructor
  · intro hi
    have h1 : T.getD i [] ∈ T := by
      rw [List.getD_eq_getElem?_getD, List.getElem?_eq_getElem hi]
      exact List.getElem_mem hi
    exact List.length_pos_iff.2 (h _ h1)
  · intro hi
    rcases Nat.lt_or_ge i T.length with h1 | h1
    · exact h1
    · rw [tlen, List.getD_eq_getElem?_getD, List.getElem?_eq_none h1] at hi
      simp at hi
/-- As many rows from behind as the first row is long. -/
theorem rows_behind {w : List Int} (hd : w.Nodup) : (PT w.reverse).length = tlen (PT w) 0 := by
  have T0 := tr_all _ w rfl hd
  have h1 : ∀ k, k < tlen (PT w) 0 ↔ k < (PT w.reverse).length := fun k => (T0 0 k).trans (full_iff (PT_full _) k).symm
  rcases Nat.lt_trichotomy (PT w.reverse).length (tlen (PT w) 0) with h | h | h
  · have := (h1 _).1 h
    omega
  · exact h
  · have := (h1 _).2 h
    omega

end Go.Proofs.Ytbcjfiobggggjaa
