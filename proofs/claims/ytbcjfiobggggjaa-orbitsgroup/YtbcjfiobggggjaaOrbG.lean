/-
  orbits.Group: the whole group, in order, in memory of the call's own.
-/
import Derived.Test.YtbcjfiobggggjaaOrbS
import Derived.Test.YtbcjfiobggggjaaOrbA
import Derived.Test.YtbcjfiobggggjaaRankB
import Derived.Deep.WholeRow
namespace Go.Proofs.Ytbcjfiobggggjaa
open Go.RowKit

/-! ### What the search keeps -/
structure Bfs (n : Nat) (l T : List (List Int)) (i : Nat) : Prop where
  one : iota n ∈ T
  gen : ∀ p, p ∈ T → Gen n l p
  inj : T.Pairwise (fun a b => rk a ≠ rk b)
  closed : ∀ j, j < i → ∀ g, g ∈ l → times g (T.getD j []) ∈ T

structure BfsIn (n : Nat) (l T : List (List Int)) (i t : Nat) : Prop where
  base : Bfs n l T i
  lt : i < T.length
  some : ∀ s, s < t → times (l.getD s []) (T.getD i []) ∈ T

section
variable {n : Nat} {l T : List (List Int)} {i t : Nat}

theorem Bfs.start (n : Nat) (l : List (List Int)) : Bfs n l [iota n] 0 :=
  ⟨by simp, fun p hp => by rw [List.mem_singleton.1 hp]; exact .one, by simp, fun j hj => absurd hj (Nat.not_lt_zero _)⟩
theorem Bfs.len (h : Bfs n l T i) (hl : Orders n l) : T.length ≤ fact n := by
  have := length_le_of_nodup (l := T.map rk) (n := fact n) (by
    rw [List.nodup_iff_pairwise_ne, List.pairwise_map]
    exact h.inj) (fun x hx => by
    obtain ⟨p, hp, rfl⟩ := List.mem_map.1 hx
    have := rk_lt p
    rwa [((h.gen p hp).ok hl).1] at this)
  simpa using this
theorem Bfs.enter (h : Bfs n l T i) (hi : i < T.length) : BfsIn n l T i 0 := ⟨h, hi, fun _ hs => absurd hs (Nat.not_lt_zero _)⟩
theorem getD_mem_rows {L : List (List Int)} {j : Nat} (hj : j < L.length) : L.getD j [] ∈ L := by
  rw [List.getD_eq_getElem?_getD, List.getElem?_eq_getElem hj]
  exact List.getElem_mem hj
theorem mem_rows_getD {L : List (List Int)} {x : List Int} (h : x ∈ L) : ∃ j, j < L.length ∧ L.getD j [] = x := by
  obtain ⟨j, hj, e⟩ := List.getElem_of_mem h
  exact ⟨j, hj, by rw [List.getD_eq_getElem?_getD, List.getElem?_eq_getElem hj]; exact e⟩
theorem BfsIn.leave (h : BfsIn n l T i l.length) : Bfs n l T (i + 1) :=
  ⟨h.base.one, h.base.gen, h.base.inj, fun j hj g hg => by
    by_cases e : j < i
    · exact h.base.closed j e g hg
    · have : j = i := by omega
      subst this
      obtain ⟨s, hs, rfl⟩ := mem_rows_getD hg
      exact h.some s hs⟩
/-- The next product. -/
theorem BfsIn.prod (h : BfsIn n l T i t) (ht : t < l.length) : Gen n l (times (l.getD t []) (T.getD i [])) := .step (getD_mem_rows ht) (h.base.gen _ (getD_mem_rows h.lt))
theorem BfsIn.old (h : BfsIn n l T i t) (hl : Orders n l) (ht : t < l.length) (hin : rk (times (l.getD t []) (T.getD i [])) ∈ T.map rk) : BfsIn n l T i (t + 1) := by
  refine ⟨h.base, h.lt, fun s hs => ?_⟩
  by_cases e : s < t
  · exact h.some s e
  · have : s = t := by omega
    subst this
    obtain ⟨q, hq, hr⟩ := List.mem_map.1 hin
    have hP := (h.prod ht).ok hl
    have hQ := (h.base.gen q hq).ok hl
    rw [← rk_inj (hQ.2.perm hP.2 (hQ.1.trans hP.1.symm)) hr]
    exact hq
theorem BfsIn.new (h : BfsIn n l T i t) (ht : t < l.length) (hin : rk (times (l.getD t []) (T.getD i [])) ∉ T.map rk) : BfsIn n l (T ++ [times (l.getD t []) (T.getD i [])]) i (t + 1) := by
  have hg : ∀ j, j < T.length → (T ++ [times (l.getD t []) (T.getD i [])]).getD j [] = T.getD j [] := fun j hj => by
    rw [List.getD_eq_getElem?_getD, List.getElem?_append_left hj, ← List.getD_eq_getElem?_getD]
  refine ⟨⟨by simp [h.base.one], fun p hp => ?_, ?_, fun j hj g hgl => ?_⟩, by rw [List.length_append]; have := h.lt; omega, fun s hs => ?_⟩
  · rcases List.mem_append.1 hp with h1 | h1
    · exact h.base.gen p h1
    · rw [List.mem_singleton.1 h1]
      exact h.prod ht
  · rw [List.pairwise_append]
    refine ⟨h.base.inj, by simp, fun a ha b hb e => ?_⟩
    rw [List.mem_singleton.1 hb] at e
    exact hin (List.mem_map.2 ⟨a, ha, e⟩)
  · rw [hg j (by have := h.lt; omega)]
    exact List.mem_append_left _ (h.base.closed j hj g hgl)
  · rw [hg i h.lt]
    by_cases e : s < t
    · exact List.mem_append_left _ (h.some s e)
    · have : s = t := by omega
      subst this
      simp
theorem Bfs.done (h : Bfs n l T T.length) (hl : Orders n l) {T' : List (List Int)} (hp : T'.Perm T) (hr : Rising T') : GroupOf n l T' := by
  have hm : ∀ p, p ∈ T' ↔ p ∈ T := fun p => hp.mem_iff
  refine ⟨?_, fun p => (hm p).trans ⟨h.gen p, fun hg => ?_⟩⟩
  · have hi : T'.Pairwise (fun a b => rk a ≠ rk b) := (hp.pairwise_iff (fun {a b} (hab : rk a ≠ rk b) => Ne.symm hab)).2 h.inj
    refine List.Pairwise.imp_of_mem ?_ (hi.and hr)
    intro a b ha hb hab
    have hA := (h.gen a ((hm a).1 ha)).ok hl
    have hB := (h.gen b ((hm b).1 hb)).ok hl
    have h1 := hab.1
    have h2 := hab.2
    rw [cmp_lt (hB.2.perm hA.2 (hB.1.trans hA.1.symm))] at h2
    omega
  · refine Gen.sub (G := fun p => p ∈ T) h.one (fun g p hgl hpT => ?_) hg
    obtain ⟨j, hj, rfl⟩ := mem_rows_getD hpT
    exact h.closed j hj g hgl
end

/-! ### Blocks of other kinds -/
theorem row_ne_own {w : World} {b t m base e s n : Nat} {f : Nat → Value} {v : Value} {xs : List Value} (hr : w.rowIs b t m f) (ho : w.ownsRow base e s v n xs) (hne : e ≠ t) : v.ownBlock ≠ some b := by
  obtain ⟨c, h1, _⟩ := hr
  rcases ho.2 with ⟨rfl, _⟩ | ⟨g, cap, cur, rfl, _, hh, _⟩
  · simp [Value.ownBlock]
  · simp only [Value.ownBlock, ne_eq, Option.some.injEq]
    intro e9
    rw [e9, h1] at hh
    injection hh with hh
    injection hh with _ hh
    exact hne hh.symm
theorem own_row {w w' : World} {b t m base e s n : Nat} {f : Nat → Value} {v : Value} {xs : List Value} (ho : w.ownsRow base e s v n xs) (hr : w.rowIs b t m f) (hne : e ≠ t) (hg : w.grownBy w' (some b)) : w'.ownsRow base e s v n xs := by
  refine World.ownsRow.kept ho hg ?_
  have := row_ne_own hr ho hne
  rcases hv : v.ownBlock with _ | k
  · exact .inl rfl
  · right
    rw [hv] at this
    exact fun e => this e
theorem BRows.row {w w' : World} {b t m base : Nat} {f : Nat → Value} {v : Value} {T : List (List Int)} (h : BRows w base v T) (hr : w.rowIs b t m f) (h1 : 23 ≠ t) (h2 : 3 ≠ t) (hg : w.grownBy w' (some b)) : BRows w' base v T := by
  obtain ⟨vals, hl, ho, hv⟩ := h
  exact ⟨vals, hl, own_row ho hr h1 hg, fun j hj => own_row (hv j hj) hr h2 hg⟩
theorem rowIs_kept {w w' : World} {b t m base : Nat} {f : Nat → Value} {v : Value} {T : List (List Int)} (hr : w.rowIs b t m f) (h : BRows w base v T) (hne : 23 ≠ t) (hg : w.grownBy w' v.ownBlock) : w'.rowIs b t m f := by
  obtain ⟨vals, hl, ho, hv⟩ := h
  exact World.rowIs.of_block hr (hg.block b (World.rowIs.lt hr) (fun e => row_ne_own hr ho hne e.symm))

/-! ### The walk -/
/-- Found: the numbers of the orders that are there. -/
def fndB (T : List (List Int)) (j : Nat) : Value := .bool (decide (j ∈ T.map rk))
theorem fndB_step {T : List (List Int)} {p : List Int} (j : Nat) : (if j = rk p then Value.bool true else fndB T j) = fndB (T ++ [p]) j := by
  unfold fndB
  by_cases e : j = rk p
  · subst e
    simp
  · rw [if_neg e]
    congr 1
    simp [e]
def zero720 : Array Value := Array.replicate 720 (.bool false)
theorem zero_found : (∀ w, (zeroValue 67).run Try.prog w = .ok (.agg zero720) w) ∧ (Try.prog.info? 67).map (·.size) = some 720 :=
  zero_of_info (by kernel_rfl)
theorem found_start (w : World) (n : Nat) : (w.alloc (.cells (zero720.setIfInBounds 0 (.bool true)) 67)).rowIs w.heap.size 67 720 (fndB [iota n]) := by
  have hs : (zero720.setIfInBounds 0 (.bool true)).size = 720 := by simp [zero720]
  have h := World.rowIs_alloc w (zero720.setIfInBounds 0 (.bool true)) 67 (fndB [iota n]) (fun i hi => by
    have hi' : i < 720 := by rw [hs] at hi; exact hi
    have hr : rk (iota n) = 0 := rk_rises (sorted_iotaP n)
    unfold fndB
    rw [Array.getElem?_setIfInBounds]
    by_cases e : i = 0
    · subst e
      simp [hr, zero720]
    · rw [if_neg (fun h => e h.symm)]
      simp [hr, zero720, e, hi'])
  rw [hs] at h
  exact h

/-- The group comes back. -/
def RetGroup (w : World) (k : Nat) (L : List (List Int)) (e : Ending) (w' : World) : Prop := ∃ v T, e = .returned (.tuple #[v, .int .i64 0]) ∧ GroupOf k L T ∧ BRows w' w.heap.size v T ∧ Below w.heap.size w w'

theorem group_bad (A : Option Addr) (m c : Nat) (L : List (List Int)) (n : Int) (w : World) (h : RRows w A m L) (hm : m ≤ 9223372036854775807) (he : orbE n L ≠ 0) :
    Calls Try.prog 9 #[.int .i64 n, .slice A m c] w fun e w' => e = .returned (.tuple #[.slice none 0 0, .int .i64 (orbE n L)]) ∧ Below w.heap.size w w' := by
  have e1 : (orbE n L != 0) = true := by simp [he]
  have HZ := hid (show orbE n L = orbE n L from rfl)
  have hc := checkO_any A m c L n w h hm
  clear h he
  generalize orbE n L = z at *
  go_enter Try.func9, Try.ntmps9
  go_wp2_with fail
  refine hc.mono ?_
  rintro e w1 ⟨rfl, hb1⟩
  have HB1 := hid hb1
  clear hb1
  go_wp2
  go_ret2
  exact ⟨rfl, HB1.out⟩

theorem rowIs_keep {w w' : World} {b t n : Nat} {f : Nat → Value} (h : w.rowIs b t n f) (hb : Below w.heap.size w w') : w'.rowIs b t n f := World.rowIs.of_block h (hb.block b (World.rowIs.lt h))

set_option maxRecDepth 100000 in
set_option maxHeartbeats 1600000 in
theorem group_ok (A : Option Addr) (m c : Nat) (L : List (List Int)) (k : Nat) (w : World) (h : RRows w A m L) (he : orbE (k : Int) L = 0) :
    Calls Try.prog 9 #[.int .i64 (k : Int), .slice A m c] w (RetGroup w k L) := by
  obtain ⟨k', hk1, hk6, hl6, hgood⟩ := orbE_zero he
  have hkk : k' = k := by omega
  subst hkk
  have hL : Orders k' L := hgood
  have HOr := hid hL
  have HL := hid h.len
  have hm6 : m ≤ 6 := by rw [← h.len]; exact hl6
  have hc := checkO_any A m c L (k' : Int) w h (by omega)
  rw [he] at hc
  have HF := hid (show fact k' ≤ 720 from Nat.le_trans (fact_mono hk6) (by decide))
  have hz := zero_found.1
  have HST := fun W : World => hid (found_start W k')
  have hzs : zero720.size = 720 := rfl
  have hz0 : zero720[0]? = some (.bool false) := rfl
  clear he hk1 hgood hL hl6
  generalize zero720 = Z at *
  go_enter Try.func9, Try.ntmps9
  go_wp2_with fail
  refine hc.mono ?_
  rintro e w1 ⟨rfl, hb1⟩
  have HB1 := hid hb1
  have HH := hid h
  clear hb1 h hc
  go_wp2_with fail
  refine (at_first k' _ (by omega)).mono ?_
  rintro e w2 ⟨v2, rfl, ho2, hb2⟩
  obtain ⟨A2, c2, e2, _, _⟩ := ho2.ints
  rw [length_iota] at e2
  subst e2
  have HB2 := hid (below_step HB1.out (Nat.le_refl _) hb2)
  have HO2 := hid (BRows.one (ho2.mono HB1.out.size) HB2.out.size)
  clear hb2 ho2 HB1
  have hsz : (w2.alloc (.cells #[.slice A2 k' c2] 23)).heap.size = w2.heap.size + 1 := by simp
  have HR2 := HST (w2.alloc (.cells #[.slice A2 k' c2] 23))
  rw [hsz] at HR2
  have hgeb : w.heap.size ≤ w2.heap.size + 1 := Nat.le_succ_of_le HB2.out.size
  go_wp2_with fail
  go_loopg [9, 11] (fact k') (fun g v s wr => ∃ i T, i ≤ T.length ∧ fact k' - i ≤ g ∧ s = .int .i64 (i : Nat) ∧ Bfs k' L T i ∧ BRows wr w.heap.size v T ∧ wr.rowIs (w2.heap.size + 1) 67 720 (fndB T) ∧ Below w.heap.size w wr)
  case atStart =>
    refine ⟨0, [iota k'], Nat.zero_le _, by omega, rfl, Bfs.start _ _, ?_, HR2.out, ?_⟩
    · exact HO2.out.keep (below_alloc _ _)
    · exact (HB2.out.trans ((below_alloc w2 _).mono HB2.out.size)).alloc (by rw [hsz]; exact hgeb) _
  case round =>
    obtain ⟨i, T, hi, hg, rfl, hbfs, hrows, hfnd, hbel⟩ := hrel
    clear HO2 HR2 HST hz hzs hz0
    have HBF := hid hbfs
    have HTL := hid (Nat.le_trans (hbfs.len HOr.out) HF.out)
    have HTF := hid (hbfs.len HOr.out)
    have HRW := hid hrows
    have HFN := hid hfnd
    have HB := hid hbel
    obtain ⟨A3, c3, e3, _⟩ := hrows.form
    subst e3
    have hR := HH.out.keep hbel
    clear hbfs hrows hfnd hbel
    by_cases hlt : i < T.length
    · go_wp2_with fail
      go_loopg [9, 43] m (fun g v s wq => ∃ t T', t ≤ m ∧ m - t ≤ g ∧ s = .int .i64 (t : Nat) ∧ BfsIn k' L T' i t ∧ BRows wq w.heap.size v T' ∧ wq.rowIs (w2.heap.size + 1) 67 720 (fndB T') ∧ Below w.heap.size w wq)
      case atStart => exact ⟨0, T, Nat.zero_le _, by omega, rfl, HBF.out.enter hlt, HRW.out, HFN.out, HB.out⟩
      case round =>
        clear HBF HTL HTF HRW HFN HB hR
        obtain ⟨t, T', ht, hgt, rfl, hin, hrows, hfnd, hbel⟩ := hrel
        have HTL := hid (Nat.le_trans (hin.base.len HOr.out) HF.out)
        have hTL := HTL.out
        have hlt' := hin.lt
        have HIN := hid hin
        have HB := hid hbel
        by_cases htm : t < m
        · obtain ⟨b, off, Aj, nj, cj, eA, hcell, hI, hcap⟩ := (HH.out.keep hbel).at htm
          subst eA
          obtain ⟨g, cap, u, ev, _, _, hcg, _, hou⟩ := hrows.at hin.lt
          subst ev
          obtain ⟨A5, c5, e5, hI5, _⟩ := hou.ints
          have hTi := (hin.base.gen _ (getD_mem_rows hin.lt)).ok HOr.out
          rw [hTi.1] at e5 hI5
          subst e5
          have htL : t < L.length := by rw [HL.out]; exact htm
          have hGt := HOr.out _ (getD_mem_rows htL)
          have hnj : k' = nj := by rw [← hI.len, hGt.1]
          subst hnj
          have HPE := hid (show permErr (L.getD t []) = 0 ∧ permErr (T'.getD i []) = 0 from ⟨permErr_of hGt.2 (by omega), permErr_of hTi.2 (by omega)⟩)
          have HPR := hid ((hin.prod htL).ok HOr.out)
          have HNEW := hid (hin.new (t := t) htL)
          have HOLD := hid (hin.old (t := t) HOr.out htL)
          have HRW := hid hrows
          have HFN := hid hfnd
          have HTE := hid hTi.1
          clear hin hrows hfnd hou hGt hTi htL hbel
          go_wp2_with fail
          refine (times_own Aj k' cj A5 c5 (L.getD t []) (T'.getD i []) _ hI hI5 HPE.out.1 HPE.out.2).mono ?_
          rintro e w5 ⟨v5, rfl, ho5, hb5⟩
          obtain ⟨A6, c6, e6, hI6, hcap6⟩ := ho5.ints
          rw [length_times, HTE.out] at e6 hI6 hcap6
          subst e6
          have HO5 := hid (ho5.mono HB.out.size)
          have HRW5 := hid (HRW.out.keep hb5)
          have HFN5 := hid (rowIs_keep HFN.out hb5)
          have HB5 := hid (below_step HB.out (Nat.le_refl _) hb5)
          clear hI hI5 hcell hcg hb5 ho5 HRW HFN HB
          generalize hpr : times (L.getD t []) (T'.getD i []) = pr at *
          have HPRE := hid hpr
          clear hpr
          have hr720 : rk pr < 720 := by
            have h1 := rk_lt pr
            rw [HPR.out.1] at h1
            exact Nat.lt_of_lt_of_le h1 HF.out
          go_wp2_with fail
          refine (of_ok A6 k' c6 pr _ hI6 (permErr_of HPR.out.2 (by rw [HPR.out.1]; omega)) hcap6.1).mono ?_
          rintro e w6 ⟨rfl, hb6⟩
          have HO6 := hid (HO5.out.keep hb6)
          have HRW6 := hid (HRW5.out.keep hb6)
          have HFN6 := hid (rowIs_keep HFN5.out hb6)
          have HB6 := hid (below_step HB5.out (Nat.le_refl _) hb6)
          clear hb6 hI6 HO5 HRW5 HFN5 HB5
          have g1 : w6.cell? ⟨w2.heap.size + 1, rk pr, none⟩ = some (fndB T' (rk pr)) := HFN6.out.cell hr720
          have f1 : w6.frozen? ⟨w2.heap.size + 1, rk pr, none⟩ = false := HFN6.out.frozen _
          have HS := hid (HFN6.out.set (rk pr) (.bool true))
          have HSC := hid ((HFN6.out.set (rk pr) (.bool true)).congr (fun j _ => fndB_step (T := T') (p := pr) j))
          by_cases hin2 : rk pr ∈ T'.map rk
          · have HI2 := hid (HOLD.out hin2)
            have e1 : fndB T' (rk pr) = .bool true := by unfold fndB; rw [decide_eq_true hin2]
            rw [e1] at g1
            clear hin2 HNEW HOLD e1 HS HSC
            generalize rk pr = r at g1 f1 hr720
            go_wp2
            go_roundg (m - (t + 1))
            case measure => omega
            case rel => exact ⟨t + 1, T', by omega, by omega, by go_num, HI2.out, HRW6.out, HFN6.out, HB6.out⟩
          · have HI2 := hid (HNEW.out hin2)
            have e1 : fndB T' (rk pr) = .bool false := by unfold fndB; rw [decide_eq_false hin2]
            rw [e1] at g1
            have hgr : w6.grownBy (w6.setCell ⟨w2.heap.size + 1, rk pr, none⟩ (.bool true)) (some (w2.heap.size + 1)) := only_set (one_refl w6 _) _ _
            have HR7 := hid (HRW6.out.row HFN6.out (by decide) (by decide) hgr)
            have HO7 := hid (own_row HO6.out HFN6.out (by decide) hgr)
            have HB7 := hid (HB6.out.setCell (p := ⟨w2.heap.size + 1, rk pr, none⟩) hgeb (.bool true))
            clear hin2 HNEW HOLD e1 HS hgr
            generalize rk pr = r at g1 f1 hr720 HR7 HO7 HB7 HSC
            have hsz7 : (w6.setCell ⟨w2.heap.size + 1, r, none⟩ (.bool true)).heap.size = w6.heap.size := by simp [World.setCell]
            go_wp2_with (at_builtin; refine wpList_appBR _ rfl (.tmp 67) (.tmp 69) rfl w.heap.size _ T' _ pr rfl (by rw [hsz7]; rfl) HR7.out HO7.out (Nat.le_trans HTL.out (by omega)) HB7.out.size ?_)
            intro v8 w8 hrows8 hgr8 hbel8
            have HR8 := hid hrows8
            have HF8 := hid (rowIs_kept HSC.out HR7.out (by decide) hgr8)
            have HB8 := hid (HB7.out.trans hbel8)
            clear hrows8 hgr8 hbel8
            go_wp2
            go_roundg (m - (t + 1))
            case measure => omega
            case rel => exact ⟨t + 1, T' ++ [pr], by omega, by omega, by go_num, HI2.out, HR8.out, HF8.out, HB8.out⟩
        · have htm' : t = m := by omega
          subst htm'
          have HI2 : Hid (Bfs k' L T' (i + 1)) := by
            have h1 := HIN.out
            rw [← HL.out] at h1
            exact h1.leave
          have HRW := hid hrows
          have HFN := hid hfnd
          clear hin hrows hfnd hbel
          go_wp2
          go_roundg (fact k' - (i + 1))
          case measure =>
            have := HIN.out.base.len HOr.out
            omega
          case rel => exact ⟨i + 1, T', hlt', by omega, by go_num, HI2.out, HRW.out, HFN.out, HB.out⟩
    · have hit : i = T.length := by omega
      subst hit
      have hTl : ∀ j, j < T.length → (T.getD j []).length = k' := fun j hj => ((HBF.out.gen _ (getD_mem_rows hj)).ok HOr.out).1
      have hT0 : 0 < T.length := List.length_pos_of_mem HBF.out.one
      have hs := sortRows_any w.heap.size k' (.slice A3 T.length c3) T wr HRW.out hT0 (by have := HTL.out; omega) (by omega) hTl
      clear hTl hR
      go_wp2_with (go_at_call 44; refine hs.mono ?_)
      rintro e w7 ⟨T7, rfl, hperm, hris, hrows7, hgr7⟩
      have HG := hid (HBF.out.done HOr.out hperm hris)
      have HR7 := hid hrows7
      have HB7 := hid (HB.out.grown hgr7 HB.out.size (fun k hk => (HRW.out.lt k hk).1))
      clear hs hperm hris hrows7 hgr7
      go_wp2
      go_ret2
      exact ⟨_, T7, rfl, HG.out, HR7.out, HB7.out⟩

end Go.Proofs.Ytbcjfiobggggjaa
