/-
  lines.Split (P43).
-/
import Derived.Test.YtdcmknnmdiocdaaLinS
import Derived.Test.YtdcmknnmdiocdaaLinU
import Derived.Test.YtdcmknnmdiocdaaRow0
namespace Go.Proofs.Ytdcmknnmdiocdaa
open Go.RowKit

/-- On which heap each number lies. -/
def pilesI (xs : List Int) : List Int := (splitP xs).2.map (fun i : Nat => (i : Int))
theorem length_pilesI (xs : List Int) : (pilesI xs).length = xs.length := by rw [pilesI, List.length_map, split_length]
theorem getD_pilesI (xs : List Int) (i : Nat) : (pilesI xs).getD i 0 = (((splitP xs).2.getD i 0 : Nat) : Int) := by
  rw [pilesI, List.getD_eq_getElem?_getD, List.getElem?_map, List.getD_eq_getElem?_getD]
  cases (splitP xs).2[i]? <;> rfl
/-- What Split has after k rounds. -/
def pcells (xs : List Int) (k : Nat) : List Int := pilesI (xs.take k) ++ List.replicate (xs.length - k) 0
theorem pcells_start (xs : List Int) : pcells xs 0 = List.replicate xs.length 0 := by simp [pcells, pilesI, split_nil]
theorem pcells_end (xs : List Int) : pcells xs xs.length = pilesI xs := by simp [pcells]
theorem length_pcells {xs : List Int} {k : Nat} (h : k ≤ xs.length) : (pcells xs k).length = xs.length := by
  rw [pcells, List.length_append, length_pilesI, List.length_take, List.length_replicate]
  omega
theorem pilesI_snoc (l : List Int) (x : Int) : pilesI (l ++ [x]) = pilesI l ++ [((hpl x (splitP l).1 : Nat) : Int)] := by
  rw [pilesI, split_snoc, List.map_append]
  rfl
theorem pcells_step {xs : List Int} {k : Nat} (h : k < xs.length) : (pcells xs k).set k ((hpl (xs.getD k 0) (splitP (xs.take k)).1 : Nat) : Int) = pcells xs (k + 1) := by
  have hl : (pilesI (xs.take k)).length = k := by rw [length_pilesI, List.length_take]; omega
  obtain ⟨r, hr⟩ : ∃ r, xs.length - k = r + 1 := ⟨xs.length - k - 1, by omega⟩
  rw [pcells, pcells, take_snoc h, pilesI_snoc, hr, show xs.length - (k + 1) = r by omega, List.replicate_succ, List.set_append, if_neg (by omega), hl, Nat.sub_self, List.append_assoc]
  rfl
theorem tops_step {xs : List Int} {k : Nat} (h : k < xs.length) : (splitP (xs.take (k + 1))).1 = (rin (xs.getD k 0) (splitP (xs.take k)).1).1 := by
  rw [take_snoc h, split_snoc]
theorem tops_length (l : List Int) : (splitP l).1.length ≤ l.length := (heaps_longest l).le

theorem OwnInts.below_set {w : World} {base g : Nat} {v : Value} {xs : List Int} (h : OwnInts w base v xs) (hg : g < base) (j : Nat) (u : Value) : OwnInts (w.setCell ⟨g, j, none⟩ u) base v xs := by
  refine World.ownsRow.kept h (row := some g) (one_set (one_refl _ _) j u) ?_
  rcases hb : v.ownBlock with _ | k
  · exact .inl rfl
  · right
    have := World.ownsRow.lt h k hb
    intro e
    injection e with e
    omega
theorem OwnInts.frozen' {w : World} {base g n cap : Nat} {xs : List Int} (h : OwnInts w base (.slice (some ⟨g, 0, none⟩) n cap) xs) (hn : n = xs.length) (j : Nat) : w.frozen? ⟨g, j, none⟩ = false := by
  subst hn
  exact World.ownsRow.frozenAt h j

theorem OwnInts.cell' {w : World} {base g n cap : Nat} {xs : List Int} (h : OwnInts w base (.slice (some ⟨g, 0, none⟩) n cap) xs) (hn : n = xs.length) {j : Nat} (hj : j < n) : w.cell? ⟨g, j, none⟩ = some (.int .i64 (xs.getD j 0)) := by
  subst hn
  exact h.cell hj
theorem lsplit_large (A : Option Addr) (n c : Nat) (w : World) (hn : 30 < n) (hm : n ≤ 9223372036854775807) :
    Calls Try.prog 10 #[.slice A n c] w fun e w' => e = .returned (.tuple #[.slice none 0 0, .int .i64 2]) ∧ w = w' := by
  go_enter Try.func10, Try.ntmps10
  go_wp2_with fail
  refine (lcheck_large A n c _ hn hm).mono ?_
  rintro e w1 ⟨rfl, rfl⟩
  go_wp2
  go_ret2
  exact ⟨rfl, rfl⟩

set_option maxHeartbeats 2000000 in
theorem lsplit_ok (A : Option Addr) (n c : Nat) (xs : List Int) (w : World) (h : Ints w A n xs) (hn : n ≤ 30) :
    Calls Try.prog 10 #[.slice A n c] w (RetInts w (pilesI xs) 0) := by
  have hmk : ∀ W : World, (Instr.makeSlice 22 (.int .i64 (n : Int)) (.int .i64 (n : Int))).run Try.prog W = .ok (.slice (some ⟨W.heap.size, 0, none⟩) n n) (W.alloc (.cells (madeCells #[.int .i64 0] n) 3)) :=
    fun W => run_make_row' (P := Try.prog) 22 3 (.int .i64 0) 8 Try.underlying22 infoInt rfl .i64 .i64 n (by omega) (by omega) W
  have HI := hid h
  have HL := hid h.len
  have HA : Hid (Arr (w.alloc (.cells (madeCells #[.int .i64 0] n) 3)) w.heap.size (pcells xs 0)) := by rw [pcells_start, h.len]; exact Arr.made w n
  have HBA := hid (below_alloc w (.cells (madeCells #[.int .i64 0] n) 3))
  have HSZ : Hid (w.heap.size < (w.alloc (.cells (madeCells #[.int .i64 0] n) 3)).heap.size) := by show w.heap.size < _; simp
  clear h
  go_enter Try.func10, Try.ntmps10
  go_wp2_with fail
  refine (lcheck_ok A n c _ hn).mono ?_
  rintro e w1 ⟨rfl, rfl⟩
  go_wp2_with fail
  clear hmk
  go_loopg [6, 20] n (fun g tv iv wr => ∃ k : Nat, k ≤ n ∧ n - k ≤ g ∧ iv = .int .i64 (k : Int) ∧ Arr wr w.heap.size (pcells xs k) ∧ OwnInts wr (w.heap.size + 1) tv (splitP (xs.take k)).1 ∧ Below w.heap.size w wr ∧ w.heap.size + 1 ≤ wr.heap.size)
  case atStart => exact ⟨0, Nat.zero_le _, by omega, rfl, HA.out, OwnInts.nil _ _, HBA.out, HSZ.out⟩
  case round =>
    clear HA HBA HSZ
    rename_i tv
    obtain ⟨k, hk, hg, rfl, harr, hown, hbel, hsz⟩ := hrel
    by_cases hlt : k < n
    · have hkx : k < xs.length := by rw [HL.out]; exact hlt
      obtain ⟨b, o, hA, hb, hc⟩ := (HI.out.keep hbel).row (by omega)
      have g1 := hc k hlt
      subst hA
      have HAR := hid harr
      have HBE := hid hbel
      have HSZ := hid hsz
      have HPS := hid (pcells_step hkx)
      have HTS := hid (tops_step hkx)
      have HTL := hid (tops_length (xs.take k))
      have HLP := hid (length_pcells (xs := xs) (k := k) (by omega))
      have htl : (splitP (xs.take k)).1.length ≤ 30 := Nat.le_trans HTL.out (by rw [List.length_take]; omega)
      obtain ⟨A2, d, hv, hIT, hCT⟩ := hown.ints
      subst hv
      have HO := hid hown
      have HIT := hid hIT
      have gy := harr.cell (j := k) (by rw [HLP.out]; exact hkx)
      have fk := harr.frozen k
      clear hc hown hIT hCT harr hbel hsz HTL
      generalize (splitP (xs.take k)).1 = T at *
      generalize xs.getD k 0 = x at *
      generalize (pcells xs k).getD k 0 = y0 at gy
      obtain ⟨tl, htl'⟩ : ∃ tl, tl = T.length := ⟨_, rfl⟩
      have HT := hid htl'
      rw [← htl'] at HO HIT htl ⊢
      clear htl'
      have HPL := hid (hpl_le x T)
      rw [← HT.out] at HPL
      have hkI : (k : Int) < (n : Int) := by omega
      have HBF := hid (fun j => @hpl_before x T j)
      by_cases hcase : hpl x T < tl
      · have HTH := hid (hpl_there (x := x) (T := T) (by rw [← HT.out]; exact hcase))
        have HRS := hid (rin_set (x := x) (T := T) (by rw [← HT.out]; exact hcase))
        obtain ⟨g', cap, hv, hgb, hglt, hcap⟩ := HO.out.form (by rw [← HT.out]; omega)
        rw [← HT.out] at hv hcap
        injection hv with hv1 hv2 hv3
        subst hv1
        subst hv3
        have HC := hid (fun j (hj : j < T.length) => (by have := HO.out; rw [HT.out] at this; exact this.cell hj : wr.cell? ⟨g', j, none⟩ = some (.int .i64 (T.getD j 0))))
        have hcap' : tl ≤ d := hcap
        generalize hp : hpl x T = p at *
        have HPP := hid hp
        clear hp
        go_wp2_with fail
        obtain ⟨w8, hw8⟩ : ∃ w8, w8 = wr := ⟨_, rfl⟩
        rw [← hw8] at HO HIT HC HAR HBE HSZ gy fk hglt hb g1 ⊢
        clear hw8
        go_loopg [9] p (fun g jv wq => ∃ j : Nat, j ≤ p ∧ p - j ≤ g ∧ jv = .int .i64 (j : Int) ∧ w8 = wq)
        case atStart => exact ⟨0, Nat.zero_le _, by omega, rfl, rfl⟩
        case round =>
          obtain ⟨j, hj, hg2, rfl, rfl⟩ := hrel
          by_cases hjp : j < p
          · have g2 := HC.out j (by rw [← HT.out]; omega)
            have h2 := HBF.out j hjp
            have hd : decide (T.getD j 0 < x) = true := decide_eq_true h2
            have hjt : (j : Int) < (tl : Int) := by omega
            generalize T.getD j 0 = y at *
            go_wp2
            go_roundg (p - (j + 1))
            case measure => omega
            case rel => exact ⟨j + 1, by omega, by omega, by go_num, rfl⟩
          · obtain rfl : j = p := by omega
            have g2 := HC.out j (by rw [← HT.out]; omega)
            have h2 := HTH.out
            have hd : decide (T.getD j 0 < x) = false := decide_eq_false (by omega)
            have hjt : (j : Int) < (tl : Int) := by omega
            have f2 := HO.out.frozen' HT.out j
            have hne : ((j : Int) == (tl : Int)) = false := by simp; omega
            have HAR2 := hid (HAR.out.setOther (a := ⟨g', j, none⟩) (by show w.heap.size ≠ g'; omega) (.int .i64 x))
            have gy2 := HAR2.out.cell (j := k) (by rw [HLP.out, HL.out]; exact hlt)
            have fk2 := HAR2.out.frozen k
            have HO2 := hid ((HO.out.set HT.out j x).below_set (g := w.heap.size) (by omega) k (.int .i64 (j : Int)))
            have HA3 := hid (HAR2.out.set k (j : Int))
            have HB3 : Hid (Below w.heap.size w ((w8.setCell ⟨g', j, none⟩ (.int .i64 x)).setCell ⟨w.heap.size, k, none⟩ (.int .i64 (j : Int)))) :=
              below_one (below_one HBE.out (by omega) HBE.out.size (one_set (one_refl _ _) _ _)) (Nat.le_refl _) (by simpa [World.setCell] using HBE.out.size) (one_set (one_refl _ _) _ _)
            have HS3 := hid (by simpa [World.setCell] using HSZ.out : w.heap.size + 1 ≤ ((w8.setCell ⟨g', j, none⟩ (.int .i64 x)).setCell ⟨w.heap.size, k, none⟩ (.int .i64 (j : Int))).heap.size)
            generalize T.getD j 0 = y at *
            generalize (pcells xs k).getD k 0 = y1 at *
            go_wp2
            go_roundg (n - (k + 1))
            case measure => omega
            case rel =>
              refine ⟨k + 1, by omega, by omega, by go_num, ?_, ?_, HB3.out, HS3.out⟩
              · rw [← HPS.out]; exact HA3.out
              · rw [HTS.out, HRS.out]; exact HO2.out
      · have HRA := hid (rin_app (x := x) (T := T) (by rw [← HT.out]; have := HPL.out; omega))
        have HPT : Hid (hpl x T = tl) := Nat.le_antisymm HPL.out (by omega)
        have HC := hid (fun j (hj : j < tl) => HIT.out.row (by omega))
        have HCI : Hid (∀ j, j < tl → ∃ b2 o2, A2 = some ⟨b2, o2, none⟩ ∧ wr.cell? ⟨b2, o2 + j, none⟩ = some (.int .i64 (T.getD j 0))) := by
          intro j hj
          obtain ⟨b2, o2, e, _, hc2⟩ := HIT.out.row (by omega)
          exact ⟨b2, o2, e, hc2 j hj⟩
        rw [HPT.out] at HPS HBF
        clear hcase HPL HC
        go_wp2_with fail
        obtain ⟨w8, hw8⟩ : ∃ w8, w8 = wr := ⟨_, rfl⟩
        rw [← hw8] at HO HIT HCI HAR HBE HSZ gy fk hb g1 ⊢
        clear hw8
        go_loopg [9] tl (fun g jv wq => ∃ j : Nat, j ≤ tl ∧ tl - j ≤ g ∧ jv = .int .i64 (j : Int) ∧ w8 = wq)
        case atStart => exact ⟨0, Nat.zero_le _, by omega, rfl, rfl⟩
        case round =>
          obtain ⟨j, hj, hg2, rfl, rfl⟩ := hrel
          by_cases hjp : j < tl
          · obtain ⟨b2, o2, rfl, g2⟩ := HCI.out j hjp
            have h2 := HBF.out j hjp
            have hd : decide (T.getD j 0 < x) = true := decide_eq_true h2
            have hjt : (j : Int) < (tl : Int) := by omega
            generalize T.getD j 0 = y at *
            go_wp2
            go_roundg (tl - (j + 1))
            case measure => omega
            case rel => exact ⟨j + 1, by omega, by omega, by go_num, rfl⟩
          · obtain rfl : j = tl := by omega
            have hee : ((j : Int) == (j : Int)) = true := by simp
            have hdd : decide ((j : Int) < (j : Int)) = false := by simp
            go_wp2_with (first
              | (at_builtin; refine wpList_app1 _ rfl (.tmp 43) (.tmp 45) rfl (w.heap.size + 1) _ T x rfl rfl HO.out (by rw [← HT.out]; omega) HSZ.out ?_)
              | go_quiet (fail))
            intro v' w1 hown1 _ hbel1
            obtain ⟨g', cap, hv, hgb, hglt, hcap⟩ := hown1.form (by simp)
            have hlen : (T ++ [x]).length = j + 1 := by rw [List.length_append, ← HT.out]; rfl
            rw [hlen] at hv hcap
            subst hv
            have HO1 := hid hown1
            have g2 := OwnInts.cell' hown1 hlen.symm (j := j) (by omega)
            rw [getD_back T x 0 HT.out] at g2
            have f2 := HO1.out.frozen' hlen.symm j
            have HAR1 := hid (HAR.out.of_block (hbel1.block w.heap.size (by omega)))
            have HBE1 := hid (HBE.out.trans (hbel1.mono (by omega)))
            have HS1 := hid (Nat.le_trans HSZ.out hbel1.size)
            have HAR2 := hid (HAR1.out.setOther (a := ⟨g', j, none⟩) (by show w.heap.size ≠ g'; omega) (.int .i64 x))
            have gy2 := HAR2.out.cell (j := k) (by rw [HLP.out, HL.out]; exact hlt)
            have fk2 := HAR2.out.frozen k
            have HO2 := hid ((HO1.out.set hlen.symm j x).below_set (g := w.heap.size) (by omega) k (.int .i64 (j : Int)))
            have HA3 := hid (HAR2.out.set k (j : Int))
            have HB3 : Hid (Below w.heap.size w ((w1.setCell ⟨g', j, none⟩ (.int .i64 x)).setCell ⟨w.heap.size, k, none⟩ (.int .i64 (j : Int)))) :=
              below_one (below_one HBE1.out (by omega) HBE1.out.size (one_set (one_refl _ _) _ _)) (Nat.le_refl _) (by simpa [World.setCell] using HBE1.out.size) (one_set (one_refl _ _) _ _)
            have HS3 := hid (by simpa [World.setCell] using HS1.out : w.heap.size + 1 ≤ ((w1.setCell ⟨g', j, none⟩ (.int .i64 x)).setCell ⟨w.heap.size, k, none⟩ (.int .i64 (j : Int))).heap.size)
            have HSS : Hid ((T ++ [x]).set j x = T ++ [x]) := by
              have e : T.length = j := HT.out.symm
              exact show (T ++ [x]).set j x = T ++ [x] by rw [List.set_append, if_neg (by omega), e, Nat.sub_self]; rfl
            have hjI : (j : Int) < (j : Int) + 1 := by omega
            clear hown1 hbel1 hlen gy fk g1
            generalize (pcells xs k).getD k 0 = y1 at *
            go_wp2
            go_roundg (n - (k + 1))
            case measure => omega
            case rel =>
              refine ⟨k + 1, by omega, by omega, by go_num, ?_, ?_, HB3.out, HS3.out⟩
              · rw [← HPS.out]; exact HA3.out
              · rw [HTS.out, HRA.out, ← HSS.out]; exact HO2.out
    · obtain rfl : k = n := by omega
      have HAE : Hid (Ints wr (some ⟨w.heap.size, 0, none⟩) k (pilesI xs)) := by
        have e := harr
        rw [← HL.out, pcells_end] at e
        have h2 := e.ints0 xs.length (by rw [length_pilesI]; exact Nat.le_refl _)
        rw [HL.out, List.take_of_length_le (by rw [length_pilesI, HL.out]; exact Nat.le_refl _)] at h2
        exact h2
      have HBE := hid hbel
      clear harr hown hbel hsz
      go_wp2
      go_ret2
      exact ⟨_, _, _, rfl, HBE.out, HAE.out, Nat.le_refl _, by omega⟩

end Go.Proofs.Ytdcmknnmdiocdaa
