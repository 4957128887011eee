/-
  tableau.Of (P38).
-/
import Derived.Test.YtdcmknnmdiocdaaTabI
import Derived.Test.YtdcmknnmdiocdaaCheck
import Derived.Deep.AppendLies
import Derived.Deep.RegionHeld
import Derived.Laws.ResultCell
namespace Go.Proofs.Ytdcmknnmdiocdaa
open Go.RowKit

/-- One number put behind, in a region that draws: where the row lies then. -/
theorem step_app1At {ops : Array Oper} {o : Oper} {a : Act} {K : Act → World → Prop} {Q : Exit → Act → World → Prop} {E : Prop} (W : World) (hgd : o.guard = none) (s x : Operand)
    (ho : o.op = .call { callee := .builtin .append, args := #[s, x], argTypes := #[22, 22] })
    (base : Nat) (v : Value) (xs : List Int) (y : Int) (hs : a.eval s = v) (hx : a.eval x = .slice (some ⟨W.heap.size, 0, none⟩) 1 1) (hown : OwnInts W base v xs)
    (hlen : xs.length ≤ 1000000000000) (hbase : base ≤ W.heap.size)
    (h : ∀ A' n' c' w', OwnInts w' base (.slice A' n' c') (xs ++ [y]) → W.grownBy w' v.ownBlock → ((Value.slice A' n' c').ownBlock = v.ownBlock ∨ ∀ k, (Value.slice A' n' c').ownBlock = some k → W.heap.size ≤ k) → K (a.put o.dst (.slice A' n' c')) w') :
    if Region.wanted o (yielded ops a.tmps) = true then Oper.wp Try.prog o a (W.alloc (.cells #[.int .i64 y] 3)) K Q else E := by
  obtain ⟨i0, hi, hz0, hz1, hz2⟩ := info_parts infoInt
  refine step_append_lies _ hgd s x 22 ho base 3 i0 (.int .i64 0) 1 8 Try.underlying22 hi hz0 hz1 hz2 rfl (by decide) v xs.length (xs.map (Value.int .i64)) hs (World.ownsRow.alloc hown _) ⟨W.heap.size, 0, none⟩ 1 1 [.int .i64 y] hx rfl (cell_one W y) (by intro u hu; simp at hu; subst hu; rfl) (by omega) (by unfold maxLen; omega) (by omega) (by simp; omega) _ rfl ?_
  intro g cap w' h1 h2 hat _
  have hg : W.grownBy w' v.ownBlock := ⟨h2.os, h2.tape, h2.output, Nat.le_trans (by simp) h2.size, fun k hk hne => (h2.block k (by simp; omega) hne).trans (Below.heap_alloc W _ k hk)⟩
  refine h _ _ _ w' ?_ hg ?_
  · unfold OwnInts
    simpa using h1
  · rcases hat with e | e
    · exact .inl e.symm
    · right
      intro k hk
      simp only [Value.ownBlock, Option.some.injEq] at hk
      have hsz : (W.alloc (.cells #[.int .i64 y] 3)).heap.size = W.heap.size + 1 := by simp
      omega

theorem length_le_flat : ∀ (T : List (List Int)) (j : Nat), (T.getD j []).length ≤ T.flatten.length
  | [], j => by simp
  | r :: T, 0 => by simp
  | r :: T, j + 1 => by
    have := length_le_flat T j
    simp only [List.getD_cons_succ, List.flatten_cons, List.length_append]
    omega
theorem PT_row_le (p : List Int) (j : Nat) : ((PT p).getD j []).length ≤ p.length := by
  have h := length_le_flat (PT p) j
  rwa [(PT_flat p).length_eq] at h
theorem QT_flat_len (p : List Int) : (QT p).flatten.length = p.length := by
  induction p using snoc_ind with
  | h0 => rfl
  | h1 w x ih => rw [QT_snoc, (tadd_flat _ _ _).length_eq, List.length_cons, ih, List.length_append]; rfl
theorem QT_row_le (p : List Int) (j : Nat) : ((QT p).getD j []).length ≤ p.length := by
  have h := length_le_flat (QT p) j
  rwa [QT_flat_len p] at h
theorem PT_len_le (p : List Int) : (PT p).length ≤ p.length := by
  induction p using snoc_ind with
  | h0 => exact Nat.le_refl _
  | h1 w x ih =>
    have := tin_le (PT w) x
    rw [PT_snoc, tin_length, List.length_append, List.length_singleton]
    omega
theorem tadd_lt : ∀ (T : List (List Int)) (r : Nat) (M : Int), r < T.length → tadd T r M = T.set r (T.getD r [] ++ [M])
  | [], r, M, h => absurd h (Nat.not_lt_zero _)
  | row :: T, 0, M, _ => rfl
  | row :: T, r + 1, M, h => by
    rw [tadd, tadd_lt T r M (by simpa using h)]
    rfl
theorem tadd_eq : ∀ (T : List (List Int)) (r : Nat) (M : Int), r = T.length → tadd T r M = (T ++ [[]]).set r ([] ++ [M])
  | [], r, M, h => by
    subst h
    rfl
  | row :: T, r, M, h => by
    subst h
    rw [List.length_cons, tadd, tadd_eq T T.length M rfl]
    rfl

/-- Two tableaux come back, and OK. -/
def RetPair (w : World) (P Q : List (List Int)) (e : Ending) (w' : World) : Prop :=
  ∃ A n c A' n' c', e = .returned (.tuple #[.agg #[.slice A n c, .slice A' n' c'], .int .i64 0]) ∧ RRows w' A n P ∧ RRows w' A' n' Q ∧ Cap n c ∧ Cap n' c' ∧ Below w.heap.size w w'

theorem pair_row0 {w : World} {b : Nat} {x y : Value} : (w.alloc (.cells #[x, y] b)).rowIs w.heap.size b 2 (fun j => if j = 0 then x else y) := by
  refine ⟨#[x, y], heap_alloc_new w _, rfl, fun i hi => ?_⟩
  match i, hi with
  | 0, _ => rfl
  | 1, _ => rfl

set_option maxHeartbeats 800000 in
theorem tabOf_bad (A : Option Addr) (n c : Nat) (xs : List Int) (w : World) (h : Ints w A n xs) (hm : n ≤ 9223372036854775807) (he : permErr xs ≠ 0) :
    Calls Try.prog 19 #[.slice A n c] w fun e w' => e = .returned (.tuple #[.agg #[.slice none 0 0, .slice none 0 0], .int .i64 (permErr xs)]) ∧ Below w.heap.size w w' := by
  generalize hq : permErr xs = er at *
  have he' : (er != 0) = true := by simpa using he
  have HQ := hid hq
  have HI := hid h
  clear hq h
  go_enter Try.func19, Try.ntmps19
  go_wp2_with fail
  refine (check_any A n c xs _ (HI.out.keep (below_alloc _ _)) hm).mono ?_
  rintro e w1 ⟨rfl, hb⟩
  have hR := (pair_row0 (w := w) (b := 36) (x := .slice none 0 0) (y := .slice none 0 0)).of_block (hb.block w.heap.size (by simp))
  have g0 := hR.cell (i := 0) (by omega)
  have g1 := hR.cell (i := 1) (by omega)
  have f0 := hR.frozen 0
  have f1 := hR.frozen 1
  simp only [ite_self] at g0 g1
  have hlt : w.heap.size < w1.heap.size := Nat.lt_of_lt_of_le (by simp) hb.size
  have HB := hid (below_step (below_alloc w _) (Nat.le_refl _) hb)
  clear hR hb
  rw [HQ.out]
  go_wp2
  (try simp only [Exit.inBlock, Exit.then])
  refine bodyPost_ret (v := .tuple #[.agg #[.slice none 0 0, .slice none 0 0], .int .i64 er]) ?_ rfl ⟨rfl, (HB.out.setCell (Nat.le_refl _) _).setCell (Nat.le_refl _) _⟩
  rw [results_cell_tmp rfl]
  go_simp

/-- Only the struct's own block has turned. -/
theorem only_cell (fp : Nat → Prop) (w : World) (b j : Nat) (v : Value) (hb : fp b) : Only fp w (w.setCell ⟨b, j, none⟩ v) := (Only.refl fp w).set hb j v

/-- What Of knows at its round's begin. -/
def OfRel (w : World) (bx : Nat) (xs : List Int) (i : Nat) (wr : World) (vP vQ : Value) (fP fQ : Nat → Prop) : Prop :=
  Grid wr (bx + 1) fP vP (PT (xs.take i)) ∧ Grid wr (bx + 1) fQ vQ (QT (xs.take i)) ∧ (∀ k, fP k → ¬ fQ k) ∧ wr.rowIs bx 36 2 (fun j => if j = 0 then vP else vQ) ∧ wr.rowIs w.heap.size 36 2 (fun j => if j = 0 then .slice none 0 0 else .slice none 0 0) ∧ Below w.heap.size w wr ∧ w.heap.size < bx

theorem fun_if0 (x y z : Value) : (fun j : Nat => if j = 0 then z else if j = 0 then x else y) = (fun j => if j = 0 then z else y) := by
  funext j
  split <;> rfl
theorem fun_if1 (x y z : Value) : ∀ j, j < 2 → (if j = 1 then z else if j = 0 then x else y) = (if j = 0 then x else z) := by
  intro j hj
  match j, hj with
  | 0, _ => rfl
  | 1, _ => rfl

set_option maxHeartbeats 1600000 in
theorem tabOf_ok (A : Option Addr) (n c : Nat) (xs : List Int) (w : World) (h : Ints w A n xs) (he : permErr xs = 0) :
    Calls Try.prog 19 #[.slice A n c] w (RetPair w (PT xs) (QT xs)) := by
  have hn : n ≤ 10 := by rw [← h.len]; exact (permErr_ok.1 he).1
  have HI := hid h
  have HL := hid h.len
  have HE := hid he
  clear h he
  go_enter Try.func19, Try.ntmps19
  go_wp2_with fail
  refine (check_any A n c xs _ (HI.out.keep (below_alloc _ _)) (by omega)).mono ?_
  rintro e w1 ⟨rfl, hb⟩
  have HR0 := hid ((pair_row0 (w := w) (b := 36) (x := .slice none 0 0) (y := .slice none 0 0)).of_block (hb.block w.heap.size (by simp)))
  have HB1 := hid (below_step (below_alloc w _) (Nat.le_refl _) hb)
  obtain ⟨bx, hbx⟩ : ∃ bx, bx = w1.heap.size := ⟨_, rfl⟩
  have hwb : w.heap.size < bx := by rw [hbx]; exact Nat.lt_of_lt_of_le (by simp) hb.size
  have HBX := hid hbx
  clear hb
  rw [HE.out]
  go_wp2_with fail
  rw [← hbx]
  clear hbx
  obtain ⟨w8, hw8⟩ : ∃ w8, w8 = w1.alloc (.cells #[.slice none 0 0, .slice none 0 0] 36) := ⟨_, rfl⟩
  have HREL0 : Hid (OfRel w bx xs 0 w8 (.slice none 0 0) (.slice none 0 0) (fun _ => False) (fun _ => False)) := by
    rw [hw8]
    refine ⟨Grid.nil _ _, Grid.nil _ _, fun _ h => h.elim, ?_, ?_, below_step HB1.out (Nat.le_refl _) (below_alloc _ _), hwb⟩
    · rw [HBX.out]
      exact pair_row0
    · exact HR0.out.alloc _
  rw [← hw8]
  clear hw8 HR0 HB1 HBX
  go_loopg [17] n (fun g t wr => ∃ (i : Nat) (vP vQ : Value) (fP fQ : Nat → Prop), i ≤ n ∧ n - i ≤ g ∧ t = .int .i64 (i : Int) ∧ OfRel w bx xs i wr vP vQ fP fQ)
  case atStart => exact ⟨0, _, _, _, _, Nat.zero_le _, by omega, rfl, HREL0.out⟩
  case round =>
    obtain ⟨i, vP, vQ, fP, fQ, hi, hg, rfl, hof⟩ := hrel
    have HOF := hid hof
    clear hof HREL0
    by_cases hlt : i < n
    · have HKL : Hid (i < xs.length) := by rw [HL.out]; exact hlt
      have HTS := hid (take_snoc HKL.out)
      have HPS := hid (PT_snoc (xs.take i) (xs.getD i 0))
      have HQS := hid (QT_snoc (xs.take i) (xs.getD i 0))
      have HTL : Hid ((xs.take i).length = i) := by rw [List.length_take, HL.out]; exact (by omega : min i n = i)
      rw [← HTS.out] at HPS HQS
      rw [HTL.out] at HQS
      obtain ⟨b, o, rfl, hbb, hc⟩ := HI.out.row (by omega)
      have gx : wr.cell? ⟨b, o + i, none⟩ = some (.int .i64 (xs.getD i 0)) := (HOF.out.2.2.2.2.2.1.cell (p := ⟨b, o + i, none⟩) hbb).trans (hc i hlt)
      clear hc
      generalize xs.getD i 0 = x at *
      obtain ⟨hGP, hGQ, hdis, hrx, hr0, hbel, _⟩ := HOF.out
      obtain ⟨AP, cP, rfl, hcapP⟩ := hGP.form
      obtain ⟨AQ, cQ, rfl, hcapQ⟩ := hGQ.form
      have HPL := hid (PT_len_le (xs.take i))
      have HPR := hid (PT_row_le (xs.take i))
      have HQR := hid (QT_row_le (xs.take i))
      have HPQ := hid (PQ_length (xs.take i))
      rw [HTL.out] at HPL HPR HQR
      have HTI := hid (tin_le (PT (xs.take i)) x)
      have HGP := hid hGP
      have HGQ := hid hGQ
      have HDIS := hid hdis
      have HRX := hid hrx
      have HR0 := hid hr0
      have HB := hid hbel
      clear hGP hGQ hdis hrx hr0 hbel hcapP hcapQ HOF
      have gp := HRX.out.cell (i := 0) (by omega)
      simp only [if_pos] at gp
      have hbxl : bx < wr.heap.size := HRX.out.lt
      generalize PT (xs.take i) = TP at *
      generalize QT (xs.take i) = TQ at *
      obtain ⟨nP, hnP⟩ : ∃ nP, nP = TP.length := ⟨_, rfl⟩
      obtain ⟨nQ, hnQ⟩ : ∃ nQ, nQ = TQ.length := ⟨_, rfl⟩
      rw [← hnP] at HGP HRX gp HPL HTI HPQ
      rw [← hnQ] at HGQ HRX HPQ
      have HNP := hid hnP
      have HNQ := hid hnQ
      clear hnP hnQ
      go_wp2_with fail
      refine (insert_any (bx + 1) fP _ TP x _ HGP.out (by rw [← HNP.out]; have := HPL.out; omega) (fun j => by have := HPR.out j; omega) (by omega)).mono ?_
      rintro e w2 ⟨vP2, rfl, hGP2, hon2⟩
      obtain ⟨AP2, cP2, rfl, hcapP2⟩ := hGP2.form
      obtain ⟨nP2, hnP2⟩ : ∃ nP2, nP2 = (tin TP x).1.length := ⟨_, rfl⟩
      rw [← hnP2] at hGP2 hcapP2
      rw [← hnP2]
      clear hnP2
      have HBD := hid HGP.out.bound
      have HBQ := hid HGQ.out.bound
      have hrx2 := HRX.out.of_block (hon2.block bx hbxl (fun e => by have := HBD.out bx e; omega))
      have hr02 := HR0.out.of_block (hon2.block w.heap.size (by omega) (fun e => by have := HBD.out _ e; omega))
      have hGQ2 := HGQ.out.only hon2 (fun k h1 h2 => HDIS.out k h2 h1)
      have hB2 : Below w.heap.size w w2 := HB.out.trans (hon2.below (by omega) (fun k hk => by have := HBD.out k hk; omega))
      have hsz2 := hon2.size
      have hdis2 : ∀ k, fpN fP wr.heap.size w2.heap.size k → ¬ fQ k := by
        intro k hk hq
        rcases hk with hk | hk
        · exact HDIS.out k hk hq
        · have := HBQ.out k hq
          omega
      -- the store into x.P
      have hst := hrx2.set 0 (.slice AP2 nP2 cP2)
      rw [fun_if0] at hst
      have hO3 : Only (fun k => k = bx) w2 (w2.setCell ⟨bx, 0, none⟩ (.slice AP2 nP2 cP2)) := only_cell _ _ _ _ _ rfl
      have hGP3 := hGP2.only hO3 (fun k h1 h2 => by have := hGP2.bound k h1; omega)
      have hGQ3 := hGQ2.only hO3 (fun k h1 h2 => by have := hGQ2.bound k h1; omega)
      have hr03 := hr02.setOther (a := ⟨bx, 0, none⟩) (by show w.heap.size ≠ bx; omega) (.slice AP2 nP2 cP2)
      have hB3 : Below w.heap.size w (w2.setCell ⟨bx, 0, none⟩ (.slice AP2 nP2 cP2)) := hB2.setCell (by show w.heap.size ≤ bx; omega) _
      have gp2 := hrx2.cell (i := 0) (by omega)
      have fp2 := hrx2.frozen 0
      have gq3 := hst.cell (i := 1) (by omega)
      simp only [if_pos] at gp2
      have gq3' : (w2.setCell ⟨bx, 0, none⟩ (.slice AP2 nP2 cP2)).cell? ⟨bx, 1, none⟩ = some (.slice AQ nQ cQ) := gq3
      have hbx2 : bx < w2.heap.size := by omega
      have HGP3 := hid hGP3
      have HGQ3 := hid hGQ3
      have HRX3 := hid hst
      have HR03 := hid hr03
      have HB3 := hid hB3
      have HDIS2 := hid hdis2
      have HCP2 := hid hcapP2
      have HAL := HTI
      have hsz3 : (w2.setCell ⟨bx, 0, none⟩ (.slice AP2 nP2 cP2)).heap.size = w2.heap.size := by simp [World.setCell]
      clear hGP2 hon2 hrx2 hr02 hGQ2 hB2 hsz2 hdis2 hst hO3 hGP3 hGQ3 hr03 hB3 gq3 hcapP2 HDIS HGP HGQ HRX HR0 HB gp gx
      obtain ⟨a, ha⟩ : ∃ a, a = (tin TP x).2 := ⟨_, rfl⟩
      rw [← ha] at HQS HTI
      rw [← ha]
      have hale : a ≤ nQ := by have h1 := HTI.out; have h2 := HPQ.out; rw [h2] at h1; exact h1
      have hP10 : nP ≤ 10 := by have := HPL.out; omega
      have hQ10 : nQ ≤ 10 := by have h2 := HPQ.out; omega
      clear ha
      by_cases haq : a = nQ
      · have hbe : ((a : Int) == (nQ : Int)) = true := by simp [haq]
        have HAQ := hid haq
        clear haq
        go_wp2_with (at_builtin; refine wpList_gridApp _ rfl (.tmp 36) (.tmp 37) rfl (bx + 1) fQ _ TQ (.slice none 0 0) [] rfl (by rw [hsz3]; rfl) HGQ3.out (OwnInts.nil _ _) (fun k hk => by cases hk) (by rw [← HNQ.out]; omega) (by rw [hsz3]; omega) ?_)
        intro v4 w4 hG4 hO4
        obtain ⟨A4, c4, rfl, _⟩ := hG4.form
        have hBQ3 := HGQ3.out.bound
        have hs4 := hO4.size
        rw [hsz3] at hs4
        have hrx4 := HRX3.out.of_block (hO4.block bx (by rw [hsz3]; omega) (fun e => by have := hBQ3 bx e; omega))
        have hr04 := HR03.out.of_block (hO4.block w.heap.size (by rw [hsz3]; omega) (fun e => by have := hBQ3 _ e; omega))
        have hGP4 := HGP3.out.only hO4 HDIS2.out
        have hB4 : Below w.heap.size w w4 := HB3.out.trans (hO4.below (by rw [hsz3]; omega) (fun k hk => by have := hBQ3 k hk; omega))
        obtain ⟨nQ2, hnQ2⟩ : ∃ nQ2, nQ2 = (TQ ++ [[]]).length := ⟨_, rfl⟩
        rw [← hnQ2] at hG4
        rw [← hnQ2]
        have hst := hrx4.set 1 (.slice A4 nQ2 c4)
        replace hst := hst.congr (fun_if1 _ _ _)
        have hO5 : Only (fun k => k = bx) w4 (w4.setCell ⟨bx, 1, none⟩ (.slice A4 nQ2 c4)) := only_cell _ _ _ _ _ rfl
        have hGPz := hGP4.only hO5 (fun k h1 h2 => by have := hGP4.bound k h1; omega)
        have hGQz := hG4.only hO5 (fun k h1 h2 => by have := hG4.bound k h1; omega)
        have hr0z := hr04.setOther (a := ⟨bx, 1, none⟩) (by show w.heap.size ≠ bx; omega) (.slice A4 nQ2 c4)
        have hBz : Below w.heap.size w (w4.setCell ⟨bx, 1, none⟩ (.slice A4 nQ2 c4)) := hB4.setCell (by show w.heap.size ≤ bx; omega) _
        have g41 : w4.cell? ⟨bx, 1, none⟩ = some (.slice AQ nQ cQ) := by have := hrx4.cell (i := 1) (by omega); exact this
        have f41 := hrx4.frozen 1
        have hDISz : ∀ k, fpN fP wr.heap.size w2.heap.size k → ¬ (fpN fQ w2.heap.size w4.heap.size k ∨ (Value.slice none 0 0).ownBlock = some k) := by
          intro k h1 h2
          rcases h2 with (h2 | h2) | h2
          · exact HDIS2.out k h1 h2
          · have h3 := (HGP3.out.bound k h1).2
            omega
          · cases h2
        have HGPz := hid hGPz
        have HGQz := hid hGQz
        have HRXz := hid hst
        have HR0z := hid hr0z
        have HBz := hid hBz
        have HDISz := hid hDISz
        have HNQ2 := hid hnQ2
        have hal2 : a < nQ2 := by rw [hnQ2, List.length_append, ← HNQ.out, HAQ.out]; simp
        have HTQ2 : Hid ((TQ ++ [[]]).set a ((TQ ++ [[]]).getD a [] ++ [(i : Int)]) = tadd TQ a (i : Int)) := by
          have e : (TQ ++ [[]]).getD a [] = [] := by
            rw [List.getD_eq_getElem?_getD, List.getElem?_append_right (by rw [← HNQ.out, HAQ.out]; exact Nat.le_refl _), ← HNQ.out, HAQ.out]
            simp
          rw [e, tadd_eq TQ a (i : Int) (by rw [← HNQ.out]; exact HAQ.out)]
          exact rfl
        have HQ2R : Hid (∀ j, ((TQ ++ [[]]).getD j []).length ≤ 1000) := by
          intro j
          rcases Nat.lt_or_ge j TQ.length with hj | hj
          · rw [List.getD_eq_getElem?_getD, List.getElem?_append_left hj, ← List.getD_eq_getElem?_getD]
            have := HQR.out j
            omega
          · rw [List.getD_eq_getElem?_getD, List.getElem?_append_right hj]
            rcases Nat.eq_zero_or_pos (j - TQ.length) with h0 | h0
            · rw [h0]
              simp
            · rw [List.getElem?_eq_none (by simp; omega)]
              simp
        clear hG4 hO4 hBQ3 hs4 hrx4 hr04 hGP4 hB4 hst hO5 hGPz hGQz hr0z hBz hDISz hnQ2
        generalize TQ ++ [[]] = TQ2 at *
        go_wp2_with fail
        clear g41 f41 gq3' gp2 fp2
        generalize w4.setCell ⟨bx, 1, none⟩ (.slice A4 nQ2 c4) = wz at *
        clear hsz3
        obtain ⟨cQ2, hc2⟩ : ∃ cQ2, cQ2 = c4 := ⟨_, rfl⟩
        subst hc2
        have halt : a < TQ2.length := by rw [← HNQ2.out]; exact hal2
        obtain ⟨gq, cq, u, e1, hcell, hfrz, hu⟩ := HGQz.out.at halt
        injection e1 with e1 e2 e3
        subst e1
        subst e3
        clear e2
        obtain ⟨row, hrow⟩ : ∃ row, row = TQ2.getD a [] := ⟨_, rfl⟩
        rw [← hrow] at hu HTQ2
        obtain ⟨Au, cu, rfl, hIu, hcu⟩ := hu.ints
        have hrl : row.length ≤ 1000 := by rw [hrow]; exact HQ2R.out a
        obtain ⟨m, hm⟩ : ∃ m, m = row.length := ⟨_, rfl⟩
        rw [← hm] at hcell hu
        have gx1 : wz.cell? ⟨bx, 1, none⟩ = some (.slice (some ⟨gq, 0, none⟩) nQ2 cQ2) := by have := HRXz.out.cell (i := 1) (by omega); exact this
        have fx1 := HRXz.out.frozen 1
        have hbz : bx < wz.heap.size := HRXz.out.lt
        have hgq := HGQz.out.outer_lt
        have hgb : bx ≠ gq := by have := HGQz.out.outer_ge; omega
        have hgb2 : gq ≠ bx := fun e => hgb e.symm
        have HRP := hid (fun w' u1 (ys : List Int) (hb1 : wz.drew.grownBy w' (Value.slice Au m cu).ownBlock) (ho1 : OwnInts w' (bx + 1) u1 ys) hb2 => (HGQz.out.drewN 1).replace halt hcell hb1 ho1 hb2 (show bx + 1 ≤ wz.heap.size by omega))
        have HOK := hid (fun w' (hb1 : wz.drew.grownBy w' (Value.slice Au m cu).ownBlock) => (HGQz.out.drewN 1).outer_kept halt hcell hb1)
        have HU : Hid (OwnInts wz.drew (bx + 1) (.slice Au m cu) row) := hu
        have HBU : Hid (∀ k, (Value.slice Au m cu).ownBlock = some k → bx + 1 ≤ k) := fun k hk => (World.ownsRow.lt hu k hk).1
        have HM := hid hm
        have HFZ := hid hfrz
        have HCE := hid hcell
        have HGX := hid gx1
        clear hu hIu hcu hm hrow
        go_wp2_with fail
        refine wp_region_held_drew (S := fun w' => w'.cell? ⟨bx, 1, none⟩ = some (.slice (some ⟨gq, 0, none⟩) nQ2 cQ2)) (by kernel_rfl) HGX.out (fun hHeld => ?_)
        refine wpAnyH_take (i := 0) (oi := { dst := some 40, op := Op.fieldAddr 36 (Operand.tmp 5) 1, type := 0, pos := "tableau.go:43", after := #[], guard := none }) (v := ?v1) rfl (by kernel_rfl) (by kernel_rfl) (by kernel_rfl) (fun _ _ _ h => h) (Or.inl ⟨by rfl, ?hy1⟩) (by assumption) ?rest1
        case hy1 => (intro w9 hSw; (try dsimp only at hSw); go_simp; try with_reducible rfl)
        try simp only [Act.put, List.setIfInBounds_toArray, List.set_cons_zero, List.set_cons_succ]
        refine wpAnyH_take (i := 2) (oi := { dst := some 42, op := Op.move (Operand.tmp 8), type := 3, pos := "tableau.go:43", after := #[], guard := none }) (v := ?v2) rfl (by kernel_rfl) (by kernel_rfl) (by kernel_rfl) (fun _ _ _ h => h) (Or.inl ⟨by rfl, ?hy2⟩) (by assumption) ?rest2
        case hy2 => (intro w9 hSw; (try dsimp only at hSw); go_simp; try with_reducible rfl)
        try simp only [Act.put, List.setIfInBounds_toArray, List.set_cons_zero, List.set_cons_succ]
        refine wpAnyH_take (i := 3) (oi := { dst := some 43, op := Op.fieldAddr 36 (Operand.tmp 5) 1, type := 0, pos := "tableau.go:43", after := #[], guard := none }) (v := ?v3) rfl (by kernel_rfl) (by kernel_rfl) (by kernel_rfl) (fun _ _ _ h => h) (Or.inl ⟨by rfl, ?hy3⟩) (by assumption) ?rest3
        case hy3 => (intro w9 hSw; (try dsimp only at hSw); go_simp; try with_reducible rfl)
        try simp only [Act.put, List.setIfInBounds_toArray, List.set_cons_zero, List.set_cons_succ]
        refine wpAnyH_take (i := 5) (oi := { dst := some 45, op := Op.move (Operand.tmp 8), type := 3, pos := "tableau.go:43", after := #[], guard := none }) (v := ?v4) rfl (by kernel_rfl) (by kernel_rfl) (by kernel_rfl) (fun _ _ _ h => h) (Or.inl ⟨by rfl, ?hy4⟩) (by assumption) ?rest4
        case hy4 => (intro w9 hSw; (try dsimp only at hSw); go_simp; try with_reducible rfl)
        try simp only [Act.put, List.setIfInBounds_toArray, List.set_cons_zero, List.set_cons_succ]
        refine wpAnyH_take (i := 8) (oi := { dst := some 48, op := Op.move (Operand.tmp 6), type := 3, pos := "tableau.go:43", after := #[], guard := none }) (v := ?v5) rfl (by kernel_rfl) (by kernel_rfl) (by kernel_rfl) (fun _ _ _ h => h) (Or.inl ⟨by rfl, ?hy5⟩) (by assumption) ?rest5
        case hy5 => (intro w9 hSw; (try dsimp only at hSw); go_simp; try with_reducible rfl)
        try simp only [Act.put, List.setIfInBounds_toArray, List.set_cons_zero, List.set_cons_succ]
        refine wpAnyH_take (i := 1) (oi := { dst := some 41, op := Op.load 34 (Operand.tmp 40), type := 34, pos := "tableau.go:43", after := #[{ on := 0, ground := Ground.data }], guard := none }) (v := ?v6) rfl (by kernel_rfl) (by kernel_rfl) (by kernel_rfl) (fun _ _ _ h => h) (Or.inl ⟨by rfl, ?hy6⟩) (by assumption) ?rest6
        case hy6 => (intro w9 hSw; (try dsimp only at hSw); go_simp; try with_reducible rfl)
        try simp only [Act.put, List.setIfInBounds_toArray, List.set_cons_zero, List.set_cons_succ]
        refine wpAnyH_take (i := 4) (oi := { dst := some 44, op := Op.load 34 (Operand.tmp 43), type := 34, pos := "tableau.go:43", after := #[{ on := 3, ground := Ground.data }], guard := none }) (v := ?v7) rfl (by kernel_rfl) (by kernel_rfl) (by kernel_rfl) (fun _ _ _ h => h) (Or.inl ⟨by rfl, ?hy7⟩) (by assumption) ?rest7
        case hy7 => (intro w9 hSw; (try dsimp only at hSw); go_simp; try with_reducible rfl)
        try simp only [Act.put, List.setIfInBounds_toArray, List.set_cons_zero, List.set_cons_succ]
        refine wpAnyH_take (i := 6) (oi := { dst := some 46, op := Op.indexAddr 34 (Operand.tmp 44) (Operand.tmp 45), type := 0, pos := "tableau.go:43", after := #[{ on := 4, ground := Ground.data }, { on := 5, ground := Ground.data }], guard := none }) (v := ?v8) rfl (by kernel_rfl) (by kernel_rfl) (by kernel_rfl) (fun _ _ _ h => h) (Or.inl ⟨by rfl, ?hy8⟩) (by assumption) ?rest8
        case hy8 => (intro w9 hSw; (try dsimp only at hSw); go_simp; try with_reducible rfl)
        try simp only [Act.put, List.setIfInBounds_toArray, List.set_cons_zero, List.set_cons_succ]
        refine wpAnyH_ready (rs := [7, 9]) (by kernel_rfl) (by simp) ?_
        refine AllReadyH.cons (o := { dst := some 47, op := Op.load 22 (Operand.tmp 46), type := 22, pos := "tableau.go:43", after := #[{ on := 6, ground := Ground.data }], guard := none }) rfl (fun K hK => ?_) (AllReadyH.cons (o := { dst := some 49, op := Op.buildSlice 22 1 #[(0, Operand.tmp 48)], type := 22, pos := "tableau.go:43", after := #[{ on := 8, ground := Ground.data }], guard := none }) rfl (fun K hK => ?_) AllReadyH.nil)
        · go_simp
          refine hK.out _ _ ?hS9 (fun hHeld => ?rest9)
          case hS9 => (try dsimp only); (first | exact HGX.out | exact q3 | go_keep)
          clear hK K
          try simp only [Act.put, List.setIfInBounds_toArray, List.set_cons_zero, List.set_cons_succ]
          refine wpAnyH_ready (rs := [9]) (by kernel_rfl) (by simp) ?_
          refine AllReadyH.cons (o := { dst := some 49, op := Op.buildSlice 22 1 #[(0, Operand.tmp 48)], type := 22, pos := "tableau.go:43", after := #[{ on := 8, ground := Ground.data }], guard := none }) rfl (fun K hK => ?_) AllReadyH.nil
          go_simp
          refine hK.out _ _ ?hS10 (fun hHeld => ?rest10)
          case hS10 => (try dsimp only); (first | exact HGX.out | exact q3 | go_keep)
          clear hK K
          try simp only [Act.put, List.setIfInBounds_toArray, List.set_cons_zero, List.set_cons_succ]
          refine wpAnyH_ready (rs := [10]) (by kernel_rfl) (by simp) ?_
          refine AllReadyH.cons (o := { dst := some 50, op := Op.call { callee := Callee.builtin Builtin.append, args := #[Operand.tmp 47, Operand.tmp 49], argTypes := #[22, 22] }, type := 22, pos := "tableau.go:43", after := #[{ on := 7, ground := Ground.data }, { on := 9, ground := Ground.data }], guard := none }) rfl (fun K hK => ?_) AllReadyH.nil
          refine step_app1At wz.drew rfl (.tmp 47) (.tmp 49) rfl (bx + 1) _ row (i : Int) rfl rfl HU.out (by omega) (show bx + 1 ≤ wz.heap.size by omega) ?_; intro A6 n6 c6 w6 ho6 hb6 hl6; have q1 : w6.cell? ⟨gq, a, none⟩ = some (.slice Au m cu) := (World.cell?_of_block (a := ⟨gq, a, none⟩) (HOK.out w6 hb6)).trans HCE.out; have q2 : w6.frozen? ⟨gq, a, none⟩ = false := (World.frozen?_of_block (a := ⟨gq, a, none⟩) (HOK.out w6 hb6)).trans HFZ.out; have q3 : w6.cell? ⟨bx, 1, none⟩ = some (.slice (some ⟨gq, 0, none⟩) nQ2 cQ2) := (World.cell?_of_block (a := ⟨bx, 1, none⟩) (hb6.block bx hbz (fun e => by have := HBU.out bx e.symm; omega))).trans HGX.out; have HR6 := hid (HRP.out w6 (.slice A6 n6 c6) (row ++ [(i : Int)]) hb6 ho6 hl6); have hsz6 := hb6.size; clear ho6 hb6 hl6
          refine hK.out _ _ ?hS11 (fun hHeld => ?rest11)
          case hS11 => (try dsimp only); (first | exact HGX.out | exact q3 | go_keep)
          clear hK K
          try simp only [Act.put, List.setIfInBounds_toArray, List.set_cons_zero, List.set_cons_succ]
          refine wpAnyH_take (i := 11) (oi := { dst := some 51, op := Op.indexAddr 34 (Operand.tmp 41) (Operand.tmp 42), type := 0, pos := "tableau.go:43", after := #[{ on := 1, ground := Ground.data }, { on := 2, ground := Ground.data }, { on := 0, ground := Ground.phase }, { on := 1, ground := Ground.phase }, { on := 2, ground := Ground.phase }, { on := 3, ground := Ground.phase }, { on := 4, ground := Ground.phase }, { on := 5, ground := Ground.phase }, { on := 6, ground := Ground.phase }, { on := 7, ground := Ground.phase }, { on := 8, ground := Ground.phase }, { on := 9, ground := Ground.phase }, { on := 10, ground := Ground.phase }], guard := none }) (v := ?v12) rfl (by kernel_rfl) (by kernel_rfl) (by kernel_rfl) (fun _ _ _ h => h) (Or.inl ⟨by rfl, ?hy12⟩) (by assumption) ?rest12
          case hy12 => (intro w9 hSw; (try dsimp only at hSw); go_simp; try with_reducible rfl)
          try simp only [Act.put, List.setIfInBounds_toArray, List.set_cons_zero, List.set_cons_succ]
          refine wpAnyH_ready (rs := [12]) (by kernel_rfl) (by simp) ?_
          refine AllReadyH.cons (o := { dst := none, op := Op.store 22 (Operand.tmp 51) (Operand.tmp 50), type := 0, pos := "tableau.go:43", after := #[{ on := 11, ground := Ground.data }, { on := 10, ground := Ground.data }, { on := 10, ground := Ground.chain }, { on := 0, ground := Ground.phase }, { on := 1, ground := Ground.phase }, { on := 2, ground := Ground.phase }, { on := 3, ground := Ground.phase }, { on := 4, ground := Ground.phase }, { on := 5, ground := Ground.phase }, { on := 6, ground := Ground.phase }, { on := 7, ground := Ground.phase }, { on := 8, ground := Ground.phase }, { on := 9, ground := Ground.phase }, { on := 10, ground := Ground.phase }], guard := none }) rfl (fun K hK => ?_) AllReadyH.nil
          go_simp
          refine hK.out _ _ ?hS13 (fun hHeld => ?rest13)
          case hS13 => (try dsimp only); (first | exact HGX.out | exact q3 | go_keep)
          clear hK K
          try simp only [Act.put, List.setIfInBounds_toArray, List.set_cons_zero, List.set_cons_succ]
          refine wpAnyH_done (by kernel_rfl) ?_ _
          go_wp2
          go_roundg (n - (i + 1))
          case measure => omega
          case rel =>
            obtain ⟨hG7, hO7⟩ := HR6.out
            have hwz : (wz.drewN 1).heap.size = wz.heap.size := rfl
            have hBQ := HGQz.out.bound
            have k1 := (HGPz.out.drewN 1).only hO7 HDISz.out
            rw [← HPS.out] at k1
            have k2 := hG7
            rw [HTQ2.out, ← HQS.out] at k2
            have k4 := HRXz.out.of_block (hO7.block bx hbz (fun e => by have := hBQ bx e; omega))
            have k5 := HR0z.out.of_block (hO7.block w.heap.size (by rw [hwz]; omega) (fun e => by have := hBQ _ e; omega))
            have k6 := (below_drewN HBz.out 1).trans (hO7.below (B := w.heap.size) (show w.heap.size ≤ wz.heap.size by omega) (fun k hk => by have := hBQ k hk; omega))
            have k3 := HDISz.out
            exact ⟨i + 1, _, _, _, _, by omega, by omega, by go_num, k1, k2, (fun k h1 h2 => by
              rcases h2 with h2 | h2
              · exact k3 k h1 h2
              · have h3 := (HGPz.out.bound k h1).2
                rw [hwz] at h2
                omega), k4, k5, k6, hwb⟩
        · go_simp
          refine hK.out _ _ ?hS14 (fun hHeld => ?rest14)
          case hS14 => (try dsimp only); (first | exact HGX.out | exact q3 | go_keep)
          clear hK K
          try simp only [Act.put, List.setIfInBounds_toArray, List.set_cons_zero, List.set_cons_succ]
          refine wpAnyH_ready (rs := [7]) (by kernel_rfl) (by simp) ?_
          refine AllReadyH.cons (o := { dst := some 47, op := Op.load 22 (Operand.tmp 46), type := 22, pos := "tableau.go:43", after := #[{ on := 6, ground := Ground.data }], guard := none }) rfl (fun K hK => ?_) AllReadyH.nil
          go_simp
          refine hK.out _ _ ?hS15 (fun hHeld => ?rest15)
          case hS15 => (try dsimp only); (first | exact HGX.out | exact q3 | go_keep)
          clear hK K
          try simp only [Act.put, List.setIfInBounds_toArray, List.set_cons_zero, List.set_cons_succ]
          refine wpAnyH_ready (rs := [10]) (by kernel_rfl) (by simp) ?_
          refine AllReadyH.cons (o := { dst := some 50, op := Op.call { callee := Callee.builtin Builtin.append, args := #[Operand.tmp 47, Operand.tmp 49], argTypes := #[22, 22] }, type := 22, pos := "tableau.go:43", after := #[{ on := 7, ground := Ground.data }, { on := 9, ground := Ground.data }], guard := none }) rfl (fun K hK => ?_) AllReadyH.nil
          refine step_app1At wz.drew rfl (.tmp 47) (.tmp 49) rfl (bx + 1) _ row (i : Int) rfl rfl HU.out (by omega) (show bx + 1 ≤ wz.heap.size by omega) ?_; intro A6 n6 c6 w6 ho6 hb6 hl6; have q1 : w6.cell? ⟨gq, a, none⟩ = some (.slice Au m cu) := (World.cell?_of_block (a := ⟨gq, a, none⟩) (HOK.out w6 hb6)).trans HCE.out; have q2 : w6.frozen? ⟨gq, a, none⟩ = false := (World.frozen?_of_block (a := ⟨gq, a, none⟩) (HOK.out w6 hb6)).trans HFZ.out; have q3 : w6.cell? ⟨bx, 1, none⟩ = some (.slice (some ⟨gq, 0, none⟩) nQ2 cQ2) := (World.cell?_of_block (a := ⟨bx, 1, none⟩) (hb6.block bx hbz (fun e => by have := HBU.out bx e.symm; omega))).trans HGX.out; have HR6 := hid (HRP.out w6 (.slice A6 n6 c6) (row ++ [(i : Int)]) hb6 ho6 hl6); have hsz6 := hb6.size; clear ho6 hb6 hl6
          refine hK.out _ _ ?hS16 (fun hHeld => ?rest16)
          case hS16 => (try dsimp only); (first | exact HGX.out | exact q3 | go_keep)
          clear hK K
          try simp only [Act.put, List.setIfInBounds_toArray, List.set_cons_zero, List.set_cons_succ]
          refine wpAnyH_take (i := 11) (oi := { dst := some 51, op := Op.indexAddr 34 (Operand.tmp 41) (Operand.tmp 42), type := 0, pos := "tableau.go:43", after := #[{ on := 1, ground := Ground.data }, { on := 2, ground := Ground.data }, { on := 0, ground := Ground.phase }, { on := 1, ground := Ground.phase }, { on := 2, ground := Ground.phase }, { on := 3, ground := Ground.phase }, { on := 4, ground := Ground.phase }, { on := 5, ground := Ground.phase }, { on := 6, ground := Ground.phase }, { on := 7, ground := Ground.phase }, { on := 8, ground := Ground.phase }, { on := 9, ground := Ground.phase }, { on := 10, ground := Ground.phase }], guard := none }) (v := ?v17) rfl (by kernel_rfl) (by kernel_rfl) (by kernel_rfl) (fun _ _ _ h => h) (Or.inl ⟨by rfl, ?hy17⟩) (by assumption) ?rest17
          case hy17 => (intro w9 hSw; (try dsimp only at hSw); go_simp; try with_reducible rfl)
          try simp only [Act.put, List.setIfInBounds_toArray, List.set_cons_zero, List.set_cons_succ]
          refine wpAnyH_ready (rs := [12]) (by kernel_rfl) (by simp) ?_
          refine AllReadyH.cons (o := { dst := none, op := Op.store 22 (Operand.tmp 51) (Operand.tmp 50), type := 0, pos := "tableau.go:43", after := #[{ on := 11, ground := Ground.data }, { on := 10, ground := Ground.data }, { on := 10, ground := Ground.chain }, { on := 0, ground := Ground.phase }, { on := 1, ground := Ground.phase }, { on := 2, ground := Ground.phase }, { on := 3, ground := Ground.phase }, { on := 4, ground := Ground.phase }, { on := 5, ground := Ground.phase }, { on := 6, ground := Ground.phase }, { on := 7, ground := Ground.phase }, { on := 8, ground := Ground.phase }, { on := 9, ground := Ground.phase }, { on := 10, ground := Ground.phase }], guard := none }) rfl (fun K hK => ?_) AllReadyH.nil
          go_simp
          refine hK.out _ _ ?hS18 (fun hHeld => ?rest18)
          case hS18 => (try dsimp only); (first | exact HGX.out | exact q3 | go_keep)
          clear hK K
          try simp only [Act.put, List.setIfInBounds_toArray, List.set_cons_zero, List.set_cons_succ]
          refine wpAnyH_done (by kernel_rfl) ?_ _
          go_wp2
          go_roundg (n - (i + 1))
          case measure => omega
          case rel =>
            obtain ⟨hG7, hO7⟩ := HR6.out
            have hwz : (wz.drewN 1).heap.size = wz.heap.size := rfl
            have hBQ := HGQz.out.bound
            have k1 := (HGPz.out.drewN 1).only hO7 HDISz.out
            rw [← HPS.out] at k1
            have k2 := hG7
            rw [HTQ2.out, ← HQS.out] at k2
            have k4 := HRXz.out.of_block (hO7.block bx hbz (fun e => by have := hBQ bx e; omega))
            have k5 := HR0z.out.of_block (hO7.block w.heap.size (by rw [hwz]; omega) (fun e => by have := hBQ _ e; omega))
            have k6 := (below_drewN HBz.out 1).trans (hO7.below (B := w.heap.size) (show w.heap.size ≤ wz.heap.size by omega) (fun k hk => by have := hBQ k hk; omega))
            have k3 := HDISz.out
            exact ⟨i + 1, _, _, _, _, by omega, by omega, by go_num, k1, k2, (fun k h1 h2 => by
              rcases h2 with h2 | h2
              · exact k3 k h1 h2
              · have h3 := (HGPz.out.bound k h1).2
                rw [hwz] at h2
                omega), k4, k5, k6, hwb⟩
      · have hbe : ((a : Int) == (nQ : Int)) = false := by simp; omega
        have HGPz := HGP3
        have HGQz := HGQ3
        have HRXz := HRX3
        have HR0z := HR03
        have HBz := HB3
        have HDISz := HDIS2
        have HNQ2 := HNQ
        have hal2 : a < nQ := by omega
        have HTQ2 : Hid (TQ.set a (TQ.getD a [] ++ [(i : Int)]) = tadd TQ a (i : Int)) := (tadd_lt TQ a (i : Int) (by rw [← HNQ.out]; exact hal2)).symm
        have HQ2R : Hid (∀ j, (TQ.getD j []).length ≤ 1000) := fun j => by have := HQR.out j; omega
        obtain ⟨TQ2, hTQ2⟩ : ∃ TQ2, TQ2 = TQ := ⟨_, rfl⟩
        rw [← hTQ2] at HGQz HNQ2 HQ2R
        have HTQ2 : Hid (TQ2.set a (TQ2.getD a [] ++ [(i : Int)]) = tadd TQ a (i : Int)) := by rw [hTQ2]; exact HTQ2.out
        clear hTQ2 HGP3 HGQ3 HRX3 HR03 HB3
        go_wp2_with fail
        clear gq3' gp2 fp2
        generalize w2.setCell ⟨bx, 0, none⟩ (.slice AP2 nP2 cP2) = wz at *
        clear hsz3
        obtain ⟨nQ2, hn2⟩ : ∃ nQ2, nQ2 = nQ := ⟨_, rfl⟩
        subst hn2
        obtain ⟨cQ2, hc2⟩ : ∃ cQ2, cQ2 = cQ := ⟨_, rfl⟩
        subst hc2
        have halt : a < TQ2.length := by rw [← HNQ2.out]; exact hal2
        obtain ⟨gq, cq, u, e1, hcell, hfrz, hu⟩ := HGQz.out.at halt
        injection e1 with e1 e2 e3
        subst e1
        subst e3
        clear e2
        obtain ⟨row, hrow⟩ : ∃ row, row = TQ2.getD a [] := ⟨_, rfl⟩
        rw [← hrow] at hu HTQ2
        obtain ⟨Au, cu, rfl, hIu, hcu⟩ := hu.ints
        have hrl : row.length ≤ 1000 := by rw [hrow]; exact HQ2R.out a
        obtain ⟨m, hm⟩ : ∃ m, m = row.length := ⟨_, rfl⟩
        rw [← hm] at hcell hu
        have gx1 : wz.cell? ⟨bx, 1, none⟩ = some (.slice (some ⟨gq, 0, none⟩) nQ2 cQ2) := by have := HRXz.out.cell (i := 1) (by omega); exact this
        have fx1 := HRXz.out.frozen 1
        have hbz : bx < wz.heap.size := HRXz.out.lt
        have hgq := HGQz.out.outer_lt
        have hgb : bx ≠ gq := by have := HGQz.out.outer_ge; omega
        have hgb2 : gq ≠ bx := fun e => hgb e.symm
        have HRP := hid (fun w' u1 (ys : List Int) (hb1 : wz.drew.grownBy w' (Value.slice Au m cu).ownBlock) (ho1 : OwnInts w' (bx + 1) u1 ys) hb2 => (HGQz.out.drewN 1).replace halt hcell hb1 ho1 hb2 (show bx + 1 ≤ wz.heap.size by omega))
        have HOK := hid (fun w' (hb1 : wz.drew.grownBy w' (Value.slice Au m cu).ownBlock) => (HGQz.out.drewN 1).outer_kept halt hcell hb1)
        have HU : Hid (OwnInts wz.drew (bx + 1) (.slice Au m cu) row) := hu
        have HBU : Hid (∀ k, (Value.slice Au m cu).ownBlock = some k → bx + 1 ≤ k) := fun k hk => (World.ownsRow.lt hu k hk).1
        have HM := hid hm
        have HFZ := hid hfrz
        have HCE := hid hcell
        have HGX := hid gx1
        clear hu hIu hcu hm hrow
        go_wp2_with fail
        refine wp_region_held_drew (S := fun w' => w'.cell? ⟨bx, 1, none⟩ = some (.slice (some ⟨gq, 0, none⟩) nQ2 cQ2)) (by kernel_rfl) HGX.out (fun hHeld => ?_)
        refine wpAnyH_take (i := 0) (oi := { dst := some 40, op := Op.fieldAddr 36 (Operand.tmp 5) 1, type := 0, pos := "tableau.go:43", after := #[], guard := none }) (v := ?v19) rfl (by kernel_rfl) (by kernel_rfl) (by kernel_rfl) (fun _ _ _ h => h) (Or.inl ⟨by rfl, ?hy19⟩) (by assumption) ?rest19
        case hy19 => (intro w9 hSw; (try dsimp only at hSw); go_simp; try with_reducible rfl)
        try simp only [Act.put, List.setIfInBounds_toArray, List.set_cons_zero, List.set_cons_succ]
        refine wpAnyH_take (i := 2) (oi := { dst := some 42, op := Op.move (Operand.tmp 8), type := 3, pos := "tableau.go:43", after := #[], guard := none }) (v := ?v20) rfl (by kernel_rfl) (by kernel_rfl) (by kernel_rfl) (fun _ _ _ h => h) (Or.inl ⟨by rfl, ?hy20⟩) (by assumption) ?rest20
        case hy20 => (intro w9 hSw; (try dsimp only at hSw); go_simp; try with_reducible rfl)
        try simp only [Act.put, List.setIfInBounds_toArray, List.set_cons_zero, List.set_cons_succ]
        refine wpAnyH_take (i := 3) (oi := { dst := some 43, op := Op.fieldAddr 36 (Operand.tmp 5) 1, type := 0, pos := "tableau.go:43", after := #[], guard := none }) (v := ?v21) rfl (by kernel_rfl) (by kernel_rfl) (by kernel_rfl) (fun _ _ _ h => h) (Or.inl ⟨by rfl, ?hy21⟩) (by assumption) ?rest21
        case hy21 => (intro w9 hSw; (try dsimp only at hSw); go_simp; try with_reducible rfl)
        try simp only [Act.put, List.setIfInBounds_toArray, List.set_cons_zero, List.set_cons_succ]
        refine wpAnyH_take (i := 5) (oi := { dst := some 45, op := Op.move (Operand.tmp 8), type := 3, pos := "tableau.go:43", after := #[], guard := none }) (v := ?v22) rfl (by kernel_rfl) (by kernel_rfl) (by kernel_rfl) (fun _ _ _ h => h) (Or.inl ⟨by rfl, ?hy22⟩) (by assumption) ?rest22
        case hy22 => (intro w9 hSw; (try dsimp only at hSw); go_simp; try with_reducible rfl)
        try simp only [Act.put, List.setIfInBounds_toArray, List.set_cons_zero, List.set_cons_succ]
        refine wpAnyH_take (i := 8) (oi := { dst := some 48, op := Op.move (Operand.tmp 6), type := 3, pos := "tableau.go:43", after := #[], guard := none }) (v := ?v23) rfl (by kernel_rfl) (by kernel_rfl) (by kernel_rfl) (fun _ _ _ h => h) (Or.inl ⟨by rfl, ?hy23⟩) (by assumption) ?rest23
        case hy23 => (intro w9 hSw; (try dsimp only at hSw); go_simp; try with_reducible rfl)
        try simp only [Act.put, List.setIfInBounds_toArray, List.set_cons_zero, List.set_cons_succ]
        refine wpAnyH_take (i := 1) (oi := { dst := some 41, op := Op.load 34 (Operand.tmp 40), type := 34, pos := "tableau.go:43", after := #[{ on := 0, ground := Ground.data }], guard := none }) (v := ?v24) rfl (by kernel_rfl) (by kernel_rfl) (by kernel_rfl) (fun _ _ _ h => h) (Or.inl ⟨by rfl, ?hy24⟩) (by assumption) ?rest24
        case hy24 => (intro w9 hSw; (try dsimp only at hSw); go_simp; try with_reducible rfl)
        try simp only [Act.put, List.setIfInBounds_toArray, List.set_cons_zero, List.set_cons_succ]
        refine wpAnyH_take (i := 4) (oi := { dst := some 44, op := Op.load 34 (Operand.tmp 43), type := 34, pos := "tableau.go:43", after := #[{ on := 3, ground := Ground.data }], guard := none }) (v := ?v25) rfl (by kernel_rfl) (by kernel_rfl) (by kernel_rfl) (fun _ _ _ h => h) (Or.inl ⟨by rfl, ?hy25⟩) (by assumption) ?rest25
        case hy25 => (intro w9 hSw; (try dsimp only at hSw); go_simp; try with_reducible rfl)
        try simp only [Act.put, List.setIfInBounds_toArray, List.set_cons_zero, List.set_cons_succ]
        refine wpAnyH_take (i := 6) (oi := { dst := some 46, op := Op.indexAddr 34 (Operand.tmp 44) (Operand.tmp 45), type := 0, pos := "tableau.go:43", after := #[{ on := 4, ground := Ground.data }, { on := 5, ground := Ground.data }], guard := none }) (v := ?v26) rfl (by kernel_rfl) (by kernel_rfl) (by kernel_rfl) (fun _ _ _ h => h) (Or.inl ⟨by rfl, ?hy26⟩) (by assumption) ?rest26
        case hy26 => (intro w9 hSw; (try dsimp only at hSw); go_simp; try with_reducible rfl)
        try simp only [Act.put, List.setIfInBounds_toArray, List.set_cons_zero, List.set_cons_succ]
        refine wpAnyH_ready (rs := [7, 9]) (by kernel_rfl) (by simp) ?_
        refine AllReadyH.cons (o := { dst := some 47, op := Op.load 22 (Operand.tmp 46), type := 22, pos := "tableau.go:43", after := #[{ on := 6, ground := Ground.data }], guard := none }) rfl (fun K hK => ?_) (AllReadyH.cons (o := { dst := some 49, op := Op.buildSlice 22 1 #[(0, Operand.tmp 48)], type := 22, pos := "tableau.go:43", after := #[{ on := 8, ground := Ground.data }], guard := none }) rfl (fun K hK => ?_) AllReadyH.nil)
        · go_simp
          refine hK.out _ _ ?hS27 (fun hHeld => ?rest27)
          case hS27 => (try dsimp only); (first | exact HGX.out | exact q3 | go_keep)
          clear hK K
          try simp only [Act.put, List.setIfInBounds_toArray, List.set_cons_zero, List.set_cons_succ]
          refine wpAnyH_ready (rs := [9]) (by kernel_rfl) (by simp) ?_
          refine AllReadyH.cons (o := { dst := some 49, op := Op.buildSlice 22 1 #[(0, Operand.tmp 48)], type := 22, pos := "tableau.go:43", after := #[{ on := 8, ground := Ground.data }], guard := none }) rfl (fun K hK => ?_) AllReadyH.nil
          go_simp
          refine hK.out _ _ ?hS28 (fun hHeld => ?rest28)
          case hS28 => (try dsimp only); (first | exact HGX.out | exact q3 | go_keep)
          clear hK K
          try simp only [Act.put, List.setIfInBounds_toArray, List.set_cons_zero, List.set_cons_succ]
          refine wpAnyH_ready (rs := [10]) (by kernel_rfl) (by simp) ?_
          refine AllReadyH.cons (o := { dst := some 50, op := Op.call { callee := Callee.builtin Builtin.append, args := #[Operand.tmp 47, Operand.tmp 49], argTypes := #[22, 22] }, type := 22, pos := "tableau.go:43", after := #[{ on := 7, ground := Ground.data }, { on := 9, ground := Ground.data }], guard := none }) rfl (fun K hK => ?_) AllReadyH.nil
          refine step_app1At wz.drew rfl (.tmp 47) (.tmp 49) rfl (bx + 1) _ row (i : Int) rfl rfl HU.out (by omega) (show bx + 1 ≤ wz.heap.size by omega) ?_; intro A6 n6 c6 w6 ho6 hb6 hl6; have q1 : w6.cell? ⟨gq, a, none⟩ = some (.slice Au m cu) := (World.cell?_of_block (a := ⟨gq, a, none⟩) (HOK.out w6 hb6)).trans HCE.out; have q2 : w6.frozen? ⟨gq, a, none⟩ = false := (World.frozen?_of_block (a := ⟨gq, a, none⟩) (HOK.out w6 hb6)).trans HFZ.out; have q3 : w6.cell? ⟨bx, 1, none⟩ = some (.slice (some ⟨gq, 0, none⟩) nQ2 cQ2) := (World.cell?_of_block (a := ⟨bx, 1, none⟩) (hb6.block bx hbz (fun e => by have := HBU.out bx e.symm; omega))).trans HGX.out; have HR6 := hid (HRP.out w6 (.slice A6 n6 c6) (row ++ [(i : Int)]) hb6 ho6 hl6); have hsz6 := hb6.size; clear ho6 hb6 hl6
          refine hK.out _ _ ?hS29 (fun hHeld => ?rest29)
          case hS29 => (try dsimp only); (first | exact HGX.out | exact q3 | go_keep)
          clear hK K
          try simp only [Act.put, List.setIfInBounds_toArray, List.set_cons_zero, List.set_cons_succ]
          refine wpAnyH_take (i := 11) (oi := { dst := some 51, op := Op.indexAddr 34 (Operand.tmp 41) (Operand.tmp 42), type := 0, pos := "tableau.go:43", after := #[{ on := 1, ground := Ground.data }, { on := 2, ground := Ground.data }, { on := 0, ground := Ground.phase }, { on := 1, ground := Ground.phase }, { on := 2, ground := Ground.phase }, { on := 3, ground := Ground.phase }, { on := 4, ground := Ground.phase }, { on := 5, ground := Ground.phase }, { on := 6, ground := Ground.phase }, { on := 7, ground := Ground.phase }, { on := 8, ground := Ground.phase }, { on := 9, ground := Ground.phase }, { on := 10, ground := Ground.phase }], guard := none }) (v := ?v30) rfl (by kernel_rfl) (by kernel_rfl) (by kernel_rfl) (fun _ _ _ h => h) (Or.inl ⟨by rfl, ?hy30⟩) (by assumption) ?rest30
          case hy30 => (intro w9 hSw; (try dsimp only at hSw); go_simp; try with_reducible rfl)
          try simp only [Act.put, List.setIfInBounds_toArray, List.set_cons_zero, List.set_cons_succ]
          refine wpAnyH_ready (rs := [12]) (by kernel_rfl) (by simp) ?_
          refine AllReadyH.cons (o := { dst := none, op := Op.store 22 (Operand.tmp 51) (Operand.tmp 50), type := 0, pos := "tableau.go:43", after := #[{ on := 11, ground := Ground.data }, { on := 10, ground := Ground.data }, { on := 10, ground := Ground.chain }, { on := 0, ground := Ground.phase }, { on := 1, ground := Ground.phase }, { on := 2, ground := Ground.phase }, { on := 3, ground := Ground.phase }, { on := 4, ground := Ground.phase }, { on := 5, ground := Ground.phase }, { on := 6, ground := Ground.phase }, { on := 7, ground := Ground.phase }, { on := 8, ground := Ground.phase }, { on := 9, ground := Ground.phase }, { on := 10, ground := Ground.phase }], guard := none }) rfl (fun K hK => ?_) AllReadyH.nil
          go_simp
          refine hK.out _ _ ?hS31 (fun hHeld => ?rest31)
          case hS31 => (try dsimp only); (first | exact HGX.out | exact q3 | go_keep)
          clear hK K
          try simp only [Act.put, List.setIfInBounds_toArray, List.set_cons_zero, List.set_cons_succ]
          refine wpAnyH_done (by kernel_rfl) ?_ _
          go_wp2
          go_roundg (n - (i + 1))
          case measure => omega
          case rel =>
            obtain ⟨hG7, hO7⟩ := HR6.out
            have hwz : (wz.drewN 1).heap.size = wz.heap.size := rfl
            have hBQ := HGQz.out.bound
            have k1 := (HGPz.out.drewN 1).only hO7 HDISz.out
            rw [← HPS.out] at k1
            have k2 := hG7
            rw [HTQ2.out, ← HQS.out] at k2
            have k4 := HRXz.out.of_block (hO7.block bx hbz (fun e => by have := hBQ bx e; omega))
            have k5 := HR0z.out.of_block (hO7.block w.heap.size (by rw [hwz]; omega) (fun e => by have := hBQ _ e; omega))
            have k6 := (below_drewN HBz.out 1).trans (hO7.below (B := w.heap.size) (show w.heap.size ≤ wz.heap.size by omega) (fun k hk => by have := hBQ k hk; omega))
            have k3 := HDISz.out
            exact ⟨i + 1, _, _, _, _, by omega, by omega, by go_num, k1, k2, (fun k h1 h2 => by
              rcases h2 with h2 | h2
              · exact k3 k h1 h2
              · have h3 := (HGPz.out.bound k h1).2
                rw [hwz] at h2
                omega), k4, k5, k6, hwb⟩
        · go_simp
          refine hK.out _ _ ?hS32 (fun hHeld => ?rest32)
          case hS32 => (try dsimp only); (first | exact HGX.out | exact q3 | go_keep)
          clear hK K
          try simp only [Act.put, List.setIfInBounds_toArray, List.set_cons_zero, List.set_cons_succ]
          refine wpAnyH_ready (rs := [7]) (by kernel_rfl) (by simp) ?_
          refine AllReadyH.cons (o := { dst := some 47, op := Op.load 22 (Operand.tmp 46), type := 22, pos := "tableau.go:43", after := #[{ on := 6, ground := Ground.data }], guard := none }) rfl (fun K hK => ?_) AllReadyH.nil
          go_simp
          refine hK.out _ _ ?hS33 (fun hHeld => ?rest33)
          case hS33 => (try dsimp only); (first | exact HGX.out | exact q3 | go_keep)
          clear hK K
          try simp only [Act.put, List.setIfInBounds_toArray, List.set_cons_zero, List.set_cons_succ]
          refine wpAnyH_ready (rs := [10]) (by kernel_rfl) (by simp) ?_
          refine AllReadyH.cons (o := { dst := some 50, op := Op.call { callee := Callee.builtin Builtin.append, args := #[Operand.tmp 47, Operand.tmp 49], argTypes := #[22, 22] }, type := 22, pos := "tableau.go:43", after := #[{ on := 7, ground := Ground.data }, { on := 9, ground := Ground.data }], guard := none }) rfl (fun K hK => ?_) AllReadyH.nil
          refine step_app1At wz.drew rfl (.tmp 47) (.tmp 49) rfl (bx + 1) _ row (i : Int) rfl rfl HU.out (by omega) (show bx + 1 ≤ wz.heap.size by omega) ?_; intro A6 n6 c6 w6 ho6 hb6 hl6; have q1 : w6.cell? ⟨gq, a, none⟩ = some (.slice Au m cu) := (World.cell?_of_block (a := ⟨gq, a, none⟩) (HOK.out w6 hb6)).trans HCE.out; have q2 : w6.frozen? ⟨gq, a, none⟩ = false := (World.frozen?_of_block (a := ⟨gq, a, none⟩) (HOK.out w6 hb6)).trans HFZ.out; have q3 : w6.cell? ⟨bx, 1, none⟩ = some (.slice (some ⟨gq, 0, none⟩) nQ2 cQ2) := (World.cell?_of_block (a := ⟨bx, 1, none⟩) (hb6.block bx hbz (fun e => by have := HBU.out bx e.symm; omega))).trans HGX.out; have HR6 := hid (HRP.out w6 (.slice A6 n6 c6) (row ++ [(i : Int)]) hb6 ho6 hl6); have hsz6 := hb6.size; clear ho6 hb6 hl6
          refine hK.out _ _ ?hS34 (fun hHeld => ?rest34)
          case hS34 => (try dsimp only); (first | exact HGX.out | exact q3 | go_keep)
          clear hK K
          try simp only [Act.put, List.setIfInBounds_toArray, List.set_cons_zero, List.set_cons_succ]
          refine wpAnyH_take (i := 11) (oi := { dst := some 51, op := Op.indexAddr 34 (Operand.tmp 41) (Operand.tmp 42), type := 0, pos := "tableau.go:43", after := #[{ on := 1, ground := Ground.data }, { on := 2, ground := Ground.data }, { on := 0, ground := Ground.phase }, { on := 1, ground := Ground.phase }, { on := 2, ground := Ground.phase }, { on := 3, ground := Ground.phase }, { on := 4, ground := Ground.phase }, { on := 5, ground := Ground.phase }, { on := 6, ground := Ground.phase }, { on := 7, ground := Ground.phase }, { on := 8, ground := Ground.phase }, { on := 9, ground := Ground.phase }, { on := 10, ground := Ground.phase }], guard := none }) (v := ?v35) rfl (by kernel_rfl) (by kernel_rfl) (by kernel_rfl) (fun _ _ _ h => h) (Or.inl ⟨by rfl, ?hy35⟩) (by assumption) ?rest35
          case hy35 => (intro w9 hSw; (try dsimp only at hSw); go_simp; try with_reducible rfl)
          try simp only [Act.put, List.setIfInBounds_toArray, List.set_cons_zero, List.set_cons_succ]
          refine wpAnyH_ready (rs := [12]) (by kernel_rfl) (by simp) ?_
          refine AllReadyH.cons (o := { dst := none, op := Op.store 22 (Operand.tmp 51) (Operand.tmp 50), type := 0, pos := "tableau.go:43", after := #[{ on := 11, ground := Ground.data }, { on := 10, ground := Ground.data }, { on := 10, ground := Ground.chain }, { on := 0, ground := Ground.phase }, { on := 1, ground := Ground.phase }, { on := 2, ground := Ground.phase }, { on := 3, ground := Ground.phase }, { on := 4, ground := Ground.phase }, { on := 5, ground := Ground.phase }, { on := 6, ground := Ground.phase }, { on := 7, ground := Ground.phase }, { on := 8, ground := Ground.phase }, { on := 9, ground := Ground.phase }, { on := 10, ground := Ground.phase }], guard := none }) rfl (fun K hK => ?_) AllReadyH.nil
          go_simp
          refine hK.out _ _ ?hS36 (fun hHeld => ?rest36)
          case hS36 => (try dsimp only); (first | exact HGX.out | exact q3 | go_keep)
          clear hK K
          try simp only [Act.put, List.setIfInBounds_toArray, List.set_cons_zero, List.set_cons_succ]
          refine wpAnyH_done (by kernel_rfl) ?_ _
          go_wp2
          go_roundg (n - (i + 1))
          case measure => omega
          case rel =>
            obtain ⟨hG7, hO7⟩ := HR6.out
            have hwz : (wz.drewN 1).heap.size = wz.heap.size := rfl
            have hBQ := HGQz.out.bound
            have k1 := (HGPz.out.drewN 1).only hO7 HDISz.out
            rw [← HPS.out] at k1
            have k2 := hG7
            rw [HTQ2.out, ← HQS.out] at k2
            have k4 := HRXz.out.of_block (hO7.block bx hbz (fun e => by have := hBQ bx e; omega))
            have k5 := HR0z.out.of_block (hO7.block w.heap.size (by rw [hwz]; omega) (fun e => by have := hBQ _ e; omega))
            have k6 := (below_drewN HBz.out 1).trans (hO7.below (B := w.heap.size) (show w.heap.size ≤ wz.heap.size by omega) (fun k hk => by have := hBQ k hk; omega))
            have k3 := HDISz.out
            exact ⟨i + 1, _, _, _, _, by omega, by omega, by go_num, k1, k2, (fun k h1 h2 => by
              rcases h2 with h2 | h2
              · exact k3 k h1 h2
              · have h3 := (HGPz.out.bound k h1).2
                rw [hwz] at h2
                omega), k4, k5, k6, hwb⟩
    · have hin : i = n := by omega
      subst hin
      have HT : Hid (xs.take i = xs) := List.take_of_length_le (by rw [HL.out]; exact Nat.le_refl _)
      obtain ⟨hGP, hGQ, _, hrx, hr0, hbel, _⟩ := HOF.out
      rw [HT.out] at hGP hGQ
      obtain ⟨AP, cP, rfl, hcapP⟩ := hGP.form
      obtain ⟨AQ, cQ, rfl, hcapQ⟩ := hGQ.form
      have gp := hrx.cell (i := 0) (by omega)
      have gq : wr.cell? ⟨bx, 1, none⟩ = some (.slice AQ (QT xs).length cQ) := by have := hrx.cell (i := 1) (by omega); exact this
      simp only [if_pos] at gp
      have g0 := hr0.cell (i := 0) (by omega)
      have g1 := hr0.cell (i := 1) (by omega)
      simp only [ite_self] at g0 g1
      have f0 := hr0.frozen 0
      have f1 := hr0.frozen 1
      have hwl : w.heap.size < wr.heap.size := hr0.lt
      have HBF : Hid (Below w.heap.size w ((wr.setCell ⟨w.heap.size, 0, none⟩ (.slice AP (PT xs).length cP)).setCell ⟨w.heap.size, 1, none⟩ (.slice AQ (QT xs).length cQ))) := (hbel.setCell (Nat.le_refl _) _).setCell (Nat.le_refl _) _
      have hO5 : Only (fun k => k = w.heap.size) wr ((wr.setCell ⟨w.heap.size, 0, none⟩ (.slice AP (PT xs).length cP)).setCell ⟨w.heap.size, 1, none⟩ (.slice AQ (QT xs).length cQ)) := (only_cell (fun k => k = w.heap.size) _ _ _ _ rfl).trans (only_cell (fun k => k = w.heap.size) _ _ _ _ rfl)
      have HG1 := hid (hGP.only hO5 (fun k h1 h2 => by have := hGP.bound k h1; omega)).rrows
      have HG2 := hid (hGQ.only hO5 (fun k h1 h2 => by have := hGQ.bound k h1; omega)).rrows
      have HC1 := hid hcapP
      have HC2 := hid hcapQ
      clear hGP hGQ hrx hr0 hbel hO5 hcapP hcapQ HOF
      generalize PT xs = TP at *
      generalize QT xs = TQ at *
      generalize TP.length = nP at *
      generalize TQ.length = nQ at *
      go_wp2
      (try simp only [Exit.inBlock, Exit.then])
      refine bodyPost_ret (v := .tuple #[.agg #[.slice AP nP cP, .slice AQ nQ cQ], .int .i64 0]) ?_ rfl ⟨AP, nP, cP, AQ, nQ, cQ, rfl, HG1.out, HG2.out, HC1.out, HC2.out, HBF.out⟩
      rw [results_cell_tmp rfl]
      go_simp

end Go.Proofs.Ytdcmknnmdiocdaa
