/-
  Texts joined: TabO, TabX, TabH, TabJ, TableauBack, RatC, RatD, RatG.
-/
import Derived.Test.YtmdpfadfimodjaaTopOrdersPart4
import Derived.Deep.AppendLies
import Derived.Deep.RegionHeld
import Derived.Laws.ResultCell

/-
  tableau.Of (P38).
-/
namespace Go.Proofs.Ytmdpfadfimodjaa
open Go.RowKit

/-- One number put behind, in a region that draws: where the row lies then. -/
theorem step_app1At {ops : Array Oper} {o : Oper} {a : Act} {K : Act → World → Prop} {Q : Exit → Act → World → Prop} {E : Prop} (W : World) (hgd : o.guard = none) (s x : Operand)
    (ho : o.op = .call { callee := .builtin .append, args := #[s, x], argTypes := #[22, 22] })
    (base : Nat) (v : Value) (xs : List Int) (y : Int) (hs : a.eval s = v) (hx : a.eval x = .slice (some ⟨W.heap.size, 0, none⟩) 1 1) (hown : OwnInts W base v xs)
    (hlen : xs.length ≤ 1000000000000) (hbase : base ≤ W.heap.size)
    (h : ∀ A' n' c' w', OwnInts w' base (.slice A' n' c') (xs ++ [y]) → W.grownBy w' v.ownBlock → ((Value.slice A' n' c').ownBlock = v.ownBlock ∨ ∀ k, (Value.slice A' n' c').ownBlock = some k → W.heap.size ≤ k) → K (a.put o.dst (.slice A' n' c')) w') :
    if Region.wanted o (yielded ops a.tmps) = true then Oper.wp Try.prog o a (W.alloc (.cells #[.int .i64 y] 3)) K Q else E := by
  obtain ⟨i0, hi, hz0, hz1, hz2⟩ := info_parts infoInt
  refine step_append_lies _ hgd s x 22 ho base 3 i0 (.int .i64 0) 1 8 Try.underlying22 hi hz0 hz1 hz2 rfl (by decide) v xs.length (xs.map (Value.int .i64)) hs (World.ownsRow.alloc hown _) ⟨W.heap.size, 0, none⟩ 1 1 [.int .i64 y] hx rfl (cell_one W y) (by intro u hu; simp at hu; subst hu; rfl) (by omega) (by unfold maxLen; omega) (by omega) (by simp; omega) _ rfl ?_
  intro g cap w' h1 h2 hat _
  have hg : W.grownBy w' v.ownBlock := ⟨h2.os, h2.tape, h2.output, Nat.le_trans (by simp) h2.size, fun k hk hne => (h2.block k (by simp; omega) hne).trans (Below.heap_alloc W _ k hk)⟩
  refine h _ _ _ w' ?_ hg ?_
  · unfold OwnInts
    simpa using h1
  · rcases hat with e | e
    · exact .inl e.symm
    · right
      intro k hk
      simp only [Value.ownBlock, Option.some.injEq] at hk
      have hsz : (W.alloc (.cells #[.int .i64 y] 3)).heap.size = W.heap.size + 1 := by simp
      omega

theorem length_le_flat : ∀ (T : List (List Int)) (j : Nat), (T.getD j []).length ≤ T.flatten.length
  | [], j => by simp
  | r :: T, 0 => by simp
  | r :: T, j + 1 => by
    have := length_le_flat T j
    simp only [List.getD_cons_succ, List.flatten_cons, List.length_append]
    omega
theorem PT_row_le (p : List Int) (j : Nat) : ((PT p).getD j []).length ≤ p.length := by
  have h := length_le_flat (PT p) j
  rwa [(PT_flat p).length_eq] at h
theorem QT_flat_len (p : List Int) : (QT p).flatten.length = p.length := by
  induction p using snoc_ind with
  | h0 => rfl
  | h1 w x ih => rw [QT_snoc, (tadd_flat _ _ _).length_eq, List.length_cons, ih, List.length_append]; rfl
theorem QT_row_le (p : List Int) (j : Nat) : ((QT p).getD j []).length ≤ p.length := by
  have h := length_le_flat (QT p) j
  rwa [QT_flat_len p] at h
theorem PT_len_le (p : List Int) : (PT p).length ≤ p.length := by
  induction p using snoc_ind with
  | h0 => exact Nat.le_refl _
  | h1 w x ih =>
    have := tin_le (PT w) x
    rw [PT_snoc, tin_length, List.length_append, List.length_singleton]
    omega
theorem tadd_lt : ∀ (T : List (List Int)) (r : Nat) (M : Int), r < T.length → tadd T r M = T.set r (T.getD r [] ++ [M])
  | [], r, M, h => absurd h (Nat.not_lt_zero _)
  | row :: T, 0, M, _ => rfl
  | row :: T, r + 1, M, h => by
    rw [tadd, tadd_lt T r M (by simpa using h)]
    rfl
theorem tadd_eq : ∀ (T : List (List Int)) (r : Nat) (M : Int), r = T.length → tadd T r M = (T ++ [[]]).set r ([] ++ [M])
  | [], r, M, h => by
    subst h
    rfl
  | row :: T, r, M, h => by
    subst h
    rw [List.length_cons, tadd, tadd_eq T T.length M rfl]
    rfl

/-- Two tableaux come back, and OK. -/
def RetPairO (w : World) (P Q : List (List Int)) (e : Ending) (w' : World) : Prop :=
  ∃ A n c A' n' c', e = .returned (.tuple #[.agg #[.slice A n c, .slice A' n' c'], .int .i64 0]) ∧ RRows w' A n P ∧ RRows w' A' n' Q ∧ BRows w' w.heap.size (.slice A n c) P ∧ BRows w' w.heap.size (.slice A' n' c') Q ∧ Cap n c ∧ Cap n' c' ∧ Below w.heap.size w w'
def RetPair (w : World) (P Q : List (List Int)) (e : Ending) (w' : World) : Prop :=
  ∃ A n c A' n' c', e = .returned (.tuple #[.agg #[.slice A n c, .slice A' n' c'], .int .i64 0]) ∧ RRows w' A n P ∧ RRows w' A' n' Q ∧ Cap n c ∧ Cap n' c' ∧ Below w.heap.size w w'

theorem pair_row0 {w : World} {b : Nat} {x y : Value} : (w.alloc (.cells #[x, y] b)).rowIs w.heap.size b 2 (fun j => if j = 0 then x else y) := by
  refine ⟨#[x, y], heap_alloc_new w _, rfl, fun i hi => ?_⟩
  match i, hi with
  | 0, _ => rfl
  | 1, _ => rfl

set_option maxRecDepth 100000 in
set_option maxHeartbeats 800000 in
theorem tabOf_bad (A : Option Addr) (n c : Nat) (xs : List Int) (w : World) (h : Ints w A n xs) (hm : n ≤ 9223372036854775807) (he : permErr xs ≠ 0) :
    Calls Try.prog 32 #[.slice A n c] w fun e w' => e = .returned (.tuple #[.agg #[.slice none 0 0, .slice none 0 0], .int .i64 (permErr xs)]) ∧ Below w.heap.size w w' := by
  generalize hq : permErr xs = er at *
  have he' : (er != 0) = true := by simpa using he
  have HQ := hid hq
  have HI := hid h
  clear hq h
  go_enter Try.func32, Try.ntmps32
  go_wp2_with fail
  refine (check_any A n c xs _ (HI.out.keep (below_alloc _ _)) hm).mono ?_
  rintro e w1 ⟨rfl, hb⟩
  have hR := (pair_row0 (w := w) (b := 49) (x := .slice none 0 0) (y := .slice none 0 0)).of_block (hb.block w.heap.size (by simp))
  have g0 := hR.cell (i := 0) (by omega)
  have g1 := hR.cell (i := 1) (by omega)
  have f0 := hR.frozen 0
  have f1 := hR.frozen 1
  simp only [ite_self] at g0 g1
  have hlt : w.heap.size < w1.heap.size := Nat.lt_of_lt_of_le (by simp) hb.size
  have HB := hid (below_step (below_alloc w _) (Nat.le_refl _) hb)
  clear hR hb
  rw [HQ.out]
  go_wp2
  (try simp only [Exit.inBlock, Exit.then])
  refine bodyPost_ret (v := .tuple #[.agg #[.slice none 0 0, .slice none 0 0], .int .i64 er]) ?_ rfl ⟨rfl, (HB.out.setCell (Nat.le_refl _) _).setCell (Nat.le_refl _) _⟩
  rw [results_cell_tmp rfl]
  go_simp

/-- Only the struct's own block has turned. -/
theorem only_cell (fp : Nat → Prop) (w : World) (b j : Nat) (v : Value) (hb : fp b) : Only fp w (w.setCell ⟨b, j, none⟩ v) := (Only.refl fp w).set hb j v

/-- What Of knows at its round's begin. -/
def OfRel (w : World) (bx : Nat) (xs : List Int) (i : Nat) (wr : World) (vP vQ : Value) (fP fQ : Nat → Prop) : Prop :=
  Grid wr (bx + 1) fP vP (PT (xs.take i)) ∧ Grid wr (bx + 1) fQ vQ (QT (xs.take i)) ∧ (∀ k, fP k → ¬ fQ k) ∧ wr.rowIs bx 49 2 (fun j => if j = 0 then vP else vQ) ∧ wr.rowIs w.heap.size 49 2 (fun j => if j = 0 then .slice none 0 0 else .slice none 0 0) ∧ Below w.heap.size w wr ∧ w.heap.size < bx

theorem fun_if0 (x y z : Value) : (fun j : Nat => if j = 0 then z else if j = 0 then x else y) = (fun j => if j = 0 then z else y) := by
  funext j
  split <;> rfl
theorem fun_if1 (x y z : Value) : ∀ j, j < 2 → (if j = 1 then z else if j = 0 then x else y) = (if j = 0 then x else z) := by
  intro j hj
  match j, hj with
  | 0, _ => rfl
  | 1, _ => rfl

set_option maxRecDepth 100000 in
set_option maxHeartbeats 1600000 in
theorem tabOf_own (A : Option Addr) (n c : Nat) (xs : List Int) (w : World) (h : Ints w A n xs) (he : permErr xs = 0) :
    Calls Try.prog 32 #[.slice A n c] w (RetPairO w (PT xs) (QT xs)) := by
  have hn : n ≤ 10 := by rw [← h.len]; exact (permErr_ok.1 he).1
  have HI := hid h
  have HL := hid h.len
  have HE := hid he
  clear h he
  go_enter Try.func32, Try.ntmps32
  go_wp2_with fail
  refine (check_any A n c xs _ (HI.out.keep (below_alloc _ _)) (by omega)).mono ?_
  rintro e w1 ⟨rfl, hb⟩
  have HR0 := hid ((pair_row0 (w := w) (b := 49) (x := .slice none 0 0) (y := .slice none 0 0)).of_block (hb.block w.heap.size (by simp)))
  have HB1 := hid (below_step (below_alloc w _) (Nat.le_refl _) hb)
  obtain ⟨bx, hbx⟩ : ∃ bx, bx = w1.heap.size := ⟨_, rfl⟩
  have hwb : w.heap.size < bx := by rw [hbx]; exact Nat.lt_of_lt_of_le (by simp) hb.size
  have HBX := hid hbx
  clear hb
  rw [HE.out]
  go_wp2_with fail
  rw [← hbx]
  clear hbx
  obtain ⟨w8, hw8⟩ : ∃ w8, w8 = w1.alloc (.cells #[.slice none 0 0, .slice none 0 0] 49) := ⟨_, rfl⟩
  have HREL0 : Hid (OfRel w bx xs 0 w8 (.slice none 0 0) (.slice none 0 0) (fun _ => False) (fun _ => False)) := by
    rw [hw8]
    refine ⟨Grid.nil _ _, Grid.nil _ _, fun _ h => h.elim, ?_, ?_, below_step HB1.out (Nat.le_refl _) (below_alloc _ _), hwb⟩
    · rw [HBX.out]
      exact pair_row0
    · exact HR0.out.alloc _
  rw [← hw8]
  clear hw8 HR0 HB1 HBX
  go_loopg [17] n (fun g t wr => ∃ (i : Nat) (vP vQ : Value) (fP fQ : Nat → Prop), i ≤ n ∧ n - i ≤ g ∧ t = .int .i64 (i : Int) ∧ OfRel w bx xs i wr vP vQ fP fQ)
  case atStart => exact ⟨0, _, _, _, _, Nat.zero_le _, by omega, rfl, HREL0.out⟩
  case round =>
    obtain ⟨i, vP, vQ, fP, fQ, hi, hg, rfl, hof⟩ := hrel
    have HOF := hid hof
    clear hof HREL0
    by_cases hlt : i < n
    · have HKL : Hid (i < xs.length) := by rw [HL.out]; exact hlt
      have HTS := hid (take_snoc HKL.out)
      have HPS := hid (PT_snoc (xs.take i) (xs.getD i 0))
      have HQS := hid (QT_snoc (xs.take i) (xs.getD i 0))
      have HTL : Hid ((xs.take i).length = i) := by rw [List.length_take, HL.out]; exact (by omega : min i n = i)
      rw [← HTS.out] at HPS HQS
      rw [HTL.out] at HQS
      obtain ⟨b, o, rfl, hbb, hc⟩ := HI.out.row (by omega)
      have gx : wr.cell? ⟨b, o + i, none⟩ = some (.int .i64 (xs.getD i 0)) := (HOF.out.2.2.2.2.2.1.cell (p := ⟨b, o + i, none⟩) hbb).trans (hc i hlt)
      clear hc
      generalize xs.getD i 0 = x at *
      obtain ⟨hGP, hGQ, hdis, hrx, hr0, hbel, _⟩ := HOF.out
      obtain ⟨AP, cP, rfl, hcapP⟩ := hGP.form
      obtain ⟨AQ, cQ, rfl, hcapQ⟩ := hGQ.form
      have HPL := hid (PT_len_le (xs.take i))
      have HPR := hid (PT_row_le (xs.take i))
      have HQR := hid (QT_row_le (xs.take i))
      have HPQ := hid (PQ_length (xs.take i))
      rw [HTL.out] at HPL HPR HQR
      have HTI := hid (tin_le (PT (xs.take i)) x)
      have HGP := hid hGP
      have HGQ := hid hGQ
      have HDIS := hid hdis
      have HRX := hid hrx
      have HR0 := hid hr0
      have HB := hid hbel
      clear hGP hGQ hdis hrx hr0 hbel hcapP hcapQ HOF
      have gp := HRX.out.cell (i := 0) (by omega)
      simp only [if_pos] at gp
      have hbxl : bx < wr.heap.size := HRX.out.lt
      generalize PT (xs.take i) = TP at *
      generalize QT (xs.take i) = TQ at *
      obtain ⟨nP, hnP⟩ : ∃ nP, nP = TP.length := ⟨_, rfl⟩
      obtain ⟨nQ, hnQ⟩ : ∃ nQ, nQ = TQ.length := ⟨_, rfl⟩
      rw [← hnP] at HGP HRX gp HPL HTI HPQ
      rw [← hnQ] at HGQ HRX HPQ
      have HNP := hid hnP
      have HNQ := hid hnQ
      clear hnP hnQ
      go_wp2_with fail
      refine (insert_any (bx + 1) fP _ TP x _ HGP.out (by rw [← HNP.out]; have := HPL.out; omega) (fun j => by have := HPR.out j; omega) (by omega)).mono ?_
      rintro e w2 ⟨vP2, rfl, hGP2, hon2⟩
      obtain ⟨AP2, cP2, rfl, hcapP2⟩ := hGP2.form
      obtain ⟨nP2, hnP2⟩ : ∃ nP2, nP2 = (tin TP x).1.length := ⟨_, rfl⟩
      rw [← hnP2] at hGP2 hcapP2
      rw [← hnP2]
      clear hnP2
      have HBD := hid HGP.out.bound
      have HBQ := hid HGQ.out.bound
      have hrx2 := HRX.out.of_block (hon2.block bx hbxl (fun e => by have := HBD.out bx e; omega))
      have hr02 := HR0.out.of_block (hon2.block w.heap.size (by omega) (fun e => by have := HBD.out _ e; omega))
      have hGQ2 := HGQ.out.only hon2 (fun k h1 h2 => HDIS.out k h2 h1)
      have hB2 : Below w.heap.size w w2 := HB.out.trans (hon2.below (by omega) (fun k hk => by have := HBD.out k hk; omega))
      have hsz2 := hon2.size
      have hdis2 : ∀ k, fpN fP wr.heap.size w2.heap.size k → ¬ fQ k := by
        intro k hk hq
        rcases hk with hk | hk
        · exact HDIS.out k hk hq
        · have := HBQ.out k hq
          omega
      -- the store into x.P
      have hst := hrx2.set 0 (.slice AP2 nP2 cP2)
      rw [fun_if0] at hst
      have hO3 : Only (fun k => k = bx) w2 (w2.setCell ⟨bx, 0, none⟩ (.slice AP2 nP2 cP2)) := only_cell _ _ _ _ _ rfl
      have hGP3 := hGP2.only hO3 (fun k h1 h2 => by have := hGP2.bound k h1; omega)
      have hGQ3 := hGQ2.only hO3 (fun k h1 h2 => by have := hGQ2.bound k h1; omega)
      have hr03 := hr02.setOther (a := ⟨bx, 0, none⟩) (by show w.heap.size ≠ bx; omega) (.slice AP2 nP2 cP2)
      have hB3 : Below w.heap.size w (w2.setCell ⟨bx, 0, none⟩ (.slice AP2 nP2 cP2)) := hB2.setCell (by show w.heap.size ≤ bx; omega) _
      have gp2 := hrx2.cell (i := 0) (by omega)
      have fp2 := hrx2.frozen 0
      have gq3 := hst.cell (i := 1) (by omega)
      simp only [if_pos] at gp2
      have gq3' : (w2.setCell ⟨bx, 0, none⟩ (.slice AP2 nP2 cP2)).cell? ⟨bx, 1, none⟩ = some (.slice AQ nQ cQ) := gq3
      have hbx2 : bx < w2.heap.size := by omega
      have HGP3 := hid hGP3
      have HGQ3 := hid hGQ3
      have HRX3 := hid hst
      have HR03 := hid hr03
      have HB3 := hid hB3
      have HDIS2 := hid hdis2
      have HCP2 := hid hcapP2
      have HAL := HTI
      have hsz3 : (w2.setCell ⟨bx, 0, none⟩ (.slice AP2 nP2 cP2)).heap.size = w2.heap.size := by simp [World.setCell]
      clear hGP2 hon2 hrx2 hr02 hGQ2 hB2 hsz2 hdis2 hst hO3 hGP3 hGQ3 hr03 hB3 gq3 hcapP2 HDIS HGP HGQ HRX HR0 HB gp gx
      obtain ⟨a, ha⟩ : ∃ a, a = (tin TP x).2 := ⟨_, rfl⟩
      rw [← ha] at HQS HTI
      rw [← ha]
      have hale : a ≤ nQ := by have h1 := HTI.out; have h2 := HPQ.out; rw [h2] at h1; exact h1
      have hP10 : nP ≤ 10 := by have := HPL.out; omega
      have hQ10 : nQ ≤ 10 := by have h2 := HPQ.out; omega
      clear ha
      by_cases haq : a = nQ
      · have hbe : ((a : Int) == (nQ : Int)) = true := by simp [haq]
        have HAQ := hid haq
        clear haq
        go_wp2_with (at_builtin; refine wpList_gridApp _ rfl (.tmp 36) (.tmp 37) rfl (bx + 1) fQ _ TQ (.slice none 0 0) [] rfl (by rw [hsz3]; rfl) HGQ3.out (OwnInts.nil _ _) (fun k hk => by cases hk) (by rw [← HNQ.out]; omega) (by rw [hsz3]; omega) ?_)
        intro v4 w4 hG4 hO4
        obtain ⟨A4, c4, rfl, _⟩ := hG4.form
        have hBQ3 := HGQ3.out.bound
        have hs4 := hO4.size
        rw [hsz3] at hs4
        have hrx4 := HRX3.out.of_block (hO4.block bx (by rw [hsz3]; omega) (fun e => by have := hBQ3 bx e; omega))
        have hr04 := HR03.out.of_block (hO4.block w.heap.size (by rw [hsz3]; omega) (fun e => by have := hBQ3 _ e; omega))
        have hGP4 := HGP3.out.only hO4 HDIS2.out
        have hB4 : Below w.heap.size w w4 := HB3.out.trans (hO4.below (by rw [hsz3]; omega) (fun k hk => by have := hBQ3 k hk; omega))
        obtain ⟨nQ2, hnQ2⟩ : ∃ nQ2, nQ2 = (TQ ++ [[]]).length := ⟨_, rfl⟩
        rw [← hnQ2] at hG4
        rw [← hnQ2]
        have hst := hrx4.set 1 (.slice A4 nQ2 c4)
        replace hst := hst.congr (fun_if1 _ _ _)
        have hO5 : Only (fun k => k = bx) w4 (w4.setCell ⟨bx, 1, none⟩ (.slice A4 nQ2 c4)) := only_cell _ _ _ _ _ rfl
        have hGPz := hGP4.only hO5 (fun k h1 h2 => by have := hGP4.bound k h1; omega)
        have hGQz := hG4.only hO5 (fun k h1 h2 => by have := hG4.bound k h1; omega)
        have hr0z := hr04.setOther (a := ⟨bx, 1, none⟩) (by show w.heap.size ≠ bx; omega) (.slice A4 nQ2 c4)
        have hBz : Below w.heap.size w (w4.setCell ⟨bx, 1, none⟩ (.slice A4 nQ2 c4)) := hB4.setCell (by show w.heap.size ≤ bx; omega) _
        have g41 : w4.cell? ⟨bx, 1, none⟩ = some (.slice AQ nQ cQ) := by have := hrx4.cell (i := 1) (by omega); exact this
        have f41 := hrx4.frozen 1
        have hDISz : ∀ k, fpN fP wr.heap.size w2.heap.size k → ¬ (fpN fQ w2.heap.size w4.heap.size k ∨ (Value.slice none 0 0).ownBlock = some k) := by
          intro k h1 h2
          rcases h2 with (h2 | h2) | h2
          · exact HDIS2.out k h1 h2
          · have h3 := (HGP3.out.bound k h1).2
            omega
          · cases h2
        have HGPz := hid hGPz
        have HGQz := hid hGQz
        have HRXz := hid hst
        have HR0z := hid hr0z
        have HBz := hid hBz
        have HDISz := hid hDISz
        have HNQ2 := hid hnQ2
        have hal2 : a < nQ2 := by rw [hnQ2, List.length_append, ← HNQ.out, HAQ.out]; simp
        have HTQ2 : Hid ((TQ ++ [[]]).set a ((TQ ++ [[]]).getD a [] ++ [(i : Int)]) = tadd TQ a (i : Int)) := by
          have e : (TQ ++ [[]]).getD a [] = [] := by
            rw [List.getD_eq_getElem?_getD, List.getElem?_append_right (by rw [← HNQ.out, HAQ.out]; exact Nat.le_refl _), ← HNQ.out, HAQ.out]
            simp
          rw [e, tadd_eq TQ a (i : Int) (by rw [← HNQ.out]; exact HAQ.out)]
          exact rfl
        have HQ2R : Hid (∀ j, ((TQ ++ [[]]).getD j []).length ≤ 1000) := by
          intro j
          rcases Nat.lt_or_ge j TQ.length with hj | hj
          · rw [List.getD_eq_getElem?_getD, List.getElem?_append_left hj, ← List.getD_eq_getElem?_getD]
            have := HQR.out j
            omega
          · rw [List.getD_eq_getElem?_getD, List.getElem?_append_right hj]
            rcases Nat.eq_zero_or_pos (j - TQ.length) with h0 | h0
            · rw [h0]
              simp
            · rw [List.getElem?_eq_none (by simp; omega)]
              simp
        clear hG4 hO4 hBQ3 hs4 hrx4 hr04 hGP4 hB4 hst hO5 hGPz hGQz hr0z hBz hDISz hnQ2
        generalize TQ ++ [[]] = TQ2 at *
        go_wp2_with fail
        clear g41 f41 gq3' gp2 fp2
        generalize w4.setCell ⟨bx, 1, none⟩ (.slice A4 nQ2 c4) = wz at *
        clear hsz3
        obtain ⟨cQ2, hc2⟩ : ∃ cQ2, cQ2 = c4 := ⟨_, rfl⟩
        subst hc2
        have halt : a < TQ2.length := by rw [← HNQ2.out]; exact hal2
        obtain ⟨gq, cq, u, e1, hcell, hfrz, hu⟩ := HGQz.out.at halt
        injection e1 with e1 e2 e3
        subst e1
        subst e3
        clear e2
        obtain ⟨row, hrow⟩ : ∃ row, row = TQ2.getD a [] := ⟨_, rfl⟩
        rw [← hrow] at hu HTQ2
        obtain ⟨Au, cu, rfl, hIu, hcu⟩ := hu.ints
        have hrl : row.length ≤ 1000 := by rw [hrow]; exact HQ2R.out a
        obtain ⟨m, hm⟩ : ∃ m, m = row.length := ⟨_, rfl⟩
        rw [← hm] at hcell hu
        have gx1 : wz.cell? ⟨bx, 1, none⟩ = some (.slice (some ⟨gq, 0, none⟩) nQ2 cQ2) := by have := HRXz.out.cell (i := 1) (by omega); exact this
        have fx1 := HRXz.out.frozen 1
        have hbz : bx < wz.heap.size := HRXz.out.lt
        have hgq := HGQz.out.outer_lt
        have hgb : bx ≠ gq := by have := HGQz.out.outer_ge; omega
        have hgb2 : gq ≠ bx := fun e => hgb e.symm
        have HRP := hid (fun w' u1 (ys : List Int) (hb1 : wz.drew.grownBy w' (Value.slice Au m cu).ownBlock) (ho1 : OwnInts w' (bx + 1) u1 ys) hb2 => (HGQz.out.drewN 1).replace halt hcell hb1 ho1 hb2 (show bx + 1 ≤ wz.heap.size by omega))
        have HOK := hid (fun w' (hb1 : wz.drew.grownBy w' (Value.slice Au m cu).ownBlock) => (HGQz.out.drewN 1).outer_kept halt hcell hb1)
        have HU : Hid (OwnInts wz.drew (bx + 1) (.slice Au m cu) row) := hu
        have HBU : Hid (∀ k, (Value.slice Au m cu).ownBlock = some k → bx + 1 ≤ k) := fun k hk => (World.ownsRow.lt hu k hk).1
        have HM := hid hm
        have HFZ := hid hfrz
        have HCE := hid hcell
        have HGX := hid gx1
        clear hu hIu hcu hm hrow
        go_wp2_with fail
        refine wp_region_held_drew (S := fun w' => w'.cell? ⟨bx, 1, none⟩ = some (.slice (some ⟨gq, 0, none⟩) nQ2 cQ2)) (by kernel_rfl) HGX.out (fun hHeld => ?_)
        refine wpAnyH_take (i := 0) (oi := { dst := some 40, op := Op.fieldAddr 49 (Operand.tmp 5) 1, type := 0, pos := "tableau.go:43", after := #[], guard := none }) (v := ?v1) rfl (by kernel_rfl) (by kernel_rfl) (by kernel_rfl) (fun _ _ _ h => h) (Or.inl ⟨by rfl, ?hy1⟩) (by assumption) ?rest1
        case hy1 => (intro w9 hSw; (try dsimp only at hSw); go_simp; try with_reducible rfl)
        try simp only [Act.put, List.setIfInBounds_toArray, List.set_cons_zero, List.set_cons_succ]
        refine wpAnyH_take (i := 2) (oi := { dst := some 42, op := Op.move (Operand.tmp 8), type := 3, pos := "tableau.go:43", after := #[], guard := none }) (v := ?v2) rfl (by kernel_rfl) (by kernel_rfl) (by kernel_rfl) (fun _ _ _ h => h) (Or.inl ⟨by rfl, ?hy2⟩) (by assumption) ?rest2
        case hy2 => (intro w9 hSw; (try dsimp only at hSw); go_simp; try with_reducible rfl)
        try simp only [Act.put, List.setIfInBounds_toArray, List.set_cons_zero, List.set_cons_succ]
        refine wpAnyH_take (i := 3) (oi := { dst := some 43, op := Op.fieldAddr 49 (Operand.tmp 5) 1, type := 0, pos := "tableau.go:43", after := #[], guard := none }) (v := ?v3) rfl (by kernel_rfl) (by kernel_rfl) (by kernel_rfl) (fun _ _ _ h => h) (Or.inl ⟨by rfl, ?hy3⟩) (by assumption) ?rest3
        case hy3 => (intro w9 hSw; (try dsimp only at hSw); go_simp; try with_reducible rfl)
        try simp only [Act.put, List.setIfInBounds_toArray, List.set_cons_zero, List.set_cons_succ]
        refine wpAnyH_take (i := 5) (oi := { dst := some 45, op := Op.move (Operand.tmp 8), type := 3, pos := "tableau.go:43", after := #[], guard := none }) (v := ?v4) rfl (by kernel_rfl) (by kernel_rfl) (by kernel_rfl) (fun _ _ _ h => h) (Or.inl ⟨by rfl, ?hy4⟩) (by assumption) ?rest4
        case hy4 => (intro w9 hSw; (try dsimp only at hSw); go_simp; try with_reducible rfl)
        try simp only [Act.put, List.setIfInBounds_toArray, List.set_cons_zero, List.set_cons_succ]
        refine wpAnyH_take (i := 8) (oi := { dst := some 48, op := Op.move (Operand.tmp 6), type := 3, pos := "tableau.go:43", after := #[], guard := none }) (v := ?v5) rfl (by kernel_rfl) (by kernel_rfl) (by kernel_rfl) (fun _ _ _ h => h) (Or.inl ⟨by rfl, ?hy5⟩) (by assumption) ?rest5
        case hy5 => (intro w9 hSw; (try dsimp only at hSw); go_simp; try with_reducible rfl)
        try simp only [Act.put, List.setIfInBounds_toArray, List.set_cons_zero, List.set_cons_succ]
        refine wpAnyH_take (i := 1) (oi := { dst := some 41, op := Op.load 47 (Operand.tmp 40), type := 47, pos := "tableau.go:43", after := #[{ on := 0, ground := Ground.data }], guard := none }) (v := ?v6) rfl (by kernel_rfl) (by kernel_rfl) (by kernel_rfl) (fun _ _ _ h => h) (Or.inl ⟨by rfl, ?hy6⟩) (by assumption) ?rest6
        case hy6 => (intro w9 hSw; (try dsimp only at hSw); go_simp; try with_reducible rfl)
        try simp only [Act.put, List.setIfInBounds_toArray, List.set_cons_zero, List.set_cons_succ]
        refine wpAnyH_take (i := 4) (oi := { dst := some 44, op := Op.load 47 (Operand.tmp 43), type := 47, pos := "tableau.go:43", after := #[{ on := 3, ground := Ground.data }], guard := none }) (v := ?v7) rfl (by kernel_rfl) (by kernel_rfl) (by kernel_rfl) (fun _ _ _ h => h) (Or.inl ⟨by rfl, ?hy7⟩) (by assumption) ?rest7
        case hy7 => (intro w9 hSw; (try dsimp only at hSw); go_simp; try with_reducible rfl)
        try simp only [Act.put, List.setIfInBounds_toArray, List.set_cons_zero, List.set_cons_succ]
        refine wpAnyH_take (i := 6) (oi := { dst := some 46, op := Op.indexAddr 47 (Operand.tmp 44) (Operand.tmp 45), type := 0, pos := "tableau.go:43", after := #[{ on := 4, ground := Ground.data }, { on := 5, ground := Ground.data }], guard := none }) (v := ?v8) rfl (by kernel_rfl) (by kernel_rfl) (by kernel_rfl) (fun _ _ _ h => h) (Or.inl ⟨by rfl, ?hy8⟩) (by assumption) ?rest8
        case hy8 => (intro w9 hSw; (try dsimp only at hSw); go_simp; try with_reducible rfl)
        try simp only [Act.put, List.setIfInBounds_toArray, List.set_cons_zero, List.set_cons_succ]
        refine wpAnyH_ready (rs := [7, 9]) (by kernel_rfl) (by simp) ?_
        refine AllReadyH.cons (o := { dst := some 47, op := Op.load 22 (Operand.tmp 46), type := 22, pos := "tableau.go:43", after := #[{ on := 6, ground := Ground.data }], guard := none }) rfl (fun K hK => ?_) (AllReadyH.cons (o := { dst := some 49, op := Op.buildSlice 22 1 #[(0, Operand.tmp 48)], type := 22, pos := "tableau.go:43", after := #[{ on := 8, ground := Ground.data }], guard := none }) rfl (fun K hK => ?_) AllReadyH.nil)
        · go_simp
          refine hK.out _ _ ?hS9 (fun hHeld => ?rest9)
          case hS9 => (try dsimp only); (first | exact HGX.out | exact q3 | go_keep)
          clear hK K
          try simp only [Act.put, List.setIfInBounds_toArray, List.set_cons_zero, List.set_cons_succ]
          refine wpAnyH_ready (rs := [9]) (by kernel_rfl) (by simp) ?_
          refine AllReadyH.cons (o := { dst := some 49, op := Op.buildSlice 22 1 #[(0, Operand.tmp 48)], type := 22, pos := "tableau.go:43", after := #[{ on := 8, ground := Ground.data }], guard := none }) rfl (fun K hK => ?_) AllReadyH.nil
          go_simp
          refine hK.out _ _ ?hS10 (fun hHeld => ?rest10)
          case hS10 => (try dsimp only); (first | exact HGX.out | exact q3 | go_keep)
          clear hK K
          try simp only [Act.put, List.setIfInBounds_toArray, List.set_cons_zero, List.set_cons_succ]
          refine wpAnyH_ready (rs := [10]) (by kernel_rfl) (by simp) ?_
          refine AllReadyH.cons (o := { dst := some 50, op := Op.call { callee := Callee.builtin Builtin.append, args := #[Operand.tmp 47, Operand.tmp 49], argTypes := #[22, 22] }, type := 22, pos := "tableau.go:43", after := #[{ on := 7, ground := Ground.data }, { on := 9, ground := Ground.data }], guard := none }) rfl (fun K hK => ?_) AllReadyH.nil
          refine step_app1At wz.drew rfl (.tmp 47) (.tmp 49) rfl (bx + 1) _ row (i : Int) rfl rfl HU.out (by omega) (show bx + 1 ≤ wz.heap.size by omega) ?_; intro A6 n6 c6 w6 ho6 hb6 hl6; have q1 : w6.cell? ⟨gq, a, none⟩ = some (.slice Au m cu) := (World.cell?_of_block (a := ⟨gq, a, none⟩) (HOK.out w6 hb6)).trans HCE.out; have q2 : w6.frozen? ⟨gq, a, none⟩ = false := (World.frozen?_of_block (a := ⟨gq, a, none⟩) (HOK.out w6 hb6)).trans HFZ.out; have q3 : w6.cell? ⟨bx, 1, none⟩ = some (.slice (some ⟨gq, 0, none⟩) nQ2 cQ2) := (World.cell?_of_block (a := ⟨bx, 1, none⟩) (hb6.block bx hbz (fun e => by have := HBU.out bx e.symm; omega))).trans HGX.out; have HR6 := hid (HRP.out w6 (.slice A6 n6 c6) (row ++ [(i : Int)]) hb6 ho6 hl6); have hsz6 := hb6.size; clear ho6 hb6 hl6
          refine hK.out _ _ ?hS11 (fun hHeld => ?rest11)
          case hS11 => (try dsimp only); (first | exact HGX.out | exact q3 | go_keep)
          clear hK K
          try simp only [Act.put, List.setIfInBounds_toArray, List.set_cons_zero, List.set_cons_succ]
          refine wpAnyH_take (i := 11) (oi := { dst := some 51, op := Op.indexAddr 47 (Operand.tmp 41) (Operand.tmp 42), type := 0, pos := "tableau.go:43", after := #[{ on := 1, ground := Ground.data }, { on := 2, ground := Ground.data }, { on := 0, ground := Ground.phase }, { on := 1, ground := Ground.phase }, { on := 2, ground := Ground.phase }, { on := 3, ground := Ground.phase }, { on := 4, ground := Ground.phase }, { on := 5, ground := Ground.phase }, { on := 6, ground := Ground.phase }, { on := 7, ground := Ground.phase }, { on := 8, ground := Ground.phase }, { on := 9, ground := Ground.phase }, { on := 10, ground := Ground.phase }], guard := none }) (v := ?v12) rfl (by kernel_rfl) (by kernel_rfl) (by kernel_rfl) (fun _ _ _ h => h) (Or.inl ⟨by rfl, ?hy12⟩) (by assumption) ?rest12
          case hy12 => (intro w9 hSw; (try dsimp only at hSw); go_simp; try with_reducible rfl)
          try simp only [Act.put, List.setIfInBounds_toArray, List.set_cons_zero, List.set_cons_succ]
          refine wpAnyH_ready (rs := [12]) (by kernel_rfl) (by simp) ?_
          refine AllReadyH.cons (o := { dst := none, op := Op.store 22 (Operand.tmp 51) (Operand.tmp 50), type := 0, pos := "tableau.go:43", after := #[{ on := 11, ground := Ground.data }, { on := 10, ground := Ground.data }, { on := 10, ground := Ground.chain }, { on := 0, ground := Ground.phase }, { on := 1, ground := Ground.phase }, { on := 2, ground := Ground.phase }, { on := 3, ground := Ground.phase }, { on := 4, ground := Ground.phase }, { on := 5, ground := Ground.phase }, { on := 6, ground := Ground.phase }, { on := 7, ground := Ground.phase }, { on := 8, ground := Ground.phase }, { on := 9, ground := Ground.phase }, { on := 10, ground := Ground.phase }], guard := none }) rfl (fun K hK => ?_) AllReadyH.nil
          go_simp
          refine hK.out _ _ ?hS13 (fun hHeld => ?rest13)
          case hS13 => (try dsimp only); (first | exact HGX.out | exact q3 | go_keep)
          clear hK K
          try simp only [Act.put, List.setIfInBounds_toArray, List.set_cons_zero, List.set_cons_succ]
          refine wpAnyH_done (by kernel_rfl) ?_ _
          go_wp2
          go_roundg (n - (i + 1))
          case measure => omega
          case rel =>
            obtain ⟨hG7, hO7⟩ := HR6.out
            have hwz : (wz.drewN 1).heap.size = wz.heap.size := rfl
            have hBQ := HGQz.out.bound
            have k1 := (HGPz.out.drewN 1).only hO7 HDISz.out
            rw [← HPS.out] at k1
            have k2 := hG7
            rw [HTQ2.out, ← HQS.out] at k2
            have k4 := HRXz.out.of_block (hO7.block bx hbz (fun e => by have := hBQ bx e; omega))
            have k5 := HR0z.out.of_block (hO7.block w.heap.size (by rw [hwz]; omega) (fun e => by have := hBQ _ e; omega))
            have k6 := (below_drewN HBz.out 1).trans (hO7.below (B := w.heap.size) (show w.heap.size ≤ wz.heap.size by omega) (fun k hk => by have := hBQ k hk; omega))
            have k3 := HDISz.out
            exact ⟨i + 1, _, _, _, _, by omega, by omega, by go_num, k1, k2, (fun k h1 h2 => by
              rcases h2 with h2 | h2
              · exact k3 k h1 h2
              · have h3 := (HGPz.out.bound k h1).2
                rw [hwz] at h2
                omega), k4, k5, k6, hwb⟩
        · go_simp
          refine hK.out _ _ ?hS14 (fun hHeld => ?rest14)
          case hS14 => (try dsimp only); (first | exact HGX.out | exact q3 | go_keep)
          clear hK K
          try simp only [Act.put, List.setIfInBounds_toArray, List.set_cons_zero, List.set_cons_succ]
          refine wpAnyH_ready (rs := [7]) (by kernel_rfl) (by simp) ?_
          refine AllReadyH.cons (o := { dst := some 47, op := Op.load 22 (Operand.tmp 46), type := 22, pos := "tableau.go:43", after := #[{ on := 6, ground := Ground.data }], guard := none }) rfl (fun K hK => ?_) AllReadyH.nil
          go_simp
          refine hK.out _ _ ?hS15 (fun hHeld => ?rest15)
          case hS15 => (try dsimp only); (first | exact HGX.out | exact q3 | go_keep)
          clear hK K
          try simp only [Act.put, List.setIfInBounds_toArray, List.set_cons_zero, List.set_cons_succ]
          refine wpAnyH_ready (rs := [10]) (by kernel_rfl) (by simp) ?_
          refine AllReadyH.cons (o := { dst := some 50, op := Op.call { callee := Callee.builtin Builtin.append, args := #[Operand.tmp 47, Operand.tmp 49], argTypes := #[22, 22] }, type := 22, pos := "tableau.go:43", after := #[{ on := 7, ground := Ground.data }, { on := 9, ground := Ground.data }], guard := none }) rfl (fun K hK => ?_) AllReadyH.nil
          refine step_app1At wz.drew rfl (.tmp 47) (.tmp 49) rfl (bx + 1) _ row (i : Int) rfl rfl HU.out (by omega) (show bx + 1 ≤ wz.heap.size by omega) ?_; intro A6 n6 c6 w6 ho6 hb6 hl6; have q1 : w6.cell? ⟨gq, a, none⟩ = some (.slice Au m cu) := (World.cell?_of_block (a := ⟨gq, a, none⟩) (HOK.out w6 hb6)).trans HCE.out; have q2 : w6.frozen? ⟨gq, a, none⟩ = false := (World.frozen?_of_block (a := ⟨gq, a, none⟩) (HOK.out w6 hb6)).trans HFZ.out; have q3 : w6.cell? ⟨bx, 1, none⟩ = some (.slice (some ⟨gq, 0, none⟩) nQ2 cQ2) := (World.cell?_of_block (a := ⟨bx, 1, none⟩) (hb6.block bx hbz (fun e => by have := HBU.out bx e.symm; omega))).trans HGX.out; have HR6 := hid (HRP.out w6 (.slice A6 n6 c6) (row ++ [(i : Int)]) hb6 ho6 hl6); have hsz6 := hb6.size; clear ho6 hb6 hl6
          refine hK.out _ _ ?hS16 (fun hHeld => ?rest16)
          case hS16 => (try dsimp only); (first | exact HGX.out | exact q3 | go_keep)
          clear hK K
          try simp only [Act.put, List.setIfInBounds_toArray, List.set_cons_zero, List.set_cons_succ]
          refine wpAnyH_take (i := 11) (oi := { dst := some 51, op := Op.indexAddr 47 (Operand.tmp 41) (Operand.tmp 42), type := 0, pos := "tableau.go:43", after := #[{ on := 1, ground := Ground.data }, { on := 2, ground := Ground.data }, { on := 0, ground := Ground.phase }, { on := 1, ground := Ground.phase }, { on := 2, ground := Ground.phase }, { on := 3, ground := Ground.phase }, { on := 4, ground := Ground.phase }, { on := 5, ground := Ground.phase }, { on := 6, ground := Ground.phase }, { on := 7, ground := Ground.phase }, { on := 8, ground := Ground.phase }, { on := 9, ground := Ground.phase }, { on := 10, ground := Ground.phase }], guard := none }) (v := ?v17) rfl (by kernel_rfl) (by kernel_rfl) (by kernel_rfl) (fun _ _ _ h => h) (Or.inl ⟨by rfl, ?hy17⟩) (by assumption) ?rest17
          case hy17 => (intro w9 hSw; (try dsimp only at hSw); go_simp; try with_reducible rfl)
          try simp only [Act.put, List.setIfInBounds_toArray, List.set_cons_zero, List.set_cons_succ]
          refine wpAnyH_ready (rs := [12]) (by kernel_rfl) (by simp) ?_
          refine AllReadyH.cons (o := { dst := none, op := Op.store 22 (Operand.tmp 51) (Operand.tmp 50), type := 0, pos := "tableau.go:43", after := #[{ on := 11, ground := Ground.data }, { on := 10, ground := Ground.data }, { on := 10, ground := Ground.chain }, { on := 0, ground := Ground.phase }, { on := 1, ground := Ground.phase }, { on := 2, ground := Ground.phase }, { on := 3, ground := Ground.phase }, { on := 4, ground := Ground.phase }, { on := 5, ground := Ground.phase }, { on := 6, ground := Ground.phase }, { on := 7, ground := Ground.phase }, { on := 8, ground := Ground.phase }, { on := 9, ground := Ground.phase }, { on := 10, ground := Ground.phase }], guard := none }) rfl (fun K hK => ?_) AllReadyH.nil
          go_simp
          refine hK.out _ _ ?hS18 (fun hHeld => ?rest18)
          case hS18 => (try dsimp only); (first | exact HGX.out | exact q3 | go_keep)
          clear hK K
          try simp only [Act.put, List.setIfInBounds_toArray, List.set_cons_zero, List.set_cons_succ]
          refine wpAnyH_done (by kernel_rfl) ?_ _
          go_wp2
          go_roundg (n - (i + 1))
          case measure => omega
          case rel =>
            obtain ⟨hG7, hO7⟩ := HR6.out
            have hwz : (wz.drewN 1).heap.size = wz.heap.size := rfl
            have hBQ := HGQz.out.bound
            have k1 := (HGPz.out.drewN 1).only hO7 HDISz.out
            rw [← HPS.out] at k1
            have k2 := hG7
            rw [HTQ2.out, ← HQS.out] at k2
            have k4 := HRXz.out.of_block (hO7.block bx hbz (fun e => by have := hBQ bx e; omega))
            have k5 := HR0z.out.of_block (hO7.block w.heap.size (by rw [hwz]; omega) (fun e => by have := hBQ _ e; omega))
            have k6 := (below_drewN HBz.out 1).trans (hO7.below (B := w.heap.size) (show w.heap.size ≤ wz.heap.size by omega) (fun k hk => by have := hBQ k hk; omega))
            have k3 := HDISz.out
            exact ⟨i + 1, _, _, _, _, by omega, by omega, by go_num, k1, k2, (fun k h1 h2 => by
              rcases h2 with h2 | h2
              · exact k3 k h1 h2
              · have h3 := (HGPz.out.bound k h1).2
                rw [hwz] at h2
                omega), k4, k5, k6, hwb⟩
      · have hbe : ((a : Int) == (nQ : Int)) = false := by simp; omega
        have HGPz := HGP3
        have HGQz := HGQ3
        have HRXz := HRX3
        have HR0z := HR03
        have HBz := HB3
        have HDISz := HDIS2
        have HNQ2 := HNQ
        have hal2 : a < nQ := by omega
        have HTQ2 : Hid (TQ.set a (TQ.getD a [] ++ [(i : Int)]) = tadd TQ a (i : Int)) := (tadd_lt TQ a (i : Int) (by rw [← HNQ.out]; exact hal2)).symm
        have HQ2R : Hid (∀ j, (TQ.getD j []).length ≤ 1000) := fun j => by have := HQR.out j; omega
        obtain ⟨TQ2, hTQ2⟩ : ∃ TQ2, TQ2 = TQ := ⟨_, rfl⟩
        rw [← hTQ2] at HGQz HNQ2 HQ2R
        have HTQ2 : Hid (TQ2.set a (TQ2.getD a [] ++ [(i : Int)]) = tadd TQ a (i : Int)) := by rw [hTQ2]; exact HTQ2.out
        clear hTQ2 HGP3 HGQ3 HRX3 HR03 HB3
        go_wp2_with fail
        clear gq3' gp2 fp2
        generalize w2.setCell ⟨bx, 0, none⟩ (.slice AP2 nP2 cP2) = wz at *
        clear hsz3
        obtain ⟨nQ2, hn2⟩ : ∃ nQ2, nQ2 = nQ := ⟨_, rfl⟩
        subst hn2
        obtain ⟨cQ2, hc2⟩ : ∃ cQ2, cQ2 = cQ := ⟨_, rfl⟩
        subst hc2
        have halt : a < TQ2.length := by rw [← HNQ2.out]; exact hal2
        obtain ⟨gq, cq, u, e1, hcell, hfrz, hu⟩ := HGQz.out.at halt
        injection e1 with e1 e2 e3
        subst e1
        subst e3
        clear e2
        obtain ⟨row, hrow⟩ : ∃ row, row = TQ2.getD a [] := ⟨_, rfl⟩
        rw [← hrow] at hu HTQ2
        obtain ⟨Au, cu, rfl, hIu, hcu⟩ := hu.ints
        have hrl : row.length ≤ 1000 := by rw [hrow]; exact HQ2R.out a
        obtain ⟨m, hm⟩ : ∃ m, m = row.length := ⟨_, rfl⟩
        rw [← hm] at hcell hu
        have gx1 : wz.cell? ⟨bx, 1, none⟩ = some (.slice (some ⟨gq, 0, none⟩) nQ2 cQ2) := by have := HRXz.out.cell (i := 1) (by omega); exact this
        have fx1 := HRXz.out.frozen 1
        have hbz : bx < wz.heap.size := HRXz.out.lt
        have hgq := HGQz.out.outer_lt
        have hgb : bx ≠ gq := by have := HGQz.out.outer_ge; omega
        have hgb2 : gq ≠ bx := fun e => hgb e.symm
        have HRP := hid (fun w' u1 (ys : List Int) (hb1 : wz.drew.grownBy w' (Value.slice Au m cu).ownBlock) (ho1 : OwnInts w' (bx + 1) u1 ys) hb2 => (HGQz.out.drewN 1).replace halt hcell hb1 ho1 hb2 (show bx + 1 ≤ wz.heap.size by omega))
        have HOK := hid (fun w' (hb1 : wz.drew.grownBy w' (Value.slice Au m cu).ownBlock) => (HGQz.out.drewN 1).outer_kept halt hcell hb1)
        have HU : Hid (OwnInts wz.drew (bx + 1) (.slice Au m cu) row) := hu
        have HBU : Hid (∀ k, (Value.slice Au m cu).ownBlock = some k → bx + 1 ≤ k) := fun k hk => (World.ownsRow.lt hu k hk).1
        have HM := hid hm
        have HFZ := hid hfrz
        have HCE := hid hcell
        have HGX := hid gx1
        clear hu hIu hcu hm hrow
        go_wp2_with fail
        refine wp_region_held_drew (S := fun w' => w'.cell? ⟨bx, 1, none⟩ = some (.slice (some ⟨gq, 0, none⟩) nQ2 cQ2)) (by kernel_rfl) HGX.out (fun hHeld => ?_)
        refine wpAnyH_take (i := 0) (oi := { dst := some 40, op := Op.fieldAddr 49 (Operand.tmp 5) 1, type := 0, pos := "tableau.go:43", after := #[], guard := none }) (v := ?v19) rfl (by kernel_rfl) (by kernel_rfl) (by kernel_rfl) (fun _ _ _ h => h) (Or.inl ⟨by rfl, ?hy19⟩) (by assumption) ?rest19
        case hy19 => (intro w9 hSw; (try dsimp only at hSw); go_simp; try with_reducible rfl)
        try simp only [Act.put, List.setIfInBounds_toArray, List.set_cons_zero, List.set_cons_succ]
        refine wpAnyH_take (i := 2) (oi := { dst := some 42, op := Op.move (Operand.tmp 8), type := 3, pos := "tableau.go:43", after := #[], guard := none }) (v := ?v20) rfl (by kernel_rfl) (by kernel_rfl) (by kernel_rfl) (fun _ _ _ h => h) (Or.inl ⟨by rfl, ?hy20⟩) (by assumption) ?rest20
        case hy20 => (intro w9 hSw; (try dsimp only at hSw); go_simp; try with_reducible rfl)
        try simp only [Act.put, List.setIfInBounds_toArray, List.set_cons_zero, List.set_cons_succ]
        refine wpAnyH_take (i := 3) (oi := { dst := some 43, op := Op.fieldAddr 49 (Operand.tmp 5) 1, type := 0, pos := "tableau.go:43", after := #[], guard := none }) (v := ?v21) rfl (by kernel_rfl) (by kernel_rfl) (by kernel_rfl) (fun _ _ _ h => h) (Or.inl ⟨by rfl, ?hy21⟩) (by assumption) ?rest21
        case hy21 => (intro w9 hSw; (try dsimp only at hSw); go_simp; try with_reducible rfl)
        try simp only [Act.put, List.setIfInBounds_toArray, List.set_cons_zero, List.set_cons_succ]
        refine wpAnyH_take (i := 5) (oi := { dst := some 45, op := Op.move (Operand.tmp 8), type := 3, pos := "tableau.go:43", after := #[], guard := none }) (v := ?v22) rfl (by kernel_rfl) (by kernel_rfl) (by kernel_rfl) (fun _ _ _ h => h) (Or.inl ⟨by rfl, ?hy22⟩) (by assumption) ?rest22
        case hy22 => (intro w9 hSw; (try dsimp only at hSw); go_simp; try with_reducible rfl)
        try simp only [Act.put, List.setIfInBounds_toArray, List.set_cons_zero, List.set_cons_succ]
        refine wpAnyH_take (i := 8) (oi := { dst := some 48, op := Op.move (Operand.tmp 6), type := 3, pos := "tableau.go:43", after := #[], guard := none }) (v := ?v23) rfl (by kernel_rfl) (by kernel_rfl) (by kernel_rfl) (fun _ _ _ h => h) (Or.inl ⟨by rfl, ?hy23⟩) (by assumption) ?rest23
        case hy23 => (intro w9 hSw; (try dsimp only at hSw); go_simp; try with_reducible rfl)
        try simp only [Act.put, List.setIfInBounds_toArray, List.set_cons_zero, List.set_cons_succ]
        refine wpAnyH_take (i := 1) (oi := { dst := some 41, op := Op.load 47 (Operand.tmp 40), type := 47, pos := "tableau.go:43", after := #[{ on := 0, ground := Ground.data }], guard := none }) (v := ?v24) rfl (by kernel_rfl) (by kernel_rfl) (by kernel_rfl) (fun _ _ _ h => h) (Or.inl ⟨by rfl, ?hy24⟩) (by assumption) ?rest24
        case hy24 => (intro w9 hSw; (try dsimp only at hSw); go_simp; try with_reducible rfl)
        try simp only [Act.put, List.setIfInBounds_toArray, List.set_cons_zero, List.set_cons_succ]
        refine wpAnyH_take (i := 4) (oi := { dst := some 44, op := Op.load 47 (Operand.tmp 43), type := 47, pos := "tableau.go:43", after := #[{ on := 3, ground := Ground.data }], guard := none }) (v := ?v25) rfl (by kernel_rfl) (by kernel_rfl) (by kernel_rfl) (fun _ _ _ h => h) (Or.inl ⟨by rfl, ?hy25⟩) (by assumption) ?rest25
        case hy25 => (intro w9 hSw; (try dsimp only at hSw); go_simp; try with_reducible rfl)
        try simp only [Act.put, List.setIfInBounds_toArray, List.set_cons_zero, List.set_cons_succ]
        refine wpAnyH_take (i := 6) (oi := { dst := some 46, op := Op.indexAddr 47 (Operand.tmp 44) (Operand.tmp 45), type := 0, pos := "tableau.go:43", after := #[{ on := 4, ground := Ground.data }, { on := 5, ground := Ground.data }], guard := none }) (v := ?v26) rfl (by kernel_rfl) (by kernel_rfl) (by kernel_rfl) (fun _ _ _ h => h) (Or.inl ⟨by rfl, ?hy26⟩) (by assumption) ?rest26
        case hy26 => (intro w9 hSw; (try dsimp only at hSw); go_simp; try with_reducible rfl)
        try simp only [Act.put, List.setIfInBounds_toArray, List.set_cons_zero, List.set_cons_succ]
        refine wpAnyH_ready (rs := [7, 9]) (by kernel_rfl) (by simp) ?_
        refine AllReadyH.cons (o := { dst := some 47, op := Op.load 22 (Operand.tmp 46), type := 22, pos := "tableau.go:43", after := #[{ on := 6, ground := Ground.data }], guard := none }) rfl (fun K hK => ?_) (AllReadyH.cons (o := { dst := some 49, op := Op.buildSlice 22 1 #[(0, Operand.tmp 48)], type := 22, pos := "tableau.go:43", after := #[{ on := 8, ground := Ground.data }], guard := none }) rfl (fun K hK => ?_) AllReadyH.nil)
        · go_simp
          refine hK.out _ _ ?hS27 (fun hHeld => ?rest27)
          case hS27 => (try dsimp only); (first | exact HGX.out | exact q3 | go_keep)
          clear hK K
          try simp only [Act.put, List.setIfInBounds_toArray, List.set_cons_zero, List.set_cons_succ]
          refine wpAnyH_ready (rs := [9]) (by kernel_rfl) (by simp) ?_
          refine AllReadyH.cons (o := { dst := some 49, op := Op.buildSlice 22 1 #[(0, Operand.tmp 48)], type := 22, pos := "tableau.go:43", after := #[{ on := 8, ground := Ground.data }], guard := none }) rfl (fun K hK => ?_) AllReadyH.nil
          go_simp
          refine hK.out _ _ ?hS28 (fun hHeld => ?rest28)
          case hS28 => (try dsimp only); (first | exact HGX.out | exact q3 | go_keep)
          clear hK K
          try simp only [Act.put, List.setIfInBounds_toArray, List.set_cons_zero, List.set_cons_succ]
          refine wpAnyH_ready (rs := [10]) (by kernel_rfl) (by simp) ?_
          refine AllReadyH.cons (o := { dst := some 50, op := Op.call { callee := Callee.builtin Builtin.append, args := #[Operand.tmp 47, Operand.tmp 49], argTypes := #[22, 22] }, type := 22, pos := "tableau.go:43", after := #[{ on := 7, ground := Ground.data }, { on := 9, ground := Ground.data }], guard := none }) rfl (fun K hK => ?_) AllReadyH.nil
          refine step_app1At wz.drew rfl (.tmp 47) (.tmp 49) rfl (bx + 1) _ row (i : Int) rfl rfl HU.out (by omega) (show bx + 1 ≤ wz.heap.size by omega) ?_; intro A6 n6 c6 w6 ho6 hb6 hl6; have q1 : w6.cell? ⟨gq, a, none⟩ = some (.slice Au m cu) := (World.cell?_of_block (a := ⟨gq, a, none⟩) (HOK.out w6 hb6)).trans HCE.out; have q2 : w6.frozen? ⟨gq, a, none⟩ = false := (World.frozen?_of_block (a := ⟨gq, a, none⟩) (HOK.out w6 hb6)).trans HFZ.out; have q3 : w6.cell? ⟨bx, 1, none⟩ = some (.slice (some ⟨gq, 0, none⟩) nQ2 cQ2) := (World.cell?_of_block (a := ⟨bx, 1, none⟩) (hb6.block bx hbz (fun e => by have := HBU.out bx e.symm; omega))).trans HGX.out; have HR6 := hid (HRP.out w6 (.slice A6 n6 c6) (row ++ [(i : Int)]) hb6 ho6 hl6); have hsz6 := hb6.size; clear ho6 hb6 hl6
          refine hK.out _ _ ?hS29 (fun hHeld => ?rest29)
          case hS29 => (try dsimp only); (first | exact HGX.out | exact q3 | go_keep)
          clear hK K
          try simp only [Act.put, List.setIfInBounds_toArray, List.set_cons_zero, List.set_cons_succ]
          refine wpAnyH_take (i := 11) (oi := { dst := some 51, op := Op.indexAddr 47 (Operand.tmp 41) (Operand.tmp 42), type := 0, pos := "tableau.go:43", after := #[{ on := 1, ground := Ground.data }, { on := 2, ground := Ground.data }, { on := 0, ground := Ground.phase }, { on := 1, ground := Ground.phase }, { on := 2, ground := Ground.phase }, { on := 3, ground := Ground.phase }, { on := 4, ground := Ground.phase }, { on := 5, ground := Ground.phase }, { on := 6, ground := Ground.phase }, { on := 7, ground := Ground.phase }, { on := 8, ground := Ground.phase }, { on := 9, ground := Ground.phase }, { on := 10, ground := Ground.phase }], guard := none }) (v := ?v30) rfl (by kernel_rfl) (by kernel_rfl) (by kernel_rfl) (fun _ _ _ h => h) (Or.inl ⟨by rfl, ?hy30⟩) (by assumption) ?rest30
          case hy30 => (intro w9 hSw; (try dsimp only at hSw); go_simp; try with_reducible rfl)
          try simp only [Act.put, List.setIfInBounds_toArray, List.set_cons_zero, List.set_cons_succ]
          refine wpAnyH_ready (rs := [12]) (by kernel_rfl) (by simp) ?_
          refine AllReadyH.cons (o := { dst := none, op := Op.store 22 (Operand.tmp 51) (Operand.tmp 50), type := 0, pos := "tableau.go:43", after := #[{ on := 11, ground := Ground.data }, { on := 10, ground := Ground.data }, { on := 10, ground := Ground.chain }, { on := 0, ground := Ground.phase }, { on := 1, ground := Ground.phase }, { on := 2, ground := Ground.phase }, { on := 3, ground := Ground.phase }, { on := 4, ground := Ground.phase }, { on := 5, ground := Ground.phase }, { on := 6, ground := Ground.phase }, { on := 7, ground := Ground.phase }, { on := 8, ground := Ground.phase }, { on := 9, ground := Ground.phase }, { on := 10, ground := Ground.phase }], guard := none }) rfl (fun K hK => ?_) AllReadyH.nil
          go_simp
          refine hK.out _ _ ?hS31 (fun hHeld => ?rest31)
          case hS31 => (try dsimp only); (first | exact HGX.out | exact q3 | go_keep)
          clear hK K
          try simp only [Act.put, List.setIfInBounds_toArray, List.set_cons_zero, List.set_cons_succ]
          refine wpAnyH_done (by kernel_rfl) ?_ _
          go_wp2
          go_roundg (n - (i + 1))
          case measure => omega
          case rel =>
            obtain ⟨hG7, hO7⟩ := HR6.out
            have hwz : (wz.drewN 1).heap.size = wz.heap.size := rfl
            have hBQ := HGQz.out.bound
            have k1 := (HGPz.out.drewN 1).only hO7 HDISz.out
            rw [← HPS.out] at k1
            have k2 := hG7
            rw [HTQ2.out, ← HQS.out] at k2
            have k4 := HRXz.out.of_block (hO7.block bx hbz (fun e => by have := hBQ bx e; omega))
            have k5 := HR0z.out.of_block (hO7.block w.heap.size (by rw [hwz]; omega) (fun e => by have := hBQ _ e; omega))
            have k6 := (below_drewN HBz.out 1).trans (hO7.below (B := w.heap.size) (show w.heap.size ≤ wz.heap.size by omega) (fun k hk => by have := hBQ k hk; omega))
            have k3 := HDISz.out
            exact ⟨i + 1, _, _, _, _, by omega, by omega, by go_num, k1, k2, (fun k h1 h2 => by
              rcases h2 with h2 | h2
              · exact k3 k h1 h2
              · have h3 := (HGPz.out.bound k h1).2
                rw [hwz] at h2
                omega), k4, k5, k6, hwb⟩
        · go_simp
          refine hK.out _ _ ?hS32 (fun hHeld => ?rest32)
          case hS32 => (try dsimp only); (first | exact HGX.out | exact q3 | go_keep)
          clear hK K
          try simp only [Act.put, List.setIfInBounds_toArray, List.set_cons_zero, List.set_cons_succ]
          refine wpAnyH_ready (rs := [7]) (by kernel_rfl) (by simp) ?_
          refine AllReadyH.cons (o := { dst := some 47, op := Op.load 22 (Operand.tmp 46), type := 22, pos := "tableau.go:43", after := #[{ on := 6, ground := Ground.data }], guard := none }) rfl (fun K hK => ?_) AllReadyH.nil
          go_simp
          refine hK.out _ _ ?hS33 (fun hHeld => ?rest33)
          case hS33 => (try dsimp only); (first | exact HGX.out | exact q3 | go_keep)
          clear hK K
          try simp only [Act.put, List.setIfInBounds_toArray, List.set_cons_zero, List.set_cons_succ]
          refine wpAnyH_ready (rs := [10]) (by kernel_rfl) (by simp) ?_
          refine AllReadyH.cons (o := { dst := some 50, op := Op.call { callee := Callee.builtin Builtin.append, args := #[Operand.tmp 47, Operand.tmp 49], argTypes := #[22, 22] }, type := 22, pos := "tableau.go:43", after := #[{ on := 7, ground := Ground.data }, { on := 9, ground := Ground.data }], guard := none }) rfl (fun K hK => ?_) AllReadyH.nil
          refine step_app1At wz.drew rfl (.tmp 47) (.tmp 49) rfl (bx + 1) _ row (i : Int) rfl rfl HU.out (by omega) (show bx + 1 ≤ wz.heap.size by omega) ?_; intro A6 n6 c6 w6 ho6 hb6 hl6; have q1 : w6.cell? ⟨gq, a, none⟩ = some (.slice Au m cu) := (World.cell?_of_block (a := ⟨gq, a, none⟩) (HOK.out w6 hb6)).trans HCE.out; have q2 : w6.frozen? ⟨gq, a, none⟩ = false := (World.frozen?_of_block (a := ⟨gq, a, none⟩) (HOK.out w6 hb6)).trans HFZ.out; have q3 : w6.cell? ⟨bx, 1, none⟩ = some (.slice (some ⟨gq, 0, none⟩) nQ2 cQ2) := (World.cell?_of_block (a := ⟨bx, 1, none⟩) (hb6.block bx hbz (fun e => by have := HBU.out bx e.symm; omega))).trans HGX.out; have HR6 := hid (HRP.out w6 (.slice A6 n6 c6) (row ++ [(i : Int)]) hb6 ho6 hl6); have hsz6 := hb6.size; clear ho6 hb6 hl6
          refine hK.out _ _ ?hS34 (fun hHeld => ?rest34)
          case hS34 => (try dsimp only); (first | exact HGX.out | exact q3 | go_keep)
          clear hK K
          try simp only [Act.put, List.setIfInBounds_toArray, List.set_cons_zero, List.set_cons_succ]
          refine wpAnyH_take (i := 11) (oi := { dst := some 51, op := Op.indexAddr 47 (Operand.tmp 41) (Operand.tmp 42), type := 0, pos := "tableau.go:43", after := #[{ on := 1, ground := Ground.data }, { on := 2, ground := Ground.data }, { on := 0, ground := Ground.phase }, { on := 1, ground := Ground.phase }, { on := 2, ground := Ground.phase }, { on := 3, ground := Ground.phase }, { on := 4, ground := Ground.phase }, { on := 5, ground := Ground.phase }, { on := 6, ground := Ground.phase }, { on := 7, ground := Ground.phase }, { on := 8, ground := Ground.phase }, { on := 9, ground := Ground.phase }, { on := 10, ground := Ground.phase }], guard := none }) (v := ?v35) rfl (by kernel_rfl) (by kernel_rfl) (by kernel_rfl) (fun _ _ _ h => h) (Or.inl ⟨by rfl, ?hy35⟩) (by assumption) ?rest35
          case hy35 => (intro w9 hSw; (try dsimp only at hSw); go_simp; try with_reducible rfl)
          try simp only [Act.put, List.setIfInBounds_toArray, List.set_cons_zero, List.set_cons_succ]
          refine wpAnyH_ready (rs := [12]) (by kernel_rfl) (by simp) ?_
          refine AllReadyH.cons (o := { dst := none, op := Op.store 22 (Operand.tmp 51) (Operand.tmp 50), type := 0, pos := "tableau.go:43", after := #[{ on := 11, ground := Ground.data }, { on := 10, ground := Ground.data }, { on := 10, ground := Ground.chain }, { on := 0, ground := Ground.phase }, { on := 1, ground := Ground.phase }, { on := 2, ground := Ground.phase }, { on := 3, ground := Ground.phase }, { on := 4, ground := Ground.phase }, { on := 5, ground := Ground.phase }, { on := 6, ground := Ground.phase }, { on := 7, ground := Ground.phase }, { on := 8, ground := Ground.phase }, { on := 9, ground := Ground.phase }, { on := 10, ground := Ground.phase }], guard := none }) rfl (fun K hK => ?_) AllReadyH.nil
          go_simp
          refine hK.out _ _ ?hS36 (fun hHeld => ?rest36)
          case hS36 => (try dsimp only); (first | exact HGX.out | exact q3 | go_keep)
          clear hK K
          try simp only [Act.put, List.setIfInBounds_toArray, List.set_cons_zero, List.set_cons_succ]
          refine wpAnyH_done (by kernel_rfl) ?_ _
          go_wp2
          go_roundg (n - (i + 1))
          case measure => omega
          case rel =>
            obtain ⟨hG7, hO7⟩ := HR6.out
            have hwz : (wz.drewN 1).heap.size = wz.heap.size := rfl
            have hBQ := HGQz.out.bound
            have k1 := (HGPz.out.drewN 1).only hO7 HDISz.out
            rw [← HPS.out] at k1
            have k2 := hG7
            rw [HTQ2.out, ← HQS.out] at k2
            have k4 := HRXz.out.of_block (hO7.block bx hbz (fun e => by have := hBQ bx e; omega))
            have k5 := HR0z.out.of_block (hO7.block w.heap.size (by rw [hwz]; omega) (fun e => by have := hBQ _ e; omega))
            have k6 := (below_drewN HBz.out 1).trans (hO7.below (B := w.heap.size) (show w.heap.size ≤ wz.heap.size by omega) (fun k hk => by have := hBQ k hk; omega))
            have k3 := HDISz.out
            exact ⟨i + 1, _, _, _, _, by omega, by omega, by go_num, k1, k2, (fun k h1 h2 => by
              rcases h2 with h2 | h2
              · exact k3 k h1 h2
              · have h3 := (HGPz.out.bound k h1).2
                rw [hwz] at h2
                omega), k4, k5, k6, hwb⟩
    · have hin : i = n := by omega
      subst hin
      have HT : Hid (xs.take i = xs) := List.take_of_length_le (by rw [HL.out]; exact Nat.le_refl _)
      obtain ⟨hGP, hGQ, _, hrx, hr0, hbel, _⟩ := HOF.out
      rw [HT.out] at hGP hGQ
      obtain ⟨AP, cP, rfl, hcapP⟩ := hGP.form
      obtain ⟨AQ, cQ, rfl, hcapQ⟩ := hGQ.form
      have gp := hrx.cell (i := 0) (by omega)
      have gq : wr.cell? ⟨bx, 1, none⟩ = some (.slice AQ (QT xs).length cQ) := by have := hrx.cell (i := 1) (by omega); exact this
      simp only [if_pos] at gp
      have g0 := hr0.cell (i := 0) (by omega)
      have g1 := hr0.cell (i := 1) (by omega)
      simp only [ite_self] at g0 g1
      have f0 := hr0.frozen 0
      have f1 := hr0.frozen 1
      have hwl : w.heap.size < wr.heap.size := hr0.lt
      have HBF : Hid (Below w.heap.size w ((wr.setCell ⟨w.heap.size, 0, none⟩ (.slice AP (PT xs).length cP)).setCell ⟨w.heap.size, 1, none⟩ (.slice AQ (QT xs).length cQ))) := (hbel.setCell (Nat.le_refl _) _).setCell (Nat.le_refl _) _
      have hO5 : Only (fun k => k = w.heap.size) wr ((wr.setCell ⟨w.heap.size, 0, none⟩ (.slice AP (PT xs).length cP)).setCell ⟨w.heap.size, 1, none⟩ (.slice AQ (QT xs).length cQ)) := (only_cell (fun k => k = w.heap.size) _ _ _ _ rfl).trans (only_cell (fun k => k = w.heap.size) _ _ _ _ rfl)
      have HG1 := hid (hGP.only hO5 (fun k h1 h2 => by have := hGP.bound k h1; omega)).rrows
      have HG2 := hid (hGQ.only hO5 (fun k h1 h2 => by have := hGQ.bound k h1; omega)).rrows
      have HS1 := hid (hGP.only hO5 (fun k h1 h2 => by have := hGP.bound k h1; omega)).brows
      have HS2 := hid (hGQ.only hO5 (fun k h1 h2 => by have := hGQ.bound k h1; omega)).brows
      have HC1 := hid hcapP
      have HC2 := hid hcapQ
      clear hGP hGQ hrx hr0 hbel hO5 hcapP hcapQ HOF
      generalize PT xs = TP at *
      generalize QT xs = TQ at *
      generalize TP.length = nP at *
      generalize TQ.length = nQ at *
      go_wp2
      (try simp only [Exit.inBlock, Exit.then])
      refine bodyPost_ret (v := .tuple #[.agg #[.slice AP nP cP, .slice AQ nQ cQ], .int .i64 0]) ?_ rfl ⟨AP, nP, cP, AQ, nQ, cQ, rfl, HG1.out, HG2.out, HS1.out.mono (by omega), HS2.out.mono (by omega), HC1.out, HC2.out, HBF.out⟩
      rw [results_cell_tmp rfl]
      go_simp

theorem tabOf_ok (A : Option Addr) (n c : Nat) (xs : List Int) (w : World) (h : Ints w A n xs) (he : permErr xs = 0) :
    Calls Try.prog 32 #[.slice A n c] w (RetPair w (PT xs) (QT xs)) :=
  (tabOf_own A n c xs w h he).mono fun _ _ ⟨B, m, d, B', m', d', h1, h2, h3, _, _, h4, h5, h6⟩ => ⟨B, m, d, B', m', d', h1, h2, h3, h4, h5, h6⟩

end Go.Proofs.Ytmdpfadfimodjaa

/-
  castkeep.tableaux; a pair of tableaux in a variable.
-/
namespace Go.Proofs.Ytmdpfadfimodjaa
open Go.RowKit

/-- Block b holds two tableaux. -/
structure PairAt (w : World) (b : Nat) (A : Option Addr) (n c : Nat) (A' : Option Addr) (n' c' : Nat) (P Q : List (List Int)) : Prop where
  p0 : w.cell? ⟨b, 0, none⟩ = some (.slice A n c)
  p1 : w.cell? ⟨b, 1, none⟩ = some (.slice A' n' c')
  lt : b < w.heap.size
  rp : RRows w A n P
  rq : RRows w A' n' Q
theorem PairAt.keep {w w' : World} {b : Nat} {A : Option Addr} {n c : Nat} {A' : Option Addr} {n' c' : Nat} {P Q : List (List Int)} (h : PairAt w b A n c A' n' c' P Q) (hb : Below w.heap.size w w') : PairAt w' b A n c A' n' c' P Q :=
  ⟨(hb.cell (p := ⟨b, 0, none⟩) h.lt).trans h.p0, (hb.cell (p := ⟨b, 1, none⟩) h.lt).trans h.p1, Nat.lt_of_lt_of_le h.lt hb.size, h.rp.keep hb, h.rq.keep hb⟩
theorem PairAt.new {w : World} {A : Option Addr} {n c : Nat} {A' : Option Addr} {n' c' : Nat} {P Q : List (List Int)} (h1 : RRows w A n P) (h2 : RRows w A' n' Q) : PairAt (w.alloc (.cells #[.slice A n c, .slice A' n' c'] 49)) w.heap.size A n c A' n' c' P Q := by
  have hr := pair_row0 (w := w) (b := 49) (x := .slice A n c) (y := .slice A' n' c')
  refine ⟨?_, ?_, hr.lt, h1.keep (below_alloc _ _), h2.keep (below_alloc _ _)⟩
  · exact (hr.cell (i := 0) (by omega)).trans rfl
  · exact (hr.cell (i := 1) (by omega)).trans rfl

theorem liveE : permErr [1, 2, 0] = 0 := by decide +kernel
theorem liveP : PT [1, 2, 0] = [[0, 2], [1]] := by decide
theorem liveQ : QT [1, 2, 0] = [[0, 1], [2]] := by decide

end Go.Proofs.Ytmdpfadfimodjaa

/-
  tableau.Back (P39).
-/
namespace Go.Proofs.Ytmdpfadfimodjaa
open Go.RowKit

/-- What Back knows with n numbers to go. -/
structure BInv (n : Nat) (P Q : List (List Int)) (G : List Nat) : Prop where
  tP : TabL P
  dP : P.flatten.Nodup
  tQ : TabL Q
  hl : ∀ i, tlen P i = tlen Q i
  hle : P.length = Q.length
  dQ : Q.flatten.Nodup
  hm : ∀ y, y ∈ Q.flatten ↔ 0 ≤ y ∧ y < (n : Int)
  hG : G.length = n
  hr : ∀ i y, y ∈ Q.getD i [] → G.getD y.toNat 0 = i

theorem tab_len_le {T : List (List Int)} (h : TabL T) : ∀ d i, (T.getD (i + d) []).length ≤ (T.getD i []).length
  | 0, _ => Nat.le_refl _
  | d + 1, i => Nat.le_trans (tab_at (i := i + d) h).2.1 (tab_len_le h d i)

theorem BInv.step {n : Nat} {P Q : List (List Int)} {G : List Nat} (H : BInv (n + 1) P Q G) : G.getD n 0 < P.length ∧ (∀ j, j ≤ G.getD n 0 → (P.getD j []).length ≠ 0) ∧ (trem P (G.getD n 0)).1.length = P.length ∧ (∀ i, tlen (trem P (G.getD n 0)).1 i ≤ tlen P i) ∧ ∃ a, BInv n (trem P (G.getD n 0)).1 (Q.set (G.getD n 0) a) (G.take n) := by
  obtain ⟨tP, dP, tQ, hl, hle, dQ, hm, hG, hr⟩ := H
  obtain ⟨g, hg, hgm⟩ := tmem_flat ((hm (n : Int)).2 (by omega))
  have hGg := hr g _ hgm
  rw [Int.toNat_natCast] at hGg
  obtain ⟨G', hG'⟩ : ∃ G', G = G' ++ [g] := by
    rcases List.eq_nil_or_concat G with h | ⟨G', z, h⟩
    · subst h; simp at hG
    · rw [List.concat_eq_append] at h
      subst h
      rw [List.length_append, List.length_singleton] at hG
      have e : G'.length = n := by omega
      rw [List.getD_eq_getElem?_getD, List.getElem?_append_right (by omega), e, Nat.sub_self] at hGg
      simp at hGg
      exact ⟨G', by rw [hGg]⟩
  subst hG'
  have hGl : G'.length = n := by rw [List.length_append, List.length_singleton] at hG; omega
  -- the greatest is the last of its row
  obtain ⟨sg, fg⟩ := tab_at (T := Q) (i := g) tQ
  obtain ⟨a, b, hab⟩ := List.append_of_mem hgm
  have hb : b = [] := by
    rcases b with _ | ⟨z, b⟩
    · rfl
    · exfalso
      rw [hab] at sg
      unfold Srt at sg
      rw [List.pairwise_append, List.pairwise_cons] at sg
      have h1 := sg.2.1.1 z (by simp)
      have h2 := (hm z).1 (flat_mem (i := g) (by rw [hab]; simp))
      omega
  subst hb
  have hcut : (Q.getD (g + 1) []).length ≤ a.length := by
    have h1 := fg.1
    rw [hab, List.length_append, List.length_singleton] at h1
    rcases Nat.lt_or_ge a.length (Q.getD (g + 1) []).length with h2 | h2
    · exfalso
      have h3 := fg.2 a.length h2
      rw [hab, getD_mid0] at h3
      have h4 := (hm _).1 (flat_mem (i := g + 1) (getD_mem0 h2))
      omega
    · exact h2
  have hgP : g < P.length := by rw [hle]; exact hg
  have hcP : (P.getD (g + 1) []).length < (P.getD g []).length := by
    have h1 := hl (g + 1)
    have h2 := hl g
    unfold tlen at h1 h2
    rw [h1, h2, hab, List.length_append, List.length_singleton]
    omega
  have O := trem_out P g tP dP hgP hcP
  have tQ' := cut_tab Q g a n tQ hg hab hcut
  have fQ := flat_set hg hab
  have dQ2 := fQ.nodup_iff.1 dQ
  rw [List.nodup_cons] at dQ2
  have dP2 := O.flat.nodup_iff.1 dP
  rw [List.nodup_cons] at dP2
  have hgetQ : ∀ i, (Q.set g a).getD i [] = if i = g then a else Q.getD i [] := by
    intro i
    simp only [List.getD_eq_getElem?_getD, List.getElem?_set]
    by_cases h : g = i
    · subst h
      simp [hg]
    · have h' : ¬ i = g := fun e => h e.symm
      simp [h, h']
  have hgd : (G' ++ [g]).getD n 0 = g := hGg
  have htk : (G' ++ [g]).take n = G' := by rw [← hGl, List.take_left]
  rw [hgd, htk]
  refine ⟨hgP, fun j hj e => ?_, O.len, fun i => by have := O.lens i; omega, a, O.tab, dP2.2, tQ', ?_, ?_, dQ2.2, ?_, hGl, ?_⟩
  · have h1 := tab_len_le tP (g - j) j
    rw [show j + (g - j) = g by omega] at h1
    omega
  · exact (fun i => by
        have h1 := O.lens i
        have h2 := hl i
        rw [tlen_set hg]
        by_cases e : i = g
        · subst e
          have h3 : tlen Q i = a.length + 1 := by unfold tlen; rw [hab]; simp
          rw [if_pos rfl] at h1 ⊢
          omega
        · rw [if_neg e] at h1 ⊢
          omega)
  · rw [O.len, List.length_set]; exact hle
  · exact (fun y => by
        have h1 := hm y
        have h2 := fQ.mem_iff (a := y)
        rw [List.mem_cons] at h2
        constructor
        · intro h3
          have h4 := h1.1 (h2.2 (.inr h3))
          have h5 : y ≠ (n : Int) := fun e => dQ2.1 (e ▸ h3)
          omega
        · intro h3
          rcases h2.1 (h1.2 (by omega)) with h4 | h4
          · omega
          · exact h4)
  · exact (fun i y hy => by
        have hyQ : y ∈ Q.getD i [] := by
          rw [hgetQ i] at hy
          by_cases e : i = g
          · subst e
            rw [if_pos rfl] at hy
            rw [hab]
            exact List.mem_append_left _ hy
          · rwa [if_neg e] at hy
        have h1 := hr i y hyQ
        have h2 := (hm y).1 (flat_mem hyQ)
        have h3 : y ≠ (n : Int) := by
          rintro rfl
          exact dQ2.1 (flat_mem hy)
        rw [List.getD_eq_getElem?_getD, List.getElem?_append_left (by omega), ← List.getD_eq_getElem?_getD] at h1
        exact h1)


theorem sameBy_lens : ∀ (P Q : List (List Int)), sameBy sameLenB P Q = decide (P.map List.length = Q.map List.length)
  | [], [] => rfl
  | [], _ :: _ => rfl
  | _ :: _, [] => rfl
  | a :: P, b :: Q => by
    rw [sameBy, sameBy_lens P Q]
    unfold sameLenB
    by_cases h1 : a.length = b.length
    · by_cases h2 : P.map List.length = Q.map List.length
      · simp [h1, h2]
      · simp [h1, h2]
    · simp [h1]
/-- P39: what goes wrong. -/
def backE (P Q : List (List Int)) : Int := if tabErr P ≠ 0 then tabErr P else if tabErr Q ≠ 0 then tabErr Q else if P.map List.length = Q.map List.length then 0 else 1

/-- State behind some rounds. -/
def trs : List (List Int) → List Nat → List (List Int)
  | P, [] => P
  | P, g :: gs => trs (trem P g).1 gs
theorem tbk_app : ∀ (P : List (List Int)) (gs hs : List Nat), tbk P (gs ++ hs) = tbk P gs ++ tbk (trs P gs) hs
  | P, [], hs => rfl
  | P, g :: gs, hs => by
    rw [List.cons_append, tbk, tbk, trs, List.cons_append, tbk_app _ gs hs]
theorem trs_app : ∀ (P : List (List Int)) (gs : List Nat) (h : Nat), trs P (gs ++ [h]) = (trem (trs P gs) h).1
  | P, [], h => rfl
  | P, g :: gs, h => by
    rw [List.cons_append, trs, trs, trs_app _ gs h]
theorem tbk_length : ∀ (P : List (List Int)) (gs : List Nat), (tbk P gs).length = gs.length
  | P, [] => rfl
  | P, g :: gs => by rw [tbk, List.length_cons, List.length_cons, tbk_length]
/-- The rows with k numbers to go. -/
def rowsAt (P : List (List Int)) (G : List Nat) (k : Nat) : List (List Int) := trs P (G.drop k).reverse
theorem dropN_cons {G : List Nat} {j : Nat} (hj : j < G.length) : G.drop j = G.getD j 0 :: G.drop (j + 1) := by
  rw [List.drop_eq_getElem_cons hj, List.getD_eq_getElem?_getD, List.getElem?_eq_getElem hj]
  rfl
theorem rowsAt_step {P : List (List Int)} {G : List Nat} {j : Nat} (hj : j < G.length) : rowsAt P G j = (trem (rowsAt P G (j + 1)) (G.getD j 0)).1 := by
  unfold rowsAt
  rw [dropN_cons hj, List.reverse_cons, trs_app]
theorem backL_at {P : List (List Int)} {G : List Nat} {j : Nat} (hj : j < G.length) : (backL P G).getD j 0 = (trem (rowsAt P G (j + 1)) (G.getD j 0)).2 := by
  have e : G.reverse = (G.drop (j + 1)).reverse ++ (G.getD j 0 :: (G.take j).reverse) := by
    conv => lhs; rw [← List.take_append_drop j G, dropN_cons hj, List.reverse_append, List.reverse_cons]
    rw [List.append_assoc]
    rfl
  unfold backL
  rw [e, tbk_app, tbk, List.reverse_append, List.reverse_cons]
  have hl : (tbk (trem (trs P (G.drop (j + 1)).reverse) (G.getD j 0)).1 (G.take j).reverse).reverse.length = j := by
    rw [List.length_reverse, tbk_length, List.length_reverse, List.length_take]
    omega
  rw [List.append_assoc, List.singleton_append]
  conv => lhs; rw [← hl]
  rw [hl]
  have := getD_mid0 (tbk (trem (trs P (G.drop (j + 1)).reverse) (G.getD j 0)).1 (G.take j).reverse).reverse (trem (trs P (G.drop (j + 1)).reverse) (G.getD j 0)).2 (tbk P (G.drop (j + 1)).reverse).reverse
  rw [hl] at this
  exact this
theorem backL_length (P : List (List Int)) (G : List Nat) : (backL P G).length = G.length := by
  unfold backL
  rw [List.length_reverse, tbk_length, List.length_reverse]

/-- Rows just made, all nil. -/
theorem Grid.made (w : World) (n : Nat) (base : Nat) (hb : base ≤ w.heap.size) (hn : n ≤ 1000) : Grid (w.alloc (.cells (madeCells #[.slice none 0 0] n) 22)) base (fun k => k = w.heap.size) (.slice (some ⟨w.heap.size, 0, none⟩) n n) (List.replicate n []) := by
  have hcs : (madeCells #[Value.slice none 0 0] n).toList = List.replicate n (Value.slice none 0 0) := by
    apply List.ext_getElem
    · simp [madeCells]
    · intro i h1 h2
      simp [madeCells, Nat.mod_one]
  refine ⟨List.replicate n (.slice none 0 0), by simp, ?_, fun j hj => ?_, fun i j hi hj _ k hk => ?_, fun k hk => ?_, fun j hj k hk => ?_, fun k hk => ?_⟩
  · rw [List.length_replicate, ← hcs]
    exact World.ownsRow_lit w _ n hb (by unfold maxLen; omega) (by simp [madeCells])
  · rw [List.length_replicate] at hj
    have e1 : (List.replicate n (Value.slice none 0 0)).getD j (.slice none 0 0) = .slice none 0 0 := by simp [List.getD_eq_getElem?_getD, hj]
    have e2 : (List.replicate n ([] : List Int)).getD j [] = [] := by simp [List.getD_eq_getElem?_getD, hj]
    rw [e1, e2]
    exact OwnInts.nil _ _
  · rw [List.length_replicate] at hi
    have e1 : (List.replicate n (Value.slice none 0 0)).getD i (.slice none 0 0) = .slice none 0 0 := by simp [List.getD_eq_getElem?_getD, hi]
    rw [e1] at hk
    cases hk
  · simp only [Value.ownBlock, Option.some.injEq] at hk
    exact hk.symm
  · rw [List.length_replicate] at hj
    have e1 : (List.replicate n (Value.slice none 0 0)).getD j (.slice none 0 0) = .slice none 0 0 := by simp [List.getD_eq_getElem?_getD, hj]
    rw [e1] at hk
    cases hk
  · rw [hk]
    exact ⟨hb, by simp⟩
theorem infoRow2 : (Try.prog.info? 22).map (fun i => (i.zero, i.size, i.bytes)) = some (some (.slice none 0 0), 1, 24) := infoRow

theorem clone_step {P : List (List Int)} {i n : Nat} (hn : P.length = n) (hi : i < n) : (P.take i ++ List.replicate (n - i) []).set i (P.getD i []) = P.take (i + 1) ++ List.replicate (n - (i + 1)) [] := by
  rw [show n - i = (n - (i + 1)) + 1 by omega, List.replicate_succ, set_mid (P.take i) [] (P.getD i []) _ (by rw [List.length_take]; omega)]
  have e : P.take (i + 1) = P.take i ++ [P.getD i []] := by
    rw [List.take_succ_eq_append_getElem (by omega), List.getD_eq_getElem?_getD, List.getElem?_eq_getElem (by omega)]
    rfl
  rw [e, List.append_assoc]
  rfl

end Go.Proofs.Ytmdpfadfimodjaa

/-
  tableau.Back (P39), walked.
-/
namespace Go.Proofs.Ytmdpfadfimodjaa
open Go.RowKit

/-- A list comes back from Back. -/
def RetBackO (w : World) (P Q : List (List Int)) (e : Ending) (w' : World) : Prop := ∃ g G, RowsOf Q G ∧ e = .returned (.tuple #[.slice (some ⟨g, 0, none⟩) Q.flatten.length Q.flatten.length, .int .i64 0]) ∧ OwnInts w' w.heap.size (.slice (some ⟨g, 0, none⟩) Q.flatten.length Q.flatten.length) (backL P G) ∧ Below w.heap.size w w'
def RetBack (w : World) (P Q : List (List Int)) (e : Ending) (w' : World) : Prop := ∃ g G, RowsOf Q G ∧ e = .returned (.tuple #[.slice (some ⟨g, 0, none⟩) Q.flatten.length Q.flatten.length, .int .i64 0]) ∧ Ints w' (some ⟨g, 0, none⟩) Q.flatten.length (backL P G) ∧ Below w.heap.size w w'

set_option maxRecDepth 100000 in
set_option maxHeartbeats 2000000 in
theorem tback_bad (A : Option Addr) (n c : Nat) (A' : Option Addr) (n' c' : Nat) (P Q : List (List Int)) (w : World) (h1 : RRows w A n P) (h2 : RRows w A' n' Q) (hn : n ≤ 9223372036854775807) (hn' : n' ≤ 9223372036854775807) (hL : ∀ j, (P.getD j []).length ≤ 4611686018427387904) (hL' : ∀ j, (Q.getD j []).length ≤ 4611686018427387904) (he : backE P Q ≠ 0) :
    Calls Try.prog 33 #[.agg #[.slice A n c, .slice A' n' c']] w fun e w' => e = .returned (.tuple #[.slice none 0 0, .int .i64 (backE P Q)]) ∧ Below w.heap.size w w' := by
  have HX : Hid (PairAt (w.alloc (.cells #[.slice A n c, .slice A' n' c'] 49)) w.heap.size A n c A' n' c' P Q) := PairAt.new h1 h2
  have HB0 := hid (below_alloc w (.cells #[.slice A n c, .slice A' n' c'] 49))
  have HL := hid hL
  have HL' := hid hL'
  clear h1 h2 hL hL'
  by_cases e1 : tabErr P = 0
  · by_cases e2 : tabErr Q = 0
    · have e3 : ¬ P.map List.length = Q.map List.length := fun h => he (by unfold backE; rw [if_neg (fun q => q e1), if_neg (fun q => q e2), if_pos h])
      have hbe : backE P Q = 1 := by unfold backE; rw [if_neg (fun q => q e1), if_neg (fun q => q e2), if_neg e3]
      rw [hbe]
      have E1 := hid e1
      have E2 := hid e2
      have E3 : Hid (sameBy sameLenB P Q = false) := by rw [sameBy_lens]; exact decide_eq_false e3
      clear e1 e2 e3 hbe he
      go_enter Try.func33, Try.ntmps33
      go_wp2_with fail
      refine (tcheck_any A n c P _ HX.out.rp hn HL.out).mono ?_
      rintro e w1 ⟨rfl, hb⟩
      rw [E1.out]
      have HX1 := hid (HX.out.keep hb)
      have HB1 := hid (below_step HB0.out (Nat.le_refl _) hb)
      clear hb HX HB0
      have q0 := HX1.out.p0
      have q1 := HX1.out.p1
      go_wp2_with fail
      refine (tcheck_any A' n' c' Q _ HX1.out.rq hn' HL'.out).mono ?_
      rintro e w2 ⟨rfl, hb⟩
      rw [E2.out]
      have HX2 := hid (HX1.out.keep hb)
      have HB2 := hid (below_step HB1.out (Nat.le_refl _) hb)
      clear hb HX1 HB1 q0 q1
      have q0 := HX2.out.p0
      have q1 := HX2.out.p1
      go_wp2_with fail
      refine (equalFunc_len A n c A' n' c' P Q _ HX2.out.rp HX2.out.rq hn hn' (fun j => Nat.le_trans (HL.out j) (by omega)) (fun j => Nat.le_trans (HL'.out j) (by omega))).mono ?_
      rintro e w3 ⟨rfl, hb⟩
      rw [E3.out]
      have HB3 := hid (below_step HB2.out (Nat.le_refl _) hb)
      clear hb HX2 HB2 q0 q1
      go_wp2
      go_ret2
      exact ⟨rfl, HB3.out⟩
    · have hbe : backE P Q = tabErr Q := by unfold backE; rw [if_neg (fun q => q e1), if_pos e2]
      rw [hbe]
      obtain ⟨er, her⟩ : ∃ er, er = tabErr Q := ⟨_, rfl⟩
      have he' : (er != 0) = true := by rw [her]; simpa using e2
      have E1 := hid e1
      have ER := hid her
      rw [← her]
      clear e1 e2 hbe he her
      go_enter Try.func33, Try.ntmps33
      go_wp2_with fail
      refine (tcheck_any A n c P _ HX.out.rp hn HL.out).mono ?_
      rintro e w1 ⟨rfl, hb⟩
      rw [E1.out]
      have HX1 := hid (HX.out.keep hb)
      have HB1 := hid (below_step HB0.out (Nat.le_refl _) hb)
      clear hb HX HB0
      have q0 := HX1.out.p0
      have q1 := HX1.out.p1
      go_wp2_with fail
      refine (tcheck_any A' n' c' Q _ HX1.out.rq hn' HL'.out).mono ?_
      rintro e w2 ⟨rfl, hb⟩
      rw [← ER.out]
      have HB2 := hid (below_step HB1.out (Nat.le_refl _) hb)
      clear hb HX1 HB1 q0 q1
      go_wp2
      go_ret2
      exact ⟨rfl, HB2.out⟩
  · have hbe : backE P Q = tabErr P := by unfold backE; rw [if_pos e1]
    rw [hbe]
    obtain ⟨er, her⟩ : ∃ er, er = tabErr P := ⟨_, rfl⟩
    have he' : (er != 0) = true := by rw [her]; simpa using e1
    have ER := hid her
    rw [← her]
    clear e1 hbe he her
    go_enter Try.func33, Try.ntmps33
    go_wp2_with fail
    refine (tcheck_any A n c P _ HX.out.rp hn HL.out).mono ?_
    rintro e w1 ⟨rfl, hb⟩
    rw [← ER.out]
    have HB1 := hid (below_step HB0.out (Nat.le_refl _) hb)
    clear hb HX HB0
    go_wp2
    go_ret2
    exact ⟨rfl, HB1.out⟩

/-- The list as far as it is filled. -/
theorem backCell_step (p : List Int) (j jj : Nat) : (if jj = j then Value.int .i64 (p.getD j 0) else .int .i64 (if jj < j + 1 then 0 else p.getD jj 0)) = .int .i64 (if jj < j then 0 else p.getD jj 0) := by
  by_cases h : jj = j
  · subst h
    rw [if_pos rfl, if_neg (by omega)]
  · rw [if_neg h]
    by_cases h2 : jj < j
    · rw [if_pos h2, if_pos (by omega)]
    · rw [if_neg h2, if_neg (by omega)]
def backCell (p : List Int) (k j : Nat) : Int := if j < k then 0 else p.getD j 0

set_option maxRecDepth 100000 in
set_option maxHeartbeats 4000000 in
theorem tback_own (A : Option Addr) (n c : Nat) (A' : Option Addr) (n' c' : Nat) (P Q : List (List Int)) (w : World) (h1 : RRows w A n P) (h2 : RRows w A' n' Q) (hP : IsTab P) (hQ : IsTab Q) (hl : P.map List.length = Q.map List.length) :
    Calls Try.prog 33 #[.agg #[.slice A n c, .slice A' n' c']] w (RetBackO w P Q) := by
  have HX : Hid (PairAt (w.alloc (.cells #[.slice A n c, .slice A' n' c'] 49)) w.heap.size A n c A' n' c' P Q) := PairAt.new h1 h2
  have HB0 := hid (below_alloc w (.cells #[.slice A n c, .slice A' n' c'] 49))
  have hn : n ≤ 10 := by rw [← h1.len]; exact hP.len
  have hn' : n' ≤ 10 := by rw [← h2.len]; exact hQ.len
  have HLP := hid h1.len
  have HLQ := hid h2.len
  have HRP : Hid (∀ j, (P.getD j []).length ≤ 10) := fun j => Nat.le_trans (length_le_flat2 P j) hP.flat
  have HRQ : Hid (∀ j, (Q.getD j []).length ≤ 10) := fun j => Nat.le_trans (length_le_flat2 Q j) hQ.flat
  have HTP := hid hP
  have HTQ := hid hQ
  have HLL := hid hl
  have E3 : Hid (sameBy sameLenB P Q = true) := by rw [sameBy_lens]; exact decide_eq_true hl
  have hmk := fun W => run_make_row' (P := Try.prog) 47 22 (.slice none 0 0) 24 Try.underlying47 infoRow rfl .i64 .i64 n (by omega) (by omega) W
  obtain ⟨fl, hfl⟩ : ∃ fl, fl = Q.flatten.length := ⟨_, rfl⟩
  have hf10 : fl ≤ 10 := by rw [hfl]; exact hQ.flat
  have HFL := hid hfl
  have hmk2 := fun W => run_make_row' (P := Try.prog) 22 3 (.int .i64 0) 8 Try.underlying22 infoInt rfl .i64 .i64 fl (by omega) (by omega) W
  have HMK2 := hid hmk2
  clear h1 h2 hP hQ hl hfl hmk2
  go_enter Try.func33, Try.ntmps33
  go_wp2_with fail
  refine (tcheck_any A n c P _ HX.out.rp (by omega) (fun j => Nat.le_trans (HRP.out j) (by omega))).mono ?_
  rintro e w1 ⟨rfl, hb⟩
  rw [err_of_tab HTP.out]
  have HX1 := hid (HX.out.keep hb)
  have HB1 := hid (below_step HB0.out (Nat.le_refl _) hb)
  clear hb HX HB0
  have q0 := HX1.out.p0
  have q1 := HX1.out.p1
  go_wp2_with fail
  refine (tcheck_any A' n' c' Q _ HX1.out.rq (by omega) (fun j => Nat.le_trans (HRQ.out j) (by omega))).mono ?_
  rintro e w2 ⟨rfl, hb⟩
  rw [err_of_tab HTQ.out]
  have HX2 := hid (HX1.out.keep hb)
  have HB2 := hid (below_step HB1.out (Nat.le_refl _) hb)
  clear hb HX1 HB1 q0 q1
  have q0 := HX2.out.p0
  have q1 := HX2.out.p1
  go_wp2_with fail
  refine (equalFunc_len A n c A' n' c' P Q _ HX2.out.rp HX2.out.rq (by omega) (by omega) (fun j => Nat.le_trans (HRP.out j) (by omega)) (fun j => Nat.le_trans (HRQ.out j) (by omega))).mono ?_
  rintro e w3 ⟨rfl, hb⟩
  rw [E3.out]
  have HX3 := hid (HX2.out.keep hb)
  have HB3 := hid (below_step HB2.out (Nat.le_refl _) hb)
  clear hb HX2 HB2 q0 q1
  have q0 := HX3.out.p0
  have q1 := HX3.out.p1
  have hbl := HX3.out.lt
  go_wp2_with fail
  clear hmk
  obtain ⟨B, hB⟩ : ∃ B, B = w3.heap.size := ⟨_, rfl⟩
  obtain ⟨w4, hw4⟩ : ∃ w4, w4 = w3.alloc (.cells (madeCells #[.slice none 0 0] n) 22) := ⟨_, rfl⟩
  have HG4 : Hid (Grid w4 B (fun k => k = B) (.slice (some ⟨B, 0, none⟩) n n) (P.take 0 ++ List.replicate (n - 0) [])) := by
    rw [hw4, hB]
    exact Grid.made w3 n w3.heap.size (Nat.le_refl _) (by omega)
  have HX4 : Hid (PairAt w4 w.heap.size A n c A' n' c' P Q) := by rw [hw4]; exact HX3.out.keep (below_alloc _ _)
  have HB4 : Hid (Below B w3 w4) := by rw [hw4, hB]; exact below_alloc _ _
  have HBW : Hid (w.heap.size ≤ B) := by rw [hB]; exact HB3.out.size
  have HB3' : Hid (Below w.heap.size w w3) := HB3.out
  have HX3' := HX3
  rw [← hw4, ← hB]
  have hbB : w.heap.size < B := by rw [hB]; exact hbl
  clear hw4 q0 q1 hbl HB3
  have HBB := hid hB
  clear hB
  have q0 := HX4.out.p0
  have q1 := HX4.out.p1
  go_wp2_with fail
  clear q0 q1
  go_loopg [37] n (fun g t wr => ∃ (i : Nat) (fp : Nat → Prop), i ≤ n ∧ n - i ≤ g ∧ t = .int .i64 (i : Int) ∧ Grid wr B fp (.slice (some ⟨B, 0, none⟩) n n) (P.take i ++ List.replicate (n - i) []) ∧ Below B w3 wr)
  case atStart => exact ⟨0, _, Nat.zero_le _, by omega, rfl, HG4.out, HB4.out⟩
  case round =>
    obtain ⟨i, fp, hi, hg, rfl, hgr, hb⟩ := hrel
    have HGR := hid hgr
    have HB := hid hb
    have HXR : Hid (PairAt wr w.heap.size A n c A' n' c' P Q) := HX3'.out.keep (by have := HB.out; rwa [HBB.out] at this)
    have HBF : Hid (Below w.heap.size w wr) := HB3'.out.trans (HB.out.mono HBW.out)
    clear hgr hb HG4 HX4 HB4
    have hBs : B ≤ wr.heap.size := by have h5 := HB.out.size; have h6 := HBB.out; omega
    by_cases hlt : i < n
    · obtain ⟨b1, o1, Aj, nj, cj, rfl, g1, hI1, hc1⟩ := HXR.out.rp.at hlt
      have hiG : i < (P.take i ++ List.replicate (n - i) []).length := by rw [List.length_append, List.length_take, List.length_replicate, HLP.out]; omega
      obtain ⟨gb, cap, u, e1, hcell, hfrz, hu⟩ := HGR.out.at hiG
      injection e1 with e1 e2 e3
      injection e1 with e1
      injection e1 with e1 _
      subst e1
      have hgd : (P.take i ++ List.replicate (n - i) ([] : List Int)).getD i [] = [] := by
        rw [show n - i = (n - (i + 1)) + 1 by omega, List.replicate_succ]
        exact getD_mid _ _ _ (by rw [List.length_take, HLP.out]; omega)
      rw [hgd] at hu
      have HCS := hid (clone_step (P := P) HLP.out hlt)
      have HI1 := hid hI1
      have hnj : nj ≤ 10 := by rw [← hI1.len]; exact HRP.out i
      have HCE := hid hcell
      have HFZ := hid hfrz
      have HIG := hid hiG
      have hgl : B < wr.heap.size := HGR.out.outer_lt
      clear hI1 hc1 hu e2 e3 hgd hiG hcell hfrz
      go_wp2_with fail
      refine (clone_any Aj nj cj _ _ HI1.out (by omega)).mono ?_
      rintro e w5 ⟨u5, rfl, ho5, hb5⟩
      obtain ⟨A5, c5, rfl, _, _⟩ := ho5.ints
      have hgr5 : wr.grownBy w5 u.ownBlock := ⟨hb5.os, hb5.tape, hb5.output, hb5.size, fun k hk _ => hb5.block k hk⟩
      obtain ⟨hG6, hO6⟩ := HGR.out.replace HIG.out HCE.out hgr5 (ho5.mono hBs) (.inr (fun k hk => (World.ownsRow.lt ho5 k hk).1)) hBs
      have hcell5 : w5.cell? ⟨B, i, none⟩ = some u := (hb5.cell (p := ⟨B, i, none⟩) hgl).trans HCE.out
      have hfrz5 : w5.frozen? ⟨B, i, none⟩ = false := (World.frozen?_of_block (a := ⟨B, i, none⟩) (hb5.block B hgl)).trans HFZ.out
      rw [HCS.out] at hG6
      obtain ⟨q5, hq5⟩ : ∃ q5, q5 = (P.getD i []).length := ⟨_, rfl⟩
      rw [← hq5] at hG6 hO6
      rw [← hq5]
      have HG6 := hid hG6
      have HB6 := hid (HB.out.trans (hO6.below hBs (fun k hk => (HGR.out.bound k hk).1)))
      clear hG6 hO6 hgr5 ho5 hb5 hq5 HGR HCE HFZ
      go_wp2
      go_roundg (n - (i + 1))
      case measure => omega
      case rel => exact ⟨i + 1, _, by omega, by omega, by go_num, HG6.out, HB6.out⟩
    · have hin : i = n := by omega
      subst hin
      have HT : Hid (P.take i ++ List.replicate (i - i) ([] : List Int) = P) := by
        rw [Nat.sub_self, List.replicate_zero, List.append_nil]
        exact List.take_of_length_le (by rw [HLP.out]; exact Nat.le_refl _)
      rw [HT.out] at HGR
      have q1 := HXR.out.p1
      go_wp2_with fail
      refine (rowOfEach_any A' n' c' Q _ HXR.out.rq HTQ.out).mono ?_
      rintro e w6 ⟨g6, G, rfl, hro, hg6, har, hb6⟩
      rw [← HFL.out]
      have HG6 := hid (HGR.out.keep hb6)
      have HBD := hid HGR.out.bound
      have HRO := hid hro
      have HAR := hid har
      have HBF6 := hid (below_step HBF.out (Nat.le_refl _) hb6)
      have hs6 := hb6.size
      have HGL : Hid (G.length = fl) := by rw [hro.1, HFL.out]; exact rfl
      have hg6l : g6 < w6.heap.size := har.lt
      clear hro har hb6 q1 HGR HXR HBF HB
      have hmk2 := HMK2.out
      go_wp2_with fail
      clear hmk2 HMK2
      obtain ⟨gp, hgp⟩ : ∃ gp, gp = w6.heap.size := ⟨_, rfl⟩
      obtain ⟨w7, hw7⟩ : ∃ w7, w7 = w6.alloc (.cells (madeCells #[.int .i64 0] fl) 3) := ⟨_, rfl⟩
      have HP7 : Hid (w7.rowIs gp 3 fl (fun jj => .int .i64 (if jj < fl then 0 else (backL P G).getD jj 0))) := by
        rw [hw7, hgp]
        exact (World.rowIs_made w6 _ fl _).congr (fun jj hj => by rw [if_pos hj])
      have HG7 : Hid (Grid w7 B fp (.slice (some ⟨B, 0, none⟩) i i) (rowsAt P G fl)) := by
        have e : rowsAt P G fl = P := by unfold rowsAt; rw [List.drop_of_length_le (by rw [HGL.out]; exact Nat.le_refl _)]; exact rfl
        rw [e, hw7]
        exact HG6.out.keep (below_alloc _ _)
      have HA7 : Hid (Arr w7 g6 (intsOf G)) := by rw [hw7]; exact HAR.out.alloc _
      have HB7 : Hid (Below w.heap.size w w7) := by rw [hw7]; exact below_step HBF6.out (Nat.le_refl _) (below_alloc _ _)
      have hgp6 : g6 < gp := by rw [hgp]; exact hg6l
      have HGE : Hid (∀ k, fp k → k ≠ g6 ∧ k ≠ gp) := fun k hk => by
        have h1 := HBD.out k hk
        omega
      have HBI : Hid (BInv fl (rowsAt P G fl) Q (G.take fl)) := by
        have e : rowsAt P G fl = P := by unfold rowsAt; rw [List.drop_of_length_le (by rw [HGL.out]; exact Nat.le_refl _)]; exact rfl
        rw [e, List.take_of_length_le (by rw [HGL.out]; exact Nat.le_refl _)]
        exact ⟨HTP.out.tab, HTP.out.perm.nodup_iff.2 (nodup_iota _), HTQ.out.tab, tlen_of_map HLL.out, by have := congrArg List.length HLL.out; simpa using this, HTQ.out.perm.nodup_iff.2 (nodup_iota _), fun y => by rw [HTQ.out.perm.mem_iff, mem_iota, ← HFL.out], HGL.out, HRO.out.2⟩
      have HLN : Hid ((rowsAt P G fl).length = i ∧ ∀ j, ((rowsAt P G fl).getD j []).length ≤ 10) := by
        have e : rowsAt P G fl = P := by unfold rowsAt; rw [List.drop_of_length_le (by rw [HGL.out]; exact Nat.le_refl _)]; exact rfl
        rw [e]
        exact ⟨HLP.out, HRP.out⟩
      rw [← hw7, ← hgp]
      have hBw : B ≤ w7.heap.size := by rw [hw7]; simp; omega
      clear hw7 hgp HG6 HAR HBF6 hs6 hg6l HBD
      go_loopg [11] fl (fun gh t wq => ∃ (k : Nat) (Qk : List (List Int)), k ≤ fl ∧ k ≤ gh ∧ t = .int .i64 ((k : Int) - 1) ∧ BInv k (rowsAt P G k) Qk (G.take k) ∧ (rowsAt P G k).length = i ∧ (∀ j, ((rowsAt P G k).getD j []).length ≤ 10) ∧ Grid wq B fp (.slice (some ⟨B, 0, none⟩) i i) (rowsAt P G k) ∧ Arr wq g6 (intsOf G) ∧ wq.rowIs gp 3 fl (fun jj => .int .i64 (if jj < k then 0 else (backL P G).getD jj 0)) ∧ Below w.heap.size w wq ∧ B ≤ wq.heap.size)
      case atStart => exact ⟨fl, Q, Nat.le_refl _, Nat.le_refl _, by go_num, HBI.out, HLN.out.1, HLN.out.2, HG7.out, HA7.out, HP7.out, HB7.out, hBw⟩
      case round =>
        obtain ⟨k, Qk, hk, hgh, rfl, hbi, hln, hrl, hgr, har, hrow, hbel, hBq⟩ := hrel
        have HBI := hid hbi
        have HLN := hid hln
        have HRL := hid hrl
        have HGR := hid hgr
        have HAR := hid har
        have HROW := hid hrow
        have HBE := hid hbel
        clear hbi hln hrl hgr har hrow hbel HG7 HA7 HP7 HB7
        rcases k with _ | j
        · rw [show (((0 : Nat) : Int) - 1) = -1 by omega]
          have HIN := hid (own_of_rowIs (base := w.heap.size) (xs := backL P G) HROW.out (by rw [backL_length, HGL.out]) (fun jj _ => by rw [if_neg (Nat.not_lt_zero _)]) (by omega) (by unfold maxLen; omega))
          go_wp2
          go_ret2
          refine ⟨gp, G, HRO.out, ?_, ?_, HBE.out⟩
          · rw [← HFL.out]; rfl
          · rw [← HFL.out]; exact HIN.out
        · rw [show (((j + 1 : Nat) : Int) - 1) = (j : Int) by omega]
          have hjf : j < fl := by omega
          have hjG : j < G.length := by rw [HGL.out]; exact hjf
          have e0 : (G.take (j + 1)).getD j 0 = G.getD j 0 := by rw [List.getD_eq_getElem?_getD, List.getElem?_take_of_lt (by omega), ← List.getD_eq_getElem?_getD]
          have e1 : (G.take (j + 1)).take j = G.take j := by rw [List.take_take, Nat.min_eq_left (by omega)]
          obtain ⟨s1, s2, s3, s4, a, s5⟩ := HBI.out.step
          rw [e0] at s1 s2 s3 s4 s5
          rw [e1] at s5
          have HRS := hid (rowsAt_step (P := P) hjG)
          have HBA := hid (backL_at (P := P) hjG)
          rw [← HRS.out] at s3 s4 s5
          have HS1 := hid s1
          have HS2 := hid s2
          have HS3 := hid s3
          have HS4 := hid s4
          have HS5 := hid s5
          have g1 := HAR.out.cell (j := j) (by unfold intsOf; rw [List.length_map]; exact hjG)
          rw [intsOf_getD] at g1
          clear s1 s2 s3 s4 s5 e0 e1
          generalize hgg : G.getD j 0 = gg at *
          go_wp2_with fail
          refine (remove_any B fp _ (rowsAt P G (j + 1)) gg _ HGR.out (by rw [HLN.out]; omega) (fun q => Nat.le_trans (HRL.out q) (by omega)) HS1.out HS2.out hBq).mono ?_
          rintro e w9 ⟨rfl, hG9, hO9⟩
          rw [← HRS.out] at hG9
          rw [← HBA.out]
          have hne6 : ¬ fp g6 := fun hh => (HGE.out g6 hh).1 rfl
          have hnep : ¬ fp gp := fun hh => (HGE.out gp hh).2 rfl
          have hAR9 := HAR.out.of_block (hO9.block g6 HAR.out.lt hne6)
          have hRW9 := HROW.out.of_block (hO9.block gp HROW.out.lt hnep)
          have hB9 : Below w.heap.size w w9 := HBE.out.trans (hO9.below (Nat.le_trans (Nat.le_of_lt hbB) hBq) (fun q hq => by have := (HGR.out.bound q hq).1; omega))
          have g2 := hRW9.cell (i := j) hjf
          have f2 := hRW9.frozen j
          have hO10 : Only (fun q => q = gp) w9 (w9.setCell ⟨gp, j, none⟩ (.int .i64 ((backL P G).getD j 0))) := only_cell _ _ _ _ _ rfl
          have HG10 := hid (hG9.only hO10 (fun q h1 h2 => hnep (h2 ▸ h1)))
          have HA10 := hid (hAR9.setOther (a := ⟨gp, j, none⟩) (by show g6 ≠ gp; omega) (.int .i64 ((backL P G).getD j 0)))
          have HR10 : Hid ((w9.setCell ⟨gp, j, none⟩ (.int .i64 ((backL P G).getD j 0))).rowIs gp 3 fl (fun jj => .int .i64 (if jj < j then 0 else (backL P G).getD jj 0))) := (hRW9.set j (.int .i64 ((backL P G).getD j 0))).congr (fun jj _ => backCell_step (backL P G) j jj)
          have HB10 : Hid (Below w.heap.size w (w9.setCell ⟨gp, j, none⟩ (.int .i64 ((backL P G).getD j 0)))) := hB9.setCell (by show w.heap.size ≤ gp; omega) _
          have hBq9 : B ≤ w9.heap.size := Nat.le_trans hBq hO9.size
          have hsz10 : (w9.setCell ⟨gp, j, none⟩ (.int .i64 ((backL P G).getD j 0))).heap.size = w9.heap.size := by simp [World.setCell]
          have HSZ := hid hsz10
          rw [if_pos (by omega)] at g2
          clear hG9 hO9 hAR9 hRW9 hB9 hO10 hsz10 g1 HGR HAR HROW HBE
          generalize (backL P G).getD j 0 = xv at *
          go_wp2
          go_roundg j
          case measure => omega
          case rel =>
            refine ⟨j, _, by omega, Nat.le_refl _, by go_num, HS5.out, by rw [HS3.out]; exact HLN.out, fun q => ?_, HG10.out, HA10.out, HR10.out, HB10.out, by rw [HSZ.out]; exact hBq9⟩
            exact Nat.le_trans (HS4.out q) (HRL.out q)

theorem tback_ok (A : Option Addr) (n c : Nat) (A' : Option Addr) (n' c' : Nat) (P Q : List (List Int)) (w : World) (h1 : RRows w A n P) (h2 : RRows w A' n' Q) (hP : IsTab P) (hQ : IsTab Q) (hl : P.map List.length = Q.map List.length) :
    Calls Try.prog 33 #[.agg #[.slice A n c, .slice A' n' c']] w (RetBack w P Q) :=
  (tback_own A n c A' n' c' P Q w h1 h2 hP hQ hl).mono fun _ _ ⟨g, G, h3, h4, h5, h6⟩ => ⟨g, G, h3, h4, h5.asInts.1, h6⟩

end Go.Proofs.Ytmdpfadfimodjaa

/-
  castkeep.TableauBack, walked.
-/
namespace Go.Proofs.Ytmdpfadfimodjaa
open Go.RowKit

theorem PQ_lens (p : List Int) : (PT p).map List.length = (QT p).map List.length := by
  apply List.ext_getElem
  · rw [List.length_map, List.length_map, PQ_length]
  · intro i h1 h2
    rw [List.getElem_map, List.getElem_map]
    have := PQ_tlen p i
    unfold tlen at this
    rw [List.length_map] at h1 h2
    rw [List.getD_eq_getElem?_getD, List.getD_eq_getElem?_getD, List.getElem?_eq_getElem h1, List.getElem?_eq_getElem h2] at this
    exact this
theorem backE_ok {P Q : List (List Int)} (h : backE P Q = 0) : IsTab P ∧ IsTab Q ∧ P.map List.length = Q.map List.length := by
  unfold backE at h
  split at h
  · rename_i h1
    exact absurd h h1
  · rename_i h1
    split at h
    · rename_i h2
      exact absurd h h2
    · rename_i h2
      split at h
      · rename_i h3
        exact ⟨tab_of_err (by omega), tab_of_err (by omega), h3⟩
      · cases h

end Go.Proofs.Ytmdpfadfimodjaa

/-
  ratio.lowest, castref.Common, castref.RatioOf.
-/
namespace Go.Proofs.Ytmdpfadfimodjaa
open Go.RowKit

/-- What is said of a call that hands out a ratio and an error. -/
def RetR (w : World) (P Q er : Int) (e : Ending) (w' : World) : Prop := e = .returned (.tuple #[.agg #[.int .i64 P, .int .i64 Q], .int .i64 er]) ∧ Below w.heap.size w w'
def outP (r : Rat) : Int := if RFits r then r.num else 0
def outQ (r : Rat) : Int := if RFits r then (r.den : Int) else 0
def outE (r : Rat) : Int := if RFits r then 0 else 2

theorem out_fits {r : Rat} (h : RFits r) : outP r = r.num ∧ outQ r = (r.den : Int) ∧ outE r = 0 := ⟨if_pos h, if_pos h, if_pos h⟩
theorem out_not {r : Rat} (h : ¬ RFits r) : outP r = 0 ∧ outQ r = 0 ∧ outE r = 2 := ⟨if_neg h, if_neg h, if_neg h⟩

theorem low_facts {p q : Int} (h0 : q ≠ 0) (D : Int) (hD : D = if q < 0 then -((Int.gcd p q : Nat) : Int) else ((Int.gcd p q : Nat) : Int)) :
    D ≠ 0 ∧ p.tdiv D = (Rat.divInt p q).num ∧ q.tdiv D = ((Rat.divInt p q).den : Int) := by
  subst hD
  refine ⟨?_, low_num p q h0, low_den p q h0⟩
  have hG : 1 ≤ Int.gcd p q := Int.gcd_pos_of_ne_zero_right _ h0
  split <;> omega

theorem below_set2 {w : World} {b B : Nat} {v v' : Value} (hB : B ≤ b) : Below B w ((w.setCell ⟨b, 0, none⟩ v).setCell ⟨b, 1, none⟩ v') :=
  ((Below.refl B w).setCell hB _).setCell hB _

set_option maxHeartbeats 800000 in
theorem lowest_neg_n (p q n d : Int) (w : World) (hp : Wide p) (hq : Wide q) (hs : q < 0) (h1 : -((Int.gcd p q : Nat) : Int) ≠ 0) (h2 : p.tdiv (-((Int.gcd p q : Nat) : Int)) = n) (h3 : q.tdiv (-((Int.gcd p q : Nat) : Int)) = d)
    (hn1 : -4000000000000000000 ≤ n) (hn2 : n ≤ 4000000000000000000) (hd1 : 1 ≤ d) (hd2 : d ≤ 4000000000000000000) (hc : n < -1000000000 ∨ 1000000000 < n) :
    Calls Try.prog 69 #[.int .i64 p, .int .i64 q] w (RetR w 0 0 2) := by
  have HB0 : Hid (Below w.heap.size w (w.alloc (.cells #[.int .i64 0, .int .i64 0] 64))) := below_alloc w _
  have HR0 := hid (RatAt.new w 64 0 0)
  have hgq : Int.gcd p q ≤ q.natAbs := Int.gcd_le_natAbs_right _ (by omega)
  have hWq := hq
  unfold Wide at hWq
  obtain ⟨hq1, hq2⟩ := hWq
  have hgb : ((Int.gcd p q : Nat) : Int) ≤ 4000000000000000000 := by omega
  have hsd : decide (q < 0) = true := by simp; omega
  go_enter Try.func69, Try.ntmps69
  go_wp2_with fail
  refine (divisor_any _ _ _ hp hq).mono ?_
  rintro e w1 ⟨rfl, k, rfl⟩
  generalize Int.gcd p q = G at *
  clear hgq
  go_wp2_with fail
  go_region
  have HB1 : Hid (Below w.heap.size w (((w.alloc (.cells #[.int .i64 0, .int .i64 0] 64)).drewN (k + 1)).alloc (.cells #[.int .i64 n, .int .i64 d] 64))) :=
    below_step (below_drewN HB0.out _) (Nat.le_refl _) (below_alloc _ _)
  have HR1 := hid ((HR0.out.keep (below_drewN (Below.refl _ _) (k + 1))).keep_alloc (.cells #[.int .i64 n, .int .i64 d] 64))
  have HS : Hid (w.heap.size < (((w.alloc (.cells #[.int .i64 0, .int .i64 0] 64)).drewN (k + 1)).alloc (.cells #[.int .i64 n, .int .i64 d] 64)).heap.size) := HR1.out.lt
  go_wp2_with fail
  refine (rinR_no _ _ hc).mono ?_
  rintro e w' ⟨rfl, rfl⟩
  have g0 := HR1.out.p0
  have g1 := HR1.out.p1
  have f0 := HR1.out.f0
  have f1 := HR1.out.f1
  go_wp2
  (try simp only [Exit.inBlock, Exit.then])
  refine bodyPost_ret (v := .tuple #[.agg #[.int .i64 0, .int .i64 0], .int .i64 2]) ?_ rfl ⟨rfl, ((below_drewN HB0.out _).trans (below_set2 (Nat.le_refl _))).alloc (by simp) _⟩
  rw [results_cell_tmp rfl]
  go_simp

set_option maxHeartbeats 800000 in
theorem lowest_neg_d (p q n d : Int) (w : World) (hp : Wide p) (hq : Wide q) (hs : q < 0) (h1 : -((Int.gcd p q : Nat) : Int) ≠ 0) (h2 : p.tdiv (-((Int.gcd p q : Nat) : Int)) = n) (h3 : q.tdiv (-((Int.gcd p q : Nat) : Int)) = d)
    (hn1 : -4000000000000000000 ≤ n) (hn2 : n ≤ 4000000000000000000) (hd1 : 1 ≤ d) (hd2 : d ≤ 4000000000000000000) (hc1 : -1000000000 ≤ n) (hc2 : n ≤ 1000000000) (hc : 1000000000 < d) :
    Calls Try.prog 69 #[.int .i64 p, .int .i64 q] w (RetR w 0 0 2) := by
  have HB0 : Hid (Below w.heap.size w (w.alloc (.cells #[.int .i64 0, .int .i64 0] 64))) := below_alloc w _
  have HR0 := hid (RatAt.new w 64 0 0)
  have hgq : Int.gcd p q ≤ q.natAbs := Int.gcd_le_natAbs_right _ (by omega)
  have hWq := hq
  unfold Wide at hWq
  obtain ⟨hq1, hq2⟩ := hWq
  have hgb : ((Int.gcd p q : Nat) : Int) ≤ 4000000000000000000 := by omega
  have hsd : decide (q < 0) = true := by simp; omega
  go_enter Try.func69, Try.ntmps69
  go_wp2_with fail
  refine (divisor_any _ _ _ hp hq).mono ?_
  rintro e w1 ⟨rfl, k, rfl⟩
  generalize Int.gcd p q = G at *
  clear hgq
  go_wp2_with fail
  go_region
  have HB1 : Hid (Below w.heap.size w (((w.alloc (.cells #[.int .i64 0, .int .i64 0] 64)).drewN (k + 1)).alloc (.cells #[.int .i64 n, .int .i64 d] 64))) :=
    below_step (below_drewN HB0.out _) (Nat.le_refl _) (below_alloc _ _)
  have HR1 := hid ((HR0.out.keep (below_drewN (Below.refl _ _) (k + 1))).keep_alloc (.cells #[.int .i64 n, .int .i64 d] 64))
  have HS : Hid (w.heap.size < (((w.alloc (.cells #[.int .i64 0, .int .i64 0] 64)).drewN (k + 1)).alloc (.cells #[.int .i64 n, .int .i64 d] 64)).heap.size) := HR1.out.lt
  go_wp2_with fail
  refine (rinR_yes _ _ hc1 hc2).mono ?_
  rintro e w' ⟨rfl, rfl⟩
  go_wp2_with fail
  refine (rinR_no _ _ (.inr hc)).mono ?_
  rintro e w' ⟨rfl, rfl⟩
  have g0 := HR1.out.p0
  have g1 := HR1.out.p1
  have f0 := HR1.out.f0
  have f1 := HR1.out.f1
  go_wp2
  (try simp only [Exit.inBlock, Exit.then])
  refine bodyPost_ret (v := .tuple #[.agg #[.int .i64 0, .int .i64 0], .int .i64 2]) ?_ rfl ⟨rfl, ((below_drewN HB0.out _).trans (below_set2 (Nat.le_refl _))).alloc (by simp) _⟩
  rw [results_cell_tmp rfl]
  go_simp

set_option maxHeartbeats 800000 in
theorem lowest_neg_ok (p q n d : Int) (w : World) (hp : Wide p) (hq : Wide q) (hs : q < 0) (h1 : -((Int.gcd p q : Nat) : Int) ≠ 0) (h2 : p.tdiv (-((Int.gcd p q : Nat) : Int)) = n) (h3 : q.tdiv (-((Int.gcd p q : Nat) : Int)) = d)
    (hn1 : -4000000000000000000 ≤ n) (hn2 : n ≤ 4000000000000000000) (hd1 : 1 ≤ d) (hd2 : d ≤ 4000000000000000000) (hc1 : -1000000000 ≤ n) (hc2 : n ≤ 1000000000) (hc : d ≤ 1000000000) :
    Calls Try.prog 69 #[.int .i64 p, .int .i64 q] w (RetR w n d 0) := by
  have HB0 : Hid (Below w.heap.size w (w.alloc (.cells #[.int .i64 0, .int .i64 0] 64))) := below_alloc w _
  have HR0 := hid (RatAt.new w 64 0 0)
  have hgq : Int.gcd p q ≤ q.natAbs := Int.gcd_le_natAbs_right _ (by omega)
  have hWq := hq
  unfold Wide at hWq
  obtain ⟨hq1, hq2⟩ := hWq
  have hgb : ((Int.gcd p q : Nat) : Int) ≤ 4000000000000000000 := by omega
  have hsd : decide (q < 0) = true := by simp; omega
  go_enter Try.func69, Try.ntmps69
  go_wp2_with fail
  refine (divisor_any _ _ _ hp hq).mono ?_
  rintro e w1 ⟨rfl, k, rfl⟩
  generalize Int.gcd p q = G at *
  clear hgq
  go_wp2_with fail
  go_region
  have HB1 : Hid (Below w.heap.size w (((w.alloc (.cells #[.int .i64 0, .int .i64 0] 64)).drewN (k + 1)).alloc (.cells #[.int .i64 n, .int .i64 d] 64))) :=
    below_step (below_drewN HB0.out _) (Nat.le_refl _) (below_alloc _ _)
  have HR1 := hid ((HR0.out.keep (below_drewN (Below.refl _ _) (k + 1))).keep_alloc (.cells #[.int .i64 n, .int .i64 d] 64))
  have HS : Hid (w.heap.size < (((w.alloc (.cells #[.int .i64 0, .int .i64 0] 64)).drewN (k + 1)).alloc (.cells #[.int .i64 n, .int .i64 d] 64)).heap.size) := HR1.out.lt
  go_wp2_with fail
  refine (rinR_yes _ _ hc1 hc2).mono ?_
  rintro e w' ⟨rfl, rfl⟩
  go_wp2_with fail
  refine (rinR_yes _ _ (by omega) hc).mono ?_
  rintro e w' ⟨rfl, rfl⟩
  have g0 := HR1.out.p0
  have g1 := HR1.out.p1
  have f0 := HR1.out.f0
  have f1 := HR1.out.f1
  go_wp2
  (try simp only [Exit.inBlock, Exit.then])
  refine bodyPost_ret (v := .tuple #[.agg #[.int .i64 n, .int .i64 d], .int .i64 0]) ?_ rfl ⟨rfl, ((below_drewN HB0.out _).trans (below_set2 (Nat.le_refl _))).alloc (by simp) _⟩
  rw [results_cell_tmp rfl]
  go_simp

set_option maxHeartbeats 800000 in
theorem lowest_pos_n (p q n d : Int) (w : World) (hp : Wide p) (hq : Wide q) (hs : 0 < q) (h1 : ((Int.gcd p q : Nat) : Int) ≠ 0) (h2 : p.tdiv (((Int.gcd p q : Nat) : Int)) = n) (h3 : q.tdiv (((Int.gcd p q : Nat) : Int)) = d)
    (hn1 : -4000000000000000000 ≤ n) (hn2 : n ≤ 4000000000000000000) (hd1 : 1 ≤ d) (hd2 : d ≤ 4000000000000000000) (hc : n < -1000000000 ∨ 1000000000 < n) :
    Calls Try.prog 69 #[.int .i64 p, .int .i64 q] w (RetR w 0 0 2) := by
  have HB0 : Hid (Below w.heap.size w (w.alloc (.cells #[.int .i64 0, .int .i64 0] 64))) := below_alloc w _
  have HR0 := hid (RatAt.new w 64 0 0)
  have hgq : Int.gcd p q ≤ q.natAbs := Int.gcd_le_natAbs_right _ (by omega)
  have hWq := hq
  unfold Wide at hWq
  obtain ⟨hq1, hq2⟩ := hWq
  have hgb : ((Int.gcd p q : Nat) : Int) ≤ 4000000000000000000 := by omega
  have hsd : decide (q < 0) = false := by simp; omega
  go_enter Try.func69, Try.ntmps69
  go_wp2_with fail
  refine (divisor_any _ _ _ hp hq).mono ?_
  rintro e w1 ⟨rfl, k, rfl⟩
  generalize Int.gcd p q = G at *
  clear hgq
  go_wp2_with fail
  go_region
  have HB1 : Hid (Below w.heap.size w (((w.alloc (.cells #[.int .i64 0, .int .i64 0] 64)).drewN (k + 1)).alloc (.cells #[.int .i64 n, .int .i64 d] 64))) :=
    below_step (below_drewN HB0.out _) (Nat.le_refl _) (below_alloc _ _)
  have HR1 := hid ((HR0.out.keep (below_drewN (Below.refl _ _) (k + 1))).keep_alloc (.cells #[.int .i64 n, .int .i64 d] 64))
  have HS : Hid (w.heap.size < (((w.alloc (.cells #[.int .i64 0, .int .i64 0] 64)).drewN (k + 1)).alloc (.cells #[.int .i64 n, .int .i64 d] 64)).heap.size) := HR1.out.lt
  go_wp2_with fail
  refine (rinR_no _ _ hc).mono ?_
  rintro e w' ⟨rfl, rfl⟩
  have g0 := HR1.out.p0
  have g1 := HR1.out.p1
  have f0 := HR1.out.f0
  have f1 := HR1.out.f1
  go_wp2
  (try simp only [Exit.inBlock, Exit.then])
  refine bodyPost_ret (v := .tuple #[.agg #[.int .i64 0, .int .i64 0], .int .i64 2]) ?_ rfl ⟨rfl, ((below_drewN HB0.out _).trans (below_set2 (Nat.le_refl _))).alloc (by simp) _⟩
  rw [results_cell_tmp rfl]
  go_simp

set_option maxHeartbeats 800000 in
theorem lowest_pos_d (p q n d : Int) (w : World) (hp : Wide p) (hq : Wide q) (hs : 0 < q) (h1 : ((Int.gcd p q : Nat) : Int) ≠ 0) (h2 : p.tdiv (((Int.gcd p q : Nat) : Int)) = n) (h3 : q.tdiv (((Int.gcd p q : Nat) : Int)) = d)
    (hn1 : -4000000000000000000 ≤ n) (hn2 : n ≤ 4000000000000000000) (hd1 : 1 ≤ d) (hd2 : d ≤ 4000000000000000000) (hc1 : -1000000000 ≤ n) (hc2 : n ≤ 1000000000) (hc : 1000000000 < d) :
    Calls Try.prog 69 #[.int .i64 p, .int .i64 q] w (RetR w 0 0 2) := by
  have HB0 : Hid (Below w.heap.size w (w.alloc (.cells #[.int .i64 0, .int .i64 0] 64))) := below_alloc w _
  have HR0 := hid (RatAt.new w 64 0 0)
  have hgq : Int.gcd p q ≤ q.natAbs := Int.gcd_le_natAbs_right _ (by omega)
  have hWq := hq
  unfold Wide at hWq
  obtain ⟨hq1, hq2⟩ := hWq
  have hgb : ((Int.gcd p q : Nat) : Int) ≤ 4000000000000000000 := by omega
  have hsd : decide (q < 0) = false := by simp; omega
  go_enter Try.func69, Try.ntmps69
  go_wp2_with fail
  refine (divisor_any _ _ _ hp hq).mono ?_
  rintro e w1 ⟨rfl, k, rfl⟩
  generalize Int.gcd p q = G at *
  clear hgq
  go_wp2_with fail
  go_region
  have HB1 : Hid (Below w.heap.size w (((w.alloc (.cells #[.int .i64 0, .int .i64 0] 64)).drewN (k + 1)).alloc (.cells #[.int .i64 n, .int .i64 d] 64))) :=
    below_step (below_drewN HB0.out _) (Nat.le_refl _) (below_alloc _ _)
  have HR1 := hid ((HR0.out.keep (below_drewN (Below.refl _ _) (k + 1))).keep_alloc (.cells #[.int .i64 n, .int .i64 d] 64))
  have HS : Hid (w.heap.size < (((w.alloc (.cells #[.int .i64 0, .int .i64 0] 64)).drewN (k + 1)).alloc (.cells #[.int .i64 n, .int .i64 d] 64)).heap.size) := HR1.out.lt
  go_wp2_with fail
  refine (rinR_yes _ _ hc1 hc2).mono ?_
  rintro e w' ⟨rfl, rfl⟩
  go_wp2_with fail
  refine (rinR_no _ _ (.inr hc)).mono ?_
  rintro e w' ⟨rfl, rfl⟩
  have g0 := HR1.out.p0
  have g1 := HR1.out.p1
  have f0 := HR1.out.f0
  have f1 := HR1.out.f1
  go_wp2
  (try simp only [Exit.inBlock, Exit.then])
  refine bodyPost_ret (v := .tuple #[.agg #[.int .i64 0, .int .i64 0], .int .i64 2]) ?_ rfl ⟨rfl, ((below_drewN HB0.out _).trans (below_set2 (Nat.le_refl _))).alloc (by simp) _⟩
  rw [results_cell_tmp rfl]
  go_simp

set_option maxHeartbeats 800000 in
theorem lowest_pos_ok (p q n d : Int) (w : World) (hp : Wide p) (hq : Wide q) (hs : 0 < q) (h1 : ((Int.gcd p q : Nat) : Int) ≠ 0) (h2 : p.tdiv (((Int.gcd p q : Nat) : Int)) = n) (h3 : q.tdiv (((Int.gcd p q : Nat) : Int)) = d)
    (hn1 : -4000000000000000000 ≤ n) (hn2 : n ≤ 4000000000000000000) (hd1 : 1 ≤ d) (hd2 : d ≤ 4000000000000000000) (hc1 : -1000000000 ≤ n) (hc2 : n ≤ 1000000000) (hc : d ≤ 1000000000) :
    Calls Try.prog 69 #[.int .i64 p, .int .i64 q] w (RetR w n d 0) := by
  have HB0 : Hid (Below w.heap.size w (w.alloc (.cells #[.int .i64 0, .int .i64 0] 64))) := below_alloc w _
  have HR0 := hid (RatAt.new w 64 0 0)
  have hgq : Int.gcd p q ≤ q.natAbs := Int.gcd_le_natAbs_right _ (by omega)
  have hWq := hq
  unfold Wide at hWq
  obtain ⟨hq1, hq2⟩ := hWq
  have hgb : ((Int.gcd p q : Nat) : Int) ≤ 4000000000000000000 := by omega
  have hsd : decide (q < 0) = false := by simp; omega
  go_enter Try.func69, Try.ntmps69
  go_wp2_with fail
  refine (divisor_any _ _ _ hp hq).mono ?_
  rintro e w1 ⟨rfl, k, rfl⟩
  generalize Int.gcd p q = G at *
  clear hgq
  go_wp2_with fail
  go_region
  have HB1 : Hid (Below w.heap.size w (((w.alloc (.cells #[.int .i64 0, .int .i64 0] 64)).drewN (k + 1)).alloc (.cells #[.int .i64 n, .int .i64 d] 64))) :=
    below_step (below_drewN HB0.out _) (Nat.le_refl _) (below_alloc _ _)
  have HR1 := hid ((HR0.out.keep (below_drewN (Below.refl _ _) (k + 1))).keep_alloc (.cells #[.int .i64 n, .int .i64 d] 64))
  have HS : Hid (w.heap.size < (((w.alloc (.cells #[.int .i64 0, .int .i64 0] 64)).drewN (k + 1)).alloc (.cells #[.int .i64 n, .int .i64 d] 64)).heap.size) := HR1.out.lt
  go_wp2_with fail
  refine (rinR_yes _ _ hc1 hc2).mono ?_
  rintro e w' ⟨rfl, rfl⟩
  go_wp2_with fail
  refine (rinR_yes _ _ (by omega) hc).mono ?_
  rintro e w' ⟨rfl, rfl⟩
  have g0 := HR1.out.p0
  have g1 := HR1.out.p1
  have f0 := HR1.out.f0
  have f1 := HR1.out.f1
  go_wp2
  (try simp only [Exit.inBlock, Exit.then])
  refine bodyPost_ret (v := .tuple #[.agg #[.int .i64 n, .int .i64 d], .int .i64 0]) ?_ rfl ⟨rfl, ((below_drewN HB0.out _).trans (below_set2 (Nat.le_refl _))).alloc (by simp) _⟩
  rw [results_cell_tmp rfl]
  go_simp

theorem lowest_any (p q : Int) (w : World) (hp : Wide p) (hq : Wide q) (h0 : q ≠ 0) :
    Calls Try.prog 69 #[.int .i64 p, .int .i64 q] w (RetR w (outP (Rat.divInt p q)) (outQ (Rat.divInt p q)) (outE (Rat.divInt p q))) := by
  have HN := num_le p q h0
  have HD := den_le p q h0
  have HP := Rat.den_pos (Rat.divInt p q)
  have hp' := hp
  have hq' := hq
  unfold Wide at hp' hq'
  have key : (RFits (Rat.divInt p q) ∧ outP (Rat.divInt p q) = (Rat.divInt p q).num ∧ outQ (Rat.divInt p q) = ((Rat.divInt p q).den : Int) ∧ outE (Rat.divInt p q) = 0)
      ∨ (¬ RFits (Rat.divInt p q) ∧ outP (Rat.divInt p q) = 0 ∧ outQ (Rat.divInt p q) = 0 ∧ outE (Rat.divInt p q) = 2) := by
    by_cases h : RFits (Rat.divInt p q)
    · exact .inl ⟨h, out_fits h⟩
    · exact .inr ⟨h, out_not h⟩
  have hn1 : -4000000000000000000 ≤ (Rat.divInt p q).num := by omega
  have hn2 : (Rat.divInt p q).num ≤ 4000000000000000000 := by omega
  have hd1 : 1 ≤ ((Rat.divInt p q).den : Int) := by omega
  have hd2 : ((Rat.divInt p q).den : Int) ≤ 4000000000000000000 := by omega
  by_cases hs : q < 0
  · obtain ⟨a1, a2, a3⟩ := low_facts (p := p) h0 (-((Int.gcd p q : Nat) : Int)) (by rw [if_pos hs])
    rcases key with ⟨hf, e1, e2, e3⟩ | ⟨hf, e1, e2, e3⟩
    · rw [e1, e2, e3]
      exact lowest_neg_ok p q _ _ w hp hq hs a1 a2 a3 hn1 hn2 hd1 hd2 hf.1 hf.2.1 hf.2.2
    · rw [e1, e2, e3]
      unfold RFits at hf
      by_cases hc : (Rat.divInt p q).num < -1000000000 ∨ 1000000000 < (Rat.divInt p q).num
      · exact lowest_neg_n p q _ _ w hp hq hs a1 a2 a3 hn1 hn2 hd1 hd2 hc
      · exact lowest_neg_d p q _ _ w hp hq hs a1 a2 a3 hn1 hn2 hd1 hd2 (by omega) (by omega) (by omega)
  · have hs' : 0 < q := by omega
    obtain ⟨a1, a2, a3⟩ := low_facts (p := p) h0 (((Int.gcd p q : Nat) : Int)) (by rw [if_neg hs])
    rcases key with ⟨hf, e1, e2, e3⟩ | ⟨hf, e1, e2, e3⟩
    · rw [e1, e2, e3]
      exact lowest_pos_ok p q _ _ w hp hq hs' a1 a2 a3 hn1 hn2 hd1 hd2 hf.1 hf.2.1 hf.2.2
    · rw [e1, e2, e3]
      unfold RFits at hf
      by_cases hc : (Rat.divInt p q).num < -1000000000 ∨ 1000000000 < (Rat.divInt p q).num
      · exact lowest_pos_n p q _ _ w hp hq hs' a1 a2 a3 hn1 hn2 hd1 hd2 hc
      · exact lowest_pos_d p q _ _ w hp hq hs' a1 a2 a3 hn1 hn2 hd1 hd2 (by omega) (by omega) (by omega)
end Go.Proofs.Ytmdpfadfimodjaa

/-
  ratio.Make, Add, Mul, Div, Less.
-/
namespace Go.Proofs.Ytmdpfadfimodjaa
open Go.RowKit

/-- What is said of a call that hands out yes or no, and an error. -/
def RetB (w : World) (b : Bool) (er : Int) (e : Ending) (w' : World) : Prop := e = .returned (.tuple #[.bool b, .int .i64 er]) ∧ Below w.heap.size w w'

theorem bothErr_ok {x y : Rat} (hx : RFits x) (hy : RFits y) : bothErr x.num (x.den : Int) y.num (y.den : Int) = 0 := by
  unfold bothErr
  rw [ratioErr_of hx, ratioErr_of hy]
  rfl
theorem div_ne {y : Rat} (h : y ≠ 0) (x : Rat) : (x.den : Int) * y.num ≠ 0 := by
  have h1 := x.den_pos
  exact Int.mul_ne_zero (by omega) (fun e => h (Rat.num_eq_zero.1 e))
theorem two_alloc (w : World) (o1 o2 : Obj) : Below w.heap.size w ((w.alloc o1).alloc o2) := below_step (below_alloc w _) (Nat.le_refl _) (below_alloc _ _)
theorem rat_second (w : World) (o : Obj) (t : TypeId) (P Q : Int) : RatAt ((w.alloc o).alloc (.cells #[.int .i64 P, .int .i64 Q] t)) (w.heap.size + 1) P Q := by
  have h := RatAt.new (w.alloc o) t P Q
  rwa [show (w.alloc o).heap.size = w.heap.size + 1 by simp] at h
theorem rat_third (w : World) (o o2 : Obj) (t : TypeId) (P Q : Int) : RatAt (((w.alloc o).alloc o2).alloc (.cells #[.int .i64 P, .int .i64 Q] t)) (w.heap.size + 2) P Q := by
  have h := RatAt.new ((w.alloc o).alloc o2) t P Q
  rwa [show ((w.alloc o).alloc o2).heap.size = w.heap.size + 2 by simp] at h
theorem three_alloc (w : World) (o1 o2 o3 : Obj) : Below w.heap.size w (((w.alloc o1).alloc o2).alloc o3) := below_step (two_alloc w o1 o2) (Nat.le_refl _) (below_alloc _ _)

set_option maxHeartbeats 800000 in
theorem radd_bad (P Q P' Q' : Int) (w : World) (h : bothErr P Q P' Q' ≠ 0) :
    Calls Try.prog 51 #[.agg #[.int .i64 P, .int .i64 Q], .agg #[.int .i64 P', .int .i64 Q']] w (RetR w 0 0 (bothErr P Q P' Q')) := by
  have HB0 : Hid (Below w.heap.size w (((w.alloc (.cells #[.int .i64 P, .int .i64 Q] 64)).alloc (.cells #[.int .i64 P', .int .i64 Q'] 64)).alloc (.cells #[.int .i64 0, .int .i64 0] 64))) := three_alloc w _ _ _
  have HZ : Hid (RatAt (((w.alloc (.cells #[.int .i64 P, .int .i64 Q] 64)).alloc (.cells #[.int .i64 P', .int .i64 Q'] 64)).alloc (.cells #[.int .i64 0, .int .i64 0] 64)) (w.heap.size + 2) 0 0) := rat_third w _ _ _ 0 0
  have hne : (bothErr P Q P' Q' != 0) = true := by simpa using h
  clear h
  go_enter Try.func51, Try.ntmps51
  go_wp2_with fail
  refine (checkBoth_any _ _ _ _ _).mono ?_
  rintro e w1 ⟨rfl, hb⟩
  have hz := HZ.out.keep hb
  have g0 := hz.p0
  have g1 := hz.p1
  have f0 := hz.f0
  have f1 := hz.f1
  have HB1 := hid (below_step HB0.out (by simp) hb)
  clear hz hb HB0 HZ
  generalize bothErr P Q P' Q' = er at *
  go_wp2
  (try simp only [Exit.inBlock, Exit.then])
  refine bodyPost_ret (v := .tuple #[.agg #[.int .i64 0, .int .i64 0], .int .i64 er]) ?_ rfl ⟨rfl, HB1.out.trans (below_set2 (by omega))⟩
  rw [results_cell_tmp rfl]
  go_simp

set_option maxHeartbeats 800000 in
theorem radd_ok (x y : Rat) (w : World) (hx : RFits x) (hy : RFits y) :
    Calls Try.prog 51 #[.agg #[.int .i64 x.num, .int .i64 (x.den : Int)], .agg #[.int .i64 y.num, .int .i64 (y.den : Int)]] w (RetR w (outP (x + y)) (outQ (x + y)) (outE (x + y))) := by
  have HE := hid (bothErr_ok hx hy)
  have HQ := hid (add_eq x y)
  have h0 := den_ne x y
  obtain ⟨x1, x2, x3⟩ := hx
  obtain ⟨y1, y2, y3⟩ := hy
  have x4 : (1 : Int) ≤ (x.den : Int) := by have := x.den_pos; omega
  have y4 : (1 : Int) ≤ (y.den : Int) := by have := y.den_pos; omega
  generalize hr : x + y = r at *
  clear hr
  generalize x.num = P at *
  generalize (x.den : Int) = Q at *
  generalize y.num = P' at *
  generalize (y.den : Int) = Q' at *
  obtain ⟨m1, m1'⟩ : -1000000000000000000 ≤ P * Q' ∧ P * Q' ≤ 1000000000000000000 := mul_bd18 (by omega) (by omega) (by omega) (by omega)
  obtain ⟨m2, m2'⟩ : -1000000000000000000 ≤ P' * Q ∧ P' * Q ≤ 1000000000000000000 := mul_bd18 (by omega) (by omega) (by omega) (by omega)
  obtain ⟨m3, m3'⟩ : -1000000000000000000 ≤ Q * Q' ∧ Q * Q' ≤ 1000000000000000000 := mul_bd18 (by omega) (by omega) (by omega) (by omega)
  have HB0 : Hid (Below w.heap.size w (((w.alloc (.cells #[.int .i64 P, .int .i64 Q] 64)).alloc (.cells #[.int .i64 P', .int .i64 Q'] 64)).alloc (.cells #[.int .i64 0, .int .i64 0] 64))) := three_alloc w _ _ _
  have HX : Hid (RatAt (((w.alloc (.cells #[.int .i64 P, .int .i64 Q] 64)).alloc (.cells #[.int .i64 P', .int .i64 Q'] 64)).alloc (.cells #[.int .i64 0, .int .i64 0] 64)) w.heap.size P Q) := ((RatAt.new w 64 P Q).keep_alloc (.cells #[.int .i64 P', .int .i64 Q'] 64)).keep_alloc (.cells #[.int .i64 0, .int .i64 0] 64)
  have HY : Hid (RatAt (((w.alloc (.cells #[.int .i64 P, .int .i64 Q] 64)).alloc (.cells #[.int .i64 P', .int .i64 Q'] 64)).alloc (.cells #[.int .i64 0, .int .i64 0] 64)) (w.heap.size + 1) P' Q') := (rat_second w (.cells #[.int .i64 P, .int .i64 Q] 64) 64 P' Q').keep_alloc (.cells #[.int .i64 0, .int .i64 0] 64)
  have HZ : Hid (RatAt (((w.alloc (.cells #[.int .i64 P, .int .i64 Q] 64)).alloc (.cells #[.int .i64 P', .int .i64 Q'] 64)).alloc (.cells #[.int .i64 0, .int .i64 0] 64)) (w.heap.size + 2) 0 0) := rat_third w _ _ _ 0 0
  go_enter Try.func51, Try.ntmps51
  go_wp2_with fail
  refine (checkBoth_any _ _ _ _ _).mono ?_
  rintro e w1 ⟨rfl, hb⟩
  rw [HE.out]
  have g0 := (HX.out.keep hb).p0
  have g1 := (HX.out.keep hb).p1
  have g2 := (HY.out.keep hb).p0
  have g3 := (HY.out.keep hb).p1
  have HZ1 := hid (HZ.out.keep hb)
  have HB1 := hid (below_step HB0.out (by simp) hb)
  clear hb HB0 HZ HX HY HE
  go_wp2_with fail
  refine (lowest_any (P * Q' + P' * Q) (Q * Q') w1 ⟨by omega, by omega⟩ ⟨by omega, by omega⟩ h0).mono ?_
  rintro e w2 ⟨rfl, hb⟩
  rw [HQ.out]
  clear g0 g1 g2 g3
  have hz := HZ1.out.keep hb
  have g0 := hz.p0
  have g1 := hz.p1
  have f0 := hz.f0
  have f1 := hz.f1
  have HB2 := hid (below_step HB1.out (Nat.le_refl _) hb)
  clear hz hb HB1 HZ1
  generalize outP r = n at *
  generalize outQ r = d at *
  generalize outE r = er at *
  go_wp2
  (try simp only [Exit.inBlock, Exit.then])
  refine bodyPost_ret (v := .tuple #[.agg #[.int .i64 n, .int .i64 d], .int .i64 er]) ?_ rfl ⟨rfl, HB2.out.trans (below_set2 (by omega))⟩
  rw [results_cell_tmp rfl]
  go_simp

theorem fits_make {p q : Int} (hp : -1000000000 ≤ p) (hp' : p ≤ 1000000000) (hq : -1000000000 ≤ q) (hq' : q ≤ 1000000000) (h0 : q ≠ 0) : RFits (Rat.divInt p q) := by
  have h1 := num_le p q h0
  have h2 := den_le p q h0
  unfold RFits
  omega

end Go.Proofs.Ytmdpfadfimodjaa

/-
  castkeep.ratios; the contracts again for ratios told by their two numbers.
-/
namespace Go.Proofs.Ytmdpfadfimodjaa
open Go.RowKit

theorem radd_of {P Q P' Q' : Int} (x y : Rat) (h1 : P = x.num) (h2 : Q = (x.den : Int)) (h3 : P' = y.num) (h4 : Q' = (y.den : Int)) (w : World) (hx : RFits x) (hy : RFits y) :
    Calls Try.prog 51 #[.agg #[.int .i64 P, .int .i64 Q], .agg #[.int .i64 P', .int .i64 Q']] w (RetR w (outP (x + y)) (outQ (x + y)) (outE (x + y))) := by
  subst h1 h2 h3 h4
  exact radd_ok x y w hx hy
/-- A ratio written out. -/
theorem out_lit {r : Rat} {P Q : Int} (h : RFits r) (h1 : r.num = P) (h2 : (r.den : Int) = Q) : outP r = P ∧ outQ r = Q ∧ outE r = 0 := by
  obtain ⟨a, b, c⟩ := out_fits h
  exact ⟨a.trans h1, b.trans h2, c⟩

end Go.Proofs.Ytmdpfadfimodjaa
