/-
  castref.TableauxOf (P38).
-/
import Derived.Test.YteffbhdhldilnaaTabU
import Derived.Test.YteffbhdhldilnaaTabC
namespace Go.Proofs.Yteffbhdhldilnaa
open Go.RowKit

/-- Two tableaux come back. -/
def RetTwo (w : World) (P Q : List (List Int)) (e : Ending) (w' : World) : Prop :=
  ∃ A n c A' n' c', e = .returned (.agg #[.slice A n c, .slice A' n' c']) ∧ RRows w' A n P ∧ RRows w' A' n' Q ∧ Cap n c ∧ Cap n' c' ∧ (A = none → c = 0) ∧ (A' = none → c' = 0) ∧ Below w.heap.size w w'

theorem ORows.nil (w : World) (base : Nat) : ORows w base (.slice none 0 0) [] := ⟨[], rfl, World.ownsRow_nil w base 22 1, fun _ hj => absurd hj (Nat.not_lt_zero _)⟩
theorem ORows.slice {w : World} {base : Nat} {v : Value} {T : List (List Int)} (h : ORows w base v T) : ∀ x, v ≠ .int .i64 x := by
  obtain ⟨A, c, rfl, _⟩ := h.rrows
  intro x e
  cases e
theorem Rows2.slice {w : World} {base : Nat} {v : Value} {T : List (List Int)} (h : Rows2 w base v T) : ∀ x, v ≠ .int .i64 x := by
  obtain ⟨A, c, rfl, _⟩ := h.rrows
  intro x e
  cases e

/-- What TableauxOf knows at its round's begin. -/
def TRel (w : World) (bx : Nat) (xs : List Int) (i : Nat) (wr : World) (vP vQ : Value) : Prop :=
  ORows wr (bx + 1) vP (PT (xs.take i)) ∧ Rows2 wr (bx + 1) vQ (QT (xs.take i)) ∧ wr.rowIs bx 25 2 (fun j => if j = 0 then vP else vQ) ∧ wr.rowIs w.heap.size 25 2 (fun j => if j = 0 then .slice none 0 0 else .slice none 0 0) ∧ Below w.heap.size w wr

theorem PT_rows_srt {xs : List Int} (h : xs.Nodup) (i : Nat) : ∀ r ∈ PT (xs.take i), Srt r := by
  intro r hr
  obtain ⟨j, hj, rfl⟩ := List.getElem_of_mem hr
  have h1 := (tab_at (i := j) (tab_PT _ (xs.take i) rfl (h.sublist (List.take_sublist _ _)))).1
  rw [List.getD_eq_getElem?_getD, List.getElem?_eq_getElem hj] at h1
  exact h1
theorem mem_len_le {T : List (List Int)} {m : Nat} (h : ∀ j, (T.getD j []).length ≤ m) : ∀ r ∈ T, r.length ≤ m := by
  intro r hr
  obtain ⟨j, hj, rfl⟩ := List.getElem_of_mem hr
  have h1 := h j
  rw [List.getD_eq_getElem?_getD, List.getElem?_eq_getElem hj] at h1
  exact h1
/-- What q holds when k rows have been looked at. -/
def upQ (TQ : List (List Int)) (r : Nat) (i : Int) (k : Nat) : List (List Int) := if r < k then tadd TQ r i else TQ
theorem upQ_same {TQ : List (List Int)} {r : Nat} {i : Int} {k : Nat} (h : k ≠ r) : upQ TQ r i (k + 1) = upQ TQ r i k := by
  unfold upQ
  by_cases e : r < k
  · rw [if_pos e, if_pos (by omega)]
  · rw [if_neg e, if_neg (by omega)]
theorem upQ_yes {TQ : List (List Int)} {r : Nat} {i : Int} {k : Nat} (h : r < k) : upQ TQ r i k = tadd TQ r i := if_pos h
theorem upQ_no {TQ : List (List Int)} {r : Nat} {i : Int} {k : Nat} (h : k ≤ r) : upQ TQ r i k = TQ := if_neg (by omega)
theorem tadd_end (TQ : List (List Int)) (r : Nat) (i : Int) (h : r = TQ.length) : tadd TQ r i = TQ ++ [[i]] := by
  rw [tadd_eq TQ r i h]
  subst h
  rw [List.set_append_right _ _ (Nat.le_refl _), Nat.sub_self]
  rfl
theorem upQ_len (TQ : List (List Int)) (r : Nat) (i : Int) (k : Nat) (h : r ≤ TQ.length) : (upQ TQ r i k).length ≤ TQ.length + 1 := by
  unfold upQ
  split
  · rw [tadd_length _ _ _ h]; omega
  · omega

theorem results_cell1 {fn : Func} {p : Tmp} {ty : TypeId} (h : fn.results = #[.cell p ty]) (tmps : Array Value) (P : Program) (w : World) :
    (results fn tmps).run P w =
      ((asAddr (tmps.getD p undef)).run P w).andThen fun a w₁ => (loadVar ty a).run P w₁ := by
  simp only [results, h]
  simp [Sem.run_bind, Result.andThen]

set_option maxHeartbeats 3200000 in
theorem refTab_any (A : Option Addr) (n c : Nat) (xs : List Int) (w : World) (h : Ints w A n xs) (hn : n ≤ 10) (hd : xs.Nodup) :
    Calls Try.prog 15 #[.slice A n c] w (RetTwo w (PT xs) (QT xs)) := by
  have HI := hid h
  have HL := hid h.len
  have HD := hid hd
  clear h hd
  obtain ⟨bx, hbx⟩ : ∃ bx, bx = w.heap.size + 1 := ⟨_, rfl⟩
  have HR0 : Hid (((w.alloc (.cells #[.slice none 0 0, .slice none 0 0] 25)).alloc (.cells #[.slice none 0 0, .slice none 0 0] 25)).rowIs w.heap.size 25 2 (fun j => if j = 0 then .slice none 0 0 else .slice none 0 0)) :=
    (pair_row0 (w := w) (b := 25) (x := .slice none 0 0) (y := .slice none 0 0)).alloc _
  have HRX : Hid (((w.alloc (.cells #[.slice none 0 0, .slice none 0 0] 25)).alloc (.cells #[.slice none 0 0, .slice none 0 0] 25)).rowIs bx 25 2 (fun j => if j = 0 then .slice none 0 0 else .slice none 0 0)) := by
    have h1 := pair_row0 (w := w.alloc (.cells #[.slice none 0 0, .slice none 0 0] 25)) (b := 25) (x := .slice none 0 0) (y := .slice none 0 0)
    rw [show (w.alloc (.cells #[.slice none 0 0, .slice none 0 0] 25)).heap.size = bx by rw [hbx]; simp] at h1
    exact h1
  obtain ⟨w8, hw8⟩ : ∃ w8, w8 = (w.alloc (.cells #[.slice none 0 0, .slice none 0 0] 25)).alloc (.cells #[.slice none 0 0, .slice none 0 0] 25) := ⟨_, rfl⟩
  have HREL0 : Hid (TRel w bx xs 0 w8 (.slice none 0 0) (.slice none 0 0)) := by
    rw [hw8]
    exact ⟨ORows.nil _ _, Rows2.nil _ _, HRX.out, HR0.out, below_step (below_alloc w _) (Nat.le_refl _) (below_alloc _ _)⟩
  have HBX := hid hbx
  clear HR0 HRX
  go_enter Try.func15, Try.ntmps15
  go_wp2_with fail
  rw [← hw8, ← hbx]
  clear hw8 hbx
  have hwb : w.heap.size < bx := by rw [HBX.out]; exact Nat.lt_succ_self _
  go_loopg [12] n (fun g t wr => ∃ (i : Nat) (vP vQ : Value), i ≤ n ∧ n - i ≤ g ∧ t = .int .i64 (i : Int) ∧ TRel w bx xs i wr vP vQ)
  case atStart => exact ⟨0, _, _, Nat.zero_le _, by omega, rfl, HREL0.out⟩
  case round =>
    obtain ⟨i, vP, vQ, hi, hg, rfl, hof⟩ := hrel
    have HOF := hid hof
    clear hof HREL0
    by_cases hlt : i < n
    · have HKL : Hid (i < xs.length) := by rw [HL.out]; exact hlt
      have HTS := hid (take_snoc HKL.out)
      have HPS := hid (PT_snoc (xs.take i) (xs.getD i 0))
      have HQS := hid (QT_snoc (xs.take i) (xs.getD i 0))
      have HTL : Hid ((xs.take i).length = i) := by rw [List.length_take, HL.out]; exact (by omega : min i n = i)
      rw [← HTS.out] at HPS HQS
      rw [HTL.out] at HQS
      have HSRT := hid (PT_rows_srt HD.out i)
      have HPLE := hid (mem_len_le (PT_row_le (xs.take i)))
      have HQLE := hid (mem_len_le (QT_row_le (xs.take i)))
      obtain ⟨b, o, rfl, hbb, hc⟩ := HI.out.row (by omega)
      have gx : wr.cell? ⟨b, o + i, none⟩ = some (.int .i64 (xs.getD i 0)) := (HOF.out.2.2.2.2.cell (p := ⟨b, o + i, none⟩) hbb).trans (hc i hlt)
      clear hc
      generalize xs.getD i 0 = x at *
      obtain ⟨hGP, hGQ, hrx, hr0, hbel⟩ := HOF.out
      obtain ⟨AP, cP, rfl, hRP, hcP, hzP⟩ := hGP.rrows
      obtain ⟨AQ, cQ, rfl, hRQ, _, _⟩ := hGQ.rrows
      have HPL := hid (PT_len_le (xs.take i))
      have HPQ := hid (PQ_length (xs.take i))
      have HPT := hid (PQ_tlen (xs.take i))
      rw [HTL.out] at HPL HPLE HQLE
      have HTI := hid (tin_le (PT (xs.take i)) x)
      have HTN := hid (tin_length (PT (xs.take i)) x)
      have HTT := hid (fun k => tlen_tin (PT (xs.take i)) x k)
      have HGP := hid hGP
      have HGQ := hid hGQ
      have HRP := hid hRP
      have HCP := hid (And.intro hcP hzP)
      have HRX := hid hrx
      have HR0 := hid hr0
      have HB := hid hbel
      clear hGP hGQ hrx hr0 hbel hRP hRQ hcP hzP HOF
      have gp := HRX.out.cell (i := 0) (by omega)
      simp only [if_pos] at gp
      have hbxl : bx < wr.heap.size := HRX.out.lt
      generalize PT (xs.take i) = TP at *
      generalize QT (xs.take i) = TQ at *
      obtain ⟨nP, hnP⟩ : ∃ nP, nP = TP.length := ⟨_, rfl⟩
      obtain ⟨nQ, hnQ⟩ : ∃ nQ, nQ = TQ.length := ⟨_, rfl⟩
      rw [← hnP] at HGP HRX gp HPL HTI HPQ HCP HRP HTN
      rw [← hnQ] at HGQ HRX HPQ
      obtain rfl : nP = nQ := HPQ.out
      have HNP := hid hnP
      have HNQ := hid hnQ
      have hnp10 : nP ≤ 10 := Nat.le_trans HPL.out (Nat.le_trans hi hn)
      clear hnP hnQ
      go_wp2_with fail
      refine (putIn_any TP AP nP cP x _ HRP.out HCP.out.1.1 HCP.out.2 (by omega) (fun r hr => ⟨HSRT.out r hr, by have := HPLE.out r hr; omega⟩)).mono ?_
      rintro e w2 ⟨vP2, rfl, hP2, hb2⟩
      have hrx2 := HRX.out.of_block (hb2.block bx hbxl)
      have hr02 := HR0.out.of_block (hb2.block w.heap.size (by omega))
      have hQ2 := HGQ.out.keep hb2
      have hWP2 := HRP.out.keep hb2
      have hst := hrx2.set 0 vP2
      rw [fun_if0] at hst
      have hP3 := (hP2.mono (base' := bx + 1) (by omega)).pair hrx2 (by intro x e; cases e) (by intro x e; cases e) 0 vP2
      have hQ3 := hQ2.pair hrx2 0 vP2
      have hr03 := hr02.setOther (a := ⟨bx, 0, none⟩) (by show w.heap.size ≠ bx; omega) vP2
      have hB3 : Below w.heap.size w (w2.setCell ⟨bx, 0, none⟩ vP2) := (below_step HB.out (Nat.le_refl _) hb2).setCell (by show w.heap.size ≤ bx; omega) _
      -- the elder rows, behind the store
      have hW3 : RRows (w2.setCell ⟨bx, 0, none⟩ vP2) AP nP TP := by
        have h1 := (HGP.out.keep hb2).pair hrx2 (by intro x e; cases e) (by intro x e; cases e) 0 vP2
        obtain ⟨A9, c9, e9, h9, _⟩ := h1.rrows
        injection e9 with e91 e92
        rw [e91]
        rw [← HNP.out] at h9
        exact h9
      obtain ⟨AP2, cP2, rfl, hRP3, hcP2, hzP2⟩ := hP3.rrows
      have gp2 := hrx2.cell (i := 0) (by omega)
      have fp2 := hrx2.frozen 0
      have gq3 := hst.cell (i := 1) (by omega)
      simp only [if_pos] at gp2
      have gq3' : (w2.setCell ⟨bx, 0, none⟩ (.slice AP2 (tin TP x).1.length cP2)).cell? ⟨bx, 1, none⟩ = some (.slice AQ nP cQ) := gq3
      have gp3 := hst.cell (i := 0) (by omega)
      simp only [if_pos] at gp3
      have hbx2 : bx < w2.heap.size := Nat.lt_of_lt_of_le hbxl hb2.size
      clear hb2 hrx2 hr02 hQ2 hWP2 gq3 gp HGP HGQ HRX HR0 HB HRP hP2
      have HP3 := hid hP3
      have HQ3 := hid hQ3
      have HRP3 := hid hRP3
      have HRX3 := hid hst
      have HR03 := hid hr03
      have HB3 := hid hB3
      have HW3 := hid hW3
      have HC2 := hid (And.intro hcP2 hzP2)
      clear hP3 hQ3 hRP3 hst hr03 hB3 hW3 hcP2 hzP2
      have HLQ : Hid (TQ.length ≤ 1000000) := by rw [← HNQ.out]; exact (by omega : nP ≤ 1000000)
      obtain ⟨P2, hP2⟩ : ∃ P2, P2 = (tin TP x).1 := ⟨_, rfl⟩
      obtain ⟨r, hr⟩ : ∃ r, r = (tin TP x).2 := ⟨_, rfl⟩
      rw [← hP2] at HPS HTN HTT HP3 HRP3 HRX3 HC2 gq3' gp3
      rw [← hP2] at HR03 HB3 HW3 HQ3
      rw [← hr] at HQS HTI HTN HTT
      rw [← hP2]
      clear hP2 hr
      obtain ⟨m, hm⟩ : ∃ m, m = P2.length := ⟨_, rfl⟩
      rw [← hm] at HTN HP3 HRP3 HRX3 HC2 gq3' gp3 HR03 HB3 HW3 HQ3
      rw [← hm]
      have HMI : Hid (m = max nP (r + 1)) := HTN.out
      have HRN : Hid (r ≤ nP) := HTI.out
      clear hm
      go_wp2_with fail
      generalize w2.setCell ⟨bx, 0, none⟩ (.slice AP2 m cP2) = wz at *
      refine (cloneRows_any (bx + 1) _ TQ wz HQ3.out HLQ.out).mono ?_
      rintro e w3 ⟨v3, rfl, hq, hb⟩
      obtain ⟨A3, c3, hv3, _⟩ := hq.rrows
      rw [← HNQ.out] at hv3
      subst hv3
      have gp4 : w3.cell? ⟨bx, 0, none⟩ = some (.slice AP2 m cP2) := (hb.cell (p := ⟨bx, 0, none⟩) HRX3.out.lt).trans gp3
      have HQ4 := hid hq
      have HB4 := hid hb
      clear hb hq gp2 fp2 gp3 gq3' gx hbxl
      go_wp2_with fail
      go_loopg [7, 29] m (fun g s t wq => ∃ k : Nat, k ≤ m ∧ m - k ≤ g ∧ t = .int .i64 (k : Int) ∧ Rows2 wq wz.heap.size s (upQ TQ r i k) ∧ Below wz.heap.size wz wq)
      case atStart => exact ⟨0, Nat.zero_le _, by omega, rfl, by rw [upQ_no (Nat.zero_le _)]; exact HQ4.out, HB4.out⟩
      case round =>
        obtain ⟨k, hk, hg2, rfl, hq, hb⟩ := hrel
        have HQ := hid hq
        have HB5 := hid hb
        clear hq hb HQ4 HB4 gp4
        by_cases hkm : k < m
        · obtain ⟨b1, o1, Aj, nj, cj, rfl, g1, hI1, _, _⟩ := (HRP3.out.keep HB5.out).at0 hkm
          have HL1 := hid hI1.len
          clear hI1
          by_cases hkn : k = nP
          · subst hkn
            have HRK : Hid (r = k) := by have h1 := HMI.out; have h2 := HRN.out; exact (by omega : r = k)
            have HT0 : Hid (upQ TQ r i k = TQ) := upQ_no (by have := HRK.out; omega)
            have HT1 : Hid (upQ TQ r i (k + 1) = TQ ++ [[(i : Int)]]) := by
              rw [upQ_yes (by have := HRK.out; omega)]
              exact tadd_end _ _ _ (by rw [← HNQ.out]; exact HRK.out)
            rw [HT0.out] at HQ
            obtain ⟨A5, c5, hv5, _⟩ := HQ.out.form
            rw [← HNQ.out] at hv5
            subst hv5
            have HLIT : Hid (OwnInts (wr.alloc (.cells #[.int .i64 (i : Int)] 3)) 0 (.slice (some ⟨wr.heap.size, 0, none⟩) 1 1) [(i : Int)]) := World.ownsRow_lit wr #[.int .i64 (i : Int)] 1 (Nat.zero_le _) (by unfold maxLen; omega) rfl
            have HSZ : Hid ((wr.alloc (.cells #[.int .i64 (i : Int)] 3)).heap.size = wr.heap.size + 1) := by exact (by simp : (wr.alloc (.cells #[.int .i64 (i : Int)] 3)).heap.size = wr.heap.size + 1)
            have HBA := hid (HB5.out.trans (below_alloc wr (.cells #[.int .i64 (i : Int)] 3) |>.mono HB5.out.size))
            have hke : ((k : Int) == (k : Int)) = true := beq_self_eq_true _
            go_wp2_with (at_builtin; refine wpList_appRow (wr.alloc (.cells #[.int .i64 (i : Int)] 3)) rfl (.tmp 38) (.tmp 41) rfl wz.heap.size _ TQ (.slice (some ⟨wr.heap.size, 0, none⟩) 1 1) [(i : Int)] rfl (by rw [HSZ.out]; rfl) (HQ.out.keep (below_alloc _ _)) HLIT.out (.slice none 0 0) [] (Rows2.nil _ _) (fun k _ e => by cases e) (by have := HLQ.out; omega) HBA.out.size ?_)
            intro v6 w6 hq6 _ _ hb6
            rw [← HT1.out] at hq6
            have HQ6 := hid hq6
            have HB6 := hid (HBA.out.trans hb6)
            clear hq6 hb6 hke g1
            go_wp2
            go_roundg (m - (k + 1))
            case measure => omega
            case rel => exact ⟨k + 1, by omega, by omega, by go_num, HQ6.out, HB6.out⟩
          · have hke : ((k : Int) == (nP : Int)) = false := by simp; omega
            obtain ⟨b2, o2, Ak, nk, ck, rfl, g2, hI2, _, _⟩ := (HW3.out.keep HB5.out).at0 (j := k) (by have h1 := HMI.out; have h2 := HRN.out; omega)
            have HL2 := hid hI2.len
            clear hI2
            have HLN : Hid (nj = nk + (if k = r then 1 else 0)) := by
              have h1 := HTT.out k
              unfold tlen at h1
              rw [HL1.out, HL2.out] at h1
              exact h1
            have hknp : k < nP := by have h1 := HMI.out; have h2 := HRN.out; omega
            by_cases hkr : k = r
            · subst hkr
              have hlen : (nk : Int) < (nj : Int) := by have := HLN.out; rw [if_pos rfl] at this; omega
              have HT0 : Hid (upQ TQ k i k = TQ) := upQ_no (Nat.le_refl _)
              have HT1 : Hid (upQ TQ k i (k + 1) = TQ.set k (TQ.getD k [] ++ [(i : Int)])) := by
                rw [upQ_yes (Nat.lt_succ_self _)]
                exact tadd_lt TQ k (i : Int) (by rw [← HNQ.out]; exact hknp)
              have HKT : Hid (k < TQ.length) := by rw [← HNQ.out]; exact hknp
              rw [HT0.out] at HQ
              obtain ⟨g, cap, u, hv5, g5, hu⟩ := HQ.out.at HKT.out
              rw [← HNQ.out] at hv5
              subst hv5
              obtain ⟨Au, cu, rfl, hIu, hcu⟩ := hu.ints
              have HRL : Hid ((TQ.getD k []).length ≤ 1000000) := by
                have h1 := HQLE.out (TQ.getD k []) (by
                  rw [List.getD_eq_getElem?_getD, List.getElem?_eq_getElem HKT.out]
                  exact List.getElem_mem _)
                exact (by omega : (TQ.getD k []).length ≤ 1000000)
              generalize hrow : TQ.getD k [] = row at *
              obtain ⟨mu, hmu⟩ : ∃ mu, mu = row.length := ⟨_, rfl⟩
              rw [← hmu] at hIu g5 HRL
              have HIU := hid hIu
              have HMU := hid hmu
              have HRO := hid hrow
              have HGB : Hid (wz.heap.size ≤ g ∧ g < wr.heap.size) := by
                obtain ⟨vals, _, ho, _⟩ := HQ.out
                exact World.ownsRow.lt ho g rfl
              have HFR : Hid (∀ w', Below wr.heap.size wr w' → w'.frozen? ⟨g, k, none⟩ = false) := fun w' hb => by
                have h1 := HQ.out.keep hb
                obtain ⟨vals, hl, ho, _⟩ := h1
                have hn : nP = vals.length := by rw [hl]; exact HNQ.out
                subst hn
                exact World.ownsRow.frozenAt ho k
              clear hIu hu hmu hrow
              go_wp2_with fail
              refine (clone_any Au mu cu row wr HIU.out HRL.out).mono ?_
              rintro e w6 ⟨v6, rfl, ho6, hb6⟩
              obtain ⟨A6, c6, rfl, _, _⟩ := ho6.ints
              rw [← HMU.out] at ho6 ⊢
              have HO6 := hid ho6
              have HB6 := hid hb6
              clear ho6 hb6
              go_wp2_with (at_builtin; refine wpList_app1At w6 rfl (.tmp 57) (.tmp 59) rfl wr.heap.size _ row (i : Int) rfl rfl HO6.out (by have := HRL.out; rw [← HMU.out]; omega) HB6.out.size ?_)
              intro v7 w7 ho7 hg7 _
              have hb7 : Below wr.heap.size wr w7 := below_own HB6.out HO6.out (Nat.le_refl _) (Nat.le_refl _) hg7
              have g7 : w7.cell? ⟨g, k, none⟩ = some (.slice Au mu cu) := (hb7.cell (p := ⟨g, k, none⟩) HGB.out.2).trans g5
              have f7 := HFR.out w7 hb7
              have HQ7 : Hid (Rows2 (w7.setCell ⟨g, k, none⟩ v7) wz.heap.size (.slice (some ⟨g, 0, none⟩) nP cap) (upQ TQ k i (k + 1))) := by
                rw [HT1.out]
                exact (HQ.out.keep hb7).set HKT.out (own_mono ho7 (Nat.zero_le _))
              have HB7 : Hid (Below wz.heap.size wz (w7.setCell ⟨g, k, none⟩ v7)) := (HB5.out.trans (hb7.mono HB5.out.size)).setCell HGB.out.1 _
              obtain ⟨A7, c7, rfl, _, _⟩ := ho7.ints
              obtain ⟨q7, hq7⟩ : ∃ q7, q7 = (row ++ [(i : Int)]).length := ⟨_, rfl⟩
              rw [← hq7] at HQ7 HB7
              rw [← hq7]
              have hgl : g < w7.heap.size := Nat.lt_of_lt_of_le HGB.out.2 hb7.size
              clear ho7 hg7 hb7 hq7 g5 g1 g2 HRO HFR
              go_wp2
              go_roundg (m - (k + 1))
              case measure => omega
              case rel => exact ⟨k + 1, by omega, by omega, by go_num, HQ7.out, HB7.out⟩
            · have hlen : ¬ (nk : Int) < (nj : Int) := by have := HLN.out; rw [if_neg hkr] at this; omega
              have HT1 : Hid (upQ TQ r i (k + 1) = upQ TQ r i k) := upQ_same hkr
              rw [← HT1.out] at HQ
              go_wp2
              go_roundg (m - (k + 1))
              case measure => omega
              case rel => exact ⟨k + 1, by omega, by omega, by go_num, HQ.out, HB5.out⟩
        · have hkm2 : k = m := by omega
          subst hkm2
          have HT1 : Hid (upQ TQ r i k = tadd TQ r (i : Int)) := upQ_yes (by have := HMI.out; omega)
          rw [HT1.out, ← HQS.out] at HQ
          obtain ⟨A5, c5, hv5, _⟩ := HQ.out.form
          obtain ⟨q5, hq5⟩ : ∃ q5, q5 = (QT (List.take (i + 1) xs)).length := ⟨_, rfl⟩
          rw [← hq5] at hv5
          subst hv5
          have hrxq := HRX3.out.of_block (HB5.out.block bx HRX3.out.lt)
          have hr0q := HR03.out.of_block (HB5.out.block w.heap.size HR03.out.lt)
          have gq1 := hrxq.cell (i := 1) (by omega)
          have gq1' : wr.cell? ⟨bx, 1, none⟩ = some (.slice AQ nP cQ) := gq1
          have fq1 := hrxq.frozen 1
          have hbxq : bx < wr.heap.size := hrxq.lt
          have HNEW : Hid (TRel w bx xs (i + 1) (wr.setCell ⟨bx, 1, none⟩ (.slice A5 q5 c5)) (.slice AP2 k cP2) (.slice A5 q5 c5)) := by
            refine ⟨?_, ?_, ?_, ?_, ?_⟩
            · rw [HPS.out]
              exact (HP3.out.keep HB5.out).pair hrxq (by intro x e; cases e) (by intro x e; cases e) 1 _
            · exact (HQ.out.mono (by have := HRX3.out.lt; omega)).pair hrxq 1 _
            · exact (hrxq.set 1 _).congr (fun_if1 _ _ _)
            · exact hr0q.setOther (a := ⟨bx, 1, none⟩) (by show w.heap.size ≠ bx; omega) _
            · exact (HB3.out.trans (HB5.out.mono (Nat.le_of_lt HR03.out.lt))).setCell (by show w.heap.size ≤ bx; omega) _
          clear hrxq hr0q gq1 hq5
          go_wp2
          go_roundg (n - (i + 1))
          case measure => omega
          case rel => exact ⟨i + 1, _, _, by omega, by omega, by go_num, HNEW.out⟩
    · have hin : i = n := by omega
      subst hin
      have HT : Hid (xs.take i = xs) := List.take_of_length_le (by rw [HL.out]; exact Nat.le_refl _)
      obtain ⟨hGP, hGQ, hrx, hr0, hbel⟩ := HOF.out
      rw [HT.out] at hGP hGQ
      have hP1 := hGP.pair hr0 (by intro x e; cases e) (by intro x e; cases e) 0 vP
      have hQ1 := hGQ.pair hr0 0 vP
      have hr1 := hr0.set 0 vP
      rw [fun_if0] at hr1
      have hP2 := hP1.pair hr1 hGP.slice (by intro x e; cases e) 1 vQ
      have hQ2 := hQ1.pair hr1 1 vQ
      obtain ⟨AP, cP, rfl, hRP, hcP, hzP⟩ := hP2.rrows
      obtain ⟨AQ, cQ, rfl, hRQ, hcQ, hzQ⟩ := hQ2.rrows
      have gp := hrx.cell (i := 0) (by omega)
      have gq : wr.cell? ⟨bx, 1, none⟩ = some (.slice AQ (QT xs).length cQ) := by have := hrx.cell (i := 1) (by omega); exact this
      simp only [if_pos] at gp
      have g0 := hr0.cell (i := 0) (by omega)
      have g1 := hr0.cell (i := 1) (by omega)
      simp only [ite_self] at g0 g1
      have f0 := hr0.frozen 0
      have f1 := hr0.frozen 1
      have hwl : w.heap.size < wr.heap.size := hr0.lt
      have HBF : Hid (Below w.heap.size w ((wr.setCell ⟨w.heap.size, 0, none⟩ (.slice AP (PT xs).length cP)).setCell ⟨w.heap.size, 1, none⟩ (.slice AQ (QT xs).length cQ))) := (hbel.setCell (Nat.le_refl _) _).setCell (Nat.le_refl _) _
      have HG1 := hid hRP
      have HG2 := hid hRQ
      have HC1 := hid (And.intro hcP hzP)
      have HC2 := hid (And.intro hcQ hzQ)
      clear hGP hGQ hrx hr0 hbel hP1 hP2 hQ1 hQ2 hr1 hRP hRQ hcP hzP hcQ hzQ HOF
      generalize PT xs = TP at *
      generalize QT xs = TQ at *
      generalize TP.length = nP at *
      generalize TQ.length = nQ at *
      go_wp2
      (try simp only [Exit.inBlock, Exit.then])
      refine bodyPost_ret (v := .agg #[.slice AP nP cP, .slice AQ nQ cQ]) ?_ rfl ⟨AP, nP, cP, AQ, nQ, cQ, rfl, HG1.out, HG2.out, HC1.out.1, HC2.out.1, HC1.out.2, HC2.out.2, HBF.out⟩
      rw [results_cell1 rfl]
      go_simp

end Go.Proofs.Yteffbhdhldilnaa
