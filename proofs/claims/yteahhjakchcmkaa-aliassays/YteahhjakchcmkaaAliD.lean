/-
  alias.Build (P72): whatever comes in.
-/
import Derived.Test.YteahhjakchcmkaaAliE
import Derived.Test.YteahhjakchcmkaaAliF
namespace Go.Proofs.Yteahhjakchcmkaa
open Go.RowKit

/-- What Build hands out: a table of the weights, or nothing and the error. -/
def RetBu (w : World) (ws : List Int) (e : Ending) (w' : World) : Prop :=
  ∃ A n c cs, e = .returned (.tuple #[.slice A n c, .int .i64 (alErr ws)]) ∧ Below w.heap.size w w' ∧ Cols w' A n cs ∧ Cap n c ∧ (alErr ws ≠ 0 → n = 0) ∧ (alErr ws = 0 → n = ws.length ∧ ColsOk ws.length ws.sum cs ∧ IsTbl ws ws.sum cs)

theorem arr_own {w : World} {base g n : Nat} {xs : List Int} (h : Arr w g xs) (hb : base ≤ g) (hl : xs.length = n) (hn : n ≤ 1000000) : OwnInts w base (.slice (some ⟨g, 0, none⟩) n n) xs := by
  subst hl
  exact own_of_rowIs h rfl (fun j _ => rfl) hb (by unfold maxLen; omega)
/-- What lies in memory while the table is filled. -/
structure ASt (B0 : Nat) (w0 wr : World) (gl gb gc go n : Nat) (os ls : List Int) (cs : List (Int × Int)) : Prop where
  al : Arr wr gl ls
  ac : CArr wr gc cs
  ao : OwnInts wr go (.slice (some ⟨go, 0, none⟩) os.length n) os
  bx : wr.cell? ⟨gb, 0, none⟩ = some (.slice (some ⟨gl, 0, none⟩) n n)
  lt : go < wr.heap.size
  bl : Below B0 w0 wr
  o1 : B0 ≤ gl
  o2 : gl < gb
  o3 : gb < gc
  o4 : gc < go
namespace ASt
variable {B0 : Nat} {w0 wr : World} {gl gb gc go n : Nat} {os ls : List Int} {cs : List (Int × Int)}
theorem keepT {w' : World} (h : ASt B0 w0 wr gl gb gc go n os ls cs) (hb : Below wr.heap.size wr w') : ASt B0 w0 w' gl gb gc go n os ls cs := by
  have h1 := h.o1
  have h2 := h.o2
  have h3 := h.o3
  have h4 := h.o4
  have h5 := h.lt
  exact ⟨h.al.keep hb, h.ac.keepA hb, h.ao.keep hb, (hb.cell (p := ⟨gb, 0, none⟩) (by show gb < wr.heap.size; omega)).trans h.bx, Nat.lt_of_lt_of_le h.lt hb.size, h.bl.trans (hb.mono (by omega)), h1, h2, h3, h4⟩
theorem drewT (h : ASt B0 w0 wr gl gb gc go n os ls cs) (k : Nat) : ASt B0 w0 (wr.drewN k) gl gb gc go n os ls cs := h.keepT (below_drewN (Below.refl _ _) k)
theorem storeT (h : ASt B0 w0 wr gl gb gc go n os ls cs) {p : Nat} (hp : p < cs.length) (a b : Int) (r : Nat) (v : Int) (k : Nat) :
    ASt B0 w0 ((((wr.setCell ⟨gc, p * 2, none⟩ (.int .i64 a)).setCell ⟨gc, p * 2 + 1, none⟩ (.int .i64 b)).setCell ⟨gl, r, none⟩ (.int .i64 v)).drewN k) gl gb gc go n os (ls.set r v) (cs.set p (a, b)) := by
  have h1 := h.o1
  have h2 := h.o2
  have h3 := h.o3
  have h4 := h.o4
  have h5 := h.lt
  refine drewT ⟨?_, ?_, ?_, ?_, ?_, ?_, h1, h2, h3, h4⟩ k
  · exact ((h.al.setOther (a := ⟨gc, p * 2, none⟩) (by show gl ≠ gc; omega) _).setOther (a := ⟨gc, p * 2 + 1, none⟩) (by show gl ≠ gc; omega) _).set r v
  · exact (h.ac.setA hp a b).setOtherA (a := ⟨gl, r, none⟩) (by show gc ≠ gl; omega) _
  · have e : Below gc wr (((wr.setCell ⟨gc, p * 2, none⟩ (.int .i64 a)).setCell ⟨gc, p * 2 + 1, none⟩ (.int .i64 b)).setCell ⟨gl, r, none⟩ (.int .i64 v)) → True := fun _ => trivial
    clear e
    refine ⟨h.ao.1, ?_⟩
    rcases h.ao.2 with h0 | ⟨g, cap, cur, hv, hg, hh, rest⟩
    · exact .inl h0
    · refine .inr ⟨g, cap, cur, hv, hg, ?_, rest⟩
      rw [← hh]
      injection hv with e1 _ _
      injection e1 with e1
      injection e1 with e1
      subst e1
      rw [Below.heap_setCell _ _ _ _ (by show go ≠ gl; omega), Below.heap_setCell _ _ _ _ (by show go ≠ gc; omega), Below.heap_setCell _ _ _ _ (by show go ≠ gc; omega)]
  · rw [World.cell?_of_block (w := wr) (a := ⟨gb, 0, none⟩) (by rw [Below.heap_setCell _ _ _ _ (by show gb ≠ gl; omega), Below.heap_setCell _ _ _ _ (by show gb ≠ gc; omega), Below.heap_setCell _ _ _ _ (by show gb ≠ gc; omega)])]
    exact h.bx
  · simpa [World.setCell] using h5
  · exact ((h.bl.setCell (by show B0 ≤ gc; omega) _).setCell (by show B0 ≤ gc; omega) _).setCell (by show B0 ≤ gl; omega) _
theorem openT {w' : World} {os' : List Int} (h : ASt B0 w0 wr gl gb gc go n os ls cs) (hb : wr.grownBy w' (some go)) (ho : OwnInts w' go (.slice (some ⟨go, 0, none⟩) os'.length n) os') : ASt B0 w0 w' gl gb gc go n os' ls cs := by
  have h1 := h.o1
  have h2 := h.o2
  have h3 := h.o3
  have h4 := h.o4
  have h5 := h.lt
  refine ⟨h.al.kept hb (by omega), h.ac.keptA hb (by omega), ho, ?_, Nat.lt_of_lt_of_le h5 hb.size, below_one h.bl (by omega) (by omega) hb, h1, h2, h3, h4⟩
  rw [World.cell?_of_block (w := wr) (a := ⟨gb, 0, none⟩) (hb.block gb (by omega) (fun e => by injection e; omega))]
  exact h.bx
end ASt

theorem aBuild_bad (A : Option Addr) (n c : Nat) (ws : List Int) (w : World) (hI : Ints w A n ws) (he : alErr ws ≠ 0) :
    Calls Try.prog 6 #[.slice A n c] w (RetBu w ws) := by
  have HC := hid (aCheck_any A n c ws w hI)
  have hz : (alErr ws != 0) = true := by simpa using he
  have HE := hid he
  have HX : Hid (∀ er, er = alErr ws → er = alErr ws) := fun _ h => h
  unfold RetBu
  clear hI he
  generalize alErr ws = E at *
  go_enter Try.func6, Try.ntmps6
  go_wp2_with fail
  refine HC.out.mono ?_
  rintro e w' ⟨rfl, rfl⟩
  go_wp2
  go_ret2
  exact ⟨none, 0, 0, [], rfl, Below.refl _ _, Cols.nil _ _, ⟨Nat.le_refl _, by omega⟩, fun _ => rfl, fun h => absurd h HE.out⟩

set_option maxHeartbeats 8000000 in
set_option maxRecDepth 100000 in
theorem aBuild_good (A : Option Addr) (n c : Nat) (ws : List Int) (w : World) (hI : Ints w A n ws) (he : alErr ws = 0) :
    Calls Try.prog 6 #[.slice A n c] w (RetBu w ws) := by
  have hF := fit_of he
  have hn : n ≤ 12 := by have := hF.hi; have := hI.len; omega
  have HC := hid (aCheck_any A n c ws w hI)
  rw [he] at HC
  have HSM := hid (asum_any A n c ws w hI hF.w hn)
  have HDU := hid (aDue_any A n c ws w hI hF.w hn)
  have HF := hid hF
  have HL := hid hI.len
  have HLD : Hid ((dueL ws).length = n) := (length_dueL ws).trans hI.len
  have HE := hid he
  have hW := hF.sum
  have HST := hid (ABInv.first hF)
  have hmk := fun W => run_make_cols n (by omega) W
  clear hI he hF
  go_enter Try.func6, Try.ntmps6
  go_wp2_with fail
  refine HC.out.mono ?_
  rintro e w' ⟨rfl, rfl⟩
  go_wp2_with fail
  refine HSM.out.mono ?_
  rintro e w' ⟨rfl, rfl⟩
  go_wp2_with fail
  refine HDU.out.mono ?_
  rintro e w1 ⟨rfl, hal, hb1⟩
  rw [HLD.out]
  have HA1 := hid hal
  have HB1 := hid hb1
  clear hal hb1 HC HSM HDU
  go_wp2_with fail
  have HA3 := hid ((HA1.out.alloc (.cells #[.slice (some ⟨w.heap.size, 0, none⟩) n n] 22)).alloc (.cells (madeCells #[.int .i64 0, .int .i64 0] (n * 2)) 32))
  have hca := CArr.madeA (w1.alloc (.cells #[.slice (some ⟨w.heap.size, 0, none⟩) n n] 22)) n
  rw [show (w1.alloc (.cells #[.slice (some ⟨w.heap.size, 0, none⟩) n n] 22)).heap.size = w1.heap.size + 1 by simp] at hca
  have HC3 := hid hca
  have hbx : ((w1.alloc (.cells #[.slice (some ⟨w.heap.size, 0, none⟩) n n] 22)).alloc (.cells (madeCells #[.int .i64 0, .int .i64 0] (n * 2)) 32)).cell? ⟨w1.heap.size, 0, none⟩ = some (.slice (some ⟨w.heap.size, 0, none⟩) n n) := by simp
  have HX3 := hid hbx
  have HB3 := hid (below_step HB1.out (Nat.le_refl _) ((below_alloc w1 (.cells #[.slice (some ⟨w.heap.size, 0, none⟩) n n] 22)).alloc (by simp) (.cells (madeCells #[.int .i64 0, .int .i64 0] (n * 2)) 32)))
  have hsz : ((w1.alloc (.cells #[.slice (some ⟨w.heap.size, 0, none⟩) n n] 22)).alloc (.cells (madeCells #[.int .i64 0, .int .i64 0] (n * 2)) 32)).heap.size = w1.heap.size + 2 := by simp
  have hlt1 := HA1.out.lt
  clear hca hbx HA1 HB1 hmk
  generalize ((w1.alloc (.cells #[.slice (some ⟨w.heap.size, 0, none⟩) n n] 22)).alloc (.cells (madeCells #[.int .i64 0, .int .i64 0] (n * 2)) 32)) = w3 at *
  refine (aUpTo_any n w3 hn).mono ?_
  rintro e w4 ⟨rfl, hao, hb4⟩
  have HUL : Hid ((ups n).length = n) := length_ups n
  rw [HUL.out, hsz]
  rw [hsz] at hao
  have hst : ASt w.heap.size w w4 w.heap.size w1.heap.size (w1.heap.size + 1) (w1.heap.size + 2) n (ups n) (dueL ws) (List.replicate n (0, 0)) := by
    refine ⟨HA3.out.keep hb4, HC3.out.keepA hb4, ?_, (hb4.cell (p := ⟨w1.heap.size, 0, none⟩) (by show w1.heap.size < w3.heap.size; omega)).trans HX3.out, hao.lt, below_step HB3.out (Nat.le_refl _) hb4, Nat.le_refl _, hlt1, by omega, by omega⟩
    rw [HUL.out]
    exact arr_own hao (Nat.le_refl _) HUL.out (by omega)
  have HS := hid hst
  rw [HL.out] at HST
  clear hao hb4 hst HA3 HC3 HX3 HB3
  have hgb : w.heap.size < w1.heap.size := hlt1
  generalize hGB : w1.heap.size = gb at *
  go_wp2_with fail
  go_loopg [9, 10, 11] n (fun g s9 _ _ wr => ∃ os ls cs, os.length ≤ g ∧ s9 = .slice (some ⟨gb + 2, 0, none⟩) os.length n ∧ ABInv ws os ls cs ∧ ASt w.heap.size w wr w.heap.size gb (gb + 1) (gb + 2) n os ls cs)
  case atStart => exact ⟨ups n, dueL ws, _, by rw [HUL.out]; exact Nat.le_refl _, by rw [HUL.out], HST.out, HS.out⟩
  case round =>
    clear HST HS
    obtain ⟨os, ls, cs, hg, rfl, hbi, hst⟩ := hrel
    have HBI := hid hbi
    have HS := hid hst
    clear hbi hst
    have hol := HBI.out.ol
    rw [HL.out] at hol
    by_cases h0 : 0 < os.length
    · have hom := HBI.out.om
      rw [HL.out] at hom
      obtain ⟨hIO, hCO⟩ := HS.out.ao.asInts
      have hILA := HS.out.al.ints0 n (by rw [HBI.out.ll, HL.out]; exact Nat.le_refl _)
      rw [List.take_of_length_le (by rw [HBI.out.ll, HL.out]; exact Nat.le_refl _)] at hILA
      have HMI := hid (minFunc_any _ os.length n gb n n _ os ls wr hIO h0 (by omega) HS.out.bx hILA hom)
      have HOM := hid hom
      clear hIO hCO hILA hom
      go_wp2_with fail
      refine HMI.out.mono ?_
      rintro e w5 ⟨p, q5, rfl, hw5, hp, hmin⟩
      have HS5 : Hid (ASt w.heap.size w w5 w.heap.size gb (gb + 1) (gb + 2) n os ls cs) := by rw [Hid, hw5]; exact HS.out.drewT q5
      have HPM := hid hp
      have HMIN := hid hmin
      clear hw5 hp hmin HMI HS
      have HS6 := hid (HS5.out.keepT (below_alloc w5 (.cells #[.int .i64 (p : Int)] 3)))
      have hpb : (w5.alloc (.cells #[.int .i64 (p : Int)] 3)).cell? ⟨w5.heap.size, 0, none⟩ = some (.int .i64 (p : Int)) := by simp
      have HPB := hid hpb
      have hpl : w5.heap.size < (w5.alloc (.cells #[.int .i64 (p : Int)] 3)).heap.size := by simp
      have HPL := hid hpl
      have hpg := HS5.out.lt
      obtain ⟨hIO, hCO⟩ := HS6.out.ao.asInts
      have hILA := HS6.out.al.ints0 n (by rw [HBI.out.ll, HL.out]; exact Nat.le_refl _)
      rw [List.take_of_length_le (by rw [HBI.out.ll, HL.out]; exact Nat.le_refl _)] at hILA
      have HMX := hid (maxFunc_any _ os.length n gb n n _ os ls _ hIO h0 (by omega) HS6.out.bx hILA HOM.out)
      clear hIO hCO hILA hpb hpl HS5
      go_wp2_with fail
      refine HMX.out.mono ?_
      rintro e w7 ⟨r, q7, rfl, hw7, hr, hmax⟩
      have HS7 : Hid (ASt w.heap.size w w7 w.heap.size gb (gb + 1) (gb + 2) n os ls cs) := by rw [Hid, hw7]; exact HS6.out.drewT q7
      have HPB7 : Hid (w7.cell? ⟨w5.heap.size, 0, none⟩ = some (.int .i64 (p : Int))) := by rw [Hid, hw7]; exact HPB.out
      have HPL7 : Hid (w5.heap.size < w7.heap.size) := by rw [Hid, hw7]; exact HPL.out
      have hpn : p < n := by have := HOM.out _ HPM.out; omega
      have hrn : r < n := by have := HOM.out _ hr; omega
      have HSTEP := hid (HBI.out.step HPM.out hr HMIN.out hmax)
      have HWL := hid (without_lt HPM.out)
      have h1 := HBI.out.poor HPM.out HMIN.out
      have h2 := HBI.out.rich hr hmax
      have h3 := HBI.out.bd p (by rw [HL.out]; exact hpn)
      have h4 := HBI.out.bd r (by rw [HL.out]; exact hrn)
      have hcl : cs.length = n := by rw [HBI.out.cl, HL.out]
      have hll : ls.length = n := by rw [HBI.out.ll, HL.out]
      have s1 := HS7.out.al.cell (j := p) (by rw [hll]; exact hpn)
      have s2 := HS7.out.al.cell (j := r) (by rw [hll]; exact hrn)
      have f2 := HS7.out.al.frozen r
      have s3 := HS7.out.ac.cellCA (j := p) (by rw [hcl]; exact hpn)
      have s4 := HS7.out.ac.cellOA (j := p) (by rw [hcl]; exact hpn)
      have f3 := HS7.out.ac.frozenA (p * 2)
      have f4 := HS7.out.ac.frozenA (p * 2 + 1)
      have s5 := HS7.out.bx
      have s6 := HPB7.out
      have HSTO := hid (fun k => HS7.out.storeT (p := p) (by rw [hcl]; exact hpn) (ls.getD p 0) (r : Int) r (ls.getD r 0 - (ws.sum - ls.getD p 0)) k)
      clear hw7 hr hmax HMX HS6 HPB HPL hcl hll HPM HMIN HOM HBI
      generalize ls.getD p 0 = lp at *
      generalize ls.getD r 0 = lr at *
      generalize cut cs p = c1 at *
      generalize oth cs p = c2 at *
      generalize ws.sum = W at *
      generalize w5.heap.size = bp at *
      go_wp2_with fail
      go_region
      go_wp2_with fail
      go_region
      go_wp2_with fail
      have hgl := HS7.out.o1
      have HS8 := hid (HSTO.out 2)
      have hc8 : ((((w7.setCell ⟨gb + 1, p * 2, none⟩ (.int .i64 lp)).setCell ⟨gb + 1, p * 2 + 1, none⟩ (.int .i64 (r : Int))).setCell ⟨w.heap.size, r, none⟩ (.int .i64 (lr - (W - lp)))).drewN 2).cell? ⟨bp, 0, none⟩ = some (.int .i64 (p : Int)) := by
        rw [World.cell?_of_block (w := w7) (a := ⟨bp, 0, none⟩) (by
          show ((((w7.setCell ⟨gb + 1, p * 2, none⟩ (.int .i64 lp)).setCell ⟨gb + 1, p * 2 + 1, none⟩ (.int .i64 (r : Int))).setCell ⟨w.heap.size, r, none⟩ (.int .i64 (lr - (W - lp))))).heap[bp]? = w7.heap[bp]?
          rw [Below.heap_setCell _ _ _ _ (by show bp ≠ w.heap.size; omega), Below.heap_setCell _ _ _ _ (by show bp ≠ gb + 1; omega), Below.heap_setCell _ _ _ _ (by show bp ≠ gb + 1; omega)])]
        exact s6
      have hl8 : bp < ((((w7.setCell ⟨gb + 1, p * 2, none⟩ (.int .i64 lp)).setCell ⟨gb + 1, p * 2 + 1, none⟩ (.int .i64 (r : Int))).setCell ⟨w.heap.size, r, none⟩ (.int .i64 (lr - (W - lp)))).drewN 2).heap.size := by
        have := HPL7.out
        simpa [World.setCell, World.drewN] using this
      have HDEL := hid (delPoor_any (gb + 2) (gb + 2) os.length n bp p os _ HS8.out.ao rfl hl8 (by omega) hc8)
      clear hc8 hl8 s1 s2 s3 s4 s5 s6 f2 f3 f4 HSTO HS7 HPL7 HPB7
      refine HDEL.out.mono ?_
      rintro e w9 ⟨rfl, ho9, hb9⟩
      have HS9 := hid (HS8.out.openT hb9 ho9)
      clear ho9 hb9 HDEL HS8
      go_wp2_with fail
      go_roundg ((without os p).length)
      case measure =>
        have := HWL.out
        omega
      case rel => exact ⟨without os p, _, _, Nat.le_refl _, rfl, HSTEP.out, HS9.out⟩
    · have hos : os = [] := List.eq_nil_of_length_eq_zero (by omega)
      subst hos
      have HEND := hid HBI.out.last
      have HCL : Hid (cs.length = n) := by rw [Hid, HBI.out.cl, HL.out]
      go_wp2
      go_ret2
      exact ⟨_, n, n, cs, by rw [HE.out]; rfl, HS.out.bl, HS.out.ac.cols HCL.out, ⟨Nat.le_refl _, by omega⟩, fun h => absurd HE.out h, fun _ => ⟨HL.out.symm, HEND.out.1, HEND.out.2⟩⟩

/-- alias.Build, whatever comes in. -/
theorem aBuild_any (A : Option Addr) (n c : Nat) (ws : List Int) (w : World) (hI : Ints w A n ws) :
    Calls Try.prog 6 #[.slice A n c] w (RetBu w ws) := by
  by_cases he : alErr ws = 0
  · exact aBuild_good A n c ws w hI he
  · exact aBuild_bad A n c ws w hI he
end Go.Proofs.Yteahhjakchcmkaa
