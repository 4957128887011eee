/-
  A row of bytes that the call itself has made; nests.At.
-/
import Derived.Test.YtmpipgpbmppbjaaNestA
import Derived.Laws.MakeOwn
import Derived.Deep.DeepAppendRoom
import Derived.Laws.IdiomStrings
namespace Go.Proofs.Ytmpipgpbmppbjaa
open Go.RowKit

theorem infoU8 : (Try.prog.info? 5).map (fun i => (i.zero, i.size, i.bytes)) = some (some (.int .u8 0), 1, 1) := by kernel_rfl
def enc8 (x : UInt8) : Value := .int .u8 (x.toNat : Int)
/-- Block g is a row of bytes of the call's own, with room for cap of them, and begins with xs. -/
def OwnB (w : World) (base g cap : Nat) (xs : List UInt8) : Prop := w.ownsRow base 5 1 (.slice (some ⟨g, 0, none⟩) xs.length cap) xs.length (xs.map enc8)
theorem OwnB.cell {w : World} {base g cap : Nat} {xs : List UInt8} (h : OwnB w base g cap xs) (j : Nat) (hj : j < xs.length) : w.cell? ((⟨g, 0, none⟩ : Addr).add j) = some (.int .u8 (xs[j].toNat : Int)) := by
  have ha : (⟨g, 0, none⟩ : Addr).add j = ⟨g, j, none⟩ := by unfold Addr.add; split <;> simp_all
  rw [ha, World.ownsRow.cellAt h j (by omega)]
  simp [List.getElem?_eq_getElem hj, enc8]
theorem OwnB.lt {w : World} {base g cap : Nat} {xs : List UInt8} (h : OwnB w base g cap xs) : base ≤ g ∧ g < w.heap.size := World.ownsRow.lt h g rfl
theorem cell_oneB (W : World) (y : Int) : ∀ j u, [Value.int .u8 y][j]? = some u → (W.alloc (.cells #[.int .u8 y] 5)).cell? ((⟨W.heap.size, 0, none⟩ : Addr).add j) = some u := by
  intro j u hj
  match j, hj with
  | 0, hj => simp at hj; subst hj; simp [Addr.add]
/-- 'text = append(text, y)', with room. -/
theorem wpList_appB {ops : Array Oper} {rest : List Oper} {o : Oper} {a : Act} {Q : Exit → Act → World → Prop} (W : World) (yv : Int) (hgd : o.guard = none) (s x : Operand)
    (ho : o.op = .call { callee := .builtin .append, args := #[s, x], argTypes := #[43, 43] })
    (base g cap n : Nat) (xs : List UInt8) (y : UInt8) (hn : n = xs.length) (hy : yv = (y.toNat : Int)) (hs : a.eval s = .slice (some ⟨g, 0, none⟩) n cap) (hx : a.eval x = .slice (some ⟨W.heap.size, 0, none⟩) 1 1) (hown : OwnB W base g cap xs)
    (hroom : n + 1 ≤ cap)
    (h : ∀ w', OwnB w' base g cap (xs ++ [y]) → W.grownBy w' (some g) → wpList Try.prog ops Q rest (a.put o.dst (.slice (some ⟨g, 0, none⟩) (n + 1) cap)) w') :
    wpList Try.prog ops Q (o :: rest) a (W.alloc (.cells #[.int .u8 yv] 5)) := by
  subst hn
  subst hy
  obtain ⟨i0, hi, hz0, hz1, hz2⟩ := info_parts infoU8
  refine wpList_append_own_spare _ hgd s x 43 ho base 5 i0 1 Try.underlying43 hi hz1 g xs.length cap (xs.map enc8) hs (World.ownsRow.alloc hown _)
    ⟨W.heap.size, 0, none⟩ 1 1 [.int .u8 (y.toNat : Int)] hx rfl (cell_oneB W _) (by intro u hu; simp at hu; subst hu; rfl) hroom ?_
  intro w' h1 h2
  refine h w' ?_ ⟨h2.os, h2.tape, h2.output, Nat.le_trans (by simp) h2.size, fun k hk hne => (h2.block k (by simp; omega) hne).trans (Below.heap_alloc W _ k hk)⟩
  unfold OwnB
  simpa [enc8] using h1
theorem run_makeB (n : Nat) (hn : n ≤ 1000000) (W : World) :
    (Instr.makeSlice 43 (.int .i64 0) (.int .i64 (2 * (n : Int)))).run Try.prog W = .ok (.slice (some ⟨W.heap.size, 0, none⟩) 0 (n + n)) (W.alloc (.cells (madeCells #[.int .u8 0] (n + n)) 5)) := by
  obtain ⟨i0, hi, hz0, hz1, hz2⟩ := info_parts infoU8
  have := run_make (P := Try.prog) W 43 5 i0 (.int .u8 0) Try.underlying43 hi hz0 .i64 .i64 0 (2 * (n : Int)) (by omega) (by omega) (by rw [hz2]; omega) (by omega)
  rw [this, hz1, show (2 * (n : Int)).toNat = n + n by omega]
  simp [Value.cells]
theorem madeB_own (W : World) (n base : Nat) (hn : n ≤ 1000000) (hb : base ≤ W.heap.size) : OwnB (W.alloc (.cells (madeCells #[.int .u8 0] n) 5)) base W.heap.size n [] :=
  World.ownsRow_made W _ n hb (by unfold maxLen; omega) (by rw [size_madeCells, Nat.mul_one])
theorem Box.keep {w w' : World} {b g : Nat} (h : Box w b) (hg : w.grownBy w' (some g)) (hne : b ≠ g) : Box w' b := by
  unfold Box at h ⊢
  rw [hg.block b (Array.getElem?_eq_some_iff.1 h).1 (fun e => hne (by injection e)), h]
theorem Box.lt {w : World} {b : Nat} (h : Box w b) : b < w.heap.size := (Array.getElem?_eq_some_iff.1 h).1
theorem Box.alloc {w : World} {b : Nat} (h : Box w b) (o : Obj) : Box (w.alloc o) b := (Below.heap_alloc w o b h.lt).trans h
theorem below_grownB {B g : Nat} {a w w' : World} (h : Below B a w) (hB : B ≤ w.heap.size) (hg : B ≤ g) (k : w.grownBy w' (some g)) : Below B a w' :=
  ⟨k.os.trans h.os, k.tape.trans h.tape, k.output.trans h.output, Nat.le_trans h.size k.size, fun i hi => (k.block i (by omega) (fun e => by injection e with e; omega)).trans (h.block i hi)⟩

def strOf (l : List UInt8) : Value := .string ⟨l.toArray⟩

set_option maxHeartbeats 1600000 in
theorem nat_ok (n k0 : Nat) (w : World) (hn : n ≤ 15) (hk0 : k0 < bal n n) :
    Calls Try.prog 11 #[.int .i64 (n : Int), .int .i64 (k0 : Int)] w fun e w' => e = .returned (.tuple #[.string ⟨(nun (n + n) n n k0).toArray⟩, .int .i64 0]) ∧ Below w.heap.size w w' := by
  have hz := zero_ends.1
  go_enter Try.func11, Try.ntmps11
  go_wp2_with fail
  refine (inNest_yes _ _ (by omega) (by omega)).mono ?_
  rintro e w' ⟨rfl, rfl⟩
  go_wp2_with fail
  refine (endings_ok _).mono ?_
  rintro e w1 ⟨rfl, hb⟩
  have HB := hid hb
  clear hb
  go_wp2_with (refine wpList_box rfl _ _ rfl rfl rfl rfl ?_)
  intro w2 hbox hb2
  have HX := hid hbox
  have g1 := hbox.cell (o := n) (c := n) (by omega) (by omega)
  have HB2 := hid (below_step HB.out (Nat.le_refl _) hb2)
  have HL := hid hbox.lt
  have HK := hid hk0
  clear hb2 HB hbox
  have hnN : (n : Int) < 16 := by omega
  have hd : decide (bal n n ≤ k0) = false := decide_eq_false (by omega)
  have hmk := run_makeB n (by omega)
  have HM := hid (madeB_own w2 (n + n) w.heap.size (by omega) HB2.out.size)
  have HBM := hid (HB2.out.alloc HB2.out.size (.cells (madeCells #[.int .u8 0] (n + n)) 5))
  have HXM := hid (HX.out.alloc (.cells (madeCells #[.int .u8 0] (n + n)) 5))
  clear hk0
  generalize hbn : bal n n = bn at *
  have HBN := hid hbn
  clear hbn
  go_wp2
  have HGE := hid HB2.out.size
  go_loopg [1, 7, 8, 9, 10] (n + n) (fun g kv ov cv tv _ wr => ∃ (o c k : Nat) (p : List UInt8), o ≤ c ∧ c ≤ 15 ∧ o + c ≤ g ∧ p.length + (o + c) = n + n ∧ kv = .int .i64 k ∧ ov = .int .i64 o ∧ cv = .int .i64 c ∧ tv = .slice (some ⟨w2.heap.size, 0, none⟩) p.length (n + n) ∧ k < bal o c ∧ p ++ nun (o + c) o c k = nun (n + n) n n k0 ∧ OwnB wr w.heap.size w2.heap.size (n + n) p ∧ Box wr w1.heap.size ∧ Below w.heap.size w wr)
  case atStart => exact ⟨n, n, k0, [], by omega, by omega, by omega, by simp, rfl, rfl, rfl, rfl, by rw [HBN.out]; exact HK.out, rfl, HM.out, HXM.out, HBM.out⟩
  case round =>
    clear HM HXM HBM HK HBN g1 hd hmk HX HB2
    obtain ⟨o, c, k, p, ho, hc, hg, hlen, rfl, rfl, rfl, rfl, hk, hp, hown, hbox, hbel⟩ := hrel
    have HKB := hid hk
    have HP := hid hp
    have HO := hid hown
    have HXR := hid hbox
    have HBR := hid hbel
    clear hk hp hown hbox hbel
    by_cases hc0 : c = 0
    · subst hc0
      obtain rfl : o = 0 := by omega
      have HR : Hid (p = nun (n + n) n n k0) := by
        have := HP.out
        rw [show (0 + 0 : Nat) = 0 from rfl, nun, List.append_nil] at this
        exact this
      have hcv := run_convert_bytes_back (P := Try.prog) wr 43 9 5 ⟨w2.heap.size, 0, none⟩ (n + n) p Try.underlying43 Try.underlying5 Try.underlying9 HO.out.cell
      go_wp2
      go_ret2
      exact ⟨by rw [← HR.out]; rfl, HBR.out⟩
    · have hpos : decide (0 < c) = true := decide_eq_true (by omega)
      by_cases hop : k < balOp o c
      · obtain ⟨ho1, hk1⟩ := balOp_pos hop
        obtain ⟨q, rfl⟩ : ∃ q, o = q + 1 := ⟨o - 1, by omega⟩
        have HN : Hid (p ++ (40 :: nun (q + c) q c k) = nun (n + n) n n k0) := by
          have := HP.out
          rw [show q + 1 + c = q + c + 1 by omega, nun, if_pos hop] at this
          exact this
        have g1 := HXR.out.cell (o := q) (c := c) (by omega) (by omega)
        have HK1 : Hid (k < bal q c) := hk1
        have hlt : decide (k < bal q c) = true := decide_eq_true hk1
        have hqN : (q : Int) < 16 := by omega
        have hcN : (c : Int) < 16 := by omega
        have hxb := bal_le (o := q) (c := c) (by omega) (by omega)
        clear hop hk1
        generalize hy : bal q c = y at *
        have HY := hid hy
        clear hy
        go_wp2_with (at_builtin; refine wpList_appB _ _ rfl (.tmp 44) (.tmp 45) rfl w.heap.size w2.heap.size (n + n) p.length p 40 rfl rfl rfl rfl HO.out (by omega) ?_)
        intro w9 hown hgr
        have HB9 := hid (below_grownB HBR.out HBR.out.size HGE.out hgr)
        have HX9 := hid (HXR.out.keep hgr (by have := HL.out; omega))
        have HO9 := hid hown
        clear hown hgr
        go_wp2
        go_roundg (q + c)
        case measure => omega
        case rel => exact ⟨q, c, k, p ++ [40], by omega, by omega, by omega, by simp; omega, rfl, by go_num, rfl, by simp, by rw [HY.out]; exact HK1.out, by rw [List.append_assoc]; exact HN.out, HO9.out, HX9.out, HB9.out⟩
      · obtain ⟨hk1, hoc⟩ := nun_rest (by omega) (by omega) ho HKB.out hop
        obtain ⟨d, rfl⟩ : ∃ d, c = d + 1 := ⟨c - 1, by omega⟩
        have HN : Hid (p ++ (41 :: nun (o + d) o d (k - balOp o (d + 1))) = nun (n + n) n n k0) := by
          have := HP.out
          rw [show o + (d + 1) = o + d + 1 by omega, nun, if_neg hop] at this
          exact this
        have HK1 : Hid (k - balOp o (d + 1) < bal o d) := hk1
        have hdN : (d : Int) + 1 < 16 := by omega
        clear hk1
        by_cases h0 : o = 0
        · subst h0
          have HKU := hid (bal_le (o := 0) (c := d + 1) (by omega) (by omega))
          have hkb : k ≤ 9694845 := by have := HKB.out; have := HKU.out; omega
          go_wp2_with (at_builtin; refine wpList_appB _ _ rfl (.tmp 52) (.tmp 53) rfl w.heap.size w2.heap.size (n + n) p.length p 41 rfl rfl rfl rfl HO.out (by omega) ?_)
          intro w9 hown hgr
          have HB9 := hid (below_grownB HBR.out HBR.out.size HGE.out hgr)
          have HX9 := hid (HXR.out.keep hgr (by have := HL.out; omega))
          have HO9 := hid hown
          clear hown hgr
          go_wp2
          go_roundg (0 + d)
          case measure => omega
          case rel => exact ⟨0, d, k, p ++ [41], by omega, by omega, by omega, by simp; omega, by go_num, rfl, by go_num, by simp, HK1.out, by rw [List.append_assoc]; exact HN.out, HO9.out, HX9.out, HB9.out⟩
        · obtain ⟨q, rfl⟩ : ∃ q, o = q + 1 := ⟨o - 1, by omega⟩
          have g1 := HXR.out.cell (o := q) (c := d + 1) (by omega) (by omega)
          have hqN : (q : Int) + 1 < 16 := by omega
          have hxb := bal_le (o := q) (c := d + 1) (by omega) (by omega)
          have HKU := hid (bal_le (o := q + 1) (c := d + 1) (by omega) (by omega))
          have hkb : k ≤ 9694845 := by have := HKB.out; have := HKU.out; omega
          have HY : Hid (balOp (q + 1) (d + 1) = bal q (d + 1)) := rfl
          have hge : bal q (d + 1) ≤ k := by rw [HY.out] at hop; omega
          have hnl : decide (k < bal q (d + 1)) = false := decide_eq_false (by omega)
          clear hop
          generalize bal q (d + 1) = y at *
          go_wp2_with (at_builtin; refine wpList_appB _ _ rfl (.tmp 52) (.tmp 53) rfl w.heap.size w2.heap.size (n + n) p.length p 41 rfl rfl rfl rfl HO.out (by omega) ?_)
          intro w9 hown hgr
          have HB9 := hid (below_grownB HBR.out HBR.out.size HGE.out hgr)
          have HX9 := hid (HXR.out.keep hgr (by have := HL.out; omega))
          have HO9 := hid hown
          clear hown hgr
          go_wp2
          go_roundg (q + 1 + d)
          case measure => omega
          case rel => exact ⟨q + 1, d, k - y, p ++ [41], by omega, by omega, by omega, by simp; omega, congrArg (Value.int .i64) (by omega), rfl, by go_num, by simp, by rw [← HY.out]; exact HK1.out, by rw [List.append_assoc, ← HY.out]; exact HN.out, HO9.out, HX9.out, HB9.out⟩

theorem nat_bad (n k : Int) (w : World) (h : n < 0 ∨ 15 < n) :
    Calls Try.prog 11 #[.int .i64 n, .int .i64 k] w fun e w' => e = .returned (.tuple #[.string ⟨#[]⟩, .int .i64 1]) ∧ w = w' := by
  go_enter Try.func11, Try.ntmps11
  go_wp2_with fail
  refine (inNest_no _ _ h).mono ?_
  rintro e w' ⟨rfl, rfl⟩
  go_wp2
  go_ret2
  exact ⟨rfl, rfl⟩
set_option maxHeartbeats 800000 in
theorem nat_badk (n : Nat) (k : Int) (w : World) (hn : n ≤ 15) (hk : k < 0 ∨ (bal n n : Int) ≤ k) :
    Calls Try.prog 11 #[.int .i64 (n : Int), .int .i64 k] w fun e w' => e = .returned (.tuple #[.string ⟨#[]⟩, .int .i64 1]) ∧ Below w.heap.size w w' := by
  have hz := zero_ends.1
  go_enter Try.func11, Try.ntmps11
  go_wp2_with fail
  refine (inNest_yes _ _ (by omega) (by omega)).mono ?_
  rintro e w' ⟨rfl, rfl⟩
  go_wp2_with fail
  refine (endings_ok _).mono ?_
  rintro e w1 ⟨rfl, hb⟩
  have HB := hid hb
  clear hb
  go_wp2_with (refine wpList_box rfl _ _ rfl rfl rfl rfl ?_)
  intro w2 hbox hb2
  have g1 := hbox.cell (o := n) (c := n) (by omega) (by omega)
  have HB2 := hid (below_step HB.out (Nat.le_refl _) hb2)
  clear hb2 HB hbox
  have hnN : (n : Int) < 16 := by omega
  generalize bal n n = bn at *
  by_cases hneg : k < 0
  · clear hk
    go_wp2
    go_ret2
    exact ⟨rfl, HB2.out⟩
  · have hge : (bn : Int) ≤ k := hk.resolve_left hneg
    clear hk
    go_wp2
    go_ret2
    exact ⟨rfl, HB2.out⟩
theorem nat_of (N K : Int) (n k : Nat) (hN : N = n) (hK : K = k) (w : World) (hn : n ≤ 15) (hk : k < bal n n) :
    Calls Try.prog 11 #[.int .i64 N, .int .i64 K] w fun e w' => e = .returned (.tuple #[.string ⟨(nun (n + n) n n k).toArray⟩, .int .i64 0]) ∧ Below w.heap.size w w' := by
  subst hN
  subst hK
  exact nat_ok n k w hn hk

set_option maxHeartbeats 800000 in
theorem nestsLive_any (w : World) : Calls Try.prog 18 #[] w fun e w' => e = .returned (.bool true) ∧ Below w.heap.size w w' := by
  go_enter Try.func18, Try.ntmps18
  go_wp2_with fail
  refine (ncount_of 3 3 rfl _ (by omega)).mono ?_
  rintro e w1 ⟨rfl, hb⟩
  have HB1 := hid hb
  clear hb
  rw [show bal 3 3 = 5 by decide +kernel]
  go_wp2_with fail
  refine (nat_of 3 1 3 1 rfl rfl _ (by omega) (by decide +kernel)).mono ?_
  rintro e w2 ⟨rfl, hb⟩
  have HB2 := hid (below_step HB1.out (Nat.le_refl _) hb)
  clear hb HB1
  rw [show nun (3 + 3) 3 3 1 = [40, 40, 41, 40, 41, 41] by decide +kernel]
  go_wp2_with fail
  refine (good_bel _ _ _ 2 [0, 0] rfl rfl (by omega)).mono ?_
  rintro e w3 ⟨rfl, hb⟩
  have HB3 := hid (below_step HB2.out (Nat.le_refl _) hb)
  clear hb HB2
  rw [show allOK [0, 0] = true by decide]
  go_wp2
  go_ret
  exact ⟨rfl, HB3.out⟩
end Go.Proofs.Ytmpipgpbmppbjaa
