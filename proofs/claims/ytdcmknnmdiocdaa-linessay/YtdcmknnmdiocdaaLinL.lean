/-
  lines.longest (P42), handed what rises and what doesn't.
-/
import Derived.Test.YtdcmknnmdiocdaaLinA
import Derived.Test.YtdcmknnmdiocdaaLit
import Derived.Deep.DeepCutAuto
import Derived.Laws.MakeOwn
namespace Go.Proofs.Ytdcmknnmdiocdaa
open Go.RowKit

/-- The world while longest reckons. -/
structure LW (w wr : World) (gn gl n : Nat) (ns ls : List Int) : Prop where
  an : Arr wr gn ns
  al : Arr wr gl ls
  ne : gn ≠ gl
  bn : w.heap.size ≤ gn
  bl : w.heap.size ≤ gl
  bel : Below w.heap.size w wr
  ln : ns.length = n
  ll : ls.length = n + 1
theorem LW.setN {w wr : World} {gn gl n : Nat} {ns ls : List Int} (h : LW w wr gn gl n ns ls) (i : Nat) (x : Int) : LW w (wr.setCell ⟨gn, i, none⟩ (.int .i64 x)) gn gl n (ns.set i x) ls :=
  ⟨h.an.set i x, h.al.setOther (fun e => h.ne e.symm) _, h.ne, h.bn, h.bl, below_one h.bel h.bn h.bel.size (one_set (one_refl _ _) _ _), by rw [List.length_set]; exact h.ln, h.ll⟩
theorem LW.setL {w wr : World} {gn gl n : Nat} {ns ls : List Int} (h : LW w wr gn gl n ns ls) (i : Nat) (x : Int) : LW w (wr.setCell ⟨gl, i, none⟩ (.int .i64 x)) gn gl n ns (ls.set i x) :=
  ⟨h.an.setOther (fun e => h.ne e) _, h.al.set i x, h.ne, h.bn, h.bl, below_one h.bel h.bl h.bel.size (one_set (one_refl _ _) _ _), h.ln, by rw [List.length_set]; exact h.ll⟩
theorem LW.drewN {w wr : World} {gn gl n : Nat} {ns ls : List Int} (h : LW w wr gn gl n ns ls) (k : Nat) : LW w (wr.drewN k) gn gl n ns ls :=
  ⟨h.an, h.al, h.ne, h.bn, h.bl, below_drewN h.bel k, h.ln, h.ll⟩
theorem LW.keep {w wr ws : World} {gn gl n : Nat} {ns ls : List Int} (h : LW w wr gn gl n ns ls) (hb : Below wr.heap.size wr ws) : LW w ws gn gl n ns ls :=
  ⟨h.an.keep hb, h.al.keep hb, h.ne, h.bn, h.bl, h.bel.trans (hb.mono h.bel.size), h.ln, h.ll⟩
/-- What the two lists hold from i on. -/
def LTab (f : Nat → Nat → Bool) (n i : Nat) (ns ls : List Int) : Prop := ls.getD n 0 = 0 ∧ ∀ j, i ≤ j → j < n → ∃ t m : Nat, ns.getD j 0 = (t : Int) ∧ ls.getD j 0 = ((m + 1 : Nat) : Int) ∧ ls.getD t 0 = (m : Int) ∧ t ≤ n ∧ Follows f n j t m
theorem getD_set_same {l : List Int} {i : Nat} (h : i < l.length) (x : Int) : (l.set i x).getD i 0 = x := by rw [getD_set, if_pos ⟨rfl, h⟩]
theorem getD_set_other {l : List Int} {i j : Nat} (h : j ≠ i) (x : Int) : (l.set i x).getD j 0 = l.getD j 0 := by rw [getD_set, if_neg (fun e => h e.1)]
theorem LTab.setN {f : Nat → Nat → Bool} {n i : Nat} {ns ls : List Int} (h : LTab f n (i + 1) ns ls) (x : Int) : LTab f n (i + 1) (ns.set i x) ls := by
  refine ⟨h.1, fun j h1 h2 => ?_⟩
  obtain ⟨t, m, k1, k2, k3, k4⟩ := h.2 j h1 h2
  exact ⟨t, m, by rw [getD_set_other (by omega)]; exact k1, k2, k3, k4⟩
theorem LTab.setL {f : Nat → Nat → Bool} {n i t m : Nat} {ns ls : List Int} (h : LTab f n (i + 1) ns ls) (hi : i < n) (hl : ls.length = n + 1) (ht : ns.getD i 0 = (t : Int)) (hm : ls.getD t 0 = (m : Int)) (htn : t ≤ n) (hti : i < t) (hF : Follows f n i t m) : LTab f n i ns (ls.set i ((m + 1 : Nat) : Int)) := by
  refine ⟨by rw [getD_set_other (by omega)]; exact h.1, fun j h1 h2 => ?_⟩
  by_cases e : j = i
  · subst e
    exact ⟨t, m, ht, getD_set_same (by omega) _, by rw [getD_set_other (by omega)]; exact hm, htn, hF⟩
  · obtain ⟨u, a, k1, k2, k3, k4, k5⟩ := h.2 j (by omega) h2
    have hu : j < u := by
      rcases k5.2 with ⟨h6, _⟩ | ⟨h6, _⟩ <;> omega
    exact ⟨u, a, k1, by rw [getD_set_other (by omega)]; exact k2, by rw [getD_set_other (by omega)]; exact k3, k4, k5⟩
theorem LW.drew {w wr : World} {gn gl n : Nat} {ns ls : List Int} (h : LW w wr gn gl n ns ls) : LW w wr.drew gn gl n ns ls := h.drewN 1
theorem LW.keepB {w wr ws : World} {gn gl n base : Nat} {ns ls : List Int} (h : LW w wr gn gl n ns ls) (h1 : gn < base) (h2 : gl < base) (h3 : w.heap.size ≤ base) (hb : Below base wr ws) : LW w ws gn gl n ns ls :=
  ⟨h.an.of_block (hb.block gn h1), h.al.of_block (hb.block gl h2), h.ne, h.bn, h.bl, h.bel.trans (hb.mono h3), h.ln, h.ll⟩
theorem made_two (w : World) (n m : Nat) (e : m = n + 1) : LW w ((w.alloc (.cells (madeCells #[.int .i64 0] n) 3)).alloc (.cells (madeCells #[.int .i64 0] m) 3)) w.heap.size (w.heap.size + 1) n (List.replicate n 0) (List.replicate (n + 1) 0) := by
  subst e
  have h2 := Arr.made (w.alloc (.cells (madeCells #[.int .i64 0] n) 3)) (n + 1)
  rw [show (w.alloc (.cells (madeCells #[.int .i64 0] n) 3)).heap.size = w.heap.size + 1 by simp] at h2
  exact ⟨(Arr.made w n).alloc _, h2, by omega, Nat.le_refl _, by omega, (((Below.refl _ _).alloc (Nat.le_refl _) _).alloc (by simp) _), by simp, by simp⟩
theorem made_two' (w : World) (n m : Nat) (e : m = n + 1) : LW w ((w.alloc (.cells (madeCells #[.int .i64 0] m) 3)).alloc (.cells (madeCells #[.int .i64 0] n) 3)) (w.heap.size + 1) w.heap.size n (List.replicate n 0) (List.replicate (n + 1) 0) := by
  subst e
  have h2 := Arr.made (w.alloc (.cells (madeCells #[.int .i64 0] (n + 1)) 3)) n
  rw [show (w.alloc (.cells (madeCells #[.int .i64 0] (n + 1)) 3)).heap.size = w.heap.size + 1 by simp] at h2
  exact ⟨h2, (Arr.made w (n + 1)).alloc _, by omega, by omega, Nat.le_refl _, (((Below.refl _ _).alloc (Nat.le_refl _) _).alloc (by simp) _), by simp, by simp⟩
/-- The outer loop. -/
structure LO (f : Nat → Nat → Bool) (w wr : World) (gn gl n k s m : Nat) (ns ls : List Int) : Prop where
  lw : LW w wr gn gl n ns ls
  tab : LTab f n k ns ls
  most : Most f n k s m
  at' : ls.getD s 0 = (m : Int)
  sn : s ≤ n
  mn : m ≤ n
/-- The inner loop. -/
structure LI (f : Nat → Nat → Bool) (w wr : World) (gn gl n i j t m s sm : Nat) (ns ls : List Int) : Prop where
  lw : LW w wr gn gl n ns ls
  tab : LTab f n (i + 1) ns ls
  best : Best f n i j t m
  at1 : ns.getD i 0 = (t : Int)
  at2 : ls.getD t 0 = (m : Int)
  it : i < t
  tn : t ≤ n
  most : Most f n (i + 1) s sm
  at' : ls.getD s 0 = (sm : Int)
  sn : s ≤ n
  is : i < s
  mn : sm ≤ n
theorem LO.start {f : Nat → Nat → Bool} {w wr : World} {gn gl n : Nat} (h : LW w wr gn gl n (List.replicate n 0) (List.replicate (n + 1) 0)) : LO f w wr gn gl n n n 0 (List.replicate n 0) (List.replicate (n + 1) 0) :=
  ⟨h, ⟨by simp [List.getD_eq_getElem?_getD], fun j h1 h2 => absurd h2 (by omega)⟩, most_nil f n, by simp [List.getD_eq_getElem?_getD], Nat.le_refl _, Nat.zero_le _⟩
theorem most_lt {f : Nat → Nat → Bool} {n i s m : Nat} (h : Most f n (i + 1) s m) (hi : i < n) : i < s := by
  rcases h.1 with ⟨h1, _⟩ | ⟨h1, _⟩ <;> omega
theorem LO.into {f : Nat → Nat → Bool} {w wr : World} {gn gl n i s m : Nat} {ns ls : List Int} (h : LO f w wr gn gl n (i + 1) s m ns ls) (hi : i < n) :
    LI f w (wr.setCell ⟨gn, i, none⟩ (.int .i64 (n : Int))) gn gl n i (i + 1) n 0 s m (ns.set i (n : Int)) ls :=
  ⟨h.lw.setN i _, h.tab.setN _, best_nil f n i, getD_set_same (by rw [h.lw.ln]; exact hi) _, h.tab.1, hi, Nat.le_refl _, h.most, h.at', h.sn, most_lt h.most hi, h.mn⟩
theorem LI.drewN {f : Nat → Nat → Bool} {w wr : World} {gn gl n i j t m s sm : Nat} {ns ls : List Int} (h : LI f w wr gn gl n i j t m s sm ns ls) (k : Nat) : LI f w (wr.drewN k) gn gl n i j t m s sm ns ls :=
  ⟨h.lw.drewN k, h.tab, h.best, h.at1, h.at2, h.it, h.tn, h.most, h.at', h.sn, h.is, h.mn⟩
theorem LI.at3 {f : Nat → Nat → Bool} {w wr : World} {gn gl n i j t m s sm : Nat} {ns ls : List Int} (h : LI f w wr gn gl n i j t m s sm ns ls) (hij : i < j) (hj : j < n) : ∃ a : Nat, ls.getD j 0 = ((a + 1 : Nat) : Int) ∧ Far f n j (a + 1) := by
  obtain ⟨t, a, _, h1, _, _, h2, _⟩ := h.tab.2 j hij hj
  exact ⟨a, h1, h2⟩
theorem LI.no {f : Nat → Nat → Bool} {w wr : World} {gn gl n i j t m s sm : Nat} {ns ls : List Int} (h : LI f w wr gn gl n i j t m s sm ns ls) (hf : f i j = false) : LI f w wr gn gl n i (j + 1) t m s sm ns ls :=
  ⟨h.lw, h.tab, best_no h.best hf, h.at1, h.at2, h.it, h.tn, h.most, h.at', h.sn, h.is, h.mn⟩
theorem LI.old {f : Nat → Nat → Bool} {w wr : World} {gn gl n i j t m s sm a : Nat} {ns ls : List Int} (h : LI f w wr gn gl n i j t m s sm ns ls) (ha : Far f n j a) (hle : a ≤ m) : LI f w wr gn gl n i (j + 1) t m s sm ns ls :=
  ⟨h.lw, h.tab, best_old h.best ha hle, h.at1, h.at2, h.it, h.tn, h.most, h.at', h.sn, h.is, h.mn⟩
theorem LI.new {f : Nat → Nat → Bool} {w wr : World} {gn gl n i j t m s sm a : Nat} {ns ls : List Int} (h : LI f w wr gn gl n i j t m s sm ns ls) (hij : i < j) (hjn : j < n) (hf : f i j = true) (ha : Far f n j a) (hl : ls.getD j 0 = (a : Int)) (hle : m ≤ a) :
    LI f w (wr.setCell ⟨gn, i, none⟩ (.int .i64 (j : Int))) gn gl n i (j + 1) j a s sm (ns.set i (j : Int)) ls :=
  ⟨h.lw.setN i _, h.tab.setN _, best_new h.best hij hf ha hle, getD_set_same (by rw [h.lw.ln]; omega) _, hl, hij, Nat.le_of_lt hjn, h.most, h.at', h.sn, h.is, h.mn⟩
theorem LI.far {f : Nat → Nat → Bool} {w wr : World} {gn gl n i t m s sm : Nat} {ns ls : List Int} (h : LI f w wr gn gl n i n t m s sm ns ls) (hi : i < n) : Far f n i (m + 1) := far_of_best hi h.best
theorem LI.done {f : Nat → Nat → Bool} {w wr : World} {gn gl n i t m s sm : Nat} {ns ls : List Int} (h : LI f w wr gn gl n i n t m s sm ns ls) (hi : i < n) (hle : m + 1 ≤ sm) :
    LO f w (wr.setCell ⟨gl, i, none⟩ (.int .i64 ((m + 1 : Nat) : Int))) gn gl n i s sm ns (ls.set i ((m + 1 : Nat) : Int)) :=
  ⟨h.lw.setL i _, h.tab.setL hi h.lw.ll h.at1 h.at2 h.tn h.it (follows_of_best hi h.best), most_old h.most (h.far hi) hle, by rw [getD_set_other (by have := h.is; omega)]; exact h.at', h.sn, h.mn⟩
theorem LI.done' {f : Nat → Nat → Bool} {w wr : World} {gn gl n i t m s sm : Nat} {ns ls : List Int} (h : LI f w wr gn gl n i n t m s sm ns ls) (hi : i < n) (hle : sm ≤ m + 1) :
    LO f w (wr.setCell ⟨gl, i, none⟩ (.int .i64 ((m + 1 : Nat) : Int))) gn gl n i i (m + 1) ns (ls.set i ((m + 1 : Nat) : Int)) :=
  ⟨h.lw.setL i _, h.tab.setL hi h.lw.ll h.at1 h.at2 h.tn h.it (follows_of_best hi h.best), most_new h.most (h.far hi) hle, getD_set_same (by rw [h.lw.ll]; omega) _, Nat.le_of_lt hi, by have := (h.far hi).le; omega⟩
theorem LO.drewN {f : Nat → Nat → Bool} {w wr : World} {gn gl n k s m : Nat} {ns ls : List Int} (h : LO f w wr gn gl n k s m ns ls) (q : Nat) : LO f w (wr.drewN q) gn gl n k s m ns ls :=
  ⟨h.lw.drewN q, h.tab, h.most, h.at', h.sn, h.mn⟩
theorem run_makeL (m : Nat) (hm : m ≤ 1000000) (W : World) :
    (Instr.makeSlice 22 (.int .i64 0) (.int .i64 (m : Int))).run Try.prog W = .ok (.slice (some ⟨W.heap.size, 0, none⟩) 0 m) (W.alloc (.cells (madeCells #[.int .i64 0] m) 3)) := by
  obtain ⟨i0, hi, hz0, hz1, hz2⟩ := info_parts infoInt
  have := run_make (P := Try.prog) W 22 3 i0 (.int .i64 0) Try.underlying22 hi hz0 .i64 .i64 0 (m : Int) (by omega) (by omega) (by rw [hz2]; omega) (by omega)
  rw [this, hz1, show ((m : Int)).toNat = m by omega]
  simp [Value.cells]
theorem madeL_own (W : World) (m : Nat) (hm : m ≤ 1000000) : OwnInts (W.alloc (.cells (madeCells #[.int .i64 0] m) 3)) W.heap.size (.slice (some ⟨W.heap.size, 0, none⟩) 0 m) [] :=
  World.ownsRow_made W _ m (Nat.le_refl _) (by unfold maxLen; omega) (by rw [size_madeCells, Nat.mul_one])
/-- A longest row of places, as numbers. -/
def Goes (f : Nat → Nat → Bool) (n : Nat) (ys : List Int) : Prop := ∃ c : List Nat, ys = c.map (fun i : Nat => (i : Int)) ∧ IsLongest f n c

set_option maxHeartbeats 3000000 in
theorem longest_up (A : Option Addr) (n c b : Nat) (xs : List Int) (w : World) (hb : w.cell? ⟨b, 0, none⟩ = some (.slice A n c)) (hbl : b < w.heap.size) (h : Ints w A n xs) (hn : n ≤ 30) :
    Calls Try.prog 24 #[.int .i64 (n : Int), .func (.func 23) #[] #[.pointer (some ⟨b, 0, none⟩)]] w fun e w' => ∃ v ys, e = .returned v ∧ OwnInts w' w.heap.size v ys ∧ Below w.heap.size w w' ∧ Goes (upF xs) n ys := by
  obtain ⟨N, hN⟩ : ∃ N, N = n + 1 := ⟨_, rfl⟩
  have hnN : (n : Int) + 1 = (N : Int) := by omega
  have hwN : IntKind.i64.wrap (N : Int) = (N : Int) := IntWalk.i64_in _ (by omega)
  have hmk : ∀ W : World, (Instr.makeSlice 22 (.int .i64 (n : Int)) (.int .i64 (n : Int))).run Try.prog W = .ok (.slice (some ⟨W.heap.size, 0, none⟩) n n) (W.alloc (.cells (madeCells #[.int .i64 0] n) 3)) :=
    fun W => run_make_row' (P := Try.prog) 22 3 (.int .i64 0) 8 Try.underlying22 infoInt rfl .i64 .i64 n (by omega) (by omega) W
  have hmk2 : ∀ W : World, (Instr.makeSlice 22 (.int .i64 (N : Int)) (.int .i64 (N : Int))).run Try.prog W = .ok (.slice (some ⟨W.heap.size, 0, none⟩) N N) (W.alloc (.cells (madeCells #[.int .i64 0] N) 3)) :=
    fun W => run_make_row' (P := Try.prog) 22 3 (.int .i64 0) 8 Try.underlying22 infoInt rfl .i64 .i64 N (by omega) (by omega) W
  have HB0 := hid hb
  have HI := hid h
  have HNN := hid hN
  obtain ⟨f, hf⟩ : ∃ f, f = upF xs := ⟨_, rfl⟩
  rw [← hf]
  have HF := hid hf
  clear hb h hf hN
  go_enter Try.func24, Try.ntmps24
  go_upto_region 1 with fail
  go_cut [5, 6] from 12 to 16 (fun s5 s6 wx => ∃ gn gl, s5 = .slice (some ⟨gn, 0, none⟩) n n ∧ s6 = .slice (some ⟨gl, 0, none⟩) N N ∧ LW w wx gn gl n (List.replicate n 0) (List.replicate (n + 1) 0))
  case first =>
    go_wp2_with fail
    go_region
    · go_wp2
      go_meet
      exact ⟨_, _, rfl, rfl, (made_two w n N HNN.out).drew⟩
    · go_wp2
      go_meet
      exact ⟨_, _, rfl, rfl, (made_two' w n N HNN.out).drew⟩
  case rest =>
    obtain ⟨gn, gl, rfl, rfl, hlw⟩ := hcut
    have HS := hid (LO.start (f := f) hlw)
    have HGE := hid (⟨hlw.bn, hlw.bl⟩ : w.heap.size ≤ gn ∧ w.heap.size ≤ gl)
    clear hlw hmk hmk2 hwN
    generalize List.replicate n (0 : Int) = ns0 at HS
    generalize List.replicate (n + 1) (0 : Int) = ls0 at HS
    go_wp2_with fail
    go_loopg [7, 8] n (fun g sv iv wr => ∃ (k s m : Nat) (z : Int) (ns ls : List Int), k ≤ n ∧ k ≤ g ∧ sv = .int .i64 (s : Int) ∧ iv = .int .i64 z ∧ z = (k : Int) - 1 ∧ LO f w wr gn gl n k s m ns ls)
    case atStart => exact ⟨n, n, 0, _, _, _, Nat.le_refl _, Nat.le_refl _, rfl, rfl, by go_num, HS.out⟩
    case round =>
      clear HS
      obtain ⟨k, s, m, z, ns, ls, hk, hg, rfl, rfl, hz, hlo⟩ := hrel
      have HO := hid hlo
      have hsn := hlo.sn
      have hmn := hlo.mn
      clear hlo
      by_cases hk0 : 0 < k
      · obtain ⟨i, rfl⟩ : ∃ i, k = i + 1 := ⟨k - 1, by omega⟩
        obtain rfl : z = (i : Int) := by omega
        have hin : i < n := by omega
        have hiI : (i : Int) < (n : Int) := by omega
        have hiN : (i : Int) < (N : Int) := by omega
        have g1 := HO.out.lw.an.cell (j := i) (by rw [HO.out.lw.ln]; exact hin)
        have f1 := HO.out.lw.an.frozen i
        have HI1 := hid (HO.out.into hin)
        clear hz HO
        generalize ns.getD i 0 = y1 at g1
        go_wp2_with fail
        obtain ⟨w8, hw8⟩ : ∃ w8, w8 = wr.setCell ⟨gn, i, none⟩ (.int .i64 (n : Int)) := ⟨_, rfl⟩
        rw [← hw8] at HI1 ⊢
        generalize ns.set i (n : Int) = ns8 at HI1
        clear hw8 g1 f1
        go_loopg [9] n (fun g jv wq => ∃ (j t m' : Nat) (ns' : List Int), j ≤ n ∧ i < j ∧ n - j ≤ g ∧ jv = .int .i64 (j : Int) ∧ LI f w wq gn gl n i j t m' s m ns' ls)
        case atStart => exact ⟨i + 1, n, 0, _, by omega, by omega, by omega, by go_num, HI1.out⟩
        case round =>
          clear HI1
          obtain ⟨j, t, m1, ns1, hjn, hij, hg2, rfl, hli⟩ := hrel
          have HL := hid hli
          have htn := hli.tn
          have g1 := hli.lw.an.cell (j := i) (by rw [hli.lw.ln]; exact hin)
          have g2 := hli.lw.al.cell (j := t) (by rw [hli.lw.ll]; omega)
          rw [hli.at1] at g1
          rw [hli.at2] at g2
          have f1 := hli.lw.an.frozen i
          have f2 := hli.lw.al.frozen i
          have g3 := hli.lw.al.cell (j := i) (by rw [hli.lw.ll]; omega)
          have htN : (t : Int) < (N : Int) := by omega
          clear hli
          by_cases hlt : j < n
          · obtain ⟨a, hla, hfa⟩ := HL.out.at3 hij hlt
            have g4 := HL.out.lw.al.cell (j := j) (by rw [HL.out.lw.ll]; omega)
            rw [hla] at g4
            have HLA := hid hla
            have HFA := hid hfa
            have hjN : (j : Int) < (N : Int) := by omega
            have HC : Hid (wr.cell? ⟨b, 0, none⟩ = some (.slice A n c)) := (HL.out.lw.bel.cell (p := ⟨b, 0, none⟩) hbl).trans HB0.out
            have HIX := hid (HI.out.keep HL.out.lw.bel)
            clear hla hfa g3
            rcases hq : upF xs i j with _ | _
            · have HQ := hid hq
              have HQ2 : Hid (f i j = false) := by rw [HF.out]; exact hq
              clear hq
              go_wp2_with fail
              go_quiet ((go_at_call 23; exact Calls.quiet_of (mayUp A n c b i j xs false _ HC.out (HIX.out.drewN _) hin hlt HQ.out)))
              go_wp2
              go_roundg (n - (j + 1))
              case measure => omega
              case rel => exact ⟨j + 1, t, m1, _, by omega, by omega, by omega, by go_num, (HL.out.drewN _).no HQ2.out⟩
            · have HQ := hid hq
              have HQ2 : Hid (f i j = true) := by rw [HF.out]; exact hq
              clear hq
              by_cases hm : a + 1 ≤ m1
              · have hd : decide ((m1 : Int) < ((a + 1 : Nat) : Int)) = false := decide_eq_false (by omega)
                go_wp2_with fail
                go_quiet ((go_at_call 23; exact Calls.quiet_of (mayUp A n c b i j xs true _ HC.out (HIX.out.drewN _) hin hlt HQ.out)))
                go_wp2
                go_roundg (n - (j + 1))
                case measure => omega
                case rel => exact ⟨j + 1, t, m1, _, by omega, by omega, by omega, by go_num, (HL.out.drewN _).old HFA.out hm⟩
              · have hd : decide ((m1 : Int) < ((a + 1 : Nat) : Int)) = true := decide_eq_true (by omega)
                go_wp2_with fail
                go_quiet ((go_at_call 23; exact Calls.quiet_of (mayUp A n c b i j xs true _ HC.out (HIX.out.drewN _) hin hlt HQ.out)))
                go_wp2
                go_roundg (n - (j + 1))
                case measure => omega
                case rel => exact ⟨j + 1, j, a + 1, _, by omega, by omega, by omega, by go_num, (HL.out.drewN _).new hij hlt HQ2.out HFA.out HLA.out (by omega)⟩
          · obtain rfl : j = n := by omega
            have HSN := HL.out.lw.al
            have h5 := (HL.out.lw.setL i ((m1 : Int) + 1)).al.cell (j := i) (by rw [(HL.out.lw.setL i ((m1 : Int) + 1)).ll]; omega)
            have h6 := (HL.out.lw.setL i ((m1 : Int) + 1)).al.cell (j := s) (by rw [(HL.out.lw.setL i ((m1 : Int) + 1)).ll]; omega)
            rw [getD_set_same (by rw [HL.out.lw.ll]; omega)] at h5
            rw [getD_set_other (by have := HL.out.is; omega), HL.out.at'] at h6
            have hm1n : m1 + 1 ≤ j := by have := (HL.out.far hin).le; omega
            have hsN : (s : Int) < (N : Int) := by omega
            clear HSN
            generalize ls.getD i 0 = y2 at g3
            by_cases hle : m1 + 1 ≤ m
            · have hd : decide ((m : Int) < (m1 : Int) + 1) = false := decide_eq_false (by omega)
              have HD := hid ((HL.out.done hin hle).drewN)
              go_wp2_with fail
              go_quiet (fail)
              go_wp2
              go_roundg i
              case measure => omega
              case rel => exact ⟨i, s, m, _, _, _, by omega, by omega, rfl, rfl, by go_num, HD.out _⟩
            · have hd : decide ((m : Int) < (m1 : Int) + 1) = true := decide_eq_true (by omega)
              have HD := hid ((HL.out.done' hin (by omega)).drewN)
              go_wp2_with fail
              go_quiet (fail)
              go_wp2
              go_roundg i
              case measure => omega
              case rel => exact ⟨i, i, m1 + 1, _, _, _, by omega, by omega, rfl, rfl, by go_num, HD.out _⟩
      · obtain rfl : k = 0 := by omega
        obtain rfl : z = -1 := by omega
        clear hz hg
        have HT := hid HO.out.tab
        have HM := hid HO.out.most
        have HLW := hid HO.out.lw
        have g1 := HO.out.lw.al.cell (j := s) (by rw [HO.out.lw.ll]; omega)
        rw [HO.out.at'] at g1
        have hsN : (s : Int) < (N : Int) := by omega
        have hmk3 := run_makeL m (by omega)
        have HO3 := hid (madeL_own wr m (by omega))
        have HL3 := hid (HLW.out.keep (below_alloc wr (.cells (madeCells #[.int .i64 0] m) 3)))
        have HTK := hid (taken_start HM.out)
        have HLL := hid (longest_of_most HM.out)
        have HBS : Hid (w.heap.size ≤ wr.heap.size ∧ gn < wr.heap.size ∧ gl < wr.heap.size) := ⟨HLW.out.bel.size, HLW.out.an.lt, HLW.out.al.lt⟩
        have HBA : Hid (wr.heap.size ≤ (wr.alloc (.cells (madeCells #[.int .i64 0] m) 3)).heap.size) := (below_alloc wr _).size
        clear HO HLW HM
        go_wp2_with fail
        generalize wr.heap.size = bs at *
        go_loopg [10, 11] m (fun g lv iv wq => ∃ (i a : Nat) (cs : List Nat), i ≤ n ∧ a ≤ g ∧ iv = .int .i64 (i : Int) ∧ OwnInts wq bs lv (cs.map (fun i : Nat => (i : Int))) ∧ LW w wq gn gl n ns ls ∧ Taken f n cs i a ∧ cs.length + a = m ∧ bs ≤ wq.heap.size)
        case atStart => exact ⟨s, m, [], hsn, Nat.le_refl _, rfl, HO3.out, HL3.out, HTK.out, by simp, HBA.out⟩
        case round =>
          clear HO3 HL3 HTK HBA hmk3 g1
          rename_i lv
          obtain ⟨i, a, cs, hi, hg, rfl, hown, hlw, htk, hlen, hbs⟩ := hrel
          have HO := hid hown
          have HL := hid hlw
          have HK := hid htk
          have HLN := hid hlen
          have HBQ := hid hbs
          clear hown hlw htk hlen hbs
          by_cases hlt : i < n
          · obtain ⟨t, m2, h1, _, _, h2, h3⟩ := HT.out.2 i (Nat.zero_le _) hlt
            obtain ⟨h4, h5⟩ := taken_step HK.out hlt h3
            have H1 := hid h1
            have H4 := hid h4
            subst h5
            clear h1 h3 h4
            go_wp2_with (at_builtin; refine wpList_app1 _ rfl (.tmp 91) (.tmp 93) rfl bs _ _ (i : Int) rfl rfl HO.out (by rw [List.length_map]; have := HLN.out; omega) HBQ.out ?_)
            intro v' w1 hown1 _ hbel1
            have HO1 : Hid (OwnInts w1 bs v' ((cs ++ [i]).map (fun i : Nat => (i : Int)))) := by rw [List.map_append]; exact hown1
            have HL1 := hid (HL.out.keepB HBS.out.2.1 HBS.out.2.2 HBS.out.1 hbel1)
            have HB1 : Hid (bs ≤ w1.heap.size) := Nat.le_trans HBQ.out hbel1.size
            have g1 := HL1.out.an.cell (j := i) (by rw [HL1.out.ln]; exact hlt)
            rw [H1.out] at g1
            have hiI : (i : Int) < (n : Int) := by omega
            clear hown1 hbel1 HO HL HK HBQ
            go_wp2
            go_roundg m2
            case measure => omega
            case rel => exact ⟨t, m2, cs ++ [i], h2, by omega, rfl, HO1.out, HL1.out, H4.out, by have := HLN.out; rw [List.length_append]; simp; omega, HB1.out⟩
          · obtain rfl : i = n := by omega
            obtain ⟨h1, rfl⟩ := taken_end HK.out
            have HLC : Hid (IsLongest f i cs) := ⟨h1, by have e : cs.length = m := HLN.out; rw [e]; exact HLL.out⟩
            clear h1
            go_wp2
            go_ret
            exact ⟨_, _, rfl, HO.out.mono HBS.out.1, HL.out.bel, cs, rfl, HLC.out⟩
set_option maxHeartbeats 3000000 in
theorem longest_down (A : Option Addr) (n c b : Nat) (xs : List Int) (w : World) (hb : w.cell? ⟨b, 0, none⟩ = some (.slice A n c)) (hbl : b < w.heap.size) (h : Ints w A n xs) (hn : n ≤ 30) :
    Calls Try.prog 24 #[.int .i64 (n : Int), .func (.func 25) #[] #[.pointer (some ⟨b, 0, none⟩)]] w fun e w' => ∃ v ys, e = .returned v ∧ OwnInts w' w.heap.size v ys ∧ Below w.heap.size w w' ∧ Goes (downF xs) n ys := by
  obtain ⟨N, hN⟩ : ∃ N, N = n + 1 := ⟨_, rfl⟩
  have hnN : (n : Int) + 1 = (N : Int) := by omega
  have hwN : IntKind.i64.wrap (N : Int) = (N : Int) := IntWalk.i64_in _ (by omega)
  have hmk : ∀ W : World, (Instr.makeSlice 22 (.int .i64 (n : Int)) (.int .i64 (n : Int))).run Try.prog W = .ok (.slice (some ⟨W.heap.size, 0, none⟩) n n) (W.alloc (.cells (madeCells #[.int .i64 0] n) 3)) :=
    fun W => run_make_row' (P := Try.prog) 22 3 (.int .i64 0) 8 Try.underlying22 infoInt rfl .i64 .i64 n (by omega) (by omega) W
  have hmk2 : ∀ W : World, (Instr.makeSlice 22 (.int .i64 (N : Int)) (.int .i64 (N : Int))).run Try.prog W = .ok (.slice (some ⟨W.heap.size, 0, none⟩) N N) (W.alloc (.cells (madeCells #[.int .i64 0] N) 3)) :=
    fun W => run_make_row' (P := Try.prog) 22 3 (.int .i64 0) 8 Try.underlying22 infoInt rfl .i64 .i64 N (by omega) (by omega) W
  have HB0 := hid hb
  have HI := hid h
  have HNN := hid hN
  obtain ⟨f, hf⟩ : ∃ f, f = downF xs := ⟨_, rfl⟩
  rw [← hf]
  have HF := hid hf
  clear hb h hf hN
  go_enter Try.func24, Try.ntmps24
  go_upto_region 1 with fail
  go_cut [5, 6] from 12 to 16 (fun s5 s6 wx => ∃ gn gl, s5 = .slice (some ⟨gn, 0, none⟩) n n ∧ s6 = .slice (some ⟨gl, 0, none⟩) N N ∧ LW w wx gn gl n (List.replicate n 0) (List.replicate (n + 1) 0))
  case first =>
    go_wp2_with fail
    go_region
    · go_wp2
      go_meet
      exact ⟨_, _, rfl, rfl, (made_two w n N HNN.out).drew⟩
    · go_wp2
      go_meet
      exact ⟨_, _, rfl, rfl, (made_two' w n N HNN.out).drew⟩
  case rest =>
    obtain ⟨gn, gl, rfl, rfl, hlw⟩ := hcut
    have HS := hid (LO.start (f := f) hlw)
    have HGE := hid (⟨hlw.bn, hlw.bl⟩ : w.heap.size ≤ gn ∧ w.heap.size ≤ gl)
    clear hlw hmk hmk2 hwN
    generalize List.replicate n (0 : Int) = ns0 at HS
    generalize List.replicate (n + 1) (0 : Int) = ls0 at HS
    go_wp2_with fail
    go_loopg [7, 8] n (fun g sv iv wr => ∃ (k s m : Nat) (z : Int) (ns ls : List Int), k ≤ n ∧ k ≤ g ∧ sv = .int .i64 (s : Int) ∧ iv = .int .i64 z ∧ z = (k : Int) - 1 ∧ LO f w wr gn gl n k s m ns ls)
    case atStart => exact ⟨n, n, 0, _, _, _, Nat.le_refl _, Nat.le_refl _, rfl, rfl, by go_num, HS.out⟩
    case round =>
      clear HS
      obtain ⟨k, s, m, z, ns, ls, hk, hg, rfl, rfl, hz, hlo⟩ := hrel
      have HO := hid hlo
      have hsn := hlo.sn
      have hmn := hlo.mn
      clear hlo
      by_cases hk0 : 0 < k
      · obtain ⟨i, rfl⟩ : ∃ i, k = i + 1 := ⟨k - 1, by omega⟩
        obtain rfl : z = (i : Int) := by omega
        have hin : i < n := by omega
        have hiI : (i : Int) < (n : Int) := by omega
        have hiN : (i : Int) < (N : Int) := by omega
        have g1 := HO.out.lw.an.cell (j := i) (by rw [HO.out.lw.ln]; exact hin)
        have f1 := HO.out.lw.an.frozen i
        have HI1 := hid (HO.out.into hin)
        clear hz HO
        generalize ns.getD i 0 = y1 at g1
        go_wp2_with fail
        obtain ⟨w8, hw8⟩ : ∃ w8, w8 = wr.setCell ⟨gn, i, none⟩ (.int .i64 (n : Int)) := ⟨_, rfl⟩
        rw [← hw8] at HI1 ⊢
        generalize ns.set i (n : Int) = ns8 at HI1
        clear hw8 g1 f1
        go_loopg [9] n (fun g jv wq => ∃ (j t m' : Nat) (ns' : List Int), j ≤ n ∧ i < j ∧ n - j ≤ g ∧ jv = .int .i64 (j : Int) ∧ LI f w wq gn gl n i j t m' s m ns' ls)
        case atStart => exact ⟨i + 1, n, 0, _, by omega, by omega, by omega, by go_num, HI1.out⟩
        case round =>
          clear HI1
          obtain ⟨j, t, m1, ns1, hjn, hij, hg2, rfl, hli⟩ := hrel
          have HL := hid hli
          have htn := hli.tn
          have g1 := hli.lw.an.cell (j := i) (by rw [hli.lw.ln]; exact hin)
          have g2 := hli.lw.al.cell (j := t) (by rw [hli.lw.ll]; omega)
          rw [hli.at1] at g1
          rw [hli.at2] at g2
          have f1 := hli.lw.an.frozen i
          have f2 := hli.lw.al.frozen i
          have g3 := hli.lw.al.cell (j := i) (by rw [hli.lw.ll]; omega)
          have htN : (t : Int) < (N : Int) := by omega
          clear hli
          by_cases hlt : j < n
          · obtain ⟨a, hla, hfa⟩ := HL.out.at3 hij hlt
            have g4 := HL.out.lw.al.cell (j := j) (by rw [HL.out.lw.ll]; omega)
            rw [hla] at g4
            have HLA := hid hla
            have HFA := hid hfa
            have hjN : (j : Int) < (N : Int) := by omega
            have HC : Hid (wr.cell? ⟨b, 0, none⟩ = some (.slice A n c)) := (HL.out.lw.bel.cell (p := ⟨b, 0, none⟩) hbl).trans HB0.out
            have HIX := hid (HI.out.keep HL.out.lw.bel)
            clear hla hfa g3
            rcases hq : downF xs i j with _ | _
            · have HQ := hid hq
              have HQ2 : Hid (f i j = false) := by rw [HF.out]; exact hq
              clear hq
              go_wp2_with fail
              go_quiet ((go_at_call 25; exact Calls.quiet_of (mayDown A n c b i j xs false _ HC.out (HIX.out.drewN _) hin hlt HQ.out)))
              go_wp2
              go_roundg (n - (j + 1))
              case measure => omega
              case rel => exact ⟨j + 1, t, m1, _, by omega, by omega, by omega, by go_num, (HL.out.drewN _).no HQ2.out⟩
            · have HQ := hid hq
              have HQ2 : Hid (f i j = true) := by rw [HF.out]; exact hq
              clear hq
              by_cases hm : a + 1 ≤ m1
              · have hd : decide ((m1 : Int) < ((a + 1 : Nat) : Int)) = false := decide_eq_false (by omega)
                go_wp2_with fail
                go_quiet ((go_at_call 25; exact Calls.quiet_of (mayDown A n c b i j xs true _ HC.out (HIX.out.drewN _) hin hlt HQ.out)))
                go_wp2
                go_roundg (n - (j + 1))
                case measure => omega
                case rel => exact ⟨j + 1, t, m1, _, by omega, by omega, by omega, by go_num, (HL.out.drewN _).old HFA.out hm⟩
              · have hd : decide ((m1 : Int) < ((a + 1 : Nat) : Int)) = true := decide_eq_true (by omega)
                go_wp2_with fail
                go_quiet ((go_at_call 25; exact Calls.quiet_of (mayDown A n c b i j xs true _ HC.out (HIX.out.drewN _) hin hlt HQ.out)))
                go_wp2
                go_roundg (n - (j + 1))
                case measure => omega
                case rel => exact ⟨j + 1, j, a + 1, _, by omega, by omega, by omega, by go_num, (HL.out.drewN _).new hij hlt HQ2.out HFA.out HLA.out (by omega)⟩
          · obtain rfl : j = n := by omega
            have HSN := HL.out.lw.al
            have h5 := (HL.out.lw.setL i ((m1 : Int) + 1)).al.cell (j := i) (by rw [(HL.out.lw.setL i ((m1 : Int) + 1)).ll]; omega)
            have h6 := (HL.out.lw.setL i ((m1 : Int) + 1)).al.cell (j := s) (by rw [(HL.out.lw.setL i ((m1 : Int) + 1)).ll]; omega)
            rw [getD_set_same (by rw [HL.out.lw.ll]; omega)] at h5
            rw [getD_set_other (by have := HL.out.is; omega), HL.out.at'] at h6
            have hm1n : m1 + 1 ≤ j := by have := (HL.out.far hin).le; omega
            have hsN : (s : Int) < (N : Int) := by omega
            clear HSN
            generalize ls.getD i 0 = y2 at g3
            by_cases hle : m1 + 1 ≤ m
            · have hd : decide ((m : Int) < (m1 : Int) + 1) = false := decide_eq_false (by omega)
              have HD := hid ((HL.out.done hin hle).drewN)
              go_wp2_with fail
              go_quiet (fail)
              go_wp2
              go_roundg i
              case measure => omega
              case rel => exact ⟨i, s, m, _, _, _, by omega, by omega, rfl, rfl, by go_num, HD.out _⟩
            · have hd : decide ((m : Int) < (m1 : Int) + 1) = true := decide_eq_true (by omega)
              have HD := hid ((HL.out.done' hin (by omega)).drewN)
              go_wp2_with fail
              go_quiet (fail)
              go_wp2
              go_roundg i
              case measure => omega
              case rel => exact ⟨i, i, m1 + 1, _, _, _, by omega, by omega, rfl, rfl, by go_num, HD.out _⟩
      · obtain rfl : k = 0 := by omega
        obtain rfl : z = -1 := by omega
        clear hz hg
        have HT := hid HO.out.tab
        have HM := hid HO.out.most
        have HLW := hid HO.out.lw
        have g1 := HO.out.lw.al.cell (j := s) (by rw [HO.out.lw.ll]; omega)
        rw [HO.out.at'] at g1
        have hsN : (s : Int) < (N : Int) := by omega
        have hmk3 := run_makeL m (by omega)
        have HO3 := hid (madeL_own wr m (by omega))
        have HL3 := hid (HLW.out.keep (below_alloc wr (.cells (madeCells #[.int .i64 0] m) 3)))
        have HTK := hid (taken_start HM.out)
        have HLL := hid (longest_of_most HM.out)
        have HBS : Hid (w.heap.size ≤ wr.heap.size ∧ gn < wr.heap.size ∧ gl < wr.heap.size) := ⟨HLW.out.bel.size, HLW.out.an.lt, HLW.out.al.lt⟩
        have HBA : Hid (wr.heap.size ≤ (wr.alloc (.cells (madeCells #[.int .i64 0] m) 3)).heap.size) := (below_alloc wr _).size
        clear HO HLW HM
        go_wp2_with fail
        generalize wr.heap.size = bs at *
        go_loopg [10, 11] m (fun g lv iv wq => ∃ (i a : Nat) (cs : List Nat), i ≤ n ∧ a ≤ g ∧ iv = .int .i64 (i : Int) ∧ OwnInts wq bs lv (cs.map (fun i : Nat => (i : Int))) ∧ LW w wq gn gl n ns ls ∧ Taken f n cs i a ∧ cs.length + a = m ∧ bs ≤ wq.heap.size)
        case atStart => exact ⟨s, m, [], hsn, Nat.le_refl _, rfl, HO3.out, HL3.out, HTK.out, by simp, HBA.out⟩
        case round =>
          clear HO3 HL3 HTK HBA hmk3 g1
          rename_i lv
          obtain ⟨i, a, cs, hi, hg, rfl, hown, hlw, htk, hlen, hbs⟩ := hrel
          have HO := hid hown
          have HL := hid hlw
          have HK := hid htk
          have HLN := hid hlen
          have HBQ := hid hbs
          clear hown hlw htk hlen hbs
          by_cases hlt : i < n
          · obtain ⟨t, m2, h1, _, _, h2, h3⟩ := HT.out.2 i (Nat.zero_le _) hlt
            obtain ⟨h4, h5⟩ := taken_step HK.out hlt h3
            have H1 := hid h1
            have H4 := hid h4
            subst h5
            clear h1 h3 h4
            go_wp2_with (at_builtin; refine wpList_app1 _ rfl (.tmp 91) (.tmp 93) rfl bs _ _ (i : Int) rfl rfl HO.out (by rw [List.length_map]; have := HLN.out; omega) HBQ.out ?_)
            intro v' w1 hown1 _ hbel1
            have HO1 : Hid (OwnInts w1 bs v' ((cs ++ [i]).map (fun i : Nat => (i : Int)))) := by rw [List.map_append]; exact hown1
            have HL1 := hid (HL.out.keepB HBS.out.2.1 HBS.out.2.2 HBS.out.1 hbel1)
            have HB1 : Hid (bs ≤ w1.heap.size) := Nat.le_trans HBQ.out hbel1.size
            have g1 := HL1.out.an.cell (j := i) (by rw [HL1.out.ln]; exact hlt)
            rw [H1.out] at g1
            have hiI : (i : Int) < (n : Int) := by omega
            clear hown1 hbel1 HO HL HK HBQ
            go_wp2
            go_roundg m2
            case measure => omega
            case rel => exact ⟨t, m2, cs ++ [i], h2, by omega, rfl, HO1.out, HL1.out, H4.out, by have := HLN.out; rw [List.length_append]; simp; omega, HB1.out⟩
          · obtain rfl : i = n := by omega
            obtain ⟨h1, rfl⟩ := taken_end HK.out
            have HLC : Hid (IsLongest f i cs) := ⟨h1, by have e : cs.length = m := HLN.out; rw [e]; exact HLL.out⟩
            clear h1
            go_wp2
            go_ret
            exact ⟨_, _, rfl, HO.out.mono HBS.out.1, HL.out.bel, cs, rfl, HLC.out⟩
end Go.Proofs.Ytdcmknnmdiocdaa
