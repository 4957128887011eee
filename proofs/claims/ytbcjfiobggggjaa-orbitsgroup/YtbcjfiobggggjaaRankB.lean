/-
  package rank: digits, decode, At; slices.Delete of one number.
-/
import Derived.Test.YtbcjfiobggggjaaRankA
import Derived.Test.YtbcjfiobggggjaaPerms
import Derived.Deep.RegionLaw
import Derived.Lib.SliceRun
namespace Go.Proofs.Ytbcjfiobggggjaa
open Go.RowKit

/-! ### digits -/

/-- The cells when j digits are laid, from the end on. -/
def cellD (n k j i : Nat) : Value := .int .i64 (if n - j ≤ i then (digL n k).getD i 0 else 0)
theorem cellD_step {n k j m : Nat} (hm : m + j + 1 = n) (x : Int) (hx : x = ((k / fact j % (j + 1) : Nat) : Int)) (i : Nat) (_hi : i < n) :
    (if i = m then Value.int .i64 x else cellD n k j i) = cellD n k (j + 1) i := by
  unfold cellD
  by_cases e : i = m
  · subst e
    rw [if_pos rfl, if_pos (by omega), getD_digL n k i (by omega), hx, show n - 1 - i = j by omega, show n - i = j + 1 by omega]
  · rw [if_neg e]
    by_cases h : n - j ≤ i
    · rw [if_pos h, if_pos (by omega)]
    · rw [if_neg h, if_neg (by omega)]

set_option maxHeartbeats 800000 in
theorem digits_any (n k : Nat) (w : World) (hn : n ≤ 10) (hk : k ≤ 1000000000) :
    Calls Try.prog 73 #[.int .i64 (n : Int), .int .i64 (k : Int)] w fun e w' => e = .returned (.slice (some ⟨w.heap.size, 0, none⟩) n n) ∧ Ints w' (some ⟨w.heap.size, 0, none⟩) n (digL n k) ∧ Below w.heap.size w w' := by
  have hmk := fun W => run_make_row' (P := Try.prog) 23 3 (.int .i64 0) 8 Try.underlying23 infoInt rfl .i64 .i64 n (by omega) (by omega) W
  go_enter Try.func73, Try.ntmps73
  go_wp2_with fail
  go_loopg [1, 6] n (fun g u s wr => ∃ j : Nat, j ≤ n ∧ n - j ≤ g ∧ u = .int .i64 ((k / fact j : Nat) : Int) ∧ s = .int .i64 ((n : Int) - 1 - j) ∧ wr.rowIs w.heap.size 3 n (cellD n k j) ∧ Below w.heap.size w wr)
  case atStart => exact ⟨0, Nat.zero_le _, by omega, by simp [fact], by go_num, (World.rowIs_made w _ n _).congr (fun i hi => by unfold cellD; rw [if_neg (by omega)]), (Below.refl _ _).alloc (Nat.le_refl _) _⟩
  case round =>
    obtain ⟨j, hj, hg, rfl, rfl, hrow, hbel⟩ := hrel
    have HR := hid hrow
    have HB := hid hbel
    clear hrow hbel hmk
    by_cases hlt : j < n
    · obtain ⟨m, hm⟩ : ∃ m, m + j + 1 = n := ⟨n - 1 - j, by omega⟩
      have hi : (n : Int) - 1 - j = m := by omega
      have HI := hid hi
      have HM := hid hm
      have hmn : m < n := by omega
      have hq : k / fact j ≤ k := Nat.div_le_self _ _
      have f1 : wr.frozen? ⟨w.heap.size, m, none⟩ = false := HR.out.frozen m
      have g1 := HR.out.cell (i := m) (by omega)
      have HC : Hid (∀ x : Int, x = ((k / fact j % (j + 1) : Nat) : Int) → (wr.setCell ⟨w.heap.size, m, none⟩ (.int .i64 x)).rowIs w.heap.size 3 n (cellD n k (j + 1))) :=
        fun x hx => (HR.out.set m (.int .i64 x)).congr (cellD_step hm x hx)
      have HF := hid (fact_step k j)
      rw [HI.out]
      clear hi hm
      generalize cellD n k j m = v1 at g1
      generalize k / fact j = q at hq HC HF ⊢
      have HN : Hid ((n : Int) - (m : Int) = ((j + 1 : Nat) : Int)) := by have := HM.out; show (n : Int) - m = _; omega
      have e1 : (q : Int) % ((n : Int) - (m : Int)) = ((q % (j + 1) : Nat) : Int) := by rw [HN.out]; exact (Int.natCast_emod q (j + 1)).symm
      have e2 : (q : Int) / ((n : Int) - (m : Int)) = ((q / (j + 1) : Nat) : Int) := by rw [HN.out]; exact (Int.natCast_ediv q (j + 1)).symm
      have E1 := hid e1
      have E2 := hid e2
      clear e1 e2
      go_wp2
      have hm := HM.out
      go_roundg (n - (j + 1))
      case measure => omega
      case rel => exact ⟨j + 1, by omega, by omega, by have := Nat.div_le_self k (fact (j + 1)); rw [E2.out, HF.out]; generalize k / fact (j + 1) = z at *; rw [IntWalk.wrap64_in _ (by omega)], by go_num, HC.out _ E1.out, HB.out.setCell (Nat.le_refl _) _⟩
    · have hjn : j = n := by omega
      subst hjn
      have hneg : ¬ (0 : Int) ≤ (j : Int) - 1 - j := by omega
      go_wp2
      go_ret
      exact ⟨rfl, ints_of_row HR.out (length_digL j k) (fun i _ => by unfold cellD; rw [if_pos (by omega)]), HB.out⟩

/-! ### Delete -/

theorem drop_app_one {a b : List Int} {k : Nat} (h : a.length = k) : (a ++ b).drop (k + [(0 : Int)].length) = b.drop 1 := by
  subst h
  simp

set_option maxRecDepth 100000 in
set_option maxHeartbeats 1600000 in
/-- 'slices.Delete(s, i, i+1)' in a block that is known whole. -/
theorem delete_one (g m cap i : Nat) (L : Int) (xs : List Int) (w : World) (h : Arr w g xs) (hcap : xs.length = cap) (hm : m ≤ cap) (hi : i < m) (_hc2 : cap ≤ 1000000) (hL : L = (i : Int) + 1) :
    Calls Try.prog 96 #[.slice (some ⟨g, 0, none⟩) m cap, .int .i64 (i : Int), .int .i64 L] w fun e w' =>
      e = .returned (.slice (some ⟨g, 0, none⟩) (m - 1) cap) ∧ Arr w' g (xs.take i ++ (xs.take m).drop (i + 1) ++ 0 :: xs.drop m) ∧ w.grownBy w' (some g) := by
  subst hL
  obtain ⟨i0, hi0, hz0, hz1, hz2⟩ := info_parts infoInt
  obtain ⟨news, hnews⟩ : ∃ news, news = ((xs.take m).drop (i + 1)).map (Value.int .i64) := ⟨_, rfl⟩
  have hlen : news.length = m - (i + 1) := by rw [hnews]; simp; omega
  have HX := hid hcap
  obtain ⟨A, hA, hsrc⟩ : ∃ A : Addr, subA (some ⟨g, 0, none⟩) cap (i + 1) = some A ∧ Hid (∀ t u, news[t]? = some u → w.drew.cell? (A.add t) = some u) := by
    by_cases hc : cap = i + 1
    · refine ⟨⟨g, 0, none⟩, by unfold subA; rw [if_pos hc], fun t u hu => ?_⟩
      have h0 : news.length = 0 := by rw [hlen]; omega
      rw [List.length_eq_zero_iff.1 h0] at hu
      simp at hu
    · refine ⟨⟨g, i + 1, none⟩, by unfold subA; rw [if_neg hc]; simp [Addr.add], fun t u hu => ?_⟩
      have ht : t < m - (i + 1) := by
        have := (List.getElem?_eq_some_iff.1 hu).1
        rwa [hlen] at this
      rw [Addr.add_lit]
      have hcell := h.cell (j := i + 1 + t) (by omega)
      show w.cell? _ = _
      rw [hcell, ← hu, hnews, List.getElem?_map, List.getElem?_drop, List.getElem?_take, if_pos (by omega), List.getElem?_eq_getElem (by omega), List.getD_eq_getElem?_getD, List.getElem?_eq_getElem (by omega)]
      rfl
  have hsl := fun W => run_from (some ⟨g, 0, none⟩) m cap (i + 1) ((i : Int) + 1) (by omega) (by omega) W
  simp only [hA] at hsl
  have s1 : Hid (news.length = (m - (i + 1)) * 1) := by rw [Nat.mul_one]; exact hlen
  have s2 : Hid (∀ u ∈ news, u.oneCell' = true) := by
    intro u hu
    rw [hnews] at hu
    obtain ⟨x, _, rfl⟩ := List.mem_map.1 hu
    rfl
  have s3 : Hid (∀ t, t < news.length → (w.drew.cell? ⟨g, 0 + i * 1 + t, none⟩).isSome = true ∧ w.drew.frozen? ⟨g, 0 + i * 1 + t, none⟩ = false) := by
    intro t ht
    rw [hlen] at ht
    refine ⟨?_, h.frozen _⟩
    show (w.cell? _).isSome = true
    rw [h.cell (by omega)]
    rfl
  obtain ⟨W1, hW1⟩ : ∃ W1, W1 = w.drew.setCells g (0 + i * 1) news := ⟨_, rfl⟩
  have hnl : ((xs.take m).drop (i + 1)).length = m - (i + 1) := by simp; omega
  have a1 : Arr W1 g (xs.take i ++ (xs.take m).drop (i + 1) ++ xs.drop (i + (m - (i + 1)))) := by
    have := h.drew.setCells (o := i) (ys := (xs.take m).drop (i + 1)) (by rw [hnl]; omega)
    rw [hnl] at this
    rw [hW1, hnews, show 0 + i * 1 = i by omega]
    exact this
  have o1 : w.grownBy W1 (some g) := by rw [hW1]; exact one_sets (one_drew (one_refl w _))
  have A1 := hid a1
  have O1 := hid o1
  have hyl : (xs.take i ++ (xs.take m).drop (i + 1) ++ xs.drop (i + (m - (i + 1)))).length = cap := by
    simp only [List.length_append, hnl, List.length_take, List.length_drop]; omega
  have HYL := hid hyl
  have hcl : ∀ ty, (Builtin.clear_ #[23] ty #[.slice (some ⟨g, i + (m - (i + 1)), none⟩) (m - (i + (m - (i + 1)))) (cap - (i + (m - (i + 1))))]).run Try.prog W1 = .ok (.tuple #[]) (W1.setCells g (i + (m - (i + 1))) (List.replicate (m - (i + (m - (i + 1)))) (.int .i64 0))) :=
    fun ty => Lib.run_clear_slice W1 23 3 ty (.int .i64 0) Try.underlying23 (fun _ => by kernel_rfl) rfl rfl g (i + (m - (i + 1))) _ _ (by omega) (fun t ht => by rw [a1.cell (by rw [hyl]; omega)]; rfl) (fun t ht => a1.frozen _)
  have hW := hid hW1
  have HN := hid hnews
  clear hW1 a1 o1 hyl hnews hnl hlen hcap h hA
  have hic : i ≤ cap := by omega
  go_enter Try.func96, Try.ntmps96
  go_wp2_with fail
  go_region_law (refine step_append_room rfl (.tmp 22) (.tmp 25) 23 rfl 3 i0 1 Try.underlying23 hi0 hz1 g 0 i cap (by simp [Act.eval, Act.put]) A (m - (i + 1)) (cap - (i + 1)) news (by simp [Act.eval, Act.put]) s1.out hsrc.out s2.out (by omega) s3.out ?_; rw [← hW.out])
  go_wp2
  go_ret
  have hl2 : (xs.take i ++ (xs.take m).drop (i + 1)).length = i + (m - (i + 1)) := by
    have := HX.out
    simp only [List.length_append, List.length_take, List.length_drop]; omega
  refine ⟨by rw [show m - 1 = i + (m - (i + 1)) by omega]; rfl, ?_, one_sets O1.out⟩
  have a2 := A1.out.setCells (o := i + (m - (i + 1))) (ys := [0]) (by rw [HYL.out]; simp; omega)
  rw [show m - (i + (m - (i + 1))) = 1 by omega]
  rw [List.take_left' hl2, drop_app_one hl2, List.drop_drop, show i + (m - (i + 1)) + 1 = m by omega, List.append_assoc] at a2
  exact a2

/-! ### decode -/

/-- The first k cells hold their own number. -/
def ownUpto (n k : Nat) : List Int := iota k ++ List.replicate (n - k) 0
theorem length_ownUpto {n k : Nat} (h : k ≤ n) : (ownUpto n k).length = n := by simp [ownUpto, length_iota]; omega
theorem iota_succ (k : Nat) : iota (k + 1) = iota k ++ [(k : Int)] := by simp [iota, List.range_succ]
theorem ownUpto_step {n k : Nat} (h : k < n) : (ownUpto n k).set k (k : Int) = ownUpto n (k + 1) := by
  unfold ownUpto
  obtain ⟨m, rfl⟩ : ∃ m, n = k + 1 + m := ⟨n - (k + 1), by omega⟩
  rw [show k + 1 + m - k = m + 1 by omega, show k + 1 + m - (k + 1) = m by omega, List.replicate_succ, List.set_append_right _ _ (by rw [length_iota]; exact Nat.le_refl _), length_iota, Nat.sub_self, List.set_cons_zero, iota_succ, List.append_assoc]
  rfl
theorem ownUpto_end (n : Nat) : ownUpto n n = iota n := by simp [ownUpto]

theorem pick_step {left ds : List Int} {k : Nat} (hk : k < ds.length) : pick left (ds.drop k) = left.getD (ds.getD k 0).toNat 0 :: pick (left.eraseIdx (ds.getD k 0).toNat) (ds.drop (k + 1)) := by
  have e : ds.getD k 0 = ds[k] := by rw [List.getD_eq_getElem?_getD, List.getElem?_eq_getElem hk]; rfl
  rw [List.drop_eq_getElem_cons hk, e]
  rfl
theorem erase_take (xs : List Int) {m i : Nat} (hi : i < m) (hm : m ≤ xs.length) : (xs.take i ++ (xs.take m).drop (i + 1) ++ 0 :: xs.drop m).take (m - 1) = (xs.take m).eraseIdx i := by
  rw [List.take_left' (by simp only [List.length_append, List.length_take, List.length_drop]; omega), List.eraseIdx_eq_take_drop_succ, List.take_take, Nat.min_eq_left (by omega)]

theorem dec_step {L P ds Z : List Int} {k t y : Nat} (hL : L.length = k) (hP : P.length = k) (hds : ds.length = k) (hZ : Z.length = k) (ht : t < k) (hy : ds.getD t 0 = (y : Int)) (hyl : y < k - t)
    (h1 : P.take t = Z.take t) (h2 : pick (L.take (k - t)) (ds.drop t) = Z.drop t) :
    (P.set t (L.getD y 0)).take (t + 1) = Z.take (t + 1) ∧ pick ((L.take y ++ (L.take (k - t)).drop (y + 1) ++ 0 :: L.drop (k - t)).take (k - (t + 1))) (ds.drop (t + 1)) = Z.drop (t + 1) := by
  have hzd : Z.drop t = Z[t]'(by omega) :: Z.drop (t + 1) := List.drop_eq_getElem_cons (by omega)
  rw [pick_step (by omega), hy, Int.toNat_natCast, hzd] at h2
  injection h2 with h3 h4
  have e1 : (L.take (k - t)).getD y 0 = L.getD y 0 := by simp [List.getD_eq_getElem?_getD, hyl]
  have e2 : Z.getD t 0 = Z[t] := by rw [List.getD_eq_getElem?_getD, List.getElem?_eq_getElem (by omega)]; rfl
  constructor
  · rw [take_snoc (by rw [List.length_set]; omega), getD_set, if_pos ⟨rfl, by omega⟩, List.take_set_of_le (by omega), h1, take_snoc (by omega), e2, ← h3, e1]
  · rw [show k - (t + 1) = k - t - 1 by omega, erase_take L hyl (by omega), h4]

/-- What holds of the two blocks when t numbers are laid. -/
def DecInv (w : World) (g2 : Nat) (k t : Nat) (ds : List Int) (wq : World) : Prop :=
  Below w.heap.size w wq ∧ ∃ L P : List Int, Arr wq w.heap.size L ∧ L.length = k ∧ Arr wq g2 P ∧ P.length = k ∧ P.take t = (pick (iota k) ds).take t ∧ pick (L.take (k - t)) (ds.drop t) = (pick (iota k) ds).drop t

def RetAt (w : World) (n : Nat) (ys : List Int) (e : Ending) (w' : World) : Prop := ∃ g, e = .returned (.slice (some ⟨g, 0, none⟩) n n) ∧ Ints w' (some ⟨g, 0, none⟩) n ys ∧ Below w.heap.size w w'

def RetAtO (w : World) (n : Nat) (ys : List Int) (e : Ending) (w' : World) : Prop := ∃ g, e = .returned (.slice (some ⟨g, 0, none⟩) n n) ∧ w.heap.size ≤ g ∧ Arr w' g ys ∧ ys.length = n ∧ Below w.heap.size w w'

set_option maxHeartbeats 1600000 in
theorem decode_own (A : Option Addr) (n c : Nat) (ds : List Int) (w : World) (hA : Ints w A n ds) (hd : IsDig ds) (hn : n ≤ 10) :
    Calls Try.prog 72 #[.slice A n c] w (RetAtO w n (pick (iota n) ds)) := by
  have hmk := fun W => run_make_row' (P := Try.prog) 23 3 (.int .i64 0) 8 Try.underlying23 infoInt rfl .i64 .i64 n (by omega) (by omega) W
  have HL := hid hA.len
  go_enter Try.func72, Try.ntmps72
  go_wp2_with fail
  go_loopg [13] n (fun g s wr => ∃ k : Nat, k ≤ n ∧ n - k ≤ g ∧ s = .int .i64 k ∧ Arr wr w.heap.size (ownUpto n k) ∧ Below w.heap.size w wr)
  case atStart => exact ⟨0, Nat.zero_le _, by omega, rfl, by simpa [ownUpto, iota] using Arr.made w n, below_alloc _ _⟩
  case round =>
    obtain ⟨k, hk, hg, rfl, harr, hbel⟩ := hrel
    have HR := hid harr
    have HB := hid hbel
    clear harr hbel
    by_cases hlt : k < n
    · have f1 : wr.frozen? ⟨w.heap.size, k, none⟩ = false := HR.out.frozen k
      have g1 := HR.out.cell (j := k) (by rw [length_ownUpto hk]; exact hlt)
      have HS := hid (ownUpto_step hlt)
      have HW := hid (HR.out.set k (k : Int))
      generalize (ownUpto n k).getD k 0 = v1 at g1
      go_wp2
      go_roundg (n - (k + 1))
      case measure => omega
      case rel => exact ⟨k + 1, by omega, by omega, by go_num, by rw [← HS.out]; exact HW.out, HB.out.setCell (Nat.le_refl _) _⟩
    · have hkn : k = n := by omega
      subst hkn
      obtain ⟨w1, rfl⟩ : ∃ w1, w1 = wr := ⟨wr, rfl⟩
      have HI : Hid (Arr w1 w.heap.size (iota k)) := by have := HR.out; rw [ownUpto_end] at this; exact this
      have HZ := hid HB.out.size
      have hz : w.heap.size < w1.heap.size := HR.out.lt
      clear HR
      go_wp2_with fail
      go_loopg [3, 26] k (fun g v s wq => ∃ t : Nat, t ≤ k ∧ k - t ≤ g ∧ s = .int .i64 t ∧ v = .slice (some ⟨w.heap.size, 0, none⟩) (k - t) k ∧ DecInv w w1.heap.size k t ds wq)
      case atStart => exact ⟨0, Nat.zero_le _, by omega, rfl, rfl, HB.out.alloc HZ.out _, iota k, _, HI.out.alloc _, length_iota k, Arr.made w1 k, List.length_replicate, rfl, by rw [Nat.sub_zero, List.take_of_length_le (by rw [length_iota]; exact Nat.le_refl _)]; rfl⟩
      case round =>
        clear HB
        obtain ⟨t, ht, hgt, rfl, rfl, hinv⟩ := hrel
        obtain ⟨hbel, L, P, aL, hL, aP, hP, e1, e2⟩ := hinv
        have HB := hid hbel
        have AL := hid aL
        have AP := hid aP
        have HLL := hid hL
        have HPL := hid hP
        have E1 := hid e1
        have E2 := hid e2
        clear hbel aL aP hL hP e1 e2 hmk HI
        by_cases htk : t < k
        · obtain ⟨b, o, rfl, hb, hcell⟩ := (hA.keep HB.out).row (by omega)
          have g1 := hcell t htk
          have hdt := hd.getD t (by rw [HL.out]; exact htk)
          obtain ⟨y, hy⟩ := Int.eq_ofNat_of_zero_le hdt.1
          have hyl : y < k - t := by rw [hy, HL.out] at hdt; omega
          have HS := hid (dec_step (Z := pick (iota k) ds) HLL.out HPL.out HL.out (by rw [length_pick, HL.out]) htk hy hyl E1.out E2.out)
          rw [hy] at g1
          have g2 := AL.out.cell (j := y) (by rw [HLL.out]; omega)
          have g3 := AP.out.cell (j := t) (by rw [HPL.out]; exact htk)
          have f3 := AP.out.frozen t
          have HP2 := hid (AP.out.set t (L.getD y 0))
          have HL2 := hid (AL.out.setOther (a := ⟨w1.heap.size, t, none⟩) (by show _ ≠ w1.heap.size; omega) (.int .i64 (L.getD y 0)))
          have HB2 := hid (HB.out.setCell (p := ⟨w1.heap.size, t, none⟩) (show w.heap.size ≤ w1.heap.size by omega) (.int .i64 (L.getD y 0)))
          clear hcell hdt hy hb E1 E2
          generalize L.getD y 0 = x at g2 HP2 HL2 HB2 HS
          generalize P.getD t 0 = z at g3
          go_wp2_with fail
          refine (delete_one w.heap.size (k - t) k y _ L _ HL2.out HLL.out (by omega) hyl (by omega) rfl).mono ?_
          rintro e w3 ⟨rfl, aL3, hone⟩
          have HL3 := hid aL3
          have HP3 := hid (HP2.out.kept hone (show w1.heap.size ≠ w.heap.size by omega))
          have HB3 := hid (below_one HB2.out (Nat.le_refl _) HB2.out.size hone)
          clear aL3 hone HB2 HP2 HL2
          go_wp2
          go_roundg (k - (t + 1))
          case measure => omega
          case rel =>
            refine ⟨t + 1, by omega, by omega, by go_num, by rw [show k - t - 1 = k - (t + 1) by omega], HB3.out, _, _, HL3.out, ?_, HP3.out, ?_, HS.out.1, HS.out.2⟩
            · have := HLL.out
              simp only [List.length_append, List.length_take, List.length_drop, List.length_cons]; omega
            · rw [List.length_set]; exact HPL.out
        · have htn : t = k := by omega
          subst htn
          have HE : Hid (P = pick (iota t) ds) := by
            have := E1.out
            rw [List.take_of_length_le (by rw [HPL.out]; exact Nat.le_refl _), List.take_of_length_le (by rw [length_pick, HL.out]; exact Nat.le_refl _)] at this
            exact this
          go_wp2
          go_ret
          refine ⟨_, rfl, HZ.out, ?_, by rw [← HE.out]; exact HPL.out, HB.out⟩
          rw [← HE.out]
          exact AP.out

theorem decode_any (A : Option Addr) (n c : Nat) (ds : List Int) (w : World) (hA : Ints w A n ds) (hd : IsDig ds) (hn : n ≤ 10) :
    Calls Try.prog 72 #[.slice A n c] w (RetAt w n (pick (iota n) ds)) := by
  refine (decode_own A n c ds w hA hd hn).mono ?_
  rintro e w' ⟨g, rfl, _, ha, hl, hb⟩
  have := ha.ints0 n (by omega)
  rw [List.take_of_length_le (by omega)] at this
  exact ⟨g, rfl, this, hb⟩

/-! ### At -/

def RetAt2 (w : World) (n : Nat) (ys : List Int) (e : Ending) (w' : World) : Prop := ∃ g, e = .returned (.tuple #[.slice (some ⟨g, 0, none⟩) n n, .int .i64 0]) ∧ Ints w' (some ⟨g, 0, none⟩) n ys ∧ Below w.heap.size w w'

def RetAt3 (w : World) (n : Nat) (ys : List Int) (e : Ending) (w' : World) : Prop := ∃ g, e = .returned (.tuple #[.slice (some ⟨g, 0, none⟩) n n, .int .i64 0]) ∧ w.heap.size ≤ g ∧ Arr w' g ys ∧ ys.length = n ∧ Below w.heap.size w w'

set_option maxHeartbeats 800000 in
theorem at_own (n k : Nat) (w : World) (hn : n ≤ 10) (hk : k < fact n) :
    Calls Try.prog 42 #[.int .i64 (n : Int), .int .i64 (k : Int)] w (RetAt3 w n (atL n k)) := by
  have hf := fact_ten hn
  have hk2 : (k : Int) < (fact n : Nat) := by omega
  go_enter Try.func42, Try.ntmps42
  go_wp2_with fail
  refine (count_ok n _ hn).mono ?_
  rintro e w' ⟨rfl, rfl⟩
  generalize fact n = F at hk hf hk2
  go_wp2_with fail
  refine (digits_any n k _ hn (by omega)).mono ?_
  rintro e w1 ⟨rfl, hI, hb1⟩
  have HB1 := hid hb1
  have HI := hid hI
  clear hb1 hI
  go_wp2_with fail
  refine (decode_own _ n n _ _ HI.out (isDig_digL n k) hn).mono ?_
  rintro e w2 ⟨g, rfl, hg2, hI2, hl2, hb2⟩
  have HG2 := hid (Nat.le_trans HB1.out.size hg2)
  have HB2 := hid (below_step HB1.out (Nat.le_refl _) hb2)
  have HI2 := hid hI2
  have HL2 := hid hl2
  clear hb2 hI2 HB1 HI hg2 hl2
  go_wp2
  go_ret2
  exact ⟨g, rfl, HG2.out, HI2.out, HL2.out, HB2.out⟩

theorem at_ok (n k : Nat) (w : World) (hn : n ≤ 10) (hk : k < fact n) :
    Calls Try.prog 42 #[.int .i64 (n : Int), .int .i64 (k : Int)] w (RetAt2 w n (atL n k)) := by
  refine (at_own n k w hn hk).mono ?_
  rintro e w' ⟨g, rfl, _, ha, hl, hb⟩
  have := ha.ints0 n (by omega)
  rw [List.take_of_length_le (by omega)] at this
  exact ⟨g, rfl, this, hb⟩

/-- The first order, in memory of the call's own. -/
theorem at_first (n : Nat) (w : World) (hn : n ≤ 10) :
    Calls Try.prog 42 #[.int .i64 (n : Int), .int .i64 0] w (RetOwnE w (iota n) 0) := by
  refine (at_own n 0 w hn (fact_pos n)).mono ?_
  rintro e w' ⟨g, rfl, hg, ha, hl, hb⟩
  have e0 : atL n 0 = iota n := by
    have h1 := atL_rk (p := iota n) (by unfold IsPerm; rw [length_iota])
    rwa [length_iota, rk_rises (sorted_iotaP n)] at h1
  have := own_of_rowIs (base := w.heap.size) ha rfl (fun _ _ => rfl) hg (by rw [hl]; unfold maxLen; omega)
  rw [hl, e0] at this
  exact ⟨_, rfl, this, hb⟩

set_option maxHeartbeats 800000 in
theorem at_bad1 (n k : Int) (w : World) (hn : n < 0 ∨ 10 < n) :
    Calls Try.prog 42 #[.int .i64 n, .int .i64 k] w fun e w' => e = .returned (.tuple #[.slice none 0 0, .int .i64 1]) ∧ w = w' := by
  go_enter Try.func42, Try.ntmps42
  go_wp2_with fail
  refine (count_bad n _ hn).mono ?_
  rintro e w' ⟨rfl, rfl⟩
  go_wp2
  go_ret2
  exact ⟨rfl, rfl⟩

set_option maxHeartbeats 800000 in
theorem at_bad2 (n : Nat) (k : Int) (w : World) (hn : n ≤ 10) (hk : k < 0 ∨ ((fact n : Nat) : Int) ≤ k) :
    Calls Try.prog 42 #[.int .i64 (n : Int), .int .i64 k] w fun e w' => e = .returned (.tuple #[.slice none 0 0, .int .i64 1]) ∧ w = w' := by
  go_enter Try.func42, Try.ntmps42
  go_wp2_with fail
  refine (count_ok n _ hn).mono ?_
  rintro e w' ⟨rfl, rfl⟩
  generalize fact n = F at hk
  rcases hk with h | h
  all_goals
    go_wp2
    go_ret2
    exact ⟨rfl, rfl⟩

end Go.Proofs.Ytbcjfiobggggjaa
