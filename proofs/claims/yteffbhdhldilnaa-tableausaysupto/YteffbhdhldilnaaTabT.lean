/-
  castref.putIn: a number put in, the elder rows left as they were.
-/
import Derived.Test.YteffbhdhldilnaaTabS
import Derived.Deep.RegionLaw
namespace Go.Proofs.Yteffbhdhldilnaa
open Go.RowKit

theorem RRows.drop1 {w : World} {A : Option Addr} {n c : Nat} {T : List (List Int)} (h : RRows w A n T) (hn : 1 ≤ n) (hc : n ≤ c) : RRows w (subA A c 1) (n - 1) T.tail := by
  refine ⟨by rw [List.length_tail, h.len], fun hp => ?_⟩
  obtain ⟨b, o, rfl, hb, hcell⟩ := h.row (by omega)
  refine ⟨b, o + 1, ?_, hb, fun j hj => ?_⟩
  · unfold subA
    rw [if_neg (by omega)]
    simp [Addr.add]
  · have h1 := hcell (j + 1) (by omega)
    rw [show o + 1 + j = o + (j + 1) by omega]
    have e : T.tail.getD j [] = T.getD (j + 1) [] := by
      cases T with
      | nil => simp
      | cons r T => simp
    rw [e]
    exact h1
theorem sizeRow : ∀ w, (Go.sizeOf 22).run Try.prog w = .ok 1 w := by
  exact fun _ => by kernel_rfl
theorem run_fromR (A : Option Addr) (n c l : Nat) (L : Int) (hL : L = (l : Int)) (hl : l ≤ n) (W : World) :
    (Instr.slice 23 (.slice A n c) (some (.int .i64 L)) none none).run Try.prog W = .ok (.slice (subA A c l) (n - l) (c - l)) W := by
  subst hL
  have ht' : Try.prog.underlying 23 = some (.slice (Try.prog.elem 23)) := by simp [Program.elem, Try.underlying23]
  have he : Try.prog.elem 23 = 22 := by simp [Program.elem, Try.underlying23]
  rw [run_slice_l W _ _ _ _ ht' .i64 _ (by omega) (by omega), he, sizeRow]
  simp [Result.andThen, sliced, subA]
theorem subA_none {A : Option Addr} {c l : Nat} (h : subA A c l = none) (hA : A = none → c = 0) : c - l = 0 := by
  unfold subA at h
  split at h
  · omega
  · rcases A with _ | a
    · have := hA rfl
      omega
    · cases h

/-- A row of one row, just written out. -/
theorem ORows.lit (w : World) (A : Option Addr) (n c : Nat) (r : List Int) (h : Ints w A n r) (hc : Cap n c) (hz : A = none → c = 0) : ORows (w.alloc (.cells #[.slice A n c] 22)) w.heap.size (.slice (some ⟨w.heap.size, 0, none⟩) 1 1) [r] := by
  refine ⟨[.slice A n c], rfl, World.ownsRow_lit w #[.slice A n c] 1 (Nat.le_refl _) (by unfold maxLen; omega) rfl, fun j hj => ?_⟩
  have : j = 0 := by simpa using hj
  subst this
  exact ⟨A, n, c, rfl, h.keep (below_alloc _ _), hc, hz⟩

def PutTo (T : List (List Int)) : Prop := ∀ (A : Option Addr) (n c : Nat) (x : Int) (w : World), RRows w A n T → n ≤ c → (A = none → c = 0) → n ≤ 1000 → (∀ r ∈ T, Srt r ∧ r.length ≤ 1000) →
  Calls Try.prog 42 #[.slice A n c, .int .i64 x] w fun e w' => ∃ v, e = .returned v ∧ ORows w' w.heap.size v (tin T x).1 ∧ Below w.heap.size w w'

set_option maxHeartbeats 800000 in
theorem putIn_nil : PutTo [] := by
  intro A n c x w h hc hz hn _
  have hn0 : n = 0 := h.len.symm
  subst hn0
  have HIN : Hid (Ints (w.alloc (.cells #[.int .i64 x] 3)) (some ⟨w.heap.size, 0, none⟩) 1 [x]) := ints_lit w _ _ 1 [x] rfl rfl
  have hOR := ORows.lit (w.alloc (.cells #[.int .i64 x] 3)) (some ⟨w.heap.size, 0, none⟩) 1 1 [x] HIN.out ⟨Nat.le_refl _, by omega⟩ (fun e => by cases e)
  have hsz : (w.alloc (.cells #[.int .i64 x] 3)).heap.size = w.heap.size + 1 := by simp
  rw [hsz] at hOR
  have HOR := hid (hOR.mono (base' := w.heap.size) (by omega))
  have HB := hid (below_step (below_alloc w (.cells #[.int .i64 x] 3)) (Nat.le_refl _) (below_alloc _ (.cells #[.slice (some ⟨w.heap.size, 0, none⟩) 1 1] 22)))
  clear hOR hsz h HIN
  go_enter Try.func42, Try.ntmps42
  go_wp2
  go_ret
  exact ⟨_, rfl, HOR.out, HB.out⟩

theorem subA_some (b off c l : Nat) : ∃ ad, subA (some ⟨b, off, none⟩) c l = some ad := by
  unfold subA
  split
  · exact ⟨_, rfl⟩
  · exact ⟨_, rfl⟩
theorem lt_take {row : List Int} {x : Int} {k : Nat} (h : ∀ r, r < k → row.getD r 0 < x) : ∀ z ∈ row.take k, z < x := by
  intro z hz
  obtain ⟨i, hi, rfl⟩ := List.getElem_of_mem hz
  rw [List.length_take] at hi
  have h1 := h i (by omega)
  rw [List.getD_eq_getElem?_getD, List.getElem?_eq_getElem (by omega)] at h1
  rw [List.getElem_take]
  exact h1

theorem own_slice {w : World} {base : Nat} {A : Option Addr} {n c : Nat} {xs : List Int} (h : OwnInts w base (.slice A n c) xs) : n = xs.length ∧ Ints w A n xs ∧ Cap n c ∧ (A = none → c = 0) := by
  obtain ⟨A', c', e, h1, h2⟩ := h.ints
  injection e with e1 e2 e3
  subst e1 e2 e3
  refine ⟨rfl, h1, h2, fun e => ?_⟩
  rcases h.2 with ⟨e4, _⟩ | ⟨g, cap, cur, e4, _⟩
  · injection e4
  · injection e4 with e5
    rw [e] at e5
    cases e5
theorem lit_full {a n c : Nat} (h : n = c) : ∀ g n' cap, Value.slice (some ⟨a, 0, none⟩) n c = .slice (some ⟨g, 0, none⟩) n' cap → cap = n' := by
  intro g n' cap e
  injection e with _ e2 e3
  omega

set_option maxHeartbeats 1600000 in
theorem putIn_step (row : List Int) (T : List (List Int)) (ih : Hid (PutTo T)) : PutTo (row :: T) := by
  intro A n c x w h hc hz hn hall
  have hn1 : T.length + 1 = n := h.len
  obtain ⟨b, off, rfl, hb, hcell⟩ := h.row (by omega)
  obtain ⟨A0, n0, c0, g0, hI0, hcap0, hz0⟩ := hcell 0 (by omega)
  rw [Nat.add_zero] at g0
  have hI0 : Ints w A0 n0 row := hI0
  have hS := hall row (by simp)
  have HALL : Hid (∀ r ∈ T, Srt r ∧ r.length ≤ 1000) := fun r hr => hall r (by simp [hr])
  have HSR := hid hS.1
  have hl0 : n0 ≤ 1000 := by rw [← hI0.len]; exact hS.2
  have HL0 := hid hI0.len
  have HI0 := hid hI0
  obtain ⟨ad, had⟩ := subA_some b off c 1
  have hD := h.drop1 (by omega) hc
  rw [had] at hD
  have HD : Hid (RRows w (some ad) (n - 1) T) := hD
  have hsl := fun W => run_fromR (some ⟨b, off, none⟩) n c 1 1 rfl (by omega) W
  rw [had] at hsl
  have HTL := hid hn1
  clear h hcell hI0 hS hall hD had hn1 hcap0 hz0 hz
  have hnp : 0 < n := by have := HTL.out; omega
  go_enter Try.func42, Try.ntmps42
  go_wp2_with fail
  refine (clone_any A0 n0 c0 row w HI0.out (by omega)).mono ?_
  rintro e w1 ⟨v1, rfl, ho1, hb1⟩
  obtain ⟨A1, c1, rfl, hI1, hcap1⟩ := ho1.ints
  rw [HL0.out] at ho1 hI1 hcap1 ⊢
  have HI1 := hid hI1
  have HO1 := hid ho1
  have HB1 := hid hb1
  have HC1 := hid hcap1
  clear hI1 ho1 hb1 hcap1
  go_wp2_with fail
  refine (bsearch_any A1 n0 c1 row x w1 HI1.out hl0 HSR.out).mono ?_
  rintro e w1' ⟨k, bb, rfl, hk, hlo, hhi, rfl⟩
  rw [HL0.out] at hk hhi
  have HLO := hid hlo
  have HHI := hid hhi
  clear hlo hhi
  by_cases hkl : k = n0
  · subst hkl
    have hklI : ((k : Int) == (k : Int)) = true := beq_self_eq_true _
    have HTIN : Hid ((tin (row :: T) x).1 = [row ++ [x]] ++ T) := by
      rw [tin_all T (fun z hz => lt_take HLO.out z (by rw [List.take_of_length_le (by rw [HL0.out]; exact Nat.le_refl _)]; exact hz))]
      rfl
    have HLN : Hid (row.length ≤ 1000000000000) := by rw [HL0.out]; exact (by omega : k ≤ 1000000000000)
    clear HLO HHI HI0 HI1 HALL ih hk g0 HSR
    go_wp2_with fail
    have HO1 : Hid (OwnInts w1.drew w.heap.size (.slice A1 k c1) row) := HO1.out.drew
    have HB1 : Hid (Below w.heap.size w w1.drew) := HB1.out.drew
    go_region_law (first
      | (refine step_app1At w1.drew rfl (.tmp 29) (.tmp 31) rfl w.heap.size (.slice A1 k c1) row x rfl rfl HO1.out HLN.out HB1.out.size ?_
         intro A2 n2 c2 w2 ho2 hg2 _
         have HO2 := hid ho2
         have HB2 := hid (below_own HB1.out HO1.out (Nat.le_refl _) (Nat.le_refl _) hg2)
         have HS2 := hid (own_slice ho2)
         clear ho2 hg2)
      | (refine step_appRows (w2.alloc (.cells #[.slice A2 n2 c2] 22)) rfl (.tmp 33) (.tmp 35) rfl w.heap.size (.slice (some ⟨w2.heap.size, 0, none⟩) 1 1) [row ++ [x]] rfl ad (n - 1) (c - 1) T rfl ((ORows.lit w2 A2 n2 c2 _ HS2.out.2.1 HS2.out.2.2.1 HS2.out.2.2.2).mono HB2.out.size) (HD.out.keep (below_step HB2.out (Nat.le_refl _) (below_alloc w2 _))) (lit_full rfl) (by simp; omega) (Nat.le_trans HB2.out.size (below_alloc w2 _).size) ?_
         intro v3 w3 ho3 hb3
         have HO3 := hid ho3
         have HB3 := hid (HB2.out.trans ((below_alloc w2 _).mono HB2.out.size |>.trans hb3))
         clear ho3 hb3))
    all_goals
      go_wp2
      go_ret
      rw [HTIN.out]
      exact ⟨_, rfl, HO3.out, HB3.out⟩
  · have hklI : ((k : Int) == (n0 : Int)) = false := by
      have : ¬ (k : Int) = (n0 : Int) := by omega
      simpa using this
    have hkn : k < n0 := by omega
    have HKL : Hid (k < row.length) := by rw [HL0.out]; exact hkn
    have HTIN : Hid ((tin (row :: T) x).1 = [row.set k x] ++ (tin T (row.getD k 0)).1) := by
      have h1 := tin_at (row.drop (k + 1)) T (lt_take HLO.out) (HHI.out hkn)
      rw [← row_split HKL.out] at h1
      rw [h1, set_split HKL.out]
      rfl
    obtain ⟨g, cap, e, hgb, hgl, hcp⟩ := HO1.out.form (by rw [HL0.out]; omega)
    injection e with e1 e2 e3
    subst e1
    subst e3
    clear e2
    have HO2 := hid (HO1.out.set HL0.out.symm k x)
    have hb2 : Below w.heap.size w (w1.setCell ⟨g, k, none⟩ (.int .i64 x)) := HB1.out.setCell hgb _
    have HB2 := hid hb2
    have g1 : w1.cell? ⟨g, k, none⟩ = some (.int .i64 (row.getD k 0)) := by
      obtain ⟨b9, o9, e9, _, hc9⟩ := HI1.out.row (by omega)
      injection e9 with e9
      injection e9 with e91 e92
      subst e91
      subst e92
      have := hc9 k hkn
      rwa [Nat.zero_add] at this
    have f1 : w1.frozen? ⟨g, k, none⟩ = false := by
      have h9 := HO1.out
      rw [← HL0.out] at h9
      exact h9.frozen k
    have HS2 := hid (own_slice HO2.out)
    have hkI : (k : Int) < (n0 : Int) := by omega
    clear HLO HHI HI0 HI1 hb2 g0 HSR hk HO1 HKL hcp
    generalize row.getD k 0 = y at *
    obtain ⟨w2, hw2⟩ : ∃ w2, w2 = w1.setCell ⟨g, k, none⟩ (.int .i64 x) := ⟨_, rfl⟩
    rw [← hw2] at HO2 HB2 HS2
    have HOR := hid ((ORows.lit w2 (some ⟨g, 0, none⟩) n0 c1 _ HS2.out.2.1 HS2.out.2.2.1 HS2.out.2.2.2).mono HB2.out.size)
    have HB3 := hid (below_step HB2.out (Nat.le_refl _) (below_alloc w2 (.cells #[.slice (some ⟨g, 0, none⟩) n0 c1] 22)))
    have hsz2 : w1.heap.size = w2.heap.size := by rw [hw2]; simp [World.setCell]
    have HSZ2 := hid hsz2
    have HW2 := hid hw2
    clear hw2 hsz2
    go_wp2_with fail
    rw [HSZ2.out, ← HW2.out]
    refine (ih.out (some ad) (n - 1) (c - 1) y _ (HD.out.keep HB3.out) (by omega) (fun e => by cases e) (by omega) HALL.out).mono ?_
    rintro e w4 ⟨v4, rfl, ho4, hb4⟩
    obtain ⟨A4, c4, rfl, hR4, hcap4, hz4⟩ := ho4.rrows
    have HR4 := hid hR4
    have HB4 := hid (below_step HB3.out (Nat.le_refl _) hb4)
    have HOR4 := hid (HOR.out.keep hb4)
    have HLEN : Hid ((tin T y).1.length ≤ 2000) := by
      have h1 := tin_length T y
      have h2 := tin_le T y
      have h3 := HTL.out
      show _ ≤ _
      omega
    have HZ4 := hid hz4
    clear hR4 hb4 ho4 hcap4 hz4
    generalize (tin T y).1 = U at *
    obtain ⟨m, hm⟩ : ∃ m, U.length = m := ⟨_, rfl⟩
    rw [hm] at HR4 HLEN ⊢
    have hm2 : m ≤ 2000 := HLEN.out
    clear hm
    go_wp2_with (at_builtin; refine wpList_appRows w4 rfl (.tmp 46) (.tmp 50) rfl w.heap.size (.slice (some ⟨w2.heap.size, 0, none⟩) 1 1) [row.set k x] rfl A4 m c4 U rfl HOR4.out HR4.out HZ4.out (lit_full rfl) (by simp; omega) HB4.out.size ?_)
    intro v5 w5 ho5 hb5
    have HO5 := hid ho5
    have HB5 := hid (HB4.out.trans hb5)
    clear ho5 hb5
    go_wp2
    go_ret
    rw [HTIN.out]
    exact ⟨_, rfl, HO5.out, HB5.out⟩

theorem putIn_any : ∀ T : List (List Int), PutTo T
  | [] => putIn_nil
  | row :: T => putIn_step row T (putIn_any T)

end Go.Proofs.Yteffbhdhldilnaa
