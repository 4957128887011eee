/-
  castkeep.TableauTurned, walked.
-/
import Derived.Test.YteffbhdhldilnaaTabX
import Derived.Test.YteffbhdhldilnaaAll
namespace Go.Proofs.Yteffbhdhldilnaa
open Go.RowKit

theorem tinv_of {p q : List Int} (hp : IsPerm p) (h : IsInv p q) : q = tinv p := by
  apply List.ext_getElem (by simp [tinv, h.1])
  intro k h1 h2
  have hk : k < p.length := by rw [← h.1]; exact h1
  obtain ⟨i, hi, ei⟩ := hp.pre hk
  have hmem : (k : Int) ∈ p := by
    rw [← ei, List.getD_eq_getElem?_getD, List.getElem?_eq_getElem hi]
    exact List.getElem_mem hi
  have hx := List.idxOf_lt_length_of_mem hmem
  have h3 := h.2 _ hx
  have e : p.getD (p.idxOf (k : Int)) 0 = (k : Int) := by
    rw [List.getD_eq_getElem?_getD, List.getElem?_eq_getElem hx]
    exact List.getElem_idxOf hx
  rw [e, Int.toNat_natCast, List.getD_eq_getElem?_getD, List.getElem?_eq_getElem h1] at h3
  simp only [Option.getD_some] at h3
  simp only [tinv, List.getElem_map, List.getElem_range]
  exact h3
theorem turned_perm {p q : List Int} (hp : IsPerm p) (h : IsInv p q) : PT q = QT p ∧ QT q = PT p := by
  rw [tinv_of hp h]
  refine turned_tab p.length p rfl (hp.nodup_iff.2 (nodup_iota _)) (fun i hi => ?_) (fun y hy => ?_)
  · exact hp.mem_iff.2 (mem_iota.2 (by omega))
  · have := mem_iota.1 (hp.mem_iff.1 hy)
    omega
theorem PT_short (p : List Int) (hp : p.length ≤ 1000000) (j : Nat) : ((PT p).getD j []).length ≤ 1000000 := Nat.le_trans (PT_row_le p j) hp
theorem QT_short (p : List Int) (hp : p.length ≤ 1000000) (j : Nat) : ((QT p).getD j []).length ≤ 1000000 := Nat.le_trans (QT_row_le p j) hp

set_option maxHeartbeats 2000000 in
set_option maxRecDepth 100000 in
theorem tableauTurned_any (A : Option Addr) (n c : Nat) (xs : List Int) (w : World) (h : Ints w A n xs) (hc : n ≤ c) (hn : n ≤ 9223372036854775807) :
    Calls Try.prog 6 #[.slice A n c] w fun e w' => e = .returned (.bool true) ∧ Below w.heap.size w w' := by
  have HI := hid h
  clear h
  go_enter Try.func6, Try.ntmps6
  go_wp2_with fail
  refine (tableaux_any _).mono ?_
  rintro e w1 ⟨rfl, hb⟩
  have HB1 := hid hb
  have HI1 := hid (HI.out.keep hb)
  clear hb HI
  go_wp2_with fail
  obtain ⟨m, hm⟩ : ∃ m, m = min n 10 := ⟨_, rfl⟩
  have hm10 : m ≤ 10 := by omega
  refine (permOf_ten A n c m xs _ HI1.out hc hm).mono ?_
  clear hm
  rintro e w2 ⟨A3, c3, p, rfl, hp, hIp, hCp, hb⟩
  have HB2 := hid (below_step HB1.out (Nat.le_refl _) hb)
  have HIP := hid hIp
  have HP := hid hp
  have HLP := hid hIp.len
  clear hb hIp hp hCp HI1 HB1
  go_wp2_with fail
  refine (inverse_perm A3 m c3 p _ HIP.out HP.out hm10).mono ?_
  rintro e w3 ⟨q, hq, A4, c4, rfl, hIq, hCq, hb⟩
  have HB3 := hid (below_step HB2.out (Nat.le_refl _) hb)
  have HIP3 := hid (HIP.out.keep hb)
  have HIQ := hid hIq
  have HQ := hid hq
  have HTT := hid (turned_perm HP.out hq)
  have HPQ := hid (hq.isPerm HP.out)
  have HLQ := hid hIq.len
  clear hb hIq hq hCq HIP HB2
  go_wp2_with fail
  refine (tabOf_ok A3 m c3 p _ HIP3.out (permErr_of HP.out (by rw [HLP.out]; exact hm10))).mono ?_
  rintro e w4 ⟨B1, n1, d1, B2, n2, d2, rfl, hR1, hR2, hC1, hC2, hb⟩
  have HB4 := hid (below_step (below_step HB3.out (Nat.le_refl _) hb) (Nat.le_refl _) (below_alloc w4 (.cells #[.slice B1 n1 d1, .slice B2 n2 d2] 25)))
  have HT4 : Hid (PairAt (w4.alloc (.cells #[.slice B1 n1 d1, .slice B2 n2 d2] 25)) w4.heap.size B1 n1 d1 B2 n2 d2 (PT p) (QT p)) := PairAt.new hR1 hR2
  have HIQ4 := hid ((HIQ.out.keep hb).keep (below_alloc w4 (.cells #[.slice B1 n1 d1, .slice B2 n2 d2] 25)))
  have HC1 := hid hC1
  have HC2 := hid hC2
  clear hR1 hR2 hC1 hC2 hb HB3 HIQ HIP3
  go_wp2_with fail
  refine (tabOf_ok A4 m c4 q _ HIQ4.out (permErr_of HPQ.out (by rw [HLQ.out]; exact hm10))).mono ?_
  rintro e w5 ⟨B3, n3, d3, B4, n4, d4, rfl, hR3, hR4, hC3, hC4, hb⟩
  have HB5 := hid (below_step (below_step HB4.out (Nat.le_refl _) hb) (Nat.le_refl _) (below_alloc w5 (.cells #[.slice B3 n3 d3, .slice B4 n4 d4] 25)))
  have HT5 := hid ((HT4.out.keep hb).keep (below_alloc w5 (.cells #[.slice B3 n3 d3, .slice B4 n4 d4] 25)))
  have HU5 : Hid (PairAt (w5.alloc (.cells #[.slice B3 n3 d3, .slice B4 n4 d4] 25)) w5.heap.size B3 n3 d3 B4 n4 d4 (PT q) (QT q)) := PairAt.new hR3 hR4
  have HC3 := hid hC3
  have HC4 := hid hC4
  have HGD := hid (good_bel (w5.alloc (.cells #[.slice B3 n3 d3, .slice B4 n4 d4] 25)) #[.int .i64 0, .int .i64 0, .int .i64 0] 26 3 [0, 0, 0] rfl rfl (by omega))
  rw [show (w5.alloc (.cells #[.slice B3 n3 d3, .slice B4 n4 d4] 25)).heap.size = w5.heap.size + 1 by simp] at HGD
  clear hR3 hR4 hC3 hC4 hb HB4 HT4 HIQ4
  go_wp2_with fail
  refine HGD.out.mono ?_
  rintro e w6 ⟨rfl, hb⟩
  have hb' : Below (w5.alloc (.cells #[.slice B3 n3 d3, .slice B4 n4 d4] 25)).heap.size (w5.alloc (.cells #[.slice B3 n3 d3, .slice B4 n4 d4] 25)) w6 := by
    rw [show (w5.alloc (.cells #[.slice B3 n3 d3, .slice B4 n4 d4] 25)).heap.size = w5.heap.size + 1 by simp]
    exact hb
  have HB6 := hid (below_step HB5.out (Nat.le_refl _) hb')
  have HT6 := hid (HT5.out.keep hb')
  have HU6 := hid (HU5.out.keep hb')
  rw [show allOK [0, 0, 0] = true by decide]
  clear hb hb' HB5 HT5 HU5 HGD
  have t0 := HT6.out.p0
  have t1 := HT6.out.p1
  have u0 := HU6.out.p0
  have u1 := HU6.out.p1
  go_wp2_with fail
  refine (sameRows_any B1 n1 d1 B4 n4 d4 (PT p) (QT q) _ HT6.out.rp HU6.out.rq (by have := HC1.out; unfold Cap at this; omega) (by have := HC4.out; unfold Cap at this; omega) (PT_short p (by rw [HLP.out]; omega)) (QT_short q (by rw [HLQ.out]; omega))).mono ?_
  rintro e w7 ⟨rfl, hb⟩
  have HB7 := hid (below_step HB6.out (Nat.le_refl _) hb)
  have HT7 := hid (HT6.out.keep hb)
  have HU7 := hid (HU6.out.keep hb)
  rw [decide_eq_true HTT.out.2.symm]
  clear hb HB6 HT6 HU6 t0 t1 u0 u1
  have t0 := HT7.out.p0
  have t1 := HT7.out.p1
  have u0 := HU7.out.p0
  have u1 := HU7.out.p1
  go_wp2_with fail
  refine (sameRows_any B2 n2 d2 B3 n3 d3 (QT p) (PT q) _ HT7.out.rq HU7.out.rp (by have := HC2.out; unfold Cap at this; omega) (by have := HC3.out; unfold Cap at this; omega) (QT_short p (by rw [HLP.out]; omega)) (PT_short q (by rw [HLQ.out]; omega))).mono ?_
  rintro e w8 ⟨rfl, hb⟩
  have HB8 := hid (below_step HB7.out (Nat.le_refl _) hb)
  rw [decide_eq_true HTT.out.1.symm]
  clear hb HB7 HT7 HU7 t0 t1 u0 u1
  go_wp2
  go_ret
  exact ⟨rfl, HB8.out⟩

end Go.Proofs.Yteffbhdhldilnaa
