/-
  castkeep.TapeOn, walked.
-/
import Derived.Test.YtlclmmolbhnpgaaTpE
import Derived.Test.YtlclmmolbhnpgaaTpF
import Derived.Test.YtlclmmolbhnpgaaTpI
namespace Go.Proofs.Ytlclmmolbhnpgaa
open Go.RowKit

theorem bin_256 {xs : List Nat} (h : Bin xs) : ∀ x ∈ xs, x < 256 := fun x hx => by have := h x hx; omega

/-- What the law asks of a draw that came out. -/
structure OnFacts (N : Int) (L M : List Nat) (V U : Nat) : Prop where
  le : U ≤ L.length
  d1 : drawX N (L.take U ++ M) = (V, U, 0)
  one : U = 0 → N = 1
  d2 : 0 < U → drawX N (L.take (U - 1)) = (0, 0, 6)
theorem on_facts {N : Int} {L M : List Nat} (hL : tapeErr L = 0) (hM : Bin M) (h1 : L.length ≤ 100) (h2 : M.length ≤ 100) {m V U : Nat} (hN : N = m) (hm1 : 1 ≤ m) (hm2 : m ≤ 1024) (hd : drw m L = some (V, U)) : OnFacts N L M V U := by
  subst hN
  have hb := drw_lt hm1 hd
  refine ⟨hb.2.2, ?_, fun h0 => ?_, fun h0 => ?_⟩
  · rw [drawX_ok (tapeErr_ok (by rw [List.length_append, List.length_take]; omega) (((tapeErr_zero hL).2.take _).append hM))]
    exact drx_some hm1 hm2 (drw_on hm1 hd M)
  · rcases Nat.lt_or_ge m 2 with h3 | h3
    · omega
    · have := wd_pos h3 hm2
      omega
  · rw [drawX_ok (tapeErr_take hL _)]
    exact drx_none hm1 hm2 (drw_cut hm1 hd h0)

set_option maxHeartbeats 1000000 in
set_option maxRecDepth 100000 in
theorem tapeOn_any (A : Option Addr) (n c : Nat) (xs : List Nat) (N : Int) (B : Option Addr) (m d : Nat) (ys : List Nat) (w : World) (hx : Byts w A n xs) (hc : Cap n c) (hy : Byts w B m ys) (hd : Cap m d) :
    Calls Try.prog 5 #[.slice A n c, .int .i64 N, .slice B m d] w fun e w' => e = .returned (.bool true) ∧ Below w.heap.size w w' := by
  have HX := hid hx
  have HY := hid hy
  have HCX := hid hc
  have HCY := hid hd
  clear hx hy hc hd
  go_enter Try.func5, Try.ntmps5
  go_wp2_with fail
  refine (tapes_any _).mono ?_
  rintro e w1 ⟨rfl, hb⟩
  have HB1 := hid hb
  clear hb
  have HQ1 : Hid (Calls Try.prog 20 #[.slice A n c, .int .i64 100] w1 (RetByts w1 (bts xs 100))) := bitsOf_any A n c xs 100 w1 (HX.out.keep HB1.out) HCX.out (by omega)
  go_wp2_with fail
  refine HQ1.out.mono ?_
  rintro e w2 ⟨v1, rfl, ho, hb⟩
  have HO1 := hid ho
  have HB2 := hid (below_step HB1.out (Nat.le_refl _) hb)
  clear hb ho HQ1 HB1
  have HQ2 : Hid (Calls Try.prog 20 #[.slice B m d, .int .i64 100] w2 (RetByts w2 (bts ys 100))) := bitsOf_any B m d ys 100 w2 (HY.out.keep HB2.out) HCY.out (by omega)
  go_wp2_with fail
  refine HQ2.out.mono ?_
  rintro e w3 ⟨v2, rfl, ho, hb⟩
  have HO2 := hid ho
  have HO1' := hid (HO1.out.keep hb)
  have HB3 := hid (below_step HB2.out (Nat.le_refl _) hb)
  clear hb ho HQ2 HB2 HO1
  obtain ⟨A1, c1, rfl, hI1, hk1, hz1⟩ := HO1'.out.byts (bin_256 (bts_bin xs 100))
  obtain ⟨A2, c2, rfl, hI2, hk2, hz2⟩ := HO2.out.byts (bin_256 (bts_bin ys 100))
  clear HO1' HO2
  have HE1 := hid (bts_ok (xs := xs) (m := 100) (by omega))
  have HE2 := hid (bts_bin ys 100)
  have hl1 : (bts xs 100).length ≤ 100 := by rw [bts_len]; omega
  have hl2 : (bts ys 100).length ≤ 100 := by rw [bts_len]; omega
  generalize bts xs 100 = L at *
  generalize bts ys 100 = M at *
  generalize hn1 : L.length = n1 at *
  generalize hn2 : M.length = n2 at *
  have HN1 := hid hn1
  have HN2 := hid hn2
  clear hn1 hn2
  have HI1 := hid hI1
  have HI2 := hid hI2
  have HK1 := hid hk1
  have HK2 := hid hk2
  have HZ1 := hid hz1
  have HZ2 := hid hz2
  have hcap1 := hk1
  unfold Cap at hcap1
  clear hI1 hI2 hk1 hk2 hz1 hz2
  have HD := hid (tpDraw_any A1 n1 c1 L N w3 HI1.out HK1.out)
  rw [drawX_ok HE1.out] at HD
  rcases drx_cases N L with ⟨e, hxe, hne, -⟩ | ⟨q, V, U, hN, hq1, hq2, hdr, hxe, hV, -, hU⟩
  · rw [hxe] at HD
    have hz : (e != 0) = true := by simpa using hne
    clear hxe hne
    go_wp2_with fail
    refine HD.out.mono ?_
    rintro e' w' ⟨rfl, rfl⟩
    go_wp2
    go_ret
    exact ⟨rfl, HB3.out⟩
  · rw [hxe] at HD
    have HF := hid (on_facts (M := M) HE1.out HE2.out (by rw [HN1.out]; exact hl1) (by rw [HN2.out]; exact hl2) hN hq1 hq2 hdr)
    rw [HN1.out] at hU
    clear hxe hdr hN
    have hU0 : ¬ (U : Int) < 0 := by omega
    have hU1 : ¬ (U : Int) > (n1 : Int) := by omega
    have hto := fun W => run_toB A1 n1 c1 U (U : Int) rfl (by omega) W
    have HTO := hid hto
    clear hto
    have hto := HTO.out
    go_wp2_with fail
    refine HD.out.mono ?_
    rintro e' w' ⟨rfl, rfl⟩
    have HR := hid (bytRows_two w3 A1 U c1 (L.take U) A2 n2 c2 M 22 (HI1.out.take hU) HI2.out ⟨by omega, by omega⟩ HK2.out HZ1.out HZ2.out)
    have HB4 := hid (below_step HB3.out (Nat.le_refl _) (below_alloc w3 (.cells #[.slice A1 U c1, .slice A2 n2 c2] 22)))
    have HB4' := hid (below_alloc w3 (.cells #[.slice A1 U c1, .slice A2 n2 c2] 22))
    have HQ3 := hid (concatB_any (some ⟨w3.heap.size, 0, none⟩) 2 2 [L.take U, M] _ HR.out (by omega) (by have e1 := HN1.out; have e2 := HN2.out; simp; omega))
    clear HR HD
    go_wp2_with fail
    refine HQ3.out.mono ?_
    rintro e' w5 ⟨v5, rfl, ho, hb⟩
    have HB5 := hid (below_step HB4.out (Nat.le_refl _) hb)
    have HI1' := hid (HI1.out.keep (below_step HB4'.out (Nat.le_refl _) hb))
    have hfl : [L.take U, M].flatten = L.take U ++ M := by simp
    rw [hfl] at ho
    have hbn : ∀ x ∈ L.take U ++ M, x < 256 := bin_256 (((tapeErr_zero HE1.out).2.take U).append HE2.out)
    obtain ⟨A5, c5, rfl, hI5, hk5, -⟩ := ho.byts hbn
    have HD5 := hid (tpDraw_any A5 _ c5 _ N w5 hI5 hk5)
    rw [HF.out.d1] at HD5
    clear hbn hI5 hk5 ho hb HQ3 HB4 HB4' hfl
    generalize (L.take U ++ M).length = n5 at *
    go_wp2_with fail
    refine HD5.out.mono ?_
    rintro e' w' ⟨rfl, rfl⟩
    clear HD5 hto
    rcases Nat.eq_zero_or_pos U with h0 | h0
    · have h1 := HF.out.one h0
      have hz : ((U : Int) == 0) = true := by rw [h0]; rfl
      have hz2 : (N == 1) = true := by rw [h1]; rfl
      clear h0 h1
      go_wp2
      go_ret
      exact ⟨rfl, HB5.out⟩
    · have hz : ((U : Int) == 0) = false := by simp; omega
      have hto := fun W => run_toB A1 n1 c1 (U - 1) ((U : Int) - 1) (by omega) (by omega) W
      have HD6 := hid (tpDraw_any A1 (U - 1) c1 (L.take (U - 1)) N w5 (HI1'.out.take (by omega)) ⟨by omega, by omega⟩)
      rw [HF.out.d2 h0] at HD6
      go_wp2_with fail
      refine HD6.out.mono ?_
      rintro e' w' ⟨rfl, rfl⟩
      go_wp2
      go_ret
      exact ⟨rfl, HB5.out⟩
end Go.Proofs.Ytlclmmolbhnpgaa
