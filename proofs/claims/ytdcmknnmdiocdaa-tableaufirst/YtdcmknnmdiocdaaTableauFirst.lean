/-
  castkeep.TableauFirst, walked.
-/
import Derived.Test.YtdcmknnmdiocdaaTabX
import Derived.Test.YtdcmknnmdiocdaaTabK
import Derived.Test.YtdcmknnmdiocdaaAll
import Derived.Test.YtdcmknnmdiocdaaLinU
import Derived.Test.YtdcmknnmdiocdaaLinS
namespace Go.Proofs.Ytdcmknnmdiocdaa
open Go.RowKit

theorem goes_len {f : Nat → Nat → Bool} {n : Nat} {ys : List Int} (h : Goes f n ys) : Longest f n ys.length := by
  obtain ⟨c, rfl, _, h2⟩ := h
  rw [List.length_map]
  exact h2
theorem Longest.pos {f : Nat → Nat → Bool} {n m : Nat} (h : Longest f n m) (hn : 0 < n) : 0 < m := h.2 [0] (line_one hn)
/-- SCHENSTED: the first row. -/
theorem first_len (l : List Int) : Longest (upF l) l.length ((PT l).getD 0 []).length := by
  rw [first_row]
  exact heaps_longest l
/-- SCHENSTED: how many rows. -/
theorem rows_len {l : List Int} (hd : l.Nodup) : Longest (downF l) l.length (PT l).length := by
  have h1 := rows_behind (w := l.reverse) ((List.reverse_perm l).nodup_iff.2 hd)
  rw [List.reverse_reverse] at h1
  rw [h1]
  refine down_behind hd ?_
  have h2 := first_len l.reverse
  rw [List.length_reverse] at h2
  exact h2

set_option maxHeartbeats 2000000 in
set_option maxRecDepth 100000 in
theorem tableauFirst_any (A : Option Addr) (n c : Nat) (xs : List Int) (w : World) (h : Ints w A n xs) (hc : n ≤ c) (hn : n ≤ 9223372036854775807) :
    Calls Try.prog 4 #[.slice A n c] w fun e w' => e = .returned (.bool true) ∧ Below w.heap.size w w' := by
  have HI := hid h
  clear h
  go_enter Try.func4, Try.ntmps4
  go_wp2_with fail
  refine (tableaux_any _).mono ?_
  rintro e w1 ⟨rfl, hb⟩
  have HB1 := hid hb
  have HI1 := hid (HI.out.keep hb)
  clear hb HI
  go_wp2_with fail
  obtain ⟨m, hm⟩ : ∃ m, m = min n 10 := ⟨_, rfl⟩
  have hm10 : m ≤ 10 := by omega
  refine (permOf_ten A n c m xs _ HI1.out hc hm).mono ?_
  clear hm
  rintro e w2 ⟨A3, c3, p, rfl, hp, hIp, hCp, hb⟩
  have HB2 := hid (below_step HB1.out (Nat.le_refl _) hb)
  have HIP := hid hIp
  have HP := hid hp
  have HLP := hid hIp.len
  have HND : Hid p.Nodup := HP.out.nodup_iff.2 (nodup_iota _)
  clear hb hIp hp hCp HI1 HB1
  go_wp2_with fail
  refine (tabOf_ok A3 m c3 p _ HIP.out (permErr_of HP.out (by rw [HLP.out]; exact hm10))).mono ?_
  rintro e w5 ⟨B1, n1, d1, B2, n2, d2, rfl, hR1, hR2, hC1, hC2, hb⟩
  have HB5 := hid (below_step (below_step HB2.out (Nat.le_refl _) hb) (Nat.le_refl _) (below_alloc w5 (.cells #[.slice B1 n1 d1, .slice B2 n2 d2] 36)))
  have HT5 : Hid (PairAt (w5.alloc (.cells #[.slice B1 n1 d1, .slice B2 n2 d2] 36)) w5.heap.size B1 n1 d1 B2 n2 d2 (PT p) (QT p)) := PairAt.new hR1 hR2
  have HI5 := hid ((HIP.out.keep hb).keep (below_alloc w5 (.cells #[.slice B1 n1 d1, .slice B2 n2 d2] 36)))
  clear hR1 hR2 hC1 hC2 hb HB2 HIP
  go_wp2_with fail
  refine (up_ok A3 m c3 p _ HI5.out (by omega)).mono ?_
  rintro e w6 ⟨A4, u, c4, ys, rfl, hb6, hIu, _, hgu⟩
  have HB6 := hid (below_step HB5.out (Nat.le_refl _) hb6)
  have HI6 := hid (HI5.out.keep hb6)
  have HT6 := hid (HT5.out.keep hb6)
  have HLU := hid (goes_len hgu)
  rw [hIu.len] at HLU
  clear hb6 hIu hgu HB5 HI5 HT5
  go_wp2_with fail
  refine (down_ok A3 m c3 p _ HI6.out (by omega)).mono ?_
  rintro e w7 ⟨A5, d, c5, zs, rfl, hb7, hId, _, hgd⟩
  have HB7 := hid (below_step HB6.out (Nat.le_refl _) hb7)
  have HT7 := hid (HT6.out.keep hb7)
  have HLD := hid (goes_len hgd)
  rw [hId.len] at HLD
  have HGD := hid (good_bel w7 #[.int .i64 0, .int .i64 0, .int .i64 0] 23 3 [0, 0, 0] rfl rfl (by omega))
  clear hb7 hId hgd HB6 HI6 HT6
  go_wp2_with fail
  refine HGD.out.mono ?_
  rintro e w8 ⟨rfl, hb8⟩
  have HB8 := hid (below_step HB7.out (Nat.le_refl _) hb8)
  have HT8 := hid (HT7.out.keep hb8)
  rw [show allOK [0, 0, 0] = true by decide]
  have hu1 : ((PT p).getD 0 []).length = u := by
    have e := first_len p
    rw [HLP.out] at e
    exact e.eq HLU.out
  have hd1 : n1 = d := by
    have e := rows_len HND.out
    rw [HLP.out, HT8.out.rp.len] at e
    exact e.eq HLD.out
  have t0 := HT8.out.p0
  have HRP := hid HT8.out.rp
  have HU1 := hid hu1
  have hup : 0 < m → 0 < u := fun h => HLU.out.pos h
  have hdp : 0 < m → 0 < d := fun h => HLD.out.pos h
  have hdm : d ≤ m := HLD.out.le
  clear hb8 HB7 HT7 HGD HLU HLD hu1
  subst hd1
  by_cases h0 : m = 0
  · subst h0
    obtain rfl : n1 = 0 := by omega
    clear hup hdp
    go_wp2
    go_ret
    exact ⟨rfl, HB8.out⟩
  · obtain ⟨b1, o1, Aj, nj, cj, hB1, g1, hIj, hCj⟩ := HRP.out.at (j := 0) (hdp (by omega))
    subst hB1
    rw [Nat.add_zero] at g1
    obtain rfl : nj = u := by rw [← hIj.len]; exact HU1.out
    have hn1 := hdp (by omega)
    have hz : ((m : Int) == 0) = false := by simp; omega
    have hz2 : decide (0 < n1) = true := by simp; omega
    have hz3 : ((nj : Int) == (nj : Int)) = true := by simp
    have hz4 : ((n1 : Int) == (n1 : Int)) = true := by simp
    clear hIj hCj hup hdp
    go_wp2
    go_ret
    exact ⟨rfl, HB8.out⟩

end Go.Proofs.Ytdcmknnmdiocdaa
