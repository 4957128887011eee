/-
  castref.RowOf.
-/
import Derived.Test.YtlclmmolbhnpgaaTpG
import Derived.Test.YtlclmmolbhnpgaaTpD
namespace Go.Proofs.Ytlclmmolbhnpgaa
open Go.RowKit

set_option maxHeartbeats 400000 in
set_option maxRecDepth 100000 in
theorem refRowOf_any (A : Option Addr) (n c : Nat) (xs : List Nat) (B : Option Addr) (m d : Nat) (ms : List Int) (w : World) (h : Byts w A n xs) (hc : Cap n c) (hI : Ints w B m ms) (he : tapeErr xs = 0) (hm : m ≤ 30) :
    Calls Try.prog 14 #[.slice A n c, .slice B m d] w (RetRow (rowx ms xs) w) := by
  have hz := tapeErr_zero he
  have HL := hid h.len
  have HM := hid hI.len
  have hn : n ≤ 200 := by rw [← h.len]; exact hz.1
  have HE := hid he
  have HH := hid h
  have HI := hid hI
  have HCP := hid hc
  clear h he hz hc hI
  go_enter Try.func14, Try.ntmps14
  go_wp2
  go_loopg [7, 8, 16] m (fun g v tv sv wr => ∃ (k u : Nat) (r : List Int), k ≤ m ∧ m - k ≤ g ∧ u ≤ n ∧ sv = .int .i64 (k : Int) ∧ tv = .int .i64 (u : Int) ∧ r.length = k ∧ rowx (ms.take k) xs = (r, u, 0) ∧ OwnInts wr w.heap.size v r ∧ Below w.heap.size w wr)
  case atStart => exact ⟨0, 0, [], by omega, by omega, by omega, rfl, rfl, rfl, rfl, OwnInts.nil _ _, Below.refl _ _⟩
  case round =>
    obtain ⟨k, u, r, hk, hg, hu, rfl, rfl, hrl, hrow, ho, hb⟩ := hrel
    have HR := hid hrow
    have HO := hid ho
    have HB := hid hb
    clear hrow ho hb
    by_cases hlt : k < m
    · have hkm : k < ms.length := by rw [HM.out]; exact hlt
      obtain ⟨b, o, rfl, hbb, hcc⟩ := HI.out.row (by omega)
      have g1 : wr.cell? ⟨b, o + k, none⟩ = some (.int .i64 (ms.getD k 0)) := (HB.out.cell (p := ⟨b, o + k, none⟩) hbb).trans (hcc k hlt)
      have HRUN := hid (run_fromB A n c u (u : Int) rfl hu)
      have hcap := HCP.out
      unfold Cap at hcap
      have HD : Hid (Calls Try.prog 13 #[.slice (subA A c u) (n - u) (c - u), .int .i64 (ms.getD k 0)] wr (RetDraw (drx (ms.getD k 0) (xs.drop u)) wr)) :=
        refDrawOf_any (subA A c u) (n - u) (c - u) (xs.drop u) (ms.getD k 0) wr ((HH.out.keep HB.out).drop hu hcap.1) ⟨by omega, by omega⟩ (tapeErr_drop HE.out u)
      have HS := hid (fun x v => rowx_snoc (x := x) (v := v) hkm HR.out)
      have HT := hid (fun e => rowx_stop (e := e) hkm HR.out)
      have hxc := drx_cases (ms.getD k 0) (xs.drop u)
      rw [List.length_drop, HL.out] at hxc
      clear hcc hkm hcap
      have hr2 := HRUN.out
      generalize ms.getD k 0 = y at *
      rcases hxc with ⟨e, hx, hne, -⟩ | ⟨mm, x, v, -, -, hmm, -, hx, hxb, -, hv⟩
      · rw [hx] at HD
        have HX := hid (HT.out e hx hne)
        have hz : (e != 0) = true := by simpa using hne
        clear HS HT hx hne
        go_wp2_with fail
        refine HD.out.mono ?_
        rintro e' w' ⟨rfl, rfl⟩
        go_wp2
        go_ret3
        exact ⟨_, by rw [HX.out]; exact rfl, by rw [HX.out]; exact OwnInts.nil _ _, HB.out⟩
      · rw [hx] at HD
        have HX := hid (HS.out x v hx)
        clear HS HT hx
        go_wp2_with fail
        refine HD.out.mono ?_
        rintro e' w' ⟨rfl, rfl⟩
        go_wp2_with (at_builtin; refine wpList_app1 _ rfl (.tmp 32) (.tmp 34) rfl w.heap.size _ r (x : Int) rfl rfl HO.out (by omega) HB.out.size ?_)
        intro v' w1 ho1 _ hb1
        have HO1 := hid ho1
        have HB1 := hid (HB.out.trans hb1)
        clear ho1 hb1
        go_wp2
        go_roundg (m - (k + 1))
        case measure => omega
        case rel => exact ⟨k + 1, u + v, r ++ [(x : Int)], by omega, by omega, by omega, by go_num, by go_num, by simp; omega, HX.out, HO1.out, HB1.out⟩
    · obtain rfl : k = m := by omega
      have HE : Hid (ms.take k = ms) := by rw [← HM.out]; exact List.take_length
      rw [HE.out] at HR
      go_wp2
      go_ret3
      exact ⟨_, by rw [HR.out]; exact rfl, by rw [HR.out]; exact HO.out, HB.out⟩
end Go.Proofs.Ytlclmmolbhnpgaa
