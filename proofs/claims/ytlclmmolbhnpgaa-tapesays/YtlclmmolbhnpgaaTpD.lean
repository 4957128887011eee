/-
  tape.Row.
-/
import Derived.Test.YtlclmmolbhnpgaaTpC
namespace Go.Proofs.Ytlclmmolbhnpgaa
open Go.RowKit

/-- Numbers of the call's own, how many bits, an error. -/
def RetRow (r : List Int × Nat × Int) (w : World) (e : Ending) (w' : World) : Prop := ∃ v, e = .returned (.tuple #[v, .int .i64 (r.2.1 : Int), .int .i64 r.2.2]) ∧ OwnInts w' w.heap.size v r.1 ∧ Below w.heap.size w w'

theorem tpRow_err (A : Option Addr) (n c : Nat) (xs : List Nat) (B : Option Addr) (m d : Nat) (w : World) (h : Byts w A n xs) (he : tapeErr xs ≠ 0) :
    Calls Try.prog 9 #[.slice A n c, .slice B m d] w (RetRow ([], 0, tapeErr xs) w) := by
  have HC := hid (tpCheck_any A n c xs w h)
  have hz : (tapeErr xs != 0) = true := by simpa using he
  clear h he
  generalize tapeErr xs = E at *
  go_enter Try.func9, Try.ntmps9
  go_wp2_with fail
  refine HC.out.mono ?_
  rintro e w' ⟨rfl, rfl⟩
  go_wp2
  go_ret3
  exact ⟨_, rfl, OwnInts.nil _ _, Below.refl _ _⟩
theorem tpRow_large (A : Option Addr) (n c : Nat) (xs : List Nat) (B : Option Addr) (m d : Nat) (w : World) (h : Byts w A n xs) (he : tapeErr xs = 0) (hm : 30 < m) :
    Calls Try.prog 9 #[.slice A n c, .slice B m d] w (RetRow ([], 0, 2) w) := by
  have HC := hid (tpCheck_any A n c xs w h)
  rw [he] at HC
  have hI : (m : Int) > 30 := by omega
  clear h he
  go_enter Try.func9, Try.ntmps9
  go_wp2_with fail
  refine HC.out.mono ?_
  rintro e w' ⟨rfl, rfl⟩
  go_wp2
  go_ret3
  exact ⟨_, rfl, OwnInts.nil _ _, Below.refl _ _⟩

set_option maxHeartbeats 400000 in
set_option maxRecDepth 100000 in
theorem tpRow_good (A : Option Addr) (n c : Nat) (xs : List Nat) (B : Option Addr) (m d : Nat) (ms : List Int) (w : World) (h : Byts w A n xs) (hc : Cap n c) (hI : Ints w B m ms) (he : tapeErr xs = 0) (hm : m ≤ 30) :
    Calls Try.prog 9 #[.slice A n c, .slice B m d] w (RetRow (rowx ms xs) w) := by
  have hz := tapeErr_zero he
  have HL := hid h.len
  have HM := hid hI.len
  have hn : n ≤ 200 := by rw [← h.len]; exact hz.1
  have HC := hid (tpCheck_any A n c xs w h)
  rw [he] at HC
  have HE := hid he
  have HH := hid h
  have HI := hid hI
  have HCP := hid hc
  clear h he hz hc hI
  go_enter Try.func9, Try.ntmps9
  go_wp2_with fail
  refine HC.out.mono ?_
  rintro e w' ⟨rfl, rfl⟩
  clear HC
  go_wp2
  go_loopg [8, 9, 25] m (fun g v tv sv wr => ∃ (k u : Nat) (r : List Int), k ≤ m ∧ m - k ≤ g ∧ u ≤ n ∧ sv = .int .i64 (k : Int) ∧ tv = .int .i64 (u : Int) ∧ r.length = k ∧ rowx (ms.take k) xs = (r, u, 0) ∧ OwnInts wr w.heap.size v r ∧ Below w.heap.size w wr)
  case atStart => exact ⟨0, 0, [], by omega, by omega, by omega, rfl, rfl, rfl, rfl, OwnInts.nil _ _, Below.refl _ _⟩
  case round =>
    obtain ⟨k, u, r, hk, hg, hu, rfl, rfl, hrl, hrow, ho, hb⟩ := hrel
    have HR := hid hrow
    have HO := hid ho
    have HB := hid hb
    clear hrow ho hb
    by_cases hlt : k < m
    · have hkm : k < ms.length := by rw [HM.out]; exact hlt
      obtain ⟨b, o, rfl, hbb, hcc⟩ := HI.out.row (by omega)
      have g1 : wr.cell? ⟨b, o + k, none⟩ = some (.int .i64 (ms.getD k 0)) := (HB.out.cell (p := ⟨b, o + k, none⟩) hbb).trans (hcc k hlt)
      have HRUN := hid (run_fromB A n c u (u : Int) rfl hu)
      have hcap := HCP.out
      unfold Cap at hcap
      have HD : Hid (Calls Try.prog 8 #[.slice (subA A c u) (n - u) (c - u), .int .i64 (ms.getD k 0)] wr (RetDraw (drx (ms.getD k 0) (xs.drop u)) wr)) := by
        have := tpDraw_any (subA A c u) (n - u) (c - u) (xs.drop u) (ms.getD k 0) wr ((HH.out.keep HB.out).drop hu hcap.1) ⟨by omega, by omega⟩
        rw [drawX_ok (tapeErr_drop HE.out u)] at this
        exact this
      have HS := hid (fun x v => rowx_snoc (x := x) (v := v) hkm HR.out)
      have HT := hid (fun e => rowx_stop (e := e) hkm HR.out)
      have hxc := drx_cases (ms.getD k 0) (xs.drop u)
      rw [List.length_drop, HL.out] at hxc
      clear hcc hkm hcap
      have hr2 := HRUN.out
      generalize ms.getD k 0 = y at *
      rcases hxc with ⟨e, hx, hne, -⟩ | ⟨mm, x, v, -, -, hmm, -, hx, hxb, -, hv⟩
      · rw [hx] at HD
        have HX := hid (HT.out e hx hne)
        have hz : (e != 0) = true := by simpa using hne
        clear HS HT hx hne
        go_wp2_with fail
        refine HD.out.mono ?_
        rintro e' w' ⟨rfl, rfl⟩
        go_wp2
        go_ret3
        exact ⟨_, by rw [HX.out]; exact rfl, by rw [HX.out]; exact OwnInts.nil _ _, HB.out⟩
      · rw [hx] at HD
        have HX := hid (HS.out x v hx)
        clear HS HT hx
        go_wp2_with fail
        refine HD.out.mono ?_
        rintro e' w' ⟨rfl, rfl⟩
        go_wp2_with (at_builtin; refine wpList_app1 _ rfl (.tmp 41) (.tmp 43) rfl w.heap.size _ r (x : Int) rfl rfl HO.out (by omega) HB.out.size ?_)
        intro v' w1 ho1 _ hb1
        have HO1 := hid ho1
        have HB1 := hid (HB.out.trans hb1)
        clear ho1 hb1
        go_wp2
        go_roundg (m - (k + 1))
        case measure => omega
        case rel => exact ⟨k + 1, u + v, r ++ [(x : Int)], by omega, by omega, by omega, by go_num, by go_num, by simp; omega, HX.out, HO1.out, HB1.out⟩
    · obtain rfl : k = m := by omega
      have HE : Hid (ms.take k = ms) := by rw [← HM.out]; exact List.take_length
      rw [HE.out] at HR
      go_wp2
      go_ret3
      exact ⟨_, by rw [HR.out]; exact rfl, by rw [HR.out]; exact HO.out, HB.out⟩

theorem tpRow_any (A : Option Addr) (n c : Nat) (xs : List Nat) (B : Option Addr) (m d : Nat) (ms : List Int) (w : World) (h : Byts w A n xs) (hc : Cap n c) (hI : Ints w B m ms) :
    Calls Try.prog 9 #[.slice A n c, .slice B m d] w (RetRow (rowX ms xs) w) := by
  by_cases he : tapeErr xs = 0
  · by_cases hm : 30 < m
    · rw [rowX_large he (by rw [hI.len]; exact hm)]
      exact tpRow_large A n c xs B m d w h he hm
    · rw [rowX_ok he (by rw [hI.len]; exact hm)]
      exact tpRow_good A n c xs B m d ms w h hc hI he (by omega)
  · rw [rowX_bad he]
    exact tpRow_err A n c xs B m d w h he

end Go.Proofs.Ytlclmmolbhnpgaa
