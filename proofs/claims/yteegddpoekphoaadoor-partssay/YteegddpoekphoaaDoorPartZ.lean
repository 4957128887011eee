/-
  castref.SumsOf: how many sums there are, by a closure that calls itself and keeps what it has found in a map.
-/
import Derived.Test.YteegddpoekphoaaDoorGen
import Derived.Test.YteegddpoekphoaaDoorPartN
import Derived.Maps.OwnSet
import Derived.Maps.AppendAt
import Derived.Deep.RegionWith
import Derived.Deep.CutBlock
import Derived.WideKeyPair
import Derived.DeepKeys4
import Derived.Laws.EntriesVeiled
namespace Go.Proofs.YteegddpoekphoaaDoor
open Go.RowKit Go.Maps Go.WideMaps

theorem laidOutZ : laidOutB Tryd.prog = true := by kernel_rfl
theorem rowZ : (45 : TypeId) < Tryd.prog.types.size := of_decide_eq_true (by kernel_rfl)
theorem wideZ : (match Tryd.prog.underlying 45 with | some (.array _ _) | some (.struct _) => true | _ => false) = true := by rw [Tryd.underlying45]
theorem arrZ : ArrKey Tryd.prog 45 3 2 := ⟨Tryd.underlying45, by kernel_rfl, by kernel_rfl, by kernel_rfl⟩
theorem lawZ : Keyed Tryd.prog 45 := Keyed.of_law (deep_law_laid laidOutZ (m := 2) (by omega) rowZ (by kernel_rfl) wideZ)
theorem zeroZ (w : World) : (zeroValue 3).run Tryd.prog w = .ok (.int .i64 0) w := by kernel_rfl

/-- The closure that counts. -/
abbrev sumsFn (b5 b6 : Nat) : Value := .func (.func 28) #[] #[.pointer (some ⟨b5, 0, none⟩), .pointer (some ⟨b6, 0, none⟩)]
/-- What a key reads as. -/
def keyZ (a b : Nat) : Lit := .string (keyBytes [.int .i64 (a : Int), .int .i64 (b : Int)])
theorem wf_small {a : Nat} (h : a ≤ 1000000) : (Lit.int .i64 (a : Int)).wf = true := WalkArith.wf_i64 (by omega)
theorem keyOf_Z {a b : Nat} (ha : a ≤ 1000000) (hb : b ≤ 1000000) : keyOf Tryd.prog 45 (.agg #[.int .i64 (a : Int), .int .i64 (b : Int)]) = some (keyZ a b) :=
  keyOf_pair arrZ Tryd.underlying3 ⟨Tryd.prog.types.size - 1, by kernel_rfl⟩ (wf_small ha) (wf_small hb)
theorem keyZ_inj {a b a' b' : Nat} (ha : a ≤ 1000000) (hb : b ≤ 1000000) (ha' : a' ≤ 1000000) (hb' : b' ≤ 1000000) (h : keyZ a b = keyZ a' b') : a = a' ∧ b = b' := by
  have := lawZ.inj (keyOf_Z ha hb) (by rw [h]; exact keyOf_Z ha' hb')
  simp only [Value.agg.injEq, Array.mk.injEq, List.cons.injEq, Value.int.injEq, true_and, and_true] at this
  omega
theorem isKey_Z {a b : Nat} (ha : a ≤ 1000000) (hb : b ≤ 1000000) : WideAt.IsKeyLit (keyZ a b) := lawZ.key (keyOf_Z ha hb)

/-- What the map holds is right. -/
def GoodZ (D : DataW Unit) : Prop := ∀ a b : Nat, a ≤ 40 → b ≤ 40 → Maps.has D (keyZ a b) = true → D.atKey (keyZ a b) (.lit (.int .i64 0)) = .lit (.int .i64 ((pcnt b a : Nat) : Int))
theorem goodZ_put {D : DataW Unit} (hD : IsMap D) (h : GoodZ D) {a b : Nat} (ha : a ≤ 40) (hb : b ≤ 40) : GoodZ (D.put (keyZ a b) (.lit (.int .i64 ((pcnt b a : Nat) : Int)))) := by
  intro a' b' ha' hb' hh
  by_cases e : keyZ a' b' = keyZ a b
  · obtain ⟨rfl, rfl⟩ := keyZ_inj (by omega) (by omega) (by omega) (by omega) e
    exact atKey_put_same hD (isKey_Z (by omega) (by omega)) _ _
  · rw [atKey_put_other e]
    rw [has_put_other e] at hh
    exact h a' b' ha' hb' hh
theorem goodZ_nil : GoodZ (.map []) := fun a b _ _ h => by simp [Maps.has] at h

/-- The world while the closure counts. -/
structure SumsW (w : World) (B b5 b6 j : Nat) (D : DataW Unit) : Prop where
  seen : w.cell? ⟨b5, 0, none⟩ = some (.map (some B))
  self : w.cell? ⟨b6, 0, none⟩ = some (sumsFn b5 b6)
  owns : w.ownsMap Tryd.prog 45 (plainElem Tryd.prog 3) B j D
  good : GoodZ D
  ne5 : b5 ≠ B
  ne6 : b6 ≠ B


theorem SumsW.drew {w : World} {B b5 b6 j : Nat} {D : DataW Unit} (h : SumsW w B b5 b6 j D) : SumsW w.drew B b5 b6 j D := ⟨h.seen, h.self, h.owns.drew, h.good, h.ne5, h.ne6⟩
theorem SumsW.mono {w : World} {B b5 b6 j j' : Nat} {D : DataW Unit} (h : SumsW w B b5 b6 j D) (hj : j ≤ j') : SumsW w B b5 b6 j' D := ⟨h.seen, h.self, h.owns.mono hj, h.good, h.ne5, h.ne6⟩

/-- How many sums, of a number that may be below nought. -/
def cntZ (N : Int) (k : Nat) : Nat := if N < 0 then 0 else pcnt k N.toNat
/-- How many entries at most are laid for it. -/
def costZ (N : Int) (k : Nat) : Nat := if N < 0 then 0 else (N.toNat + k) * pcnt k N.toNat
theorem pcnt_pos {m : Nat} (h : 0 < m) (s : Nat) : 0 < pcnt m s := by
  have h1 : ∀ s, pcnt 1 s = 1 := by
    intro s
    induction s with
    | zero => rfl
    | succ s ih => rw [pcnt_ge (m := 0) (by omega), show s + 1 - (0 + 1) = s by omega, ih, pcnt_zero, if_neg (by omega)]
  have := pcnt_mono' h s
  rw [h1] at this
  exact this
theorem cntZ_step {n k : Nat} (hk : 0 < k) : cntZ ((n : Int) - (k : Int)) k + pcnt (k - 1) n = pcnt k n := by
  obtain ⟨m, rfl⟩ : ∃ m, k = m + 1 := ⟨k - 1, by omega⟩
  unfold cntZ
  rw [Nat.add_sub_cancel]
  by_cases h : m + 1 ≤ n
  · rw [if_neg (by omega), pcnt_ge h, show ((n : Int) - ((m + 1 : Nat) : Int)).toNat = n - (m + 1) by omega]
    omega
  · rw [if_pos (by omega), pcnt_lt (by omega)]
    omega
theorem costZ_step {n k : Nat} (hn : 0 < n) (hk : 0 < k) : costZ ((n : Int) - (k : Int)) k + costZ (n : Int) (k - 1) + 1 ≤ costZ (n : Int) k := by
  have hs := cntZ_step (n := n) hk
  have e1 : costZ (n : Int) (k - 1) = (n + (k - 1)) * pcnt (k - 1) n := by unfold costZ; rw [if_neg (by omega), Int.toNat_natCast]
  have e2 : costZ (n : Int) k = (n + k) * pcnt k n := by unfold costZ; rw [if_neg (by omega), Int.toNat_natCast]
  rw [e1, e2, ← hs, Nat.mul_add]
  have h2 : (n + (k - 1)) * pcnt (k - 1) n + pcnt (k - 1) n = (n + k) * pcnt (k - 1) n := by
    rw [← Nat.succ_mul]
    congr 1
    omega
  by_cases h : k ≤ n
  · have e3 : costZ ((n : Int) - (k : Int)) k = n * pcnt k (n - k) := by
      unfold costZ
      rw [if_neg (by omega), show ((n : Int) - (k : Int)).toNat = n - k by omega, show n - k + k = n by omega]
    have e4 : cntZ ((n : Int) - (k : Int)) k = pcnt k (n - k) := by
      unfold cntZ
      rw [if_neg (by omega), show ((n : Int) - (k : Int)).toNat = n - k by omega]
    rw [e3, e4]
    have h5 : (n + k) * pcnt k (n - k) = n * pcnt k (n - k) + k * pcnt k (n - k) := Nat.add_mul _ _ _
    have h3 := pcnt_pos hk (n - k)
    have h4 : k * 1 ≤ k * pcnt k (n - k) := Nat.mul_le_mul_left _ h3
    omega
  · have e3 : costZ ((n : Int) - (k : Int)) k = 0 := by unfold costZ; rw [if_pos (by omega)]
    have h3 := pcnt_pos (show 0 < k - 1 by omega) n
    rw [e3]
    omega

def RetZ (w : World) (B b5 b6 j v : Nat) (e : Ending) (w' : World) : Prop := ∃ D', e = .returned (.int .i64 (v : Int)) ∧ SumsW w' B b5 b6 j D' ∧ w.grownBy w' (some B)
def SumsTo (f : Nat) : Prop := ∀ (N : Int) (k : Nat) (w : World) (B b5 b6 j : Nat) (D : DataW Unit), -40 ≤ N → N ≤ 40 → k ≤ 40 → N.toNat + k ≤ f → SumsW w B b5 b6 j D → j + costZ N k ≤ 1000000000 →
  Calls Tryd.prog 28 #[.int .i64 N, .int .i64 (k : Int), .pointer (some ⟨b5, 0, none⟩), .pointer (some ⟨b6, 0, none⟩)] w (RetZ w B b5 b6 (j + costZ N k) (cntZ N k))
theorem grown_refl (w : World) (B : Nat) : w.grownBy w (some B) := ⟨rfl, rfl, rfl, Nat.le_refl _, fun _ _ _ => rfl⟩

set_option maxHeartbeats 800000 in
theorem sums_easy (N : Int) (k : Nat) (w : World) (B b5 b6 j : Nat) (D : DataW Unit) (hN : -40 ≤ N) (hN2 : N ≤ 40) (hk : k ≤ 40) (he : N ≤ 0 ∨ k = 0) (h : SumsW w B b5 b6 j D) :
    Calls Tryd.prog 28 #[.int .i64 N, .int .i64 (k : Int), .pointer (some ⟨b5, 0, none⟩), .pointer (some ⟨b6, 0, none⟩)] w (RetZ w B b5 b6 (j + costZ N k) (cntZ N k)) := by
  have HS := hid (h.mono (Nat.le_add_right j (costZ N k)))
  clear h
  by_cases h0 : N = 0
  · subst h0
    have HC : Hid (cntZ 0 k = 1) := by unfold cntZ; rw [if_neg (by omega)]; exact pcnt_nil k
    go_enter Tryd.func28, Tryd.ntmps28
    go_wp2
    go_ret
    exact ⟨D, by rw [HC.out]; rfl, HS.out, grown_refl w B⟩
  · have hne : (N == 0) = false := by simpa using h0
    by_cases h1 : N < 0
    · have HC : Hid (cntZ N k = 0) := by unfold cntZ; rw [if_pos h1]; exact rfl
      go_enter Tryd.func28, Tryd.ntmps28
      go_wp2
      go_ret
      exact ⟨D, by rw [HC.out]; rfl, HS.out, grown_refl w B⟩
    · have hk0 : k = 0 := by omega
      subst hk0
      have HC : Hid (cntZ N 0 = 0) := by
        unfold cntZ
        rw [if_neg h1, pcnt_zero, if_neg (by omega)]
        exact rfl
      go_enter Tryd.func28, Tryd.ntmps28
      go_wp2
      go_ret
      exact ⟨D, by rw [HC.out]; rfl, HS.out, grown_refl w B⟩

set_option maxHeartbeats 3000000 in
theorem sums_step (f : Nat) (IH : SumsTo f) : SumsTo (f + 1) := by
  have HI := hid IH
  clear IH
  intro N k w B b5 b6 j D hN hN2 hk hf h hj
  by_cases he : N ≤ 0 ∨ k = 0
  · exact sums_easy N k w B b5 b6 j D hN hN2 hk he h
  · obtain ⟨n, rfl⟩ := Int.eq_ofNat_of_zero_le (show 0 ≤ N by omega)
    have hn0 : 0 < n := by omega
    have hk0 : 0 < k := by omega
    have hn40 : n ≤ 40 := by omega
    have hf2 : n + k ≤ f + 1 := by rwa [Int.toNat_natCast] at hf
    have HCZ : Hid (cntZ (n : Int) k = pcnt k n) := by unfold cntZ; rw [if_neg (by omega)]; exact rfl
    have HST := hid (cntZ_step (n := n) hk0)
    have hco := costZ_step hn0 hk0
    have g5 := h.seen
    have g6 := h.self
    have HH := hid h
    have HO := hid h.owns
    have hne : ((n : Int) == 0) = false := by simp; omega
    have hke : ((k : Int) == 0) = false := by simp; omega
    have hnn : ¬ (n : Int) < 0 := by omega
    have hd0 : decide ((n : Int) < 0) = false := by simp
    clear h he hf hN hN2
    generalize costZ (n : Int) k = co at *
    go_enter Tryd.func28, Tryd.ntmps28
    go_upto_if 26 with (at_lookup; refine wpList_lookup_own_ok_int _ rfl _ _ 43 rfl 45 3 .i64 lawZ Tryd.underlying43 Tryd.underlying3 (zeroZ _) B j _ rfl HO.out _ _ rfl (keyOf_Z (by omega) (by omega)) ?_; intro c hat hwc)
    have HAT := hid hat
    have HWC := hid hwc
    clear hat hwc HO
    rcases hh : Maps.has D (keyZ n k) with _ | _
    · have hs1 : IntKind.i64.wrap ((n : Int) - (k : Int)) = (n : Int) - (k : Int) := IntWalk.i64_in _ (by omega)
      have hs2 : IntKind.i64.wrap ((k : Int) - 1) = ((k - 1 : Nat) : Int) := by rw [IntWalk.i64_in _ (by omega)]; omega
      have hb1 : cntZ ((n : Int) - (k : Int)) k ≤ 37338 := by
        unfold cntZ
        split
        · omega
        · exact pcnt_le hk (by omega)
      have hb2 : cntZ (n : Int) (k - 1) ≤ 37338 := by
        unfold cntZ
        split
        · omega
        · exact pcnt_le (by omega) (by rw [Int.toNat_natCast]; exact hn40)
      have HC2 : Hid (cntZ (n : Int) (k - 1) = pcnt (k - 1) n) := by unfold cntZ; rw [if_neg (by omega)]; exact rfl
      have hs3 : IntKind.i64.wrap (((cntZ ((n : Int) - (k : Int)) k : Nat) : Int) + ((cntZ (n : Int) (k - 1) : Nat) : Int)) = ((cntZ ((n : Int) - (k : Int)) k : Nat) : Int) + ((cntZ (n : Int) (k - 1) : Nat) : Int) := IntWalk.i64_in _ (by omega)
      generalize hq1 : costZ ((n : Int) - (k : Int)) k = c1 at *
      generalize hq2 : costZ (n : Int) (k - 1) = c2 at *
      have HQ1 := hid hq1
      have HQ2 := hid hq2
      have HF1 : Hid (((n : Int) - (k : Int)).toNat + k ≤ f) := show ((n : Int) - (k : Int)).toNat + k ≤ f by omega
      have HF2 : Hid ((n : Int).toNat + (k - 1) ≤ f) := show (n : Int).toNat + (k - 1) ≤ f by omega
      have tok1 : True := trivial
      clear hq1 hq2 HAT HWC
      go_wp2_with fail
      go_region_with (first
        | (go_at_call 28; have _t := tok1; refine (HI.out ((n : Int) - (k : Int)) k _ B b5 b6 j D (by omega) (by omega) hk HF1.out HH.out.drew (by rw [HQ1.out]; omega)).mono ?_; rintro e w1 ⟨D1, rfl, hz1, hg1⟩; clear tok1; have HZ1 := hid hz1; have HG1 := hid hg1; have g61 := hz1.self; clear hz1 hg1)
        | (go_at_call 28; refine (HI.out (n : Int) (k - 1) _ B b5 b6 _ _ (by omega) (by omega) (by omega) HF2.out HZ1.out (by rw [HQ1.out, HQ2.out]; omega)).mono ?_; rintro e w2 ⟨D2, rfl, hz2, hg2⟩; have HZ2 := hid hz2; have HG2 := hid hg2; have g52 := hz2.seen; clear hz2 hg2))
      all_goals
        have HV : Hid (((cntZ ((n : Int) - (k : Int)) k : Nat) : Int) + ((cntZ (n : Int) (k - 1) : Nat) : Int) = ((pcnt k n : Nat) : Int)) := by
          have e := HST.out
          rw [← HC2.out] at e
          rw [← e]
          exact (Int.natCast_add _ _).symm
        have HWF : Hid ((Lit.int .i64 (((cntZ ((n : Int) - (k : Int)) k : Nat) : Int) + ((cntZ (n : Int) (k - 1) : Nat) : Int))).wf = true) := WalkArith.wf_i64 (by omega)
        have HML : Hid (j + costZ ((n : Int) - (k : Int)) k + costZ (n : Int) (k - 1) < maxLen) := by
          rw [HQ1.out, HQ2.out]
          exact show j + c1 + c2 < maxLen by unfold maxLen; omega
        go_wp2_with (at_mapUpdate; refine wpList_mapUpdate_own _ rfl _ _ _ 43 rfl 45 3 lawZ Tryd.underlying43 _ B _ D2 rfl HZ2.out.owns HML.out _ _ _ rfl rfl (keyOf_Z (a := n) (b := k) (by omega) (by omega)) _ [] (plainElem_int Tryd.underlying3 HWF.out) ?_; intro w3 hown3 hgrow3)
        rw [HV.out] at hown3
        have HS3 : Hid (SumsW w3 B b5 b6 (j + co) (D2.put (keyZ n k) (.lit (.int .i64 ((pcnt k n : Nat) : Int))))) :=
          ⟨hgrow3.cell HZ2.out.seen (fun e => HZ2.out.ne5 (by injection e)), hgrow3.cell HZ2.out.self (fun e => HZ2.out.ne6 (by injection e)), hown3.mono (by rw [HQ1.out, HQ2.out]; omega), goodZ_put HZ2.out.owns.isMap HZ2.out.good hn40 hk, HZ2.out.ne5, HZ2.out.ne6⟩
        have HG3 : Hid (w.grownBy w3 (some B)) := (World.grownBy.trans (show w.grownBy w1 (some B) from ⟨HG1.out.os, HG1.out.tape, HG1.out.output, HG1.out.size, HG1.out.block⟩) HG2.out).trans hgrow3
        clear hown3 hgrow3
        go_wp2
        go_ret
        exact ⟨_, by rw [HCZ.out, ← HV.out]; rfl, HS3.out, HG3.out⟩
    · have HG := HH.out.good n k hn40 hk hh
      rw [HAT.out] at HG
      injection HG with HG
      injection HG with _ HG
      subst HG
      go_wp2
      go_ret
      exact ⟨D, by rw [HCZ.out]; rfl, HH.out.mono (Nat.le_add_right _ _), grown_refl w B⟩

theorem sums_all : ∀ f, SumsTo f := by
  intro f
  induction f with
  | zero =>
    intro N k w B b5 b6 j D h1 h2 h3 h4 h5 _
    exact sums_easy N k w B b5 b6 j D h1 h2 h3 (by omega) h5
  | succ f ih => exact sums_step f ih

set_option maxHeartbeats 800000 in
theorem sumsOf_any (n k : Nat) (w : World) (hn : n ≤ 40) (hk : k ≤ 40) :
    Calls Tryd.prog 9 #[.int .i64 (n : Int), .int .i64 (k : Int)] w fun e w' => e = .returned (.int .i64 ((pcnt k n : Nat) : Int)) ∧ Below w.heap.size w w' := by
  have hmm := @run_makeMap Tryd.prog
  have HCZ : Hid (cntZ (n : Int) k = pcnt k n) := by unfold cntZ; rw [if_neg (by omega)]; exact rfl
  have HCO : Hid (0 + costZ (n : Int) k ≤ 1000000000) := by
    unfold costZ
    rw [if_neg (by omega), Int.toNat_natCast]
    have h1 := pcnt_le hk hn
    have h2 : (n + k) * pcnt k n ≤ 80 * 37338 := Nat.mul_le_mul (by omega) h1
    exact show 0 + (n + k) * pcnt k n ≤ 1000000000 by omega
  go_enter Tryd.func9, Tryd.ntmps9
  go_wp2_with fail
  have HW : Hid (SumsW (((w.alloc (.map #[] 0)).alloc (.cells #[.map (some w.heap.size)] 43)).alloc (.cells #[sumsFn (w.heap.size + 1) (w.heap.size + 1 + 1)] 28)) w.heap.size (w.heap.size + 1) (w.heap.size + 1 + 1) 0 (.map [])) := by
    have e1 : (w.alloc (.map #[] 0)).heap.size = w.heap.size + 1 := by simp
    have e2 : ((w.alloc (.map #[] 0)).alloc (.cells #[.map (some w.heap.size)] 43)).heap.size = w.heap.size + 1 + 1 := by simp
    have h5 := heap_alloc_new (w.alloc (.map #[] 0)) (.cells #[.map (some w.heap.size)] 43)
    have h6 := heap_alloc_new ((w.alloc (.map #[] 0)).alloc (.cells #[.map (some w.heap.size)] 43)) (.cells #[sumsFn (w.heap.size + 1) (w.heap.size + 1 + 1)] 28)
    rw [e1] at h5
    rw [e2] at h6
    have h5' := (Below.heap_alloc ((w.alloc (.map #[] 0)).alloc (.cells #[.map (some w.heap.size)] 43)) (.cells #[sumsFn (w.heap.size + 1) (w.heap.size + 1 + 1)] 28) (w.heap.size + 1) (by rw [e2]; omega)).trans h5
    exact ⟨cell_of_row _ _ 0 _ _ _ h5', cell_of_row _ _ 0 _ _ _ h6, ((World.ownsMap_made w _ _ _).alloc _).alloc _, goodZ_nil, by omega, by omega⟩
  have HB : Hid (Below w.heap.size w (((w.alloc (.map #[] 0)).alloc (.cells #[.map (some w.heap.size)] 43)).alloc (.cells #[sumsFn (w.heap.size + 1) (w.heap.size + 1 + 1)] 28))) :=
    (((Below.refl _ _).alloc (Nat.le_refl _) _).alloc (by simp) _).alloc (by simp; omega) _
  refine (sums_all _ (n : Int) k _ w.heap.size (w.heap.size + 1) (w.heap.size + 1 + 1) 0 (.map []) (by omega) (by omega) hk (Nat.le_refl _) HW.out HCO.out).mono ?_
  rintro e w1 ⟨D1, rfl, _, hg⟩
  have HB1 := hid (HB.out.grown hg (by simp; omega) (fun k hk => by injection hk with hk; omega))
  clear hg hmm
  rw [HCZ.out]
  go_wp2
  go_ret
  exact ⟨rfl, HB1.out⟩

end Go.Proofs.YteegddpoekphoaaDoor
