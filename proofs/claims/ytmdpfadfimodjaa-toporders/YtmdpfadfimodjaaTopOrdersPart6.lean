/-
  Texts joined: TopA, TopOrders.
-/
import Derived.Test.YtmdpfadfimodjaaTopOrdersPart5

/-
  casttop.good, works.
-/
namespace Go.Proofs.Ytmdpfadfimodjaa
open Go.RowKit

set_option maxHeartbeats 400000 in
theorem topgood1_any (x : Int) (w : World) : Calls Try.prog 60 #[.int .i64 x] w fun e w' => e = .returned (.bool (x != 0)) ∧ w = w' := by
  go_enter Try.func60, Try.ntmps60
  go_wp2
  go_ret
  exact ⟨rfl, rfl⟩

def TopIdxGood (l : List Int) (w : World) (e : Ending) (w' : World) : Prop := ∃ r : Int, e = .returned (.int .i64 r) ∧ decide (0 ≤ r) = !(allOK l) ∧ w = w'

set_option maxHeartbeats 800000 in
theorem topIndexFunc_good (A : Option Addr) (n c : Nat) (l : List Int) (w : World) (h : Ints w A n l) (hn : n ≤ 1000000) :
    Calls Try.prog 63 #[.slice A n c, .func (.func 60) #[] #[]] w (TopIdxGood l w) := by
  go_enter Try.func63, Try.ntmps63
  go_wp2
  go_loopg [8] n (fun g s wr => ∃ k : Nat, k ≤ n ∧ n - k ≤ g ∧ s = .int .i64 k ∧ w = wr ∧ ∀ j, j < k → l.getD j 0 = 0)
  case atStart => exact ⟨0, Nat.zero_le _, by omega, rfl, rfl, fun j hj => absurd hj (Nat.not_lt_zero _)⟩
  case round =>
    obtain ⟨k, hk, hg, rfl, rfl, hall⟩ := hrel
    have HA := hid hall
    clear hall
    by_cases hlt : k < n
    · obtain ⟨b, o, rfl, hb, hc⟩ := h.row (by omega)
      have g1 := hc k hlt
      have HL := hid h.len
      clear hc h
      generalize hx : l.getD k 0 = x at g1
      have HX := hid hx
      clear hx
      by_cases hz : x = 0
      · subst hz
        go_wp2_with (go_at_call 60; refine (topgood1_any _ _).mono ?_; rintro e w' ⟨rfl, rfl⟩)
        go_roundg (n - (k + 1))
        case measure => omega
        case rel =>
          refine ⟨k + 1, by omega, by omega, by go_num, rfl, fun j hj => ?_⟩
          by_cases e : j = k
          · subst e
            exact HX.out
          · exact HA.out j (by omega)
      · have hz' : (x != 0) = true := by simpa using hz
        go_wp2_with (go_at_call 60; refine (topgood1_any _ _).mono ?_; rintro e w' ⟨rfl, rfl⟩)
        go_ret
        have HS : allOK l = false := by
          rw [Bool.eq_false_iff]
          intro e
          exact hz (HX.out.symm.trans (allOK_true.1 e k (by rw [HL.out]; exact hlt)))
        exact ⟨_, rfl, by rw [HS]; simp, rfl⟩
    · go_wp2
      go_ret
      have HS : allOK l = true := allOK_true.2 fun i hi => HA.out i (by rw [h.len] at hi; omega)
      exact ⟨_, rfl, by rw [HS]; rfl, rfl⟩

set_option maxHeartbeats 800000 in
theorem topContainsFunc_good (A : Option Addr) (n c : Nat) (l : List Int) (w : World) (h : Ints w A n l) (hn : n ≤ 1000000) :
    Calls Try.prog 46 #[.slice A n c, .func (.func 60) #[] #[]] w fun e w' => e = .returned (.bool (!(allOK l))) ∧ w = w' := by
  go_enter Try.func46, Try.ntmps46
  go_wp2_with fail
  refine (topIndexFunc_good A n c l _ h hn).mono ?_
  rintro e w' ⟨r, rfl, hr, rfl⟩
  go_wp2
  go_ret
  exact ⟨rfl, rfl⟩

set_option maxHeartbeats 800000 in
theorem topgood_any (A : Option Addr) (n c : Nat) (l : List Int) (w : World) (h : Ints w A n l) (hn : n ≤ 1000000) :
    Calls Try.prog 37 #[.slice A n c] w fun e w' => e = .returned (.bool (allOK l)) ∧ w = w' := by
  go_enter Try.func37, Try.ntmps37
  go_wp2_with fail
  refine (topContainsFunc_good A n c l _ h hn).mono ?_
  rintro e w' ⟨rfl, rfl⟩
  go_wp2
  go_ret
  exact ⟨by simp, rfl⟩

theorem topgood_bel (w : World) (cs : Array Value) (t n : Nat) (l : List Int) (h : cs = (l.map (Value.int .i64)).toArray) (hn : l.length = n) (hs : n ≤ 1000000) :
    Calls Try.prog 37 #[.slice (some ⟨w.heap.size, 0, none⟩) n n] (w.alloc (.cells cs t)) fun e w' => e = .returned (.bool (allOK l)) ∧ Below w.heap.size w w' :=
  (topgood_any _ n n l _ (ints_lit w cs t n l h hn) hs).mono fun _ _ ⟨he, hw⟩ => ⟨he, by rw [← hw]; exact below_alloc _ _⟩

set_option maxHeartbeats 800000 in
set_option maxRecDepth 100000 in
theorem works_any (w : World) : Calls Try.prog 30 #[] w fun e w' => e = .returned (.bool true) ∧ Below w.heap.size w w' := by
  obtain ⟨o1, o2, o3⟩ := out_lit (r := Rat.divInt 1 2 + Rat.divInt 1 3) (P := 5) (Q := 6) (by decide +kernel) (by decide +kernel) (by decide +kernel)
  have HL := fun W => radd_of (P := 1) (Q := 2) (P' := 1) (Q' := 3) (Rat.divInt 1 2) (Rat.divInt 1 3) (by decide +kernel) (by decide +kernel) (by decide +kernel) (by decide +kernel) W (by decide +kernel) (by decide +kernel)
  simp only [o1, o2, o3] at HL
  have HL' := hid HL
  clear HL o1 o2 o3
  go_enter Try.func30, Try.ntmps30
  go_wp2_with fail
  refine (order_ok _ 3 3 [1, 2, 0] _ (ints_lit w _ _ 3 [1, 2, 0] rfl rfl) (by decide +kernel)).mono ?_
  rintro e w1 ⟨rfl, hb⟩
  rw [show ordL (cycL [1, 2, 0] 3) = 3 by decide +kernel]
  have HB1 := hid (below_step (below_alloc w (.cells #[.int .i64 1, .int .i64 2, .int .i64 0] 3)) (Nat.le_refl _) hb)
  clear hb
  go_wp2_with fail
  refine (HL'.out _).mono ?_
  rintro e w2 ⟨rfl, hb⟩
  have HB2 := hid (below_step (below_step HB1.out (Nat.le_refl _) hb) (Nat.le_refl _) (below_alloc w2 (.cells #[.int .i64 5, .int .i64 6] 64)))
  clear hb HL' HB1
  go_wp2
  go_ret
  exact ⟨rfl, HB2.out⟩
end Go.Proofs.Ytmdpfadfimodjaa

/-
  casttop.TopOrders, walked.
-/
namespace Go.Proofs.Ytmdpfadfimodjaa
open Go.RowKit

theorem run_min200 {P : Program} (x m : Nat) (hm : m = min x 200) (ts : Array TypeId) (t : TypeId) (W : World) :
    (Builtin.min_ ts t #[.int .i64 (x : Int), .int .i64 200]).run P W = .ok (.int .i64 (m : Int)) W := by
  have e : (if (200 : Int) < (x : Int) then (200 : Int) else (x : Int)) = (m : Int) := by
    subst hm
    split <;> omega
  simp only [Builtin.min_, Builtin.min2, List.foldlM_cons, List.foldlM_nil, pure_bind]
  simp only [e]
  rfl

theorem bin_256o {xs : List Nat} (h : Bin xs) : ∀ x ∈ xs, x < 256 := fun x hx => by have := h x hx; omega

set_option maxHeartbeats 4000000 in
set_option maxRecDepth 100000 in
theorem topOrders_any (A : Option Addr) (n c : Nat) (xs : List Nat) (N : Int) (w : World) (h : Byts w A n xs) (hc : Cap n c) :
    Calls Try.prog 7 #[.slice A n c, .int .i64 N] w fun e w' => e = .returned (.bool true) ∧ Below w.heap.size w w' := by
  obtain ⟨q, hq⟩ : ∃ q, q = min n 200 := ⟨_, rfl⟩
  have HL := hid h.len
  have hcap := hc
  unfold Cap at hcap
  have hmin := fun ts t W => run_min200 (P := Try.prog) n q hq ts t W
  have HQ := hid hq
  have hqn : q ≤ n := by omega
  have hqm : q ≤ 200 := by omega
  clear hq
  have hto := fun W => run_toB A n c q (q : Int) rfl (by omega) W
  have HH := hid h
  clear h
  go_enter Try.func7, Try.ntmps7
  go_wp2
  clear hmin hto
  go_loopg [5, 39] q (fun g v sv wr => ∃ k : Nat, k ≤ q ∧ q - k ≤ g ∧ sv = .int .i64 (k : Int) ∧ OwnByts wr w.heap.size v (bts xs k) ∧ Below w.heap.size w wr)
  case atStart => exact ⟨0, by omega, by omega, rfl, OwnByts.nil _ _, Below.refl _ _⟩
  case round =>
    obtain ⟨k, hk, hg, rfl, ho, hb⟩ := hrel
    have HO := hid ho
    have HB := hid hb
    clear ho hb
    by_cases hlt : k < q
    · obtain ⟨b, o, rfl, hbb, hcc⟩ := HH.out.row (by omega)
      have g1 : wr.cell? ⟨b, o + k, none⟩ = some (.int .u8 ((xs.getD k 0 : Nat) : Int)) := (HB.out.cell (p := ⟨b, o + k, none⟩) hbb).trans (hcc k (by omega))
      have HS := hid (bts_step (xs := xs) (k := k) (by rw [HL.out]; omega))
      have HK : Hid ((bts xs k).length ≤ 1000000000000) := by rw [Hid, bts_len]; omega
      have hx := HH.out.get (j := k) (by omega)
      clear hcc
      generalize xs.getD k 0 = x at *
      have hr : (x : Int).tmod 2 = ((x % 2 : Nat) : Int) := by rw [Int.tmod_eq_emod_of_nonneg (by omega)]; omega
      have hx2 : x % 2 < 2 := Nat.mod_lt _ (by omega)
      go_wp2_with (at_builtin; refine wpList_appT _ _ rfl (.tmp 43) (.tmp 46) rfl w.heap.size _ (bts xs k) (x % 2) hr rfl rfl HO.out HK.out HB.out.size ?_)
      intro v' w1 ho1 hb1 _
      rw [← HS.out] at ho1
      have HO1 := hid ho1
      have HB1 := hid (HB.out.trans hb1)
      clear ho1 hb1
      go_wp2
      go_roundg (q - (k + 1))
      case measure => omega
      case rel => exact ⟨k + 1, by omega, by omega, by go_num, HO1.out, HB1.out⟩
    · obtain rfl : k = q := by omega
      clear HH HL HQ
      obtain ⟨A5, c5, rfl, hI5, hk5, -⟩ := HO.out.byts (bin_256o (bts_bin xs k))
      have HE := hid (bts_ok (xs := xs) (m := k) hqm)
      clear HO
      generalize bts xs k = L at *
      obtain ⟨w5, rfl⟩ : ∃ w5, w5 = wr := ⟨_, rfl⟩
      have HR := hid (shCast_any A5 L.length c5 L N w5 hI5 hk5)
      have HB5 := HB
      clear HB hI5 hk5
      rcases castX_cases N L with ⟨er, hxe, hne⟩ | ⟨m, r, u, hOK⟩
      · rw [hxe] at HR
        have hz : (er != 0) = true := by simpa using hne
        clear hxe hne
        go_wp2_with fail
        refine HR.out.mono ?_
        rintro e' w6 ⟨v6, rfl, ho, hb⟩
        have HB6 := hid (below_step HB5.out (Nat.le_refl _) hb)
        obtain ⟨A6, c6, rfl, -, -⟩ := ho.ints
        clear ho hb HB5 HR
        go_wp2_with fail
        refine (works_any _).mono ?_
        rintro e w7 ⟨rfl, hb⟩
        have HB7 := hid (below_step HB6.out (Nat.le_refl _) hb)
        clear hb HB6
        go_wp2_with fail
        refine (works_any _).mono ?_
        rintro e w8 ⟨rfl, hb⟩
        have HB8 := hid (below_step HB7.out (Nat.le_refl _) hb)
        clear hb HB7
        go_wp2
        go_ret
        exact ⟨rfl, HB8.out⟩
      · have HOK := hid hOK
        rw [hOK.cast] at HR
        obtain rfl := hOK.eq
        have hm10 := hOK.le
        clear hOK
        go_wp2_with fail
        refine HR.out.mono ?_
        rintro e' w6 ⟨v6, rfl, ho, hb⟩
        have HB6 := hid (below_step HB5.out (Nat.le_refl _) hb)
        obtain ⟨A6, c6, rfl, hIP, hCP⟩ := ho.ints
        have HPE := hid HOK.out.perm
        have hpl := HOK.out.plen
        have HBK := hid HOK.out.back
        have HRL := hid HOK.out.len
        have HRE := hid HOK.out.err
        have HPA := hid (parities rfl (sgn_dealt HOK.out.lots) (p := dealt r))
        rw [HRL.out] at HPA
        rw [hpl] at hIP hCP ⊢
        have HDX : Hid (dealX r = dealt r) := dealX_ok HRE.out
        have HPL := hid hpl
        have HI6 := hid hIP
        have hC6 : m ≤ c6 := hCP.1
        have hC62 : c6 ≤ 9223372036854775807 := by have := hCP.2; omega
        clear ho hb hIP hpl HR HB5 hCP HE HOK
        generalize dealt r = p at *
        have HPI := hid (permErr_ok.1 HPE.out).2
        go_wp2_with fail
        refine (works_any _).mono ?_
        rintro e w7 ⟨rfl, hb⟩
        have HB7 := hid (below_step HB6.out (Nat.le_refl _) hb)
        have HI7 := hid (HI6.out.keep hb)
        clear hb HB6 HI6
        go_wp2_with fail
        refine (of_ok A6 m c6 p _ HI7.out HPE.out hC6).mono ?_
        rintro e w8 ⟨rfl, hb⟩
        have HB8 := hid (below_step HB7.out (Nat.le_refl _) hb)
        have HI8 := hid (HI7.out.keep hb)
        clear hb HB7 HI7
        have HAT := hid (at_ok m (rk p) w8 hm10 (by have := rk_lt p; rwa [HPL.out] at this))
        have hat := atL_rk HPI.out
        rw [HPL.out] at hat
        rw [hat] at HAT
        have hrk := rk_lt p
        rw [HPL.out] at hrk
        have hf := fact_ten hm10
        clear hat
        generalize rk p = kk at *
        go_wp2_with fail
        refine HAT.out.mono ?_
        rintro e w9 ⟨g9, rfl, hI, hb⟩
        have HB9 := hid (below_step HB8.out (Nat.le_refl _) hb)
        have HI9 := hid (HI8.out.keep hb)
        have HA9 := hid hI
        clear hb hI HB8 HI8 HAT hrk hf
        have HLO := hid (shLots_any A6 m c6 p w9 HI9.out (by omega))
        rw [HPE.out, HBK.out] at HLO
        go_wp2_with fail
        refine HLO.out.mono ?_
        rintro e w10 ⟨v10, rfl, ho, hb⟩
        have HB10 := hid (below_step HB9.out (Nat.le_refl _) hb)
        have HI10 := hid (HI9.out.keep hb)
        have HA10 := hid (HA9.out.keep hb)
        obtain ⟨A10, c10, rfl, hIL, -⟩ := ho.ints
        rw [HRL.out] at hIL ⊢
        have HIL := hid hIL
        clear ho hb hIL HB9 HI9 HA9 HLO
        have HDE := hid (shDeal_any A10 m c10 r w10 HIL.out)
        rw [HRE.out, HDX.out] at HDE
        go_wp2_with fail
        refine HDE.out.mono ?_
        rintro e w11 ⟨v11, rfl, ho, hb⟩
        have HB11 := hid (below_step HB10.out (Nat.le_refl _) hb)
        have HI11 := hid (HI10.out.keep hb)
        have HA11 := hid (HA10.out.keep hb)
        have HIL11 := hid (HIL.out.keep hb)
        obtain ⟨A11, c11, rfl, hIb, -⟩ := ho.ints
        rw [HPL.out] at hIb ⊢
        have HIB := hid hIb
        clear ho hb hIb HB10 HI10 HA10 HIL HDE
        go_wp2_with fail
        refine (tabOf_ok A6 m c6 p _ HI11.out HPE.out).mono ?_
        rintro e w12 ⟨B1, n1, d1, B2, n2, d2, rfl, hR1, hR2, hC1, hC2, hb⟩
        have HT12 : Hid (PairAt (w12.alloc (.cells #[.slice B1 n1 d1, .slice B2 n2 d2] 49)) w12.heap.size B1 n1 d1 B2 n2 d2 (PT p) (QT p)) := PairAt.new hR1 hR2
        have hb2 := below_step hb (Nat.le_refl _) (below_alloc w12 (.cells #[.slice B1 n1 d1, .slice B2 n2 d2] 49))
        have HB12 := hid (below_step HB11.out (Nat.le_refl _) hb2)
        have HI12 := hid (HI11.out.keep hb2)
        have HA12 := hid (HA11.out.keep hb2)
        have HIL12 := hid (HIL11.out.keep hb2)
        have HIB12 := hid (HIB.out.keep hb2)
        have HTP := hid (isTab_PT HPI.out (by rw [HPL.out]; exact hm10))
        have HTQ := hid (isTab_QT HPI.out.nodup (by rw [HPL.out]; exact hm10))
        have HLN := hid (PQ_lens p)
        have HFL : Hid ((QT p).flatten.length = m) := by rw [QT_flat_len]; exact HPL.out
        clear hR1 hR2 hC1 hC2 hb hb2 HB11 HI11 HA11 HIL11 HIB
        go_wp2_with fail
        refine (tback_ok B1 n1 d1 B2 n2 d2 (PT p) (QT p) _ HT12.out.rp HT12.out.rq HTP.out HTQ.out HLN.out).mono ?_
        rintro e w13 ⟨g13, G13, hG13, rfl, hI13, hb⟩
        rw [back_undoes HPI.out hG13] at hI13
        rw [HFL.out] at hI13 ⊢
        have HB13 := hid (below_step HB12.out (Nat.le_refl _) hb)
        have HI13 := hid (HI12.out.keep hb)
        have HA13 := hid (HA12.out.keep hb)
        have HIL13 := hid (HIL12.out.keep hb)
        have HIB13 := hid (HIB12.out.keep hb)
        have HIC := hid hI13
        clear hb hI13 hG13 HB12 HI12 HA12 HIL12 HIB12 HT12 HTP HTQ HLN HFL
        go_wp2_with fail
        refine (code_ok A6 m c6 p _ HI13.out HPE.out hC6).mono ?_
        rintro e w14 ⟨A14, n14, c14, rfl, hb, hI14, -⟩
        have hn14 : n14 = m := by rw [← hI14.len, length_codeL]; exact HPL.out
        subst hn14
        have HB14 := hid (below_step HB13.out (Nat.le_refl _) hb)
        have HI14 := hid (HI13.out.keep hb)
        have HA14 := hid (HA13.out.keep hb)
        have HIL14 := hid (HIL13.out.keep hb)
        have HIB14 := hid (HIB13.out.keep hb)
        have HIC14 := hid (HIC.out.keep hb)
        have HCD := hid hI14
        clear hb hI14 HB13 HI13 HA13 HIL13 HIB13 HIC
        go_wp2_with fail
        refine (rcrossed_ok A6 n14 c6 p _ HI14.out HPE.out hC6 hC62).mono ?_
        rintro e w15 ⟨rfl, hb⟩
        have HB15 := hid (below_step HB14.out (Nat.le_refl _) hb)
        have HI15 := hid (HI14.out.keep hb)
        have HA15 := hid (HA14.out.keep hb)
        have HIL15 := hid (HIL14.out.keep hb)
        have HIB15 := hid (HIB14.out.keep hb)
        have HIC15 := hid (HIC14.out.keep hb)
        have HCD15 := hid (HCD.out.keep hb)
        clear hb HB14 HI14 HA14 HIL14 HIB14 HIC14 HCD
        go_wp2_with fail
        refine (sign_ok A6 n14 c6 p _ HI15.out HPE.out hC6 hC62).mono ?_
        rintro e w16 ⟨rfl, hb⟩
        have HB16 := hid (below_step HB15.out (Nat.le_refl _) hb)
        have HI16 := hid (HI15.out.keep hb)
        have HA16 := hid (HA15.out.keep hb)
        have HIL16 := hid (HIL15.out.keep hb)
        have HIB16 := hid (HIB15.out.keep hb)
        have HIC16 := hid (HIC15.out.keep hb)
        have HCD16 := hid (HCD15.out.keep hb)
        clear hb HB15 HI15 HA15 HIL15 HIB15 HIC15 HCD15
        go_wp2_with fail
        refine (topgood_bel w16 _ _ 9 [0, 0, 0, 0, 0, 0, 0, 0, 0] rfl rfl (by omega)).mono ?_
        rintro e w17 ⟨rfl, hb⟩
        rw [show allOK [0, 0, 0, 0, 0, 0, 0, 0, 0] = true by decide]
        have HB17 := hid (below_step HB16.out (Nat.le_refl _) hb)
        have HI17 := hid (HI16.out.keep hb)
        have HA17 := hid (HA16.out.keep hb)
        have HIL17 := hid (HIL16.out.keep hb)
        have HIB17 := hid (HIB16.out.keep hb)
        have HIC17 := hid (HIC16.out.keep hb)
        have HCD17 := hid (HCD16.out.keep hb)
        clear hb HB16 HI16 HA16 HIL16 HIB16 HIC16 HCD16
        go_wp2_with fail
        refine (equal_bel _ n14 _ A6 n14 c6 p p _ HA17.out HI17.out (by omega) (by omega)).mono ?_
        rintro e w18 ⟨rfl, hb⟩
        rw [decide_eq_true rfl]
        have HB18 := hid (below_step HB17.out (Nat.le_refl _) hb)
        have HI18 := hid (HI17.out.keep hb)
        have HIL18 := hid (HIL17.out.keep hb)
        have HIB18 := hid (HIB17.out.keep hb)
        have HIC18 := hid (HIC17.out.keep hb)
        have HCD18 := hid (HCD17.out.keep hb)
        clear hb HB17 HI17 HA17 HIL17 HIB17 HIC17 HCD17
        go_wp2_with fail
        refine (equal_bel _ n14 _ A6 n14 c6 p p _ HIB18.out HI18.out (by omega) (by omega)).mono ?_
        rintro e w19 ⟨rfl, hb⟩
        rw [decide_eq_true rfl]
        have HB19 := hid (below_step HB18.out (Nat.le_refl _) hb)
        have HI19 := hid (HI18.out.keep hb)
        have HIL19 := hid (HIL18.out.keep hb)
        have HIC19 := hid (HIC18.out.keep hb)
        have HCD19 := hid (HCD18.out.keep hb)
        clear hb HB18 HI18 HIL18 HIB18 HIC18 HCD18
        go_wp2_with fail
        refine (equal_bel _ n14 _ A6 n14 c6 p p _ HIC19.out HI19.out (by omega) (by omega)).mono ?_
        rintro e w20 ⟨rfl, hb⟩
        rw [decide_eq_true rfl]
        have HB20 := hid (below_step HB19.out (Nat.le_refl _) hb)
        have HIL20 := hid (HIL19.out.keep hb)
        have HCD20 := hid (HCD19.out.keep hb)
        clear hb HB19 HI19 HIL19 HIC19 HCD19
        go_wp2_with fail
        go_loopg [29, 30, 161] n14 (fun g sv mv iv wr => ∃ i : Nat, i ≤ n14 ∧ n14 - i ≤ g ∧ iv = .int .i64 (i : Int) ∧ sv = .int .i64 ((invUpto p i : Nat) : Int) ∧ mv = .int .i64 ((movesN r i : Nat) : Int) ∧ wr = w20)
        case atStart => exact ⟨0, by omega, by omega, rfl, rfl, rfl, rfl⟩
        case round =>
          obtain ⟨i, hi, hgi, rfl, rfl, rfl, rfl⟩ := hrel
          have hv1 := invUpto_100 (p := p) (k := i) (by rw [HPL.out]; exact hm10) (by omega)
          have hv2 := movesN_le r i
          by_cases hin : i < n14
          · obtain ⟨b1, o1, hB1, hb1, hc1⟩ := HCD20.out.row (by omega)
            obtain ⟨b2, o2, hB2, hb2, hc2⟩ := HIL20.out.row (by omega)
            subst hB1
            subst hB2
            have g1 := hc1 i hin
            have g2 := hc2 i hin
            have HCS := hid (invUpto_code (p := p) (i := i) (by rw [HPL.out]; exact hin))
            have HMY := hid (movesN_yes (r := r) (k := i))
            have HMN := hid (movesN_no (r := r) (k := i))
            have hcd := getD_codeL p i (by rw [HPL.out]; exact hin)
            have hcl := less_le (p.getD i 0) (p.drop (i + 1))
            rw [List.length_drop, HPL.out] at hcl
            clear hc1 hc2 hb1 hb2
            generalize (codeL p).getD i 0 = v at *
            generalize r.getD i 0 = lt at *
            generalize less (p.getD i 0) (p.drop (i + 1)) = ls at *
            generalize hu1 : invUpto p i = u1 at *
            generalize hm1 : movesN r i = m1 at *
            clear hu1 hm1
            subst hcd
            by_cases hli : lt = (i : Int)
            · have HM2 := hid (HMN.out hli)
              subst hli
              clear HMY HMN
              go_wp2_with fail
              go_roundg (n14 - (i + 1))
              case measure => omega
              case rel => exact ⟨i + 1, by omega, by omega, by go_num, by rw [HCS.out], by rw [HM2.out], rfl⟩
            · have HM2 := hid (HMY.out hli)
              clear HMY HMN
              go_wp2_with fail
              go_roundg (n14 - (i + 1))
              case measure => omega
              case rel => exact ⟨i + 1, by omega, by omega, by go_num, by rw [HCS.out], by rw [HM2.out]; go_num, rfl⟩
          · obtain rfl : i = n14 := by omega
            have HIA : Hid (inv p = invUpto p i) := by rw [← HPL.out]; exact inv_all p
            have hpa := HPA.out
            rw [HIA.out] at hpa ⊢
            clear HPA HIA HCD20 HIL20
            generalize invUpto p i = u1 at *
            generalize movesN r i = m1 at *
            generalize sgn p = sp at *
            rcases hpa with ⟨h1, h2, h3⟩ | ⟨h1, h2, h3⟩
            · subst h1
              have e1 : (u1 : Int) % 2 = 0 := by omega
              have e2 : (m1 : Int) % 2 = 0 := by omega
              go_wp2_with fail
              go_ret
              exact ⟨rfl, HB20.out⟩
            · subst h1
              have e1 : (u1 : Int) % 2 = 1 := by omega
              have e2 : (m1 : Int) % 2 = 1 := by omega
              go_wp2_with fail
              go_ret
              exact ⟨rfl, HB20.out⟩

end Go.Proofs.Ytmdpfadfimodjaa
