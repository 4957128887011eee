/-
  castkeep.EventSome, walked.
-/
import Derived.Test.YtlepgeipcofapaaEvE
import Derived.Test.YtlepgeipcofapaaEvS
import Derived.Test.YtlepgeipcofapaaEvD
import Derived.Test.YtlepgeipcofapaaRats
namespace Go.Proofs.Ytlepgeipcofapaa
open Go.RowKit

theorem some_lit : (chR [1, 1, 1, 1] (enM [3, 6] 1 4)).num = 3 ∧ ((chR [1, 1, 1, 1] (enM [3, 6] 1 4)).den : Int) = 4 := by decide +kernel
theorem live4s : Space [1, 1, 1, 1] := ⟨by simp, by simp, by simp⟩
theorem some_live (W : World) : Calls Try.prog 11 #[.slice (some ⟨W.heap.size, 0, none⟩) 4 4, .slice (some ⟨W.heap.size + 1, 0, none⟩) 2 2, .int .i64 1] ((W.alloc (.cells #[.int .i64 1, .int .i64 1, .int .i64 1, .int .i64 1] 3)).alloc (.cells #[.int .u16 3, .int .u16 6] 23)) (RetR ((W.alloc (.cells #[.int .i64 1, .int .i64 1, .int .i64 1, .int .i64 1] 3)).alloc (.cells #[.int .u16 3, .int .u16 6] 23)) 3 4 0) := by
  have h2 := sets_lit (W.alloc (.cells #[.int .i64 1, .int .i64 1, .int .i64 1, .int .i64 1] 3)) #[.int .u16 3, .int .u16 6] 23 2 [3, 6] rfl rfl (by simp)
  rw [show (W.alloc (.cells #[.int .i64 1, .int .i64 1, .int .i64 1, .int .i64 1] 3)).heap.size = W.heap.size + 1 by simp] at h2
  have k := evSome_ok (some ⟨W.heap.size, 0, none⟩) 4 4 _ 2 2 [1, 1, 1, 1] [3, 6] 1 _ ((ints_lit W #[.int .i64 1, .int .i64 1, .int .i64 1, .int .i64 1] 3 4 [1, 1, 1, 1] rfl rfl).keep (below_alloc _ _)) h2 live4s (by simp) (by omega)
  rw [some_lit.1, some_lit.2] at k
  exact k
theorem Sets.take {w : World} {A : Option Addr} {n M : Nat} {xs : List Nat} (h : Sets w A n xs) (hM : M = min n 6) : Sets w A M (xs.take 6) := by
  subst hM
  have hl := h.len
  refine ⟨by rw [List.length_take]; omega, fun x hx => h.lt x (List.mem_of_mem_take hx), fun hn => ?_⟩
  obtain ⟨b, off, e, hlt, hc⟩ := h.row (by omega)
  refine ⟨b, off, e, hlt, fun j hj => ?_⟩
  rw [hc j (by omega)]
  simp [List.getD_eq_getElem?_getD, show j < 6 by omega]
theorem min6 {m M : Nat} (hM : M = min m 6) : (M : Int) = if (6 : Int) < (m : Int) then 6 else (m : Int) := by
  subst hM
  split <;> omega
theorem shr_one64 {s k : Nat} (hs : s < 64) : bits .and .i64 ((s : Int) / 2 ^ k) 1 = ((s / 2 ^ k % 2 : Nat) : Int) := by
  have h1 : s / 2 ^ k ≤ s := Nat.div_le_self _ _
  rw [pow_int, ← Int.natCast_ediv]
  generalize s / 2 ^ k = q at *
  have t : ((List.range 64).all fun x => decide (bits .and .i64 (x : Int) 1 = ((x % 2 : Nat) : Int))) = true := by decide +kernel
  rw [List.all_eq_true] at t
  exact of_decide_eq_true (t q (List.mem_range.2 (by omega)))

set_option maxHeartbeats 4000000 in
set_option maxRecDepth 100000 in
theorem some_no (A : Option Addr) (n c : Nat) (B : Option Addr) (m d : Nat) (ws : List Int) (l : List Nat) (M : Nat) (w : World) (hI : Ints w A n ws) (hJ : Sets w B m l) (hmd : m ≤ d) (hM : M = min m 6) (er : Int) (he : er ≠ 0) (h1 : ∀ W, Below w.heap.size w W → Calls Try.prog 11 #[.slice A n c, .slice B M d, .int .i64 1] W (RetR W 0 0 er)) :
    Calls Try.prog 7 #[.slice A n c, .slice B m d] w fun e w' => e = .returned (.bool true) ∧ Below w.heap.size w w' := by
  have h1' := hid h1
  have d1 : (er != 0) = true := by simpa using he
  clear h1 he
  have HB0 := hid (Below.refl w.heap.size w)
  have hmin := run_minMM (P := Try.prog) (m : Int) 6 (M : Int) (min6 hM)
  have HJ0 := hid (hJ.take hM)
  have HI0 := hid hI
  have hM6 : M ≤ 6 := by omega
  have hMd : M ≤ d := by omega
  have HM := hid hM
  clear hI hJ hM
  go_enter Try.func7, Try.ntmps7
  have HBs := hid (two_alloc w (.cells #[.int .i64 1, .int .i64 1, .int .i64 1, .int .i64 1] 3) (.cells #[.int .u16 3, .int .u16 6] 23))
  go_wp2_with fail
  refine (some_live w).mono ?_
  rintro e w1 ⟨rfl, hb⟩
  have HB1 := hid (below_step HBs.out (Nat.le_refl _) hb)
  clear hb HBs HB0
  have hz := RatAt.new w1 26 3 4
  have g0_z := hz.p0
  have g1_z := hz.p1
  clear hz
  go_wp2_with fail
  refine (events_any _).mono ?_
  rintro e w2 ⟨rfl, hb⟩
  have HB2 := hid (below_step (below_step HB1.out (Nat.le_refl _) (below_alloc w1 (.cells #[.int .i64 (3), .int .i64 (4)] 26))) (Nat.le_refl _) hb)
  clear hb HB1 
  clear g0_z g1_z
  go_wp2_with fail
  have HBN := hid (HB2.out)
  refine (h1'.out _ HBN.out).mono ?_
  rintro e w3 ⟨rfl, hb⟩
  have HB3 := hid (below_step HB2.out (Nat.le_refl _) hb)
  clear hb HB2 
  clear HBN
  have hz := RatAt.new w3 26 0 0
  have g0 := hz.p0
  have g1 := hz.p1
  clear hz h1'
  go_wp2
  go_ret
  exact ⟨rfl, below_step HB3.out (Nat.le_refl _) (below_alloc w3 (.cells #[.int .i64 (0), .int .i64 (0)] 26))⟩

set_option maxHeartbeats 4000000 in
set_option maxRecDepth 100000 in
theorem some_yes (A : Option Addr) (n c : Nat) (B : Option Addr) (m d : Nat) (ws : List Int) (l : List Nat) (M : Nat) (w : World) (hI : Ints w A n ws) (hJ : Sets w B m l) (hmd : m ≤ d) (hM : M = min m 6) (hS : Space ws) (hl : ∀ s ∈ l.take 6, s < 2 ^ n) :
    Calls Try.prog 7 #[.slice A n c, .slice B m d] w fun e w' => e = .returned (.bool true) ∧ Below w.heap.size w w' := by
  have HB0 := hid (Below.refl w.heap.size w)
  have hmin := run_minMM (P := Try.prog) (m : Int) 6 (M : Int) (min6 hM)
  have HS := hid hS
  have HLS := hid hl
  have hn : n = ws.length := hI.len.symm
  clear hS hl
  have HJ0 := hid (hJ.take hM)
  have HI0 := hid hI
  have hM6 : M ≤ 6 := by omega
  have hMd : M ≤ d := by omega
  have HM := hid hM
  clear hI hJ hM
  go_enter Try.func7, Try.ntmps7
  have HBs := hid (two_alloc w (.cells #[.int .i64 1, .int .i64 1, .int .i64 1, .int .i64 1] 3) (.cells #[.int .u16 3, .int .u16 6] 23))
  go_wp2_with fail
  refine (some_live w).mono ?_
  rintro e w1 ⟨rfl, hb⟩
  have HB1 := hid (below_step HBs.out (Nat.le_refl _) hb)
  clear hb HBs HB0
  have hz := RatAt.new w1 26 3 4
  have g0_z := hz.p0
  have g1_z := hz.p1
  clear hz
  go_wp2_with fail
  refine (events_any _).mono ?_
  rintro e w2 ⟨rfl, hb⟩
  have HB2 := hid (below_step (below_step HB1.out (Nat.le_refl _) (below_alloc w1 (.cells #[.int .i64 (3), .int .i64 (4)] 26))) (Nat.le_refl _) hb)
  clear hb HB1 
  clear g0_z g1_z
  clear HM
  generalize l.take 6 = L at *
  have HL := hid HJ0.out.len
  subst hn
  have hn1 := HS.out.lo
  have hn2 := HS.out.hi
  have ht := HS.out.totW
  have hx : ∀ W, Below w.heap.size w W → Calls Try.prog 11 #[.slice A ws.length c, .slice B M d, .int .i64 1] W (RetR W (chR ws (enM L 1 ws.length)).num ((chR ws (enM L 1 ws.length)).den : Int) 0) :=
    fun W hb => evSome_ok A ws.length c B M d ws L 1 W (HI0.out.keep hb) (HJ0.out.keep hb) HS.out HLS.out (by omega)
  have h1' := hid hx
  clear hx
  have hback := (ratio_back (wgt ws (enM L 1 ws.length)) (t := totW ws) ht.1).1
  have hq1 : (1 : Int) ≤ ((chR ws (enM L 1 ws.length)).den : Int) := by have := Rat.den_pos (chR ws (enM L 1 ws.length)); omega
  rw [any_wgt] at hback
  rw [show Rat.divInt (anyS ws L) (totW ws) = chR ws (enM L 1 ws.length) by rw [chR, any_wgt]] at hback
  have hany := HS.out.bd (enM L 1 ws.length)
  rw [any_wgt] at hany
  have hpb := (chR_bd HS.out (enM L 1 ws.length))
  obtain ⟨P, hP⟩ : ∃ P, (chR ws (enM L 1 ws.length)).num = P := ⟨_, rfl⟩
  obtain ⟨Q, hQ⟩ : ∃ Q, ((chR ws (enM L 1 ws.length)).den : Int) = Q := ⟨_, rfl⟩
  rw [hP, hQ] at h1'
  rw [hP, hQ] at hback
  rw [hQ] at hq1
  have hq2 : Q ≤ 1200 := by have := hpb.2; omega
  clear hP hQ hpb
  go_wp2_with fail
  have HBN := hid (HB2.out)
  refine (h1'.out _ HBN.out).mono ?_
  rintro e w3 ⟨rfl, hb⟩
  have HB3 := hid (below_step HB2.out (Nat.le_refl _) hb)
  clear hb HB2 
  clear HBN
  obtain ⟨W, hW⟩ : ∃ W, W = w3.alloc (.cells #[.int .i64 P, .int .i64 Q] 26) := ⟨_, rfl⟩
  have HX : Hid (RatAt W w3.heap.size P Q) := by rw [hW]; exact RatAt.new w3 _ P Q
  have HBW : Hid (Below w.heap.size w W) := by rw [hW]; exact below_step HB3.out (Nat.le_refl _) (below_alloc _ _)
  have HI := hid (HI0.out.keep HBW.out)
  have HJ := hid (HJ0.out.keep HBW.out)
  clear HB3 h1' HI0 HJ0
  go_wp2_with fail
  rw [← hW]
  clear hW
  have HM16 := hid (mask_16 (n := ws.length) (by omega))
  go_loopg [10, 12, 70] ws.length (fun g s _ z wr => ∃ k : Nat, k ≤ ws.length ∧ ws.length - k ≤ g ∧ s = .int .i64 (totW (ws.take k)) ∧ z = .int .i64 (k : Int) ∧ W = wr)
  case atStart => exact ⟨0, by omega, by omega, rfl, rfl, rfl⟩
  case round =>
    obtain ⟨k, hk, hg, rfl, rfl, rfl⟩ := hrel
    by_cases hlt : k < ws.length
    · obtain ⟨b, o, rfl, hb, hc⟩ := HI.out.row (by omega)
      have g1 := hc k hlt
      have HT := hid (cw_take (l := ws) (fun _ => 1) hlt)
      have h4 := HS.out.w _ (getD_mem hlt)
      have h3 := totW_bd (ws := ws.take k) (fun x hx => HS.out.w x (List.mem_of_mem_take hx))
      rw [List.length_take] at h3
      have h5 : totW (ws.take (k + 1)) = totW (ws.take k) + ws.getD k 0 := by rw [totW, HT.out, Int.mul_one]; rfl
      have HT5 := hid h5
      clear hc h5 HT
      generalize totW (ws.take k) = x at *
      generalize ws.getD k 0 = y at *
      go_wp2
      go_roundg (ws.length - (k + 1))
      case measure => omega
      case rel => exact ⟨k + 1, by omega, by omega, by rw [HT5.out], by go_num, rfl⟩
    · obtain rfl : k = ws.length := by omega
      rw [List.take_length]
      have g0 := HX.out.p0
      have g1 := HX.out.p1
      have gl := HX.out.lt
      have hmax := run_maxMM (P := Try.prog) 1 Q Q (by split <;> omega)
      obtain ⟨T, hT⟩ : ∃ T, totW ws = T := ⟨_, rfl⟩
      obtain ⟨Y, hY⟩ : ∃ Y, anyS ws L = Y := ⟨_, rfl⟩
      rw [hT] at hback ht ⊢
      rw [hY] at hback hany
      have HTT := hid hT
      have HYY := hid hY
      clear hT hY
      go_wp2_with fail
      go_quiet (fail)
      clear g0 g1 gl hmax hback HX
      rw [HM16.out]
      obtain ⟨Z, hZ⟩ : ∃ Z, Z = 2 ^ ws.length - 1 := ⟨_, rfl⟩
      have HZ := hid hZ
      have hp := HS.out.pow
      have h2p := Nat.two_pow_pos ws.length
      have HZ2 : Hid (Z < 2 ^ ws.length) := by rw [Hid]; omega
      have hZ3 : Z ≤ 4095 := by omega
      rw [← hZ]
      clear hZ hp h2p HM16
      obtain ⟨V, hV⟩ : ∃ V, V = W.drewN nq := ⟨_, rfl⟩
      have HBV : Hid (Below w.heap.size w V) := by rw [hV]; exact below_drewN HBW.out _
      have HIV : Hid (Ints V A ws.length ws) := by rw [hV]; exact HI.out.drewN _
      have HJV : Hid (Sets V B M L) := by rw [hV]; exact HJ.out.drewN _
      rw [← hV]
      clear hV HBW HI HJ
      have hN1 : 2 ^ M ≤ 64 := Nat.pow_le_pow_right (n := 2) (by omega) hM6
      obtain ⟨N, hN⟩ : ∃ N, N = 2 ^ M := ⟨_, rfl⟩
      have HN : Hid (N = 2 ^ L.length) := by rw [HL.out]; exact hN
      have HNI : Hid ((2 : Int) ^ M = (N : Int)) := by rw [hN, Hid, pow_int]
      rw [← hN] at hN1
      clear hN
      go_wp2_with fail
      go_loopg [14, 15] M (fun g s z wr => ∃ t : Nat, t ≤ M ∧ M - t ≤ g ∧ s = .int .i64 (smA ws L t) ∧ z = .int .i64 ((t : Int) + 1) ∧ Below V.heap.size V wr)
      case atStart => exact ⟨0, by omega, by omega, by rw [smA_zero], rfl, Below.refl _ _⟩
      case round =>
        obtain ⟨t, ht1, hg, rfl, rfl, hbel⟩ := hrel
        have HBT := hid hbel
        clear hbel
        by_cases htm : t < M
        · have HSZ := hid (smS_zero ws L t)
          go_wp2_with fail
          rw [HNI.out, IntWalk.wrap64_in _ (by omega), show decide ((t : Int) + 1 ≤ (M : Int)) = true from decide_eq_true (by omega)]
          go_loopg [14, 95] N (fun g s z wr => ∃ q : Nat, q ≤ N ∧ N - q ≤ g ∧ s = .int .i64 (smS ws L t q) ∧ z = .int .i64 (q : Int) ∧ Below V.heap.size V wr)
          case atStart => exact ⟨0, by omega, by omega, by rw [HSZ.out], rfl, HBT.out⟩
          case round =>
            clear HBT HSZ
            obtain ⟨q, hq, hgi, rfl, rfl, hbel⟩ := hrel
            have HBI := hid hbel
            clear hbel
            by_cases hqn : q < N
            · have HJR := hid (HJV.out.keep HBI.out)
              have HIR := hid (HIV.out.keep HBI.out)
              have hb0 := smS_bd HS.out (l := L) (by rw [HL.out]; exact hM6) (t := t) (s := q) (by omega) (by rw [← HN.out]; omega)
              have HQL : Hid (q < 2 ^ L.length) := by rw [← HN.out]; exact hqn
              go_wp2_with fail
              go_loopg [17, 18, 101] M (fun g x y z wr' => ∃ i : Nat, i ≤ M ∧ M - i ≤ g ∧ x = .int .u16 ((inn Z L q i : Nat) : Int) ∧ y = .int .i64 ((ones (q % 2 ^ i) : Nat) : Int) ∧ z = .int .i64 (i : Int) ∧ wr = wr')
              case atStart => exact ⟨0, by omega, by omega, rfl, by rw [Nat.pow_zero, Nat.mod_one]; rfl, rfl, rfl⟩
              case round =>
                obtain ⟨i, hi, hgj, rfl, rfl, rfl, rfl⟩ := hrel
                by_cases him : i < M
                · obtain ⟨b, o, rfl, hb, hc⟩ := HJR.out.row (by omega)
                  have g1 := hc i him
                  have h1 := shr_one64 (s := q) (k := i) (by omega)
                  have h2 : q / 2 ^ i % 2 < 2 := Nat.mod_lt _ (by omega)
                  have HO := hid (ones_mod_succ q i)
                  have h3 : ones (q % 2 ^ i) ≤ 6 := Nat.le_trans (ones_le (n := i) (Nat.mod_lt _ (Nat.two_pow_pos i))) (by omega)
                  have HIN : Hid (inn Z L q (i + 1) = if q / 2 ^ i % 2 = 1 then inn Z L q i &&& L.getD i 0 else inn Z L q i) := rfl
                  have h4 : inn Z L q i < 4096 := inn_lt (n := 12) (by omega) q i
                  have h5 := HJR.out.get him
                  have h6 : bits .and .u16 ((inn Z L q i : Nat) : Int) ((L.getD i 0 : Nat) : Int) = ((inn Z L q i &&& L.getD i 0 : Nat) : Int) := u16_and_nat _ _ (by omega) h5
                  have HA6 := hid h6
                  clear hc h6
                  generalize q / 2 ^ i % 2 = bb at *
                  generalize ones (q % 2 ^ i) = oo at *
                  generalize inn Z L q i = aa at *
                  generalize L.getD i 0 = yy at *
                  obtain rfl | rfl : bb = 0 ∨ bb = 1 := by omega
                  · rw [if_neg (by omega)] at HIN
                    go_wp2
                    go_roundg (M - (i + 1))
                    case measure => omega
                    case rel => exact ⟨i + 1, by omega, by omega, by rw [HIN.out], by rw [HO.out, Nat.add_zero], by go_num, rfl⟩
                  · rw [if_pos rfl] at HIN
                    go_wp2
                    go_roundg (M - (i + 1))
                    case measure => omega
                    case rel => exact ⟨i + 1, by omega, by omega, by rw [HIN.out, ← HA6.out], by rw [HO.out]; go_num, by go_num, rfl⟩
                · obtain rfl : i = M := by omega
                  have HMO : Hid (q % 2 ^ i = q) := Nat.mod_eq_of_lt (by rw [← HL.out]; exact HQL.out)
                  rw [HMO.out]
                  clear HMO
                  by_cases ho : ones q = t + 1
                  · have HOQ := hid ho
                    have hne : (((ones q : Nat) : Int) != (t : Int) + 1) = false := by rw [ho]; simp
                    have HCH := hid (evChance_ok A ws.length c ws (inn Z L q i) wr HIR.out HS.out (inn_lt (n := ws.length) HZ2.out q i))
                    have hbk := (ratio_back (wgt ws (inn Z L q i)) (t := T) ht.1).1
                    have hX := HS.out.bd (inn Z L q i)
                    have HODD : Hid ((t + 1) % 2 = 1 → smS ws L t (q + 1) = smS ws L t q + wgt ws (inn Z L q i)) := fun h => by
                      have := smS_odd ws L t HQL.out HOQ.out h
                      rw [← HZ.out, HL.out] at this
                      exact this
                    have HEVN : Hid (¬ (t + 1) % 2 = 1 → smS ws L t (q + 1) = smS ws L t q - wgt ws (inn Z L q i)) := fun h => by
                      have := smS_even ws L t HQL.out HOQ.out h
                      rw [← HZ.out, HL.out] at this
                      exact this
                    have hq1' : (1 : Int) ≤ ((chR ws (inn Z L q i)).den : Int) := by have := Rat.den_pos (chR ws (inn Z L q i)); omega
                    rw [show Rat.divInt (wgt ws (inn Z L q i)) T = chR ws (inn Z L q i) by rw [chR, HTT.out]] at hbk
                    have hqb' : ((chR ws (inn Z L q i)).den : Int) ≤ 1200 := by have := (chR_bd HS.out (inn Z L q i)).2; omega
                    generalize (chR ws (inn Z L q i)).num = P' at *
                    generalize ((chR ws (inn Z L q i)).den : Int) = Q' at *
                    generalize wgt ws (inn Z L q i) = X at *
                    clear ho
                    generalize ones q = oo at *
                    generalize smS ws L t q = sm at *
                    go_wp2_with fail
                    refine HCH.out.mono ?_
                    rintro e w5 ⟨rfl, hb⟩
                    have hr := RatAt.new w5 26 P' Q'
                    have g0 := hr.p0
                    have g1 := hr.p1
                    have gl := hr.lt
                    have HB5 := hid (below_step (below_step HBI.out (Nat.le_refl _) hb) (Nat.le_refl _) (below_alloc w5 (.cells #[.int .i64 P', .int .i64 Q'] 26)))
                    clear hr hb HCH HBI
                    by_cases hodd : (t + 1) % 2 = 1
                    · have HD := hid (HODD.out hodd)
                      have d1 : (((t : Int) + 1) % 2 == 1) = true := by simp; omega
                      clear HODD HEVN
                      go_wp2_with fail
                      go_quiet (fail)
                      go_wp2
                      go_roundg (N - (q + 1))
                      case measure => omega
                      case rel => exact ⟨q + 1, by omega, by omega, by rw [HD.out], by go_num, below_drewN HB5.out _⟩
                    · have HD := hid (HEVN.out hodd)
                      have d1 : (((t : Int) + 1) % 2 == 1) = false := by simp; omega
                      clear HODD HEVN
                      go_wp2_with fail
                      go_quiet (fail)
                      go_wp2
                      go_roundg (N - (q + 1))
                      case measure => omega
                      case rel => exact ⟨q + 1, by omega, by omega, by rw [HD.out], by go_num, below_drewN HB5.out _⟩
                  · have HSK := hid (smS_skip ws L t ho)
                    have hne : (((ones q : Nat) : Int) != (t : Int) + 1) = true := by simp; omega
                    clear ho
                    generalize ones q = oo at *
                    go_wp2
                    go_roundg (N - (q + 1))
                    case measure => omega
                    case rel => exact ⟨q + 1, by omega, by omega, by rw [HSK.out], by go_num, HBI.out⟩
            · obtain rfl : q = N := by omega
              have HEQ : Hid (smS ws L t q = smA ws L (t + 1)) := by rw [HN.out]; exact smS_all ws L t
              rw [HEQ.out]
              have hb1 := HEQ.out ▸ smS_bd HS.out (l := L) (by rw [HL.out]; exact hM6) (t := t) (s := q) (by omega) (by rw [← HN.out]; omega)
              have HOD : Hid ((t + 1) % 2 = 1 → Y ≤ smA ws L (t + 1)) := fun h => by rw [← HYY.out]; exact sm_odd HS.out (by rw [HL.out]; exact hM6) (by rw [HL.out]; omega) h
              have HEV : Hid ((t + 1) % 2 = 0 → smA ws L (t + 1) ≤ Y) := fun h => by rw [← HYY.out]; exact sm_even HS.out (by rw [HL.out]; exact hM6) (by rw [HL.out]; omega) h (by omega)
              clear HEQ
              by_cases hodd : (t + 1) % 2 = 1
              · have h1 := HOD.out hodd
                have d1 : (((t : Int) + 1) % 2 == 1) = true := by simp; omega
                have d2 : (((t : Int) + 1) % 2 == 0) = false := by simp; omega
                have d3 : decide (smA ws L (t + 1) < Y) = false := decide_eq_false (by omega)
                clear HOD HEV
                go_wp2
                go_roundg (M - (t + 1))
                case measure => omega
                case rel => exact ⟨t + 1, by omega, by omega, rfl, by go_num, HBI.out⟩
              · have h1 := HEV.out (by omega)
                have d1 : (((t : Int) + 1) % 2 == 1) = false := by simp; omega
                have d2 : (((t : Int) + 1) % 2 == 0) = true := by simp; omega
                have d3 : decide (Y < smA ws L (t + 1)) = false := decide_eq_false (by omega)
                clear HOD HEV
                go_wp2
                go_roundg (M - (t + 1))
                case measure => omega
                case rel => exact ⟨t + 1, by omega, by omega, rfl, by go_num, HBI.out⟩
        · obtain rfl : t = M := by omega
          have HE : Hid (smA ws L t = Y) := by rw [Hid, ← HYY.out, ← sm_all (l := L) (by rw [HL.out]; exact hM6), HL.out]
          rw [HE.out]
          go_wp2
          go_ret
          exact ⟨by simp, below_step HBV.out (Nat.le_refl _) HBT.out⟩

set_option maxHeartbeats 800000 in
theorem evSomeLaw_any (A : Option Addr) (n c : Nat) (B : Option Addr) (m d : Nat) (ws : List Int) (l : List Nat) (w : World) (hI : Ints w A n ws) (hJ : Sets w B m l) (hmd : m ≤ d) :
    Calls Try.prog 7 #[.slice A n c, .slice B m d] w fun e w' => e = .returned (.bool true) ∧ Below w.heap.size w w' := by
  by_cases h : casesErr ws (l.take 6) = 0
  · obtain ⟨hS, hl⟩ := casesErr_zero h
    exact some_yes A n c B m d ws l (min m 6) w hI hJ hmd rfl hS (by rw [← hI.len]; exact hl)
  · exact some_no A n c B m d ws l (min m 6) w hI hJ hmd rfl _ h (fun W hw => evSome_bad A n c B (min m 6) d ws (l.take 6) 1 W (hI.keep hw) ((hJ.take rfl).keep hw) (by omega) h)
end Go.Proofs.Ytlepgeipcofapaa
