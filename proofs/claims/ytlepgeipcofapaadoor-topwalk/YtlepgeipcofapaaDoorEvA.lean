/-
  package event: Check, weigh, every, occurring; lists of sets that are read.
-/
import Derived.Test.YtlepgeipcofapaaDoorEvM
import Derived.Test.YtlepgeipcofapaaDoorOwn16
import Derived.Test.YtlepgeipcofapaaDoorSubA
import Derived.Test.YtlepgeipcofapaaDoorGen
import Derived.Test.YtlepgeipcofapaaDoorLit
import Derived.Laws.BitsAllLaws
import Derived.Laws.BitsLemmas
namespace Go.Proofs.YtlepgeipcofapaaDoor
open Go.RowKit

/-- The slice value '.slice A n c' holds the sets xs in the world w. -/
structure Sets (w : World) (A : Option Addr) (n : Nat) (xs : List Nat) : Prop where
  len : xs.length = n
  lt : ∀ x ∈ xs, x < 65536
  row : 0 < n → ∃ b off, A = some ⟨b, off, none⟩ ∧ b < w.heap.size ∧ ∀ j, j < n → w.cell? ⟨b, off + j, none⟩ = some (.int .u16 ((xs.getD j 0 : Nat) : Int))
theorem Sets.nil (w : World) (A : Option Addr) : Sets w A 0 [] := ⟨rfl, fun _ h => (List.not_mem_nil h).elim, fun h => absurd h (by omega)⟩
theorem Sets.keep {w w' : World} {A : Option Addr} {n : Nat} {xs : List Nat} (h : Sets w A n xs) (hb : Below w.heap.size w w') : Sets w' A n xs := by
  refine ⟨h.len, h.lt, fun hn => ?_⟩
  obtain ⟨b, off, e, hlt, hc⟩ := h.row hn
  exact ⟨b, off, e, Nat.lt_of_lt_of_le hlt hb.size, fun j hj => (hb.cell (p := ⟨b, off + j, none⟩) hlt).trans (hc j hj)⟩
theorem Sets.drewN {w : World} {A : Option Addr} {n : Nat} {xs : List Nat} (h : Sets w A n xs) (k : Nat) : Sets (w.drewN k) A n xs := h.keep (below_drewN (Below.refl _ _) k)
theorem Sets.get {w : World} {A : Option Addr} {n : Nat} {xs : List Nat} (h : Sets w A n xs) {j : Nat} (hj : j < n) : xs.getD j 0 < 65536 := by
  have hl := h.len
  have hj' : j < xs.length := by omega
  rw [List.getD_eq_getElem?_getD, List.getElem?_eq_getElem hj']
  exact h.lt _ (List.getElem_mem hj')
theorem sets_lit (w : World) (cs : Array Value) (t n : Nat) (xs : List Nat) (h : cs = (xs.map enc16).toArray) (hn : xs.length = n) (hx : ∀ x ∈ xs, x < 65536) : Sets (w.alloc (.cells cs t)) (some ⟨w.heap.size, 0, none⟩) n xs := by
  subst h
  subst hn
  refine ⟨rfl, hx, fun _ => ⟨w.heap.size, 0, rfl, by simp, fun j hj => ?_⟩⟩
  rw [cell_of_row (w.alloc _) w.heap.size (0 + j) _ t (0, 0) (heap_alloc_new w _)]
  simp [List.getD_eq_getElem?_getD, List.getElem?_eq_getElem hj, enc16]

theorem ev_shr0 {s n : Nat} (h : s < 2 ^ n) : ((s : Int) / 2 ^ n != 0) = false := by
  rw [pow_int, ← Int.natCast_ediv, Nat.div_eq_of_lt h]
  rfl
theorem ev_shr1 {s n : Nat} (h : ¬ s < 2 ^ n) : ((s : Int) / 2 ^ n != 0) = true := by
  have h1 : 0 < s / 2 ^ n := Nat.div_pos (by omega) (Nat.two_pow_pos n)
  rw [pow_int, ← Int.natCast_ediv]
  generalize s / 2 ^ n = q at *
  exact bne_iff_ne.2 (by omega)
theorem wgt_step {ws : List Int} (s : Nat) {k : Nat} (h : k < ws.length) : wgt (ws.take (k + 1)) s = wgt (ws.take k) s + ws.getD k 0 * ((s / 2 ^ k % 2 : Nat) : Int) := by
  rw [bt_eq]
  exact cw_take _ h
theorem wgt_part {ws : List Int} (h : Space ws) (s k : Nat) : 0 ≤ wgt (ws.take k) s ∧ wgt (ws.take k) s ≤ 1200 := by
  have hm : ∀ x ∈ ws.take k, 1 ≤ x ∧ x ≤ 100 := fun x hx => h.w x (List.mem_of_mem_take hx)
  have h1 := totW_bd hm
  have h2 : (ws.take k).length ≤ 12 := by rw [List.length_take]; have := h.hi; omega
  have hn : ∀ x ∈ ws.take k, 0 ≤ x := fun x hx => by have := hm x hx; omega
  have := wgt_le hn s
  have := wgt_nonneg hn s
  omega
theorem shr_one {s k : Nat} (hs : s < 65536) : bits .and .u16 ((s : Int) / 2 ^ k) 1 = ((s / 2 ^ k % 2 : Nat) : Int) := by
  have h1 : s / 2 ^ k ≤ s := Nat.div_le_self _ _
  have h2 := u16_and_nat (s / 2 ^ k) 1 (by omega) (by omega)
  rw [nat_mask1] at h2
  rw [pow_int, ← Int.natCast_ediv]
  exact h2

theorem lit_u16 {a : Int} (h : (Lit.int .u16 a).wf = true) : ∃ s : Nat, a = s ∧ s < 65536 := by
  simp only [Lit.wf, Bool.and_eq_true, decide_eq_true_eq] at h
  have h1 : (0 : Int) ≤ a := h.1
  have h2 : a ≤ 65535 := h.2
  exact ⟨a.toNat, by omega, by omega⟩
/-- A row of uint16s that came in. -/
theorem IsRow.sets {w : World} {a : Option Addr} {len cap : Nat} {zs : List Int} (h : IsRow .u16 w a len cap zs) : Sets w a len ((zs.take len).map Int.toNat) ∧ len ≤ cap ∧ cap ≤ maxLen := by
  rcases h with ⟨rfl, rfl, rfl, rfl⟩ | ⟨⟨b, off, sp⟩, rfl, hl, hm, hz, hcell, hwf⟩
  · exact ⟨Sets.nil _ _, Nat.le_refl _, Nat.zero_le _⟩
  · have hlt : ∀ j, j < len → ∃ s : Nat, zs.getD j 0 = s ∧ s < 65536 := fun j hj => by
      have hj' : j < zs.length := by omega
      refine lit_u16 (hwf _ ?_)
      rw [List.getD_eq_getElem?_getD, List.getElem?_eq_getElem hj']
      exact List.getElem_mem hj'
    refine ⟨⟨by rw [List.length_map, List.length_take]; omega, ?_, fun hp => ?_⟩, hl, hm⟩
    · intro x hx
      rw [List.mem_map] at hx
      obtain ⟨y, hy, rfl⟩ := hx
      obtain ⟨s, rfl, hs⟩ := lit_u16 (hwf y (List.mem_of_mem_take hy))
      simpa using hs
    · have h0 := hcell 0 (by omega)
      have hsp : sp = none := by simpa [Addr.add] using World.cell?_spot h0
      subst hsp
      refine ⟨b, off, rfl, by have := block_lt_of_cell h0; simpa [Addr.add] using this, fun j hj => ?_⟩
      have hj' : j < zs.length := by omega
      have h1 := hcell j hj'
      obtain ⟨s, e, hs⟩ := hlt j hj
      have e2 : ((zs.take len).map Int.toNat).getD j 0 = s := by
        have hjt : j < (zs.take len).length := by rw [List.length_take]; omega
        rw [List.getD_eq_getElem?_getD, List.getElem?_eq_getElem (by rw [List.length_map]; exact hjt)]
        rw [List.getD_eq_getElem?_getD, List.getElem?_eq_getElem hj'] at e
        simp only [Option.getD_some] at e
        simp [e]
      have ha : (⟨b, off, none⟩ : Addr).add j = ⟨b, off + j, none⟩ := by unfold Addr.add; split <;> simp_all
      rw [ha] at h1
      rw [e2, ← e]
      exact h1

set_option maxHeartbeats 1600000 in
theorem weigh_ok (A : Option Addr) (n c : Nat) (ws : List Int) (s : Nat) (w : World) (hI : Ints w A n ws) (hS : Space ws) (hs : s < 65536) :
    Calls Tryd.prog 17 #[.slice A n c, .int .u16 (s : Int)] w fun e w' => e = .returned (.int .i64 (wgt ws s)) ∧ w = w' := by
  have HL := hid hI.len
  have HS := hid hS
  have hn : n ≤ 12 := by have := hS.hi; have := hI.len; omega
  clear hS
  go_enter Tryd.func17, Tryd.ntmps17
  go_wp2
  go_loopg [5, 6, 7, 10] n (fun g u _ _ z wr => ∃ k : Nat, k ≤ n ∧ n - k ≤ g ∧ u = .int .i64 (wgt (ws.take k) s) ∧ z = .int .i64 (k : Int) ∧ w = wr)
  case atStart => exact ⟨0, by omega, by omega, rfl, rfl, rfl⟩
  case round =>
    obtain ⟨k, hk, hg, rfl, rfl, rfl⟩ := hrel
    by_cases hlt : k < n
    · obtain ⟨b, o, rfl, hb, hc⟩ := hI.row (by omega)
      have g1 := hc k hlt
      have h1 := shr_one (k := k) hs
      have hkl : k < ws.length := by rw [HL.out]; exact hlt
      have HM := hid (wgt_step s hkl)
      have h2 : s / 2 ^ k % 2 < 2 := Nat.mod_lt _ (by omega)
      have h3 := wgt_part HS.out s k
      have h4 := HS.out.w _ (getD_mem hkl)
      have hkI : (k : Int) < (n : Int) := by omega
      clear hc hI hkl
      generalize s / 2 ^ k % 2 = q at *
      generalize wgt (ws.take k) s = x at *
      generalize ws.getD k 0 = y at *
      obtain rfl | rfl : q = 0 ∨ q = 1 := by omega
      · go_wp2
        go_roundg (n - (k + 1))
        case measure => omega
        case rel => exact ⟨k + 1, by omega, by omega, by rw [HM.out]; go_num, by go_num, rfl⟩
      · go_wp2
        go_roundg (n - (k + 1))
        case measure => omega
        case rel => exact ⟨k + 1, by omega, by omega, by rw [HM.out]; go_num, by go_num, rfl⟩
    · obtain rfl : k = n := by omega
      have HE : Hid (ws.take k = ws) := by rw [← HL.out]; exact List.take_length
      go_wp2
      go_ret
      exact ⟨by rw [HE.out]; rfl, rfl⟩

theorem every_ok (A : Option Addr) (n c : Nat) (w : World) (hn : n ≤ 16) :
    Calls Tryd.prog 18 #[.slice A n c] w fun e w' => e = .returned (.int .u16 ((2 ^ n - 1 : Nat) : Int)) ∧ w = w' := by
  have h1 : 2 ^ n ≤ 2 ^ 16 := Nat.pow_le_pow_right (by omega) hn
  have h2 := Nat.two_pow_pos n
  have HE : Hid (IntKind.u16.wrap (IntKind.u16.wrap ((2 : Int) ^ n) - 1) = ((2 ^ n - 1 : Nat) : Int)) := by
    rw [Hid, IntKind.wrap_u16, IntKind.wrap_u16, pow_int]
    generalize 2 ^ n = z at *
    omega
  clear h1 h2
  go_enter Tryd.func18, Tryd.ntmps18
  go_wp2
  go_ret
  exact ⟨by rw [HE.out]; rfl, rfl⟩

set_option maxHeartbeats 1600000 in
set_option maxRecDepth 100000 in
theorem evCheck_any (A : Option Addr) (n c : Nat) (B : Option Addr) (m d : Nat) (ws : List Int) (l : List Nat) (w : World) (hI : Ints w A n ws) (hJ : Sets w B m l) (hm : m ≤ 9223372036854775807) :
    Calls Tryd.prog 15 #[.slice A n c, .slice B m d] w fun e w' => e = .returned (.int .i64 (casesErr ws l)) ∧ w = w' := by
  have hl := hI.len
  have HI := hid hI
  have HJ := hid hJ
  clear hI hJ
  by_cases h1 : n < 1
  · have HE : Hid (casesErr ws l = 2) := casesErr_large l (by omega)
    obtain rfl : n = 0 := by omega
    clear hl
    go_enter Tryd.func15, Tryd.ntmps15
    go_wp2
    go_ret
    exact ⟨by rw [HE.out]; rfl, rfl⟩
  · by_cases h2 : 12 < n
    · have HE : Hid (casesErr ws l = 2) := casesErr_large l (by omega)
      clear hl
      go_enter Tryd.func15, Tryd.ntmps15
      go_wp2
      go_ret
      exact ⟨by rw [HE.out]; rfl, rfl⟩
    · have HN : Hid (¬ (ws.length < 1 ∨ 12 < ws.length)) := by rw [Hid]; omega
      have HL := hid hl
      clear hl
      go_enter Tryd.func15, Tryd.ntmps15
      go_wp2
      go_loopg [6, 19] n (fun g _ s wr => ∃ k : Nat, k ≤ n ∧ n - k ≤ g ∧ s = .int .i64 k ∧ w = wr ∧ ∀ j, j < k → wOk (ws.getD j 0) = true)
      case atStart => exact ⟨0, Nat.zero_le _, by omega, rfl, rfl, fun j hj => absurd hj (Nat.not_lt_zero _)⟩
      case round =>
        obtain ⟨k, hk, hg, rfl, rfl, hall⟩ := hrel
        have HA := hid hall
        clear hall
        by_cases hlt : k < n
        · obtain ⟨b, o, rfl, hb, hc⟩ := HI.out.row (by omega)
          have g1 := hc k hlt
          have HR : Hid (wOk (ws.getD k 0) = false → casesErr ws l = 1) := fun h => casesErr_arg l HN.out (j := k) (by rw [HL.out]; exact hlt) h
          have HY : Hid (wOk (ws.getD k 0) = true → ∀ j, j < k + 1 → wOk (ws.getD j 0) = true) := fun h j hj => by
            by_cases e : j = k
            · subst e; exact h
            · exact HA.out j (by omega)
          clear hc HA
          generalize ws.getD k 0 = x at *
          by_cases c1 : x < 1
          · have HX := hid (HR.out (decide_eq_false (by omega)))
            go_wp2
            go_ret
            exact ⟨by rw [HX.out]; rfl, rfl⟩
          · by_cases c2 : 100 < x
            · have HX := hid (HR.out (decide_eq_false (by omega)))
              go_wp2
              go_ret
              exact ⟨by rw [HX.out]; rfl, rfl⟩
            · have HX := hid (HY.out (decide_eq_true (by omega)))
              go_wp2
              go_roundg (n - (k + 1))
              case measure => omega
              case rel => exact ⟨k + 1, by omega, by omega, by go_num, rfl, HX.out⟩
        · obtain rfl : k = n := by omega
          have HAW : Hid (ws.all wOk = true) := all_wOk (by rw [HL.out]; exact HA.out)
          have HLJ := hid HJ.out.len
          clear HA
          go_wp2
          go_loopg [8, 32] m (fun g _ s wr => ∃ i : Nat, i ≤ m ∧ m - i ≤ g ∧ s = .int .i64 i ∧ w = wr ∧ ∀ j, j < i → l.getD j 0 < 2 ^ ws.length)
          case atStart => exact ⟨0, Nat.zero_le _, by omega, rfl, rfl, fun j hj => absurd hj (Nat.not_lt_zero _)⟩
          case round =>
            obtain ⟨i, hi, hg, rfl, rfl, hall⟩ := hrel
            have HA := hid hall
            clear hall
            by_cases hlt : i < m
            · obtain ⟨b, o, rfl, hb, hc⟩ := HJ.out.row (by omega)
              have g1 := hc i hlt
              have hx := HJ.out.get hlt
              have hcs : l.getD i 0 < 2 ^ ws.length ∨ ¬ l.getD i 0 < 2 ^ ws.length := Classical.em _
              have HR : Hid (¬ l.getD i 0 < 2 ^ ws.length → casesErr ws l = 3) := fun h => casesErr_form HN.out HAW.out (j := i) (by rw [HLJ.out]; exact hlt) h
              have HY : Hid (l.getD i 0 < 2 ^ ws.length → ∀ j, j < i + 1 → l.getD j 0 < 2 ^ ws.length) := fun h j hj => by
                by_cases e : j = i
                · subst e; exact h
                · exact HA.out j (by omega)
              clear hc HA
              generalize l.getD i 0 = x at *
              rw [HL.out] at hcs
              rcases hcs with c1 | c1
              · have HX := hid (HY.out (by rw [HL.out]; exact c1))
                have hz := ev_shr0 c1
                clear c1 HR HY
                go_wp2
                go_roundg (m - (i + 1))
                case measure => omega
                case rel => exact ⟨i + 1, by omega, by omega, by go_num, rfl, HX.out⟩
              · have HX := hid (HR.out (by rw [HL.out]; exact c1))
                have hz := ev_shr1 c1
                clear c1 HR HY
                go_wp2
                go_ret
                exact ⟨by rw [HX.out]; rfl, rfl⟩
            · obtain rfl : i = m := by omega
              have HX : Hid (casesErr ws l = 0) := casesErr_ok HN.out HAW.out (by rw [HLJ.out]; exact HA.out)
              go_wp2
              go_ret
              exact ⟨by rw [HX.out]; rfl, rfl⟩
end Go.Proofs.YtlepgeipcofapaaDoor
