/-
  castref.Choose up to thirty, castref.Reach, AheadOf, NestRank.
-/
import Derived.Test.YtmpipgpbmppbjaaChoR
import Derived.Test.YtmpipgpbmppbjaaNestA
import Derived.Test.YtmpipgpbmppbjaaNestB
namespace Go.Proofs.Ytmpipgpbmppbjaa
open Go.RowKit

theorem cho_30 {n k : Nat} (h : n ≤ 30) : cho n k ≤ 1073741824 := Nat.le_trans (cho_le n k) (Nat.pow_le_pow_right (n := 2) (by omega) h)
set_option maxHeartbeats 1600000 in
theorem refC30_many (n k : Nat) (w : World) (hn : n ≤ 30) (h0 : 0 < k) (hk : k < n) :
    Calls Try.prog 25 #[.int .i64 (n : Int), .int .i64 (k : Int)] w fun e w' => e = .returned (.int .i64 ((cho n k : Nat) : Int)) ∧ Below w.heap.size w w' := by
  have hmk : ∀ W : World, (Instr.makeSlice 49 (.int .i64 ((k : Int) + 1)) (.int .i64 ((k : Int) + 1))).run Try.prog W = .ok (.slice (some ⟨W.heap.size, 0, none⟩) (k + 1) (k + 1)) (W.alloc (.cells (madeCells #[.int .i64 0] (k + 1)) 3)) :=
    fun W => run_make_row' (P := Try.prog) 49 3 (.int .i64 0) 8 Try.underlying49 infoInt rfl .i64 .i64 (k + 1) (by omega) (by omega) W
  have HMD := hid (World.rowIs_made w (.int .i64 0) (k + 1) 3)
  have f0 := HMD.out.frozen 0
  have g0 := HMD.out.cell (i := 0) (by omega)
  have HS := hid ((HMD.out.set 0 (.int .i64 1)).congr (fun j hj => cellC_start (k := k) (j := j) hj))
  have hd1 : decide ((k : Int) < 0) = false := decide_eq_false (by omega)
  have hd2 : decide (n < k) = false := decide_eq_false (by omega)
  have he1 : ((k : Int) == 0) = false := by simp; omega
  have he2 : ((k : Int) == (n : Int)) = false := by simp; omega
  go_enter Try.func25, Try.ntmps25
  go_wp2_with fail
  clear hmk f0 g0 hd1 hd2 he1 he2
  go_loopg [6, 27] n (fun g _ s wr => ∃ r : Nat, r ≤ n ∧ n - r ≤ g ∧ s = .int .i64 r ∧ wr.rowIs w.heap.size 3 (k + 1) (cellC r k) ∧ Below w.heap.size w wr)
  case atStart => exact ⟨0, by omega, by omega, rfl, by rw [← World.setCell_alloc_new]; exact HS.out, (Below.refl _ _).alloc (Nat.le_refl _) _⟩
  case round =>
    obtain ⟨r, hr, hg, rfl, hrow, hbel⟩ := hrel
    have HR := hid hrow
    have HB := hid hbel
    clear hrow hbel HS HMD
    by_cases hlt : r < n
    · go_wp2_with fail
      go_loopg [6] k (fun g s wr => ∃ i : Nat, i ≤ k ∧ i ≤ g ∧ s = .int .i64 i ∧ wr.rowIs w.heap.size 3 (k + 1) (cellC r i) ∧ Below w.heap.size w wr)
      case atStart => exact ⟨k, by omega, by omega, rfl, HR.out, HB.out⟩
      case round =>
        clear HR HB
        obtain ⟨i, hi, hgi, rfl, hrow, hbel⟩ := hrel
        have HR := hid hrow
        have HB := hid hbel
        clear hrow hbel
        by_cases hpos : 0 < i
        · obtain ⟨i, rfl⟩ : ∃ x, i = x + 1 := ⟨i - 1, by omega⟩
          have g1 : wr.drew.cell? ⟨w.heap.size, i + 1, none⟩ = some (.int .i64 ((cho r (i + 1) : Nat) : Int)) := by
            rw [show wr.drew.cell? ⟨w.heap.size, i + 1, none⟩ = wr.cell? ⟨w.heap.size, i + 1, none⟩ from rfl, HR.out.cell (by omega)]
            unfold cellC
            rw [if_neg (by omega)]
          have g2 : wr.drew.cell? ⟨w.heap.size, i, none⟩ = some (.int .i64 ((cho r i : Nat) : Int)) := by
            rw [show wr.drew.cell? ⟨w.heap.size, i, none⟩ = wr.cell? ⟨w.heap.size, i, none⟩ from rfl, HR.out.cell (by omega)]
            unfold cellC
            rw [if_neg (by omega)]
          have f1 : wr.drew.frozen? ⟨w.heap.size, i + 1, none⟩ = false := HR.out.frozen (i + 1)
          have HW := hid ((HR.out.set (i + 1) (.int .i64 (((cho r (i + 1) : Nat) : Int) + ((cho r i : Nat) : Int)))).congr (fun j _ => cellC_step (r := r) (i := i) (j := j)))
          have c1 := cho_30 (n := r) (k := i + 1) (by omega)
          have c2 := cho_30 (n := r) (k := i) (by omega)
          generalize cho r (i + 1) = x1 at *
          generalize cho r i = x2 at *
          go_wp2_with fail
          go_region
          go_wp2
          go_roundg i
          case measure => omega
          case rel => exact ⟨i, by omega, by omega, by go_num, HW.out, HB.out.drew.setCell (Nat.le_refl _) _⟩
        · have hi0 : i = 0 := by omega
          subst hi0
          have HN := hid (HR.out.congr (fun j hj => cellC_next (r := r) (k := k) (j := j) hj))
          go_wp2
          go_roundg (n - (r + 1))
          case measure => omega
          case rel => exact ⟨r + 1, by omega, by omega, by go_num, HN.out, HB.out⟩
    · have hrn : r = n := by omega
      subst hrn
      have g1 : wr.cell? ⟨w.heap.size, k, none⟩ = some (.int .i64 ((cho r k : Nat) : Int)) := by
        rw [HR.out.cell (by omega)]
        unfold cellC
        rw [if_neg (by omega)]
      go_wp2
      go_ret
      exact ⟨rfl, HB.out⟩


theorem refC30_any (n k : Nat) (w : World) (hn : n ≤ 30) :
    Calls Try.prog 25 #[.int .i64 (n : Int), .int .i64 (k : Int)] w fun e w' => e = .returned (.int .i64 ((cho n k : Nat) : Int)) ∧ Below w.heap.size w w' := by
  by_cases h : k = 0 ∨ n ≤ k
  · exact (refChoose_few n k w h).mono fun _ _ ⟨he, hw⟩ => ⟨he, by rw [← hw]; exact Below.refl _ _⟩
  · exact refC30_many n k w hn (by omega) (by omega)
theorem refC30_of (N K : Int) (n k : Nat) (hN : N = n) (hK : K = k) (w : World) (hn : n ≤ 30) :
    Calls Try.prog 25 #[.int .i64 N, .int .i64 K] w fun e w' => e = .returned (.int .i64 ((cho n k : Nat) : Int)) ∧ Below w.heap.size w w' := by
  subst hN
  subst hK
  exact refC30_any n k w hn
theorem refC30_neg (n k : Int) (w : World) (hk : k < 0) :
    Calls Try.prog 25 #[.int .i64 n, .int .i64 k] w fun e w' => e = .returned (.int .i64 0) ∧ w = w' := by
  go_enter Try.func25, Try.ntmps25
  go_wp2
  go_ret
  exact ⟨rfl, rfl⟩

/-- Ways to a height, by choices. -/
theorem bal_cho {o c : Nat} (hc : c < 16) (h : o ≤ c) : ((bal o c : Nat) : Int) = ((cho (o + c) o : Nat) : Int) - (if o = 0 then 0 else ((cho (o + c) (o - 1) : Nat) : Int)) := by
  have := (by decide +kernel : ∀ o c : Fin 16, o.val ≤ c.val → bal o.val c.val + (if o.val = 0 then 0 else (pas (o.val + c.val)).getD (o.val - 1) 0) = (pas (o.val + c.val)).getD o.val 0) ⟨o, by omega⟩ ⟨c, hc⟩ h
  simp only [pas_cho] at this
  split
  · rename_i e
    rw [if_pos e] at this
    omega
  · rename_i e
    rw [if_neg e] at this
    omega
set_option maxHeartbeats 800000 in
theorem reach_ok (H St : Int) (o c : Nat) (hH : H = (c : Int) - (o : Int)) (hS : St = (o : Int) + (c : Int)) (w : World) (hc : c ≤ 15) (ho : o ≤ c) :
    Calls Try.prog 17 #[.int .i64 H, .int .i64 St] w fun e w' => e = .returned (.int .i64 ((bal o c : Nat) : Int)) ∧ Below w.heap.size w w' := by
  have HE := hid (bal_cho (o := o) (c := c) (by omega) ho)
  have hd : St - H = 2 * (o : Int) := by omega
  have hm : (2 * (o : Int)).tmod 2 = 0 := by simp
  have h0 : 0 ≤ H := by omega
  have hle : H ≤ St := by omega
  have hSm : St ≤ 30 := by omega
  go_enter Try.func17, Try.ntmps17
  go_wp2_with fail
  refine (refC30_of _ _ (o + c) o (by go_num) (by omega) _ (by omega)).mono ?_
  rintro e w1 ⟨rfl, hb⟩
  have HB1 := hid hb
  have b1 := cho_30 (n := o + c) (k := o) (by omega)
  clear hb
  by_cases h00 : o = 0
  · have HZ : Hid (((bal o c : Nat) : Int) = ((cho (o + c) o : Nat) : Int) - 0) := by
      rw [HE.out, if_pos h00]
      rfl
    clear HE
    generalize cho (o + c) o = x1 at *
    go_wp2_with fail
    refine (refC30_neg _ _ _ (by omega)).mono ?_
    rintro e w' ⟨rfl, rfl⟩
    go_wp2
    go_ret
    exact ⟨eret_int (by rw [HZ.out]; omega), HB1.out⟩
  · have HZ : Hid (((bal o c : Nat) : Int) = ((cho (o + c) o : Nat) : Int) - ((cho (o + c) (o - 1) : Nat) : Int)) := by
      rw [HE.out, if_neg h00]
      rfl
    clear HE
    have b2 := cho_30 (n := o + c) (k := o - 1) (by omega)
    go_wp2_with fail
    refine (refC30_of _ _ (o + c) (o - 1) (by go_num) (by omega) _ (by omega)).mono ?_
    rintro e w2 ⟨rfl, hb⟩
    have HB2 := hid (below_step HB1.out (Nat.le_refl _) hb)
    clear hb HB1
    generalize cho (o + c) o = x1 at *
    generalize cho (o + c) (o - 1) = x2 at *
    go_wp2
    go_ret
    exact ⟨eret_int HZ.out.symm, HB2.out⟩
theorem reach_over (H St : Int) (w : World) (h : St < H) (h0 : 0 ≤ H) (h1 : H ≤ 1000) (h2 : -1000 ≤ St) :
    Calls Try.prog 17 #[.int .i64 H, .int .i64 St] w fun e w' => e = .returned (.int .i64 0) ∧ w = w' := by
  go_enter Try.func17, Try.ntmps17
  go_wp2
  all_goals
    go_ret
    exact ⟨rfl, rfl⟩

theorem ahead_cho {a b : Nat} (ha : a < 16) (hb : b < 16) (h : b < a) : aheadN a b * (a + b) = cho (a + b) a * (a - b) := by
  have := (by decide +kernel : ∀ a b : Fin 16, b.val < a.val → aheadN a.val b.val * (a.val + b.val) = (pas (a.val + b.val)).getD a.val 0 * (a.val - b.val)) ⟨a, ha⟩ ⟨b, hb⟩ h
  rw [pas_cho] at this
  exact this
theorem ahead_low {a b : Nat} (ha : a < 16) (hb : b < 16) (h : a ≤ b) : aheadN a b = 0 :=
  (by decide +kernel : ∀ a b : Fin 16, a.val ≤ b.val → aheadN a.val b.val = 0) ⟨a, ha⟩ ⟨b, hb⟩ h
set_option maxHeartbeats 800000 in
theorem aheadOf_ok (a b : Nat) (w : World) (ha : a ≤ 15) (hb : b ≤ 15) :
    Calls Try.prog 13 #[.int .i64 (a : Int), .int .i64 (b : Int)] w fun e w' => e = .returned (.int .i64 ((aheadN a b : Nat) : Int)) ∧ Below w.heap.size w w' := by
  by_cases hab : a ≤ b
  · have HE := hid (ahead_low (a := a) (b := b) (by omega) (by omega) hab)
    go_enter Try.func13, Try.ntmps13
    go_wp2
    go_ret
    exact ⟨eret_int (by rw [HE.out]; rfl), Below.refl _ _⟩
  · have hlt : b < a := by omega
    have HE := hid (ahead_cho (a := a) (b := b) (by omega) (by omega) hlt)
    have hd : decide (a ≤ b) = false := decide_eq_false hab
    have b1 := cho_30 (n := a + b) (k := a) (by omega)
    have hz : (((a : Int) + (b : Int)) == 0) = false := by simp; omega
    have hq : ((cho (a + b) a : Nat) : Int) * ((a : Int) - (b : Int)) = ((aheadN a b : Nat) : Int) * ((a : Int) + (b : Int)) := by
      have := congrArg (Nat.cast (R := Int)) HE.out
      rw [Int.natCast_mul, Int.natCast_mul, Int.natCast_add, Int.natCast_sub (Nat.le_of_lt hlt)] at this
      exact this.symm
    have m1 : 0 ≤ ((cho (a + b) a : Nat) : Int) * ((a : Int) - (b : Int)) := Int.mul_nonneg (by omega) (by omega)
    have m2 : ((cho (a + b) a : Nat) : Int) * ((a : Int) - (b : Int)) ≤ 1073741824 * 15 := Int.mul_le_mul (by omega) (by omega) (by omega) (by omega)
    have HV : Hid (((cho (a + b) a : Nat) : Int) * ((a : Int) - (b : Int)) / ((a : Int) + (b : Int)) = ((aheadN a b : Nat) : Int)) := by
      rw [hq]
      exact Int.mul_ediv_cancel _ (by omega)
    clear hq HE
    go_enter Try.func13, Try.ntmps13
    go_wp2_with fail
    refine (refC30_of _ _ (a + b) a (by go_num) rfl _ (by omega)).mono ?_
    rintro e w1 ⟨rfl, hb⟩
    have HB1 := hid hb
    clear hb
    generalize cho (a + b) a = C at *
    go_wp2
    go_ret
    exact ⟨eret_int HV.out, HB1.out⟩

set_option maxHeartbeats 1600000 in
theorem nestRank_ok (s : ByteArray) (n : Nat) (w : World) (hs : s.size = n + n) (hn : n ≤ 15) (hok : nestE s.data.toList = 0) :
    Calls Try.prog 16 #[.string s] w fun e w' => e = .returned (.int .i64 ((nrk s.data.toList n n : Nat) : Int)) ∧ Below w.heap.size w w' := by
  have HP : Hid (perr s.data.toList 0 = 0) := by
    have := hok
    rw [nestE_small (by omega)] at this
    exact this
  clear hok
  go_enter Try.func16, Try.ntmps16
  go_wp2
  go_loopg [3, 4, 5, 8] s.size (fun g xv hv _ iv wr => ∃ k o c x : Nat, k ≤ s.size ∧ s.size - k ≤ g ∧ s.size - k = o + c ∧ o ≤ c ∧ c ≤ 15 ∧ hv = .int .i64 ((c : Int) - (o : Int)) ∧ xv = .int .i64 x ∧ iv = .int .i64 k ∧ Below w.heap.size w wr ∧ x ≤ 9694845 * k ∧ perr (s.data.toList.drop k) (c - o) = 0 ∧ x + nrk (s.data.toList.drop k) o c = nrk s.data.toList n n)
  case atStart => exact ⟨0, n, n, 0, by omega, by omega, by omega, by omega, by omega, congrArg (Value.int .i64) (by omega), rfl, rfl, Below.refl _ _, by omega, by rw [Nat.sub_self]; exact HP.out, by simp⟩
  case round =>
    clear HP
    obtain ⟨k, o, c, x, hk, hg, hl, ho, hc, rfl, rfl, rfl, hbel, hx, hp, hr⟩ := hrel
    have HB := hid hbel
    have HP := hid hp
    have HR := hid hr
    clear hp hr hbel
    by_cases hlt : k < s.size
    · have HC := hid (sdrop_cons s k hlt)
      rcases perr_first (by have := HP.out; rw [HC.out] at this; exact this) with ⟨e1, hp⟩ | ⟨e1, hh, hp⟩
      · have HQ := hid hp
        have hlen := perr_len _ _ hp
        rw [List.length_drop, bytes_len] at hlen
        have HS : Hid (x + nrk (s.data.toList.drop (k + 1)) (o - 1) c = nrk s.data.toList n n) := by
          have := HR.out
          rw [HC.out, nrk, if_pos e1] at this
          exact this
        obtain ⟨q, rfl⟩ : ∃ q, o = q + 1 := ⟨o - 1, by omega⟩
        have e1' : s[k].toNat = 40 := by rw [e1]; rfl
        clear hp hlen
        go_wp2
        go_roundg (s.size - (k + 1))
        case measure => omega
        case rel => exact ⟨k + 1, q, c, x, by omega, by omega, by omega, by omega, by omega, congrArg (Value.int .i64) (by omega), rfl, by go_num, HB.out, by omega, by rw [show c - q = c - (q + 1) + 1 by omega]; exact HQ.out, HS.out⟩
      · have HQ := hid hp
        have HS : Hid (x + (balOp o c + nrk (s.data.toList.drop (k + 1)) o (c - 1)) = nrk s.data.toList n n) := by
          have := HR.out
          rw [HC.out, nrk, if_neg (by rw [e1]; decide)] at this
          exact this
        have e1' : s[k].toNat = 41 := by rw [e1]; rfl
        obtain ⟨d, rfl⟩ : ∃ d, c = d + 1 := ⟨c - 1, by omega⟩
        clear hp
        have hsk : (s.size : Int) - (k : Int) = (o : Int) + (d : Int) + 1 := by omega
        by_cases h0 : o = 0
        · subst h0
          go_wp2_with fail
          refine (reach_over _ _ _ (by omega) (by omega) (by omega) (by omega)).mono ?_
          rintro e w' ⟨rfl, rfl⟩
          go_wp2
          go_roundg (s.size - (k + 1))
          case measure => omega
          case rel => exact ⟨k + 1, 0, d, x, by omega, by omega, by omega, by omega, by omega, congrArg (Value.int .i64) (by omega), by go_num, by go_num, HB.out, by omega, HQ.out, by rw [← HS.out]; simp [balOp]⟩
        · obtain ⟨q, rfl⟩ : ∃ q, o = q + 1 := ⟨o - 1, by omega⟩
          have hxb := bal_le (o := q) (c := d + 1) (by omega) (by omega)
          have HY : Hid (balOp (q + 1) (d + 1) = bal q (d + 1)) := rfl
          go_wp2_with fail
          refine (reach_ok _ _ q (d + 1) (by omega) (by omega) _ (by omega) (by omega)).mono ?_
          rintro e w2 ⟨rfl, hb⟩
          have HB2 := hid (below_step HB.out (Nat.le_refl _) hb)
          clear hb HB
          generalize bal q (d + 1) = y at *
          go_wp2
          go_roundg (s.size - (k + 1))
          case measure => omega
          case rel => exact ⟨k + 1, q + 1, d, x + y, by omega, by omega, by omega, by omega, by omega, congrArg (Value.int .i64) (by omega), by go_num, by go_num, HB2.out, by omega, by rw [show d - (q + 1) = d + 1 - (q + 1) - 1 by omega]; exact HQ.out, by rw [← HS.out, HY.out, show d + 1 - 1 = d by omega, Nat.add_assoc]⟩
    · have HD := hid (drop_all s k (by omega))
      have HS : Hid (x = nrk s.data.toList n n) := by
        have := HR.out
        rw [HD.out, nrk] at this
        exact this
      go_wp2
      go_ret
      exact ⟨eret_int (by rw [← HS.out]), HB.out⟩
theorem nun_bytes (f o c k : Nat) : (ByteArray.mk (nun f o c k).toArray).size = f := by
  have := nun_len f o c k
  simpa [ByteArray.size] using this
end Go.Proofs.Ytmpipgpbmppbjaa
