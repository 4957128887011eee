/-
  castkeep.forms: all sums of a number.
-/
import Derived.Test.YteffbhdhldilnaaPartP
import Derived.Test.YteffbhdhldilnaaPartF
namespace Go.Proofs.Yteffbhdhldilnaa
open Go.RowKit

def RetRows (w : World) (xss : List (List Int)) (e : Ending) (w' : World) : Prop := ∃ v, e = .returned v ∧ Rows2 w' w.heap.size v xss ∧ Below w.heap.size w w'
/-- What forms does, up to a number. -/
def FormsTo (f : Nat) : Prop := ∀ (n m : Nat) (w : World), n ≤ f → n ≤ 15 → m ≤ 15 → Calls Try.prog 31 #[.int .i64 (n : Int), .int .i64 (m : Int)] w (RetRows w (pforms f n m))

/-- min(x, y). -/
theorem run_minxy {P : Program} (x y m : Nat) (hm : m = min x y) (ts : Array TypeId) (t : TypeId) (W : World) :
    (Builtin.min_ ts t #[.int .i64 (x : Int), .int .i64 (y : Int)]).run P W = .ok (.int .i64 (m : Int)) W := by
  have e : (if (y : Int) < x then (y : Int) else x) = (m : Int) := by
    subst hm
    split <;> omega
  simp only [Builtin.min_, Builtin.min2, List.foldlM_cons, List.foldlM_nil, pure_bind]
  simp only [e]
  rfl

theorem forms_zero (m : Nat) (w : World) : Calls Try.prog 31 #[.int .i64 0, .int .i64 (m : Int)] w (RetRows w [[]]) := by
  go_enter Try.func31, Try.ntmps31
  go_wp2
  go_ret
  exact ⟨_, rfl, Rows2.one w, below_alloc _ _⟩

theorem formsUp_sub (g : Nat → Nat → List (List Int)) (n : Nat) : ∀ x X, x ≤ X → (formsUp g n x).length ≤ (formsUp g n X).length := by
  intro x X h
  induction h with
  | refl => exact Nat.le_refl _
  | step _ ih => rw [formsUp, List.length_append]; omega

theorem map_take_snoc {L : List (List Int)} {j : Nat} (hj : j < L.length) (F : List Int → List Int) : (L.take (j + 1)).map F = (L.take j).map F ++ [F (L.getD j [])] := by
  rw [List.take_add_one, List.map_append, List.getD_eq_getElem?_getD, List.getElem?_eq_getElem hj]
  rfl

/-- How long the sums are. -/
theorem formsUp_short (g : Nat → Nat → List (List Int)) (n B : Nat) (hg : ∀ a b l, l ∈ g a b → l.length ≤ B) : ∀ x l, l ∈ formsUp g n x → l.length ≤ B + 1
  | 0, l, h => by simp [formsUp] at h
  | x + 1, l, h => by
    rw [formsUp] at h
    rcases List.mem_append.1 h with h | h
    · obtain ⟨l', h1, rfl⟩ := List.mem_map.1 h
      have := hg _ _ _ h1
      simp
      omega
    · exact formsUp_short g n B hg x l h
theorem pforms_short : ∀ f n m l, l ∈ pforms f n m → l.length ≤ f
  | 0, _, _, l, h => by simp [pforms] at h; simp [h]
  | f + 1, n, m, l, h => by
    rw [pforms] at h
    split at h
    · simp at h
      simp [h]
    · exact formsUp_short (pforms f) n f (pforms_short f) _ l h

set_option maxHeartbeats 1600000 in
theorem forms_step (f : Nat) (IH : FormsTo f) (hf : f ≤ 15) : FormsTo (f + 1) := by
  have HI := hid IH
  clear IH
  intro n m w hnf hn hm
  rcases Nat.eq_zero_or_pos n with h0 | h0
  · subst h0
    have e : pforms (f + 1) 0 m = [[]] := by rw [pforms, if_pos rfl]
    rw [e]
    exact forms_zero m w
  · have hne : ((n : Int) == 0) = false := by simp; omega
    obtain ⟨X, hX⟩ : ∃ X, X = min n m := ⟨_, rfl⟩
    have hmin := run_minxy (P := Try.prog) n m X hX
    have HP : Hid (pforms (f + 1) n m = formsUp (pforms f) n X) := by rw [pforms, if_neg (by omega), hX]; exact rfl
    have hXn : X ≤ n := by omega
    have HLEN := hid (pforms_len (f + 1) n m)
    rw [HP.out] at HLEN
    have hpow : 2 ^ n ≤ 32768 := Nat.le_trans (Nat.pow_le_pow_right (by omega) hn) (by decide)
    have hX15 : X ≤ 15 := by omega
    clear hX
    go_enter Try.func31, Try.ntmps31
    go_wp2
    clear hmin
    go_loopg [5, 6] X (fun g v t wr => ∃ (x : Nat) (xss : List (List Int)), x ≤ X ∧ x ≤ g ∧ t = .int .i64 (x : Int) ∧ Rows2 wr w.heap.size v xss ∧ Below w.heap.size w wr ∧ xss ++ formsUp (pforms f) n x = formsUp (pforms f) n X)
    case atStart => exact ⟨X, [], Nat.le_refl _, Nat.le_refl _, rfl, Rows2.nil _ _, Below.refl _ _, rfl⟩
    case round =>
      obtain ⟨x, xss, hx, hg, rfl, hrow, hbel, hxs⟩ := hrel
      have HR := hid hrow
      have HB := hid hbel
      have HX := hid hxs
      clear hrow hbel hxs
      by_cases hx0 : 0 < x
      · have hsub : IntKind.i64.wrap ((n : Int) - (x : Int)) = ((n - x : Nat) : Int) := by rw [IntWalk.i64_in _ (by omega)]; omega
        have hxi : (0 : Int) < (x : Int) := by omega
        obtain ⟨y, hy⟩ : ∃ y, x = y + 1 := ⟨x - 1, by omega⟩
        have HUP : Hid (formsUp (pforms f) n x = (pforms f (n - x) x).map (fun l => (x : Int) :: l) ++ formsUp (pforms f) n y) := by rw [hy, formsUp]; exact rfl
        have HY := hid hy
        clear hy
        go_wp2_with fail
        refine (HI.out (n - x) x _ (by omega) (by omega) (by omega)).mono ?_
        rintro e w1 ⟨v1, rfl, hr1, hb1⟩
        obtain ⟨A1, c1, hv1, hcap⟩ := hr1.form
        have HV := hid hv1
        have HB1 := hid (below_step HB.out (Nat.le_refl _) hb1)
        have HR1 := hid (HR.out.keep hb1)
        have HL1 := hid (hr1.mono (Nat.zero_le _))
        have HAP : Hid (ApartV _ v1) := fun k hk e => by
          have h1 := HR.out.lt k hk
          have h2 := hr1.lt k e
          omega
        have HSH := hid (pforms_short f (n - x) x)
        have hLL : (pforms f (n - x) x).length ≤ 32768 := Nat.le_trans (pforms_len f (n - x) x) (Nat.le_trans (Nat.pow_le_pow_right (by omega) (show n - x ≤ 15 by omega)) (by decide))
        clear hr1 hb1 HB HR hcap hsub
        generalize pforms f (n - x) x = L at *
        have HN : Hid (xss.length + L.length ≤ 32768) := by
          have e := congrArg List.length HX.out
          rw [HUP.out] at e
          simp only [List.length_append, List.length_map] at e
          have := HLEN.out
          have h3 := hpow
          exact show xss.length + L.length ≤ 32768 by omega
        have hv1' := HV.out
        subst hv1'
        clear HV
        go_wp2_with fail
        obtain ⟨w8, hw8⟩ : ∃ w8, w8 = w1 := ⟨_, rfl⟩
        rw [← hw8] at HB1 HR1 HL1
        rw [← hw8]
        clear hw8
        go_loopg [5, 25] L.length (fun g v t wq => ∃ j : Nat, j ≤ L.length ∧ L.length - j ≤ g ∧ t = .int .i64 (j : Int) ∧ Rows2 wq w.heap.size v (xss ++ (L.take j).map (fun l => (x : Int) :: l)) ∧ Rows2 wq 0 (.slice A1 L.length c1) L ∧ ApartV v (.slice A1 L.length c1) ∧ Below w.heap.size w wq)
        case atStart => exact ⟨0, Nat.zero_le _, by omega, rfl, by simpa using HR1.out, HL1.out, HAP.out, HB1.out⟩
        case round =>
          obtain ⟨j, hj, hg2, rfl, hr2, hl2, hap, hb2⟩ := hrel
          have HR2 := hid hr2
          have HL2 := hid hl2
          have HA2 := hid hap
          have HB2 := hid hb2
          clear hr2 hl2 hap hb2 HR1 HL1 HAP HB1
          by_cases hlt : j < L.length
          · obtain ⟨g1, cap1, u, e1, hcell, hu⟩ := HL2.out.at hlt
            injection e1 with e1 _ e3
            subst e1
            subst e3
            have HU := hid hu
            have HUL : Hid ((L.getD j []).length ≤ 1000000) := by
              have hmem : L.getD j [] ∈ L := by
                rw [List.getD_eq_getElem?_getD, List.getElem?_eq_getElem hlt]
                exact List.getElem_mem hlt
              exact Nat.le_trans (HSH.out _ hmem) (by omega)
            have HMT := hid (map_take_snoc hlt (fun l => (x : Int) :: l))
            have HTL : Hid ((xss ++ (L.take j).map (fun l => (x : Int) :: l)).length ≤ 1000000000000) := by
              have := HN.out
              rw [List.length_append, List.length_map, List.length_take]
              exact show xss.length + min j L.length ≤ 1000000000000 by omega
            clear hu
            go_wp2_with (at_builtin; refine wpList_consL _ rfl (.tmp 31) (.tmp 32) rfl (x : Int) rfl u (L.getD j []) rfl HU.out HUL.out ?_)
            intro v2 w2 ho2 hb3
            obtain ⟨A5, c5, rfl, _, _⟩ := ho2.ints
            have HO2 := hid (ho2.mono (Nat.zero_le _))
            have HR3 := hid (HR2.out.keep hb3)
            have HL3 := hid (HL2.out.keep hb3)
            have HB3 := hid (below_step HB2.out (Nat.le_refl _) hb3)
            clear ho2 hb3 hcell HU HR2 HL2 HB2
            go_wp2_with (at_builtin; refine wpList_appRow _ rfl (.tmp 29) (.tmp 34) rfl w.heap.size _ _ _ _ rfl rfl HR3.out HO2.out _ L HL3.out HA2.out HTL.out HB3.out.size ?_)
            intro v4 w4 hr4 hl4 ha4 hb4
            have HR4 := hid hr4
            have HL4 := hid hl4
            have HA4 := hid ha4
            have HB4 := hid (HB3.out.trans hb4)
            clear hr4 hl4 ha4 hb4 HR3 HL3 HB3
            go_wp2
            go_roundg (L.length - (j + 1))
            case measure => omega
            case rel =>
              refine ⟨j + 1, by omega, by omega, by go_num, ?_, HL4.out, HA4.out, HB4.out⟩
              rw [HMT.out, List.map_take, List.getD_eq_getElem?_getD, List.getElem?_eq_getElem hlt]
              exact HR4.out
          · have hjl : L.length = j := by omega
            have HT : Hid (L.take j = L) := List.take_of_length_le (by omega)
            rw [HT.out] at HR2
            have HYY := HY.out
            go_wp2
            go_roundg y
            case measure => omega
            case rel =>
              refine ⟨y, xss ++ L.map (fun l => (x : Int) :: l), by omega, by omega, ?_, HR2.out, HB2.out, ?_⟩
              · rfl
              · rw [List.append_assoc, ← HUP.out]
                exact HX.out
      · have hx00 : x = 0 := by omega
        subst hx00
        have HE := HX.out
        rw [formsUp, List.append_nil] at HE
        go_wp2
        go_ret
        exact ⟨_, rfl, by rw [HP.out, ← HE]; exact HR.out, HB.out⟩

theorem forms_all_to : ∀ f, f ≤ 15 → FormsTo f := by
  intro f
  induction f with
  | zero =>
    intro _ n m w h0 _ _
    have : n = 0 := by omega
    subst this
    exact forms_zero m w
  | succ f ih => exact fun hf => forms_step f (ih (by omega)) (by omega)
theorem forms_any (n m : Nat) (w : World) (hn : n ≤ 15) (hm : m ≤ 15) : Calls Try.prog 31 #[.int .i64 (n : Int), .int .i64 (m : Int)] w (RetRows w (pforms 15 n m)) :=
  forms_all_to 15 (Nat.le_refl _) n m w hn hn hm

end Go.Proofs.Yteffbhdhldilnaa
