/-
  castlaw.PartsSay.
-/
import Derived.Test.YteegddpoekphoaaDoorPartsSayA
import Derived.Test.YteegddpoekphoaaDoorPartsSayB
import Derived.Test.YteegddpoekphoaaDoorPartsSayC
namespace Go.Proofs.YteegddpoekphoaaDoor
open Go.RowKit

theorem partsSay_bad (A : Option Addr) (n c : Nat) (xs : List Int) (N M : Int) (w : World) (h : Ints w A n xs) (ht : Tab64 w) (hm : n ≤ 9223372036854775807) (he : partErr xs ≠ 0) :
    Calls Tryd.prog 3 #[.slice A n c, .int .i64 N, .int .i64 M] w fun e w' => e = .returned (.bool true) ∧ Below w.heap.size w w' := by
  by_cases h0 : N < 0
  · exact partsSay_n0_bad A n c xs N M w h ht h0 hm he
  · by_cases h1 : 40 < N
    · exact partsSay_n1_bad A n c xs N M w h ht h0 h1 hm he
    · by_cases h2 : M < 0
      · exact partsSay_m0_bad A n c xs N M w h ht h0 h1 h2 hm he
      · by_cases h3 : 40 < M
        · exact partsSay_m1_bad A n c xs N M w h ht h0 h1 h2 h3 hm he
        · obtain ⟨p, rfl⟩ := Int.eq_ofNat_of_zero_le (show 0 ≤ N by omega)
          obtain ⟨q, rfl⟩ := Int.eq_ofNat_of_zero_le (show 0 ≤ M by omega)
          exact partsSay_in_bad A n c xs p q w h ht (by omega) (by omega) hm he

theorem partsSay_te (A : Option Addr) (n c : Nat) (ns : List Nat) (N M : Int) (w : World) (h : Ints w A n (ofN ns)) (ht : Tab64 w) (hp : IsPart (ofN ns)) (htw : ¬ NoTwin ns ns.length) (hev : ¬ ∀ x ∈ ns, x % 2 = 1) :
    Calls Tryd.prog 3 #[.slice A n c, .int .i64 N, .int .i64 M] w fun e w' => e = .returned (.bool true) ∧ Below w.heap.size w w' := by
  by_cases h0 : N < 0
  · exact partsSay_n0_te A n c ns N M w h ht h0 hp htw hev
  · by_cases h1 : 40 < N
    · exact partsSay_n1_te A n c ns N M w h ht h0 h1 hp htw hev
    · by_cases h2 : M < 0
      · exact partsSay_m0_te A n c ns N M w h ht h0 h1 h2 hp htw hev
      · by_cases h3 : 40 < M
        · exact partsSay_m1_te A n c ns N M w h ht h0 h1 h2 h3 hp htw hev
        · obtain ⟨p, rfl⟩ := Int.eq_ofNat_of_zero_le (show 0 ≤ N by omega)
          obtain ⟨q, rfl⟩ := Int.eq_ofNat_of_zero_le (show 0 ≤ M by omega)
          exact partsSay_in_te A n c ns p q w h ht (by omega) (by omega) hp htw hev

theorem partsSay_to (A : Option Addr) (n c : Nat) (ns : List Nat) (N M : Int) (w : World) (h : Ints w A n (ofN ns)) (ht : Tab64 w) (hp : IsPart (ofN ns)) (htw : ¬ NoTwin ns ns.length) (hev : ∀ x ∈ ns, x % 2 = 1) :
    Calls Tryd.prog 3 #[.slice A n c, .int .i64 N, .int .i64 M] w fun e w' => e = .returned (.bool true) ∧ Below w.heap.size w w' := by
  by_cases h0 : N < 0
  · exact partsSay_n0_to A n c ns N M w h ht h0 hp htw hev
  · by_cases h1 : 40 < N
    · exact partsSay_n1_to A n c ns N M w h ht h0 h1 hp htw hev
    · by_cases h2 : M < 0
      · exact partsSay_m0_to A n c ns N M w h ht h0 h1 h2 hp htw hev
      · by_cases h3 : 40 < M
        · exact partsSay_m1_to A n c ns N M w h ht h0 h1 h2 h3 hp htw hev
        · obtain ⟨p, rfl⟩ := Int.eq_ofNat_of_zero_le (show 0 ≤ N by omega)
          obtain ⟨q, rfl⟩ := Int.eq_ofNat_of_zero_le (show 0 ≤ M by omega)
          exact partsSay_in_to A n c ns p q w h ht (by omega) (by omega) hp htw hev

theorem partsSay_oe (A : Option Addr) (n c : Nat) (ns : List Nat) (N M : Int) (w : World) (h : Ints w A n (ofN ns)) (ht : Tab64 w) (hp : IsPart (ofN ns)) (htw : NoTwin ns ns.length) (hev : ¬ ∀ x ∈ ns, x % 2 = 1) :
    Calls Tryd.prog 3 #[.slice A n c, .int .i64 N, .int .i64 M] w fun e w' => e = .returned (.bool true) ∧ Below w.heap.size w w' := by
  by_cases h0 : N < 0
  · exact partsSay_n0_oe A n c ns N M w h ht h0 hp htw hev
  · by_cases h1 : 40 < N
    · exact partsSay_n1_oe A n c ns N M w h ht h0 h1 hp htw hev
    · by_cases h2 : M < 0
      · exact partsSay_m0_oe A n c ns N M w h ht h0 h1 h2 hp htw hev
      · by_cases h3 : 40 < M
        · exact partsSay_m1_oe A n c ns N M w h ht h0 h1 h2 h3 hp htw hev
        · obtain ⟨p, rfl⟩ := Int.eq_ofNat_of_zero_le (show 0 ≤ N by omega)
          obtain ⟨q, rfl⟩ := Int.eq_ofNat_of_zero_le (show 0 ≤ M by omega)
          exact partsSay_in_oe A n c ns p q w h ht (by omega) (by omega) hp htw hev

theorem partsSay_oo (A : Option Addr) (n c : Nat) (ns : List Nat) (N M : Int) (w : World) (h : Ints w A n (ofN ns)) (ht : Tab64 w) (hp : IsPart (ofN ns)) (htw : NoTwin ns ns.length) (hev : ∀ x ∈ ns, x % 2 = 1) :
    Calls Tryd.prog 3 #[.slice A n c, .int .i64 N, .int .i64 M] w fun e w' => e = .returned (.bool true) ∧ Below w.heap.size w w' := by
  by_cases h0 : N < 0
  · exact partsSay_n0_oo A n c ns N M w h ht h0 hp htw hev
  · by_cases h1 : 40 < N
    · exact partsSay_n1_oo A n c ns N M w h ht h0 h1 hp htw hev
    · by_cases h2 : M < 0
      · exact partsSay_m0_oo A n c ns N M w h ht h0 h1 h2 hp htw hev
      · by_cases h3 : 40 < M
        · exact partsSay_m1_oo A n c ns N M w h ht h0 h1 h2 h3 hp htw hev
        · obtain ⟨p, rfl⟩ := Int.eq_ofNat_of_zero_le (show 0 ≤ N by omega)
          obtain ⟨q, rfl⟩ := Int.eq_ofNat_of_zero_le (show 0 ≤ M by omega)
          exact partsSay_in_oo A n c ns p q w h ht (by omega) (by omega) hp htw hev

theorem partsSay_any (A : Option Addr) (n c : Nat) (xs : List Int) (N M : Int) (w : World) (h : Ints w A n xs) (hm : n ≤ 9223372036854775807) (ht : Tab64 w) :
    Calls Tryd.prog 3 #[.slice A n c, .int .i64 N, .int .i64 M] w fun e w' => e = .returned (.bool true) ∧ Below w.heap.size w w' := by
  by_cases he : partErr xs = 0
  · have hp := isPart_of he
    obtain ⟨ns, rfl⟩ := ofN_of hp
    by_cases htw : NoTwin ns ns.length
    · by_cases hev : ∀ x ∈ ns, x % 2 = 1
      · exact partsSay_oo A n c ns N M w h ht hp htw hev
      · exact partsSay_oe A n c ns N M w h ht hp htw hev
    · by_cases hev : ∀ x ∈ ns, x % 2 = 1
      · exact partsSay_to A n c ns N M w h ht hp htw hev
      · exact partsSay_te A n c ns N M w h ht hp htw hev
  · exact partsSay_bad A n c xs N M w h ht hm he

end Go.Proofs.YteegddpoekphoaaDoor
