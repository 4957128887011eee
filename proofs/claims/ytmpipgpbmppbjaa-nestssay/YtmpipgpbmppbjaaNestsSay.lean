/-
  castlaw.NestsSay: the cases joined.
-/
import Derived.Test.YtmpipgpbmppbjaaNestsSayY
import Derived.Test.YtmpipgpbmppbjaaNestsSayA
import Derived.Test.YtmpipgpbmppbjaaNestsSayB
import Derived.Test.YtmpipgpbmppbjaaNestsSayC
import Derived.Test.YtmpipgpbmppbjaaNestsSayD
namespace Go.Proofs.Ytmpipgpbmppbjaa
open Go.RowKit

theorem nestsSay_A (s : ByteArray) (n k : Int) (a b : Int) (w : World) (hs : s.size ≤ maxLen) (ha : a < 0) :
    Calls Try.prog 3 #[.string s, .int .i64 n, .int .i64 k, .int .i64 (a : Int), .int .i64 (b : Int)] w fun e w' => e = .returned (.bool true) ∧ Below w.heap.size w w' := by
  by_cases hok : nestE s.data.toList = 0
  · by_cases hn : n < 0 ∨ 15 < n
    · exact nestsSay_AYN s n k a b w hs hn ha hok
    · obtain ⟨n, rfl⟩ : ∃ x : Nat, n = x := ⟨n.toNat, by omega⟩
      by_cases hk : k < 0 ∨ (bal n n : Int) ≤ k
      · exact nestsSay_AYK s n k a b w hs (by omega) hk ha hok
      · obtain ⟨k, rfl⟩ : ∃ x : Nat, k = x := ⟨k.toNat, by omega⟩
        exact nestsSay_AYY s n k a b w hs (by omega) (by omega) ha hok
  · by_cases hn : n < 0 ∨ 15 < n
    · exact nestsSay_ANN s n k a b w hs hn ha hok
    · obtain ⟨n, rfl⟩ : ∃ x : Nat, n = x := ⟨n.toNat, by omega⟩
      by_cases hk : k < 0 ∨ (bal n n : Int) ≤ k
      · exact nestsSay_ANK s n k a b w hs (by omega) hk ha hok
      · obtain ⟨k, rfl⟩ : ∃ x : Nat, k = x := ⟨k.toNat, by omega⟩
        exact nestsSay_ANY s n k a b w hs (by omega) (by omega) ha hok
theorem nestsSay_B (s : ByteArray) (n k : Int) (a b : Int) (w : World) (hs : s.size ≤ maxLen) (ha : 15 < a) :
    Calls Try.prog 3 #[.string s, .int .i64 n, .int .i64 k, .int .i64 (a : Int), .int .i64 (b : Int)] w fun e w' => e = .returned (.bool true) ∧ Below w.heap.size w w' := by
  by_cases hok : nestE s.data.toList = 0
  · by_cases hn : n < 0 ∨ 15 < n
    · exact nestsSay_BYN s n k a b w hs hn ha hok
    · obtain ⟨n, rfl⟩ : ∃ x : Nat, n = x := ⟨n.toNat, by omega⟩
      by_cases hk : k < 0 ∨ (bal n n : Int) ≤ k
      · exact nestsSay_BYK s n k a b w hs (by omega) hk ha hok
      · obtain ⟨k, rfl⟩ : ∃ x : Nat, k = x := ⟨k.toNat, by omega⟩
        exact nestsSay_BYY s n k a b w hs (by omega) (by omega) ha hok
  · by_cases hn : n < 0 ∨ 15 < n
    · exact nestsSay_BNN s n k a b w hs hn ha hok
    · obtain ⟨n, rfl⟩ : ∃ x : Nat, n = x := ⟨n.toNat, by omega⟩
      by_cases hk : k < 0 ∨ (bal n n : Int) ≤ k
      · exact nestsSay_BNK s n k a b w hs (by omega) hk ha hok
      · obtain ⟨k, rfl⟩ : ∃ x : Nat, k = x := ⟨k.toNat, by omega⟩
        exact nestsSay_BNY s n k a b w hs (by omega) (by omega) ha hok
theorem nestsSay_C (s : ByteArray) (n k : Int) (a b : Int) (w : World) (hs : s.size ≤ maxLen) (ha : 0 ≤ a) (ha2 : a ≤ 15) (hb : b < 0) :
    Calls Try.prog 3 #[.string s, .int .i64 n, .int .i64 k, .int .i64 (a : Int), .int .i64 (b : Int)] w fun e w' => e = .returned (.bool true) ∧ Below w.heap.size w w' := by
  by_cases hok : nestE s.data.toList = 0
  · by_cases hn : n < 0 ∨ 15 < n
    · exact nestsSay_CYN s n k a b w hs hn ha ha2 hb hok
    · obtain ⟨n, rfl⟩ : ∃ x : Nat, n = x := ⟨n.toNat, by omega⟩
      by_cases hk : k < 0 ∨ (bal n n : Int) ≤ k
      · exact nestsSay_CYK s n k a b w hs (by omega) hk ha ha2 hb hok
      · obtain ⟨k, rfl⟩ : ∃ x : Nat, k = x := ⟨k.toNat, by omega⟩
        exact nestsSay_CYY s n k a b w hs (by omega) (by omega) ha ha2 hb hok
  · by_cases hn : n < 0 ∨ 15 < n
    · exact nestsSay_CNN s n k a b w hs hn ha ha2 hb hok
    · obtain ⟨n, rfl⟩ : ∃ x : Nat, n = x := ⟨n.toNat, by omega⟩
      by_cases hk : k < 0 ∨ (bal n n : Int) ≤ k
      · exact nestsSay_CNK s n k a b w hs (by omega) hk ha ha2 hb hok
      · obtain ⟨k, rfl⟩ : ∃ x : Nat, k = x := ⟨k.toNat, by omega⟩
        exact nestsSay_CNY s n k a b w hs (by omega) (by omega) ha ha2 hb hok
theorem nestsSay_D (s : ByteArray) (n k : Int) (a b : Int) (w : World) (hs : s.size ≤ maxLen) (ha : 0 ≤ a) (ha2 : a ≤ 15) (hb : 15 < b) :
    Calls Try.prog 3 #[.string s, .int .i64 n, .int .i64 k, .int .i64 (a : Int), .int .i64 (b : Int)] w fun e w' => e = .returned (.bool true) ∧ Below w.heap.size w w' := by
  by_cases hok : nestE s.data.toList = 0
  · by_cases hn : n < 0 ∨ 15 < n
    · exact nestsSay_DYN s n k a b w hs hn ha ha2 hb hok
    · obtain ⟨n, rfl⟩ : ∃ x : Nat, n = x := ⟨n.toNat, by omega⟩
      by_cases hk : k < 0 ∨ (bal n n : Int) ≤ k
      · exact nestsSay_DYK s n k a b w hs (by omega) hk ha ha2 hb hok
      · obtain ⟨k, rfl⟩ : ∃ x : Nat, k = x := ⟨k.toNat, by omega⟩
        exact nestsSay_DYY s n k a b w hs (by omega) (by omega) ha ha2 hb hok
  · by_cases hn : n < 0 ∨ 15 < n
    · exact nestsSay_DNN s n k a b w hs hn ha ha2 hb hok
    · obtain ⟨n, rfl⟩ : ∃ x : Nat, n = x := ⟨n.toNat, by omega⟩
      by_cases hk : k < 0 ∨ (bal n n : Int) ≤ k
      · exact nestsSay_DNK s n k a b w hs (by omega) hk ha ha2 hb hok
      · obtain ⟨k, rfl⟩ : ∃ x : Nat, k = x := ⟨k.toNat, by omega⟩
        exact nestsSay_DNY s n k a b w hs (by omega) (by omega) ha ha2 hb hok
theorem nestsSay_Y (s : ByteArray) (n k : Int) (a b : Nat) (w : World) (hs : s.size ≤ maxLen) (ha : a ≤ 15) (hb : b ≤ 15) :
    Calls Try.prog 3 #[.string s, .int .i64 n, .int .i64 k, .int .i64 (a : Int), .int .i64 (b : Int)] w fun e w' => e = .returned (.bool true) ∧ Below w.heap.size w w' := by
  by_cases hok : nestE s.data.toList = 0
  · by_cases hn : n < 0 ∨ 15 < n
    · exact nestsSay_YYN s n k a b w hs hn ha hb hok
    · obtain ⟨n, rfl⟩ : ∃ x : Nat, n = x := ⟨n.toNat, by omega⟩
      by_cases hk : k < 0 ∨ (bal n n : Int) ≤ k
      · exact nestsSay_YYK s n k a b w hs (by omega) hk ha hb hok
      · obtain ⟨k, rfl⟩ : ∃ x : Nat, k = x := ⟨k.toNat, by omega⟩
        exact nestsSay_YYY s n k a b w hs (by omega) (by omega) ha hb hok
  · by_cases hn : n < 0 ∨ 15 < n
    · exact nestsSay_YNN s n k a b w hs hn ha hb hok
    · obtain ⟨n, rfl⟩ : ∃ x : Nat, n = x := ⟨n.toNat, by omega⟩
      by_cases hk : k < 0 ∨ (bal n n : Int) ≤ k
      · exact nestsSay_YNK s n k a b w hs (by omega) hk ha hb hok
      · obtain ⟨k, rfl⟩ : ∃ x : Nat, k = x := ⟨k.toNat, by omega⟩
        exact nestsSay_YNY s n k a b w hs (by omega) (by omega) ha hb hok
theorem nestsSay_any (s : ByteArray) (n k a b : Int) (w : World) (hs : s.size ≤ maxLen) :
    Calls Try.prog 3 #[.string s, .int .i64 n, .int .i64 k, .int .i64 a, .int .i64 b] w fun e w' => e = .returned (.bool true) ∧ Below w.heap.size w w' := by
  by_cases h1 : a < 0
  · exact nestsSay_A s n k a b w hs h1
  · by_cases h2 : 15 < a
    · exact nestsSay_B s n k a b w hs h2
    · by_cases h3 : b < 0
      · exact nestsSay_C s n k a b w hs (by omega) (by omega) h3
      · by_cases h4 : 15 < b
        · exact nestsSay_D s n k a b w hs (by omega) (by omega) h4
        · obtain ⟨a, rfl⟩ : ∃ x : Nat, a = x := ⟨a.toNat, by omega⟩
          obtain ⟨b, rfl⟩ : ∃ x : Nat, b = x := ⟨b.toNat, by omega⟩
          exact nestsSay_Y s n k a b w hs (by omega) (by omega)
end Go.Proofs.Ytmpipgpbmppbjaa
