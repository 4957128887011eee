/-
  castlaw.OddsSay, whatever comes in.
-/
import Derived.Test.YthdjbmogdlodcaaOddsSayA
import Derived.Test.YthdjbmogdlodcaaOddsSayB
import Derived.Test.YthdjbmogdlodcaaOddsSayC
import Derived.Test.YthdjbmogdlodcaaOddsSayD
namespace Go.Proofs.Ythdjbmogdlodcaa
open Go.RowKit

theorem oddsSay_any (A : Option Addr) (n c : Nat) (B : Option Addr) (m d : Nat) (A' : Option Addr) (n' c' : Nat) (B' : Option Addr) (m' d' : Nat) (least : Int) (vs ws us xs : List Int) (w : World)
    (hI : Ints w A n vs) (hJ : Ints w B m ws) (hI' : Ints w A' n' us) (hJ' : Ints w B' m' xs) :
    Calls Try.prog 3 #[.agg #[.slice A n c, .slice B m d], .agg #[.slice A' n' c', .slice B' m' d'], .int .i64 least] w fun e w' => e = .returned (.bool true) ∧ Below w.heap.size w w' := by
  by_cases h1 : oddErr vs ws = 0
  · obtain ⟨l, hl, rfl, rfl⟩ := oddErr_zero h1
    by_cases h2 : oddErr us xs = 0
    · obtain ⟨l', hl', rfl, rfl⟩ := oddErr_zero h2
      by_cases h3 : GoodD (bothL l l')
      · exact oddsSay_c A n c B m d A' n' c' B' m' d' least w l hI hJ hl l' hI' hJ' hl' h3
      · exact oddsSay_d A n c B m d A' n' c' B' m' d' least w l hI hJ hl l' hI' hJ' hl' h3
    · exact oddsSay_b A n c B m d A' n' c' B' m' d' least w l hI hJ hl (oddErr us xs) h2
        (fun W hb => oboth_bad_b _ _ _ _ _ _ _ _ _ _ _ _ _ _ us xs W (hI.keep hb) (hJ.keep hb) (hI'.keep hb) (hJ'.keep hb) h1 h2)
        (fun W hb => refOddsErr_any _ _ _ _ _ _ us xs W (hI'.keep hb) (hJ'.keep hb))
  · exact oddsSay_a A n c B m d A' n' c' B' m' d' least w (oddErr vs ws) h1
      (fun W hb => omean_bad _ _ _ _ _ _ vs ws W (hI.keep hb) (hJ.keep hb) h1) (fun W hb => ospread_bad _ _ _ _ _ _ vs ws W (hI.keep hb) (hJ.keep hb) h1)
      (fun W hb => obeyond_bad _ _ _ _ _ _ least vs ws W (hI.keep hb) (hJ.keep hb) h1) (fun W hb => oboth_bad_a _ _ _ _ _ _ _ _ _ _ _ _ vs ws W (hI.keep hb) (hJ.keep hb) h1)
      (fun W hb => refOddsErr_any _ _ _ _ _ _ vs ws W (hI.keep hb) (hJ.keep hb)) (fun W hb => ocheck_any _ _ _ _ _ _ vs ws W (hI.keep hb) (hJ.keep hb))
end Go.Proofs.Ythdjbmogdlodcaa
