
/-
  Within, by the number that it answers.
-/
import Derived.Test.YtlaandbaaepamaaKeepA
import Derived.Test.YtlaandbaaepamaaBucketA
namespace Go.Proofs.Ytlaandbaaepamaa
set_option linter.all false
open Go.RowKit Go.Shelf

theorem within_n (k n : Int) (I : Nat) (w : World) (h1 : 1 ≤ n) (h2 : n ≤ 2000000) (h : Hid (wi k n = (I : Int))) : Calls Try.prog 20 #[.int .i64 k, .int .i64 n] w fun e w' => e = .returned (.int .i64 I) ∧ w = w' := by
  have := within_any k n w h1 h2
  rwa [h.out] at this

end Go.Proofs.Ytlaandbaaepamaa
