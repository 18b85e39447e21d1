
/-
  line.Run as CurvesOwn takes it: two lists, each for itself.
-/
import Derived.Test.YtifmefachdfmjaaOwnD
import Derived.Test.YtifmefachdfmjaaLineA
namespace Go.Proofs.Ytifmefachdfmjaa
set_option linter.all false
open Go.RowKit Go.Shelf

theorem lin_len (l : List Int) (n : Int) : (linG l n).length ≤ 61 ∧ (linW l n).length ≤ 61 := by
  by_cases h : linE l n = 0
  · have := (lin_ok h).1.le
    rw [linG_yes h, linW_yes h, length_goL, length_waL]; omega
  · rw [linG_no h, linW_no h]; simp
theorem fn_line (l : List Int) (n : Int) : ∃ L M E, FnL l n L M E := ⟨_, _, _, (lin_len l n).1, (lin_len l n).2, fun A c w h _ => lrun_any A l c n w h⟩

end Go.Proofs.Ytifmefachdfmjaa
