
/-
  Walks: Cut.
-/
import Derived.Test.YtlaandbaaepamaaCurveB
import Derived.Laws.CopyOwn
import Derived.Deep.OwnRows
import Derived.OwnWalk
namespace Go.Proofs.Ytlaandbaaepamaa
set_option linter.all false
open Go.RowKit

theorem int_info : (Try.prog.info? 3).map (fun i => (i.zero, i.size, i.bytes)) = some (some (.int .i64 0), 1, 8) := by kernel_rfl
theorem int_size : (Try.prog.info? 3).map (·.size) = some 1 := by kernel_rfl

/-- What Cut answers. -/
def cutE (l : List Int) (h : Int) : Int := if chk l ≠ 0 then chk l else if h < 0 ∨ (l.length : Int) ≤ h then 1 else 0
def cutL (l : List Int) (h : Int) : List Int := if cutE l h = 0 then l.take (h.toNat + 1) else []

theorem chk_len {l : List Int} (h : chk l = 0) : 0 < l.length ∧ l.length ≤ 61 := by
  unfold chk at h
  split at h
  · omega
  · split at h
    · omega
    · omega

theorem Ans.of_none {E : Int} {w : World} {e : Ending} {w' : World} {L : List Int} (hL : L = []) (he : e = .returned (.tuple #[.slice none 0 0, .int .i64 E])) (hw : w = w') : Ans L E w e w' := by
  subst hL he hw; exact Ans.none_ _ _

theorem splice_all {α : Type} (Z X : List α) (h : Z.length = X.length) : splice Z 0 X = X := by
  unfold splice; simp [h]

end Go.Proofs.Ytlaandbaaepamaa
