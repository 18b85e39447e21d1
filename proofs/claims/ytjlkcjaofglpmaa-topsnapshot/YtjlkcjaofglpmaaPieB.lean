
/-
  The document's own pieces and stages: headref.Whole, Pieces, Stage, SameStage.
-/
import Derived.Test.YtjlkcjaofglpmaaPieA
import Derived.Test.YtjlkcjaofglpmaaWinZ
import Derived.Test.YtjlkcjaofglpmaaBucketA
import Derived.Deep.RegionHeld3
import Derived.Deep.DeepCutAuto
namespace Go.Proofs.Ytjlkcjaofglpmaa
set_option linter.all false
open Go.RowKit Go.Shelf Go.Lib

theorem pc_left {s u R : Int} (v : WhOk s u) {i : Nat} (hi : i ≤ pcN s u) (h : R = s - pcS s u i) : (0 < R ↔ i < pcN s u) ∧ (i < pcN s u → pcV s u i = min u R) ∧ 0 ≤ R ∧ R ≤ 1000000 := by
  have a := pc_sum v.s0 v.u0 i hi
  have b := pcn_iff v.s0 v.u0 (i := i)
  have c := v.s1
  have d := v.s0
  have e : 0 ≤ u * (i : Int) := Int.mul_nonneg (by have := v.u0; omega) (by omega)
  rw [a] at h
  refine ⟨⟨fun k => b.mpr (by omega), fun k => by have := b.mp k; omega⟩, fun k => ?_, by omega, by omega⟩
  have := b.mp k
  unfold pcV
  rw [h, show min s (u * (i : Int)) = u * (i : Int) by omega]
end Go.Proofs.Ytjlkcjaofglpmaa
