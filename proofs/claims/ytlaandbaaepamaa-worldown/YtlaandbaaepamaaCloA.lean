
/-
  Walks: closure.Of, closure.Is, dual.Super; the document's own: by the last piece, pair by pair.
-/
import Derived.Test.YtlaandbaaepamaaConvD
import Derived.Laws.OwnMore
namespace Go.Proofs.Ytlaandbaaepamaa
set_option linter.all false
open Go.RowKit Go.Shelf

theorem clos_bf {l : List Int} (v : Cv l) : ∀ i, i < l.length → 0 ≤ anV min (gt l) i ∧ anV min (gt l) i ≤ 100000000 := fun i hi => by
  have h := v.clos
  have h1 := h.lo i (by rwa [length_clL]); have h2 := h.hi i (by rwa [length_clL])
  rw [gt_clL hi] at h1 h2; unfold clV at h1 h2; omega
theorem super_bf {l : List Int} (v : Cv l) : ∀ i, i < l.length → 0 ≤ anV max (gt l) i ∧ anV max (gt l) i ≤ 100000000 := fun i hi => by
  have h := Nd.super v
  have h1 := h.lo i (by rwa [length_suL]); have h2 := h.hi i (by rwa [length_suL])
  rw [gt_suL hi] at h1 h2; unfold suV at h1 h2; omega

/-- Is the list its own closure? -/
def subB (l : List Int) : Bool := decide (chk l = 0) && eqB l (clL l)

end Go.Proofs.Ytlaandbaaepamaa
