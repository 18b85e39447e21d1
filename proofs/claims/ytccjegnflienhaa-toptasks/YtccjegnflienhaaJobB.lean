
/-
  Walks: the document's own look at jobs; its demand between all times.
-/
import Derived.Test.YtccjegnflienhaaJobA
import Derived.Test.YtccjegnflienhaaBucketA
import Derived.Test.YtccjegnflienhaaEdfQ
namespace Go.Proofs.Ytccjegnflienhaa
set_option linter.all false
open Go.RowKit Go.Shelf Go.Lib

theorem any_drop {l : List Jb} {k : Nat} {j : Jb} (h : l[k]? = some j) : (l.drop k).any jbBad = (jbBad j || (l.drop (k + 1)).any jbBad) := by
  have hk := (List.getElem?_eq_some_iff.1 h).1
  rw [List.drop_eq_getElem_cons hk, List.any_cons]
  have : l[k] = j := by rw [List.getElem?_eq_getElem hk] at h; exact Option.some.inj h
  rw [this]
end Go.Proofs.Ytccjegnflienhaa
