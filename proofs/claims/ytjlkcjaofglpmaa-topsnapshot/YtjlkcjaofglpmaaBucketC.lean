
/-
  Walks: bucket.Packets, the document's Queue.
-/
import Derived.Test.YtjlkcjaofglpmaaBucketP
namespace Go.Proofs.Ytjlkcjaofglpmaa
set_option linter.all false
open Go.RowKit Go.Shelf

theorem pkE_bad {q : Pk} {b : Int} (h : (q.flow < 0 ∨ 7 < q.flow) ∨ (q.size < 1 ∨ 1000 < q.size) ∨ (q.at_ < 0 ∨ 200 < q.at_)) : pkE q b = 1 := if_pos h
end Go.Proofs.Ytjlkcjaofglpmaa
