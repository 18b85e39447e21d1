/-
  No cell of these rows narrows 'for every input' (looked for: loops, veiled, ifaces, maps, wideKeys, modest, calm, conditions, laid).
  DERIVED. THE GIVEN ROWS OF THIS SEAT. 6 by the template 'for every input the law returns true; each argument reads behind the call as it read before'; 0 by the template 'total and deterministic' (their statements: YtmejapenidociaaTotals.lean).
  GIVEN WITH THE SEED: the statements are not yours to turn. If you find one false, say at which input.
  Laid BY PROGRAM, IN A SANDBOX (cutbox-rows.mjs): the forced cells as the released guide's own fill.sh prints them over the translation 8cf99a20c698042b… (all of the seat's roots in one cut). By AI agents, Wed Nov 11 2026. No macro, syntax, notation, axiom, sorry.
-/
import Derived.Test.YtmejapenidociaaChecked
import GoSem.Claim
import GoSem.ClaimJoined
import GoSem.ClaimMapViews
import Derived.JoinedTies
import Derived.KernelRfl
namespace Go.Proofs.Ytmejapenidociaa
/- THE CELL 'sum', in the pinned program and in every row, IS THE sha256 OF THE DUMP (.gsa) THAT YtmejapenidociaaProg.lean LOADS. Nothing in Lean hashes anything: it is a label: what it is worth is what the hold of that sum in a sandbox is worth. -/
noncomputable def Try.pinned : Pinned := { name := "ytmejapenidociaa", sum := "8cf99a20c698042b0d8c478c96675596f50c7832ebe6650ff9d624b09ec9dfb3", checked := Try.checked }
namespace Rows
def none {H : Type} : Left H := { results := [], args := [] }

/-- 'headlaw.FifoSays': WHATEVER THE INPUT: true; the input reads as it did. -/
def fifoSaysSpec : ChangeSpec := { name := "fifoSays", fn := fun _ => fun
  | [d1, d2] => { results := [.lit (.bool true)], args := [d1, d2] }
  | _ => none }
def fifoSaysRow : OpenClaim := { program := "ytmejapenidociaa", sum := "8cf99a20c698042b0d8c478c96675596f50c7832ebe6650ff9d624b09ec9dfb3", func := "headway/headlaw.FifoSays", spec := "fifoSays", apart := false }
def FifoSaysSaid : Prop := fifoSaysRow.holds Try.pinned (OpenSpec.ofChange fifoSaysSpec)

/-- ITS FALSE NEIGHBOUR: 'it returns false'. Refute it at one input. -/
def fifoSaysWrong : ChangeSpec := { name := "fifoSays", fn := fun _ => fun
  | [d1, d2] => { results := [.lit (.bool false)], args := [d1, d2] }
  | _ => none }
def FifoSaysWrongFalsely : Prop := fifoSaysRow.holds Try.pinned (OpenSpec.ofChange fifoSaysWrong)

/-- 'headkeep.FifoLittle': WHATEVER THE INPUT: true; the input reads as it did. -/
def fifoLittleSpec : ChangeSpec := { name := "fifoLittle", fn := fun _ => fun
  | [d] => { results := [.lit (.bool true)], args := [d] }
  | _ => none }
def fifoLittleRow : OpenClaim := { program := "ytmejapenidociaa", sum := "8cf99a20c698042b0d8c478c96675596f50c7832ebe6650ff9d624b09ec9dfb3", func := "headway/headkeep.FifoLittle", spec := "fifoLittle", recurses := true, apart := false }
def FifoLittleSaid : Prop := fifoLittleRow.holds Try.pinned (OpenSpec.ofChange fifoLittleSpec)

/-- ITS FALSE NEIGHBOUR: 'it returns false'. Refute it at one input. -/
def fifoLittleWrong : ChangeSpec := { name := "fifoLittle", fn := fun _ => fun
  | [d] => { results := [.lit (.bool false)], args := [d] }
  | _ => none }
def FifoLittleWrongFalsely : Prop := fifoLittleRow.holds Try.pinned (OpenSpec.ofChange fifoLittleWrong)

/-- 'headkeep.FifoOrders': WHATEVER THE INPUT: true; the input reads as it did. -/
def fifoOrdersSpec : ChangeSpec := { name := "fifoOrders", fn := fun _ => fun
  | [d] => { results := [.lit (.bool true)], args := [d] }
  | _ => none }
def fifoOrdersRow : OpenClaim := { program := "ytmejapenidociaa", sum := "8cf99a20c698042b0d8c478c96675596f50c7832ebe6650ff9d624b09ec9dfb3", func := "headway/headkeep.FifoOrders", spec := "fifoOrders", apart := false }
def FifoOrdersSaid : Prop := fifoOrdersRow.holds Try.pinned (OpenSpec.ofChange fifoOrdersSpec)

/-- ITS FALSE NEIGHBOUR: 'it returns false'. Refute it at one input. -/
def fifoOrdersWrong : ChangeSpec := { name := "fifoOrders", fn := fun _ => fun
  | [d] => { results := [.lit (.bool false)], args := [d] }
  | _ => none }
def FifoOrdersWrongFalsely : Prop := fifoOrdersRow.holds Try.pinned (OpenSpec.ofChange fifoOrdersWrong)

/-- 'headkeep.FifoMore': WHATEVER THE INPUT: true; the input reads as it did. -/
def fifoMoreSpec : ChangeSpec := { name := "fifoMore", fn := fun _ => fun
  | [d1, d2, d3] => { results := [.lit (.bool true)], args := [d1, d2, d3] }
  | _ => none }
def fifoMoreRow : OpenClaim := { program := "ytmejapenidociaa", sum := "8cf99a20c698042b0d8c478c96675596f50c7832ebe6650ff9d624b09ec9dfb3", func := "headway/headkeep.FifoMore", spec := "fifoMore", apart := false }
def FifoMoreSaid : Prop := fifoMoreRow.holds Try.pinned (OpenSpec.ofChange fifoMoreSpec)

/-- ITS FALSE NEIGHBOUR: 'it returns false'. Refute it at one input. -/
def fifoMoreWrong : ChangeSpec := { name := "fifoMore", fn := fun _ => fun
  | [d1, d2, d3] => { results := [.lit (.bool false)], args := [d1, d2, d3] }
  | _ => none }
def FifoMoreWrongFalsely : Prop := fifoMoreRow.holds Try.pinned (OpenSpec.ofChange fifoMoreWrong)

/-- 'headkeep.FifoShift': WHATEVER THE INPUT: true; the input reads as it did. -/
def fifoShiftSpec : ChangeSpec := { name := "fifoShift", fn := fun _ => fun
  | [d1, d2, d3] => { results := [.lit (.bool true)], args := [d1, d2, d3] }
  | _ => none }
def fifoShiftRow : OpenClaim := { program := "ytmejapenidociaa", sum := "8cf99a20c698042b0d8c478c96675596f50c7832ebe6650ff9d624b09ec9dfb3", func := "headway/headkeep.FifoShift", spec := "fifoShift", apart := false }
def FifoShiftSaid : Prop := fifoShiftRow.holds Try.pinned (OpenSpec.ofChange fifoShiftSpec)

/-- ITS FALSE NEIGHBOUR: 'it returns false'. Refute it at one input. -/
def fifoShiftWrong : ChangeSpec := { name := "fifoShift", fn := fun _ => fun
  | [d1, d2, d3] => { results := [.lit (.bool false)], args := [d1, d2, d3] }
  | _ => none }
def FifoShiftWrongFalsely : Prop := fifoShiftRow.holds Try.pinned (OpenSpec.ofChange fifoShiftWrong)

/-- 'headtop.TopBucket': WHATEVER THE INPUT: true; the input reads as it did. -/
def topBucketSpec : ChangeSpec := { name := "topBucket", fn := fun _ => fun
  | [d1, d2, d3] => { results := [.lit (.bool true)], args := [d1, d2, d3] }
  | _ => none }
def topBucketRow : OpenClaim := { program := "ytmejapenidociaa", sum := "8cf99a20c698042b0d8c478c96675596f50c7832ebe6650ff9d624b09ec9dfb3", func := "headway/headtop.TopBucket", spec := "topBucket", unfollowed := true, recurses := true, apart := false }
def TopBucketSaid : Prop := topBucketRow.holds Try.pinned (OpenSpec.ofChange topBucketSpec)

/-- ITS FALSE NEIGHBOUR: 'it returns false'. Refute it at one input. -/
def topBucketWrong : ChangeSpec := { name := "topBucket", fn := fun _ => fun
  | [d1, d2, d3] => { results := [.lit (.bool false)], args := [d1, d2, d3] }
  | _ => none }
def TopBucketWrongFalsely : Prop := topBucketRow.holds Try.pinned (OpenSpec.ofChange topBucketWrong)

/- THE SECOND FORM. 'bulk': how many values and letters a reading holds, each counted each time it is reached (what is shared counts as often as it is met; a slice's spare places count too). A statement '..UptoSaid' is the law's where the arguments, and the package variables that the reading takes, are together of bulk at most 1048576: NARROWER than '..Said'. Prove '..Said' where nothing that the law and all that it calls make is longer than what came in: it says more and counts as full. Else prove '..UptoSaid'. A law counts once. -/
mutual
def uptoBulk {H : Type} : DataW H → Nat
  | .lit (.string bytes) => bytes.length + 1
  | .lit _ => 1
  | .nil => 1
  | .ptr d => uptoBulk d + 1
  | .slice elems spare => uptoBulkAll elems + uptoBulkAll spare + 1
  | .agg parts => uptoBulkAll parts + 1
  | .iface _ d => uptoBulk d + 1
  | .map entries => uptoBulkEntries entries + 1
  | .held _ => 1
def uptoBulkAll {H : Type} : List (DataW H) → Nat
  | [] => 0
  | d :: r => uptoBulk d + uptoBulkAll r
def uptoBulkEntries {H : Type} : List (Lit × DataW H) → Nat
  | [] => 0
  | x :: r => uptoBulkEntry x + uptoBulkEntries r
def uptoBulkEntry {H : Type} : Lit × DataW H → Nat
  | (.string bytes, d) => bytes.length + uptoBulk d + 1
  | (_, d) => uptoBulk d + 1
 end
def uptoSmall : (H : Type) → List (DataW H) → Bool := fun _ ds => decide (uptoBulkAll ds ≤ 1048576)
def OpenSpec.upto (s : _root_.Go.ChangeSpec) : _root_.Go.OpenSpec := { _root_.Go.OpenSpec.ofChange s with cond := some uptoSmall }

/-- 'headlaw.FifoSays', WHERE WHAT IT READS IS OF BULK AT MOST 1048576: true; the input reads as it did. -/
def fifoSaysUptoRow : OpenClaim := { program := "ytmejapenidociaa", sum := "8cf99a20c698042b0d8c478c96675596f50c7832ebe6650ff9d624b09ec9dfb3", func := "headway/headlaw.FifoSays", spec := "fifoSays", apart := false, narrowed := true }
def FifoSaysUptoSaid : Prop := fifoSaysUptoRow.holds Try.pinned (OpenSpec.upto fifoSaysSpec)

/-- 'headkeep.FifoLittle', WHERE WHAT IT READS IS OF BULK AT MOST 1048576: true; the input reads as it did. -/
def fifoLittleUptoRow : OpenClaim := { program := "ytmejapenidociaa", sum := "8cf99a20c698042b0d8c478c96675596f50c7832ebe6650ff9d624b09ec9dfb3", func := "headway/headkeep.FifoLittle", spec := "fifoLittle", recurses := true, apart := false, narrowed := true }
def FifoLittleUptoSaid : Prop := fifoLittleUptoRow.holds Try.pinned (OpenSpec.upto fifoLittleSpec)

/-- 'headkeep.FifoOrders', WHERE WHAT IT READS IS OF BULK AT MOST 1048576: true; the input reads as it did. -/
def fifoOrdersUptoRow : OpenClaim := { program := "ytmejapenidociaa", sum := "8cf99a20c698042b0d8c478c96675596f50c7832ebe6650ff9d624b09ec9dfb3", func := "headway/headkeep.FifoOrders", spec := "fifoOrders", apart := false, narrowed := true }
def FifoOrdersUptoSaid : Prop := fifoOrdersUptoRow.holds Try.pinned (OpenSpec.upto fifoOrdersSpec)

/-- 'headkeep.FifoMore', WHERE WHAT IT READS IS OF BULK AT MOST 1048576: true; the input reads as it did. -/
def fifoMoreUptoRow : OpenClaim := { program := "ytmejapenidociaa", sum := "8cf99a20c698042b0d8c478c96675596f50c7832ebe6650ff9d624b09ec9dfb3", func := "headway/headkeep.FifoMore", spec := "fifoMore", apart := false, narrowed := true }
def FifoMoreUptoSaid : Prop := fifoMoreUptoRow.holds Try.pinned (OpenSpec.upto fifoMoreSpec)

/-- 'headkeep.FifoShift', WHERE WHAT IT READS IS OF BULK AT MOST 1048576: true; the input reads as it did. -/
def fifoShiftUptoRow : OpenClaim := { program := "ytmejapenidociaa", sum := "8cf99a20c698042b0d8c478c96675596f50c7832ebe6650ff9d624b09ec9dfb3", func := "headway/headkeep.FifoShift", spec := "fifoShift", apart := false, narrowed := true }
def FifoShiftUptoSaid : Prop := fifoShiftUptoRow.holds Try.pinned (OpenSpec.upto fifoShiftSpec)

/-- 'headtop.TopBucket', WHERE WHAT IT READS IS OF BULK AT MOST 1048576: true; the input reads as it did. -/
def topBucketUptoRow : OpenClaim := { program := "ytmejapenidociaa", sum := "8cf99a20c698042b0d8c478c96675596f50c7832ebe6650ff9d624b09ec9dfb3", func := "headway/headtop.TopBucket", spec := "topBucket", unfollowed := true, recurses := true, apart := false, narrowed := true }
def TopBucketUptoSaid : Prop := topBucketUptoRow.holds Try.pinned (OpenSpec.upto topBucketSpec)

end Rows
end Go.Proofs.Ytmejapenidociaa
