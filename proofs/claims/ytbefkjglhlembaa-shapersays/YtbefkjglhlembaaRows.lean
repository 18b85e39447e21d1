/-
  No cell of these rows narrows 'for every input' (looked for: loops, veiled, ifaces, maps, wideKeys, modest, calm, conditions, laid).
  DERIVED. THE GIVEN ROWS OF THIS SEAT. 9 by the template 'for every input the law returns true; each argument reads behind the call as it read before'; 0 by the template 'total and deterministic' (their statements: YtbefkjglhlembaaTotals.lean).
  GIVEN WITH THE SEED: the statements are not yours to turn. If you find one false, say at which input.
  Laid BY PROGRAM, IN A SANDBOX (cutbox-rows.mjs): the forced cells as the released guide's own fill.sh prints them over the translation 77c8a64defff8af4… (all of the seat's roots in one cut). By AI agents, Wed Nov 11 2026. No macro, syntax, notation, axiom, sorry.
-/
import Derived.Test.YtbefkjglhlembaaChecked
import GoSem.Claim
import GoSem.ClaimJoined
import GoSem.ClaimMapViews
import Derived.JoinedTies
import Derived.KernelRfl
namespace Go.Proofs.Ytbefkjglhlembaa
/- THE CELL 'sum', in the pinned program and in every row, IS THE sha256 OF THE DUMP (.gsa) THAT YtbefkjglhlembaaProg.lean LOADS. Nothing in Lean hashes anything: it is a label: what it is worth is what the hold of that sum in a sandbox is worth. -/
noncomputable def Try.pinned : Pinned := { name := "ytbefkjglhlembaa", sum := "77c8a64defff8af4c900e6712527673c9ce0ae30dc5710268cd743d1c652e300", checked := Try.checked }
namespace Rows
def none {H : Type} : Left H := { results := [], args := [] }

/-- 'headlaw.ShaperSays': WHATEVER THE INPUT: true; the input reads as it did. -/
def shaperSaysSpec : ChangeSpec := { name := "shaperSays", fn := fun _ => fun
  | [d1, d2] => { results := [.lit (.bool true)], args := [d1, d2] }
  | _ => none }
def shaperSaysRow : OpenClaim := { program := "ytbefkjglhlembaa", sum := "77c8a64defff8af4c900e6712527673c9ce0ae30dc5710268cd743d1c652e300", func := "headway/headlaw.ShaperSays", spec := "shaperSays", unfollowed := true, recurses := true, apart := false }
def ShaperSaysSaid : Prop := shaperSaysRow.holds Try.pinned (OpenSpec.ofChange shaperSaysSpec)

/-- ITS FALSE NEIGHBOUR: 'it returns false'. Refute it at one input. -/
def shaperSaysWrong : ChangeSpec := { name := "shaperSays", fn := fun _ => fun
  | [d1, d2] => { results := [.lit (.bool false)], args := [d1, d2] }
  | _ => none }
def ShaperSaysWrongFalsely : Prop := shaperSaysRow.holds Try.pinned (OpenSpec.ofChange shaperSaysWrong)

/-- 'headlaw.BucketMoves': WHATEVER THE INPUT: true; the input reads as it did. -/
def bucketMovesSpec : ChangeSpec := { name := "bucketMoves", fn := fun _ => fun
  | [d1, d2] => { results := [.lit (.bool true)], args := [d1, d2] }
  | _ => none }
def bucketMovesRow : OpenClaim := { program := "ytbefkjglhlembaa", sum := "77c8a64defff8af4c900e6712527673c9ce0ae30dc5710268cd743d1c652e300", func := "headway/headlaw.BucketMoves", spec := "bucketMoves", apart := false }
def BucketMovesSaid : Prop := bucketMovesRow.holds Try.pinned (OpenSpec.ofChange bucketMovesSpec)

/-- ITS FALSE NEIGHBOUR: 'it returns false'. Refute it at one input. -/
def bucketMovesWrong : ChangeSpec := { name := "bucketMoves", fn := fun _ => fun
  | [d1, d2] => { results := [.lit (.bool false)], args := [d1, d2] }
  | _ => none }
def BucketMovesWrongFalsely : Prop := bucketMovesRow.holds Try.pinned (OpenSpec.ofChange bucketMovesWrong)

/-- 'headlaw.BucketRuns': WHATEVER THE INPUT: true; the input reads as it did. -/
def bucketRunsSpec : ChangeSpec := { name := "bucketRuns", fn := fun _ => fun
  | [d1, d2] => { results := [.lit (.bool true)], args := [d1, d2] }
  | _ => none }
def bucketRunsRow : OpenClaim := { program := "ytbefkjglhlembaa", sum := "77c8a64defff8af4c900e6712527673c9ce0ae30dc5710268cd743d1c652e300", func := "headway/headlaw.BucketRuns", spec := "bucketRuns", apart := false }
def BucketRunsSaid : Prop := bucketRunsRow.holds Try.pinned (OpenSpec.ofChange bucketRunsSpec)

/-- ITS FALSE NEIGHBOUR: 'it returns false'. Refute it at one input. -/
def bucketRunsWrong : ChangeSpec := { name := "bucketRuns", fn := fun _ => fun
  | [d1, d2] => { results := [.lit (.bool false)], args := [d1, d2] }
  | _ => none }
def BucketRunsWrongFalsely : Prop := bucketRunsRow.holds Try.pinned (OpenSpec.ofChange bucketRunsWrong)

/-- 'headkeep.ShaperMost': WHATEVER THE INPUT: true; the input reads as it did. -/
def shaperMostSpec : ChangeSpec := { name := "shaperMost", fn := fun _ => fun
  | [d1, d2, d3] => { results := [.lit (.bool true)], args := [d1, d2, d3] }
  | _ => none }
def shaperMostRow : OpenClaim := { program := "ytbefkjglhlembaa", sum := "77c8a64defff8af4c900e6712527673c9ce0ae30dc5710268cd743d1c652e300", func := "headway/headkeep.ShaperMost", spec := "shaperMost", unfollowed := true, recurses := true, apart := false }
def ShaperMostSaid : Prop := shaperMostRow.holds Try.pinned (OpenSpec.ofChange shaperMostSpec)

/-- ITS FALSE NEIGHBOUR: 'it returns false'. Refute it at one input. -/
def shaperMostWrong : ChangeSpec := { name := "shaperMost", fn := fun _ => fun
  | [d1, d2, d3] => { results := [.lit (.bool false)], args := [d1, d2, d3] }
  | _ => none }
def ShaperMostWrongFalsely : Prop := shaperMostRow.holds Try.pinned (OpenSpec.ofChange shaperMostWrong)

/-- 'headkeep.ShaperTwice': WHATEVER THE INPUT: true; the input reads as it did. -/
def shaperTwiceSpec : ChangeSpec := { name := "shaperTwice", fn := fun _ => fun
  | [d1, d2] => { results := [.lit (.bool true)], args := [d1, d2] }
  | _ => none }
def shaperTwiceRow : OpenClaim := { program := "ytbefkjglhlembaa", sum := "77c8a64defff8af4c900e6712527673c9ce0ae30dc5710268cd743d1c652e300", func := "headway/headkeep.ShaperTwice", spec := "shaperTwice", unfollowed := true, recurses := true, apart := false }
def ShaperTwiceSaid : Prop := shaperTwiceRow.holds Try.pinned (OpenSpec.ofChange shaperTwiceSpec)

/-- ITS FALSE NEIGHBOUR: 'it returns false'. Refute it at one input. -/
def shaperTwiceWrong : ChangeSpec := { name := "shaperTwice", fn := fun _ => fun
  | [d1, d2] => { results := [.lit (.bool false)], args := [d1, d2] }
  | _ => none }
def ShaperTwiceWrongFalsely : Prop := shaperTwiceRow.holds Try.pinned (OpenSpec.ofChange shaperTwiceWrong)

/-- 'headkeep.ShaperTwo': WHATEVER THE INPUT: true; the input reads as it did. -/
def shaperTwoSpec : ChangeSpec := { name := "shaperTwo", fn := fun _ => fun
  | [d1, d2, d3] => { results := [.lit (.bool true)], args := [d1, d2, d3] }
  | _ => none }
def shaperTwoRow : OpenClaim := { program := "ytbefkjglhlembaa", sum := "77c8a64defff8af4c900e6712527673c9ce0ae30dc5710268cd743d1c652e300", func := "headway/headkeep.ShaperTwo", spec := "shaperTwo", unfollowed := true, recurses := true, apart := false }
def ShaperTwoSaid : Prop := shaperTwoRow.holds Try.pinned (OpenSpec.ofChange shaperTwoSpec)

/-- ITS FALSE NEIGHBOUR: 'it returns false'. Refute it at one input. -/
def shaperTwoWrong : ChangeSpec := { name := "shaperTwo", fn := fun _ => fun
  | [d1, d2, d3] => { results := [.lit (.bool false)], args := [d1, d2, d3] }
  | _ => none }
def ShaperTwoWrongFalsely : Prop := shaperTwoRow.holds Try.pinned (OpenSpec.ofChange shaperTwoWrong)

/-- 'headkeep.BucketFits': WHATEVER THE INPUT: true; the input reads as it did. -/
def bucketFitsSpec : ChangeSpec := { name := "bucketFits", fn := fun _ => fun
  | [d1, d2] => { results := [.lit (.bool true)], args := [d1, d2] }
  | _ => none }
def bucketFitsRow : OpenClaim := { program := "ytbefkjglhlembaa", sum := "77c8a64defff8af4c900e6712527673c9ce0ae30dc5710268cd743d1c652e300", func := "headway/headkeep.BucketFits", spec := "bucketFits", apart := false }
def BucketFitsSaid : Prop := bucketFitsRow.holds Try.pinned (OpenSpec.ofChange bucketFitsSpec)

/-- ITS FALSE NEIGHBOUR: 'it returns false'. Refute it at one input. -/
def bucketFitsWrong : ChangeSpec := { name := "bucketFits", fn := fun _ => fun
  | [d1, d2] => { results := [.lit (.bool false)], args := [d1, d2] }
  | _ => none }
def BucketFitsWrongFalsely : Prop := bucketFitsRow.holds Try.pinned (OpenSpec.ofChange bucketFitsWrong)

/-- 'headkeep.BucketAll': WHATEVER THE INPUT: true; the input reads as it did. -/
def bucketAllSpec : ChangeSpec := { name := "bucketAll", fn := fun _ => fun
  | [d1, d2, d3] => { results := [.lit (.bool true)], args := [d1, d2, d3] }
  | _ => none }
def bucketAllRow : OpenClaim := { program := "ytbefkjglhlembaa", sum := "77c8a64defff8af4c900e6712527673c9ce0ae30dc5710268cd743d1c652e300", func := "headway/headkeep.BucketAll", spec := "bucketAll", apart := false }
def BucketAllSaid : Prop := bucketAllRow.holds Try.pinned (OpenSpec.ofChange bucketAllSpec)

/-- ITS FALSE NEIGHBOUR: 'it returns false'. Refute it at one input. -/
def bucketAllWrong : ChangeSpec := { name := "bucketAll", fn := fun _ => fun
  | [d1, d2, d3] => { results := [.lit (.bool false)], args := [d1, d2, d3] }
  | _ => none }
def BucketAllWrongFalsely : Prop := bucketAllRow.holds Try.pinned (OpenSpec.ofChange bucketAllWrong)

/-- 'headkeep.BucketParts': WHATEVER THE INPUT: true; the input reads as it did. -/
def bucketPartsSpec : ChangeSpec := { name := "bucketParts", fn := fun _ => fun
  | [d1, d2, d3] => { results := [.lit (.bool true)], args := [d1, d2, d3] }
  | _ => none }
def bucketPartsRow : OpenClaim := { program := "ytbefkjglhlembaa", sum := "77c8a64defff8af4c900e6712527673c9ce0ae30dc5710268cd743d1c652e300", func := "headway/headkeep.BucketParts", spec := "bucketParts", apart := false }
def BucketPartsSaid : Prop := bucketPartsRow.holds Try.pinned (OpenSpec.ofChange bucketPartsSpec)

/-- ITS FALSE NEIGHBOUR: 'it returns false'. Refute it at one input. -/
def bucketPartsWrong : ChangeSpec := { name := "bucketParts", fn := fun _ => fun
  | [d1, d2, d3] => { results := [.lit (.bool false)], args := [d1, d2, d3] }
  | _ => none }
def BucketPartsWrongFalsely : Prop := bucketPartsRow.holds Try.pinned (OpenSpec.ofChange bucketPartsWrong)

/- THE SECOND FORM. 'bulk': how many values and letters a reading holds, each counted each time it is reached (what is shared counts as often as it is met; a slice's spare places count too). A statement '..UptoSaid' is the law's where the arguments, and the package variables that the reading takes, are together of bulk at most 1048576: NARROWER than '..Said'. Prove '..Said' where nothing that the law and all that it calls make is longer than what came in: it says more and counts as full. Else prove '..UptoSaid'. A law counts once. -/
mutual
def uptoBulk {H : Type} : DataW H → Nat
  | .lit (.string bytes) => bytes.length + 1
  | .lit _ => 1
  | .nil => 1
  | .ptr d => uptoBulk d + 1
  | .slice elems spare => uptoBulkAll elems + uptoBulkAll spare + 1
  | .agg parts => uptoBulkAll parts + 1
  | .iface _ d => uptoBulk d + 1
  | .map entries => uptoBulkEntries entries + 1
  | .held _ => 1
def uptoBulkAll {H : Type} : List (DataW H) → Nat
  | [] => 0
  | d :: r => uptoBulk d + uptoBulkAll r
def uptoBulkEntries {H : Type} : List (Lit × DataW H) → Nat
  | [] => 0
  | x :: r => uptoBulkEntry x + uptoBulkEntries r
def uptoBulkEntry {H : Type} : Lit × DataW H → Nat
  | (.string bytes, d) => bytes.length + uptoBulk d + 1
  | (_, d) => uptoBulk d + 1
 end
def uptoSmall : (H : Type) → List (DataW H) → Bool := fun _ ds => decide (uptoBulkAll ds ≤ 1048576)
def OpenSpec.upto (s : _root_.Go.ChangeSpec) : _root_.Go.OpenSpec := { _root_.Go.OpenSpec.ofChange s with cond := some uptoSmall }

/-- 'headlaw.ShaperSays', WHERE WHAT IT READS IS OF BULK AT MOST 1048576: true; the input reads as it did. -/
def shaperSaysUptoRow : OpenClaim := { program := "ytbefkjglhlembaa", sum := "77c8a64defff8af4c900e6712527673c9ce0ae30dc5710268cd743d1c652e300", func := "headway/headlaw.ShaperSays", spec := "shaperSays", unfollowed := true, recurses := true, apart := false, narrowed := true }
def ShaperSaysUptoSaid : Prop := shaperSaysUptoRow.holds Try.pinned (OpenSpec.upto shaperSaysSpec)

/-- 'headlaw.BucketMoves', WHERE WHAT IT READS IS OF BULK AT MOST 1048576: true; the input reads as it did. -/
def bucketMovesUptoRow : OpenClaim := { program := "ytbefkjglhlembaa", sum := "77c8a64defff8af4c900e6712527673c9ce0ae30dc5710268cd743d1c652e300", func := "headway/headlaw.BucketMoves", spec := "bucketMoves", apart := false, narrowed := true }
def BucketMovesUptoSaid : Prop := bucketMovesUptoRow.holds Try.pinned (OpenSpec.upto bucketMovesSpec)

/-- 'headlaw.BucketRuns', WHERE WHAT IT READS IS OF BULK AT MOST 1048576: true; the input reads as it did. -/
def bucketRunsUptoRow : OpenClaim := { program := "ytbefkjglhlembaa", sum := "77c8a64defff8af4c900e6712527673c9ce0ae30dc5710268cd743d1c652e300", func := "headway/headlaw.BucketRuns", spec := "bucketRuns", apart := false, narrowed := true }
def BucketRunsUptoSaid : Prop := bucketRunsUptoRow.holds Try.pinned (OpenSpec.upto bucketRunsSpec)

/-- 'headkeep.ShaperMost', WHERE WHAT IT READS IS OF BULK AT MOST 1048576: true; the input reads as it did. -/
def shaperMostUptoRow : OpenClaim := { program := "ytbefkjglhlembaa", sum := "77c8a64defff8af4c900e6712527673c9ce0ae30dc5710268cd743d1c652e300", func := "headway/headkeep.ShaperMost", spec := "shaperMost", unfollowed := true, recurses := true, apart := false, narrowed := true }
def ShaperMostUptoSaid : Prop := shaperMostUptoRow.holds Try.pinned (OpenSpec.upto shaperMostSpec)

/-- 'headkeep.ShaperTwice', WHERE WHAT IT READS IS OF BULK AT MOST 1048576: true; the input reads as it did. -/
def shaperTwiceUptoRow : OpenClaim := { program := "ytbefkjglhlembaa", sum := "77c8a64defff8af4c900e6712527673c9ce0ae30dc5710268cd743d1c652e300", func := "headway/headkeep.ShaperTwice", spec := "shaperTwice", unfollowed := true, recurses := true, apart := false, narrowed := true }
def ShaperTwiceUptoSaid : Prop := shaperTwiceUptoRow.holds Try.pinned (OpenSpec.upto shaperTwiceSpec)

/-- 'headkeep.ShaperTwo', WHERE WHAT IT READS IS OF BULK AT MOST 1048576: true; the input reads as it did. -/
def shaperTwoUptoRow : OpenClaim := { program := "ytbefkjglhlembaa", sum := "77c8a64defff8af4c900e6712527673c9ce0ae30dc5710268cd743d1c652e300", func := "headway/headkeep.ShaperTwo", spec := "shaperTwo", unfollowed := true, recurses := true, apart := false, narrowed := true }
def ShaperTwoUptoSaid : Prop := shaperTwoUptoRow.holds Try.pinned (OpenSpec.upto shaperTwoSpec)

/-- 'headkeep.BucketFits', WHERE WHAT IT READS IS OF BULK AT MOST 1048576: true; the input reads as it did. -/
def bucketFitsUptoRow : OpenClaim := { program := "ytbefkjglhlembaa", sum := "77c8a64defff8af4c900e6712527673c9ce0ae30dc5710268cd743d1c652e300", func := "headway/headkeep.BucketFits", spec := "bucketFits", apart := false, narrowed := true }
def BucketFitsUptoSaid : Prop := bucketFitsUptoRow.holds Try.pinned (OpenSpec.upto bucketFitsSpec)

/-- 'headkeep.BucketAll', WHERE WHAT IT READS IS OF BULK AT MOST 1048576: true; the input reads as it did. -/
def bucketAllUptoRow : OpenClaim := { program := "ytbefkjglhlembaa", sum := "77c8a64defff8af4c900e6712527673c9ce0ae30dc5710268cd743d1c652e300", func := "headway/headkeep.BucketAll", spec := "bucketAll", apart := false, narrowed := true }
def BucketAllUptoSaid : Prop := bucketAllUptoRow.holds Try.pinned (OpenSpec.upto bucketAllSpec)

/-- 'headkeep.BucketParts', WHERE WHAT IT READS IS OF BULK AT MOST 1048576: true; the input reads as it did. -/
def bucketPartsUptoRow : OpenClaim := { program := "ytbefkjglhlembaa", sum := "77c8a64defff8af4c900e6712527673c9ce0ae30dc5710268cd743d1c652e300", func := "headway/headkeep.BucketParts", spec := "bucketParts", apart := false, narrowed := true }
def BucketPartsUptoSaid : Prop := bucketPartsUptoRow.holds Try.pinned (OpenSpec.upto bucketPartsSpec)

end Rows
end Go.Proofs.Ytbefkjglhlembaa
