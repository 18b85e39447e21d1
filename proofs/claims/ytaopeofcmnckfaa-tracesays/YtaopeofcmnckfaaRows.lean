/-
  No cell of these rows narrows 'for every input' (looked for: loops, veiled, ifaces, maps, wideKeys, modest, calm, conditions, laid).
  DERIVED. THE GIVEN ROWS OF THIS SEAT. 13 by the template 'for every input the law returns true; each argument reads behind the call as it read before'; 0 by the template 'total and deterministic' (their statements: YtaopeofcmnckfaaTotals.lean).
  GIVEN WITH THE SEED: the statements are not yours to turn. If you find one false, say at which input.
  Laid BY PROGRAM, IN A SANDBOX (cutbox-rows.mjs): the forced cells as the released guide's own fill.sh prints them over the translation b592aa86d4517a50… (all of the seat's roots in one cut). By AI agents, Wed Nov 11 2026. No macro, syntax, notation, axiom, sorry.
-/
import Derived.Test.YtaopeofcmnckfaaChecked
import GoSem.Claim
import GoSem.ClaimJoined
import GoSem.ClaimMapViews
import Derived.JoinedTies
import Derived.KernelRfl
namespace Go.Proofs.Ytaopeofcmnckfaa
/- THE CELL 'sum', in the pinned program and in every row, IS THE sha256 OF THE DUMP (.gsa) THAT YtaopeofcmnckfaaProg.lean LOADS. Nothing in Lean hashes anything: it is a label: what it is worth is what the hold of that sum in a sandbox is worth. -/
noncomputable def Try.pinned : Pinned := { name := "ytaopeofcmnckfaa", sum := "b592aa86d4517a5010f1dc74f10e1f8b1724a98573d7bf0bfafc9fe66abb3e4a", checked := Try.checked }
namespace Rows
def none {H : Type} : Left H := { results := [], args := [] }

/-- 'headlaw.TraceSays': WHATEVER THE INPUT: true; the input reads as it did. -/
def traceSaysSpec : ChangeSpec := { name := "traceSays", fn := fun _ => fun
  | [d1, d2] => { results := [.lit (.bool true)], args := [d1, d2] }
  | _ => none }
def traceSaysRow : OpenClaim := { program := "ytaopeofcmnckfaa", sum := "b592aa86d4517a5010f1dc74f10e1f8b1724a98573d7bf0bfafc9fe66abb3e4a", func := "headway/headlaw.TraceSays", spec := "traceSays", unfollowed := true, recurses := true, apart := false }
def TraceSaysSaid : Prop := traceSaysRow.holds Try.pinned (OpenSpec.ofChange traceSaysSpec)

/-- ITS FALSE NEIGHBOUR: 'it returns false'. Refute it at one input. -/
def traceSaysWrong : ChangeSpec := { name := "traceSays", fn := fun _ => fun
  | [d1, d2] => { results := [.lit (.bool false)], args := [d1, d2] }
  | _ => none }
def TraceSaysWrongFalsely : Prop := traceSaysRow.holds Try.pinned (OpenSpec.ofChange traceSaysWrong)

/-- 'headlaw.TraceTells': WHATEVER THE INPUT: true; the input reads as it did. -/
def traceTellsSpec : ChangeSpec := { name := "traceTells", fn := fun _ => fun
  | [d1, d2] => { results := [.lit (.bool true)], args := [d1, d2] }
  | _ => none }
def traceTellsRow : OpenClaim := { program := "ytaopeofcmnckfaa", sum := "b592aa86d4517a5010f1dc74f10e1f8b1724a98573d7bf0bfafc9fe66abb3e4a", func := "headway/headlaw.TraceTells", spec := "traceTells", apart := false }
def TraceTellsSaid : Prop := traceTellsRow.holds Try.pinned (OpenSpec.ofChange traceTellsSpec)

/-- ITS FALSE NEIGHBOUR: 'it returns false'. Refute it at one input. -/
def traceTellsWrong : ChangeSpec := { name := "traceTells", fn := fun _ => fun
  | [d1, d2] => { results := [.lit (.bool false)], args := [d1, d2] }
  | _ => none }
def TraceTellsWrongFalsely : Prop := traceTellsRow.holds Try.pinned (OpenSpec.ofChange traceTellsWrong)

/-- 'headlaw.BoundSays': WHATEVER THE INPUT: true; the input reads as it did. -/
def boundSaysSpec : ChangeSpec := { name := "boundSays", fn := fun _ => fun
  | [d1, d2] => { results := [.lit (.bool true)], args := [d1, d2] }
  | _ => none }
def boundSaysRow : OpenClaim := { program := "ytaopeofcmnckfaa", sum := "b592aa86d4517a5010f1dc74f10e1f8b1724a98573d7bf0bfafc9fe66abb3e4a", func := "headway/headlaw.BoundSays", spec := "boundSays", unfollowed := true, recurses := true, apart := false }
def BoundSaysSaid : Prop := boundSaysRow.holds Try.pinned (OpenSpec.ofChange boundSaysSpec)

/-- ITS FALSE NEIGHBOUR: 'it returns false'. Refute it at one input. -/
def boundSaysWrong : ChangeSpec := { name := "boundSays", fn := fun _ => fun
  | [d1, d2] => { results := [.lit (.bool false)], args := [d1, d2] }
  | _ => none }
def BoundSaysWrongFalsely : Prop := boundSaysRow.holds Try.pinned (OpenSpec.ofChange boundSaysWrong)

/-- 'headkeep.TraceBack': WHATEVER THE INPUT: true; the input reads as it did. -/
def traceBackSpec : ChangeSpec := { name := "traceBack", fn := fun _ => fun
  | [d1, d2] => { results := [.lit (.bool true)], args := [d1, d2] }
  | _ => none }
def traceBackRow : OpenClaim := { program := "ytaopeofcmnckfaa", sum := "b592aa86d4517a5010f1dc74f10e1f8b1724a98573d7bf0bfafc9fe66abb3e4a", func := "headway/headkeep.TraceBack", spec := "traceBack", apart := false }
def TraceBackSaid : Prop := traceBackRow.holds Try.pinned (OpenSpec.ofChange traceBackSpec)

/-- ITS FALSE NEIGHBOUR: 'it returns false'. Refute it at one input. -/
def traceBackWrong : ChangeSpec := { name := "traceBack", fn := fun _ => fun
  | [d1, d2] => { results := [.lit (.bool false)], args := [d1, d2] }
  | _ => none }
def TraceBackWrongFalsely : Prop := traceBackRow.holds Try.pinned (OpenSpec.ofChange traceBackWrong)

/-- 'headkeep.TraceLeast': WHATEVER THE INPUT: true; the input reads as it did. -/
def traceLeastSpec : ChangeSpec := { name := "traceLeast", fn := fun _ => fun
  | [d1, d2] => { results := [.lit (.bool true)], args := [d1, d2] }
  | _ => none }
def traceLeastRow : OpenClaim := { program := "ytaopeofcmnckfaa", sum := "b592aa86d4517a5010f1dc74f10e1f8b1724a98573d7bf0bfafc9fe66abb3e4a", func := "headway/headkeep.TraceLeast", spec := "traceLeast", unfollowed := true, recurses := true, apart := false }
def TraceLeastSaid : Prop := traceLeastRow.holds Try.pinned (OpenSpec.ofChange traceLeastSpec)

/-- ITS FALSE NEIGHBOUR: 'it returns false'. Refute it at one input. -/
def traceLeastWrong : ChangeSpec := { name := "traceLeast", fn := fun _ => fun
  | [d1, d2] => { results := [.lit (.bool false)], args := [d1, d2] }
  | _ => none }
def TraceLeastWrongFalsely : Prop := traceLeastRow.holds Try.pinned (OpenSpec.ofChange traceLeastWrong)

/-- 'headkeep.TraceConv': WHATEVER THE INPUT: true; the input reads as it did. -/
def traceConvSpec : ChangeSpec := { name := "traceConv", fn := fun _ => fun
  | [d1, d2] => { results := [.lit (.bool true)], args := [d1, d2] }
  | _ => none }
def traceConvRow : OpenClaim := { program := "ytaopeofcmnckfaa", sum := "b592aa86d4517a5010f1dc74f10e1f8b1724a98573d7bf0bfafc9fe66abb3e4a", func := "headway/headkeep.TraceConv", spec := "traceConv", unfollowed := true, recurses := true, apart := false }
def TraceConvSaid : Prop := traceConvRow.holds Try.pinned (OpenSpec.ofChange traceConvSpec)

/-- ITS FALSE NEIGHBOUR: 'it returns false'. Refute it at one input. -/
def traceConvWrong : ChangeSpec := { name := "traceConv", fn := fun _ => fun
  | [d1, d2] => { results := [.lit (.bool false)], args := [d1, d2] }
  | _ => none }
def TraceConvWrongFalsely : Prop := traceConvRow.holds Try.pinned (OpenSpec.ofChange traceConvWrong)

/-- 'headkeep.TraceSums': WHATEVER THE INPUT: true; the input reads as it did. -/
def traceSumsSpec : ChangeSpec := { name := "traceSums", fn := fun _ => fun
  | [d1, d2, d3, d4] => { results := [.lit (.bool true)], args := [d1, d2, d3, d4] }
  | _ => none }
def traceSumsRow : OpenClaim := { program := "ytaopeofcmnckfaa", sum := "b592aa86d4517a5010f1dc74f10e1f8b1724a98573d7bf0bfafc9fe66abb3e4a", func := "headway/headkeep.TraceSums", spec := "traceSums", unfollowed := true, recurses := true, apart := false }
def TraceSumsSaid : Prop := traceSumsRow.holds Try.pinned (OpenSpec.ofChange traceSumsSpec)

/-- ITS FALSE NEIGHBOUR: 'it returns false'. Refute it at one input. -/
def traceSumsWrong : ChangeSpec := { name := "traceSums", fn := fun _ => fun
  | [d1, d2, d3, d4] => { results := [.lit (.bool false)], args := [d1, d2, d3, d4] }
  | _ => none }
def TraceSumsWrongFalsely : Prop := traceSumsRow.holds Try.pinned (OpenSpec.ofChange traceSumsWrong)

/-- 'headkeep.BoundBack': WHATEVER THE INPUT: true; the input reads as it did. -/
def boundBackSpec : ChangeSpec := { name := "boundBack", fn := fun _ => fun
  | [d1, d2, d3, d4] => { results := [.lit (.bool true)], args := [d1, d2, d3, d4] }
  | _ => none }
def boundBackRow : OpenClaim := { program := "ytaopeofcmnckfaa", sum := "b592aa86d4517a5010f1dc74f10e1f8b1724a98573d7bf0bfafc9fe66abb3e4a", func := "headway/headkeep.BoundBack", spec := "boundBack", unfollowed := true, recurses := true, apart := false }
def BoundBackSaid : Prop := boundBackRow.holds Try.pinned (OpenSpec.ofChange boundBackSpec)

/-- ITS FALSE NEIGHBOUR: 'it returns false'. Refute it at one input. -/
def boundBackWrong : ChangeSpec := { name := "boundBack", fn := fun _ => fun
  | [d1, d2, d3, d4] => { results := [.lit (.bool false)], args := [d1, d2, d3, d4] }
  | _ => none }
def BoundBackWrongFalsely : Prop := boundBackRow.holds Try.pinned (OpenSpec.ofChange boundBackWrong)

/-- 'headkeep.BoundDelay': WHATEVER THE INPUT: true; the input reads as it did. -/
def boundDelaySpec : ChangeSpec := { name := "boundDelay", fn := fun _ => fun
  | [d1, d2, d3, d4] => { results := [.lit (.bool true)], args := [d1, d2, d3, d4] }
  | _ => none }
def boundDelayRow : OpenClaim := { program := "ytaopeofcmnckfaa", sum := "b592aa86d4517a5010f1dc74f10e1f8b1724a98573d7bf0bfafc9fe66abb3e4a", func := "headway/headkeep.BoundDelay", spec := "boundDelay", unfollowed := true, recurses := true, apart := false }
def BoundDelaySaid : Prop := boundDelayRow.holds Try.pinned (OpenSpec.ofChange boundDelaySpec)

/-- ITS FALSE NEIGHBOUR: 'it returns false'. Refute it at one input. -/
def boundDelayWrong : ChangeSpec := { name := "boundDelay", fn := fun _ => fun
  | [d1, d2, d3, d4] => { results := [.lit (.bool false)], args := [d1, d2, d3, d4] }
  | _ => none }
def BoundDelayWrongFalsely : Prop := boundDelayRow.holds Try.pinned (OpenSpec.ofChange boundDelayWrong)

/-- 'headkeep.BoundOut': WHATEVER THE INPUT: true; the input reads as it did. -/
def boundOutSpec : ChangeSpec := { name := "boundOut", fn := fun _ => fun
  | [d1, d2, d3, d4] => { results := [.lit (.bool true)], args := [d1, d2, d3, d4] }
  | _ => none }
def boundOutRow : OpenClaim := { program := "ytaopeofcmnckfaa", sum := "b592aa86d4517a5010f1dc74f10e1f8b1724a98573d7bf0bfafc9fe66abb3e4a", func := "headway/headkeep.BoundOut", spec := "boundOut", unfollowed := true, recurses := true, apart := false }
def BoundOutSaid : Prop := boundOutRow.holds Try.pinned (OpenSpec.ofChange boundOutSpec)

/-- ITS FALSE NEIGHBOUR: 'it returns false'. Refute it at one input. -/
def boundOutWrong : ChangeSpec := { name := "boundOut", fn := fun _ => fun
  | [d1, d2, d3, d4] => { results := [.lit (.bool false)], args := [d1, d2, d3, d4] }
  | _ => none }
def BoundOutWrongFalsely : Prop := boundOutRow.holds Try.pinned (OpenSpec.ofChange boundOutWrong)

/-- 'headkeep.BoundGrows': WHATEVER THE INPUT: true; the input reads as it did. -/
def boundGrowsSpec : ChangeSpec := { name := "boundGrows", fn := fun _ => fun
  | [d1, d2, d3] => { results := [.lit (.bool true)], args := [d1, d2, d3] }
  | _ => none }
def boundGrowsRow : OpenClaim := { program := "ytaopeofcmnckfaa", sum := "b592aa86d4517a5010f1dc74f10e1f8b1724a98573d7bf0bfafc9fe66abb3e4a", func := "headway/headkeep.BoundGrows", spec := "boundGrows", unfollowed := true, recurses := true, apart := false }
def BoundGrowsSaid : Prop := boundGrowsRow.holds Try.pinned (OpenSpec.ofChange boundGrowsSpec)

/-- ITS FALSE NEIGHBOUR: 'it returns false'. Refute it at one input. -/
def boundGrowsWrong : ChangeSpec := { name := "boundGrows", fn := fun _ => fun
  | [d1, d2, d3] => { results := [.lit (.bool false)], args := [d1, d2, d3] }
  | _ => none }
def BoundGrowsWrongFalsely : Prop := boundGrowsRow.holds Try.pinned (OpenSpec.ofChange boundGrowsWrong)

/-- 'headkeep.BoundNone': WHATEVER THE INPUT: true; the input reads as it did. -/
def boundNoneSpec : ChangeSpec := { name := "boundNone", fn := fun _ => fun
  | [d1, d2] => { results := [.lit (.bool true)], args := [d1, d2] }
  | _ => none }
def boundNoneRow : OpenClaim := { program := "ytaopeofcmnckfaa", sum := "b592aa86d4517a5010f1dc74f10e1f8b1724a98573d7bf0bfafc9fe66abb3e4a", func := "headway/headkeep.BoundNone", spec := "boundNone", unfollowed := true, recurses := true, apart := false }
def BoundNoneSaid : Prop := boundNoneRow.holds Try.pinned (OpenSpec.ofChange boundNoneSpec)

/-- ITS FALSE NEIGHBOUR: 'it returns false'. Refute it at one input. -/
def boundNoneWrong : ChangeSpec := { name := "boundNone", fn := fun _ => fun
  | [d1, d2] => { results := [.lit (.bool false)], args := [d1, d2] }
  | _ => none }
def BoundNoneWrongFalsely : Prop := boundNoneRow.holds Try.pinned (OpenSpec.ofChange boundNoneWrong)

/-- 'headtop.TopChain': WHATEVER THE INPUT: true; the input reads as it did. -/
def topChainSpec : ChangeSpec := { name := "topChain", fn := fun _ => fun
  | [d1, d2, d3, d4] => { results := [.lit (.bool true)], args := [d1, d2, d3, d4] }
  | _ => none }
def topChainRow : OpenClaim := { program := "ytaopeofcmnckfaa", sum := "b592aa86d4517a5010f1dc74f10e1f8b1724a98573d7bf0bfafc9fe66abb3e4a", func := "headway/headtop.TopChain", spec := "topChain", unfollowed := true, recurses := true, apart := false }
def TopChainSaid : Prop := topChainRow.holds Try.pinned (OpenSpec.ofChange topChainSpec)

/-- ITS FALSE NEIGHBOUR: 'it returns false'. Refute it at one input. -/
def topChainWrong : ChangeSpec := { name := "topChain", fn := fun _ => fun
  | [d1, d2, d3, d4] => { results := [.lit (.bool false)], args := [d1, d2, d3, d4] }
  | _ => none }
def TopChainWrongFalsely : Prop := topChainRow.holds Try.pinned (OpenSpec.ofChange topChainWrong)

/- THE SECOND FORM. 'bulk': how many values and letters a reading holds, each counted each time it is reached (what is shared counts as often as it is met; a slice's spare places count too). A statement '..UptoSaid' is the law's where the arguments, and the package variables that the reading takes, are together of bulk at most 1048576: NARROWER than '..Said'. Prove '..Said' where nothing that the law and all that it calls make is longer than what came in: it says more and counts as full. Else prove '..UptoSaid'. A law counts once. -/
mutual
def uptoBulk {H : Type} : DataW H → Nat
  | .lit (.string bytes) => bytes.length + 1
  | .lit _ => 1
  | .nil => 1
  | .ptr d => uptoBulk d + 1
  | .slice elems spare => uptoBulkAll elems + uptoBulkAll spare + 1
  | .agg parts => uptoBulkAll parts + 1
  | .iface _ d => uptoBulk d + 1
  | .map entries => uptoBulkEntries entries + 1
  | .held _ => 1
def uptoBulkAll {H : Type} : List (DataW H) → Nat
  | [] => 0
  | d :: r => uptoBulk d + uptoBulkAll r
def uptoBulkEntries {H : Type} : List (Lit × DataW H) → Nat
  | [] => 0
  | x :: r => uptoBulkEntry x + uptoBulkEntries r
def uptoBulkEntry {H : Type} : Lit × DataW H → Nat
  | (.string bytes, d) => bytes.length + uptoBulk d + 1
  | (_, d) => uptoBulk d + 1
 end
def uptoSmall : (H : Type) → List (DataW H) → Bool := fun _ ds => decide (uptoBulkAll ds ≤ 1048576)
def OpenSpec.upto (s : _root_.Go.ChangeSpec) : _root_.Go.OpenSpec := { _root_.Go.OpenSpec.ofChange s with cond := some uptoSmall }

/-- 'headlaw.TraceSays', WHERE WHAT IT READS IS OF BULK AT MOST 1048576: true; the input reads as it did. -/
def traceSaysUptoRow : OpenClaim := { program := "ytaopeofcmnckfaa", sum := "b592aa86d4517a5010f1dc74f10e1f8b1724a98573d7bf0bfafc9fe66abb3e4a", func := "headway/headlaw.TraceSays", spec := "traceSays", unfollowed := true, recurses := true, apart := false, narrowed := true }
def TraceSaysUptoSaid : Prop := traceSaysUptoRow.holds Try.pinned (OpenSpec.upto traceSaysSpec)

/-- 'headlaw.TraceTells', WHERE WHAT IT READS IS OF BULK AT MOST 1048576: true; the input reads as it did. -/
def traceTellsUptoRow : OpenClaim := { program := "ytaopeofcmnckfaa", sum := "b592aa86d4517a5010f1dc74f10e1f8b1724a98573d7bf0bfafc9fe66abb3e4a", func := "headway/headlaw.TraceTells", spec := "traceTells", apart := false, narrowed := true }
def TraceTellsUptoSaid : Prop := traceTellsUptoRow.holds Try.pinned (OpenSpec.upto traceTellsSpec)

/-- 'headlaw.BoundSays', WHERE WHAT IT READS IS OF BULK AT MOST 1048576: true; the input reads as it did. -/
def boundSaysUptoRow : OpenClaim := { program := "ytaopeofcmnckfaa", sum := "b592aa86d4517a5010f1dc74f10e1f8b1724a98573d7bf0bfafc9fe66abb3e4a", func := "headway/headlaw.BoundSays", spec := "boundSays", unfollowed := true, recurses := true, apart := false, narrowed := true }
def BoundSaysUptoSaid : Prop := boundSaysUptoRow.holds Try.pinned (OpenSpec.upto boundSaysSpec)

/-- 'headkeep.TraceBack', WHERE WHAT IT READS IS OF BULK AT MOST 1048576: true; the input reads as it did. -/
def traceBackUptoRow : OpenClaim := { program := "ytaopeofcmnckfaa", sum := "b592aa86d4517a5010f1dc74f10e1f8b1724a98573d7bf0bfafc9fe66abb3e4a", func := "headway/headkeep.TraceBack", spec := "traceBack", apart := false, narrowed := true }
def TraceBackUptoSaid : Prop := traceBackUptoRow.holds Try.pinned (OpenSpec.upto traceBackSpec)

/-- 'headkeep.TraceLeast', WHERE WHAT IT READS IS OF BULK AT MOST 1048576: true; the input reads as it did. -/
def traceLeastUptoRow : OpenClaim := { program := "ytaopeofcmnckfaa", sum := "b592aa86d4517a5010f1dc74f10e1f8b1724a98573d7bf0bfafc9fe66abb3e4a", func := "headway/headkeep.TraceLeast", spec := "traceLeast", unfollowed := true, recurses := true, apart := false, narrowed := true }
def TraceLeastUptoSaid : Prop := traceLeastUptoRow.holds Try.pinned (OpenSpec.upto traceLeastSpec)

/-- 'headkeep.TraceConv', WHERE WHAT IT READS IS OF BULK AT MOST 1048576: true; the input reads as it did. -/
def traceConvUptoRow : OpenClaim := { program := "ytaopeofcmnckfaa", sum := "b592aa86d4517a5010f1dc74f10e1f8b1724a98573d7bf0bfafc9fe66abb3e4a", func := "headway/headkeep.TraceConv", spec := "traceConv", unfollowed := true, recurses := true, apart := false, narrowed := true }
def TraceConvUptoSaid : Prop := traceConvUptoRow.holds Try.pinned (OpenSpec.upto traceConvSpec)

/-- 'headkeep.TraceSums', WHERE WHAT IT READS IS OF BULK AT MOST 1048576: true; the input reads as it did. -/
def traceSumsUptoRow : OpenClaim := { program := "ytaopeofcmnckfaa", sum := "b592aa86d4517a5010f1dc74f10e1f8b1724a98573d7bf0bfafc9fe66abb3e4a", func := "headway/headkeep.TraceSums", spec := "traceSums", unfollowed := true, recurses := true, apart := false, narrowed := true }
def TraceSumsUptoSaid : Prop := traceSumsUptoRow.holds Try.pinned (OpenSpec.upto traceSumsSpec)

/-- 'headkeep.BoundBack', WHERE WHAT IT READS IS OF BULK AT MOST 1048576: true; the input reads as it did. -/
def boundBackUptoRow : OpenClaim := { program := "ytaopeofcmnckfaa", sum := "b592aa86d4517a5010f1dc74f10e1f8b1724a98573d7bf0bfafc9fe66abb3e4a", func := "headway/headkeep.BoundBack", spec := "boundBack", unfollowed := true, recurses := true, apart := false, narrowed := true }
def BoundBackUptoSaid : Prop := boundBackUptoRow.holds Try.pinned (OpenSpec.upto boundBackSpec)

/-- 'headkeep.BoundDelay', WHERE WHAT IT READS IS OF BULK AT MOST 1048576: true; the input reads as it did. -/
def boundDelayUptoRow : OpenClaim := { program := "ytaopeofcmnckfaa", sum := "b592aa86d4517a5010f1dc74f10e1f8b1724a98573d7bf0bfafc9fe66abb3e4a", func := "headway/headkeep.BoundDelay", spec := "boundDelay", unfollowed := true, recurses := true, apart := false, narrowed := true }
def BoundDelayUptoSaid : Prop := boundDelayUptoRow.holds Try.pinned (OpenSpec.upto boundDelaySpec)

/-- 'headkeep.BoundOut', WHERE WHAT IT READS IS OF BULK AT MOST 1048576: true; the input reads as it did. -/
def boundOutUptoRow : OpenClaim := { program := "ytaopeofcmnckfaa", sum := "b592aa86d4517a5010f1dc74f10e1f8b1724a98573d7bf0bfafc9fe66abb3e4a", func := "headway/headkeep.BoundOut", spec := "boundOut", unfollowed := true, recurses := true, apart := false, narrowed := true }
def BoundOutUptoSaid : Prop := boundOutUptoRow.holds Try.pinned (OpenSpec.upto boundOutSpec)

/-- 'headkeep.BoundGrows', WHERE WHAT IT READS IS OF BULK AT MOST 1048576: true; the input reads as it did. -/
def boundGrowsUptoRow : OpenClaim := { program := "ytaopeofcmnckfaa", sum := "b592aa86d4517a5010f1dc74f10e1f8b1724a98573d7bf0bfafc9fe66abb3e4a", func := "headway/headkeep.BoundGrows", spec := "boundGrows", unfollowed := true, recurses := true, apart := false, narrowed := true }
def BoundGrowsUptoSaid : Prop := boundGrowsUptoRow.holds Try.pinned (OpenSpec.upto boundGrowsSpec)

/-- 'headkeep.BoundNone', WHERE WHAT IT READS IS OF BULK AT MOST 1048576: true; the input reads as it did. -/
def boundNoneUptoRow : OpenClaim := { program := "ytaopeofcmnckfaa", sum := "b592aa86d4517a5010f1dc74f10e1f8b1724a98573d7bf0bfafc9fe66abb3e4a", func := "headway/headkeep.BoundNone", spec := "boundNone", unfollowed := true, recurses := true, apart := false, narrowed := true }
def BoundNoneUptoSaid : Prop := boundNoneUptoRow.holds Try.pinned (OpenSpec.upto boundNoneSpec)

/-- 'headtop.TopChain', WHERE WHAT IT READS IS OF BULK AT MOST 1048576: true; the input reads as it did. -/
def topChainUptoRow : OpenClaim := { program := "ytaopeofcmnckfaa", sum := "b592aa86d4517a5010f1dc74f10e1f8b1724a98573d7bf0bfafc9fe66abb3e4a", func := "headway/headtop.TopChain", spec := "topChain", unfollowed := true, recurses := true, apart := false, narrowed := true }
def TopChainUptoSaid : Prop := topChainUptoRow.holds Try.pinned (OpenSpec.upto topChainSpec)

end Rows
end Go.Proofs.Ytaopeofcmnckfaa
