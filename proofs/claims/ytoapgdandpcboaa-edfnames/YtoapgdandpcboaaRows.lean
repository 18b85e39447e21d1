/-
  No cell of these rows narrows 'for every input' (looked for: loops, veiled, ifaces, maps, wideKeys, modest, calm, conditions, laid).
  DERIVED. THE GIVEN ROWS OF THIS SEAT. 7 by the template 'for every input the law returns true; each argument reads behind the call as it read before'; 0 by the template 'total and deterministic' (their statements: YtoapgdandpcboaaTotals.lean).
  GIVEN WITH THE SEED: the statements are not yours to turn. If you find one false, say at which input.
  Laid BY PROGRAM, IN A SANDBOX (cutbox-rows.mjs): the forced cells as the released guide's own fill.sh prints them over the translation 00bbe4e7f4d02449… (all of the seat's roots in one cut). By AI agents, Wed Nov 11 2026. No macro, syntax, notation, axiom, sorry.
-/
import Derived.Test.YtoapgdandpcboaaChecked
import GoSem.Claim
import GoSem.ClaimJoined
import GoSem.ClaimMapViews
import Derived.JoinedTies
import Derived.KernelRfl
namespace Go.Proofs.Ytoapgdandpcboaa
/- THE CELL 'sum', in the pinned program and in every row, IS THE sha256 OF THE DUMP (.gsa) THAT YtoapgdandpcboaaProg.lean LOADS. Nothing in Lean hashes anything: it is a label: what it is worth is what the hold of that sum in a sandbox is worth. -/
noncomputable def Try.pinned : Pinned := { name := "ytoapgdandpcboaa", sum := "00bbe4e7f4d02449b445fc9b0a36d4c78264921fe8f703b9011a33e0fa4bdc92", checked := Try.checked }
namespace Rows
def none {H : Type} : Left H := { results := [], args := [] }

/-- 'headlaw.EdfSays': WHATEVER THE INPUT: true; the input reads as it did. -/
def edfSaysSpec : ChangeSpec := { name := "edfSays", fn := fun _ => fun
  | [d] => { results := [.lit (.bool true)], args := [d] }
  | _ => none }
def edfSaysRow : OpenClaim := { program := "ytoapgdandpcboaa", sum := "00bbe4e7f4d02449b445fc9b0a36d4c78264921fe8f703b9011a33e0fa4bdc92", func := "headway/headlaw.EdfSays", spec := "edfSays", unfollowed := true, recurses := true, apart := false }
def EdfSaysSaid : Prop := edfSaysRow.holds Try.pinned (OpenSpec.ofChange edfSaysSpec)

/-- ITS FALSE NEIGHBOUR: 'it returns false'. Refute it at one input. -/
def edfSaysWrong : ChangeSpec := { name := "edfSays", fn := fun _ => fun
  | [d] => { results := [.lit (.bool false)], args := [d] }
  | _ => none }
def EdfSaysWrongFalsely : Prop := edfSaysRow.holds Try.pinned (OpenSpec.ofChange edfSaysWrong)

/-- 'headlaw.EdfFits': WHATEVER THE INPUT: true; the input reads as it did. -/
def edfFitsSpec : ChangeSpec := { name := "edfFits", fn := fun _ => fun
  | [d] => { results := [.lit (.bool true)], args := [d] }
  | _ => none }
def edfFitsRow : OpenClaim := { program := "ytoapgdandpcboaa", sum := "00bbe4e7f4d02449b445fc9b0a36d4c78264921fe8f703b9011a33e0fa4bdc92", func := "headway/headlaw.EdfFits", spec := "edfFits", unfollowed := true, recurses := true, apart := false }
def EdfFitsSaid : Prop := edfFitsRow.holds Try.pinned (OpenSpec.ofChange edfFitsSpec)

/-- ITS FALSE NEIGHBOUR: 'it returns false'. Refute it at one input. -/
def edfFitsWrong : ChangeSpec := { name := "edfFits", fn := fun _ => fun
  | [d] => { results := [.lit (.bool false)], args := [d] }
  | _ => none }
def EdfFitsWrongFalsely : Prop := edfFitsRow.holds Try.pinned (OpenSpec.ofChange edfFitsWrong)

/-- 'headkeep.EdfDemand': WHATEVER THE INPUT: true; the input reads as it did. -/
def edfDemandSpec : ChangeSpec := { name := "edfDemand", fn := fun _ => fun
  | [d] => { results := [.lit (.bool true)], args := [d] }
  | _ => none }
def edfDemandRow : OpenClaim := { program := "ytoapgdandpcboaa", sum := "00bbe4e7f4d02449b445fc9b0a36d4c78264921fe8f703b9011a33e0fa4bdc92", func := "headway/headkeep.EdfDemand", spec := "edfDemand", unfollowed := true, recurses := true, apart := false }
def EdfDemandSaid : Prop := edfDemandRow.holds Try.pinned (OpenSpec.ofChange edfDemandSpec)

/-- ITS FALSE NEIGHBOUR: 'it returns false'. Refute it at one input. -/
def edfDemandWrong : ChangeSpec := { name := "edfDemand", fn := fun _ => fun
  | [d] => { results := [.lit (.bool false)], args := [d] }
  | _ => none }
def EdfDemandWrongFalsely : Prop := edfDemandRow.holds Try.pinned (OpenSpec.ofChange edfDemandWrong)

/-- 'headkeep.EdfBest': WHATEVER THE INPUT: true; the input reads as it did. -/
def edfBestSpec : ChangeSpec := { name := "edfBest", fn := fun _ => fun
  | [d1, d2] => { results := [.lit (.bool true)], args := [d1, d2] }
  | _ => none }
def edfBestRow : OpenClaim := { program := "ytoapgdandpcboaa", sum := "00bbe4e7f4d02449b445fc9b0a36d4c78264921fe8f703b9011a33e0fa4bdc92", func := "headway/headkeep.EdfBest", spec := "edfBest", unfollowed := true, recurses := true, apart := false }
def EdfBestSaid : Prop := edfBestRow.holds Try.pinned (OpenSpec.ofChange edfBestSpec)

/-- ITS FALSE NEIGHBOUR: 'it returns false'. Refute it at one input. -/
def edfBestWrong : ChangeSpec := { name := "edfBest", fn := fun _ => fun
  | [d1, d2] => { results := [.lit (.bool false)], args := [d1, d2] }
  | _ => none }
def EdfBestWrongFalsely : Prop := edfBestRow.holds Try.pinned (OpenSpec.ofChange edfBestWrong)

/-- 'headkeep.EdfRuns': WHATEVER THE INPUT: true; the input reads as it did. -/
def edfRunsSpec : ChangeSpec := { name := "edfRuns", fn := fun _ => fun
  | [d] => { results := [.lit (.bool true)], args := [d] }
  | _ => none }
def edfRunsRow : OpenClaim := { program := "ytoapgdandpcboaa", sum := "00bbe4e7f4d02449b445fc9b0a36d4c78264921fe8f703b9011a33e0fa4bdc92", func := "headway/headkeep.EdfRuns", spec := "edfRuns", unfollowed := true, recurses := true, apart := false }
def EdfRunsSaid : Prop := edfRunsRow.holds Try.pinned (OpenSpec.ofChange edfRunsSpec)

/-- ITS FALSE NEIGHBOUR: 'it returns false'. Refute it at one input. -/
def edfRunsWrong : ChangeSpec := { name := "edfRuns", fn := fun _ => fun
  | [d] => { results := [.lit (.bool false)], args := [d] }
  | _ => none }
def EdfRunsWrongFalsely : Prop := edfRunsRow.holds Try.pinned (OpenSpec.ofChange edfRunsWrong)

/-- 'headkeep.EdfEasier': WHATEVER THE INPUT: true; the input reads as it did. -/
def edfEasierSpec : ChangeSpec := { name := "edfEasier", fn := fun _ => fun
  | [d1, d2, d3, d4, d5] => { results := [.lit (.bool true)], args := [d1, d2, d3, d4, d5] }
  | _ => none }
def edfEasierRow : OpenClaim := { program := "ytoapgdandpcboaa", sum := "00bbe4e7f4d02449b445fc9b0a36d4c78264921fe8f703b9011a33e0fa4bdc92", func := "headway/headkeep.EdfEasier", spec := "edfEasier", apart := false }
def EdfEasierSaid : Prop := edfEasierRow.holds Try.pinned (OpenSpec.ofChange edfEasierSpec)

/-- ITS FALSE NEIGHBOUR: 'it returns false'. Refute it at one input. -/
def edfEasierWrong : ChangeSpec := { name := "edfEasier", fn := fun _ => fun
  | [d1, d2, d3, d4, d5] => { results := [.lit (.bool false)], args := [d1, d2, d3, d4, d5] }
  | _ => none }
def EdfEasierWrongFalsely : Prop := edfEasierRow.holds Try.pinned (OpenSpec.ofChange edfEasierWrong)

/-- 'headkeep.EdfNames': WHATEVER THE INPUT: true; the input reads as it did. -/
def edfNamesSpec : ChangeSpec := { name := "edfNames", fn := fun _ => fun
  | [d1, d2, d3] => { results := [.lit (.bool true)], args := [d1, d2, d3] }
  | _ => none }
def edfNamesRow : OpenClaim := { program := "ytoapgdandpcboaa", sum := "00bbe4e7f4d02449b445fc9b0a36d4c78264921fe8f703b9011a33e0fa4bdc92", func := "headway/headkeep.EdfNames", spec := "edfNames", apart := false }
def EdfNamesSaid : Prop := edfNamesRow.holds Try.pinned (OpenSpec.ofChange edfNamesSpec)

/-- ITS FALSE NEIGHBOUR: 'it returns false'. Refute it at one input. -/
def edfNamesWrong : ChangeSpec := { name := "edfNames", fn := fun _ => fun
  | [d1, d2, d3] => { results := [.lit (.bool false)], args := [d1, d2, d3] }
  | _ => none }
def EdfNamesWrongFalsely : Prop := edfNamesRow.holds Try.pinned (OpenSpec.ofChange edfNamesWrong)

/- THE SECOND FORM. 'bulk': how many values and letters a reading holds, each counted each time it is reached (what is shared counts as often as it is met; a slice's spare places count too). A statement '..UptoSaid' is the law's where the arguments, and the package variables that the reading takes, are together of bulk at most 1048576: NARROWER than '..Said'. Prove '..Said' where nothing that the law and all that it calls make is longer than what came in: it says more and counts as full. Else prove '..UptoSaid'. A law counts once. -/
mutual
def uptoBulk {H : Type} : DataW H → Nat
  | .lit (.string bytes) => bytes.length + 1
  | .lit _ => 1
  | .nil => 1
  | .ptr d => uptoBulk d + 1
  | .slice elems spare => uptoBulkAll elems + uptoBulkAll spare + 1
  | .agg parts => uptoBulkAll parts + 1
  | .iface _ d => uptoBulk d + 1
  | .map entries => uptoBulkEntries entries + 1
  | .held _ => 1
def uptoBulkAll {H : Type} : List (DataW H) → Nat
  | [] => 0
  | d :: r => uptoBulk d + uptoBulkAll r
def uptoBulkEntries {H : Type} : List (Lit × DataW H) → Nat
  | [] => 0
  | x :: r => uptoBulkEntry x + uptoBulkEntries r
def uptoBulkEntry {H : Type} : Lit × DataW H → Nat
  | (.string bytes, d) => bytes.length + uptoBulk d + 1
  | (_, d) => uptoBulk d + 1
 end
def uptoSmall : (H : Type) → List (DataW H) → Bool := fun _ ds => decide (uptoBulkAll ds ≤ 1048576)
def OpenSpec.upto (s : _root_.Go.ChangeSpec) : _root_.Go.OpenSpec := { _root_.Go.OpenSpec.ofChange s with cond := some uptoSmall }

/-- 'headlaw.EdfSays', WHERE WHAT IT READS IS OF BULK AT MOST 1048576: true; the input reads as it did. -/
def edfSaysUptoRow : OpenClaim := { program := "ytoapgdandpcboaa", sum := "00bbe4e7f4d02449b445fc9b0a36d4c78264921fe8f703b9011a33e0fa4bdc92", func := "headway/headlaw.EdfSays", spec := "edfSays", unfollowed := true, recurses := true, apart := false, narrowed := true }
def EdfSaysUptoSaid : Prop := edfSaysUptoRow.holds Try.pinned (OpenSpec.upto edfSaysSpec)

/-- 'headlaw.EdfFits', WHERE WHAT IT READS IS OF BULK AT MOST 1048576: true; the input reads as it did. -/
def edfFitsUptoRow : OpenClaim := { program := "ytoapgdandpcboaa", sum := "00bbe4e7f4d02449b445fc9b0a36d4c78264921fe8f703b9011a33e0fa4bdc92", func := "headway/headlaw.EdfFits", spec := "edfFits", unfollowed := true, recurses := true, apart := false, narrowed := true }
def EdfFitsUptoSaid : Prop := edfFitsUptoRow.holds Try.pinned (OpenSpec.upto edfFitsSpec)

/-- 'headkeep.EdfDemand', WHERE WHAT IT READS IS OF BULK AT MOST 1048576: true; the input reads as it did. -/
def edfDemandUptoRow : OpenClaim := { program := "ytoapgdandpcboaa", sum := "00bbe4e7f4d02449b445fc9b0a36d4c78264921fe8f703b9011a33e0fa4bdc92", func := "headway/headkeep.EdfDemand", spec := "edfDemand", unfollowed := true, recurses := true, apart := false, narrowed := true }
def EdfDemandUptoSaid : Prop := edfDemandUptoRow.holds Try.pinned (OpenSpec.upto edfDemandSpec)

/-- 'headkeep.EdfBest', WHERE WHAT IT READS IS OF BULK AT MOST 1048576: true; the input reads as it did. -/
def edfBestUptoRow : OpenClaim := { program := "ytoapgdandpcboaa", sum := "00bbe4e7f4d02449b445fc9b0a36d4c78264921fe8f703b9011a33e0fa4bdc92", func := "headway/headkeep.EdfBest", spec := "edfBest", unfollowed := true, recurses := true, apart := false, narrowed := true }
def EdfBestUptoSaid : Prop := edfBestUptoRow.holds Try.pinned (OpenSpec.upto edfBestSpec)

/-- 'headkeep.EdfRuns', WHERE WHAT IT READS IS OF BULK AT MOST 1048576: true; the input reads as it did. -/
def edfRunsUptoRow : OpenClaim := { program := "ytoapgdandpcboaa", sum := "00bbe4e7f4d02449b445fc9b0a36d4c78264921fe8f703b9011a33e0fa4bdc92", func := "headway/headkeep.EdfRuns", spec := "edfRuns", unfollowed := true, recurses := true, apart := false, narrowed := true }
def EdfRunsUptoSaid : Prop := edfRunsUptoRow.holds Try.pinned (OpenSpec.upto edfRunsSpec)

/-- 'headkeep.EdfEasier', WHERE WHAT IT READS IS OF BULK AT MOST 1048576: true; the input reads as it did. -/
def edfEasierUptoRow : OpenClaim := { program := "ytoapgdandpcboaa", sum := "00bbe4e7f4d02449b445fc9b0a36d4c78264921fe8f703b9011a33e0fa4bdc92", func := "headway/headkeep.EdfEasier", spec := "edfEasier", apart := false, narrowed := true }
def EdfEasierUptoSaid : Prop := edfEasierUptoRow.holds Try.pinned (OpenSpec.upto edfEasierSpec)

/-- 'headkeep.EdfNames', WHERE WHAT IT READS IS OF BULK AT MOST 1048576: true; the input reads as it did. -/
def edfNamesUptoRow : OpenClaim := { program := "ytoapgdandpcboaa", sum := "00bbe4e7f4d02449b445fc9b0a36d4c78264921fe8f703b9011a33e0fa4bdc92", func := "headway/headkeep.EdfNames", spec := "edfNames", apart := false, narrowed := true }
def EdfNamesUptoSaid : Prop := edfNamesUptoRow.holds Try.pinned (OpenSpec.upto edfNamesSpec)

end Rows
end Go.Proofs.Ytoapgdandpcboaa
