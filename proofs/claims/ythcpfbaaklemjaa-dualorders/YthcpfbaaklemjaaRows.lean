/-
  No cell of these rows narrows 'for every input' (looked for: loops, veiled, ifaces, maps, wideKeys, modest, calm, conditions, laid).
  DERIVED. THE GIVEN ROWS OF THIS SEAT. 7 by the template 'for every input the law returns true; each argument reads behind the call as it read before'; 0 by the template 'total and deterministic' (their statements: YthcpfbaaklemjaaTotals.lean).
  GIVEN WITH THE SEED: the statements are not yours to turn. If you find one false, say at which input.
  Laid BY PROGRAM, IN A SANDBOX (cutbox-rows.mjs): the forced cells as the released guide's own fill.sh prints them over the translation 28eb1e33f3ab3032… (all of the seat's roots in one cut). By AI agents, Wed Nov 11 2026. No macro, syntax, notation, axiom, sorry.
-/
import Derived.Test.YthcpfbaaklemjaaChecked
import GoSem.Claim
import GoSem.ClaimJoined
import GoSem.ClaimMapViews
import Derived.JoinedTies
import Derived.KernelRfl
namespace Go.Proofs.Ythcpfbaaklemjaa
/- THE CELL 'sum', in the pinned program and in every row, IS THE sha256 OF THE DUMP (.gsa) THAT YthcpfbaaklemjaaProg.lean LOADS. Nothing in Lean hashes anything: it is a label: what it is worth is what the hold of that sum in a sandbox is worth. -/
noncomputable def Try.pinned : Pinned := { name := "ythcpfbaaklemjaa", sum := "28eb1e33f3ab3032c3db6e5d5eec4fcb0f84f52adf745d79d319249b90e03781", checked := Try.checked }
namespace Rows
def none {H : Type} : Left H := { results := [], args := [] }

/-- 'headlaw.ClosureSays': WHATEVER THE INPUT: true; the input reads as it did. -/
def closureSaysSpec : ChangeSpec := { name := "closureSays", fn := fun _ => fun
  | [d] => { results := [.lit (.bool true)], args := [d] }
  | _ => none }
def closureSaysRow : OpenClaim := { program := "ythcpfbaaklemjaa", sum := "28eb1e33f3ab3032c3db6e5d5eec4fcb0f84f52adf745d79d319249b90e03781", func := "headway/headlaw.ClosureSays", spec := "closureSays", unfollowed := true, recurses := true, apart := false }
def ClosureSaysSaid : Prop := closureSaysRow.holds Try.pinned (OpenSpec.ofChange closureSaysSpec)

/-- ITS FALSE NEIGHBOUR: 'it returns false'. Refute it at one input. -/
def closureSaysWrong : ChangeSpec := { name := "closureSays", fn := fun _ => fun
  | [d] => { results := [.lit (.bool false)], args := [d] }
  | _ => none }
def ClosureSaysWrongFalsely : Prop := closureSaysRow.holds Try.pinned (OpenSpec.ofChange closureSaysWrong)

/-- 'headlaw.DualSays': WHATEVER THE INPUT: true; the input reads as it did. -/
def dualSaysSpec : ChangeSpec := { name := "dualSays", fn := fun _ => fun
  | [d1, d2] => { results := [.lit (.bool true)], args := [d1, d2] }
  | _ => none }
def dualSaysRow : OpenClaim := { program := "ythcpfbaaklemjaa", sum := "28eb1e33f3ab3032c3db6e5d5eec4fcb0f84f52adf745d79d319249b90e03781", func := "headway/headlaw.DualSays", spec := "dualSays", unfollowed := true, recurses := true, apart := false }
def DualSaysSaid : Prop := dualSaysRow.holds Try.pinned (OpenSpec.ofChange dualSaysSpec)

/-- ITS FALSE NEIGHBOUR: 'it returns false'. Refute it at one input. -/
def dualSaysWrong : ChangeSpec := { name := "dualSays", fn := fun _ => fun
  | [d1, d2] => { results := [.lit (.bool false)], args := [d1, d2] }
  | _ => none }
def DualSaysWrongFalsely : Prop := dualSaysRow.holds Try.pinned (OpenSpec.ofChange dualSaysWrong)

/-- 'headkeep.ClosureLeast': WHATEVER THE INPUT: true; the input reads as it did. -/
def closureLeastSpec : ChangeSpec := { name := "closureLeast", fn := fun _ => fun
  | [d1, d2] => { results := [.lit (.bool true)], args := [d1, d2] }
  | _ => none }
def closureLeastRow : OpenClaim := { program := "ythcpfbaaklemjaa", sum := "28eb1e33f3ab3032c3db6e5d5eec4fcb0f84f52adf745d79d319249b90e03781", func := "headway/headkeep.ClosureLeast", spec := "closureLeast", unfollowed := true, recurses := true, apart := false }
def ClosureLeastSaid : Prop := closureLeastRow.holds Try.pinned (OpenSpec.ofChange closureLeastSpec)

/-- ITS FALSE NEIGHBOUR: 'it returns false'. Refute it at one input. -/
def closureLeastWrong : ChangeSpec := { name := "closureLeast", fn := fun _ => fun
  | [d1, d2] => { results := [.lit (.bool false)], args := [d1, d2] }
  | _ => none }
def ClosureLeastWrongFalsely : Prop := closureLeastRow.holds Try.pinned (OpenSpec.ofChange closureLeastWrong)

/-- 'headkeep.ClosurePowers': WHATEVER THE INPUT: true; the input reads as it did. -/
def closurePowersSpec : ChangeSpec := { name := "closurePowers", fn := fun _ => fun
  | [d] => { results := [.lit (.bool true)], args := [d] }
  | _ => none }
def closurePowersRow : OpenClaim := { program := "ythcpfbaaklemjaa", sum := "28eb1e33f3ab3032c3db6e5d5eec4fcb0f84f52adf745d79d319249b90e03781", func := "headway/headkeep.ClosurePowers", spec := "closurePowers", unfollowed := true, recurses := true, apart := false }
def ClosurePowersSaid : Prop := closurePowersRow.holds Try.pinned (OpenSpec.ofChange closurePowersSpec)

/-- ITS FALSE NEIGHBOUR: 'it returns false'. Refute it at one input. -/
def closurePowersWrong : ChangeSpec := { name := "closurePowers", fn := fun _ => fun
  | [d] => { results := [.lit (.bool false)], args := [d] }
  | _ => none }
def ClosurePowersWrongFalsely : Prop := closurePowersRow.holds Try.pinned (OpenSpec.ofChange closurePowersWrong)

/-- 'headkeep.ClosureConv': WHATEVER THE INPUT: true; the input reads as it did. -/
def closureConvSpec : ChangeSpec := { name := "closureConv", fn := fun _ => fun
  | [d1, d2] => { results := [.lit (.bool true)], args := [d1, d2] }
  | _ => none }
def closureConvRow : OpenClaim := { program := "ythcpfbaaklemjaa", sum := "28eb1e33f3ab3032c3db6e5d5eec4fcb0f84f52adf745d79d319249b90e03781", func := "headway/headkeep.ClosureConv", spec := "closureConv", unfollowed := true, recurses := true, apart := false }
def ClosureConvSaid : Prop := closureConvRow.holds Try.pinned (OpenSpec.ofChange closureConvSpec)

/-- ITS FALSE NEIGHBOUR: 'it returns false'. Refute it at one input. -/
def closureConvWrong : ChangeSpec := { name := "closureConv", fn := fun _ => fun
  | [d1, d2] => { results := [.lit (.bool false)], args := [d1, d2] }
  | _ => none }
def ClosureConvWrongFalsely : Prop := closureConvRow.holds Try.pinned (OpenSpec.ofChange closureConvWrong)

/-- 'headkeep.DualOrders': WHATEVER THE INPUT: true; the input reads as it did. -/
def dualOrdersSpec : ChangeSpec := { name := "dualOrders", fn := fun _ => fun
  | [d1, d2, d3] => { results := [.lit (.bool true)], args := [d1, d2, d3] }
  | _ => none }
def dualOrdersRow : OpenClaim := { program := "ythcpfbaaklemjaa", sum := "28eb1e33f3ab3032c3db6e5d5eec4fcb0f84f52adf745d79d319249b90e03781", func := "headway/headkeep.DualOrders", spec := "dualOrders", unfollowed := true, recurses := true, apart := false }
def DualOrdersSaid : Prop := dualOrdersRow.holds Try.pinned (OpenSpec.ofChange dualOrdersSpec)

/-- ITS FALSE NEIGHBOUR: 'it returns false'. Refute it at one input. -/
def dualOrdersWrong : ChangeSpec := { name := "dualOrders", fn := fun _ => fun
  | [d1, d2, d3] => { results := [.lit (.bool false)], args := [d1, d2, d3] }
  | _ => none }
def DualOrdersWrongFalsely : Prop := dualOrdersRow.holds Try.pinned (OpenSpec.ofChange dualOrdersWrong)

/-- 'headkeep.SuperMost': WHATEVER THE INPUT: true; the input reads as it did. -/
def superMostSpec : ChangeSpec := { name := "superMost", fn := fun _ => fun
  | [d] => { results := [.lit (.bool true)], args := [d] }
  | _ => none }
def superMostRow : OpenClaim := { program := "ythcpfbaaklemjaa", sum := "28eb1e33f3ab3032c3db6e5d5eec4fcb0f84f52adf745d79d319249b90e03781", func := "headway/headkeep.SuperMost", spec := "superMost", unfollowed := true, recurses := true, apart := false }
def SuperMostSaid : Prop := superMostRow.holds Try.pinned (OpenSpec.ofChange superMostSpec)

/-- ITS FALSE NEIGHBOUR: 'it returns false'. Refute it at one input. -/
def superMostWrong : ChangeSpec := { name := "superMost", fn := fun _ => fun
  | [d] => { results := [.lit (.bool false)], args := [d] }
  | _ => none }
def SuperMostWrongFalsely : Prop := superMostRow.holds Try.pinned (OpenSpec.ofChange superMostWrong)

/- THE SECOND FORM. 'bulk': how many values and letters a reading holds, each counted each time it is reached (what is shared counts as often as it is met; a slice's spare places count too). A statement '..UptoSaid' is the law's where the arguments, and the package variables that the reading takes, are together of bulk at most 1048576: NARROWER than '..Said'. Prove '..Said' where nothing that the law and all that it calls make is longer than what came in: it says more and counts as full. Else prove '..UptoSaid'. A law counts once. -/
mutual
def uptoBulk {H : Type} : DataW H → Nat
  | .lit (.string bytes) => bytes.length + 1
  | .lit _ => 1
  | .nil => 1
  | .ptr d => uptoBulk d + 1
  | .slice elems spare => uptoBulkAll elems + uptoBulkAll spare + 1
  | .agg parts => uptoBulkAll parts + 1
  | .iface _ d => uptoBulk d + 1
  | .map entries => uptoBulkEntries entries + 1
  | .held _ => 1
def uptoBulkAll {H : Type} : List (DataW H) → Nat
  | [] => 0
  | d :: r => uptoBulk d + uptoBulkAll r
def uptoBulkEntries {H : Type} : List (Lit × DataW H) → Nat
  | [] => 0
  | x :: r => uptoBulkEntry x + uptoBulkEntries r
def uptoBulkEntry {H : Type} : Lit × DataW H → Nat
  | (.string bytes, d) => bytes.length + uptoBulk d + 1
  | (_, d) => uptoBulk d + 1
 end
def uptoSmall : (H : Type) → List (DataW H) → Bool := fun _ ds => decide (uptoBulkAll ds ≤ 1048576)
def OpenSpec.upto (s : _root_.Go.ChangeSpec) : _root_.Go.OpenSpec := { _root_.Go.OpenSpec.ofChange s with cond := some uptoSmall }

/-- 'headlaw.ClosureSays', WHERE WHAT IT READS IS OF BULK AT MOST 1048576: true; the input reads as it did. -/
def closureSaysUptoRow : OpenClaim := { program := "ythcpfbaaklemjaa", sum := "28eb1e33f3ab3032c3db6e5d5eec4fcb0f84f52adf745d79d319249b90e03781", func := "headway/headlaw.ClosureSays", spec := "closureSays", unfollowed := true, recurses := true, apart := false, narrowed := true }
def ClosureSaysUptoSaid : Prop := closureSaysUptoRow.holds Try.pinned (OpenSpec.upto closureSaysSpec)

/-- 'headlaw.DualSays', WHERE WHAT IT READS IS OF BULK AT MOST 1048576: true; the input reads as it did. -/
def dualSaysUptoRow : OpenClaim := { program := "ythcpfbaaklemjaa", sum := "28eb1e33f3ab3032c3db6e5d5eec4fcb0f84f52adf745d79d319249b90e03781", func := "headway/headlaw.DualSays", spec := "dualSays", unfollowed := true, recurses := true, apart := false, narrowed := true }
def DualSaysUptoSaid : Prop := dualSaysUptoRow.holds Try.pinned (OpenSpec.upto dualSaysSpec)

/-- 'headkeep.ClosureLeast', WHERE WHAT IT READS IS OF BULK AT MOST 1048576: true; the input reads as it did. -/
def closureLeastUptoRow : OpenClaim := { program := "ythcpfbaaklemjaa", sum := "28eb1e33f3ab3032c3db6e5d5eec4fcb0f84f52adf745d79d319249b90e03781", func := "headway/headkeep.ClosureLeast", spec := "closureLeast", unfollowed := true, recurses := true, apart := false, narrowed := true }
def ClosureLeastUptoSaid : Prop := closureLeastUptoRow.holds Try.pinned (OpenSpec.upto closureLeastSpec)

/-- 'headkeep.ClosurePowers', WHERE WHAT IT READS IS OF BULK AT MOST 1048576: true; the input reads as it did. -/
def closurePowersUptoRow : OpenClaim := { program := "ythcpfbaaklemjaa", sum := "28eb1e33f3ab3032c3db6e5d5eec4fcb0f84f52adf745d79d319249b90e03781", func := "headway/headkeep.ClosurePowers", spec := "closurePowers", unfollowed := true, recurses := true, apart := false, narrowed := true }
def ClosurePowersUptoSaid : Prop := closurePowersUptoRow.holds Try.pinned (OpenSpec.upto closurePowersSpec)

/-- 'headkeep.ClosureConv', WHERE WHAT IT READS IS OF BULK AT MOST 1048576: true; the input reads as it did. -/
def closureConvUptoRow : OpenClaim := { program := "ythcpfbaaklemjaa", sum := "28eb1e33f3ab3032c3db6e5d5eec4fcb0f84f52adf745d79d319249b90e03781", func := "headway/headkeep.ClosureConv", spec := "closureConv", unfollowed := true, recurses := true, apart := false, narrowed := true }
def ClosureConvUptoSaid : Prop := closureConvUptoRow.holds Try.pinned (OpenSpec.upto closureConvSpec)

/-- 'headkeep.DualOrders', WHERE WHAT IT READS IS OF BULK AT MOST 1048576: true; the input reads as it did. -/
def dualOrdersUptoRow : OpenClaim := { program := "ythcpfbaaklemjaa", sum := "28eb1e33f3ab3032c3db6e5d5eec4fcb0f84f52adf745d79d319249b90e03781", func := "headway/headkeep.DualOrders", spec := "dualOrders", unfollowed := true, recurses := true, apart := false, narrowed := true }
def DualOrdersUptoSaid : Prop := dualOrdersUptoRow.holds Try.pinned (OpenSpec.upto dualOrdersSpec)

/-- 'headkeep.SuperMost', WHERE WHAT IT READS IS OF BULK AT MOST 1048576: true; the input reads as it did. -/
def superMostUptoRow : OpenClaim := { program := "ythcpfbaaklemjaa", sum := "28eb1e33f3ab3032c3db6e5d5eec4fcb0f84f52adf745d79d319249b90e03781", func := "headway/headkeep.SuperMost", spec := "superMost", unfollowed := true, recurses := true, apart := false, narrowed := true }
def SuperMostUptoSaid : Prop := superMostUptoRow.holds Try.pinned (OpenSpec.upto superMostSpec)

end Rows
end Go.Proofs.Ythcpfbaaklemjaa
