/-
  No cell of these rows narrows 'for every input' (looked for: loops, veiled, ifaces, maps, wideKeys, modest, calm, conditions, laid).
  DERIVED. THE GIVEN ROWS OF THIS SEAT. 6 by the template 'for every input the law returns true; each argument reads behind the call as it read before'; 0 by the template 'total and deterministic' (their statements: YthngolnflogdnaaTotals.lean).
  GIVEN WITH THE SEED: the statements are not yours to turn. If you find one false, say at which input.
  Laid BY PROGRAM, IN A SANDBOX (cutbox-rows.mjs): the forced cells as the released guide's own fill.sh prints them over the translation 3ffa9639a651e6e9… (all of the seat's roots in one cut). By AI agents, Wed Nov 11 2026. No macro, syntax, notation, axiom, sorry.
-/
import Derived.Test.YthngolnflogdnaaChecked
import GoSem.Claim
import GoSem.ClaimJoined
import GoSem.ClaimMapViews
import Derived.JoinedTies
import Derived.KernelRfl
namespace Go.Proofs.Ythngolnflogdnaa
/- THE CELL 'sum', in the pinned program and in every row, IS THE sha256 OF THE DUMP (.gsa) THAT YthngolnflogdnaaProg.lean LOADS. Nothing in Lean hashes anything: it is a label: what it is worth is what the hold of that sum in a sandbox is worth. -/
noncomputable def Try.pinned : Pinned := { name := "ythngolnflogdnaa", sum := "3ffa9639a651e6e9aab93f83b30b569e1f1e08db2b8ccf868235f07bfa3fbc85", checked := Try.checked }
namespace Rows
def none {H : Type} : Left H := { results := [], args := [] }

/-- 'headlaw.PrioSays': WHATEVER THE INPUT: true; the input reads as it did. -/
def prioSaysSpec : ChangeSpec := { name := "prioSays", fn := fun _ => fun
  | [d1, d2, d3] => { results := [.lit (.bool true)], args := [d1, d2, d3] }
  | _ => none }
def prioSaysRow : OpenClaim := { program := "ythngolnflogdnaa", sum := "3ffa9639a651e6e9aab93f83b30b569e1f1e08db2b8ccf868235f07bfa3fbc85", func := "headway/headlaw.PrioSays", spec := "prioSays", unfollowed := true, recurses := true, apart := false }
def PrioSaysSaid : Prop := prioSaysRow.holds Try.pinned (OpenSpec.ofChange prioSaysSpec)

/-- ITS FALSE NEIGHBOUR: 'it returns false'. Refute it at one input. -/
def prioSaysWrong : ChangeSpec := { name := "prioSays", fn := fun _ => fun
  | [d1, d2, d3] => { results := [.lit (.bool false)], args := [d1, d2, d3] }
  | _ => none }
def PrioSaysWrongFalsely : Prop := prioSaysRow.holds Try.pinned (OpenSpec.ofChange prioSaysWrong)

/-- 'headlaw.PrioLeft': WHATEVER THE INPUT: true; the input reads as it did. -/
def prioLeftSpec : ChangeSpec := { name := "prioLeft", fn := fun _ => fun
  | [d1, d2] => { results := [.lit (.bool true)], args := [d1, d2] }
  | _ => none }
def prioLeftRow : OpenClaim := { program := "ythngolnflogdnaa", sum := "3ffa9639a651e6e9aab93f83b30b569e1f1e08db2b8ccf868235f07bfa3fbc85", func := "headway/headlaw.PrioLeft", spec := "prioLeft", unfollowed := true, recurses := true, apart := false }
def PrioLeftSaid : Prop := prioLeftRow.holds Try.pinned (OpenSpec.ofChange prioLeftSpec)

/-- ITS FALSE NEIGHBOUR: 'it returns false'. Refute it at one input. -/
def prioLeftWrong : ChangeSpec := { name := "prioLeft", fn := fun _ => fun
  | [d1, d2] => { results := [.lit (.bool false)], args := [d1, d2] }
  | _ => none }
def PrioLeftWrongFalsely : Prop := prioLeftRow.holds Try.pinned (OpenSpec.ofChange prioLeftWrong)

/-- 'headkeep.PrioFirst': WHATEVER THE INPUT: true; the input reads as it did. -/
def prioFirstSpec : ChangeSpec := { name := "prioFirst", fn := fun _ => fun
  | [d1, d2, d3] => { results := [.lit (.bool true)], args := [d1, d2, d3] }
  | _ => none }
def prioFirstRow : OpenClaim := { program := "ythngolnflogdnaa", sum := "3ffa9639a651e6e9aab93f83b30b569e1f1e08db2b8ccf868235f07bfa3fbc85", func := "headway/headkeep.PrioFirst", spec := "prioFirst", apart := false }
def PrioFirstSaid : Prop := prioFirstRow.holds Try.pinned (OpenSpec.ofChange prioFirstSpec)

/-- ITS FALSE NEIGHBOUR: 'it returns false'. Refute it at one input. -/
def prioFirstWrong : ChangeSpec := { name := "prioFirst", fn := fun _ => fun
  | [d1, d2, d3] => { results := [.lit (.bool false)], args := [d1, d2, d3] }
  | _ => none }
def PrioFirstWrongFalsely : Prop := prioFirstRow.holds Try.pinned (OpenSpec.ofChange prioFirstWrong)

/-- 'headkeep.PrioLeaves': WHATEVER THE INPUT: true; the input reads as it did. -/
def prioLeavesSpec : ChangeSpec := { name := "prioLeaves", fn := fun _ => fun
  | [d1, d2, d3, d4] => { results := [.lit (.bool true)], args := [d1, d2, d3, d4] }
  | _ => none }
def prioLeavesRow : OpenClaim := { program := "ythngolnflogdnaa", sum := "3ffa9639a651e6e9aab93f83b30b569e1f1e08db2b8ccf868235f07bfa3fbc85", func := "headway/headkeep.PrioLeaves", spec := "prioLeaves", unfollowed := true, recurses := true, apart := false }
def PrioLeavesSaid : Prop := prioLeavesRow.holds Try.pinned (OpenSpec.ofChange prioLeavesSpec)

/-- ITS FALSE NEIGHBOUR: 'it returns false'. Refute it at one input. -/
def prioLeavesWrong : ChangeSpec := { name := "prioLeaves", fn := fun _ => fun
  | [d1, d2, d3, d4] => { results := [.lit (.bool false)], args := [d1, d2, d3, d4] }
  | _ => none }
def PrioLeavesWrongFalsely : Prop := prioLeavesRow.holds Try.pinned (OpenSpec.ofChange prioLeavesWrong)

/-- 'headkeep.PrioMore': WHATEVER THE INPUT: true; the input reads as it did. -/
def prioMoreSpec : ChangeSpec := { name := "prioMore", fn := fun _ => fun
  | [d1, d2, d3, d4, d5] => { results := [.lit (.bool true)], args := [d1, d2, d3, d4, d5] }
  | _ => none }
def prioMoreRow : OpenClaim := { program := "ythngolnflogdnaa", sum := "3ffa9639a651e6e9aab93f83b30b569e1f1e08db2b8ccf868235f07bfa3fbc85", func := "headway/headkeep.PrioMore", spec := "prioMore", apart := false }
def PrioMoreSaid : Prop := prioMoreRow.holds Try.pinned (OpenSpec.ofChange prioMoreSpec)

/-- ITS FALSE NEIGHBOUR: 'it returns false'. Refute it at one input. -/
def prioMoreWrong : ChangeSpec := { name := "prioMore", fn := fun _ => fun
  | [d1, d2, d3, d4, d5] => { results := [.lit (.bool false)], args := [d1, d2, d3, d4, d5] }
  | _ => none }
def PrioMoreWrongFalsely : Prop := prioMoreRow.holds Try.pinned (OpenSpec.ofChange prioMoreWrong)

/-- 'headtop.TopFirst': WHATEVER THE INPUT: true; the input reads as it did. -/
def topFirstSpec : ChangeSpec := { name := "topFirst", fn := fun _ => fun
  | [d1, d2, d3, d4, d5] => { results := [.lit (.bool true)], args := [d1, d2, d3, d4, d5] }
  | _ => none }
def topFirstRow : OpenClaim := { program := "ythngolnflogdnaa", sum := "3ffa9639a651e6e9aab93f83b30b569e1f1e08db2b8ccf868235f07bfa3fbc85", func := "headway/headtop.TopFirst", spec := "topFirst", unfollowed := true, recurses := true, apart := false }
def TopFirstSaid : Prop := topFirstRow.holds Try.pinned (OpenSpec.ofChange topFirstSpec)

/-- ITS FALSE NEIGHBOUR: 'it returns false'. Refute it at one input. -/
def topFirstWrong : ChangeSpec := { name := "topFirst", fn := fun _ => fun
  | [d1, d2, d3, d4, d5] => { results := [.lit (.bool false)], args := [d1, d2, d3, d4, d5] }
  | _ => none }
def TopFirstWrongFalsely : Prop := topFirstRow.holds Try.pinned (OpenSpec.ofChange topFirstWrong)

/- THE SECOND FORM. 'bulk': how many values and letters a reading holds, each counted each time it is reached (what is shared counts as often as it is met; a slice's spare places count too). A statement '..UptoSaid' is the law's where the arguments, and the package variables that the reading takes, are together of bulk at most 1048576: NARROWER than '..Said'. Prove '..Said' where nothing that the law and all that it calls make is longer than what came in: it says more and counts as full. Else prove '..UptoSaid'. A law counts once. -/
mutual
def uptoBulk {H : Type} : DataW H → Nat
  | .lit (.string bytes) => bytes.length + 1
  | .lit _ => 1
  | .nil => 1
  | .ptr d => uptoBulk d + 1
  | .slice elems spare => uptoBulkAll elems + uptoBulkAll spare + 1
  | .agg parts => uptoBulkAll parts + 1
  | .iface _ d => uptoBulk d + 1
  | .map entries => uptoBulkEntries entries + 1
  | .held _ => 1
def uptoBulkAll {H : Type} : List (DataW H) → Nat
  | [] => 0
  | d :: r => uptoBulk d + uptoBulkAll r
def uptoBulkEntries {H : Type} : List (Lit × DataW H) → Nat
  | [] => 0
  | x :: r => uptoBulkEntry x + uptoBulkEntries r
def uptoBulkEntry {H : Type} : Lit × DataW H → Nat
  | (.string bytes, d) => bytes.length + uptoBulk d + 1
  | (_, d) => uptoBulk d + 1
 end
def uptoSmall : (H : Type) → List (DataW H) → Bool := fun _ ds => decide (uptoBulkAll ds ≤ 1048576)
def OpenSpec.upto (s : _root_.Go.ChangeSpec) : _root_.Go.OpenSpec := { _root_.Go.OpenSpec.ofChange s with cond := some uptoSmall }

/-- 'headlaw.PrioSays', WHERE WHAT IT READS IS OF BULK AT MOST 1048576: true; the input reads as it did. -/
def prioSaysUptoRow : OpenClaim := { program := "ythngolnflogdnaa", sum := "3ffa9639a651e6e9aab93f83b30b569e1f1e08db2b8ccf868235f07bfa3fbc85", func := "headway/headlaw.PrioSays", spec := "prioSays", unfollowed := true, recurses := true, apart := false, narrowed := true }
def PrioSaysUptoSaid : Prop := prioSaysUptoRow.holds Try.pinned (OpenSpec.upto prioSaysSpec)

/-- 'headlaw.PrioLeft', WHERE WHAT IT READS IS OF BULK AT MOST 1048576: true; the input reads as it did. -/
def prioLeftUptoRow : OpenClaim := { program := "ythngolnflogdnaa", sum := "3ffa9639a651e6e9aab93f83b30b569e1f1e08db2b8ccf868235f07bfa3fbc85", func := "headway/headlaw.PrioLeft", spec := "prioLeft", unfollowed := true, recurses := true, apart := false, narrowed := true }
def PrioLeftUptoSaid : Prop := prioLeftUptoRow.holds Try.pinned (OpenSpec.upto prioLeftSpec)

/-- 'headkeep.PrioFirst', WHERE WHAT IT READS IS OF BULK AT MOST 1048576: true; the input reads as it did. -/
def prioFirstUptoRow : OpenClaim := { program := "ythngolnflogdnaa", sum := "3ffa9639a651e6e9aab93f83b30b569e1f1e08db2b8ccf868235f07bfa3fbc85", func := "headway/headkeep.PrioFirst", spec := "prioFirst", apart := false, narrowed := true }
def PrioFirstUptoSaid : Prop := prioFirstUptoRow.holds Try.pinned (OpenSpec.upto prioFirstSpec)

/-- 'headkeep.PrioLeaves', WHERE WHAT IT READS IS OF BULK AT MOST 1048576: true; the input reads as it did. -/
def prioLeavesUptoRow : OpenClaim := { program := "ythngolnflogdnaa", sum := "3ffa9639a651e6e9aab93f83b30b569e1f1e08db2b8ccf868235f07bfa3fbc85", func := "headway/headkeep.PrioLeaves", spec := "prioLeaves", unfollowed := true, recurses := true, apart := false, narrowed := true }
def PrioLeavesUptoSaid : Prop := prioLeavesUptoRow.holds Try.pinned (OpenSpec.upto prioLeavesSpec)

/-- 'headkeep.PrioMore', WHERE WHAT IT READS IS OF BULK AT MOST 1048576: true; the input reads as it did. -/
def prioMoreUptoRow : OpenClaim := { program := "ythngolnflogdnaa", sum := "3ffa9639a651e6e9aab93f83b30b569e1f1e08db2b8ccf868235f07bfa3fbc85", func := "headway/headkeep.PrioMore", spec := "prioMore", apart := false, narrowed := true }
def PrioMoreUptoSaid : Prop := prioMoreUptoRow.holds Try.pinned (OpenSpec.upto prioMoreSpec)

/-- 'headtop.TopFirst', WHERE WHAT IT READS IS OF BULK AT MOST 1048576: true; the input reads as it did. -/
def topFirstUptoRow : OpenClaim := { program := "ythngolnflogdnaa", sum := "3ffa9639a651e6e9aab93f83b30b569e1f1e08db2b8ccf868235f07bfa3fbc85", func := "headway/headtop.TopFirst", spec := "topFirst", unfollowed := true, recurses := true, apart := false, narrowed := true }
def TopFirstUptoSaid : Prop := topFirstUptoRow.holds Try.pinned (OpenSpec.upto topFirstSpec)

end Rows
end Go.Proofs.Ythngolnflogdnaa
