/-
  No cell of these rows narrows 'for every input' (looked for: loops, veiled, ifaces, maps, wideKeys, modest, calm, conditions, laid).
  DERIVED. THE GIVEN ROWS OF THIS SEAT. 6 by the template 'for every input the law returns true; each argument reads behind the call as it read before'; 0 by the template 'total and deterministic' (their statements: YthjeokdabdjhfaaTotals.lean).
  GIVEN WITH THE SEED: the statements are not yours to turn. If you find one false, say at which input.
  Laid BY PROGRAM, IN A SANDBOX (cutbox-rows.mjs): the forced cells as the released guide's own fill.sh prints them over the translation a20e776304666037… (all of the seat's roots in one cut). By AI agents, Wed Nov 11 2026. No macro, syntax, notation, axiom, sorry.
-/
import Derived.Test.YthjeokdabdjhfaaChecked
import GoSem.Claim
import GoSem.ClaimJoined
import GoSem.ClaimMapViews
import Derived.JoinedTies
import Derived.KernelRfl
namespace Go.Proofs.Ythjeokdabdjhfaa
/- THE CELL 'sum', in the pinned program and in every row, IS THE sha256 OF THE DUMP (.gsa) THAT YthjeokdabdjhfaaProg.lean LOADS. Nothing in Lean hashes anything: it is a label: what it is worth is what the hold of that sum in a sandbox is worth. -/
noncomputable def Try.pinned : Pinned := { name := "ythjeokdabdjhfaa", sum := "a20e7763046660376b2d35c0bd0adc0745f1479d3912b0ebfcff53f3bef0d03f", checked := Try.checked }
namespace Rows
def none {H : Type} : Left H := { results := [], args := [] }

/-- 'headlaw.TurnsSay': WHATEVER THE INPUT: true; the input reads as it did. -/
def turnsSaySpec : ChangeSpec := { name := "turnsSay", fn := fun _ => fun
  | [d1, d2] => { results := [.lit (.bool true)], args := [d1, d2] }
  | _ => none }
def turnsSayRow : OpenClaim := { program := "ythjeokdabdjhfaa", sum := "a20e7763046660376b2d35c0bd0adc0745f1479d3912b0ebfcff53f3bef0d03f", func := "headway/headlaw.TurnsSay", spec := "turnsSay", unfollowed := true, recurses := true, apart := false }
def TurnsSaySaid : Prop := turnsSayRow.holds Try.pinned (OpenSpec.ofChange turnsSaySpec)

/-- ITS FALSE NEIGHBOUR: 'it returns false'. Refute it at one input. -/
def turnsSayWrong : ChangeSpec := { name := "turnsSay", fn := fun _ => fun
  | [d1, d2] => { results := [.lit (.bool false)], args := [d1, d2] }
  | _ => none }
def TurnsSayWrongFalsely : Prop := turnsSayRow.holds Try.pinned (OpenSpec.ofChange turnsSayWrong)

/-- 'headkeep.TurnsAll': WHATEVER THE INPUT: true; the input reads as it did. -/
def turnsAllSpec : ChangeSpec := { name := "turnsAll", fn := fun _ => fun
  | [d] => { results := [.lit (.bool true)], args := [d] }
  | _ => none }
def turnsAllRow : OpenClaim := { program := "ythjeokdabdjhfaa", sum := "a20e7763046660376b2d35c0bd0adc0745f1479d3912b0ebfcff53f3bef0d03f", func := "headway/headkeep.TurnsAll", spec := "turnsAll", unfollowed := true, recurses := true, apart := false }
def TurnsAllSaid : Prop := turnsAllRow.holds Try.pinned (OpenSpec.ofChange turnsAllSpec)

/-- ITS FALSE NEIGHBOUR: 'it returns false'. Refute it at one input. -/
def turnsAllWrong : ChangeSpec := { name := "turnsAll", fn := fun _ => fun
  | [d] => { results := [.lit (.bool false)], args := [d] }
  | _ => none }
def TurnsAllWrongFalsely : Prop := turnsAllRow.holds Try.pinned (OpenSpec.ofChange turnsAllWrong)

/-- 'headkeep.TurnsShort': WHATEVER THE INPUT: true; the input reads as it did. -/
def turnsShortSpec : ChangeSpec := { name := "turnsShort", fn := fun _ => fun
  | [d1, d2] => { results := [.lit (.bool true)], args := [d1, d2] }
  | _ => none }
def turnsShortRow : OpenClaim := { program := "ythjeokdabdjhfaa", sum := "a20e7763046660376b2d35c0bd0adc0745f1479d3912b0ebfcff53f3bef0d03f", func := "headway/headkeep.TurnsShort", spec := "turnsShort", apart := false }
def TurnsShortSaid : Prop := turnsShortRow.holds Try.pinned (OpenSpec.ofChange turnsShortSpec)

/-- ITS FALSE NEIGHBOUR: 'it returns false'. Refute it at one input. -/
def turnsShortWrong : ChangeSpec := { name := "turnsShort", fn := fun _ => fun
  | [d1, d2] => { results := [.lit (.bool false)], args := [d1, d2] }
  | _ => none }
def TurnsShortWrongFalsely : Prop := turnsShortRow.holds Try.pinned (OpenSpec.ofChange turnsShortWrong)

/-- 'headkeep.TurnsFair': WHATEVER THE INPUT: true; the input reads as it did. -/
def turnsFairSpec : ChangeSpec := { name := "turnsFair", fn := fun _ => fun
  | [d1, d2, d3, d4] => { results := [.lit (.bool true)], args := [d1, d2, d3, d4] }
  | _ => none }
def turnsFairRow : OpenClaim := { program := "ythjeokdabdjhfaa", sum := "a20e7763046660376b2d35c0bd0adc0745f1479d3912b0ebfcff53f3bef0d03f", func := "headway/headkeep.TurnsFair", spec := "turnsFair", apart := false }
def TurnsFairSaid : Prop := turnsFairRow.holds Try.pinned (OpenSpec.ofChange turnsFairSpec)

/-- ITS FALSE NEIGHBOUR: 'it returns false'. Refute it at one input. -/
def turnsFairWrong : ChangeSpec := { name := "turnsFair", fn := fun _ => fun
  | [d1, d2, d3, d4] => { results := [.lit (.bool false)], args := [d1, d2, d3, d4] }
  | _ => none }
def TurnsFairWrongFalsely : Prop := turnsFairRow.holds Try.pinned (OpenSpec.ofChange turnsFairWrong)

/-- 'headkeep.TurnsGrow': WHATEVER THE INPUT: true; the input reads as it did. -/
def turnsGrowSpec : ChangeSpec := { name := "turnsGrow", fn := fun _ => fun
  | [d1, d2, d3] => { results := [.lit (.bool true)], args := [d1, d2, d3] }
  | _ => none }
def turnsGrowRow : OpenClaim := { program := "ythjeokdabdjhfaa", sum := "a20e7763046660376b2d35c0bd0adc0745f1479d3912b0ebfcff53f3bef0d03f", func := "headway/headkeep.TurnsGrow", spec := "turnsGrow", apart := false }
def TurnsGrowSaid : Prop := turnsGrowRow.holds Try.pinned (OpenSpec.ofChange turnsGrowSpec)

/-- ITS FALSE NEIGHBOUR: 'it returns false'. Refute it at one input. -/
def turnsGrowWrong : ChangeSpec := { name := "turnsGrow", fn := fun _ => fun
  | [d1, d2, d3] => { results := [.lit (.bool false)], args := [d1, d2, d3] }
  | _ => none }
def TurnsGrowWrongFalsely : Prop := turnsGrowRow.holds Try.pinned (OpenSpec.ofChange turnsGrowWrong)

/-- 'headkeep.TurnsAlone': WHATEVER THE INPUT: true; the input reads as it did. -/
def turnsAloneSpec : ChangeSpec := { name := "turnsAlone", fn := fun _ => fun
  | [d1, d2, d3] => { results := [.lit (.bool true)], args := [d1, d2, d3] }
  | _ => none }
def turnsAloneRow : OpenClaim := { program := "ythjeokdabdjhfaa", sum := "a20e7763046660376b2d35c0bd0adc0745f1479d3912b0ebfcff53f3bef0d03f", func := "headway/headkeep.TurnsAlone", spec := "turnsAlone", unfollowed := true, recurses := true, apart := false }
def TurnsAloneSaid : Prop := turnsAloneRow.holds Try.pinned (OpenSpec.ofChange turnsAloneSpec)

/-- ITS FALSE NEIGHBOUR: 'it returns false'. Refute it at one input. -/
def turnsAloneWrong : ChangeSpec := { name := "turnsAlone", fn := fun _ => fun
  | [d1, d2, d3] => { results := [.lit (.bool false)], args := [d1, d2, d3] }
  | _ => none }
def TurnsAloneWrongFalsely : Prop := turnsAloneRow.holds Try.pinned (OpenSpec.ofChange turnsAloneWrong)

/- THE SECOND FORM. 'bulk': how many values and letters a reading holds, each counted each time it is reached (what is shared counts as often as it is met; a slice's spare places count too). A statement '..UptoSaid' is the law's where the arguments, and the package variables that the reading takes, are together of bulk at most 1048576: NARROWER than '..Said'. Prove '..Said' where nothing that the law and all that it calls make is longer than what came in: it says more and counts as full. Else prove '..UptoSaid'. A law counts once. -/
mutual
def uptoBulk {H : Type} : DataW H → Nat
  | .lit (.string bytes) => bytes.length + 1
  | .lit _ => 1
  | .nil => 1
  | .ptr d => uptoBulk d + 1
  | .slice elems spare => uptoBulkAll elems + uptoBulkAll spare + 1
  | .agg parts => uptoBulkAll parts + 1
  | .iface _ d => uptoBulk d + 1
  | .map entries => uptoBulkEntries entries + 1
  | .held _ => 1
def uptoBulkAll {H : Type} : List (DataW H) → Nat
  | [] => 0
  | d :: r => uptoBulk d + uptoBulkAll r
def uptoBulkEntries {H : Type} : List (Lit × DataW H) → Nat
  | [] => 0
  | x :: r => uptoBulkEntry x + uptoBulkEntries r
def uptoBulkEntry {H : Type} : Lit × DataW H → Nat
  | (.string bytes, d) => bytes.length + uptoBulk d + 1
  | (_, d) => uptoBulk d + 1
 end
def uptoSmall : (H : Type) → List (DataW H) → Bool := fun _ ds => decide (uptoBulkAll ds ≤ 1048576)
def OpenSpec.upto (s : _root_.Go.ChangeSpec) : _root_.Go.OpenSpec := { _root_.Go.OpenSpec.ofChange s with cond := some uptoSmall }

/-- 'headlaw.TurnsSay', WHERE WHAT IT READS IS OF BULK AT MOST 1048576: true; the input reads as it did. -/
def turnsSayUptoRow : OpenClaim := { program := "ythjeokdabdjhfaa", sum := "a20e7763046660376b2d35c0bd0adc0745f1479d3912b0ebfcff53f3bef0d03f", func := "headway/headlaw.TurnsSay", spec := "turnsSay", unfollowed := true, recurses := true, apart := false, narrowed := true }
def TurnsSayUptoSaid : Prop := turnsSayUptoRow.holds Try.pinned (OpenSpec.upto turnsSaySpec)

/-- 'headkeep.TurnsAll', WHERE WHAT IT READS IS OF BULK AT MOST 1048576: true; the input reads as it did. -/
def turnsAllUptoRow : OpenClaim := { program := "ythjeokdabdjhfaa", sum := "a20e7763046660376b2d35c0bd0adc0745f1479d3912b0ebfcff53f3bef0d03f", func := "headway/headkeep.TurnsAll", spec := "turnsAll", unfollowed := true, recurses := true, apart := false, narrowed := true }
def TurnsAllUptoSaid : Prop := turnsAllUptoRow.holds Try.pinned (OpenSpec.upto turnsAllSpec)

/-- 'headkeep.TurnsShort', WHERE WHAT IT READS IS OF BULK AT MOST 1048576: true; the input reads as it did. -/
def turnsShortUptoRow : OpenClaim := { program := "ythjeokdabdjhfaa", sum := "a20e7763046660376b2d35c0bd0adc0745f1479d3912b0ebfcff53f3bef0d03f", func := "headway/headkeep.TurnsShort", spec := "turnsShort", apart := false, narrowed := true }
def TurnsShortUptoSaid : Prop := turnsShortUptoRow.holds Try.pinned (OpenSpec.upto turnsShortSpec)

/-- 'headkeep.TurnsFair', WHERE WHAT IT READS IS OF BULK AT MOST 1048576: true; the input reads as it did. -/
def turnsFairUptoRow : OpenClaim := { program := "ythjeokdabdjhfaa", sum := "a20e7763046660376b2d35c0bd0adc0745f1479d3912b0ebfcff53f3bef0d03f", func := "headway/headkeep.TurnsFair", spec := "turnsFair", apart := false, narrowed := true }
def TurnsFairUptoSaid : Prop := turnsFairUptoRow.holds Try.pinned (OpenSpec.upto turnsFairSpec)

/-- 'headkeep.TurnsGrow', WHERE WHAT IT READS IS OF BULK AT MOST 1048576: true; the input reads as it did. -/
def turnsGrowUptoRow : OpenClaim := { program := "ythjeokdabdjhfaa", sum := "a20e7763046660376b2d35c0bd0adc0745f1479d3912b0ebfcff53f3bef0d03f", func := "headway/headkeep.TurnsGrow", spec := "turnsGrow", apart := false, narrowed := true }
def TurnsGrowUptoSaid : Prop := turnsGrowUptoRow.holds Try.pinned (OpenSpec.upto turnsGrowSpec)

/-- 'headkeep.TurnsAlone', WHERE WHAT IT READS IS OF BULK AT MOST 1048576: true; the input reads as it did. -/
def turnsAloneUptoRow : OpenClaim := { program := "ythjeokdabdjhfaa", sum := "a20e7763046660376b2d35c0bd0adc0745f1479d3912b0ebfcff53f3bef0d03f", func := "headway/headkeep.TurnsAlone", spec := "turnsAlone", unfollowed := true, recurses := true, apart := false, narrowed := true }
def TurnsAloneUptoSaid : Prop := turnsAloneUptoRow.holds Try.pinned (OpenSpec.upto turnsAloneSpec)

end Rows
end Go.Proofs.Ythjeokdabdjhfaa
