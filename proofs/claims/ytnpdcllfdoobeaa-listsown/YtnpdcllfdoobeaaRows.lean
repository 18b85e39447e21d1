/-
  No cell of these rows narrows 'for every input' (looked for: loops, veiled, ifaces, maps, wideKeys, modest, calm, conditions, laid).
  DERIVED. THE GIVEN ROWS OF THIS SEAT. 10 by the template 'for every input the law returns true; each argument reads behind the call as it read before'; 0 by the template 'total and deterministic' (their statements: YtnpdcllfdoobeaaTotals.lean).
  GIVEN WITH THE SEED: the statements are not yours to turn. If you find one false, say at which input.
  Laid BY PROGRAM, IN A SANDBOX (cutbox-rows.mjs): the forced cells as the released guide's own fill.sh prints them over the translation d449a36ce9c888fd… (all of the seat's roots in one cut). By AI agents, Wed Nov 11 2026. No macro, syntax, notation, axiom, sorry.
-/
import Derived.Test.YtnpdcllfdoobeaaChecked
import GoSem.Claim
import GoSem.ClaimJoined
import GoSem.ClaimMapViews
import Derived.JoinedTies
import Derived.KernelRfl
namespace Go.Proofs.Ytnpdcllfdoobeaa
/- THE CELL 'sum', in the pinned program and in every row, IS THE sha256 OF THE DUMP (.gsa) THAT YtnpdcllfdoobeaaProg.lean LOADS. Nothing in Lean hashes anything: it is a label: what it is worth is what the hold of that sum in a sandbox is worth. -/
noncomputable def Try.pinned : Pinned := { name := "ytnpdcllfdoobeaa", sum := "d449a36ce9c888fd9450e318908e3ac513bef5238db65017f21e95e1f555a0b5", checked := Try.checked }
namespace Rows
def none {H : Type} : Left H := { results := [], args := [] }

/-- 'headlaw.RetrySays': WHATEVER THE INPUT: true; the input reads as it did. -/
def retrySaysSpec : ChangeSpec := { name := "retrySays", fn := fun _ => fun
  | [d1, d2, d3, d4] => { results := [.lit (.bool true)], args := [d1, d2, d3, d4] }
  | _ => none }
def retrySaysRow : OpenClaim := { program := "ytnpdcllfdoobeaa", sum := "d449a36ce9c888fd9450e318908e3ac513bef5238db65017f21e95e1f555a0b5", func := "headway/headlaw.RetrySays", spec := "retrySays", unfollowed := true, recurses := true, apart := false }
def RetrySaysSaid : Prop := retrySaysRow.holds Try.pinned (OpenSpec.ofChange retrySaysSpec)

/-- ITS FALSE NEIGHBOUR: 'it returns false'. Refute it at one input. -/
def retrySaysWrong : ChangeSpec := { name := "retrySays", fn := fun _ => fun
  | [d1, d2, d3, d4] => { results := [.lit (.bool false)], args := [d1, d2, d3, d4] }
  | _ => none }
def RetrySaysWrongFalsely : Prop := retrySaysRow.holds Try.pinned (OpenSpec.ofChange retrySaysWrong)

/-- 'headlaw.LeaseTakes': WHATEVER THE INPUT: true; the input reads as it did. -/
def leaseTakesSpec : ChangeSpec := { name := "leaseTakes", fn := fun _ => fun
  | [d1, d2] => { results := [.lit (.bool true)], args := [d1, d2] }
  | _ => none }
def leaseTakesRow : OpenClaim := { program := "ytnpdcllfdoobeaa", sum := "d449a36ce9c888fd9450e318908e3ac513bef5238db65017f21e95e1f555a0b5", func := "headway/headlaw.LeaseTakes", spec := "leaseTakes", inPlace := ["slices.overlaps[headway/api.Lease]"], unfollowed := true, recurses := true, apart := false }
def LeaseTakesSaid : Prop := leaseTakesRow.holds Try.pinned (OpenSpec.ofChange leaseTakesSpec)

/-- ITS FALSE NEIGHBOUR: 'it returns false'. Refute it at one input. -/
def leaseTakesWrong : ChangeSpec := { name := "leaseTakes", fn := fun _ => fun
  | [d1, d2] => { results := [.lit (.bool false)], args := [d1, d2] }
  | _ => none }
def LeaseTakesWrongFalsely : Prop := leaseTakesRow.holds Try.pinned (OpenSpec.ofChange leaseTakesWrong)

/-- 'headlaw.LeaseTells': WHATEVER THE INPUT: true; the input reads as it did. -/
def leaseTellsSpec : ChangeSpec := { name := "leaseTells", fn := fun _ => fun
  | [d1, d2, d3] => { results := [.lit (.bool true)], args := [d1, d2, d3] }
  | _ => none }
def leaseTellsRow : OpenClaim := { program := "ytnpdcllfdoobeaa", sum := "d449a36ce9c888fd9450e318908e3ac513bef5238db65017f21e95e1f555a0b5", func := "headway/headlaw.LeaseTells", spec := "leaseTells", unfollowed := true, recurses := true, apart := false }
def LeaseTellsSaid : Prop := leaseTellsRow.holds Try.pinned (OpenSpec.ofChange leaseTellsSpec)

/-- ITS FALSE NEIGHBOUR: 'it returns false'. Refute it at one input. -/
def leaseTellsWrong : ChangeSpec := { name := "leaseTells", fn := fun _ => fun
  | [d1, d2, d3] => { results := [.lit (.bool false)], args := [d1, d2, d3] }
  | _ => none }
def LeaseTellsWrongFalsely : Prop := leaseTellsRow.holds Try.pinned (OpenSpec.ofChange leaseTellsWrong)

/-- 'headkeep.RetryWaits': WHATEVER THE INPUT: true; the input reads as it did. -/
def retryWaitsSpec : ChangeSpec := { name := "retryWaits", fn := fun _ => fun
  | [d1, d2, d3] => { results := [.lit (.bool true)], args := [d1, d2, d3] }
  | _ => none }
def retryWaitsRow : OpenClaim := { program := "ytnpdcllfdoobeaa", sum := "d449a36ce9c888fd9450e318908e3ac513bef5238db65017f21e95e1f555a0b5", func := "headway/headkeep.RetryWaits", spec := "retryWaits", apart := false }
def RetryWaitsSaid : Prop := retryWaitsRow.holds Try.pinned (OpenSpec.ofChange retryWaitsSpec)

/-- ITS FALSE NEIGHBOUR: 'it returns false'. Refute it at one input. -/
def retryWaitsWrong : ChangeSpec := { name := "retryWaits", fn := fun _ => fun
  | [d1, d2, d3] => { results := [.lit (.bool false)], args := [d1, d2, d3] }
  | _ => none }
def RetryWaitsWrongFalsely : Prop := retryWaitsRow.holds Try.pinned (OpenSpec.ofChange retryWaitsWrong)

/-- 'headkeep.RetryLater': WHATEVER THE INPUT: true; the input reads as it did. -/
def retryLaterSpec : ChangeSpec := { name := "retryLater", fn := fun _ => fun
  | [d1, d2, d3, d4] => { results := [.lit (.bool true)], args := [d1, d2, d3, d4] }
  | _ => none }
def retryLaterRow : OpenClaim := { program := "ytnpdcllfdoobeaa", sum := "d449a36ce9c888fd9450e318908e3ac513bef5238db65017f21e95e1f555a0b5", func := "headway/headkeep.RetryLater", spec := "retryLater", apart := false }
def RetryLaterSaid : Prop := retryLaterRow.holds Try.pinned (OpenSpec.ofChange retryLaterSpec)

/-- ITS FALSE NEIGHBOUR: 'it returns false'. Refute it at one input. -/
def retryLaterWrong : ChangeSpec := { name := "retryLater", fn := fun _ => fun
  | [d1, d2, d3, d4] => { results := [.lit (.bool false)], args := [d1, d2, d3, d4] }
  | _ => none }
def RetryLaterWrongFalsely : Prop := retryLaterRow.holds Try.pinned (OpenSpec.ofChange retryLaterWrong)

/-- 'headkeep.LeaseHolds': WHATEVER THE INPUT: true; the input reads as it did. -/
def leaseHoldsSpec : ChangeSpec := { name := "leaseHolds", fn := fun _ => fun
  | [d1, d2, d3, d4] => { results := [.lit (.bool true)], args := [d1, d2, d3, d4] }
  | _ => none }
def leaseHoldsRow : OpenClaim := { program := "ytnpdcllfdoobeaa", sum := "d449a36ce9c888fd9450e318908e3ac513bef5238db65017f21e95e1f555a0b5", func := "headway/headkeep.LeaseHolds", spec := "leaseHolds", inPlace := ["slices.overlaps[headway/api.Lease]"], unfollowed := true, recurses := true, apart := false }
def LeaseHoldsSaid : Prop := leaseHoldsRow.holds Try.pinned (OpenSpec.ofChange leaseHoldsSpec)

/-- ITS FALSE NEIGHBOUR: 'it returns false'. Refute it at one input. -/
def leaseHoldsWrong : ChangeSpec := { name := "leaseHolds", fn := fun _ => fun
  | [d1, d2, d3, d4] => { results := [.lit (.bool false)], args := [d1, d2, d3, d4] }
  | _ => none }
def LeaseHoldsWrongFalsely : Prop := leaseHoldsRow.holds Try.pinned (OpenSpec.ofChange leaseHoldsWrong)

/-- 'headkeep.LeasePins': WHATEVER THE INPUT: true; the input reads as it did. -/
def leasePinsSpec : ChangeSpec := { name := "leasePins", fn := fun _ => fun
  | [d1, d2] => { results := [.lit (.bool true)], args := [d1, d2] }
  | _ => none }
def leasePinsRow : OpenClaim := { program := "ytnpdcllfdoobeaa", sum := "d449a36ce9c888fd9450e318908e3ac513bef5238db65017f21e95e1f555a0b5", func := "headway/headkeep.LeasePins", spec := "leasePins", unfollowed := true, recurses := true, apart := false }
def LeasePinsSaid : Prop := leasePinsRow.holds Try.pinned (OpenSpec.ofChange leasePinsSpec)

/-- ITS FALSE NEIGHBOUR: 'it returns false'. Refute it at one input. -/
def leasePinsWrong : ChangeSpec := { name := "leasePins", fn := fun _ => fun
  | [d1, d2] => { results := [.lit (.bool false)], args := [d1, d2] }
  | _ => none }
def LeasePinsWrongFalsely : Prop := leasePinsRow.holds Try.pinned (OpenSpec.ofChange leasePinsWrong)

/-- 'headkeep.LeaseTurns': WHATEVER THE INPUT: true; the input reads as it did. -/
def leaseTurnsSpec : ChangeSpec := { name := "leaseTurns", fn := fun _ => fun
  | [d1, d2, d3, d4, d5] => { results := [.lit (.bool true)], args := [d1, d2, d3, d4, d5] }
  | _ => none }
def leaseTurnsRow : OpenClaim := { program := "ytnpdcllfdoobeaa", sum := "d449a36ce9c888fd9450e318908e3ac513bef5238db65017f21e95e1f555a0b5", func := "headway/headkeep.LeaseTurns", spec := "leaseTurns", inPlace := ["slices.overlaps[headway/api.Lease]"], unfollowed := true, recurses := true, apart := false }
def LeaseTurnsSaid : Prop := leaseTurnsRow.holds Try.pinned (OpenSpec.ofChange leaseTurnsSpec)

/-- ITS FALSE NEIGHBOUR: 'it returns false'. Refute it at one input. -/
def leaseTurnsWrong : ChangeSpec := { name := "leaseTurns", fn := fun _ => fun
  | [d1, d2, d3, d4, d5] => { results := [.lit (.bool false)], args := [d1, d2, d3, d4, d5] }
  | _ => none }
def LeaseTurnsWrongFalsely : Prop := leaseTurnsRow.holds Try.pinned (OpenSpec.ofChange leaseTurnsWrong)

/-- 'headkeep.LeaseLater': WHATEVER THE INPUT: true; the input reads as it did. -/
def leaseLaterSpec : ChangeSpec := { name := "leaseLater", fn := fun _ => fun
  | [d1, d2, d3, d4, d5] => { results := [.lit (.bool true)], args := [d1, d2, d3, d4, d5] }
  | _ => none }
def leaseLaterRow : OpenClaim := { program := "ytnpdcllfdoobeaa", sum := "d449a36ce9c888fd9450e318908e3ac513bef5238db65017f21e95e1f555a0b5", func := "headway/headkeep.LeaseLater", spec := "leaseLater", unfollowed := true, recurses := true, apart := false }
def LeaseLaterSaid : Prop := leaseLaterRow.holds Try.pinned (OpenSpec.ofChange leaseLaterSpec)

/-- ITS FALSE NEIGHBOUR: 'it returns false'. Refute it at one input. -/
def leaseLaterWrong : ChangeSpec := { name := "leaseLater", fn := fun _ => fun
  | [d1, d2, d3, d4, d5] => { results := [.lit (.bool false)], args := [d1, d2, d3, d4, d5] }
  | _ => none }
def LeaseLaterWrongFalsely : Prop := leaseLaterRow.holds Try.pinned (OpenSpec.ofChange leaseLaterWrong)

/-- 'headkeep.ListsOwn': WHATEVER THE INPUT: true; the input reads as it did. -/
def listsOwnSpec : ChangeSpec := { name := "listsOwn", fn := fun _ => fun
  | [d1, d2, d3, d4, d5, d6] => { results := [.lit (.bool true)], args := [d1, d2, d3, d4, d5, d6] }
  | _ => none }
def listsOwnRow : OpenClaim := { program := "ytnpdcllfdoobeaa", sum := "d449a36ce9c888fd9450e318908e3ac513bef5238db65017f21e95e1f555a0b5", func := "headway/headkeep.ListsOwn", spec := "listsOwn", inPlace := ["slices.overlaps[headway/api.Lease]"], unfollowed := true, recurses := true, apart := false }
def ListsOwnSaid : Prop := listsOwnRow.holds Try.pinned (OpenSpec.ofChange listsOwnSpec)

/-- ITS FALSE NEIGHBOUR: 'it returns false'. Refute it at one input. -/
def listsOwnWrong : ChangeSpec := { name := "listsOwn", fn := fun _ => fun
  | [d1, d2, d3, d4, d5, d6] => { results := [.lit (.bool false)], args := [d1, d2, d3, d4, d5, d6] }
  | _ => none }
def ListsOwnWrongFalsely : Prop := listsOwnRow.holds Try.pinned (OpenSpec.ofChange listsOwnWrong)

/- THE SECOND FORM. 'bulk': how many values and letters a reading holds, each counted each time it is reached (what is shared counts as often as it is met; a slice's spare places count too). A statement '..UptoSaid' is the law's where the arguments, and the package variables that the reading takes, are together of bulk at most 1048576: NARROWER than '..Said'. Prove '..Said' where nothing that the law and all that it calls make is longer than what came in: it says more and counts as full. Else prove '..UptoSaid'. A law counts once. -/
mutual
def uptoBulk {H : Type} : DataW H → Nat
  | .lit (.string bytes) => bytes.length + 1
  | .lit _ => 1
  | .nil => 1
  | .ptr d => uptoBulk d + 1
  | .slice elems spare => uptoBulkAll elems + uptoBulkAll spare + 1
  | .agg parts => uptoBulkAll parts + 1
  | .iface _ d => uptoBulk d + 1
  | .map entries => uptoBulkEntries entries + 1
  | .held _ => 1
def uptoBulkAll {H : Type} : List (DataW H) → Nat
  | [] => 0
  | d :: r => uptoBulk d + uptoBulkAll r
def uptoBulkEntries {H : Type} : List (Lit × DataW H) → Nat
  | [] => 0
  | x :: r => uptoBulkEntry x + uptoBulkEntries r
def uptoBulkEntry {H : Type} : Lit × DataW H → Nat
  | (.string bytes, d) => bytes.length + uptoBulk d + 1
  | (_, d) => uptoBulk d + 1
 end
def uptoSmall : (H : Type) → List (DataW H) → Bool := fun _ ds => decide (uptoBulkAll ds ≤ 1048576)
def OpenSpec.upto (s : _root_.Go.ChangeSpec) : _root_.Go.OpenSpec := { _root_.Go.OpenSpec.ofChange s with cond := some uptoSmall }

/-- 'headlaw.RetrySays', WHERE WHAT IT READS IS OF BULK AT MOST 1048576: true; the input reads as it did. -/
def retrySaysUptoRow : OpenClaim := { program := "ytnpdcllfdoobeaa", sum := "d449a36ce9c888fd9450e318908e3ac513bef5238db65017f21e95e1f555a0b5", func := "headway/headlaw.RetrySays", spec := "retrySays", unfollowed := true, recurses := true, apart := false, narrowed := true }
def RetrySaysUptoSaid : Prop := retrySaysUptoRow.holds Try.pinned (OpenSpec.upto retrySaysSpec)

/-- 'headlaw.LeaseTakes', WHERE WHAT IT READS IS OF BULK AT MOST 1048576: true; the input reads as it did. -/
def leaseTakesUptoRow : OpenClaim := { program := "ytnpdcllfdoobeaa", sum := "d449a36ce9c888fd9450e318908e3ac513bef5238db65017f21e95e1f555a0b5", func := "headway/headlaw.LeaseTakes", spec := "leaseTakes", inPlace := ["slices.overlaps[headway/api.Lease]"], unfollowed := true, recurses := true, apart := false, narrowed := true }
def LeaseTakesUptoSaid : Prop := leaseTakesUptoRow.holds Try.pinned (OpenSpec.upto leaseTakesSpec)

/-- 'headlaw.LeaseTells', WHERE WHAT IT READS IS OF BULK AT MOST 1048576: true; the input reads as it did. -/
def leaseTellsUptoRow : OpenClaim := { program := "ytnpdcllfdoobeaa", sum := "d449a36ce9c888fd9450e318908e3ac513bef5238db65017f21e95e1f555a0b5", func := "headway/headlaw.LeaseTells", spec := "leaseTells", unfollowed := true, recurses := true, apart := false, narrowed := true }
def LeaseTellsUptoSaid : Prop := leaseTellsUptoRow.holds Try.pinned (OpenSpec.upto leaseTellsSpec)

/-- 'headkeep.RetryWaits', WHERE WHAT IT READS IS OF BULK AT MOST 1048576: true; the input reads as it did. -/
def retryWaitsUptoRow : OpenClaim := { program := "ytnpdcllfdoobeaa", sum := "d449a36ce9c888fd9450e318908e3ac513bef5238db65017f21e95e1f555a0b5", func := "headway/headkeep.RetryWaits", spec := "retryWaits", apart := false, narrowed := true }
def RetryWaitsUptoSaid : Prop := retryWaitsUptoRow.holds Try.pinned (OpenSpec.upto retryWaitsSpec)

/-- 'headkeep.RetryLater', WHERE WHAT IT READS IS OF BULK AT MOST 1048576: true; the input reads as it did. -/
def retryLaterUptoRow : OpenClaim := { program := "ytnpdcllfdoobeaa", sum := "d449a36ce9c888fd9450e318908e3ac513bef5238db65017f21e95e1f555a0b5", func := "headway/headkeep.RetryLater", spec := "retryLater", apart := false, narrowed := true }
def RetryLaterUptoSaid : Prop := retryLaterUptoRow.holds Try.pinned (OpenSpec.upto retryLaterSpec)

/-- 'headkeep.LeaseHolds', WHERE WHAT IT READS IS OF BULK AT MOST 1048576: true; the input reads as it did. -/
def leaseHoldsUptoRow : OpenClaim := { program := "ytnpdcllfdoobeaa", sum := "d449a36ce9c888fd9450e318908e3ac513bef5238db65017f21e95e1f555a0b5", func := "headway/headkeep.LeaseHolds", spec := "leaseHolds", inPlace := ["slices.overlaps[headway/api.Lease]"], unfollowed := true, recurses := true, apart := false, narrowed := true }
def LeaseHoldsUptoSaid : Prop := leaseHoldsUptoRow.holds Try.pinned (OpenSpec.upto leaseHoldsSpec)

/-- 'headkeep.LeasePins', WHERE WHAT IT READS IS OF BULK AT MOST 1048576: true; the input reads as it did. -/
def leasePinsUptoRow : OpenClaim := { program := "ytnpdcllfdoobeaa", sum := "d449a36ce9c888fd9450e318908e3ac513bef5238db65017f21e95e1f555a0b5", func := "headway/headkeep.LeasePins", spec := "leasePins", unfollowed := true, recurses := true, apart := false, narrowed := true }
def LeasePinsUptoSaid : Prop := leasePinsUptoRow.holds Try.pinned (OpenSpec.upto leasePinsSpec)

/-- 'headkeep.LeaseTurns', WHERE WHAT IT READS IS OF BULK AT MOST 1048576: true; the input reads as it did. -/
def leaseTurnsUptoRow : OpenClaim := { program := "ytnpdcllfdoobeaa", sum := "d449a36ce9c888fd9450e318908e3ac513bef5238db65017f21e95e1f555a0b5", func := "headway/headkeep.LeaseTurns", spec := "leaseTurns", inPlace := ["slices.overlaps[headway/api.Lease]"], unfollowed := true, recurses := true, apart := false, narrowed := true }
def LeaseTurnsUptoSaid : Prop := leaseTurnsUptoRow.holds Try.pinned (OpenSpec.upto leaseTurnsSpec)

/-- 'headkeep.LeaseLater', WHERE WHAT IT READS IS OF BULK AT MOST 1048576: true; the input reads as it did. -/
def leaseLaterUptoRow : OpenClaim := { program := "ytnpdcllfdoobeaa", sum := "d449a36ce9c888fd9450e318908e3ac513bef5238db65017f21e95e1f555a0b5", func := "headway/headkeep.LeaseLater", spec := "leaseLater", unfollowed := true, recurses := true, apart := false, narrowed := true }
def LeaseLaterUptoSaid : Prop := leaseLaterUptoRow.holds Try.pinned (OpenSpec.upto leaseLaterSpec)

/-- 'headkeep.ListsOwn', WHERE WHAT IT READS IS OF BULK AT MOST 1048576: true; the input reads as it did. -/
def listsOwnUptoRow : OpenClaim := { program := "ytnpdcllfdoobeaa", sum := "d449a36ce9c888fd9450e318908e3ac513bef5238db65017f21e95e1f555a0b5", func := "headway/headkeep.ListsOwn", spec := "listsOwn", inPlace := ["slices.overlaps[headway/api.Lease]"], unfollowed := true, recurses := true, apart := false, narrowed := true }
def ListsOwnUptoSaid : Prop := listsOwnUptoRow.holds Try.pinned (OpenSpec.upto listsOwnSpec)

end Rows
end Go.Proofs.Ytnpdcllfdoobeaa
