/-
  No cell of these rows narrows 'for every input' (looked for: loops, veiled, ifaces, maps, wideKeys, modest, calm, conditions, laid).
  DERIVED. THE GIVEN ROWS OF THIS SEAT. 5 by the template 'for every input the law returns true; each argument reads behind the call as it read before'; 0 by the template 'total and deterministic' (their statements: YtamkadffencpgaaTotals.lean).
  GIVEN WITH THE SEED: the statements are not yours to turn. If you find one false, say at which input.
  Laid BY PROGRAM, IN A SANDBOX (cutbox-rows.mjs): the forced cells as the released guide's own fill.sh prints them over the translation d5e5f77c43dd5548… (all of the seat's roots in one cut). By AI agents, Wed Nov 11 2026. No macro, syntax, notation, axiom, sorry.
-/
import Derived.Test.YtamkadffencpgaaChecked
import GoSem.Claim
import GoSem.ClaimJoined
import GoSem.ClaimMapViews
import Derived.JoinedTies
import Derived.KernelRfl
namespace Go.Proofs.Ytamkadffencpgaa
/- THE CELL 'sum', in the pinned program and in every row, IS THE sha256 OF THE DUMP (.gsa) THAT YtamkadffencpgaaProg.lean LOADS. Nothing in Lean hashes anything: it is a label: what it is worth is what the hold of that sum in a sandbox is worth. -/
noncomputable def Try.pinned : Pinned := { name := "ytamkadffencpgaa", sum := "d5e5f77c43dd554806ce5968356bd510f7851a4de011ee65f98d524d3fc516af", checked := Try.checked }
namespace Rows
def none {H : Type} : Left H := { results := [], args := [] }

/-- 'headlaw.FairSays': WHATEVER THE INPUT: true; the input reads as it did. -/
def fairSaysSpec : ChangeSpec := { name := "fairSays", fn := fun _ => fun
  | [d1, d2] => { results := [.lit (.bool true)], args := [d1, d2] }
  | _ => none }
def fairSaysRow : OpenClaim := { program := "ytamkadffencpgaa", sum := "d5e5f77c43dd554806ce5968356bd510f7851a4de011ee65f98d524d3fc516af", func := "headway/headlaw.FairSays", spec := "fairSays", unfollowed := true, recurses := true, apart := false }
def FairSaysSaid : Prop := fairSaysRow.holds Try.pinned (OpenSpec.ofChange fairSaysSpec)

/-- ITS FALSE NEIGHBOUR: 'it returns false'. Refute it at one input. -/
def fairSaysWrong : ChangeSpec := { name := "fairSays", fn := fun _ => fun
  | [d1, d2] => { results := [.lit (.bool false)], args := [d1, d2] }
  | _ => none }
def FairSaysWrongFalsely : Prop := fairSaysRow.holds Try.pinned (OpenSpec.ofChange fairSaysWrong)

/-- 'headkeep.FairAll': WHATEVER THE INPUT: true; the input reads as it did. -/
def fairAllSpec : ChangeSpec := { name := "fairAll", fn := fun _ => fun
  | [d1, d2] => { results := [.lit (.bool true)], args := [d1, d2] }
  | _ => none }
def fairAllRow : OpenClaim := { program := "ytamkadffencpgaa", sum := "d5e5f77c43dd554806ce5968356bd510f7851a4de011ee65f98d524d3fc516af", func := "headway/headkeep.FairAll", spec := "fairAll", unfollowed := true, recurses := true, apart := false }
def FairAllSaid : Prop := fairAllRow.holds Try.pinned (OpenSpec.ofChange fairAllSpec)

/-- ITS FALSE NEIGHBOUR: 'it returns false'. Refute it at one input. -/
def fairAllWrong : ChangeSpec := { name := "fairAll", fn := fun _ => fun
  | [d1, d2] => { results := [.lit (.bool false)], args := [d1, d2] }
  | _ => none }
def FairAllWrongFalsely : Prop := fairAllRow.holds Try.pinned (OpenSpec.ofChange fairAllWrong)

/-- 'headkeep.FairShares': WHATEVER THE INPUT: true; the input reads as it did. -/
def fairSharesSpec : ChangeSpec := { name := "fairShares", fn := fun _ => fun
  | [d1, d2, d3, d4] => { results := [.lit (.bool true)], args := [d1, d2, d3, d4] }
  | _ => none }
def fairSharesRow : OpenClaim := { program := "ytamkadffencpgaa", sum := "d5e5f77c43dd554806ce5968356bd510f7851a4de011ee65f98d524d3fc516af", func := "headway/headkeep.FairShares", spec := "fairShares", unfollowed := true, recurses := true, apart := false }
def FairSharesSaid : Prop := fairSharesRow.holds Try.pinned (OpenSpec.ofChange fairSharesSpec)

/-- ITS FALSE NEIGHBOUR: 'it returns false'. Refute it at one input. -/
def fairSharesWrong : ChangeSpec := { name := "fairShares", fn := fun _ => fun
  | [d1, d2, d3, d4] => { results := [.lit (.bool false)], args := [d1, d2, d3, d4] }
  | _ => none }
def FairSharesWrongFalsely : Prop := fairSharesRow.holds Try.pinned (OpenSpec.ofChange fairSharesWrong)

/-- 'headkeep.FairOne': WHATEVER THE INPUT: true; the input reads as it did. -/
def fairOneSpec : ChangeSpec := { name := "fairOne", fn := fun _ => fun
  | [d1, d2] => { results := [.lit (.bool true)], args := [d1, d2] }
  | _ => none }
def fairOneRow : OpenClaim := { program := "ytamkadffencpgaa", sum := "d5e5f77c43dd554806ce5968356bd510f7851a4de011ee65f98d524d3fc516af", func := "headway/headkeep.FairOne", spec := "fairOne", unfollowed := true, recurses := true, apart := false }
def FairOneSaid : Prop := fairOneRow.holds Try.pinned (OpenSpec.ofChange fairOneSpec)

/-- ITS FALSE NEIGHBOUR: 'it returns false'. Refute it at one input. -/
def fairOneWrong : ChangeSpec := { name := "fairOne", fn := fun _ => fun
  | [d1, d2] => { results := [.lit (.bool false)], args := [d1, d2] }
  | _ => none }
def FairOneWrongFalsely : Prop := fairOneRow.holds Try.pinned (OpenSpec.ofChange fairOneWrong)

/-- 'headkeep.QueuesOwn': WHATEVER THE INPUT: true; the input reads as it did. -/
def queuesOwnSpec : ChangeSpec := { name := "queuesOwn", fn := fun _ => fun
  | [d1, d2, d3, d4] => { results := [.lit (.bool true)], args := [d1, d2, d3, d4] }
  | _ => none }
def queuesOwnRow : OpenClaim := { program := "ytamkadffencpgaa", sum := "d5e5f77c43dd554806ce5968356bd510f7851a4de011ee65f98d524d3fc516af", func := "headway/headkeep.QueuesOwn", spec := "queuesOwn", unfollowed := true, recurses := true, apart := false }
def QueuesOwnSaid : Prop := queuesOwnRow.holds Try.pinned (OpenSpec.ofChange queuesOwnSpec)

/-- ITS FALSE NEIGHBOUR: 'it returns false'. Refute it at one input. -/
def queuesOwnWrong : ChangeSpec := { name := "queuesOwn", fn := fun _ => fun
  | [d1, d2, d3, d4] => { results := [.lit (.bool false)], args := [d1, d2, d3, d4] }
  | _ => none }
def QueuesOwnWrongFalsely : Prop := queuesOwnRow.holds Try.pinned (OpenSpec.ofChange queuesOwnWrong)

/- THE SECOND FORM. 'bulk': how many values and letters a reading holds, each counted each time it is reached (what is shared counts as often as it is met; a slice's spare places count too). A statement '..UptoSaid' is the law's where the arguments, and the package variables that the reading takes, are together of bulk at most 1048576: NARROWER than '..Said'. Prove '..Said' where nothing that the law and all that it calls make is longer than what came in: it says more and counts as full. Else prove '..UptoSaid'. A law counts once. -/
mutual
def uptoBulk {H : Type} : DataW H → Nat
  | .lit (.string bytes) => bytes.length + 1
  | .lit _ => 1
  | .nil => 1
  | .ptr d => uptoBulk d + 1
  | .slice elems spare => uptoBulkAll elems + uptoBulkAll spare + 1
  | .agg parts => uptoBulkAll parts + 1
  | .iface _ d => uptoBulk d + 1
  | .map entries => uptoBulkEntries entries + 1
  | .held _ => 1
def uptoBulkAll {H : Type} : List (DataW H) → Nat
  | [] => 0
  | d :: r => uptoBulk d + uptoBulkAll r
def uptoBulkEntries {H : Type} : List (Lit × DataW H) → Nat
  | [] => 0
  | x :: r => uptoBulkEntry x + uptoBulkEntries r
def uptoBulkEntry {H : Type} : Lit × DataW H → Nat
  | (.string bytes, d) => bytes.length + uptoBulk d + 1
  | (_, d) => uptoBulk d + 1
 end
def uptoSmall : (H : Type) → List (DataW H) → Bool := fun _ ds => decide (uptoBulkAll ds ≤ 1048576)
def OpenSpec.upto (s : _root_.Go.ChangeSpec) : _root_.Go.OpenSpec := { _root_.Go.OpenSpec.ofChange s with cond := some uptoSmall }

/-- 'headlaw.FairSays', WHERE WHAT IT READS IS OF BULK AT MOST 1048576: true; the input reads as it did. -/
def fairSaysUptoRow : OpenClaim := { program := "ytamkadffencpgaa", sum := "d5e5f77c43dd554806ce5968356bd510f7851a4de011ee65f98d524d3fc516af", func := "headway/headlaw.FairSays", spec := "fairSays", unfollowed := true, recurses := true, apart := false, narrowed := true }
def FairSaysUptoSaid : Prop := fairSaysUptoRow.holds Try.pinned (OpenSpec.upto fairSaysSpec)

/-- 'headkeep.FairAll', WHERE WHAT IT READS IS OF BULK AT MOST 1048576: true; the input reads as it did. -/
def fairAllUptoRow : OpenClaim := { program := "ytamkadffencpgaa", sum := "d5e5f77c43dd554806ce5968356bd510f7851a4de011ee65f98d524d3fc516af", func := "headway/headkeep.FairAll", spec := "fairAll", unfollowed := true, recurses := true, apart := false, narrowed := true }
def FairAllUptoSaid : Prop := fairAllUptoRow.holds Try.pinned (OpenSpec.upto fairAllSpec)

/-- 'headkeep.FairShares', WHERE WHAT IT READS IS OF BULK AT MOST 1048576: true; the input reads as it did. -/
def fairSharesUptoRow : OpenClaim := { program := "ytamkadffencpgaa", sum := "d5e5f77c43dd554806ce5968356bd510f7851a4de011ee65f98d524d3fc516af", func := "headway/headkeep.FairShares", spec := "fairShares", unfollowed := true, recurses := true, apart := false, narrowed := true }
def FairSharesUptoSaid : Prop := fairSharesUptoRow.holds Try.pinned (OpenSpec.upto fairSharesSpec)

/-- 'headkeep.FairOne', WHERE WHAT IT READS IS OF BULK AT MOST 1048576: true; the input reads as it did. -/
def fairOneUptoRow : OpenClaim := { program := "ytamkadffencpgaa", sum := "d5e5f77c43dd554806ce5968356bd510f7851a4de011ee65f98d524d3fc516af", func := "headway/headkeep.FairOne", spec := "fairOne", unfollowed := true, recurses := true, apart := false, narrowed := true }
def FairOneUptoSaid : Prop := fairOneUptoRow.holds Try.pinned (OpenSpec.upto fairOneSpec)

/-- 'headkeep.QueuesOwn', WHERE WHAT IT READS IS OF BULK AT MOST 1048576: true; the input reads as it did. -/
def queuesOwnUptoRow : OpenClaim := { program := "ytamkadffencpgaa", sum := "d5e5f77c43dd554806ce5968356bd510f7851a4de011ee65f98d524d3fc516af", func := "headway/headkeep.QueuesOwn", spec := "queuesOwn", unfollowed := true, recurses := true, apart := false, narrowed := true }
def QueuesOwnUptoSaid : Prop := queuesOwnUptoRow.holds Try.pinned (OpenSpec.upto queuesOwnSpec)

end Rows
end Go.Proofs.Ytamkadffencpgaa
