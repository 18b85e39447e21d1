/-
  No cell of these rows narrows 'for every input' (looked for: loops, veiled, ifaces, maps, wideKeys, modest, calm, conditions, laid).
  DERIVED. THE GIVEN ROWS OF THIS SEAT. 8 by the template 'for every input the law returns true; each argument reads behind the call as it read before'; 0 by the template 'total and deterministic' (their statements: YtccjegnflienhaaTotals.lean).
  GIVEN WITH THE SEED: the statements are not yours to turn. If you find one false, say at which input.
  Laid BY PROGRAM, IN A SANDBOX (cutbox-rows.mjs): the forced cells as the released guide's own fill.sh prints them over the translation 99b498b74219304c… (all of the seat's roots in one cut). By AI agents, Wed Nov 11 2026. No macro, syntax, notation, axiom, sorry.
-/
import Derived.Test.YtccjegnflienhaaChecked
import GoSem.Claim
import GoSem.ClaimJoined
import GoSem.ClaimMapViews
import Derived.JoinedTies
import Derived.KernelRfl
namespace Go.Proofs.Ytccjegnflienhaa
/- THE CELL 'sum', in the pinned program and in every row, IS THE sha256 OF THE DUMP (.gsa) THAT YtccjegnflienhaaProg.lean LOADS. Nothing in Lean hashes anything: it is a label: what it is worth is what the hold of that sum in a sandbox is worth. -/
noncomputable def Try.pinned : Pinned := { name := "ytccjegnflienhaa", sum := "99b498b74219304c64d02a826b4fe7a63528b07cd70fabcd19c123b2e0870076", checked := Try.checked }
namespace Rows
def none {H : Type} : Left H := { results := [], args := [] }

/-- 'headlaw.RanksSay': WHATEVER THE INPUT: true; the input reads as it did. -/
def ranksSaySpec : ChangeSpec := { name := "ranksSay", fn := fun _ => fun
  | [d1, d2] => { results := [.lit (.bool true)], args := [d1, d2] }
  | _ => none }
def ranksSayRow : OpenClaim := { program := "ytccjegnflienhaa", sum := "99b498b74219304c64d02a826b4fe7a63528b07cd70fabcd19c123b2e0870076", func := "headway/headlaw.RanksSay", spec := "ranksSay", apart := false }
def RanksSaySaid : Prop := ranksSayRow.holds Try.pinned (OpenSpec.ofChange ranksSaySpec)

/-- ITS FALSE NEIGHBOUR: 'it returns false'. Refute it at one input. -/
def ranksSayWrong : ChangeSpec := { name := "ranksSay", fn := fun _ => fun
  | [d1, d2] => { results := [.lit (.bool false)], args := [d1, d2] }
  | _ => none }
def RanksSayWrongFalsely : Prop := ranksSayRow.holds Try.pinned (OpenSpec.ofChange ranksSayWrong)

/-- 'headlaw.RanksRuns': WHATEVER THE INPUT: true; the input reads as it did. -/
def ranksRunsSpec : ChangeSpec := { name := "ranksRuns", fn := fun _ => fun
  | [d1, d2] => { results := [.lit (.bool true)], args := [d1, d2] }
  | _ => none }
def ranksRunsRow : OpenClaim := { program := "ytccjegnflienhaa", sum := "99b498b74219304c64d02a826b4fe7a63528b07cd70fabcd19c123b2e0870076", func := "headway/headlaw.RanksRuns", spec := "ranksRuns", unfollowed := true, recurses := true, apart := false }
def RanksRunsSaid : Prop := ranksRunsRow.holds Try.pinned (OpenSpec.ofChange ranksRunsSpec)

/-- ITS FALSE NEIGHBOUR: 'it returns false'. Refute it at one input. -/
def ranksRunsWrong : ChangeSpec := { name := "ranksRuns", fn := fun _ => fun
  | [d1, d2] => { results := [.lit (.bool false)], args := [d1, d2] }
  | _ => none }
def RanksRunsWrongFalsely : Prop := ranksRunsRow.holds Try.pinned (OpenSpec.ofChange ranksRunsWrong)

/-- 'headkeep.RanksCritical': WHATEVER THE INPUT: true; the input reads as it did. -/
def ranksCriticalSpec : ChangeSpec := { name := "ranksCritical", fn := fun _ => fun
  | [d1, d2] => { results := [.lit (.bool true)], args := [d1, d2] }
  | _ => none }
def ranksCriticalRow : OpenClaim := { program := "ytccjegnflienhaa", sum := "99b498b74219304c64d02a826b4fe7a63528b07cd70fabcd19c123b2e0870076", func := "headway/headkeep.RanksCritical", spec := "ranksCritical", unfollowed := true, recurses := true, apart := false }
def RanksCriticalSaid : Prop := ranksCriticalRow.holds Try.pinned (OpenSpec.ofChange ranksCriticalSpec)

/-- ITS FALSE NEIGHBOUR: 'it returns false'. Refute it at one input. -/
def ranksCriticalWrong : ChangeSpec := { name := "ranksCritical", fn := fun _ => fun
  | [d1, d2] => { results := [.lit (.bool false)], args := [d1, d2] }
  | _ => none }
def RanksCriticalWrongFalsely : Prop := ranksCriticalRow.holds Try.pinned (OpenSpec.ofChange ranksCriticalWrong)

/-- 'headkeep.RanksMeet': WHATEVER THE INPUT: true; the input reads as it did. -/
def ranksMeetSpec : ChangeSpec := { name := "ranksMeet", fn := fun _ => fun
  | [d] => { results := [.lit (.bool true)], args := [d] }
  | _ => none }
def ranksMeetRow : OpenClaim := { program := "ytccjegnflienhaa", sum := "99b498b74219304c64d02a826b4fe7a63528b07cd70fabcd19c123b2e0870076", func := "headway/headkeep.RanksMeet", spec := "ranksMeet", unfollowed := true, recurses := true, apart := false }
def RanksMeetSaid : Prop := ranksMeetRow.holds Try.pinned (OpenSpec.ofChange ranksMeetSpec)

/-- ITS FALSE NEIGHBOUR: 'it returns false'. Refute it at one input. -/
def ranksMeetWrong : ChangeSpec := { name := "ranksMeet", fn := fun _ => fun
  | [d] => { results := [.lit (.bool false)], args := [d] }
  | _ => none }
def RanksMeetWrongFalsely : Prop := ranksMeetRow.holds Try.pinned (OpenSpec.ofChange ranksMeetWrong)

/-- 'headkeep.RanksOrder': WHATEVER THE INPUT: true; the input reads as it did. -/
def ranksOrderSpec : ChangeSpec := { name := "ranksOrder", fn := fun _ => fun
  | [d] => { results := [.lit (.bool true)], args := [d] }
  | _ => none }
def ranksOrderRow : OpenClaim := { program := "ytccjegnflienhaa", sum := "99b498b74219304c64d02a826b4fe7a63528b07cd70fabcd19c123b2e0870076", func := "headway/headkeep.RanksOrder", spec := "ranksOrder", unfollowed := true, recurses := true, apart := false }
def RanksOrderSaid : Prop := ranksOrderRow.holds Try.pinned (OpenSpec.ofChange ranksOrderSpec)

/-- ITS FALSE NEIGHBOUR: 'it returns false'. Refute it at one input. -/
def ranksOrderWrong : ChangeSpec := { name := "ranksOrder", fn := fun _ => fun
  | [d] => { results := [.lit (.bool false)], args := [d] }
  | _ => none }
def RanksOrderWrongFalsely : Prop := ranksOrderRow.holds Try.pinned (OpenSpec.ofChange ranksOrderWrong)

/-- 'headkeep.RanksLess': WHATEVER THE INPUT: true; the input reads as it did. -/
def ranksLessSpec : ChangeSpec := { name := "ranksLess", fn := fun _ => fun
  | [d1, d2, d3] => { results := [.lit (.bool true)], args := [d1, d2, d3] }
  | _ => none }
def ranksLessRow : OpenClaim := { program := "ytccjegnflienhaa", sum := "99b498b74219304c64d02a826b4fe7a63528b07cd70fabcd19c123b2e0870076", func := "headway/headkeep.RanksLess", spec := "ranksLess", apart := false }
def RanksLessSaid : Prop := ranksLessRow.holds Try.pinned (OpenSpec.ofChange ranksLessSpec)

/-- ITS FALSE NEIGHBOUR: 'it returns false'. Refute it at one input. -/
def ranksLessWrong : ChangeSpec := { name := "ranksLess", fn := fun _ => fun
  | [d1, d2, d3] => { results := [.lit (.bool false)], args := [d1, d2, d3] }
  | _ => none }
def RanksLessWrongFalsely : Prop := ranksLessRow.holds Try.pinned (OpenSpec.ofChange ranksLessWrong)

/-- 'headkeep.RanksFirst': WHATEVER THE INPUT: true; the input reads as it did. -/
def ranksFirstSpec : ChangeSpec := { name := "ranksFirst", fn := fun _ => fun
  | [d1, d2] => { results := [.lit (.bool true)], args := [d1, d2] }
  | _ => none }
def ranksFirstRow : OpenClaim := { program := "ytccjegnflienhaa", sum := "99b498b74219304c64d02a826b4fe7a63528b07cd70fabcd19c123b2e0870076", func := "headway/headkeep.RanksFirst", spec := "ranksFirst", apart := false }
def RanksFirstSaid : Prop := ranksFirstRow.holds Try.pinned (OpenSpec.ofChange ranksFirstSpec)

/-- ITS FALSE NEIGHBOUR: 'it returns false'. Refute it at one input. -/
def ranksFirstWrong : ChangeSpec := { name := "ranksFirst", fn := fun _ => fun
  | [d1, d2] => { results := [.lit (.bool false)], args := [d1, d2] }
  | _ => none }
def RanksFirstWrongFalsely : Prop := ranksFirstRow.holds Try.pinned (OpenSpec.ofChange ranksFirstWrong)

/-- 'headtop.TopTasks': WHATEVER THE INPUT: true; the input reads as it did. -/
def topTasksSpec : ChangeSpec := { name := "topTasks", fn := fun _ => fun
  | [d] => { results := [.lit (.bool true)], args := [d] }
  | _ => none }
def topTasksRow : OpenClaim := { program := "ytccjegnflienhaa", sum := "99b498b74219304c64d02a826b4fe7a63528b07cd70fabcd19c123b2e0870076", func := "headway/headtop.TopTasks", spec := "topTasks", unfollowed := true, recurses := true, apart := false }
def TopTasksSaid : Prop := topTasksRow.holds Try.pinned (OpenSpec.ofChange topTasksSpec)

/-- ITS FALSE NEIGHBOUR: 'it returns false'. Refute it at one input. -/
def topTasksWrong : ChangeSpec := { name := "topTasks", fn := fun _ => fun
  | [d] => { results := [.lit (.bool false)], args := [d] }
  | _ => none }
def TopTasksWrongFalsely : Prop := topTasksRow.holds Try.pinned (OpenSpec.ofChange topTasksWrong)

/- THE SECOND FORM. 'bulk': how many values and letters a reading holds, each counted each time it is reached (what is shared counts as often as it is met; a slice's spare places count too). A statement '..UptoSaid' is the law's where the arguments, and the package variables that the reading takes, are together of bulk at most 1048576: NARROWER than '..Said'. Prove '..Said' where nothing that the law and all that it calls make is longer than what came in: it says more and counts as full. Else prove '..UptoSaid'. A law counts once. -/
mutual
def uptoBulk {H : Type} : DataW H → Nat
  | .lit (.string bytes) => bytes.length + 1
  | .lit _ => 1
  | .nil => 1
  | .ptr d => uptoBulk d + 1
  | .slice elems spare => uptoBulkAll elems + uptoBulkAll spare + 1
  | .agg parts => uptoBulkAll parts + 1
  | .iface _ d => uptoBulk d + 1
  | .map entries => uptoBulkEntries entries + 1
  | .held _ => 1
def uptoBulkAll {H : Type} : List (DataW H) → Nat
  | [] => 0
  | d :: r => uptoBulk d + uptoBulkAll r
def uptoBulkEntries {H : Type} : List (Lit × DataW H) → Nat
  | [] => 0
  | x :: r => uptoBulkEntry x + uptoBulkEntries r
def uptoBulkEntry {H : Type} : Lit × DataW H → Nat
  | (.string bytes, d) => bytes.length + uptoBulk d + 1
  | (_, d) => uptoBulk d + 1
 end
def uptoSmall : (H : Type) → List (DataW H) → Bool := fun _ ds => decide (uptoBulkAll ds ≤ 1048576)
def OpenSpec.upto (s : _root_.Go.ChangeSpec) : _root_.Go.OpenSpec := { _root_.Go.OpenSpec.ofChange s with cond := some uptoSmall }

/-- 'headlaw.RanksSay', WHERE WHAT IT READS IS OF BULK AT MOST 1048576: true; the input reads as it did. -/
def ranksSayUptoRow : OpenClaim := { program := "ytccjegnflienhaa", sum := "99b498b74219304c64d02a826b4fe7a63528b07cd70fabcd19c123b2e0870076", func := "headway/headlaw.RanksSay", spec := "ranksSay", apart := false, narrowed := true }
def RanksSayUptoSaid : Prop := ranksSayUptoRow.holds Try.pinned (OpenSpec.upto ranksSaySpec)

/-- 'headlaw.RanksRuns', WHERE WHAT IT READS IS OF BULK AT MOST 1048576: true; the input reads as it did. -/
def ranksRunsUptoRow : OpenClaim := { program := "ytccjegnflienhaa", sum := "99b498b74219304c64d02a826b4fe7a63528b07cd70fabcd19c123b2e0870076", func := "headway/headlaw.RanksRuns", spec := "ranksRuns", unfollowed := true, recurses := true, apart := false, narrowed := true }
def RanksRunsUptoSaid : Prop := ranksRunsUptoRow.holds Try.pinned (OpenSpec.upto ranksRunsSpec)

/-- 'headkeep.RanksCritical', WHERE WHAT IT READS IS OF BULK AT MOST 1048576: true; the input reads as it did. -/
def ranksCriticalUptoRow : OpenClaim := { program := "ytccjegnflienhaa", sum := "99b498b74219304c64d02a826b4fe7a63528b07cd70fabcd19c123b2e0870076", func := "headway/headkeep.RanksCritical", spec := "ranksCritical", unfollowed := true, recurses := true, apart := false, narrowed := true }
def RanksCriticalUptoSaid : Prop := ranksCriticalUptoRow.holds Try.pinned (OpenSpec.upto ranksCriticalSpec)

/-- 'headkeep.RanksMeet', WHERE WHAT IT READS IS OF BULK AT MOST 1048576: true; the input reads as it did. -/
def ranksMeetUptoRow : OpenClaim := { program := "ytccjegnflienhaa", sum := "99b498b74219304c64d02a826b4fe7a63528b07cd70fabcd19c123b2e0870076", func := "headway/headkeep.RanksMeet", spec := "ranksMeet", unfollowed := true, recurses := true, apart := false, narrowed := true }
def RanksMeetUptoSaid : Prop := ranksMeetUptoRow.holds Try.pinned (OpenSpec.upto ranksMeetSpec)

/-- 'headkeep.RanksOrder', WHERE WHAT IT READS IS OF BULK AT MOST 1048576: true; the input reads as it did. -/
def ranksOrderUptoRow : OpenClaim := { program := "ytccjegnflienhaa", sum := "99b498b74219304c64d02a826b4fe7a63528b07cd70fabcd19c123b2e0870076", func := "headway/headkeep.RanksOrder", spec := "ranksOrder", unfollowed := true, recurses := true, apart := false, narrowed := true }
def RanksOrderUptoSaid : Prop := ranksOrderUptoRow.holds Try.pinned (OpenSpec.upto ranksOrderSpec)

/-- 'headkeep.RanksLess', WHERE WHAT IT READS IS OF BULK AT MOST 1048576: true; the input reads as it did. -/
def ranksLessUptoRow : OpenClaim := { program := "ytccjegnflienhaa", sum := "99b498b74219304c64d02a826b4fe7a63528b07cd70fabcd19c123b2e0870076", func := "headway/headkeep.RanksLess", spec := "ranksLess", apart := false, narrowed := true }
def RanksLessUptoSaid : Prop := ranksLessUptoRow.holds Try.pinned (OpenSpec.upto ranksLessSpec)

/-- 'headkeep.RanksFirst', WHERE WHAT IT READS IS OF BULK AT MOST 1048576: true; the input reads as it did. -/
def ranksFirstUptoRow : OpenClaim := { program := "ytccjegnflienhaa", sum := "99b498b74219304c64d02a826b4fe7a63528b07cd70fabcd19c123b2e0870076", func := "headway/headkeep.RanksFirst", spec := "ranksFirst", apart := false, narrowed := true }
def RanksFirstUptoSaid : Prop := ranksFirstUptoRow.holds Try.pinned (OpenSpec.upto ranksFirstSpec)

/-- 'headtop.TopTasks', WHERE WHAT IT READS IS OF BULK AT MOST 1048576: true; the input reads as it did. -/
def topTasksUptoRow : OpenClaim := { program := "ytccjegnflienhaa", sum := "99b498b74219304c64d02a826b4fe7a63528b07cd70fabcd19c123b2e0870076", func := "headway/headtop.TopTasks", spec := "topTasks", unfollowed := true, recurses := true, apart := false, narrowed := true }
def TopTasksUptoSaid : Prop := topTasksUptoRow.holds Try.pinned (OpenSpec.upto topTasksSpec)

end Rows
end Go.Proofs.Ytccjegnflienhaa
