/-
  No cell of these rows narrows 'for every input' (looked for: loops, veiled, ifaces, maps, wideKeys, modest, calm, conditions, laid).
  DERIVED. THE GIVEN ROWS OF THIS SEAT. 12 by the template 'for every input the law returns true; each argument reads behind the call as it read before'; 0 by the template 'total and deterministic' (their statements: YthjdabmlilnepaaTotals.lean).
  GIVEN WITH THE SEED: the statements are not yours to turn. If you find one false, say at which input.
  Laid BY PROGRAM, IN A SANDBOX (cutbox-rows.mjs): the forced cells as the released guide's own fill.sh prints them over the translation 18fa61b03ef486dc… (all of the seat's roots in one cut). By AI agents, Wed Nov 11 2026. No macro, syntax, notation, axiom, sorry.
-/
import Derived.Test.YthjdabmlilnepaaChecked
import GoSem.Claim
import GoSem.ClaimJoined
import GoSem.ClaimMapViews
import Derived.JoinedTies
import Derived.KernelRfl
namespace Go.Proofs.Ythjdabmlilnepaa
/- THE CELL 'sum', in the pinned program and in every row, IS THE sha256 OF THE DUMP (.gsa) THAT YthjdabmlilnepaaProg.lean LOADS. Nothing in Lean hashes anything: it is a label: what it is worth is what the hold of that sum in a sandbox is worth. -/
noncomputable def Try.pinned : Pinned := { name := "ythjdabmlilnepaa", sum := "18fa61b03ef486dc41ca0e2b720a9d63dd568496d10f7c3a0c16f8a3ccc10945", checked := Try.checked }
namespace Rows
def none {H : Type} : Left H := { results := [], args := [] }

/-- 'headlaw.PointSays': WHATEVER THE INPUT: true; the input reads as it did. -/
def pointSaysSpec : ChangeSpec := { name := "pointSays", fn := fun _ => fun
  | [d1, d2] => { results := [.lit (.bool true)], args := [d1, d2] }
  | _ => none }
def pointSaysRow : OpenClaim := { program := "ythjdabmlilnepaa", sum := "18fa61b03ef486dc41ca0e2b720a9d63dd568496d10f7c3a0c16f8a3ccc10945", func := "headway/headlaw.PointSays", spec := "pointSays", unfollowed := true, recurses := true, apart := false }
def PointSaysSaid : Prop := pointSaysRow.holds Try.pinned (OpenSpec.ofChange pointSaysSpec)

/-- ITS FALSE NEIGHBOUR: 'it returns false'. Refute it at one input. -/
def pointSaysWrong : ChangeSpec := { name := "pointSays", fn := fun _ => fun
  | [d1, d2] => { results := [.lit (.bool false)], args := [d1, d2] }
  | _ => none }
def PointSaysWrongFalsely : Prop := pointSaysRow.holds Try.pinned (OpenSpec.ofChange pointSaysWrong)

/-- 'headlaw.PointLess': WHATEVER THE INPUT: true; the input reads as it did. -/
def pointLessSpec : ChangeSpec := { name := "pointLess", fn := fun _ => fun
  | [d1, d2] => { results := [.lit (.bool true)], args := [d1, d2] }
  | _ => none }
def pointLessRow : OpenClaim := { program := "ythjdabmlilnepaa", sum := "18fa61b03ef486dc41ca0e2b720a9d63dd568496d10f7c3a0c16f8a3ccc10945", func := "headway/headlaw.PointLess", spec := "pointLess", unfollowed := true, recurses := true, apart := false }
def PointLessSaid : Prop := pointLessRow.holds Try.pinned (OpenSpec.ofChange pointLessSpec)

/-- ITS FALSE NEIGHBOUR: 'it returns false'. Refute it at one input. -/
def pointLessWrong : ChangeSpec := { name := "pointLess", fn := fun _ => fun
  | [d1, d2] => { results := [.lit (.bool false)], args := [d1, d2] }
  | _ => none }
def PointLessWrongFalsely : Prop := pointLessRow.holds Try.pinned (OpenSpec.ofChange pointLessWrong)

/-- 'headlaw.PointMoves': WHATEVER THE INPUT: true; the input reads as it did. -/
def pointMovesSpec : ChangeSpec := { name := "pointMoves", fn := fun _ => fun
  | [d1, d2, d3] => { results := [.lit (.bool true)], args := [d1, d2, d3] }
  | _ => none }
def pointMovesRow : OpenClaim := { program := "ythjdabmlilnepaa", sum := "18fa61b03ef486dc41ca0e2b720a9d63dd568496d10f7c3a0c16f8a3ccc10945", func := "headway/headlaw.PointMoves", spec := "pointMoves", unfollowed := true, recurses := true, apart := false }
def PointMovesSaid : Prop := pointMovesRow.holds Try.pinned (OpenSpec.ofChange pointMovesSpec)

/-- ITS FALSE NEIGHBOUR: 'it returns false'. Refute it at one input. -/
def pointMovesWrong : ChangeSpec := { name := "pointMoves", fn := fun _ => fun
  | [d1, d2, d3] => { results := [.lit (.bool false)], args := [d1, d2, d3] }
  | _ => none }
def PointMovesWrongFalsely : Prop := pointMovesRow.holds Try.pinned (OpenSpec.ofChange pointMovesWrong)

/-- 'headkeep.PointLattice': WHATEVER THE INPUT: true; the input reads as it did. -/
def pointLatticeSpec : ChangeSpec := { name := "pointLattice", fn := fun _ => fun
  | [d1, d2, d3] => { results := [.lit (.bool true)], args := [d1, d2, d3] }
  | _ => none }
def pointLatticeRow : OpenClaim := { program := "ythjdabmlilnepaa", sum := "18fa61b03ef486dc41ca0e2b720a9d63dd568496d10f7c3a0c16f8a3ccc10945", func := "headway/headkeep.PointLattice", spec := "pointLattice", unfollowed := true, recurses := true, apart := false }
def PointLatticeSaid : Prop := pointLatticeRow.holds Try.pinned (OpenSpec.ofChange pointLatticeSpec)

/-- ITS FALSE NEIGHBOUR: 'it returns false'. Refute it at one input. -/
def pointLatticeWrong : ChangeSpec := { name := "pointLattice", fn := fun _ => fun
  | [d1, d2, d3] => { results := [.lit (.bool false)], args := [d1, d2, d3] }
  | _ => none }
def PointLatticeWrongFalsely : Prop := pointLatticeRow.holds Try.pinned (OpenSpec.ofChange pointLatticeWrong)

/-- 'headkeep.PointSums': WHATEVER THE INPUT: true; the input reads as it did. -/
def pointSumsSpec : ChangeSpec := { name := "pointSums", fn := fun _ => fun
  | [d1, d2, d3, d4, d5] => { results := [.lit (.bool true)], args := [d1, d2, d3, d4, d5] }
  | _ => none }
def pointSumsRow : OpenClaim := { program := "ythjdabmlilnepaa", sum := "18fa61b03ef486dc41ca0e2b720a9d63dd568496d10f7c3a0c16f8a3ccc10945", func := "headway/headkeep.PointSums", spec := "pointSums", unfollowed := true, recurses := true, apart := false }
def PointSumsSaid : Prop := pointSumsRow.holds Try.pinned (OpenSpec.ofChange pointSumsSpec)

/-- ITS FALSE NEIGHBOUR: 'it returns false'. Refute it at one input. -/
def pointSumsWrong : ChangeSpec := { name := "pointSums", fn := fun _ => fun
  | [d1, d2, d3, d4, d5] => { results := [.lit (.bool false)], args := [d1, d2, d3, d4, d5] }
  | _ => none }
def PointSumsWrongFalsely : Prop := pointSumsRow.holds Try.pinned (OpenSpec.ofChange pointSumsWrong)

/-- 'headkeep.PointGalois': WHATEVER THE INPUT: true; the input reads as it did. -/
def pointGaloisSpec : ChangeSpec := { name := "pointGalois", fn := fun _ => fun
  | [d1, d2, d3] => { results := [.lit (.bool true)], args := [d1, d2, d3] }
  | _ => none }
def pointGaloisRow : OpenClaim := { program := "ythjdabmlilnepaa", sum := "18fa61b03ef486dc41ca0e2b720a9d63dd568496d10f7c3a0c16f8a3ccc10945", func := "headway/headkeep.PointGalois", spec := "pointGalois", unfollowed := true, recurses := true, apart := false }
def PointGaloisSaid : Prop := pointGaloisRow.holds Try.pinned (OpenSpec.ofChange pointGaloisSpec)

/-- ITS FALSE NEIGHBOUR: 'it returns false'. Refute it at one input. -/
def pointGaloisWrong : ChangeSpec := { name := "pointGalois", fn := fun _ => fun
  | [d1, d2, d3] => { results := [.lit (.bool false)], args := [d1, d2, d3] }
  | _ => none }
def PointGaloisWrongFalsely : Prop := pointGaloisRow.holds Try.pinned (OpenSpec.ofChange pointGaloisWrong)

/-- 'headkeep.PointLates': WHATEVER THE INPUT: true; the input reads as it did. -/
def pointLatesSpec : ChangeSpec := { name := "pointLates", fn := fun _ => fun
  | [d1, d2, d3, d4] => { results := [.lit (.bool true)], args := [d1, d2, d3, d4] }
  | _ => none }
def pointLatesRow : OpenClaim := { program := "ythjdabmlilnepaa", sum := "18fa61b03ef486dc41ca0e2b720a9d63dd568496d10f7c3a0c16f8a3ccc10945", func := "headway/headkeep.PointLates", spec := "pointLates", unfollowed := true, recurses := true, apart := false }
def PointLatesSaid : Prop := pointLatesRow.holds Try.pinned (OpenSpec.ofChange pointLatesSpec)

/-- ITS FALSE NEIGHBOUR: 'it returns false'. Refute it at one input. -/
def pointLatesWrong : ChangeSpec := { name := "pointLates", fn := fun _ => fun
  | [d1, d2, d3, d4] => { results := [.lit (.bool false)], args := [d1, d2, d3, d4] }
  | _ => none }
def PointLatesWrongFalsely : Prop := pointLatesRow.holds Try.pinned (OpenSpec.ofChange pointLatesWrong)

/-- 'headkeep.ConvGrows': WHATEVER THE INPUT: true; the input reads as it did. -/
def convGrowsSpec : ChangeSpec := { name := "convGrows", fn := fun _ => fun
  | [d1, d2, d3] => { results := [.lit (.bool true)], args := [d1, d2, d3] }
  | _ => none }
def convGrowsRow : OpenClaim := { program := "ythjdabmlilnepaa", sum := "18fa61b03ef486dc41ca0e2b720a9d63dd568496d10f7c3a0c16f8a3ccc10945", func := "headway/headkeep.ConvGrows", spec := "convGrows", unfollowed := true, recurses := true, apart := false }
def ConvGrowsSaid : Prop := convGrowsRow.holds Try.pinned (OpenSpec.ofChange convGrowsSpec)

/-- ITS FALSE NEIGHBOUR: 'it returns false'. Refute it at one input. -/
def convGrowsWrong : ChangeSpec := { name := "convGrows", fn := fun _ => fun
  | [d1, d2, d3] => { results := [.lit (.bool false)], args := [d1, d2, d3] }
  | _ => none }
def ConvGrowsWrongFalsely : Prop := convGrowsRow.holds Try.pinned (OpenSpec.ofChange convGrowsWrong)

/-- 'headkeep.ConvMin': WHATEVER THE INPUT: true; the input reads as it did. -/
def convMinSpec : ChangeSpec := { name := "convMin", fn := fun _ => fun
  | [d1, d2, d3] => { results := [.lit (.bool true)], args := [d1, d2, d3] }
  | _ => none }
def convMinRow : OpenClaim := { program := "ythjdabmlilnepaa", sum := "18fa61b03ef486dc41ca0e2b720a9d63dd568496d10f7c3a0c16f8a3ccc10945", func := "headway/headkeep.ConvMin", spec := "convMin", unfollowed := true, recurses := true, apart := false }
def ConvMinSaid : Prop := convMinRow.holds Try.pinned (OpenSpec.ofChange convMinSpec)

/-- ITS FALSE NEIGHBOUR: 'it returns false'. Refute it at one input. -/
def convMinWrong : ChangeSpec := { name := "convMin", fn := fun _ => fun
  | [d1, d2, d3] => { results := [.lit (.bool false)], args := [d1, d2, d3] }
  | _ => none }
def ConvMinWrongFalsely : Prop := convMinRow.holds Try.pinned (OpenSpec.ofChange convMinWrong)

/-- 'headkeep.ConvUp': WHATEVER THE INPUT: true; the input reads as it did. -/
def convUpSpec : ChangeSpec := { name := "convUp", fn := fun _ => fun
  | [d1, d2, d3] => { results := [.lit (.bool true)], args := [d1, d2, d3] }
  | _ => none }
def convUpRow : OpenClaim := { program := "ythjdabmlilnepaa", sum := "18fa61b03ef486dc41ca0e2b720a9d63dd568496d10f7c3a0c16f8a3ccc10945", func := "headway/headkeep.ConvUp", spec := "convUp", unfollowed := true, recurses := true, apart := false }
def ConvUpSaid : Prop := convUpRow.holds Try.pinned (OpenSpec.ofChange convUpSpec)

/-- ITS FALSE NEIGHBOUR: 'it returns false'. Refute it at one input. -/
def convUpWrong : ChangeSpec := { name := "convUp", fn := fun _ => fun
  | [d1, d2, d3] => { results := [.lit (.bool false)], args := [d1, d2, d3] }
  | _ => none }
def ConvUpWrongFalsely : Prop := convUpRow.holds Try.pinned (OpenSpec.ofChange convUpWrong)

/-- 'headkeep.DeconvMax': WHATEVER THE INPUT: true; the input reads as it did. -/
def deconvMaxSpec : ChangeSpec := { name := "deconvMax", fn := fun _ => fun
  | [d1, d2, d3] => { results := [.lit (.bool true)], args := [d1, d2, d3] }
  | _ => none }
def deconvMaxRow : OpenClaim := { program := "ythjdabmlilnepaa", sum := "18fa61b03ef486dc41ca0e2b720a9d63dd568496d10f7c3a0c16f8a3ccc10945", func := "headway/headkeep.DeconvMax", spec := "deconvMax", unfollowed := true, recurses := true, apart := false }
def DeconvMaxSaid : Prop := deconvMaxRow.holds Try.pinned (OpenSpec.ofChange deconvMaxSpec)

/-- ITS FALSE NEIGHBOUR: 'it returns false'. Refute it at one input. -/
def deconvMaxWrong : ChangeSpec := { name := "deconvMax", fn := fun _ => fun
  | [d1, d2, d3] => { results := [.lit (.bool false)], args := [d1, d2, d3] }
  | _ => none }
def DeconvMaxWrongFalsely : Prop := deconvMaxRow.holds Try.pinned (OpenSpec.ofChange deconvMaxWrong)

/-- 'headkeep.ClosureConv': WHATEVER THE INPUT: true; the input reads as it did. -/
def closureConvSpec : ChangeSpec := { name := "closureConv", fn := fun _ => fun
  | [d1, d2] => { results := [.lit (.bool true)], args := [d1, d2] }
  | _ => none }
def closureConvRow : OpenClaim := { program := "ythjdabmlilnepaa", sum := "18fa61b03ef486dc41ca0e2b720a9d63dd568496d10f7c3a0c16f8a3ccc10945", func := "headway/headkeep.ClosureConv", spec := "closureConv", unfollowed := true, recurses := true, apart := false }
def ClosureConvSaid : Prop := closureConvRow.holds Try.pinned (OpenSpec.ofChange closureConvSpec)

/-- ITS FALSE NEIGHBOUR: 'it returns false'. Refute it at one input. -/
def closureConvWrong : ChangeSpec := { name := "closureConv", fn := fun _ => fun
  | [d1, d2] => { results := [.lit (.bool false)], args := [d1, d2] }
  | _ => none }
def ClosureConvWrongFalsely : Prop := closureConvRow.holds Try.pinned (OpenSpec.ofChange closureConvWrong)

/- THE SECOND FORM. 'bulk': how many values and letters a reading holds, each counted each time it is reached (what is shared counts as often as it is met; a slice's spare places count too). A statement '..UptoSaid' is the law's where the arguments, and the package variables that the reading takes, are together of bulk at most 1048576: NARROWER than '..Said'. Prove '..Said' where nothing that the law and all that it calls make is longer than what came in: it says more and counts as full. Else prove '..UptoSaid'. A law counts once. -/
mutual
def uptoBulk {H : Type} : DataW H → Nat
  | .lit (.string bytes) => bytes.length + 1
  | .lit _ => 1
  | .nil => 1
  | .ptr d => uptoBulk d + 1
  | .slice elems spare => uptoBulkAll elems + uptoBulkAll spare + 1
  | .agg parts => uptoBulkAll parts + 1
  | .iface _ d => uptoBulk d + 1
  | .map entries => uptoBulkEntries entries + 1
  | .held _ => 1
def uptoBulkAll {H : Type} : List (DataW H) → Nat
  | [] => 0
  | d :: r => uptoBulk d + uptoBulkAll r
def uptoBulkEntries {H : Type} : List (Lit × DataW H) → Nat
  | [] => 0
  | x :: r => uptoBulkEntry x + uptoBulkEntries r
def uptoBulkEntry {H : Type} : Lit × DataW H → Nat
  | (.string bytes, d) => bytes.length + uptoBulk d + 1
  | (_, d) => uptoBulk d + 1
 end
def uptoSmall : (H : Type) → List (DataW H) → Bool := fun _ ds => decide (uptoBulkAll ds ≤ 1048576)
def OpenSpec.upto (s : _root_.Go.ChangeSpec) : _root_.Go.OpenSpec := { _root_.Go.OpenSpec.ofChange s with cond := some uptoSmall }

/-- 'headlaw.PointSays', WHERE WHAT IT READS IS OF BULK AT MOST 1048576: true; the input reads as it did. -/
def pointSaysUptoRow : OpenClaim := { program := "ythjdabmlilnepaa", sum := "18fa61b03ef486dc41ca0e2b720a9d63dd568496d10f7c3a0c16f8a3ccc10945", func := "headway/headlaw.PointSays", spec := "pointSays", unfollowed := true, recurses := true, apart := false, narrowed := true }
def PointSaysUptoSaid : Prop := pointSaysUptoRow.holds Try.pinned (OpenSpec.upto pointSaysSpec)

/-- 'headlaw.PointLess', WHERE WHAT IT READS IS OF BULK AT MOST 1048576: true; the input reads as it did. -/
def pointLessUptoRow : OpenClaim := { program := "ythjdabmlilnepaa", sum := "18fa61b03ef486dc41ca0e2b720a9d63dd568496d10f7c3a0c16f8a3ccc10945", func := "headway/headlaw.PointLess", spec := "pointLess", unfollowed := true, recurses := true, apart := false, narrowed := true }
def PointLessUptoSaid : Prop := pointLessUptoRow.holds Try.pinned (OpenSpec.upto pointLessSpec)

/-- 'headlaw.PointMoves', WHERE WHAT IT READS IS OF BULK AT MOST 1048576: true; the input reads as it did. -/
def pointMovesUptoRow : OpenClaim := { program := "ythjdabmlilnepaa", sum := "18fa61b03ef486dc41ca0e2b720a9d63dd568496d10f7c3a0c16f8a3ccc10945", func := "headway/headlaw.PointMoves", spec := "pointMoves", unfollowed := true, recurses := true, apart := false, narrowed := true }
def PointMovesUptoSaid : Prop := pointMovesUptoRow.holds Try.pinned (OpenSpec.upto pointMovesSpec)

/-- 'headkeep.PointLattice', WHERE WHAT IT READS IS OF BULK AT MOST 1048576: true; the input reads as it did. -/
def pointLatticeUptoRow : OpenClaim := { program := "ythjdabmlilnepaa", sum := "18fa61b03ef486dc41ca0e2b720a9d63dd568496d10f7c3a0c16f8a3ccc10945", func := "headway/headkeep.PointLattice", spec := "pointLattice", unfollowed := true, recurses := true, apart := false, narrowed := true }
def PointLatticeUptoSaid : Prop := pointLatticeUptoRow.holds Try.pinned (OpenSpec.upto pointLatticeSpec)

/-- 'headkeep.PointSums', WHERE WHAT IT READS IS OF BULK AT MOST 1048576: true; the input reads as it did. -/
def pointSumsUptoRow : OpenClaim := { program := "ythjdabmlilnepaa", sum := "18fa61b03ef486dc41ca0e2b720a9d63dd568496d10f7c3a0c16f8a3ccc10945", func := "headway/headkeep.PointSums", spec := "pointSums", unfollowed := true, recurses := true, apart := false, narrowed := true }
def PointSumsUptoSaid : Prop := pointSumsUptoRow.holds Try.pinned (OpenSpec.upto pointSumsSpec)

/-- 'headkeep.PointGalois', WHERE WHAT IT READS IS OF BULK AT MOST 1048576: true; the input reads as it did. -/
def pointGaloisUptoRow : OpenClaim := { program := "ythjdabmlilnepaa", sum := "18fa61b03ef486dc41ca0e2b720a9d63dd568496d10f7c3a0c16f8a3ccc10945", func := "headway/headkeep.PointGalois", spec := "pointGalois", unfollowed := true, recurses := true, apart := false, narrowed := true }
def PointGaloisUptoSaid : Prop := pointGaloisUptoRow.holds Try.pinned (OpenSpec.upto pointGaloisSpec)

/-- 'headkeep.PointLates', WHERE WHAT IT READS IS OF BULK AT MOST 1048576: true; the input reads as it did. -/
def pointLatesUptoRow : OpenClaim := { program := "ythjdabmlilnepaa", sum := "18fa61b03ef486dc41ca0e2b720a9d63dd568496d10f7c3a0c16f8a3ccc10945", func := "headway/headkeep.PointLates", spec := "pointLates", unfollowed := true, recurses := true, apart := false, narrowed := true }
def PointLatesUptoSaid : Prop := pointLatesUptoRow.holds Try.pinned (OpenSpec.upto pointLatesSpec)

/-- 'headkeep.ConvGrows', WHERE WHAT IT READS IS OF BULK AT MOST 1048576: true; the input reads as it did. -/
def convGrowsUptoRow : OpenClaim := { program := "ythjdabmlilnepaa", sum := "18fa61b03ef486dc41ca0e2b720a9d63dd568496d10f7c3a0c16f8a3ccc10945", func := "headway/headkeep.ConvGrows", spec := "convGrows", unfollowed := true, recurses := true, apart := false, narrowed := true }
def ConvGrowsUptoSaid : Prop := convGrowsUptoRow.holds Try.pinned (OpenSpec.upto convGrowsSpec)

/-- 'headkeep.ConvMin', WHERE WHAT IT READS IS OF BULK AT MOST 1048576: true; the input reads as it did. -/
def convMinUptoRow : OpenClaim := { program := "ythjdabmlilnepaa", sum := "18fa61b03ef486dc41ca0e2b720a9d63dd568496d10f7c3a0c16f8a3ccc10945", func := "headway/headkeep.ConvMin", spec := "convMin", unfollowed := true, recurses := true, apart := false, narrowed := true }
def ConvMinUptoSaid : Prop := convMinUptoRow.holds Try.pinned (OpenSpec.upto convMinSpec)

/-- 'headkeep.ConvUp', WHERE WHAT IT READS IS OF BULK AT MOST 1048576: true; the input reads as it did. -/
def convUpUptoRow : OpenClaim := { program := "ythjdabmlilnepaa", sum := "18fa61b03ef486dc41ca0e2b720a9d63dd568496d10f7c3a0c16f8a3ccc10945", func := "headway/headkeep.ConvUp", spec := "convUp", unfollowed := true, recurses := true, apart := false, narrowed := true }
def ConvUpUptoSaid : Prop := convUpUptoRow.holds Try.pinned (OpenSpec.upto convUpSpec)

/-- 'headkeep.DeconvMax', WHERE WHAT IT READS IS OF BULK AT MOST 1048576: true; the input reads as it did. -/
def deconvMaxUptoRow : OpenClaim := { program := "ythjdabmlilnepaa", sum := "18fa61b03ef486dc41ca0e2b720a9d63dd568496d10f7c3a0c16f8a3ccc10945", func := "headway/headkeep.DeconvMax", spec := "deconvMax", unfollowed := true, recurses := true, apart := false, narrowed := true }
def DeconvMaxUptoSaid : Prop := deconvMaxUptoRow.holds Try.pinned (OpenSpec.upto deconvMaxSpec)

/-- 'headkeep.ClosureConv', WHERE WHAT IT READS IS OF BULK AT MOST 1048576: true; the input reads as it did. -/
def closureConvUptoRow : OpenClaim := { program := "ythjdabmlilnepaa", sum := "18fa61b03ef486dc41ca0e2b720a9d63dd568496d10f7c3a0c16f8a3ccc10945", func := "headway/headkeep.ClosureConv", spec := "closureConv", unfollowed := true, recurses := true, apart := false, narrowed := true }
def ClosureConvUptoSaid : Prop := closureConvUptoRow.holds Try.pinned (OpenSpec.upto closureConvSpec)

end Rows
end Go.Proofs.Ythjdabmlilnepaa
