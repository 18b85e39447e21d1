/-
  No cell of these rows narrows 'for every input' (looked for: loops, veiled, ifaces, maps, wideKeys, modest, calm, conditions, laid).
  DERIVED. THE GIVEN ROWS OF THIS SEAT. 5 by the template 'for every input the law returns true; each argument reads behind the call as it read before'; 0 by the template 'total and deterministic' (their statements: YtkjcganbdnbclaaTotals.lean).
  GIVEN WITH THE SEED: the statements are not yours to turn. If you find one false, say at which input.
  Laid BY PROGRAM, IN A SANDBOX (cutbox-rows.mjs): the forced cells as the released guide's own fill.sh prints them over the translation 56dbb90837edc43d… (all of the seat's roots in one cut). By AI agents, Wed Nov 11 2026. No macro, syntax, notation, axiom, sorry.
-/
import Derived.Test.YtkjcganbdnbclaaChecked
import GoSem.Claim
import GoSem.ClaimJoined
import GoSem.ClaimMapViews
import Derived.JoinedTies
import Derived.KernelRfl
namespace Go.Proofs.Ytkjcganbdnbclaa
/- THE CELL 'sum', in the pinned program and in every row, IS THE sha256 OF THE DUMP (.gsa) THAT YtkjcganbdnbclaaProg.lean LOADS. Nothing in Lean hashes anything: it is a label: what it is worth is what the hold of that sum in a sandbox is worth. -/
noncomputable def Try.pinned : Pinned := { name := "ytkjcganbdnbclaa", sum := "56dbb90837edc43d6bf470d46d6f23932b48891d952639b77bcf597e95424ca9", checked := Try.checked }
namespace Rows
def none {H : Type} : Left H := { results := [], args := [] }

/-- 'headlaw.ShapeSays': WHATEVER THE INPUT: true; the input reads as it did. -/
def shapeSaysSpec : ChangeSpec := { name := "shapeSays", fn := fun _ => fun
  | [d1, d2, d3] => { results := [.lit (.bool true)], args := [d1, d2, d3] }
  | _ => none }
def shapeSaysRow : OpenClaim := { program := "ytkjcganbdnbclaa", sum := "56dbb90837edc43d6bf470d46d6f23932b48891d952639b77bcf597e95424ca9", func := "headway/headlaw.ShapeSays", spec := "shapeSays", unfollowed := true, recurses := true, apart := false }
def ShapeSaysSaid : Prop := shapeSaysRow.holds Try.pinned (OpenSpec.ofChange shapeSaysSpec)

/-- ITS FALSE NEIGHBOUR: 'it returns false'. Refute it at one input. -/
def shapeSaysWrong : ChangeSpec := { name := "shapeSays", fn := fun _ => fun
  | [d1, d2, d3] => { results := [.lit (.bool false)], args := [d1, d2, d3] }
  | _ => none }
def ShapeSaysWrongFalsely : Prop := shapeSaysRow.holds Try.pinned (OpenSpec.ofChange shapeSaysWrong)

/-- 'headkeep.ConvLines': WHATEVER THE INPUT: true; the input reads as it did. -/
def convLinesSpec : ChangeSpec := { name := "convLines", fn := fun _ => fun
  | [d1, d2, d3, d4, d5] => { results := [.lit (.bool true)], args := [d1, d2, d3, d4, d5] }
  | _ => none }
def convLinesRow : OpenClaim := { program := "ytkjcganbdnbclaa", sum := "56dbb90837edc43d6bf470d46d6f23932b48891d952639b77bcf597e95424ca9", func := "headway/headkeep.ConvLines", spec := "convLines", unfollowed := true, recurses := true, apart := false }
def ConvLinesSaid : Prop := convLinesRow.holds Try.pinned (OpenSpec.ofChange convLinesSpec)

/-- ITS FALSE NEIGHBOUR: 'it returns false'. Refute it at one input. -/
def convLinesWrong : ChangeSpec := { name := "convLines", fn := fun _ => fun
  | [d1, d2, d3, d4, d5] => { results := [.lit (.bool false)], args := [d1, d2, d3, d4, d5] }
  | _ => none }
def ConvLinesWrongFalsely : Prop := convLinesRow.holds Try.pinned (OpenSpec.ofChange convLinesWrong)

/-- 'headkeep.ConvBuckets': WHATEVER THE INPUT: true; the input reads as it did. -/
def convBucketsSpec : ChangeSpec := { name := "convBuckets", fn := fun _ => fun
  | [d1, d2, d3, d4, d5] => { results := [.lit (.bool true)], args := [d1, d2, d3, d4, d5] }
  | _ => none }
def convBucketsRow : OpenClaim := { program := "ytkjcganbdnbclaa", sum := "56dbb90837edc43d6bf470d46d6f23932b48891d952639b77bcf597e95424ca9", func := "headway/headkeep.ConvBuckets", spec := "convBuckets", unfollowed := true, recurses := true, apart := false }
def ConvBucketsSaid : Prop := convBucketsRow.holds Try.pinned (OpenSpec.ofChange convBucketsSpec)

/-- ITS FALSE NEIGHBOUR: 'it returns false'. Refute it at one input. -/
def convBucketsWrong : ChangeSpec := { name := "convBuckets", fn := fun _ => fun
  | [d1, d2, d3, d4, d5] => { results := [.lit (.bool false)], args := [d1, d2, d3, d4, d5] }
  | _ => none }
def ConvBucketsWrongFalsely : Prop := convBucketsRow.holds Try.pinned (OpenSpec.ofChange convBucketsWrong)

/-- 'headkeep.ShapeHolds': WHATEVER THE INPUT: true; the input reads as it did. -/
def shapeHoldsSpec : ChangeSpec := { name := "shapeHolds", fn := fun _ => fun
  | [d1, d2, d3] => { results := [.lit (.bool true)], args := [d1, d2, d3] }
  | _ => none }
def shapeHoldsRow : OpenClaim := { program := "ytkjcganbdnbclaa", sum := "56dbb90837edc43d6bf470d46d6f23932b48891d952639b77bcf597e95424ca9", func := "headway/headkeep.ShapeHolds", spec := "shapeHolds", unfollowed := true, recurses := true, apart := false }
def ShapeHoldsSaid : Prop := shapeHoldsRow.holds Try.pinned (OpenSpec.ofChange shapeHoldsSpec)

/-- ITS FALSE NEIGHBOUR: 'it returns false'. Refute it at one input. -/
def shapeHoldsWrong : ChangeSpec := { name := "shapeHolds", fn := fun _ => fun
  | [d1, d2, d3] => { results := [.lit (.bool false)], args := [d1, d2, d3] }
  | _ => none }
def ShapeHoldsWrongFalsely : Prop := shapeHoldsRow.holds Try.pinned (OpenSpec.ofChange shapeHoldsWrong)

/-- 'headkeep.ShapeGrows': WHATEVER THE INPUT: true; the input reads as it did. -/
def shapeGrowsSpec : ChangeSpec := { name := "shapeGrows", fn := fun _ => fun
  | [d1, d2, d3, d4, d5] => { results := [.lit (.bool true)], args := [d1, d2, d3, d4, d5] }
  | _ => none }
def shapeGrowsRow : OpenClaim := { program := "ytkjcganbdnbclaa", sum := "56dbb90837edc43d6bf470d46d6f23932b48891d952639b77bcf597e95424ca9", func := "headway/headkeep.ShapeGrows", spec := "shapeGrows", unfollowed := true, recurses := true, apart := false }
def ShapeGrowsSaid : Prop := shapeGrowsRow.holds Try.pinned (OpenSpec.ofChange shapeGrowsSpec)

/-- ITS FALSE NEIGHBOUR: 'it returns false'. Refute it at one input. -/
def shapeGrowsWrong : ChangeSpec := { name := "shapeGrows", fn := fun _ => fun
  | [d1, d2, d3, d4, d5] => { results := [.lit (.bool false)], args := [d1, d2, d3, d4, d5] }
  | _ => none }
def ShapeGrowsWrongFalsely : Prop := shapeGrowsRow.holds Try.pinned (OpenSpec.ofChange shapeGrowsWrong)

/- THE SECOND FORM. 'bulk': how many values and letters a reading holds, each counted each time it is reached (what is shared counts as often as it is met; a slice's spare places count too). A statement '..UptoSaid' is the law's where the arguments, and the package variables that the reading takes, are together of bulk at most 1048576: NARROWER than '..Said'. Prove '..Said' where nothing that the law and all that it calls make is longer than what came in: it says more and counts as full. Else prove '..UptoSaid'. A law counts once. -/
mutual
def uptoBulk {H : Type} : DataW H → Nat
  | .lit (.string bytes) => bytes.length + 1
  | .lit _ => 1
  | .nil => 1
  | .ptr d => uptoBulk d + 1
  | .slice elems spare => uptoBulkAll elems + uptoBulkAll spare + 1
  | .agg parts => uptoBulkAll parts + 1
  | .iface _ d => uptoBulk d + 1
  | .map entries => uptoBulkEntries entries + 1
  | .held _ => 1
def uptoBulkAll {H : Type} : List (DataW H) → Nat
  | [] => 0
  | d :: r => uptoBulk d + uptoBulkAll r
def uptoBulkEntries {H : Type} : List (Lit × DataW H) → Nat
  | [] => 0
  | x :: r => uptoBulkEntry x + uptoBulkEntries r
def uptoBulkEntry {H : Type} : Lit × DataW H → Nat
  | (.string bytes, d) => bytes.length + uptoBulk d + 1
  | (_, d) => uptoBulk d + 1
 end
def uptoSmall : (H : Type) → List (DataW H) → Bool := fun _ ds => decide (uptoBulkAll ds ≤ 1048576)
def OpenSpec.upto (s : _root_.Go.ChangeSpec) : _root_.Go.OpenSpec := { _root_.Go.OpenSpec.ofChange s with cond := some uptoSmall }

/-- 'headlaw.ShapeSays', WHERE WHAT IT READS IS OF BULK AT MOST 1048576: true; the input reads as it did. -/
def shapeSaysUptoRow : OpenClaim := { program := "ytkjcganbdnbclaa", sum := "56dbb90837edc43d6bf470d46d6f23932b48891d952639b77bcf597e95424ca9", func := "headway/headlaw.ShapeSays", spec := "shapeSays", unfollowed := true, recurses := true, apart := false, narrowed := true }
def ShapeSaysUptoSaid : Prop := shapeSaysUptoRow.holds Try.pinned (OpenSpec.upto shapeSaysSpec)

/-- 'headkeep.ConvLines', WHERE WHAT IT READS IS OF BULK AT MOST 1048576: true; the input reads as it did. -/
def convLinesUptoRow : OpenClaim := { program := "ytkjcganbdnbclaa", sum := "56dbb90837edc43d6bf470d46d6f23932b48891d952639b77bcf597e95424ca9", func := "headway/headkeep.ConvLines", spec := "convLines", unfollowed := true, recurses := true, apart := false, narrowed := true }
def ConvLinesUptoSaid : Prop := convLinesUptoRow.holds Try.pinned (OpenSpec.upto convLinesSpec)

/-- 'headkeep.ConvBuckets', WHERE WHAT IT READS IS OF BULK AT MOST 1048576: true; the input reads as it did. -/
def convBucketsUptoRow : OpenClaim := { program := "ytkjcganbdnbclaa", sum := "56dbb90837edc43d6bf470d46d6f23932b48891d952639b77bcf597e95424ca9", func := "headway/headkeep.ConvBuckets", spec := "convBuckets", unfollowed := true, recurses := true, apart := false, narrowed := true }
def ConvBucketsUptoSaid : Prop := convBucketsUptoRow.holds Try.pinned (OpenSpec.upto convBucketsSpec)

/-- 'headkeep.ShapeHolds', WHERE WHAT IT READS IS OF BULK AT MOST 1048576: true; the input reads as it did. -/
def shapeHoldsUptoRow : OpenClaim := { program := "ytkjcganbdnbclaa", sum := "56dbb90837edc43d6bf470d46d6f23932b48891d952639b77bcf597e95424ca9", func := "headway/headkeep.ShapeHolds", spec := "shapeHolds", unfollowed := true, recurses := true, apart := false, narrowed := true }
def ShapeHoldsUptoSaid : Prop := shapeHoldsUptoRow.holds Try.pinned (OpenSpec.upto shapeHoldsSpec)

/-- 'headkeep.ShapeGrows', WHERE WHAT IT READS IS OF BULK AT MOST 1048576: true; the input reads as it did. -/
def shapeGrowsUptoRow : OpenClaim := { program := "ytkjcganbdnbclaa", sum := "56dbb90837edc43d6bf470d46d6f23932b48891d952639b77bcf597e95424ca9", func := "headway/headkeep.ShapeGrows", spec := "shapeGrows", unfollowed := true, recurses := true, apart := false, narrowed := true }
def ShapeGrowsUptoSaid : Prop := shapeGrowsUptoRow.holds Try.pinned (OpenSpec.upto shapeGrowsSpec)

end Rows
end Go.Proofs.Ytkjcganbdnbclaa
