/-
  No cell of these rows narrows 'for every input' (looked for: loops, veiled, ifaces, maps, wideKeys, modest, calm, conditions, laid).
  DERIVED. THE GIVEN ROWS OF THIS SEAT. 9 by the template 'for every input the law returns true; each argument reads behind the call as it read before'; 0 by the template 'total and deterministic' (their statements: YtgckndchndiffaaTotals.lean).
  GIVEN WITH THE SEED: the statements are not yours to turn. If you find one false, say at which input.
  Laid BY PROGRAM, IN A SANDBOX (cutbox-rows.mjs): the forced cells as the released guide's own fill.sh prints them over the translation f5fa824a46cf186a… (all of the seat's roots in one cut). By AI agents, Wed Nov 11 2026. No macro, syntax, notation, axiom, sorry.
-/
import Derived.Test.YtgckndchndiffaaChecked
import GoSem.Claim
import GoSem.ClaimJoined
import GoSem.ClaimMapViews
import Derived.JoinedTies
import Derived.KernelRfl
namespace Go.Proofs.Ytgckndchndiffaa
/- THE CELL 'sum', in the pinned program and in every row, IS THE sha256 OF THE DUMP (.gsa) THAT YtgckndchndiffaaProg.lean LOADS. Nothing in Lean hashes anything: it is a label: what it is worth is what the hold of that sum in a sandbox is worth. -/
noncomputable def Try.pinned : Pinned := { name := "ytgckndchndiffaa", sum := "f5fa824a46cf186a9d5ce2acbe93d0b35c91422a38f263d3740039d90bea0cab", checked := Try.checked }
namespace Rows
def none {H : Type} : Left H := { results := [], args := [] }

/-- 'headlaw.InverseSays': WHATEVER THE INPUT: true; the input reads as it did. -/
def inverseSaysSpec : ChangeSpec := { name := "inverseSays", fn := fun _ => fun
  | [d1, d2] => { results := [.lit (.bool true)], args := [d1, d2] }
  | _ => none }
def inverseSaysRow : OpenClaim := { program := "ytgckndchndiffaa", sum := "f5fa824a46cf186a9d5ce2acbe93d0b35c91422a38f263d3740039d90bea0cab", func := "headway/headlaw.InverseSays", spec := "inverseSays", apart := false }
def InverseSaysSaid : Prop := inverseSaysRow.holds Try.pinned (OpenSpec.ofChange inverseSaysSpec)

/-- ITS FALSE NEIGHBOUR: 'it returns false'. Refute it at one input. -/
def inverseSaysWrong : ChangeSpec := { name := "inverseSays", fn := fun _ => fun
  | [d1, d2] => { results := [.lit (.bool false)], args := [d1, d2] }
  | _ => none }
def InverseSaysWrongFalsely : Prop := inverseSaysRow.holds Try.pinned (OpenSpec.ofChange inverseSaysWrong)

/-- 'headlaw.ShapeSays': WHATEVER THE INPUT: true; the input reads as it did. -/
def shapeSaysSpec : ChangeSpec := { name := "shapeSays", fn := fun _ => fun
  | [d1, d2, d3] => { results := [.lit (.bool true)], args := [d1, d2, d3] }
  | _ => none }
def shapeSaysRow : OpenClaim := { program := "ytgckndchndiffaa", sum := "f5fa824a46cf186a9d5ce2acbe93d0b35c91422a38f263d3740039d90bea0cab", func := "headway/headlaw.ShapeSays", spec := "shapeSays", unfollowed := true, recurses := true, apart := false }
def ShapeSaysSaid : Prop := shapeSaysRow.holds Try.pinned (OpenSpec.ofChange shapeSaysSpec)

/-- ITS FALSE NEIGHBOUR: 'it returns false'. Refute it at one input. -/
def shapeSaysWrong : ChangeSpec := { name := "shapeSays", fn := fun _ => fun
  | [d1, d2, d3] => { results := [.lit (.bool false)], args := [d1, d2, d3] }
  | _ => none }
def ShapeSaysWrongFalsely : Prop := shapeSaysRow.holds Try.pinned (OpenSpec.ofChange shapeSaysWrong)

/-- 'headkeep.ConvLines': WHATEVER THE INPUT: true; the input reads as it did. -/
def convLinesSpec : ChangeSpec := { name := "convLines", fn := fun _ => fun
  | [d1, d2, d3, d4, d5] => { results := [.lit (.bool true)], args := [d1, d2, d3, d4, d5] }
  | _ => none }
def convLinesRow : OpenClaim := { program := "ytgckndchndiffaa", sum := "f5fa824a46cf186a9d5ce2acbe93d0b35c91422a38f263d3740039d90bea0cab", func := "headway/headkeep.ConvLines", spec := "convLines", unfollowed := true, recurses := true, apart := false }
def ConvLinesSaid : Prop := convLinesRow.holds Try.pinned (OpenSpec.ofChange convLinesSpec)

/-- ITS FALSE NEIGHBOUR: 'it returns false'. Refute it at one input. -/
def convLinesWrong : ChangeSpec := { name := "convLines", fn := fun _ => fun
  | [d1, d2, d3, d4, d5] => { results := [.lit (.bool false)], args := [d1, d2, d3, d4, d5] }
  | _ => none }
def ConvLinesWrongFalsely : Prop := convLinesRow.holds Try.pinned (OpenSpec.ofChange convLinesWrong)

/-- 'headkeep.ConvBuckets': WHATEVER THE INPUT: true; the input reads as it did. -/
def convBucketsSpec : ChangeSpec := { name := "convBuckets", fn := fun _ => fun
  | [d1, d2, d3, d4, d5] => { results := [.lit (.bool true)], args := [d1, d2, d3, d4, d5] }
  | _ => none }
def convBucketsRow : OpenClaim := { program := "ytgckndchndiffaa", sum := "f5fa824a46cf186a9d5ce2acbe93d0b35c91422a38f263d3740039d90bea0cab", func := "headway/headkeep.ConvBuckets", spec := "convBuckets", unfollowed := true, recurses := true, apart := false }
def ConvBucketsSaid : Prop := convBucketsRow.holds Try.pinned (OpenSpec.ofChange convBucketsSpec)

/-- ITS FALSE NEIGHBOUR: 'it returns false'. Refute it at one input. -/
def convBucketsWrong : ChangeSpec := { name := "convBuckets", fn := fun _ => fun
  | [d1, d2, d3, d4, d5] => { results := [.lit (.bool false)], args := [d1, d2, d3, d4, d5] }
  | _ => none }
def ConvBucketsWrongFalsely : Prop := convBucketsRow.holds Try.pinned (OpenSpec.ofChange convBucketsWrong)

/-- 'headkeep.InverseGalois': WHATEVER THE INPUT: true; the input reads as it did. -/
def inverseGaloisSpec : ChangeSpec := { name := "inverseGalois", fn := fun _ => fun
  | [d1, d2, d3] => { results := [.lit (.bool true)], args := [d1, d2, d3] }
  | _ => none }
def inverseGaloisRow : OpenClaim := { program := "ytgckndchndiffaa", sum := "f5fa824a46cf186a9d5ce2acbe93d0b35c91422a38f263d3740039d90bea0cab", func := "headway/headkeep.InverseGalois", spec := "inverseGalois", apart := false }
def InverseGaloisSaid : Prop := inverseGaloisRow.holds Try.pinned (OpenSpec.ofChange inverseGaloisSpec)

/-- ITS FALSE NEIGHBOUR: 'it returns false'. Refute it at one input. -/
def inverseGaloisWrong : ChangeSpec := { name := "inverseGalois", fn := fun _ => fun
  | [d1, d2, d3] => { results := [.lit (.bool false)], args := [d1, d2, d3] }
  | _ => none }
def InverseGaloisWrongFalsely : Prop := inverseGaloisRow.holds Try.pinned (OpenSpec.ofChange inverseGaloisWrong)

/-- 'headkeep.InverseGrows': WHATEVER THE INPUT: true; the input reads as it did. -/
def inverseGrowsSpec : ChangeSpec := { name := "inverseGrows", fn := fun _ => fun
  | [d1, d2, d3, d4] => { results := [.lit (.bool true)], args := [d1, d2, d3, d4] }
  | _ => none }
def inverseGrowsRow : OpenClaim := { program := "ytgckndchndiffaa", sum := "f5fa824a46cf186a9d5ce2acbe93d0b35c91422a38f263d3740039d90bea0cab", func := "headway/headkeep.InverseGrows", spec := "inverseGrows", apart := false }
def InverseGrowsSaid : Prop := inverseGrowsRow.holds Try.pinned (OpenSpec.ofChange inverseGrowsSpec)

/-- ITS FALSE NEIGHBOUR: 'it returns false'. Refute it at one input. -/
def inverseGrowsWrong : ChangeSpec := { name := "inverseGrows", fn := fun _ => fun
  | [d1, d2, d3, d4] => { results := [.lit (.bool false)], args := [d1, d2, d3, d4] }
  | _ => none }
def InverseGrowsWrongFalsely : Prop := inverseGrowsRow.holds Try.pinned (OpenSpec.ofChange inverseGrowsWrong)

/-- 'headkeep.ShapeHolds': WHATEVER THE INPUT: true; the input reads as it did. -/
def shapeHoldsSpec : ChangeSpec := { name := "shapeHolds", fn := fun _ => fun
  | [d1, d2, d3] => { results := [.lit (.bool true)], args := [d1, d2, d3] }
  | _ => none }
def shapeHoldsRow : OpenClaim := { program := "ytgckndchndiffaa", sum := "f5fa824a46cf186a9d5ce2acbe93d0b35c91422a38f263d3740039d90bea0cab", func := "headway/headkeep.ShapeHolds", spec := "shapeHolds", unfollowed := true, recurses := true, apart := false }
def ShapeHoldsSaid : Prop := shapeHoldsRow.holds Try.pinned (OpenSpec.ofChange shapeHoldsSpec)

/-- ITS FALSE NEIGHBOUR: 'it returns false'. Refute it at one input. -/
def shapeHoldsWrong : ChangeSpec := { name := "shapeHolds", fn := fun _ => fun
  | [d1, d2, d3] => { results := [.lit (.bool false)], args := [d1, d2, d3] }
  | _ => none }
def ShapeHoldsWrongFalsely : Prop := shapeHoldsRow.holds Try.pinned (OpenSpec.ofChange shapeHoldsWrong)

/-- 'headkeep.ShapeGrows': WHATEVER THE INPUT: true; the input reads as it did. -/
def shapeGrowsSpec : ChangeSpec := { name := "shapeGrows", fn := fun _ => fun
  | [d1, d2, d3, d4, d5] => { results := [.lit (.bool true)], args := [d1, d2, d3, d4, d5] }
  | _ => none }
def shapeGrowsRow : OpenClaim := { program := "ytgckndchndiffaa", sum := "f5fa824a46cf186a9d5ce2acbe93d0b35c91422a38f263d3740039d90bea0cab", func := "headway/headkeep.ShapeGrows", spec := "shapeGrows", unfollowed := true, recurses := true, apart := false }
def ShapeGrowsSaid : Prop := shapeGrowsRow.holds Try.pinned (OpenSpec.ofChange shapeGrowsSpec)

/-- ITS FALSE NEIGHBOUR: 'it returns false'. Refute it at one input. -/
def shapeGrowsWrong : ChangeSpec := { name := "shapeGrows", fn := fun _ => fun
  | [d1, d2, d3, d4, d5] => { results := [.lit (.bool false)], args := [d1, d2, d3, d4, d5] }
  | _ => none }
def ShapeGrowsWrongFalsely : Prop := shapeGrowsRow.holds Try.pinned (OpenSpec.ofChange shapeGrowsWrong)

/-- 'headkeep.InverseBack': WHATEVER THE INPUT: true; the input reads as it did. -/
def inverseBackSpec : ChangeSpec := { name := "inverseBack", fn := fun _ => fun
  | [d1, d2] => { results := [.lit (.bool true)], args := [d1, d2] }
  | _ => none }
def inverseBackRow : OpenClaim := { program := "ytgckndchndiffaa", sum := "f5fa824a46cf186a9d5ce2acbe93d0b35c91422a38f263d3740039d90bea0cab", func := "headway/headkeep.InverseBack", spec := "inverseBack", apart := false }
def InverseBackSaid : Prop := inverseBackRow.holds Try.pinned (OpenSpec.ofChange inverseBackSpec)

/-- ITS FALSE NEIGHBOUR: 'it returns false'. Refute it at one input. -/
def inverseBackWrong : ChangeSpec := { name := "inverseBack", fn := fun _ => fun
  | [d1, d2] => { results := [.lit (.bool false)], args := [d1, d2] }
  | _ => none }
def InverseBackWrongFalsely : Prop := inverseBackRow.holds Try.pinned (OpenSpec.ofChange inverseBackWrong)

/- THE SECOND FORM. 'bulk': how many values and letters a reading holds, each counted each time it is reached (what is shared counts as often as it is met; a slice's spare places count too). A statement '..UptoSaid' is the law's where the arguments, and the package variables that the reading takes, are together of bulk at most 1048576: NARROWER than '..Said'. Prove '..Said' where nothing that the law and all that it calls make is longer than what came in: it says more and counts as full. Else prove '..UptoSaid'. A law counts once. -/
mutual
def uptoBulk {H : Type} : DataW H → Nat
  | .lit (.string bytes) => bytes.length + 1
  | .lit _ => 1
  | .nil => 1
  | .ptr d => uptoBulk d + 1
  | .slice elems spare => uptoBulkAll elems + uptoBulkAll spare + 1
  | .agg parts => uptoBulkAll parts + 1
  | .iface _ d => uptoBulk d + 1
  | .map entries => uptoBulkEntries entries + 1
  | .held _ => 1
def uptoBulkAll {H : Type} : List (DataW H) → Nat
  | [] => 0
  | d :: r => uptoBulk d + uptoBulkAll r
def uptoBulkEntries {H : Type} : List (Lit × DataW H) → Nat
  | [] => 0
  | x :: r => uptoBulkEntry x + uptoBulkEntries r
def uptoBulkEntry {H : Type} : Lit × DataW H → Nat
  | (.string bytes, d) => bytes.length + uptoBulk d + 1
  | (_, d) => uptoBulk d + 1
 end
def uptoSmall : (H : Type) → List (DataW H) → Bool := fun _ ds => decide (uptoBulkAll ds ≤ 1048576)
def OpenSpec.upto (s : _root_.Go.ChangeSpec) : _root_.Go.OpenSpec := { _root_.Go.OpenSpec.ofChange s with cond := some uptoSmall }

/-- 'headlaw.InverseSays', WHERE WHAT IT READS IS OF BULK AT MOST 1048576: true; the input reads as it did. -/
def inverseSaysUptoRow : OpenClaim := { program := "ytgckndchndiffaa", sum := "f5fa824a46cf186a9d5ce2acbe93d0b35c91422a38f263d3740039d90bea0cab", func := "headway/headlaw.InverseSays", spec := "inverseSays", apart := false, narrowed := true }
def InverseSaysUptoSaid : Prop := inverseSaysUptoRow.holds Try.pinned (OpenSpec.upto inverseSaysSpec)

/-- 'headlaw.ShapeSays', WHERE WHAT IT READS IS OF BULK AT MOST 1048576: true; the input reads as it did. -/
def shapeSaysUptoRow : OpenClaim := { program := "ytgckndchndiffaa", sum := "f5fa824a46cf186a9d5ce2acbe93d0b35c91422a38f263d3740039d90bea0cab", func := "headway/headlaw.ShapeSays", spec := "shapeSays", unfollowed := true, recurses := true, apart := false, narrowed := true }
def ShapeSaysUptoSaid : Prop := shapeSaysUptoRow.holds Try.pinned (OpenSpec.upto shapeSaysSpec)

/-- 'headkeep.ConvLines', WHERE WHAT IT READS IS OF BULK AT MOST 1048576: true; the input reads as it did. -/
def convLinesUptoRow : OpenClaim := { program := "ytgckndchndiffaa", sum := "f5fa824a46cf186a9d5ce2acbe93d0b35c91422a38f263d3740039d90bea0cab", func := "headway/headkeep.ConvLines", spec := "convLines", unfollowed := true, recurses := true, apart := false, narrowed := true }
def ConvLinesUptoSaid : Prop := convLinesUptoRow.holds Try.pinned (OpenSpec.upto convLinesSpec)

/-- 'headkeep.ConvBuckets', WHERE WHAT IT READS IS OF BULK AT MOST 1048576: true; the input reads as it did. -/
def convBucketsUptoRow : OpenClaim := { program := "ytgckndchndiffaa", sum := "f5fa824a46cf186a9d5ce2acbe93d0b35c91422a38f263d3740039d90bea0cab", func := "headway/headkeep.ConvBuckets", spec := "convBuckets", unfollowed := true, recurses := true, apart := false, narrowed := true }
def ConvBucketsUptoSaid : Prop := convBucketsUptoRow.holds Try.pinned (OpenSpec.upto convBucketsSpec)

/-- 'headkeep.InverseGalois', WHERE WHAT IT READS IS OF BULK AT MOST 1048576: true; the input reads as it did. -/
def inverseGaloisUptoRow : OpenClaim := { program := "ytgckndchndiffaa", sum := "f5fa824a46cf186a9d5ce2acbe93d0b35c91422a38f263d3740039d90bea0cab", func := "headway/headkeep.InverseGalois", spec := "inverseGalois", apart := false, narrowed := true }
def InverseGaloisUptoSaid : Prop := inverseGaloisUptoRow.holds Try.pinned (OpenSpec.upto inverseGaloisSpec)

/-- 'headkeep.InverseGrows', WHERE WHAT IT READS IS OF BULK AT MOST 1048576: true; the input reads as it did. -/
def inverseGrowsUptoRow : OpenClaim := { program := "ytgckndchndiffaa", sum := "f5fa824a46cf186a9d5ce2acbe93d0b35c91422a38f263d3740039d90bea0cab", func := "headway/headkeep.InverseGrows", spec := "inverseGrows", apart := false, narrowed := true }
def InverseGrowsUptoSaid : Prop := inverseGrowsUptoRow.holds Try.pinned (OpenSpec.upto inverseGrowsSpec)

/-- 'headkeep.ShapeHolds', WHERE WHAT IT READS IS OF BULK AT MOST 1048576: true; the input reads as it did. -/
def shapeHoldsUptoRow : OpenClaim := { program := "ytgckndchndiffaa", sum := "f5fa824a46cf186a9d5ce2acbe93d0b35c91422a38f263d3740039d90bea0cab", func := "headway/headkeep.ShapeHolds", spec := "shapeHolds", unfollowed := true, recurses := true, apart := false, narrowed := true }
def ShapeHoldsUptoSaid : Prop := shapeHoldsUptoRow.holds Try.pinned (OpenSpec.upto shapeHoldsSpec)

/-- 'headkeep.ShapeGrows', WHERE WHAT IT READS IS OF BULK AT MOST 1048576: true; the input reads as it did. -/
def shapeGrowsUptoRow : OpenClaim := { program := "ytgckndchndiffaa", sum := "f5fa824a46cf186a9d5ce2acbe93d0b35c91422a38f263d3740039d90bea0cab", func := "headway/headkeep.ShapeGrows", spec := "shapeGrows", unfollowed := true, recurses := true, apart := false, narrowed := true }
def ShapeGrowsUptoSaid : Prop := shapeGrowsUptoRow.holds Try.pinned (OpenSpec.upto shapeGrowsSpec)

/-- 'headkeep.InverseBack', WHERE WHAT IT READS IS OF BULK AT MOST 1048576: true; the input reads as it did. -/
def inverseBackUptoRow : OpenClaim := { program := "ytgckndchndiffaa", sum := "f5fa824a46cf186a9d5ce2acbe93d0b35c91422a38f263d3740039d90bea0cab", func := "headway/headkeep.InverseBack", spec := "inverseBack", apart := false, narrowed := true }
def InverseBackUptoSaid : Prop := inverseBackUptoRow.holds Try.pinned (OpenSpec.upto inverseBackSpec)

end Rows
end Go.Proofs.Ytgckndchndiffaa
