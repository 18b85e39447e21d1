/-
  No cell of these rows narrows 'for every input' (looked for: loops, veiled, ifaces, maps, wideKeys, modest, calm, conditions, laid).
  DERIVED. THE GIVEN ROWS OF THIS SEAT. 11 by the template 'for every input the law returns true; each argument reads behind the call as it read before'; 0 by the template 'total and deterministic' (their statements: YtgjdckodalmjcaaTotals.lean).
  GIVEN WITH THE SEED: the statements are not yours to turn. If you find one false, say at which input.
  Laid BY PROGRAM, IN A SANDBOX (cutbox-rows.mjs): the forced cells as the released guide's own fill.sh prints them over the translation 242bae5c369c37cf… (all of the seat's roots in one cut). By AI agents, Wed Nov 11 2026. No macro, syntax, notation, axiom, sorry.
-/
import Derived.Test.YtgjdckodalmjcaaChecked
import GoSem.Claim
import GoSem.ClaimJoined
import GoSem.ClaimMapViews
import Derived.JoinedTies
import Derived.KernelRfl
namespace Go.Proofs.Ytgjdckodalmjcaa
/- THE CELL 'sum', in the pinned program and in every row, IS THE sha256 OF THE DUMP (.gsa) THAT YtgjdckodalmjcaaProg.lean LOADS. Nothing in Lean hashes anything: it is a label: what it is worth is what the hold of that sum in a sandbox is worth. -/
noncomputable def Try.pinned : Pinned := { name := "ytgjdckodalmjcaa", sum := "242bae5c369c37cf09bd4e528ab841375e433c7bb419c4a65651dc6c9a9ae778", checked := Try.checked }
namespace Rows
def none {H : Type} : Left H := { results := [], args := [] }

/-- 'headlaw.ConvSays': WHATEVER THE INPUT: true; the input reads as it did. -/
def convSaysSpec : ChangeSpec := { name := "convSays", fn := fun _ => fun
  | [d1, d2] => { results := [.lit (.bool true)], args := [d1, d2] }
  | _ => none }
def convSaysRow : OpenClaim := { program := "ytgjdckodalmjcaa", sum := "242bae5c369c37cf09bd4e528ab841375e433c7bb419c4a65651dc6c9a9ae778", func := "headway/headlaw.ConvSays", spec := "convSays", unfollowed := true, recurses := true, apart := false }
def ConvSaysSaid : Prop := convSaysRow.holds Try.pinned (OpenSpec.ofChange convSaysSpec)

/-- ITS FALSE NEIGHBOUR: 'it returns false'. Refute it at one input. -/
def convSaysWrong : ChangeSpec := { name := "convSays", fn := fun _ => fun
  | [d1, d2] => { results := [.lit (.bool false)], args := [d1, d2] }
  | _ => none }
def ConvSaysWrongFalsely : Prop := convSaysRow.holds Try.pinned (OpenSpec.ofChange convSaysWrong)

/-- 'headlaw.ConvTimes': WHATEVER THE INPUT: true; the input reads as it did. -/
def convTimesSpec : ChangeSpec := { name := "convTimes", fn := fun _ => fun
  | [d1, d2] => { results := [.lit (.bool true)], args := [d1, d2] }
  | _ => none }
def convTimesRow : OpenClaim := { program := "ytgjdckodalmjcaa", sum := "242bae5c369c37cf09bd4e528ab841375e433c7bb419c4a65651dc6c9a9ae778", func := "headway/headlaw.ConvTimes", spec := "convTimes", unfollowed := true, recurses := true, apart := false }
def ConvTimesSaid : Prop := convTimesRow.holds Try.pinned (OpenSpec.ofChange convTimesSpec)

/-- ITS FALSE NEIGHBOUR: 'it returns false'. Refute it at one input. -/
def convTimesWrong : ChangeSpec := { name := "convTimes", fn := fun _ => fun
  | [d1, d2] => { results := [.lit (.bool false)], args := [d1, d2] }
  | _ => none }
def ConvTimesWrongFalsely : Prop := convTimesRow.holds Try.pinned (OpenSpec.ofChange convTimesWrong)

/-- 'headkeep.ConvOrders': WHATEVER THE INPUT: true; the input reads as it did. -/
def convOrdersSpec : ChangeSpec := { name := "convOrders", fn := fun _ => fun
  | [d1, d2, d3] => { results := [.lit (.bool true)], args := [d1, d2, d3] }
  | _ => none }
def convOrdersRow : OpenClaim := { program := "ytgjdckodalmjcaa", sum := "242bae5c369c37cf09bd4e528ab841375e433c7bb419c4a65651dc6c9a9ae778", func := "headway/headkeep.ConvOrders", spec := "convOrders", unfollowed := true, recurses := true, apart := false }
def ConvOrdersSaid : Prop := convOrdersRow.holds Try.pinned (OpenSpec.ofChange convOrdersSpec)

/-- ITS FALSE NEIGHBOUR: 'it returns false'. Refute it at one input. -/
def convOrdersWrong : ChangeSpec := { name := "convOrders", fn := fun _ => fun
  | [d1, d2, d3] => { results := [.lit (.bool false)], args := [d1, d2, d3] }
  | _ => none }
def ConvOrdersWrongFalsely : Prop := convOrdersRow.holds Try.pinned (OpenSpec.ofChange convOrdersWrong)

/-- 'headkeep.ConvGrows': WHATEVER THE INPUT: true; the input reads as it did. -/
def convGrowsSpec : ChangeSpec := { name := "convGrows", fn := fun _ => fun
  | [d1, d2, d3] => { results := [.lit (.bool true)], args := [d1, d2, d3] }
  | _ => none }
def convGrowsRow : OpenClaim := { program := "ytgjdckodalmjcaa", sum := "242bae5c369c37cf09bd4e528ab841375e433c7bb419c4a65651dc6c9a9ae778", func := "headway/headkeep.ConvGrows", spec := "convGrows", unfollowed := true, recurses := true, apart := false }
def ConvGrowsSaid : Prop := convGrowsRow.holds Try.pinned (OpenSpec.ofChange convGrowsSpec)

/-- ITS FALSE NEIGHBOUR: 'it returns false'. Refute it at one input. -/
def convGrowsWrong : ChangeSpec := { name := "convGrows", fn := fun _ => fun
  | [d1, d2, d3] => { results := [.lit (.bool false)], args := [d1, d2, d3] }
  | _ => none }
def ConvGrowsWrongFalsely : Prop := convGrowsRow.holds Try.pinned (OpenSpec.ofChange convGrowsWrong)

/-- 'headkeep.ConvMin': WHATEVER THE INPUT: true; the input reads as it did. -/
def convMinSpec : ChangeSpec := { name := "convMin", fn := fun _ => fun
  | [d1, d2, d3] => { results := [.lit (.bool true)], args := [d1, d2, d3] }
  | _ => none }
def convMinRow : OpenClaim := { program := "ytgjdckodalmjcaa", sum := "242bae5c369c37cf09bd4e528ab841375e433c7bb419c4a65651dc6c9a9ae778", func := "headway/headkeep.ConvMin", spec := "convMin", unfollowed := true, recurses := true, apart := false }
def ConvMinSaid : Prop := convMinRow.holds Try.pinned (OpenSpec.ofChange convMinSpec)

/-- ITS FALSE NEIGHBOUR: 'it returns false'. Refute it at one input. -/
def convMinWrong : ChangeSpec := { name := "convMin", fn := fun _ => fun
  | [d1, d2, d3] => { results := [.lit (.bool false)], args := [d1, d2, d3] }
  | _ => none }
def ConvMinWrongFalsely : Prop := convMinRow.holds Try.pinned (OpenSpec.ofChange convMinWrong)

/-- 'headkeep.ConvUp': WHATEVER THE INPUT: true; the input reads as it did. -/
def convUpSpec : ChangeSpec := { name := "convUp", fn := fun _ => fun
  | [d1, d2, d3] => { results := [.lit (.bool true)], args := [d1, d2, d3] }
  | _ => none }
def convUpRow : OpenClaim := { program := "ytgjdckodalmjcaa", sum := "242bae5c369c37cf09bd4e528ab841375e433c7bb419c4a65651dc6c9a9ae778", func := "headway/headkeep.ConvUp", spec := "convUp", unfollowed := true, recurses := true, apart := false }
def ConvUpSaid : Prop := convUpRow.holds Try.pinned (OpenSpec.ofChange convUpSpec)

/-- ITS FALSE NEIGHBOUR: 'it returns false'. Refute it at one input. -/
def convUpWrong : ChangeSpec := { name := "convUp", fn := fun _ => fun
  | [d1, d2, d3] => { results := [.lit (.bool false)], args := [d1, d2, d3] }
  | _ => none }
def ConvUpWrongFalsely : Prop := convUpRow.holds Try.pinned (OpenSpec.ofChange convUpWrong)

/-- 'headkeep.ConvCuts': WHATEVER THE INPUT: true; the input reads as it did. -/
def convCutsSpec : ChangeSpec := { name := "convCuts", fn := fun _ => fun
  | [d1, d2, d3] => { results := [.lit (.bool true)], args := [d1, d2, d3] }
  | _ => none }
def convCutsRow : OpenClaim := { program := "ytgjdckodalmjcaa", sum := "242bae5c369c37cf09bd4e528ab841375e433c7bb419c4a65651dc6c9a9ae778", func := "headway/headkeep.ConvCuts", spec := "convCuts", unfollowed := true, recurses := true, apart := false }
def ConvCutsSaid : Prop := convCutsRow.holds Try.pinned (OpenSpec.ofChange convCutsSpec)

/-- ITS FALSE NEIGHBOUR: 'it returns false'. Refute it at one input. -/
def convCutsWrong : ChangeSpec := { name := "convCuts", fn := fun _ => fun
  | [d1, d2, d3] => { results := [.lit (.bool false)], args := [d1, d2, d3] }
  | _ => none }
def ConvCutsWrongFalsely : Prop := convCutsRow.holds Try.pinned (OpenSpec.ofChange convCutsWrong)

/-- 'headkeep.ConvPowers': WHATEVER THE INPUT: true; the input reads as it did. -/
def convPowersSpec : ChangeSpec := { name := "convPowers", fn := fun _ => fun
  | [d1, d2, d3] => { results := [.lit (.bool true)], args := [d1, d2, d3] }
  | _ => none }
def convPowersRow : OpenClaim := { program := "ytgjdckodalmjcaa", sum := "242bae5c369c37cf09bd4e528ab841375e433c7bb419c4a65651dc6c9a9ae778", func := "headway/headkeep.ConvPowers", spec := "convPowers", unfollowed := true, recurses := true, apart := false }
def ConvPowersSaid : Prop := convPowersRow.holds Try.pinned (OpenSpec.ofChange convPowersSpec)

/-- ITS FALSE NEIGHBOUR: 'it returns false'. Refute it at one input. -/
def convPowersWrong : ChangeSpec := { name := "convPowers", fn := fun _ => fun
  | [d1, d2, d3] => { results := [.lit (.bool false)], args := [d1, d2, d3] }
  | _ => none }
def ConvPowersWrongFalsely : Prop := convPowersRow.holds Try.pinned (OpenSpec.ofChange convPowersWrong)

/-- 'headkeep.DeconvGalois': WHATEVER THE INPUT: true; the input reads as it did. -/
def deconvGaloisSpec : ChangeSpec := { name := "deconvGalois", fn := fun _ => fun
  | [d1, d2, d3] => { results := [.lit (.bool true)], args := [d1, d2, d3] }
  | _ => none }
def deconvGaloisRow : OpenClaim := { program := "ytgjdckodalmjcaa", sum := "242bae5c369c37cf09bd4e528ab841375e433c7bb419c4a65651dc6c9a9ae778", func := "headway/headkeep.DeconvGalois", spec := "deconvGalois", unfollowed := true, recurses := true, apart := false }
def DeconvGaloisSaid : Prop := deconvGaloisRow.holds Try.pinned (OpenSpec.ofChange deconvGaloisSpec)

/-- ITS FALSE NEIGHBOUR: 'it returns false'. Refute it at one input. -/
def deconvGaloisWrong : ChangeSpec := { name := "deconvGalois", fn := fun _ => fun
  | [d1, d2, d3] => { results := [.lit (.bool false)], args := [d1, d2, d3] }
  | _ => none }
def DeconvGaloisWrongFalsely : Prop := deconvGaloisRow.holds Try.pinned (OpenSpec.ofChange deconvGaloisWrong)

/-- 'headkeep.DeconvTwice': WHATEVER THE INPUT: true; the input reads as it did. -/
def deconvTwiceSpec : ChangeSpec := { name := "deconvTwice", fn := fun _ => fun
  | [d1, d2, d3] => { results := [.lit (.bool true)], args := [d1, d2, d3] }
  | _ => none }
def deconvTwiceRow : OpenClaim := { program := "ytgjdckodalmjcaa", sum := "242bae5c369c37cf09bd4e528ab841375e433c7bb419c4a65651dc6c9a9ae778", func := "headway/headkeep.DeconvTwice", spec := "deconvTwice", unfollowed := true, recurses := true, apart := false }
def DeconvTwiceSaid : Prop := deconvTwiceRow.holds Try.pinned (OpenSpec.ofChange deconvTwiceSpec)

/-- ITS FALSE NEIGHBOUR: 'it returns false'. Refute it at one input. -/
def deconvTwiceWrong : ChangeSpec := { name := "deconvTwice", fn := fun _ => fun
  | [d1, d2, d3] => { results := [.lit (.bool false)], args := [d1, d2, d3] }
  | _ => none }
def DeconvTwiceWrongFalsely : Prop := deconvTwiceRow.holds Try.pinned (OpenSpec.ofChange deconvTwiceWrong)

/-- 'headkeep.ConvNeutral': WHATEVER THE INPUT: true; the input reads as it did. -/
def convNeutralSpec : ChangeSpec := { name := "convNeutral", fn := fun _ => fun
  | [d] => { results := [.lit (.bool true)], args := [d] }
  | _ => none }
def convNeutralRow : OpenClaim := { program := "ytgjdckodalmjcaa", sum := "242bae5c369c37cf09bd4e528ab841375e433c7bb419c4a65651dc6c9a9ae778", func := "headway/headkeep.ConvNeutral", spec := "convNeutral", unfollowed := true, recurses := true, apart := false }
def ConvNeutralSaid : Prop := convNeutralRow.holds Try.pinned (OpenSpec.ofChange convNeutralSpec)

/-- ITS FALSE NEIGHBOUR: 'it returns false'. Refute it at one input. -/
def convNeutralWrong : ChangeSpec := { name := "convNeutral", fn := fun _ => fun
  | [d] => { results := [.lit (.bool false)], args := [d] }
  | _ => none }
def ConvNeutralWrongFalsely : Prop := convNeutralRow.holds Try.pinned (OpenSpec.ofChange convNeutralWrong)

/- THE SECOND FORM. 'bulk': how many values and letters a reading holds, each counted each time it is reached (what is shared counts as often as it is met; a slice's spare places count too). A statement '..UptoSaid' is the law's where the arguments, and the package variables that the reading takes, are together of bulk at most 1048576: NARROWER than '..Said'. Prove '..Said' where nothing that the law and all that it calls make is longer than what came in: it says more and counts as full. Else prove '..UptoSaid'. A law counts once. -/
mutual
def uptoBulk {H : Type} : DataW H → Nat
  | .lit (.string bytes) => bytes.length + 1
  | .lit _ => 1
  | .nil => 1
  | .ptr d => uptoBulk d + 1
  | .slice elems spare => uptoBulkAll elems + uptoBulkAll spare + 1
  | .agg parts => uptoBulkAll parts + 1
  | .iface _ d => uptoBulk d + 1
  | .map entries => uptoBulkEntries entries + 1
  | .held _ => 1
def uptoBulkAll {H : Type} : List (DataW H) → Nat
  | [] => 0
  | d :: r => uptoBulk d + uptoBulkAll r
def uptoBulkEntries {H : Type} : List (Lit × DataW H) → Nat
  | [] => 0
  | x :: r => uptoBulkEntry x + uptoBulkEntries r
def uptoBulkEntry {H : Type} : Lit × DataW H → Nat
  | (.string bytes, d) => bytes.length + uptoBulk d + 1
  | (_, d) => uptoBulk d + 1
 end
def uptoSmall : (H : Type) → List (DataW H) → Bool := fun _ ds => decide (uptoBulkAll ds ≤ 1048576)
def OpenSpec.upto (s : _root_.Go.ChangeSpec) : _root_.Go.OpenSpec := { _root_.Go.OpenSpec.ofChange s with cond := some uptoSmall }

/-- 'headlaw.ConvSays', WHERE WHAT IT READS IS OF BULK AT MOST 1048576: true; the input reads as it did. -/
def convSaysUptoRow : OpenClaim := { program := "ytgjdckodalmjcaa", sum := "242bae5c369c37cf09bd4e528ab841375e433c7bb419c4a65651dc6c9a9ae778", func := "headway/headlaw.ConvSays", spec := "convSays", unfollowed := true, recurses := true, apart := false, narrowed := true }
def ConvSaysUptoSaid : Prop := convSaysUptoRow.holds Try.pinned (OpenSpec.upto convSaysSpec)

/-- 'headlaw.ConvTimes', WHERE WHAT IT READS IS OF BULK AT MOST 1048576: true; the input reads as it did. -/
def convTimesUptoRow : OpenClaim := { program := "ytgjdckodalmjcaa", sum := "242bae5c369c37cf09bd4e528ab841375e433c7bb419c4a65651dc6c9a9ae778", func := "headway/headlaw.ConvTimes", spec := "convTimes", unfollowed := true, recurses := true, apart := false, narrowed := true }
def ConvTimesUptoSaid : Prop := convTimesUptoRow.holds Try.pinned (OpenSpec.upto convTimesSpec)

/-- 'headkeep.ConvOrders', WHERE WHAT IT READS IS OF BULK AT MOST 1048576: true; the input reads as it did. -/
def convOrdersUptoRow : OpenClaim := { program := "ytgjdckodalmjcaa", sum := "242bae5c369c37cf09bd4e528ab841375e433c7bb419c4a65651dc6c9a9ae778", func := "headway/headkeep.ConvOrders", spec := "convOrders", unfollowed := true, recurses := true, apart := false, narrowed := true }
def ConvOrdersUptoSaid : Prop := convOrdersUptoRow.holds Try.pinned (OpenSpec.upto convOrdersSpec)

/-- 'headkeep.ConvGrows', WHERE WHAT IT READS IS OF BULK AT MOST 1048576: true; the input reads as it did. -/
def convGrowsUptoRow : OpenClaim := { program := "ytgjdckodalmjcaa", sum := "242bae5c369c37cf09bd4e528ab841375e433c7bb419c4a65651dc6c9a9ae778", func := "headway/headkeep.ConvGrows", spec := "convGrows", unfollowed := true, recurses := true, apart := false, narrowed := true }
def ConvGrowsUptoSaid : Prop := convGrowsUptoRow.holds Try.pinned (OpenSpec.upto convGrowsSpec)

/-- 'headkeep.ConvMin', WHERE WHAT IT READS IS OF BULK AT MOST 1048576: true; the input reads as it did. -/
def convMinUptoRow : OpenClaim := { program := "ytgjdckodalmjcaa", sum := "242bae5c369c37cf09bd4e528ab841375e433c7bb419c4a65651dc6c9a9ae778", func := "headway/headkeep.ConvMin", spec := "convMin", unfollowed := true, recurses := true, apart := false, narrowed := true }
def ConvMinUptoSaid : Prop := convMinUptoRow.holds Try.pinned (OpenSpec.upto convMinSpec)

/-- 'headkeep.ConvUp', WHERE WHAT IT READS IS OF BULK AT MOST 1048576: true; the input reads as it did. -/
def convUpUptoRow : OpenClaim := { program := "ytgjdckodalmjcaa", sum := "242bae5c369c37cf09bd4e528ab841375e433c7bb419c4a65651dc6c9a9ae778", func := "headway/headkeep.ConvUp", spec := "convUp", unfollowed := true, recurses := true, apart := false, narrowed := true }
def ConvUpUptoSaid : Prop := convUpUptoRow.holds Try.pinned (OpenSpec.upto convUpSpec)

/-- 'headkeep.ConvCuts', WHERE WHAT IT READS IS OF BULK AT MOST 1048576: true; the input reads as it did. -/
def convCutsUptoRow : OpenClaim := { program := "ytgjdckodalmjcaa", sum := "242bae5c369c37cf09bd4e528ab841375e433c7bb419c4a65651dc6c9a9ae778", func := "headway/headkeep.ConvCuts", spec := "convCuts", unfollowed := true, recurses := true, apart := false, narrowed := true }
def ConvCutsUptoSaid : Prop := convCutsUptoRow.holds Try.pinned (OpenSpec.upto convCutsSpec)

/-- 'headkeep.ConvPowers', WHERE WHAT IT READS IS OF BULK AT MOST 1048576: true; the input reads as it did. -/
def convPowersUptoRow : OpenClaim := { program := "ytgjdckodalmjcaa", sum := "242bae5c369c37cf09bd4e528ab841375e433c7bb419c4a65651dc6c9a9ae778", func := "headway/headkeep.ConvPowers", spec := "convPowers", unfollowed := true, recurses := true, apart := false, narrowed := true }
def ConvPowersUptoSaid : Prop := convPowersUptoRow.holds Try.pinned (OpenSpec.upto convPowersSpec)

/-- 'headkeep.DeconvGalois', WHERE WHAT IT READS IS OF BULK AT MOST 1048576: true; the input reads as it did. -/
def deconvGaloisUptoRow : OpenClaim := { program := "ytgjdckodalmjcaa", sum := "242bae5c369c37cf09bd4e528ab841375e433c7bb419c4a65651dc6c9a9ae778", func := "headway/headkeep.DeconvGalois", spec := "deconvGalois", unfollowed := true, recurses := true, apart := false, narrowed := true }
def DeconvGaloisUptoSaid : Prop := deconvGaloisUptoRow.holds Try.pinned (OpenSpec.upto deconvGaloisSpec)

/-- 'headkeep.DeconvTwice', WHERE WHAT IT READS IS OF BULK AT MOST 1048576: true; the input reads as it did. -/
def deconvTwiceUptoRow : OpenClaim := { program := "ytgjdckodalmjcaa", sum := "242bae5c369c37cf09bd4e528ab841375e433c7bb419c4a65651dc6c9a9ae778", func := "headway/headkeep.DeconvTwice", spec := "deconvTwice", unfollowed := true, recurses := true, apart := false, narrowed := true }
def DeconvTwiceUptoSaid : Prop := deconvTwiceUptoRow.holds Try.pinned (OpenSpec.upto deconvTwiceSpec)

/-- 'headkeep.ConvNeutral', WHERE WHAT IT READS IS OF BULK AT MOST 1048576: true; the input reads as it did. -/
def convNeutralUptoRow : OpenClaim := { program := "ytgjdckodalmjcaa", sum := "242bae5c369c37cf09bd4e528ab841375e433c7bb419c4a65651dc6c9a9ae778", func := "headway/headkeep.ConvNeutral", spec := "convNeutral", unfollowed := true, recurses := true, apart := false, narrowed := true }
def ConvNeutralUptoSaid : Prop := convNeutralUptoRow.holds Try.pinned (OpenSpec.upto convNeutralSpec)

end Rows
end Go.Proofs.Ytgjdckodalmjcaa
