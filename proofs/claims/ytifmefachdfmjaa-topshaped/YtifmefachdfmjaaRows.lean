/-
  No cell of these rows narrows 'for every input' (looked for: loops, veiled, ifaces, maps, wideKeys, modest, calm, conditions, laid).
  DERIVED. THE GIVEN ROWS OF THIS SEAT. 10 by the template 'for every input the law returns true; each argument reads behind the call as it read before'; 0 by the template 'total and deterministic' (their statements: YtifmefachdfmjaaTotals.lean).
  GIVEN WITH THE SEED: the statements are not yours to turn. If you find one false, say at which input.
  Laid BY PROGRAM, IN A SANDBOX (cutbox-rows.mjs): the forced cells as the released guide's own fill.sh prints them over the translation b5c33830ec42b7a1… (all of the seat's roots in one cut). By AI agents, Wed Nov 11 2026. No macro, syntax, notation, axiom, sorry.
-/
import Derived.Test.YtifmefachdfmjaaChecked
import GoSem.Claim
import GoSem.ClaimJoined
import GoSem.ClaimMapViews
import Derived.JoinedTies
import Derived.KernelRfl
namespace Go.Proofs.Ytifmefachdfmjaa
/- THE CELL 'sum', in the pinned program and in every row, IS THE sha256 OF THE DUMP (.gsa) THAT YtifmefachdfmjaaProg.lean LOADS. Nothing in Lean hashes anything: it is a label: what it is worth is what the hold of that sum in a sandbox is worth. -/
noncomputable def Try.pinned : Pinned := { name := "ytifmefachdfmjaa", sum := "b5c33830ec42b7a1192122aab8d613647c164c702526008570f8666b77bb7cf3", checked := Try.checked }
namespace Rows
def none {H : Type} : Left H := { results := [], args := [] }

/-- 'headlaw.LineSays': WHATEVER THE INPUT: true; the input reads as it did. -/
def lineSaysSpec : ChangeSpec := { name := "lineSays", fn := fun _ => fun
  | [d1, d2] => { results := [.lit (.bool true)], args := [d1, d2] }
  | _ => none }
def lineSaysRow : OpenClaim := { program := "ytifmefachdfmjaa", sum := "b5c33830ec42b7a1192122aab8d613647c164c702526008570f8666b77bb7cf3", func := "headway/headlaw.LineSays", spec := "lineSays", unfollowed := true, recurses := true, apart := false }
def LineSaysSaid : Prop := lineSaysRow.holds Try.pinned (OpenSpec.ofChange lineSaysSpec)

/-- ITS FALSE NEIGHBOUR: 'it returns false'. Refute it at one input. -/
def lineSaysWrong : ChangeSpec := { name := "lineSays", fn := fun _ => fun
  | [d1, d2] => { results := [.lit (.bool false)], args := [d1, d2] }
  | _ => none }
def LineSaysWrongFalsely : Prop := lineSaysRow.holds Try.pinned (OpenSpec.ofChange lineSaysWrong)

/-- 'headkeep.LineWaits': WHATEVER THE INPUT: true; the input reads as it did. -/
def lineWaitsSpec : ChangeSpec := { name := "lineWaits", fn := fun _ => fun
  | [d1, d2] => { results := [.lit (.bool true)], args := [d1, d2] }
  | _ => none }
def lineWaitsRow : OpenClaim := { program := "ytifmefachdfmjaa", sum := "b5c33830ec42b7a1192122aab8d613647c164c702526008570f8666b77bb7cf3", func := "headway/headkeep.LineWaits", spec := "lineWaits", apart := false }
def LineWaitsSaid : Prop := lineWaitsRow.holds Try.pinned (OpenSpec.ofChange lineWaitsSpec)

/-- ITS FALSE NEIGHBOUR: 'it returns false'. Refute it at one input. -/
def lineWaitsWrong : ChangeSpec := { name := "lineWaits", fn := fun _ => fun
  | [d1, d2] => { results := [.lit (.bool false)], args := [d1, d2] }
  | _ => none }
def LineWaitsWrongFalsely : Prop := lineWaitsRow.holds Try.pinned (OpenSpec.ofChange lineWaitsWrong)

/-- 'headkeep.LineConv': WHATEVER THE INPUT: true; the input reads as it did. -/
def lineConvSpec : ChangeSpec := { name := "lineConv", fn := fun _ => fun
  | [d1, d2] => { results := [.lit (.bool true)], args := [d1, d2] }
  | _ => none }
def lineConvRow : OpenClaim := { program := "ytifmefachdfmjaa", sum := "b5c33830ec42b7a1192122aab8d613647c164c702526008570f8666b77bb7cf3", func := "headway/headkeep.LineConv", spec := "lineConv", unfollowed := true, recurses := true, apart := false }
def LineConvSaid : Prop := lineConvRow.holds Try.pinned (OpenSpec.ofChange lineConvSpec)

/-- ITS FALSE NEIGHBOUR: 'it returns false'. Refute it at one input. -/
def lineConvWrong : ChangeSpec := { name := "lineConv", fn := fun _ => fun
  | [d1, d2] => { results := [.lit (.bool false)], args := [d1, d2] }
  | _ => none }
def LineConvWrongFalsely : Prop := lineConvRow.holds Try.pinned (OpenSpec.ofChange lineConvWrong)

/-- 'headkeep.LineTwo': WHATEVER THE INPUT: true; the input reads as it did. -/
def lineTwoSpec : ChangeSpec := { name := "lineTwo", fn := fun _ => fun
  | [d1, d2, d3] => { results := [.lit (.bool true)], args := [d1, d2, d3] }
  | _ => none }
def lineTwoRow : OpenClaim := { program := "ytifmefachdfmjaa", sum := "b5c33830ec42b7a1192122aab8d613647c164c702526008570f8666b77bb7cf3", func := "headway/headkeep.LineTwo", spec := "lineTwo", apart := false }
def LineTwoSaid : Prop := lineTwoRow.holds Try.pinned (OpenSpec.ofChange lineTwoSpec)

/-- ITS FALSE NEIGHBOUR: 'it returns false'. Refute it at one input. -/
def lineTwoWrong : ChangeSpec := { name := "lineTwo", fn := fun _ => fun
  | [d1, d2, d3] => { results := [.lit (.bool false)], args := [d1, d2, d3] }
  | _ => none }
def LineTwoWrongFalsely : Prop := lineTwoRow.holds Try.pinned (OpenSpec.ofChange lineTwoWrong)

/-- 'headkeep.LineBusy': WHATEVER THE INPUT: true; the input reads as it did. -/
def lineBusySpec : ChangeSpec := { name := "lineBusy", fn := fun _ => fun
  | [d1, d2, d3, d4] => { results := [.lit (.bool true)], args := [d1, d2, d3, d4] }
  | _ => none }
def lineBusyRow : OpenClaim := { program := "ytifmefachdfmjaa", sum := "b5c33830ec42b7a1192122aab8d613647c164c702526008570f8666b77bb7cf3", func := "headway/headkeep.LineBusy", spec := "lineBusy", apart := false }
def LineBusySaid : Prop := lineBusyRow.holds Try.pinned (OpenSpec.ofChange lineBusySpec)

/-- ITS FALSE NEIGHBOUR: 'it returns false'. Refute it at one input. -/
def lineBusyWrong : ChangeSpec := { name := "lineBusy", fn := fun _ => fun
  | [d1, d2, d3, d4] => { results := [.lit (.bool false)], args := [d1, d2, d3, d4] }
  | _ => none }
def LineBusyWrongFalsely : Prop := lineBusyRow.holds Try.pinned (OpenSpec.ofChange lineBusyWrong)

/-- 'headkeep.LineGrows': WHATEVER THE INPUT: true; the input reads as it did. -/
def lineGrowsSpec : ChangeSpec := { name := "lineGrows", fn := fun _ => fun
  | [d1, d2, d3, d4] => { results := [.lit (.bool true)], args := [d1, d2, d3, d4] }
  | _ => none }
def lineGrowsRow : OpenClaim := { program := "ytifmefachdfmjaa", sum := "b5c33830ec42b7a1192122aab8d613647c164c702526008570f8666b77bb7cf3", func := "headway/headkeep.LineGrows", spec := "lineGrows", apart := false }
def LineGrowsSaid : Prop := lineGrowsRow.holds Try.pinned (OpenSpec.ofChange lineGrowsSpec)

/-- ITS FALSE NEIGHBOUR: 'it returns false'. Refute it at one input. -/
def lineGrowsWrong : ChangeSpec := { name := "lineGrows", fn := fun _ => fun
  | [d1, d2, d3, d4] => { results := [.lit (.bool false)], args := [d1, d2, d3, d4] }
  | _ => none }
def LineGrowsWrongFalsely : Prop := lineGrowsRow.holds Try.pinned (OpenSpec.ofChange lineGrowsWrong)

/-- 'headkeep.LineSums': WHATEVER THE INPUT: true; the input reads as it did. -/
def lineSumsSpec : ChangeSpec := { name := "lineSums", fn := fun _ => fun
  | [d1, d2] => { results := [.lit (.bool true)], args := [d1, d2] }
  | _ => none }
def lineSumsRow : OpenClaim := { program := "ytifmefachdfmjaa", sum := "b5c33830ec42b7a1192122aab8d613647c164c702526008570f8666b77bb7cf3", func := "headway/headkeep.LineSums", spec := "lineSums", apart := false }
def LineSumsSaid : Prop := lineSumsRow.holds Try.pinned (OpenSpec.ofChange lineSumsSpec)

/-- ITS FALSE NEIGHBOUR: 'it returns false'. Refute it at one input. -/
def lineSumsWrong : ChangeSpec := { name := "lineSums", fn := fun _ => fun
  | [d1, d2] => { results := [.lit (.bool false)], args := [d1, d2] }
  | _ => none }
def LineSumsWrongFalsely : Prop := lineSumsRow.holds Try.pinned (OpenSpec.ofChange lineSumsWrong)

/-- 'headkeep.LineJoins': WHATEVER THE INPUT: true; the input reads as it did. -/
def lineJoinsSpec : ChangeSpec := { name := "lineJoins", fn := fun _ => fun
  | [d1, d2, d3] => { results := [.lit (.bool true)], args := [d1, d2, d3] }
  | _ => none }
def lineJoinsRow : OpenClaim := { program := "ytifmefachdfmjaa", sum := "b5c33830ec42b7a1192122aab8d613647c164c702526008570f8666b77bb7cf3", func := "headway/headkeep.LineJoins", spec := "lineJoins", apart := false }
def LineJoinsSaid : Prop := lineJoinsRow.holds Try.pinned (OpenSpec.ofChange lineJoinsSpec)

/-- ITS FALSE NEIGHBOUR: 'it returns false'. Refute it at one input. -/
def lineJoinsWrong : ChangeSpec := { name := "lineJoins", fn := fun _ => fun
  | [d1, d2, d3] => { results := [.lit (.bool false)], args := [d1, d2, d3] }
  | _ => none }
def LineJoinsWrongFalsely : Prop := lineJoinsRow.holds Try.pinned (OpenSpec.ofChange lineJoinsWrong)

/-- 'headkeep.CurvesOwn': WHATEVER THE INPUT: true; the input reads as it did. -/
def curvesOwnSpec : ChangeSpec := { name := "curvesOwn", fn := fun _ => fun
  | [d1, d2, d3] => { results := [.lit (.bool true)], args := [d1, d2, d3] }
  | _ => none }
def curvesOwnRow : OpenClaim := { program := "ytifmefachdfmjaa", sum := "b5c33830ec42b7a1192122aab8d613647c164c702526008570f8666b77bb7cf3", func := "headway/headkeep.CurvesOwn", spec := "curvesOwn", unfollowed := true, recurses := true, apart := false }
def CurvesOwnSaid : Prop := curvesOwnRow.holds Try.pinned (OpenSpec.ofChange curvesOwnSpec)

/-- ITS FALSE NEIGHBOUR: 'it returns false'. Refute it at one input. -/
def curvesOwnWrong : ChangeSpec := { name := "curvesOwn", fn := fun _ => fun
  | [d1, d2, d3] => { results := [.lit (.bool false)], args := [d1, d2, d3] }
  | _ => none }
def CurvesOwnWrongFalsely : Prop := curvesOwnRow.holds Try.pinned (OpenSpec.ofChange curvesOwnWrong)

/-- 'headtop.TopShaped': WHATEVER THE INPUT: true; the input reads as it did. -/
def topShapedSpec : ChangeSpec := { name := "topShaped", fn := fun _ => fun
  | [d1, d2, d3] => { results := [.lit (.bool true)], args := [d1, d2, d3] }
  | _ => none }
def topShapedRow : OpenClaim := { program := "ytifmefachdfmjaa", sum := "b5c33830ec42b7a1192122aab8d613647c164c702526008570f8666b77bb7cf3", func := "headway/headtop.TopShaped", spec := "topShaped", unfollowed := true, recurses := true, apart := false }
def TopShapedSaid : Prop := topShapedRow.holds Try.pinned (OpenSpec.ofChange topShapedSpec)

/-- ITS FALSE NEIGHBOUR: 'it returns false'. Refute it at one input. -/
def topShapedWrong : ChangeSpec := { name := "topShaped", fn := fun _ => fun
  | [d1, d2, d3] => { results := [.lit (.bool false)], args := [d1, d2, d3] }
  | _ => none }
def TopShapedWrongFalsely : Prop := topShapedRow.holds Try.pinned (OpenSpec.ofChange topShapedWrong)

/- THE SECOND FORM. 'bulk': how many values and letters a reading holds, each counted each time it is reached (what is shared counts as often as it is met; a slice's spare places count too). A statement '..UptoSaid' is the law's where the arguments, and the package variables that the reading takes, are together of bulk at most 1048576: NARROWER than '..Said'. Prove '..Said' where nothing that the law and all that it calls make is longer than what came in: it says more and counts as full. Else prove '..UptoSaid'. A law counts once. -/
mutual
def uptoBulk {H : Type} : DataW H → Nat
  | .lit (.string bytes) => bytes.length + 1
  | .lit _ => 1
  | .nil => 1
  | .ptr d => uptoBulk d + 1
  | .slice elems spare => uptoBulkAll elems + uptoBulkAll spare + 1
  | .agg parts => uptoBulkAll parts + 1
  | .iface _ d => uptoBulk d + 1
  | .map entries => uptoBulkEntries entries + 1
  | .held _ => 1
def uptoBulkAll {H : Type} : List (DataW H) → Nat
  | [] => 0
  | d :: r => uptoBulk d + uptoBulkAll r
def uptoBulkEntries {H : Type} : List (Lit × DataW H) → Nat
  | [] => 0
  | x :: r => uptoBulkEntry x + uptoBulkEntries r
def uptoBulkEntry {H : Type} : Lit × DataW H → Nat
  | (.string bytes, d) => bytes.length + uptoBulk d + 1
  | (_, d) => uptoBulk d + 1
 end
def uptoSmall : (H : Type) → List (DataW H) → Bool := fun _ ds => decide (uptoBulkAll ds ≤ 1048576)
def OpenSpec.upto (s : _root_.Go.ChangeSpec) : _root_.Go.OpenSpec := { _root_.Go.OpenSpec.ofChange s with cond := some uptoSmall }

/-- 'headlaw.LineSays', WHERE WHAT IT READS IS OF BULK AT MOST 1048576: true; the input reads as it did. -/
def lineSaysUptoRow : OpenClaim := { program := "ytifmefachdfmjaa", sum := "b5c33830ec42b7a1192122aab8d613647c164c702526008570f8666b77bb7cf3", func := "headway/headlaw.LineSays", spec := "lineSays", unfollowed := true, recurses := true, apart := false, narrowed := true }
def LineSaysUptoSaid : Prop := lineSaysUptoRow.holds Try.pinned (OpenSpec.upto lineSaysSpec)

/-- 'headkeep.LineWaits', WHERE WHAT IT READS IS OF BULK AT MOST 1048576: true; the input reads as it did. -/
def lineWaitsUptoRow : OpenClaim := { program := "ytifmefachdfmjaa", sum := "b5c33830ec42b7a1192122aab8d613647c164c702526008570f8666b77bb7cf3", func := "headway/headkeep.LineWaits", spec := "lineWaits", apart := false, narrowed := true }
def LineWaitsUptoSaid : Prop := lineWaitsUptoRow.holds Try.pinned (OpenSpec.upto lineWaitsSpec)

/-- 'headkeep.LineConv', WHERE WHAT IT READS IS OF BULK AT MOST 1048576: true; the input reads as it did. -/
def lineConvUptoRow : OpenClaim := { program := "ytifmefachdfmjaa", sum := "b5c33830ec42b7a1192122aab8d613647c164c702526008570f8666b77bb7cf3", func := "headway/headkeep.LineConv", spec := "lineConv", unfollowed := true, recurses := true, apart := false, narrowed := true }
def LineConvUptoSaid : Prop := lineConvUptoRow.holds Try.pinned (OpenSpec.upto lineConvSpec)

/-- 'headkeep.LineTwo', WHERE WHAT IT READS IS OF BULK AT MOST 1048576: true; the input reads as it did. -/
def lineTwoUptoRow : OpenClaim := { program := "ytifmefachdfmjaa", sum := "b5c33830ec42b7a1192122aab8d613647c164c702526008570f8666b77bb7cf3", func := "headway/headkeep.LineTwo", spec := "lineTwo", apart := false, narrowed := true }
def LineTwoUptoSaid : Prop := lineTwoUptoRow.holds Try.pinned (OpenSpec.upto lineTwoSpec)

/-- 'headkeep.LineBusy', WHERE WHAT IT READS IS OF BULK AT MOST 1048576: true; the input reads as it did. -/
def lineBusyUptoRow : OpenClaim := { program := "ytifmefachdfmjaa", sum := "b5c33830ec42b7a1192122aab8d613647c164c702526008570f8666b77bb7cf3", func := "headway/headkeep.LineBusy", spec := "lineBusy", apart := false, narrowed := true }
def LineBusyUptoSaid : Prop := lineBusyUptoRow.holds Try.pinned (OpenSpec.upto lineBusySpec)

/-- 'headkeep.LineGrows', WHERE WHAT IT READS IS OF BULK AT MOST 1048576: true; the input reads as it did. -/
def lineGrowsUptoRow : OpenClaim := { program := "ytifmefachdfmjaa", sum := "b5c33830ec42b7a1192122aab8d613647c164c702526008570f8666b77bb7cf3", func := "headway/headkeep.LineGrows", spec := "lineGrows", apart := false, narrowed := true }
def LineGrowsUptoSaid : Prop := lineGrowsUptoRow.holds Try.pinned (OpenSpec.upto lineGrowsSpec)

/-- 'headkeep.LineSums', WHERE WHAT IT READS IS OF BULK AT MOST 1048576: true; the input reads as it did. -/
def lineSumsUptoRow : OpenClaim := { program := "ytifmefachdfmjaa", sum := "b5c33830ec42b7a1192122aab8d613647c164c702526008570f8666b77bb7cf3", func := "headway/headkeep.LineSums", spec := "lineSums", apart := false, narrowed := true }
def LineSumsUptoSaid : Prop := lineSumsUptoRow.holds Try.pinned (OpenSpec.upto lineSumsSpec)

/-- 'headkeep.LineJoins', WHERE WHAT IT READS IS OF BULK AT MOST 1048576: true; the input reads as it did. -/
def lineJoinsUptoRow : OpenClaim := { program := "ytifmefachdfmjaa", sum := "b5c33830ec42b7a1192122aab8d613647c164c702526008570f8666b77bb7cf3", func := "headway/headkeep.LineJoins", spec := "lineJoins", apart := false, narrowed := true }
def LineJoinsUptoSaid : Prop := lineJoinsUptoRow.holds Try.pinned (OpenSpec.upto lineJoinsSpec)

/-- 'headkeep.CurvesOwn', WHERE WHAT IT READS IS OF BULK AT MOST 1048576: true; the input reads as it did. -/
def curvesOwnUptoRow : OpenClaim := { program := "ytifmefachdfmjaa", sum := "b5c33830ec42b7a1192122aab8d613647c164c702526008570f8666b77bb7cf3", func := "headway/headkeep.CurvesOwn", spec := "curvesOwn", unfollowed := true, recurses := true, apart := false, narrowed := true }
def CurvesOwnUptoSaid : Prop := curvesOwnUptoRow.holds Try.pinned (OpenSpec.upto curvesOwnSpec)

/-- 'headtop.TopShaped', WHERE WHAT IT READS IS OF BULK AT MOST 1048576: true; the input reads as it did. -/
def topShapedUptoRow : OpenClaim := { program := "ytifmefachdfmjaa", sum := "b5c33830ec42b7a1192122aab8d613647c164c702526008570f8666b77bb7cf3", func := "headway/headtop.TopShaped", spec := "topShaped", unfollowed := true, recurses := true, apart := false, narrowed := true }
def TopShapedUptoSaid : Prop := topShapedUptoRow.holds Try.pinned (OpenSpec.upto topShapedSpec)

end Rows
end Go.Proofs.Ytifmefachdfmjaa
