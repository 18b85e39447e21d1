/-
  No cell of these rows narrows 'for every input' (looked for: loops, veiled, ifaces, maps, wideKeys, modest, calm, conditions, laid).
  DERIVED. THE GIVEN ROWS OF THIS SEAT. 11 by the template 'for every input the law returns true; each argument reads behind the call as it read before'; 0 by the template 'total and deterministic' (their statements: YtmefekgbljhclaaTotals.lean).
  GIVEN WITH THE SEED: the statements are not yours to turn. If you find one false, say at which input.
  Laid BY PROGRAM, IN A SANDBOX (cutbox-rows.mjs): the forced cells as the released guide's own fill.sh prints them over the translation be507632e7cacaca… (all of the seat's roots in one cut). By AI agents, Wed Nov 11 2026. No macro, syntax, notation, axiom, sorry.
-/
import Derived.Test.YtmefekgbljhclaaChecked
import GoSem.Claim
import GoSem.ClaimJoined
import GoSem.ClaimMapViews
import Derived.JoinedTies
import Derived.KernelRfl
namespace Go.Proofs.Ytmefekgbljhclaa
/- THE CELL 'sum', in the pinned program and in every row, IS THE sha256 OF THE DUMP (.gsa) THAT YtmefekgbljhclaaProg.lean LOADS. Nothing in Lean hashes anything: it is a label: what it is worth is what the hold of that sum in a sandbox is worth. -/
noncomputable def Try.pinned : Pinned := { name := "ytmefekgbljhclaa", sum := "be507632e7cacaca3de119332f6af6eb8127a66f63c3840cd1cedf44aa246e46", checked := Try.checked }
namespace Rows
def none {H : Type} : Left H := { results := [], args := [] }

/-- 'headlaw.PieceSays': WHATEVER THE INPUT: true; the input reads as it did. -/
def pieceSaysSpec : ChangeSpec := { name := "pieceSays", fn := fun _ => fun
  | [d1, d2, d3] => { results := [.lit (.bool true)], args := [d1, d2, d3] }
  | _ => none }
def pieceSaysRow : OpenClaim := { program := "ytmefekgbljhclaa", sum := "be507632e7cacaca3de119332f6af6eb8127a66f63c3840cd1cedf44aa246e46", func := "headway/headlaw.PieceSays", spec := "pieceSays", apart := false }
def PieceSaysSaid : Prop := pieceSaysRow.holds Try.pinned (OpenSpec.ofChange pieceSaysSpec)

/-- ITS FALSE NEIGHBOUR: 'it returns false'. Refute it at one input. -/
def pieceSaysWrong : ChangeSpec := { name := "pieceSays", fn := fun _ => fun
  | [d1, d2, d3] => { results := [.lit (.bool false)], args := [d1, d2, d3] }
  | _ => none }
def PieceSaysWrongFalsely : Prop := pieceSaysRow.holds Try.pinned (OpenSpec.ofChange pieceSaysWrong)

/-- 'headlaw.PieceMoves': WHATEVER THE INPUT: true; the input reads as it did. -/
def pieceMovesSpec : ChangeSpec := { name := "pieceMoves", fn := fun _ => fun
  | [d1, d2] => { results := [.lit (.bool true)], args := [d1, d2] }
  | _ => none }
def pieceMovesRow : OpenClaim := { program := "ytmefekgbljhclaa", sum := "be507632e7cacaca3de119332f6af6eb8127a66f63c3840cd1cedf44aa246e46", func := "headway/headlaw.PieceMoves", spec := "pieceMoves", apart := false }
def PieceMovesSaid : Prop := pieceMovesRow.holds Try.pinned (OpenSpec.ofChange pieceMovesSpec)

/-- ITS FALSE NEIGHBOUR: 'it returns false'. Refute it at one input. -/
def pieceMovesWrong : ChangeSpec := { name := "pieceMoves", fn := fun _ => fun
  | [d1, d2] => { results := [.lit (.bool false)], args := [d1, d2] }
  | _ => none }
def PieceMovesWrongFalsely : Prop := pieceMovesRow.holds Try.pinned (OpenSpec.ofChange pieceMovesWrong)

/-- 'headkeep.PieceAll': WHATEVER THE INPUT: true; the input reads as it did. -/
def pieceAllSpec : ChangeSpec := { name := "pieceAll", fn := fun _ => fun
  | [d1, d2, d3] => { results := [.lit (.bool true)], args := [d1, d2, d3] }
  | _ => none }
def pieceAllRow : OpenClaim := { program := "ytmefekgbljhclaa", sum := "be507632e7cacaca3de119332f6af6eb8127a66f63c3840cd1cedf44aa246e46", func := "headway/headkeep.PieceAll", spec := "pieceAll", apart := false }
def PieceAllSaid : Prop := pieceAllRow.holds Try.pinned (OpenSpec.ofChange pieceAllSpec)

/-- ITS FALSE NEIGHBOUR: 'it returns false'. Refute it at one input. -/
def pieceAllWrong : ChangeSpec := { name := "pieceAll", fn := fun _ => fun
  | [d1, d2, d3] => { results := [.lit (.bool false)], args := [d1, d2, d3] }
  | _ => none }
def PieceAllWrongFalsely : Prop := pieceAllRow.holds Try.pinned (OpenSpec.ofChange pieceAllWrong)

/-- 'headkeep.PieceOnce': WHATEVER THE INPUT: true; the input reads as it did. -/
def pieceOnceSpec : ChangeSpec := { name := "pieceOnce", fn := fun _ => fun
  | [d1, d2, d3] => { results := [.lit (.bool true)], args := [d1, d2, d3] }
  | _ => none }
def pieceOnceRow : OpenClaim := { program := "ytmefekgbljhclaa", sum := "be507632e7cacaca3de119332f6af6eb8127a66f63c3840cd1cedf44aa246e46", func := "headway/headkeep.PieceOnce", spec := "pieceOnce", apart := false }
def PieceOnceSaid : Prop := pieceOnceRow.holds Try.pinned (OpenSpec.ofChange pieceOnceSpec)

/-- ITS FALSE NEIGHBOUR: 'it returns false'. Refute it at one input. -/
def pieceOnceWrong : ChangeSpec := { name := "pieceOnce", fn := fun _ => fun
  | [d1, d2, d3] => { results := [.lit (.bool false)], args := [d1, d2, d3] }
  | _ => none }
def PieceOnceWrongFalsely : Prop := pieceOnceRow.holds Try.pinned (OpenSpec.ofChange pieceOnceWrong)

/-- 'headkeep.PieceTwo': WHATEVER THE INPUT: true; the input reads as it did. -/
def pieceTwoSpec : ChangeSpec := { name := "pieceTwo", fn := fun _ => fun
  | [d1, d2] => { results := [.lit (.bool true)], args := [d1, d2] }
  | _ => none }
def pieceTwoRow : OpenClaim := { program := "ytmefekgbljhclaa", sum := "be507632e7cacaca3de119332f6af6eb8127a66f63c3840cd1cedf44aa246e46", func := "headway/headkeep.PieceTwo", spec := "pieceTwo", apart := false }
def PieceTwoSaid : Prop := pieceTwoRow.holds Try.pinned (OpenSpec.ofChange pieceTwoSpec)

/-- ITS FALSE NEIGHBOUR: 'it returns false'. Refute it at one input. -/
def pieceTwoWrong : ChangeSpec := { name := "pieceTwo", fn := fun _ => fun
  | [d1, d2] => { results := [.lit (.bool false)], args := [d1, d2] }
  | _ => none }
def PieceTwoWrongFalsely : Prop := pieceTwoRow.holds Try.pinned (OpenSpec.ofChange pieceTwoWrong)

/-- 'headlaw.WindowSays': WHATEVER THE INPUT: true; the input reads as it did. -/
def windowSaysSpec : ChangeSpec := { name := "windowSays", fn := fun _ => fun
  | [d1, d2, d3] => { results := [.lit (.bool true)], args := [d1, d2, d3] }
  | _ => none }
def windowSaysRow : OpenClaim := { program := "ytmefekgbljhclaa", sum := "be507632e7cacaca3de119332f6af6eb8127a66f63c3840cd1cedf44aa246e46", func := "headway/headlaw.WindowSays", spec := "windowSays", apart := false }
def WindowSaysSaid : Prop := windowSaysRow.holds Try.pinned (OpenSpec.ofChange windowSaysSpec)

/-- ITS FALSE NEIGHBOUR: 'it returns false'. Refute it at one input. -/
def windowSaysWrong : ChangeSpec := { name := "windowSays", fn := fun _ => fun
  | [d1, d2, d3] => { results := [.lit (.bool false)], args := [d1, d2, d3] }
  | _ => none }
def WindowSaysWrongFalsely : Prop := windowSaysRow.holds Try.pinned (OpenSpec.ofChange windowSaysWrong)

/-- 'headkeep.WindowForm': WHATEVER THE INPUT: true; the input reads as it did. -/
def windowFormSpec : ChangeSpec := { name := "windowForm", fn := fun _ => fun
  | [d1, d2, d3] => { results := [.lit (.bool true)], args := [d1, d2, d3] }
  | _ => none }
def windowFormRow : OpenClaim := { program := "ytmefekgbljhclaa", sum := "be507632e7cacaca3de119332f6af6eb8127a66f63c3840cd1cedf44aa246e46", func := "headway/headkeep.WindowForm", spec := "windowForm", apart := false }
def WindowFormSaid : Prop := windowFormRow.holds Try.pinned (OpenSpec.ofChange windowFormSpec)

/-- ITS FALSE NEIGHBOUR: 'it returns false'. Refute it at one input. -/
def windowFormWrong : ChangeSpec := { name := "windowForm", fn := fun _ => fun
  | [d1, d2, d3] => { results := [.lit (.bool false)], args := [d1, d2, d3] }
  | _ => none }
def WindowFormWrongFalsely : Prop := windowFormRow.holds Try.pinned (OpenSpec.ofChange windowFormWrong)

/-- 'headkeep.WindowFull': WHATEVER THE INPUT: true; the input reads as it did. -/
def windowFullSpec : ChangeSpec := { name := "windowFull", fn := fun _ => fun
  | [d1, d2, d3] => { results := [.lit (.bool true)], args := [d1, d2, d3] }
  | _ => none }
def windowFullRow : OpenClaim := { program := "ytmefekgbljhclaa", sum := "be507632e7cacaca3de119332f6af6eb8127a66f63c3840cd1cedf44aa246e46", func := "headway/headkeep.WindowFull", spec := "windowFull", apart := false }
def WindowFullSaid : Prop := windowFullRow.holds Try.pinned (OpenSpec.ofChange windowFullSpec)

/-- ITS FALSE NEIGHBOUR: 'it returns false'. Refute it at one input. -/
def windowFullWrong : ChangeSpec := { name := "windowFull", fn := fun _ => fun
  | [d1, d2, d3] => { results := [.lit (.bool false)], args := [d1, d2, d3] }
  | _ => none }
def WindowFullWrongFalsely : Prop := windowFullRow.holds Try.pinned (OpenSpec.ofChange windowFullWrong)

/-- 'headkeep.WindowGrows': WHATEVER THE INPUT: true; the input reads as it did. -/
def windowGrowsSpec : ChangeSpec := { name := "windowGrows", fn := fun _ => fun
  | [d1, d2, d3, d4, d5, d6] => { results := [.lit (.bool true)], args := [d1, d2, d3, d4, d5, d6] }
  | _ => none }
def windowGrowsRow : OpenClaim := { program := "ytmefekgbljhclaa", sum := "be507632e7cacaca3de119332f6af6eb8127a66f63c3840cd1cedf44aa246e46", func := "headway/headkeep.WindowGrows", spec := "windowGrows", apart := false }
def WindowGrowsSaid : Prop := windowGrowsRow.holds Try.pinned (OpenSpec.ofChange windowGrowsSpec)

/-- ITS FALSE NEIGHBOUR: 'it returns false'. Refute it at one input. -/
def windowGrowsWrong : ChangeSpec := { name := "windowGrows", fn := fun _ => fun
  | [d1, d2, d3, d4, d5, d6] => { results := [.lit (.bool false)], args := [d1, d2, d3, d4, d5, d6] }
  | _ => none }
def WindowGrowsWrongFalsely : Prop := windowGrowsRow.holds Try.pinned (OpenSpec.ofChange windowGrowsWrong)

/-- 'headkeep.WindowOne': WHATEVER THE INPUT: true; the input reads as it did. -/
def windowOneSpec : ChangeSpec := { name := "windowOne", fn := fun _ => fun
  | [d1, d2, d3] => { results := [.lit (.bool true)], args := [d1, d2, d3] }
  | _ => none }
def windowOneRow : OpenClaim := { program := "ytmefekgbljhclaa", sum := "be507632e7cacaca3de119332f6af6eb8127a66f63c3840cd1cedf44aa246e46", func := "headway/headkeep.WindowOne", spec := "windowOne", apart := false }
def WindowOneSaid : Prop := windowOneRow.holds Try.pinned (OpenSpec.ofChange windowOneSpec)

/-- ITS FALSE NEIGHBOUR: 'it returns false'. Refute it at one input. -/
def windowOneWrong : ChangeSpec := { name := "windowOne", fn := fun _ => fun
  | [d1, d2, d3] => { results := [.lit (.bool false)], args := [d1, d2, d3] }
  | _ => none }
def WindowOneWrongFalsely : Prop := windowOneRow.holds Try.pinned (OpenSpec.ofChange windowOneWrong)

/-- 'headtop.TopWindow': WHATEVER THE INPUT: true; the input reads as it did. -/
def topWindowSpec : ChangeSpec := { name := "topWindow", fn := fun _ => fun
  | [d1, d2, d3] => { results := [.lit (.bool true)], args := [d1, d2, d3] }
  | _ => none }
def topWindowRow : OpenClaim := { program := "ytmefekgbljhclaa", sum := "be507632e7cacaca3de119332f6af6eb8127a66f63c3840cd1cedf44aa246e46", func := "headway/headtop.TopWindow", spec := "topWindow", unfollowed := true, recurses := true, apart := false }
def TopWindowSaid : Prop := topWindowRow.holds Try.pinned (OpenSpec.ofChange topWindowSpec)

/-- ITS FALSE NEIGHBOUR: 'it returns false'. Refute it at one input. -/
def topWindowWrong : ChangeSpec := { name := "topWindow", fn := fun _ => fun
  | [d1, d2, d3] => { results := [.lit (.bool false)], args := [d1, d2, d3] }
  | _ => none }
def TopWindowWrongFalsely : Prop := topWindowRow.holds Try.pinned (OpenSpec.ofChange topWindowWrong)

/- THE SECOND FORM. 'bulk': how many values and letters a reading holds, each counted each time it is reached (what is shared counts as often as it is met; a slice's spare places count too). A statement '..UptoSaid' is the law's where the arguments, and the package variables that the reading takes, are together of bulk at most 1048576: NARROWER than '..Said'. Prove '..Said' where nothing that the law and all that it calls make is longer than what came in: it says more and counts as full. Else prove '..UptoSaid'. A law counts once. -/
mutual
def uptoBulk {H : Type} : DataW H → Nat
  | .lit (.string bytes) => bytes.length + 1
  | .lit _ => 1
  | .nil => 1
  | .ptr d => uptoBulk d + 1
  | .slice elems spare => uptoBulkAll elems + uptoBulkAll spare + 1
  | .agg parts => uptoBulkAll parts + 1
  | .iface _ d => uptoBulk d + 1
  | .map entries => uptoBulkEntries entries + 1
  | .held _ => 1
def uptoBulkAll {H : Type} : List (DataW H) → Nat
  | [] => 0
  | d :: r => uptoBulk d + uptoBulkAll r
def uptoBulkEntries {H : Type} : List (Lit × DataW H) → Nat
  | [] => 0
  | x :: r => uptoBulkEntry x + uptoBulkEntries r
def uptoBulkEntry {H : Type} : Lit × DataW H → Nat
  | (.string bytes, d) => bytes.length + uptoBulk d + 1
  | (_, d) => uptoBulk d + 1
 end
def uptoSmall : (H : Type) → List (DataW H) → Bool := fun _ ds => decide (uptoBulkAll ds ≤ 1048576)
def OpenSpec.upto (s : _root_.Go.ChangeSpec) : _root_.Go.OpenSpec := { _root_.Go.OpenSpec.ofChange s with cond := some uptoSmall }

/-- 'headlaw.PieceSays', WHERE WHAT IT READS IS OF BULK AT MOST 1048576: true; the input reads as it did. -/
def pieceSaysUptoRow : OpenClaim := { program := "ytmefekgbljhclaa", sum := "be507632e7cacaca3de119332f6af6eb8127a66f63c3840cd1cedf44aa246e46", func := "headway/headlaw.PieceSays", spec := "pieceSays", apart := false, narrowed := true }
def PieceSaysUptoSaid : Prop := pieceSaysUptoRow.holds Try.pinned (OpenSpec.upto pieceSaysSpec)

/-- 'headlaw.PieceMoves', WHERE WHAT IT READS IS OF BULK AT MOST 1048576: true; the input reads as it did. -/
def pieceMovesUptoRow : OpenClaim := { program := "ytmefekgbljhclaa", sum := "be507632e7cacaca3de119332f6af6eb8127a66f63c3840cd1cedf44aa246e46", func := "headway/headlaw.PieceMoves", spec := "pieceMoves", apart := false, narrowed := true }
def PieceMovesUptoSaid : Prop := pieceMovesUptoRow.holds Try.pinned (OpenSpec.upto pieceMovesSpec)

/-- 'headkeep.PieceAll', WHERE WHAT IT READS IS OF BULK AT MOST 1048576: true; the input reads as it did. -/
def pieceAllUptoRow : OpenClaim := { program := "ytmefekgbljhclaa", sum := "be507632e7cacaca3de119332f6af6eb8127a66f63c3840cd1cedf44aa246e46", func := "headway/headkeep.PieceAll", spec := "pieceAll", apart := false, narrowed := true }
def PieceAllUptoSaid : Prop := pieceAllUptoRow.holds Try.pinned (OpenSpec.upto pieceAllSpec)

/-- 'headkeep.PieceOnce', WHERE WHAT IT READS IS OF BULK AT MOST 1048576: true; the input reads as it did. -/
def pieceOnceUptoRow : OpenClaim := { program := "ytmefekgbljhclaa", sum := "be507632e7cacaca3de119332f6af6eb8127a66f63c3840cd1cedf44aa246e46", func := "headway/headkeep.PieceOnce", spec := "pieceOnce", apart := false, narrowed := true }
def PieceOnceUptoSaid : Prop := pieceOnceUptoRow.holds Try.pinned (OpenSpec.upto pieceOnceSpec)

/-- 'headkeep.PieceTwo', WHERE WHAT IT READS IS OF BULK AT MOST 1048576: true; the input reads as it did. -/
def pieceTwoUptoRow : OpenClaim := { program := "ytmefekgbljhclaa", sum := "be507632e7cacaca3de119332f6af6eb8127a66f63c3840cd1cedf44aa246e46", func := "headway/headkeep.PieceTwo", spec := "pieceTwo", apart := false, narrowed := true }
def PieceTwoUptoSaid : Prop := pieceTwoUptoRow.holds Try.pinned (OpenSpec.upto pieceTwoSpec)

/-- 'headlaw.WindowSays', WHERE WHAT IT READS IS OF BULK AT MOST 1048576: true; the input reads as it did. -/
def windowSaysUptoRow : OpenClaim := { program := "ytmefekgbljhclaa", sum := "be507632e7cacaca3de119332f6af6eb8127a66f63c3840cd1cedf44aa246e46", func := "headway/headlaw.WindowSays", spec := "windowSays", apart := false, narrowed := true }
def WindowSaysUptoSaid : Prop := windowSaysUptoRow.holds Try.pinned (OpenSpec.upto windowSaysSpec)

/-- 'headkeep.WindowForm', WHERE WHAT IT READS IS OF BULK AT MOST 1048576: true; the input reads as it did. -/
def windowFormUptoRow : OpenClaim := { program := "ytmefekgbljhclaa", sum := "be507632e7cacaca3de119332f6af6eb8127a66f63c3840cd1cedf44aa246e46", func := "headway/headkeep.WindowForm", spec := "windowForm", apart := false, narrowed := true }
def WindowFormUptoSaid : Prop := windowFormUptoRow.holds Try.pinned (OpenSpec.upto windowFormSpec)

/-- 'headkeep.WindowFull', WHERE WHAT IT READS IS OF BULK AT MOST 1048576: true; the input reads as it did. -/
def windowFullUptoRow : OpenClaim := { program := "ytmefekgbljhclaa", sum := "be507632e7cacaca3de119332f6af6eb8127a66f63c3840cd1cedf44aa246e46", func := "headway/headkeep.WindowFull", spec := "windowFull", apart := false, narrowed := true }
def WindowFullUptoSaid : Prop := windowFullUptoRow.holds Try.pinned (OpenSpec.upto windowFullSpec)

/-- 'headkeep.WindowGrows', WHERE WHAT IT READS IS OF BULK AT MOST 1048576: true; the input reads as it did. -/
def windowGrowsUptoRow : OpenClaim := { program := "ytmefekgbljhclaa", sum := "be507632e7cacaca3de119332f6af6eb8127a66f63c3840cd1cedf44aa246e46", func := "headway/headkeep.WindowGrows", spec := "windowGrows", apart := false, narrowed := true }
def WindowGrowsUptoSaid : Prop := windowGrowsUptoRow.holds Try.pinned (OpenSpec.upto windowGrowsSpec)

/-- 'headkeep.WindowOne', WHERE WHAT IT READS IS OF BULK AT MOST 1048576: true; the input reads as it did. -/
def windowOneUptoRow : OpenClaim := { program := "ytmefekgbljhclaa", sum := "be507632e7cacaca3de119332f6af6eb8127a66f63c3840cd1cedf44aa246e46", func := "headway/headkeep.WindowOne", spec := "windowOne", apart := false, narrowed := true }
def WindowOneUptoSaid : Prop := windowOneUptoRow.holds Try.pinned (OpenSpec.upto windowOneSpec)

/-- 'headtop.TopWindow', WHERE WHAT IT READS IS OF BULK AT MOST 1048576: true; the input reads as it did. -/
def topWindowUptoRow : OpenClaim := { program := "ytmefekgbljhclaa", sum := "be507632e7cacaca3de119332f6af6eb8127a66f63c3840cd1cedf44aa246e46", func := "headway/headtop.TopWindow", spec := "topWindow", unfollowed := true, recurses := true, apart := false, narrowed := true }
def TopWindowUptoSaid : Prop := topWindowUptoRow.holds Try.pinned (OpenSpec.upto topWindowSpec)

end Rows
end Go.Proofs.Ytmefekgbljhclaa
