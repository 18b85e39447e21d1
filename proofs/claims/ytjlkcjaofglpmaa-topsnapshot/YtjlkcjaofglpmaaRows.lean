/-
  No cell of these rows narrows 'for every input' (looked for: loops, veiled, ifaces, maps, wideKeys, modest, calm, conditions, laid).
  DERIVED. THE GIVEN ROWS OF THIS SEAT. 9 by the template 'for every input the law returns true; each argument reads behind the call as it read before'; 0 by the template 'total and deterministic' (their statements: YtjlkcjaofglpmaaTotals.lean).
  GIVEN WITH THE SEED: the statements are not yours to turn. If you find one false, say at which input.
  Laid BY PROGRAM, IN A SANDBOX (cutbox-rows.mjs): the forced cells as the released guide's own fill.sh prints them over the translation 2e6e4cb8ec39fcca… (all of the seat's roots in one cut). By AI agents, Wed Nov 11 2026. No macro, syntax, notation, axiom, sorry.
-/
import Derived.Test.YtjlkcjaofglpmaaChecked
import GoSem.Claim
import GoSem.ClaimJoined
import GoSem.ClaimMapViews
import Derived.JoinedTies
import Derived.KernelRfl
namespace Go.Proofs.Ytjlkcjaofglpmaa
/- THE CELL 'sum', in the pinned program and in every row, IS THE sha256 OF THE DUMP (.gsa) THAT YtjlkcjaofglpmaaProg.lean LOADS. Nothing in Lean hashes anything: it is a label: what it is worth is what the hold of that sum in a sandbox is worth. -/
noncomputable def Try.pinned : Pinned := { name := "ytjlkcjaofglpmaa", sum := "2e6e4cb8ec39fcca20fca426c17a4622fb34061f59564afe1fa4fbd672a56e24", checked := Try.checked }
namespace Rows
def none {H : Type} : Left H := { results := [], args := [] }

/-- 'headlaw.ShareSays': WHATEVER THE INPUT: true; the input reads as it did. -/
def shareSaysSpec : ChangeSpec := { name := "shareSays", fn := fun _ => fun
  | [d1, d2] => { results := [.lit (.bool true)], args := [d1, d2] }
  | _ => none }
def shareSaysRow : OpenClaim := { program := "ytjlkcjaofglpmaa", sum := "2e6e4cb8ec39fcca20fca426c17a4622fb34061f59564afe1fa4fbd672a56e24", func := "headway/headlaw.ShareSays", spec := "shareSays", unfollowed := true, recurses := true, apart := false }
def ShareSaysSaid : Prop := shareSaysRow.holds Try.pinned (OpenSpec.ofChange shareSaysSpec)

/-- ITS FALSE NEIGHBOUR: 'it returns false'. Refute it at one input. -/
def shareSaysWrong : ChangeSpec := { name := "shareSays", fn := fun _ => fun
  | [d1, d2] => { results := [.lit (.bool false)], args := [d1, d2] }
  | _ => none }
def ShareSaysWrongFalsely : Prop := shareSaysRow.holds Try.pinned (OpenSpec.ofChange shareSaysWrong)

/-- 'headlaw.ResumeSays': WHATEVER THE INPUT: true; the input reads as it did. -/
def resumeSaysSpec : ChangeSpec := { name := "resumeSays", fn := fun _ => fun
  | [d1, d2, d3, d4, d5] => { results := [.lit (.bool true)], args := [d1, d2, d3, d4, d5] }
  | _ => none }
def resumeSaysRow : OpenClaim := { program := "ytjlkcjaofglpmaa", sum := "2e6e4cb8ec39fcca20fca426c17a4622fb34061f59564afe1fa4fbd672a56e24", func := "headway/headlaw.ResumeSays", spec := "resumeSays", apart := false }
def ResumeSaysSaid : Prop := resumeSaysRow.holds Try.pinned (OpenSpec.ofChange resumeSaysSpec)

/-- ITS FALSE NEIGHBOUR: 'it returns false'. Refute it at one input. -/
def resumeSaysWrong : ChangeSpec := { name := "resumeSays", fn := fun _ => fun
  | [d1, d2, d3, d4, d5] => { results := [.lit (.bool false)], args := [d1, d2, d3, d4, d5] }
  | _ => none }
def ResumeSaysWrongFalsely : Prop := resumeSaysRow.holds Try.pinned (OpenSpec.ofChange resumeSaysWrong)

/-- 'headkeep.ShareLast': WHATEVER THE INPUT: true; the input reads as it did. -/
def shareLastSpec : ChangeSpec := { name := "shareLast", fn := fun _ => fun
  | [d1, d2] => { results := [.lit (.bool true)], args := [d1, d2] }
  | _ => none }
def shareLastRow : OpenClaim := { program := "ytjlkcjaofglpmaa", sum := "2e6e4cb8ec39fcca20fca426c17a4622fb34061f59564afe1fa4fbd672a56e24", func := "headway/headkeep.ShareLast", spec := "shareLast", apart := false }
def ShareLastSaid : Prop := shareLastRow.holds Try.pinned (OpenSpec.ofChange shareLastSpec)

/-- ITS FALSE NEIGHBOUR: 'it returns false'. Refute it at one input. -/
def shareLastWrong : ChangeSpec := { name := "shareLast", fn := fun _ => fun
  | [d1, d2] => { results := [.lit (.bool false)], args := [d1, d2] }
  | _ => none }
def ShareLastWrongFalsely : Prop := shareLastRow.holds Try.pinned (OpenSpec.ofChange shareLastWrong)

/-- 'headkeep.ShareEach': WHATEVER THE INPUT: true; the input reads as it did. -/
def shareEachSpec : ChangeSpec := { name := "shareEach", fn := fun _ => fun
  | [d1, d2, d3] => { results := [.lit (.bool true)], args := [d1, d2, d3] }
  | _ => none }
def shareEachRow : OpenClaim := { program := "ytjlkcjaofglpmaa", sum := "2e6e4cb8ec39fcca20fca426c17a4622fb34061f59564afe1fa4fbd672a56e24", func := "headway/headkeep.ShareEach", spec := "shareEach", apart := false }
def ShareEachSaid : Prop := shareEachRow.holds Try.pinned (OpenSpec.ofChange shareEachSpec)

/-- ITS FALSE NEIGHBOUR: 'it returns false'. Refute it at one input. -/
def shareEachWrong : ChangeSpec := { name := "shareEach", fn := fun _ => fun
  | [d1, d2, d3] => { results := [.lit (.bool false)], args := [d1, d2, d3] }
  | _ => none }
def ShareEachWrongFalsely : Prop := shareEachRow.holds Try.pinned (OpenSpec.ofChange shareEachWrong)

/-- 'headkeep.ResumeBy': WHATEVER THE INPUT: true; the input reads as it did. -/
def resumeBySpec : ChangeSpec := { name := "resumeBy", fn := fun _ => fun
  | [d1, d2, d3, d4] => { results := [.lit (.bool true)], args := [d1, d2, d3, d4] }
  | _ => none }
def resumeByRow : OpenClaim := { program := "ytjlkcjaofglpmaa", sum := "2e6e4cb8ec39fcca20fca426c17a4622fb34061f59564afe1fa4fbd672a56e24", func := "headway/headkeep.ResumeBy", spec := "resumeBy", apart := false }
def ResumeBySaid : Prop := resumeByRow.holds Try.pinned (OpenSpec.ofChange resumeBySpec)

/-- ITS FALSE NEIGHBOUR: 'it returns false'. Refute it at one input. -/
def resumeByWrong : ChangeSpec := { name := "resumeBy", fn := fun _ => fun
  | [d1, d2, d3, d4] => { results := [.lit (.bool false)], args := [d1, d2, d3, d4] }
  | _ => none }
def ResumeByWrongFalsely : Prop := resumeByRow.holds Try.pinned (OpenSpec.ofChange resumeByWrong)

/-- 'headkeep.ResumeWhole': WHATEVER THE INPUT: true; the input reads as it did. -/
def resumeWholeSpec : ChangeSpec := { name := "resumeWhole", fn := fun _ => fun
  | [d1, d2, d3, d4] => { results := [.lit (.bool true)], args := [d1, d2, d3, d4] }
  | _ => none }
def resumeWholeRow : OpenClaim := { program := "ytjlkcjaofglpmaa", sum := "2e6e4cb8ec39fcca20fca426c17a4622fb34061f59564afe1fa4fbd672a56e24", func := "headway/headkeep.ResumeWhole", spec := "resumeWhole", apart := false }
def ResumeWholeSaid : Prop := resumeWholeRow.holds Try.pinned (OpenSpec.ofChange resumeWholeSpec)

/-- ITS FALSE NEIGHBOUR: 'it returns false'. Refute it at one input. -/
def resumeWholeWrong : ChangeSpec := { name := "resumeWhole", fn := fun _ => fun
  | [d1, d2, d3, d4] => { results := [.lit (.bool false)], args := [d1, d2, d3, d4] }
  | _ => none }
def ResumeWholeWrongFalsely : Prop := resumeWholeRow.holds Try.pinned (OpenSpec.ofChange resumeWholeWrong)

/-- 'headkeep.ShareMore': WHATEVER THE INPUT: true; the input reads as it did. -/
def shareMoreSpec : ChangeSpec := { name := "shareMore", fn := fun _ => fun
  | [d1, d2, d3, d4, d5] => { results := [.lit (.bool true)], args := [d1, d2, d3, d4, d5] }
  | _ => none }
def shareMoreRow : OpenClaim := { program := "ytjlkcjaofglpmaa", sum := "2e6e4cb8ec39fcca20fca426c17a4622fb34061f59564afe1fa4fbd672a56e24", func := "headway/headkeep.ShareMore", spec := "shareMore", apart := false }
def ShareMoreSaid : Prop := shareMoreRow.holds Try.pinned (OpenSpec.ofChange shareMoreSpec)

/-- ITS FALSE NEIGHBOUR: 'it returns false'. Refute it at one input. -/
def shareMoreWrong : ChangeSpec := { name := "shareMore", fn := fun _ => fun
  | [d1, d2, d3, d4, d5] => { results := [.lit (.bool false)], args := [d1, d2, d3, d4, d5] }
  | _ => none }
def ShareMoreWrongFalsely : Prop := shareMoreRow.holds Try.pinned (OpenSpec.ofChange shareMoreWrong)

/-- 'headtop.TopSnapshot': WHATEVER THE INPUT: true; the input reads as it did. -/
def topSnapshotSpec : ChangeSpec := { name := "topSnapshot", fn := fun _ => fun
  | [d1, d2, d3, d4, d5] => { results := [.lit (.bool true)], args := [d1, d2, d3, d4, d5] }
  | _ => none }
def topSnapshotRow : OpenClaim := { program := "ytjlkcjaofglpmaa", sum := "2e6e4cb8ec39fcca20fca426c17a4622fb34061f59564afe1fa4fbd672a56e24", func := "headway/headtop.TopSnapshot", spec := "topSnapshot", unfollowed := true, recurses := true, apart := false }
def TopSnapshotSaid : Prop := topSnapshotRow.holds Try.pinned (OpenSpec.ofChange topSnapshotSpec)

/-- ITS FALSE NEIGHBOUR: 'it returns false'. Refute it at one input. -/
def topSnapshotWrong : ChangeSpec := { name := "topSnapshot", fn := fun _ => fun
  | [d1, d2, d3, d4, d5] => { results := [.lit (.bool false)], args := [d1, d2, d3, d4, d5] }
  | _ => none }
def TopSnapshotWrongFalsely : Prop := topSnapshotRow.holds Try.pinned (OpenSpec.ofChange topSnapshotWrong)

/-- 'headtop.TopShare': WHATEVER THE INPUT: true; the input reads as it did. -/
def topShareSpec : ChangeSpec := { name := "topShare", fn := fun _ => fun
  | [d1, d2] => { results := [.lit (.bool true)], args := [d1, d2] }
  | _ => none }
def topShareRow : OpenClaim := { program := "ytjlkcjaofglpmaa", sum := "2e6e4cb8ec39fcca20fca426c17a4622fb34061f59564afe1fa4fbd672a56e24", func := "headway/headtop.TopShare", spec := "topShare", unfollowed := true, recurses := true, apart := false }
def TopShareSaid : Prop := topShareRow.holds Try.pinned (OpenSpec.ofChange topShareSpec)

/-- ITS FALSE NEIGHBOUR: 'it returns false'. Refute it at one input. -/
def topShareWrong : ChangeSpec := { name := "topShare", fn := fun _ => fun
  | [d1, d2] => { results := [.lit (.bool false)], args := [d1, d2] }
  | _ => none }
def TopShareWrongFalsely : Prop := topShareRow.holds Try.pinned (OpenSpec.ofChange topShareWrong)

/- THE SECOND FORM. 'bulk': how many values and letters a reading holds, each counted each time it is reached (what is shared counts as often as it is met; a slice's spare places count too). A statement '..UptoSaid' is the law's where the arguments, and the package variables that the reading takes, are together of bulk at most 1048576: NARROWER than '..Said'. Prove '..Said' where nothing that the law and all that it calls make is longer than what came in: it says more and counts as full. Else prove '..UptoSaid'. A law counts once. -/
mutual
def uptoBulk {H : Type} : DataW H → Nat
  | .lit (.string bytes) => bytes.length + 1
  | .lit _ => 1
  | .nil => 1
  | .ptr d => uptoBulk d + 1
  | .slice elems spare => uptoBulkAll elems + uptoBulkAll spare + 1
  | .agg parts => uptoBulkAll parts + 1
  | .iface _ d => uptoBulk d + 1
  | .map entries => uptoBulkEntries entries + 1
  | .held _ => 1
def uptoBulkAll {H : Type} : List (DataW H) → Nat
  | [] => 0
  | d :: r => uptoBulk d + uptoBulkAll r
def uptoBulkEntries {H : Type} : List (Lit × DataW H) → Nat
  | [] => 0
  | x :: r => uptoBulkEntry x + uptoBulkEntries r
def uptoBulkEntry {H : Type} : Lit × DataW H → Nat
  | (.string bytes, d) => bytes.length + uptoBulk d + 1
  | (_, d) => uptoBulk d + 1
 end
def uptoSmall : (H : Type) → List (DataW H) → Bool := fun _ ds => decide (uptoBulkAll ds ≤ 1048576)
def OpenSpec.upto (s : _root_.Go.ChangeSpec) : _root_.Go.OpenSpec := { _root_.Go.OpenSpec.ofChange s with cond := some uptoSmall }

/-- 'headlaw.ShareSays', WHERE WHAT IT READS IS OF BULK AT MOST 1048576: true; the input reads as it did. -/
def shareSaysUptoRow : OpenClaim := { program := "ytjlkcjaofglpmaa", sum := "2e6e4cb8ec39fcca20fca426c17a4622fb34061f59564afe1fa4fbd672a56e24", func := "headway/headlaw.ShareSays", spec := "shareSays", unfollowed := true, recurses := true, apart := false, narrowed := true }
def ShareSaysUptoSaid : Prop := shareSaysUptoRow.holds Try.pinned (OpenSpec.upto shareSaysSpec)

/-- 'headlaw.ResumeSays', WHERE WHAT IT READS IS OF BULK AT MOST 1048576: true; the input reads as it did. -/
def resumeSaysUptoRow : OpenClaim := { program := "ytjlkcjaofglpmaa", sum := "2e6e4cb8ec39fcca20fca426c17a4622fb34061f59564afe1fa4fbd672a56e24", func := "headway/headlaw.ResumeSays", spec := "resumeSays", apart := false, narrowed := true }
def ResumeSaysUptoSaid : Prop := resumeSaysUptoRow.holds Try.pinned (OpenSpec.upto resumeSaysSpec)

/-- 'headkeep.ShareLast', WHERE WHAT IT READS IS OF BULK AT MOST 1048576: true; the input reads as it did. -/
def shareLastUptoRow : OpenClaim := { program := "ytjlkcjaofglpmaa", sum := "2e6e4cb8ec39fcca20fca426c17a4622fb34061f59564afe1fa4fbd672a56e24", func := "headway/headkeep.ShareLast", spec := "shareLast", apart := false, narrowed := true }
def ShareLastUptoSaid : Prop := shareLastUptoRow.holds Try.pinned (OpenSpec.upto shareLastSpec)

/-- 'headkeep.ShareEach', WHERE WHAT IT READS IS OF BULK AT MOST 1048576: true; the input reads as it did. -/
def shareEachUptoRow : OpenClaim := { program := "ytjlkcjaofglpmaa", sum := "2e6e4cb8ec39fcca20fca426c17a4622fb34061f59564afe1fa4fbd672a56e24", func := "headway/headkeep.ShareEach", spec := "shareEach", apart := false, narrowed := true }
def ShareEachUptoSaid : Prop := shareEachUptoRow.holds Try.pinned (OpenSpec.upto shareEachSpec)

/-- 'headkeep.ResumeBy', WHERE WHAT IT READS IS OF BULK AT MOST 1048576: true; the input reads as it did. -/
def resumeByUptoRow : OpenClaim := { program := "ytjlkcjaofglpmaa", sum := "2e6e4cb8ec39fcca20fca426c17a4622fb34061f59564afe1fa4fbd672a56e24", func := "headway/headkeep.ResumeBy", spec := "resumeBy", apart := false, narrowed := true }
def ResumeByUptoSaid : Prop := resumeByUptoRow.holds Try.pinned (OpenSpec.upto resumeBySpec)

/-- 'headkeep.ResumeWhole', WHERE WHAT IT READS IS OF BULK AT MOST 1048576: true; the input reads as it did. -/
def resumeWholeUptoRow : OpenClaim := { program := "ytjlkcjaofglpmaa", sum := "2e6e4cb8ec39fcca20fca426c17a4622fb34061f59564afe1fa4fbd672a56e24", func := "headway/headkeep.ResumeWhole", spec := "resumeWhole", apart := false, narrowed := true }
def ResumeWholeUptoSaid : Prop := resumeWholeUptoRow.holds Try.pinned (OpenSpec.upto resumeWholeSpec)

/-- 'headkeep.ShareMore', WHERE WHAT IT READS IS OF BULK AT MOST 1048576: true; the input reads as it did. -/
def shareMoreUptoRow : OpenClaim := { program := "ytjlkcjaofglpmaa", sum := "2e6e4cb8ec39fcca20fca426c17a4622fb34061f59564afe1fa4fbd672a56e24", func := "headway/headkeep.ShareMore", spec := "shareMore", apart := false, narrowed := true }
def ShareMoreUptoSaid : Prop := shareMoreUptoRow.holds Try.pinned (OpenSpec.upto shareMoreSpec)

/-- 'headtop.TopSnapshot', WHERE WHAT IT READS IS OF BULK AT MOST 1048576: true; the input reads as it did. -/
def topSnapshotUptoRow : OpenClaim := { program := "ytjlkcjaofglpmaa", sum := "2e6e4cb8ec39fcca20fca426c17a4622fb34061f59564afe1fa4fbd672a56e24", func := "headway/headtop.TopSnapshot", spec := "topSnapshot", unfollowed := true, recurses := true, apart := false, narrowed := true }
def TopSnapshotUptoSaid : Prop := topSnapshotUptoRow.holds Try.pinned (OpenSpec.upto topSnapshotSpec)

/-- 'headtop.TopShare', WHERE WHAT IT READS IS OF BULK AT MOST 1048576: true; the input reads as it did. -/
def topShareUptoRow : OpenClaim := { program := "ytjlkcjaofglpmaa", sum := "2e6e4cb8ec39fcca20fca426c17a4622fb34061f59564afe1fa4fbd672a56e24", func := "headway/headtop.TopShare", spec := "topShare", unfollowed := true, recurses := true, apart := false, narrowed := true }
def TopShareUptoSaid : Prop := topShareUptoRow.holds Try.pinned (OpenSpec.upto topShareSpec)

end Rows
end Go.Proofs.Ytjlkcjaofglpmaa
