/-
  No cell of these rows narrows 'for every input' (looked for: loops, veiled, ifaces, maps, wideKeys, modest, calm, conditions, laid).
  DERIVED. THE GIVEN ROWS OF THIS SEAT. 7 by the template 'for every input the law returns true; each argument reads behind the call as it read before'; 0 by the template 'total and deterministic' (their statements: YtlaandbaaepamaaTotals.lean).
  GIVEN WITH THE SEED: the statements are not yours to turn. If you find one false, say at which input.
  Laid BY PROGRAM, IN A SANDBOX (cutbox-rows.mjs): the forced cells as the released guide's own fill.sh prints them over the translation 76069e6ecdfcdcd1… (all of the seat's roots in one cut). By AI agents, Wed Nov 11 2026. No macro, syntax, notation, axiom, sorry.
-/
import Derived.Test.YtlaandbaaepamaaChecked
import GoSem.Claim
import GoSem.ClaimJoined
import GoSem.ClaimMapViews
import Derived.JoinedTies
import Derived.KernelRfl
namespace Go.Proofs.Ytlaandbaaepamaa
/- THE CELL 'sum', in the pinned program and in every row, IS THE sha256 OF THE DUMP (.gsa) THAT YtlaandbaaepamaaProg.lean LOADS. Nothing in Lean hashes anything: it is a label: what it is worth is what the hold of that sum in a sandbox is worth. -/
noncomputable def Try.pinned : Pinned := { name := "ytlaandbaaepamaa", sum := "76069e6ecdfcdcd16b9adb688cfb8930afe8a28a26a3c506a96996702882413c", checked := Try.checked }
namespace Rows
def none {H : Type} : Left H := { results := [], args := [] }

/-- 'headlaw.WorldPlays': WHATEVER THE INPUT: true; the input reads as it did. -/
def worldPlaysSpec : ChangeSpec := { name := "worldPlays", fn := fun _ => fun
  | [d1, d2, d3, d4] => { results := [.lit (.bool true)], args := [d1, d2, d3, d4] }
  | _ => none }
def worldPlaysRow : OpenClaim := { program := "ytlaandbaaepamaa", sum := "76069e6ecdfcdcd16b9adb688cfb8930afe8a28a26a3c506a96996702882413c", func := "headway/headlaw.WorldPlays", spec := "worldPlays", apart := false }
def WorldPlaysSaid : Prop := worldPlaysRow.holds Try.pinned (OpenSpec.ofChange worldPlaysSpec)

/-- ITS FALSE NEIGHBOUR: 'it returns false'. Refute it at one input. -/
def worldPlaysWrong : ChangeSpec := { name := "worldPlays", fn := fun _ => fun
  | [d1, d2, d3, d4] => { results := [.lit (.bool false)], args := [d1, d2, d3, d4] }
  | _ => none }
def WorldPlaysWrongFalsely : Prop := worldPlaysRow.holds Try.pinned (OpenSpec.ofChange worldPlaysWrong)

/-- 'headkeep.WorldBytes': WHATEVER THE INPUT: true; the input reads as it did. -/
def worldBytesSpec : ChangeSpec := { name := "worldBytes", fn := fun _ => fun
  | [d1, d2, d3, d4] => { results := [.lit (.bool true)], args := [d1, d2, d3, d4] }
  | _ => none }
def worldBytesRow : OpenClaim := { program := "ytlaandbaaepamaa", sum := "76069e6ecdfcdcd16b9adb688cfb8930afe8a28a26a3c506a96996702882413c", func := "headway/headkeep.WorldBytes", spec := "worldBytes", apart := false }
def WorldBytesSaid : Prop := worldBytesRow.holds Try.pinned (OpenSpec.ofChange worldBytesSpec)

/-- ITS FALSE NEIGHBOUR: 'it returns false'. Refute it at one input. -/
def worldBytesWrong : ChangeSpec := { name := "worldBytes", fn := fun _ => fun
  | [d1, d2, d3, d4] => { results := [.lit (.bool false)], args := [d1, d2, d3, d4] }
  | _ => none }
def WorldBytesWrongFalsely : Prop := worldBytesRow.holds Try.pinned (OpenSpec.ofChange worldBytesWrong)

/-- 'headkeep.WorldCalm': WHATEVER THE INPUT: true; the input reads as it did. -/
def worldCalmSpec : ChangeSpec := { name := "worldCalm", fn := fun _ => fun
  | [d1, d2, d3, d4] => { results := [.lit (.bool true)], args := [d1, d2, d3, d4] }
  | _ => none }
def worldCalmRow : OpenClaim := { program := "ytlaandbaaepamaa", sum := "76069e6ecdfcdcd16b9adb688cfb8930afe8a28a26a3c506a96996702882413c", func := "headway/headkeep.WorldCalm", spec := "worldCalm", apart := false }
def WorldCalmSaid : Prop := worldCalmRow.holds Try.pinned (OpenSpec.ofChange worldCalmSpec)

/-- ITS FALSE NEIGHBOUR: 'it returns false'. Refute it at one input. -/
def worldCalmWrong : ChangeSpec := { name := "worldCalm", fn := fun _ => fun
  | [d1, d2, d3, d4] => { results := [.lit (.bool false)], args := [d1, d2, d3, d4] }
  | _ => none }
def WorldCalmWrongFalsely : Prop := worldCalmRow.holds Try.pinned (OpenSpec.ofChange worldCalmWrong)

/-- 'headkeep.WorldTurns': WHATEVER THE INPUT: true; the input reads as it did. -/
def worldTurnsSpec : ChangeSpec := { name := "worldTurns", fn := fun _ => fun
  | [d1, d2, d3] => { results := [.lit (.bool true)], args := [d1, d2, d3] }
  | _ => none }
def worldTurnsRow : OpenClaim := { program := "ytlaandbaaepamaa", sum := "76069e6ecdfcdcd16b9adb688cfb8930afe8a28a26a3c506a96996702882413c", func := "headway/headkeep.WorldTurns", spec := "worldTurns", apart := false }
def WorldTurnsSaid : Prop := worldTurnsRow.holds Try.pinned (OpenSpec.ofChange worldTurnsSpec)

/-- ITS FALSE NEIGHBOUR: 'it returns false'. Refute it at one input. -/
def worldTurnsWrong : ChangeSpec := { name := "worldTurns", fn := fun _ => fun
  | [d1, d2, d3] => { results := [.lit (.bool false)], args := [d1, d2, d3] }
  | _ => none }
def WorldTurnsWrongFalsely : Prop := worldTurnsRow.holds Try.pinned (OpenSpec.ofChange worldTurnsWrong)

/-- 'headkeep.WorldShares': WHATEVER THE INPUT: true; the input reads as it did. -/
def worldSharesSpec : ChangeSpec := { name := "worldShares", fn := fun _ => fun
  | [d1, d2, d3] => { results := [.lit (.bool true)], args := [d1, d2, d3] }
  | _ => none }
def worldSharesRow : OpenClaim := { program := "ytlaandbaaepamaa", sum := "76069e6ecdfcdcd16b9adb688cfb8930afe8a28a26a3c506a96996702882413c", func := "headway/headkeep.WorldShares", spec := "worldShares", apart := false }
def WorldSharesSaid : Prop := worldSharesRow.holds Try.pinned (OpenSpec.ofChange worldSharesSpec)

/-- ITS FALSE NEIGHBOUR: 'it returns false'. Refute it at one input. -/
def worldSharesWrong : ChangeSpec := { name := "worldShares", fn := fun _ => fun
  | [d1, d2, d3] => { results := [.lit (.bool false)], args := [d1, d2, d3] }
  | _ => none }
def WorldSharesWrongFalsely : Prop := worldSharesRow.holds Try.pinned (OpenSpec.ofChange worldSharesWrong)

/-- 'headkeep.WorldOwn': WHATEVER THE INPUT: true; the input reads as it did. -/
def worldOwnSpec : ChangeSpec := { name := "worldOwn", fn := fun _ => fun
  | [d1, d2, d3, d4] => { results := [.lit (.bool true)], args := [d1, d2, d3, d4] }
  | _ => none }
def worldOwnRow : OpenClaim := { program := "ytlaandbaaepamaa", sum := "76069e6ecdfcdcd16b9adb688cfb8930afe8a28a26a3c506a96996702882413c", func := "headway/headkeep.WorldOwn", spec := "worldOwn", apart := false }
def WorldOwnSaid : Prop := worldOwnRow.holds Try.pinned (OpenSpec.ofChange worldOwnSpec)

/-- ITS FALSE NEIGHBOUR: 'it returns false'. Refute it at one input. -/
def worldOwnWrong : ChangeSpec := { name := "worldOwn", fn := fun _ => fun
  | [d1, d2, d3, d4] => { results := [.lit (.bool false)], args := [d1, d2, d3, d4] }
  | _ => none }
def WorldOwnWrongFalsely : Prop := worldOwnRow.holds Try.pinned (OpenSpec.ofChange worldOwnWrong)

/-- 'headtop.TopWorld': WHATEVER THE INPUT: true; the input reads as it did. -/
def topWorldSpec : ChangeSpec := { name := "topWorld", fn := fun _ => fun
  | [d1, d2, d3, d4] => { results := [.lit (.bool true)], args := [d1, d2, d3, d4] }
  | _ => none }
def topWorldRow : OpenClaim := { program := "ytlaandbaaepamaa", sum := "76069e6ecdfcdcd16b9adb688cfb8930afe8a28a26a3c506a96996702882413c", func := "headway/headtop.TopWorld", spec := "topWorld", unfollowed := true, recurses := true, apart := false }
def TopWorldSaid : Prop := topWorldRow.holds Try.pinned (OpenSpec.ofChange topWorldSpec)

/-- ITS FALSE NEIGHBOUR: 'it returns false'. Refute it at one input. -/
def topWorldWrong : ChangeSpec := { name := "topWorld", fn := fun _ => fun
  | [d1, d2, d3, d4] => { results := [.lit (.bool false)], args := [d1, d2, d3, d4] }
  | _ => none }
def TopWorldWrongFalsely : Prop := topWorldRow.holds Try.pinned (OpenSpec.ofChange topWorldWrong)

/- THE SECOND FORM. 'bulk': how many values and letters a reading holds, each counted each time it is reached (what is shared counts as often as it is met; a slice's spare places count too). A statement '..UptoSaid' is the law's where the arguments, and the package variables that the reading takes, are together of bulk at most 1048576: NARROWER than '..Said'. Prove '..Said' where nothing that the law and all that it calls make is longer than what came in: it says more and counts as full. Else prove '..UptoSaid'. A law counts once. -/
mutual
def uptoBulk {H : Type} : DataW H → Nat
  | .lit (.string bytes) => bytes.length + 1
  | .lit _ => 1
  | .nil => 1
  | .ptr d => uptoBulk d + 1
  | .slice elems spare => uptoBulkAll elems + uptoBulkAll spare + 1
  | .agg parts => uptoBulkAll parts + 1
  | .iface _ d => uptoBulk d + 1
  | .map entries => uptoBulkEntries entries + 1
  | .held _ => 1
def uptoBulkAll {H : Type} : List (DataW H) → Nat
  | [] => 0
  | d :: r => uptoBulk d + uptoBulkAll r
def uptoBulkEntries {H : Type} : List (Lit × DataW H) → Nat
  | [] => 0
  | x :: r => uptoBulkEntry x + uptoBulkEntries r
def uptoBulkEntry {H : Type} : Lit × DataW H → Nat
  | (.string bytes, d) => bytes.length + uptoBulk d + 1
  | (_, d) => uptoBulk d + 1
 end
def uptoSmall : (H : Type) → List (DataW H) → Bool := fun _ ds => decide (uptoBulkAll ds ≤ 1048576)
def OpenSpec.upto (s : _root_.Go.ChangeSpec) : _root_.Go.OpenSpec := { _root_.Go.OpenSpec.ofChange s with cond := some uptoSmall }

/-- 'headlaw.WorldPlays', WHERE WHAT IT READS IS OF BULK AT MOST 1048576: true; the input reads as it did. -/
def worldPlaysUptoRow : OpenClaim := { program := "ytlaandbaaepamaa", sum := "76069e6ecdfcdcd16b9adb688cfb8930afe8a28a26a3c506a96996702882413c", func := "headway/headlaw.WorldPlays", spec := "worldPlays", apart := false, narrowed := true }
def WorldPlaysUptoSaid : Prop := worldPlaysUptoRow.holds Try.pinned (OpenSpec.upto worldPlaysSpec)

/-- 'headkeep.WorldBytes', WHERE WHAT IT READS IS OF BULK AT MOST 1048576: true; the input reads as it did. -/
def worldBytesUptoRow : OpenClaim := { program := "ytlaandbaaepamaa", sum := "76069e6ecdfcdcd16b9adb688cfb8930afe8a28a26a3c506a96996702882413c", func := "headway/headkeep.WorldBytes", spec := "worldBytes", apart := false, narrowed := true }
def WorldBytesUptoSaid : Prop := worldBytesUptoRow.holds Try.pinned (OpenSpec.upto worldBytesSpec)

/-- 'headkeep.WorldCalm', WHERE WHAT IT READS IS OF BULK AT MOST 1048576: true; the input reads as it did. -/
def worldCalmUptoRow : OpenClaim := { program := "ytlaandbaaepamaa", sum := "76069e6ecdfcdcd16b9adb688cfb8930afe8a28a26a3c506a96996702882413c", func := "headway/headkeep.WorldCalm", spec := "worldCalm", apart := false, narrowed := true }
def WorldCalmUptoSaid : Prop := worldCalmUptoRow.holds Try.pinned (OpenSpec.upto worldCalmSpec)

/-- 'headkeep.WorldTurns', WHERE WHAT IT READS IS OF BULK AT MOST 1048576: true; the input reads as it did. -/
def worldTurnsUptoRow : OpenClaim := { program := "ytlaandbaaepamaa", sum := "76069e6ecdfcdcd16b9adb688cfb8930afe8a28a26a3c506a96996702882413c", func := "headway/headkeep.WorldTurns", spec := "worldTurns", apart := false, narrowed := true }
def WorldTurnsUptoSaid : Prop := worldTurnsUptoRow.holds Try.pinned (OpenSpec.upto worldTurnsSpec)

/-- 'headkeep.WorldShares', WHERE WHAT IT READS IS OF BULK AT MOST 1048576: true; the input reads as it did. -/
def worldSharesUptoRow : OpenClaim := { program := "ytlaandbaaepamaa", sum := "76069e6ecdfcdcd16b9adb688cfb8930afe8a28a26a3c506a96996702882413c", func := "headway/headkeep.WorldShares", spec := "worldShares", apart := false, narrowed := true }
def WorldSharesUptoSaid : Prop := worldSharesUptoRow.holds Try.pinned (OpenSpec.upto worldSharesSpec)

/-- 'headkeep.WorldOwn', WHERE WHAT IT READS IS OF BULK AT MOST 1048576: true; the input reads as it did. -/
def worldOwnUptoRow : OpenClaim := { program := "ytlaandbaaepamaa", sum := "76069e6ecdfcdcd16b9adb688cfb8930afe8a28a26a3c506a96996702882413c", func := "headway/headkeep.WorldOwn", spec := "worldOwn", apart := false, narrowed := true }
def WorldOwnUptoSaid : Prop := worldOwnUptoRow.holds Try.pinned (OpenSpec.upto worldOwnSpec)

/-- 'headtop.TopWorld', WHERE WHAT IT READS IS OF BULK AT MOST 1048576: true; the input reads as it did. -/
def topWorldUptoRow : OpenClaim := { program := "ytlaandbaaepamaa", sum := "76069e6ecdfcdcd16b9adb688cfb8930afe8a28a26a3c506a96996702882413c", func := "headway/headtop.TopWorld", spec := "topWorld", unfollowed := true, recurses := true, apart := false, narrowed := true }
def TopWorldUptoSaid : Prop := topWorldUptoRow.holds Try.pinned (OpenSpec.upto topWorldSpec)

end Rows
end Go.Proofs.Ytlaandbaaepamaa
