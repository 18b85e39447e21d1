
/-
  Walks: the small functions of package headkeep that speak of memory: roomy, marked, spoil.
-/
import Derived.Test.YtnpdcllfdoobeaaRefA
import Derived.Test.YtnpdcllfdoobeaaPointB
import Derived.OwnWalk
namespace Go.Proofs.Ytnpdcllfdoobeaa
set_option linter.all false
open Go.RowKit Go.Shelf

theorem Blk.belowO {w w' : World} {g : Nat} {t : TypeId} {cs : Array Value} (h : Blk w g t cs) (hb : Below w.heap.size w w') : Blk w' g t cs := (hb.block g h.lt).trans h
/-- Cells that hold a list, and k marks behind it, of room for three. -/
structure Ro (l : List Int) (x : Int) (k : Nat) (cs : Array Value) : Prop where
  size : cs.size = l.length + 3
  at_ : ∀ j, j < l.length + k → cs[j]? = some (.int .i64 (gt (l ++ [x, x, x]) j))
theorem Ro.next {l : List Int} {x : Int} {k : Nat} {cs : Array Value} (h : Ro l x k cs) (hk : k < 3) : Ro l x (k + 1) (cs.setIfInBounds (l.length + k) (.int .i64 x)) := by
  refine ⟨by simpa using h.size, fun j hj => ?_⟩
  have hs := h.size
  rw [Array.getElem?_setIfInBounds]
  by_cases e : l.length + k = j
  · subst e
    rw [if_pos rfl, if_pos (by omega)]
    congr 2
    simp only [gt, List.getD]
    rw [List.getElem?_append_right (by omega), Nat.add_sub_cancel_left]
    match k, hk with
    | 0, _ => rfl
    | 1, _ => rfl
    | 2, _ => rfl
  · rw [if_neg e]; exact h.at_ j (by omega)
theorem Ro.all {l : List Int} {x : Int} {cs : Array Value} (h : Ro l x 3 cs) : cs = ((l ++ [x, x, x]).map (Value.int .i64)).toArray := by
  have hs := h.size
  apply Array.ext_getElem?
  intro j
  by_cases hj : j < l.length + 3
  · rw [h.at_ j hj]
    have : (l ++ [x, x, x])[j]? = some (gt (l ++ [x, x, x]) j) := get_of_lt (by simp; omega)
    simp only [List.getElem?_toArray, List.getElem?_map]
    rw [this]; rfl
  · rw [Array.getElem?_eq_none (by omega), Array.getElem?_eq_none (by simp; omega)]

/-- A slice at the head of a block that is known whole: the list, and the room behind it. -/
theorem Ints.of_room {w : World} {g : Nat} {l m : List Int} (h : Blk w g 3 ((l ++ m).map (Value.int .i64)).toArray) (hl : l.length ≤ 9223372036854775807) : Ints w (some ⟨g, 0, none⟩) l :=
  ⟨hl, fun _ => ⟨g, 0, rfl, fun j hj => by rw [h.cell, List.getElem?_toArray, List.getElem?_map, Nat.zero_add, List.getElem?_append_left hj]; simp [List.getD, List.getElem?_eq_getElem hj]⟩⟩

/-- Nothing but the block g has turned. -/
structure Turned (g : Nat) (w w' : World) : Prop where
  os : w'.os = w.os
  tape : w'.tape = w.tape
  output : w'.output = w.output
  size : w'.heap.size = w.heap.size
  block : ∀ k, k ≠ g → w'.heap[k]? = w.heap[k]?
theorem Turned.refl (g : Nat) (w : World) : Turned g w w := ⟨rfl, rfl, rfl, rfl, fun _ _ => rfl⟩
theorem Turned.set {g : Nat} {w w' : World} (h : Turned g w w') (i : Nat) (u : Value) : Turned g w (w'.setCell ⟨g, i, none⟩ u) := by
  refine ⟨h.os, h.tape, h.output, by simp [h.size], fun k hk => ?_⟩
  rw [Below.heap_setCell _ _ _ _ hk]; exact h.block k hk
theorem Turned.below {g B : Nat} {w0 w w' : World} (h : Turned g w w') (hb : Below B w0 w) (hg : B ≤ g) : Below B w0 w' :=
  ⟨h.os.trans hb.os, h.tape.trans hb.tape, h.output.trans hb.output, by rw [h.size]; exact hb.size, fun k hk => (h.block k (by omega)).trans (hb.block k hk)⟩

end Go.Proofs.Ytnpdcllfdoobeaa
