
/-
  Walks: values.Curve over whatever function value that keeps to a contract.
-/
import Derived.Test.YtlaandbaaepamaaCurveC
import Derived.Test.YtlaandbaaepamaaPlain
namespace Go.Proofs.Ytlaandbaaepamaa
set_option linter.all false
open Go.RowKit

/-- A block that is known whole. -/
def Blk (w : World) (g : Nat) (t : TypeId) (cs : Array Value) : Prop := w.heap[g]? = some (.cells cs t (0, 0))
theorem Blk.lt {w : World} {g : Nat} {t : TypeId} {cs : Array Value} (h : Blk w g t cs) : g < w.heap.size := by
  rcases Nat.lt_or_ge g w.heap.size with hlt | hge
  · exact hlt
  · unfold Blk at h; rw [Array.getElem?_eq_none hge] at h; cases h
theorem Blk.cell {w : World} {g : Nat} {t : TypeId} {cs : Array Value} (h : Blk w g t cs) (i : Nat) : w.cell? ⟨g, i, none⟩ = cs[i]? := cell_of_row w g i cs t (0, 0) h
theorem Blk.frozen {w : World} {g : Nat} {t : TypeId} {cs : Array Value} (h : Blk w g t cs) (i : Nat) : w.frozen? ⟨g, i, none⟩ = false := by
  unfold Blk at h
  simp [World.frozen?, h]
theorem Blk.new (w : World) (t : TypeId) (cs : Array Value) : Blk (w.alloc (.cells cs t)) w.heap.size t cs := heap_alloc_new w _
theorem Blk.set_ {w : World} {g : Nat} {t : TypeId} {cs : Array Value} (h : Blk w g t cs) (i : Nat) (u : Value) : Blk (w.setCell ⟨g, i, none⟩ u) g t (cs.setIfInBounds i u) := by
  unfold Blk at h ⊢
  simp [World.setCell, Array.getElem?_modify, h]

/-- What a function value 'func(t int) int', called at 0, 1, .. in turn, keeps to: it answers F t; of the blocks below B0 none turns, and none from B on; what it needs of memory is Inv, which hangs on blocks below B alone. -/
structure Clo (k : FuncId) (cs : Array Value) (B0 B n : Nat) (F : Nat → Int) (Inv : Nat → World → Prop) : Prop where
  ent : ∀ args w, (callFunc k args).run Try.prog w = .ok (.enter k args) w
  call : ∀ (t : Nat) (w' : World), t < n → Inv t w' → B ≤ w'.heap.size → Calls Try.prog k (#[.int .i64 t] ++ cs) w' fun e w'' =>
    e = .returned (.int .i64 (F t)) ∧ Inv (t + 1) w'' ∧ Below B0 w' w'' ∧ ∀ b, B ≤ b → b < w'.heap.size → w''.heap[b]? = w'.heap[b]?
  far : ∀ (t : Nat) (w1 w2 : World), Inv t w1 → (∀ b, b < B → w2.heap[b]? = w1.heap[b]?) → Inv t w2

/-- The row behind k rounds. -/
def rowAt (n k : Nat) (F : Nat → Int) : List Value := (tab k F).map (Value.int .i64) ++ List.replicate (n - k) (.int .i64 0)

/-- What build leaves. -/
def Built (B0 : Nat) (L : List Int) (w : World) (e : Ending) (w' : World) : Prop :=
  ∃ A c, e = .returned (.tuple #[.slice A (fitL L).length c, .int .i64 (fitE L)]) ∧ w'.ownsRow w.heap.size 3 1 (.slice A (fitL L).length c) (fitL L).length ((fitL L).map (Value.int .i64)) ∧ Below B0 w w'

theorem rowAt_zero (n : Nat) (F : Nat → Int) : (rowAt n 0 F).toArray = madeCells #[Value.int .i64 0] n := by
  have := toList_madeCells_one (Value.int .i64 0) n
  rw [← Array.toArray_toList (xs := madeCells #[Value.int .i64 0] n), this]
  simp [rowAt, tab_zero]

theorem rowAt_succ {n k : Nat} (F : Nat → Int) (h : k < n) : (rowAt n k F).toArray.setIfInBounds k (.int .i64 (F k)) = (rowAt n (k + 1) F).toArray := by
  apply Array.ext'
  simp only [Array.toList_setIfInBounds, rowAt]
  have e : n - k = (n - (k + 1)) + 1 := by omega
  rw [e, List.replicate_succ, tab_succ, List.map_append]
  rw [List.set_append_right _ _ (by simp [length_tab])]
  simp [length_tab]

theorem rowAt_length {n k : Nat} (F : Nat → Int) (h : k ≤ n) : (rowAt n k F).length = n := by simp [rowAt, length_tab]; omega
theorem rowAt_full (n : Nat) (F : Nat → Int) : rowAt n n F = (tab n F).map (Value.int .i64) := by simp [rowAt]
theorem rowAt_get {n k : Nat} (F : Nat → Int) (h : k < n) : (rowAt n k F)[k]? = some (.int .i64 0) := by
  simp only [rowAt]
  rw [List.getElem?_append_right (by simp [length_tab])]
  simp only [List.length_map, length_tab, Nat.sub_self]
  rw [List.getElem?_replicate, if_pos (by omega)]

end Go.Proofs.Ytlaandbaaepamaa
