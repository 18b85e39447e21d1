
/-
  Words for memory: a slice that reads as a list of integers (nil let in), and what keeps it so; plain functions that say what the curve layer answers.
-/
import Derived.Below
import Derived.Calls
import Derived.Lib.Hide
import Derived.Laws.OwnMore
import Derived.Deep.Draws
import Derived.Laws.Rows
namespace Go.Proofs.Ytlaandbaaepamaa
set_option linter.all false
open Go.RowKit

/-- The slice at A reads, in w, as the list l. -/
def Ints (w : World) (A : Option Addr) (l : List Int) : Prop :=
  l.length ≤ 9223372036854775807 ∧ (0 < l.length → ∃ b off, A = some ⟨b, off, none⟩ ∧ ∀ j, j < l.length → w.cell? ⟨b, off + j, none⟩ = some (.int .i64 (l.getD j 0)))

theorem cell_lt {w : World} {b off : Nat} {u : Value} (h : w.cell? ⟨b, off, none⟩ = some u) : b < w.heap.size := by
  rcases Nat.lt_or_ge b w.heap.size with hlt | hge
  · exact hlt
  · unfold World.cell? at h
    simp [Array.getElem?_eq_none hge] at h

theorem Ints.at_ {w : World} {A : Option Addr} {l : List Int} {k : Nat} (h : Ints w A l) (hk : k < l.length) :
    ∃ b off x, A = some ⟨b, off, none⟩ ∧ w.cell? ⟨b, off + k, none⟩ = some (.int .i64 x) ∧ Hid (l[k]? = some x) := by
  obtain ⟨b, off, rfl, hc⟩ := h.2 (by omega)
  refine ⟨b, off, l[k], rfl, ?_, Lib.hid (List.getElem?_eq_getElem hk)⟩
  have := hc k hk
  simpa [List.getD, List.getElem?_eq_getElem hk] using this

theorem Ints.nil_ (w : World) (A : Option Addr) : Ints w A [] := ⟨by simp, fun h => absurd h (by simp)⟩

theorem Ints.below {w w' : World} {A : Option Addr} {l : List Int} (h : Ints w A l) (hb : Below w.heap.size w w') : Ints w' A l := by
  refine ⟨h.1, fun hl => ?_⟩
  obtain ⟨b, off, rfl, hc⟩ := h.2 hl
  exact ⟨b, off, rfl, fun j hj => (hb.cell (p := ⟨b, off + j, none⟩) (cell_lt (hc j hj))).trans (hc j hj)⟩

theorem Ints.drew {w : World} {A : Option Addr} {l : List Int} (h : Ints w A l) : Ints w.drew A l := h
theorem Ints.drewN {w : World} {A : Option Addr} {l : List Int} (h : Ints w A l) (n : Nat) : Ints (w.drewN n) A l := h

theorem below_of_drewN {w w' : World} {n : Nat} (h : w' = w.drewN n) : Below w.heap.size w w' := by subst h; exact ⟨rfl, rfl, rfl, Nat.le_refl _, fun _ _ => rfl⟩
theorem below_trans {w w1 w2 : World} (h : Below w.heap.size w w1) (h' : Below w1.heap.size w1 w2) : Below w.heap.size w w2 := h.trans (h'.mono h.size)

theorem drop_of_get {l : List Int} {k : Nat} {x : Int} (h : l[k]? = some x) : l.drop k = x :: l.drop (k + 1) := by
  obtain ⟨hk, rfl⟩ := List.getElem?_eq_some_iff.1 h
  exact List.drop_eq_getElem_cons hk

/-- What Check answers of the values from one on. -/
def chkGo : Int → List Int → Int
  | _, [] => 0
  | b, v :: vs => if v < 0 then 1 else if 1000000 < v then 2 else if v < b then 3 else chkGo v vs
def chk (l : List Int) : Int := if l.length = 0 then 1 else if 61 < l.length then 2 else chkGo 0 l

/-- What two curves answer together. -/
def chk2 (l m : List Int) : Int := if chk l ≠ 0 then chk l else if chk m ≠ 0 then chk m else if l.length = m.length then 0 else 4

/-- Is no value of the one above that of the other? -/
def leB : List Int → List Int → Bool
  | a :: l, b :: m => decide (a ≤ b) && leB l m
  | _, _ => true

theorem leB_step {l m : List Int} {k : Nat} {x y : Int} {r : Bool} (h : leB l m = leB (l.drop k) (m.drop k)) (hx : l[k]? = some x) (hy : m[k]? = some y)
    (hr : r = (decide (x ≤ y) && leB (l.drop (k + 1)) (m.drop (k + 1)))) : leB l m = r := by
  rw [h, drop_of_get hx, drop_of_get hy, hr, leB]

theorem leB_end {l m : List Int} {k : Nat} (h : leB l m = leB (l.drop k) (m.drop k)) (hk : l.length ≤ k) : leB l m = true := by
  rw [h, List.drop_of_length_le hk]; simp [leB]

theorem eq_step {l m : List Int} {k : Nat} {x y : Int} (h : (l = m) = (l.drop k = m.drop k)) (hx : l[k]? = some x) (hy : m[k]? = some y) (e : x = y) : (l = m) = (l.drop (k + 1) = m.drop (k + 1)) := by
  rw [h, drop_of_get hx, drop_of_get hy, e]; simp

theorem eq_miss {l m : List Int} {k : Nat} {x y : Int} (hx : l[k]? = some x) (hy : m[k]? = some y) (e : ¬ x = y) : ¬ l = m := by
  rintro rfl
  rw [hx] at hy
  exact e (by injection hy)

/-- Are two lists one? -/
def eqB (l m : List Int) : Bool := decide (l = m)
theorem eqB_true {l m : List Int} (h : l = m) : eqB l m = true := decide_eq_true h
theorem eqB_false {l m : List Int} (h : ¬ l = m) : eqB l m = false := decide_eq_false h

/-- A list that was made by the call itself reads as it was made. -/
theorem Ints.of_own {w : World} {base : Nat} {e : TypeId} {A : Option Addr} {c : Nat} {l : List Int} (h : w.ownsRow base e 1 (.slice A l.length c) l.length (l.map (Value.int .i64))) : Ints w A l := by
  rcases h.2 with ⟨hv, h0⟩ | ⟨g, cap, cur, hv, _, hh, hn, hm, hs, ht⟩
  · rw [List.eq_nil_of_length_eq_zero h0]
    exact Ints.nil_ _ _
  · refine ⟨by unfold maxLen at hm; omega, fun hl => ?_⟩
    have hA : A = some ⟨g, 0, none⟩ := by injection hv
    subst hA
    refine ⟨g, 0, rfl, fun j hj => ?_⟩
    have hc := h.cells (g := g) rfl j (.int .i64 (l.getD j 0)) (by simp [List.getD, List.getElem?_eq_getElem hj])
    by_cases h0 : j = 0
    · subst h0; simpa [Addr.add] using hc
    · simpa [Addr.add, h0] using hc

/-- What a call that hands back a curve leaves: the list L in new memory, and the error E; nothing that was there has turned. -/
def Ans (L : List Int) (E : Int) (w : World) (e : Ending) (w' : World) : Prop :=
  ∃ A c, e = .returned (.tuple #[.slice A L.length c, .int .i64 E]) ∧ w'.ownsRow w.heap.size 3 1 (.slice A L.length c) L.length (L.map (Value.int .i64)) ∧ Below w.heap.size w w'

theorem Ans.none_ (E : Int) (w : World) : Ans [] E w (.returned (.tuple #[.slice none 0 0, .int .i64 E])) w := ⟨none, 0, rfl, World.ownsRow_nil _ _ _ _, Below.refl _ _⟩

theorem Ints.lit (w : World) (l : List Int) (cs : Array Value) (t : TypeId) (h : cs = (l.map (Value.int .i64)).toArray) (hl : l.length ≤ 1000) : Ints (w.alloc (.cells cs t)) (some ⟨w.heap.size, 0, none⟩) l := by
  refine ⟨by omega, fun h0 => ⟨w.heap.size, 0, rfl, fun j hj => ?_⟩⟩
  rw [cell_of_row (w.alloc (.cells cs t)) w.heap.size (0 + j) cs t (0, 0) (heap_alloc_new w _), h]
  simp [List.getD, List.getElem?_eq_getElem hj]

theorem Ints.alloc {w : World} {A : Option Addr} {l : List Int} (h : Ints w A l) (o : Obj) : Ints (w.alloc o) A l := h.below ((Below.refl _ _).alloc (Nat.le_refl _) _)
theorem Ints.litA (w : World) (l : List Int) (cs : Array Value) (t : TypeId) (o : Obj) (h : cs = (l.map (Value.int .i64)).toArray) (hl : l.length ≤ 1000) : Ints ((w.alloc (.cells cs t)).alloc o) (some ⟨w.heap.size, 0, none⟩) l :=
  (Ints.lit w l cs t h hl).alloc o
theorem Ints.litB (w : World) (l : List Int) (cs : Array Value) (t : TypeId) (o : Obj) (h : cs = (l.map (Value.int .i64)).toArray) (hl : l.length ≤ 1000) : Ints ((w.alloc o).alloc (.cells cs t)) (some ⟨w.heap.size + 1, 0, none⟩) l := by
  simpa using Ints.lit (w.alloc o) l cs t h hl
theorem below_of1 {w w1 : World} {o : Obj} (b : Below (w.alloc o).heap.size (w.alloc o) w1) : Below w.heap.size w w1 := below_trans ((Below.refl _ _).alloc (Nat.le_refl _) _) b
theorem below_of2 {w w1 : World} {o o' : Obj} (b : Below ((w.alloc o).alloc o').heap.size ((w.alloc o).alloc o') w1) : Below w.heap.size w w1 := below_of1 (below_of1 b)

/-- From a slice of integers as the row opens it. -/
theorem ints_of_open {W : World} {x : Addr} {len cap : Nat} {zs : List Int} (hl : len ≤ cap) (hm : cap ≤ maxLen) (hz : zs.length = cap)
    (hcell : ∀ i, i < zs.length → W.cell? (x.add i) = some (.int .i64 (zs.getD i 0))) : ∃ l : List Int, Ints W (some x) l ∧ len = l.length ∧ l.length ≤ cap := by
  refine ⟨zs.take len, ⟨by simp; unfold maxLen at hm; omega, fun h0 => ?_⟩, by simp; omega, by simp; omega⟩
  simp at h0
  obtain ⟨b, off, spot⟩ := x
  have hc := hcell 0 (by omega)
  have hspot : spot = none := by simpa [Addr.add] using World.cell?_spot hc
  subst hspot
  refine ⟨b, off, rfl, fun j hj => ?_⟩
  simp at hj
  have := hcell j (by omega)
  rw [show (zs.take len).getD j 0 = zs.getD j 0 by simp [List.getD, show j < len by omega]]
  by_cases h0 : j = 0
  · subst h0; simpa [Addr.add] using this
  · simpa [Addr.add, h0] using this

end Go.Proofs.Ytlaandbaaepamaa
