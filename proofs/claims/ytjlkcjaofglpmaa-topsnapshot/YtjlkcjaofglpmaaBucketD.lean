
/-
  A slice that reads as a list of booleans; slices.Equal and slices.Contains over such; the walk of bucket.Run.
-/
import Derived.Test.YtjlkcjaofglpmaaBucketC
namespace Go.Proofs.Ytjlkcjaofglpmaa
set_option linter.all false
open Go.RowKit Go.Shelf

/-- The slice at A reads, in w, as the list l of booleans. -/
def Bls (w : World) (A : Option Addr) (l : List Bool) : Prop :=
  l.length ≤ 9223372036854775807 ∧ (0 < l.length → ∃ b off, A = some ⟨b, off, none⟩ ∧ ∀ j, j < l.length → w.cell? ⟨b, off + j, none⟩ = some (.bool (l.getD j false)))
theorem Bls.get {w : World} {A : Option Addr} {l : List Bool} {k : Nat} (h : Bls w A l) (hk : k < l.length) :
    ∃ b off x, A = some ⟨b, off, none⟩ ∧ w.cell? ⟨b, off + k, none⟩ = some (.bool x) ∧ Hid (l[k]? = some x) := by
  obtain ⟨b, off, rfl, hc⟩ := h.2 (by omega)
  refine ⟨b, off, l[k], rfl, ?_, Lib.hid (List.getElem?_eq_getElem hk)⟩
  have := hc k hk
  simpa [List.getD, List.getElem?_eq_getElem hk] using this
theorem Bls.nil_ (w : World) (A : Option Addr) : Bls w A [] := ⟨by simp, fun h => absurd h (by simp)⟩
theorem Bls.below {w w' : World} {A : Option Addr} {l : List Bool} (h : Bls w A l) (hb : Below w.heap.size w w') : Bls w' A l := by
  refine ⟨h.1, fun hl => ?_⟩
  obtain ⟨b, off, rfl, hc⟩ := h.2 hl
  exact ⟨b, off, rfl, fun j hj => (hb.cell (p := ⟨b, off + j, none⟩) (cell_lt (hc j hj))).trans (hc j hj)⟩
theorem Bls.alloc {w : World} {A : Option Addr} {l : List Bool} (h : Bls w A l) (o : Obj) : Bls (w.alloc o) A l := h.below (alloc_below _ _)
theorem Bls.of_blk {w : World} {g : Nat} {L : List Bool} (h : Blk w g 4 (L.map Value.bool).toArray) (hl : L.length ≤ 1000) : Bls w (some ⟨g, 0, none⟩) L :=
  ⟨by omega, fun _ => ⟨g, 0, rfl, fun j hj => by rw [h.cell]; simp [List.getD, List.getElem?_eq_getElem hj]⟩⟩
theorem Bls.lit (w : World) (l : List Bool) (cs : Array Value) (t : TypeId) (h : cs = (l.map Value.bool).toArray) (hl : l.length ≤ 1000) : Bls (w.alloc (.cells cs t)) (some ⟨w.heap.size, 0, none⟩) l := by
  refine ⟨by omega, fun h0 => ⟨w.heap.size, 0, rfl, fun j hj => ?_⟩⟩
  rw [cell_of_row (w.alloc (.cells cs t)) w.heap.size (0 + j) cs t (0, 0) (heap_alloc_new w _), h]
  simp [List.getD, List.getElem?_eq_getElem hj]
/-- What a call leaves that hands back a list of booleans, and an error. -/
def AnsBo (L : List Bool) (E : Int) (w : World) (e : Ending) (w' : World) : Prop :=
  ∃ A c, e = .returned (.tuple #[.slice A L.length c, .int .i64 E]) ∧ Bls w' A L ∧ Below w.heap.size w w'
/-- .. in memory of its own. -/
def AnsBw (L : List Bool) (E : Int) (w : World) (e : Ending) (w' : World) : Prop :=
  ∃ A c, e = .returned (.tuple #[.slice A L.length c, .int .i64 E]) ∧ Bls w' A L ∧ w'.ownsRow w.heap.size 4 1 (.slice A L.length c) L.length (L.map Value.bool) ∧ Below w.heap.size w w'
theorem AnsBw.bo {L : List Bool} {E : Int} {w : World} {e : Ending} {w' : World} (h : AnsBw L E w e w') : AnsBo L E w e w' := by
  obtain ⟨A, c, h1, h2, _, h4⟩ := h
  exact ⟨A, c, h1, h2, h4⟩

theorem bdrop {l : List Bool} {k : Nat} {x : Bool} (h : l[k]? = some x) : l.drop k = x :: l.drop (k + 1) := by
  obtain ⟨hk, rfl⟩ := List.getElem?_eq_some_iff.1 h
  exact List.drop_eq_getElem_cons hk
theorem beq_step {l m : List Bool} {k : Nat} {x y : Bool} (h : (l = m) = (l.drop k = m.drop k)) (hx : l[k]? = some x) (hy : m[k]? = some y) (e : x = y) : (l = m) = (l.drop (k + 1) = m.drop (k + 1)) := by
  rw [h, bdrop hx, bdrop hy, e]; simp
theorem beq_miss {l m : List Bool} {k : Nat} {x y : Bool} (hx : l[k]? = some x) (hy : m[k]? = some y) (e : ¬ x = y) : ¬ l = m := by
  rintro rfl
  rw [hx] at hy
  exact e (by injection hy)

set_option maxHeartbeats 400000 in
theorem bindex_all (A : Option Addr) (l : List Bool) (c : Nat) (w : World) (h : Bls w A l) (all : ∀ k, k < l.length → l[k]? = some true) :
    Calls Try.prog 38 #[.slice A l.length c, .bool false] w fun e w' => e = .returned (.int .i64 (-1)) ∧ w = w' := by
  have hl := h.1
  go_enter Try.func38, Try.ntmps38
  go_wp2
  go_loop [8] (fun i => ∃ k : Nat, k ≤ l.length ∧ i = .int .i64 k) (fun i => l.length - (intOf i).toNat)
  case atStart => exact ⟨0, Nat.zero_le _, rfl⟩
  case round =>
    obtain ⟨k, hk, rfl⟩ := hrel
    by_cases hlt : k < l.length
    · obtain ⟨bb, off, x, rfl, hcell, HX⟩ := h.get hlt
      obtain rfl : true = x := by have := (all k hlt).symm.trans HX.out; simpa using this
      have i1 : (k : Int) < (l.length : Int) := by omega
      go_wp2
      go_round
      case rel => exact ⟨k + 1, by omega, by go_num⟩
      case measure => simp [intOf]; omega
    · go_wp2
      go_ret
      exact ⟨rfl, rfl⟩
/-- The first k of a row of n, and false behind. -/
def rowB (n k : Nat) (F : Nat → Bool) : List Bool := (List.range n).map (fun i => decide (i < k) && F i)
theorem rowB_length (n k : Nat) (F : Nat → Bool) : (rowB n k F).length = n := by simp [rowB]
theorem rowB_zero (n : Nat) (F : Nat → Bool) : ((rowB n 0 F).map Value.bool).toArray = madeCells #[Value.bool false] n := by
  have h := toList_madeCells_one (Value.bool false) n
  rw [← Array.toArray_toList (xs := madeCells #[Value.bool false] n), h]
  congr 1
  apply List.ext_getElem?
  intro i
  by_cases hi : i < n <;> simp [rowB, hi]
theorem rowB_all (n : Nat) (F : Nat → Bool) : rowB n n F = (List.range n).map F := by
  apply List.ext_getElem?
  intro i
  by_cases hi : i < n <;> simp [rowB, hi]
theorem rowB_set {n k : Nat} {F : Nat → Bool} (hk : k < n) (h : F k = true) : (((rowB n k F).map Value.bool).toArray).setIfInBounds k (.bool true) = ((rowB n (k + 1) F).map Value.bool).toArray := by
  have e : (rowB n k F).set k true = rowB n (k + 1) F := by
    apply List.ext_getElem?
    intro i
    rw [List.getElem?_set]
    by_cases c : k = i
    · subst c; simp [rowB, hk, h]
    · rw [if_neg c]
      by_cases hi : i < n
      · have q : decide (i < k + 1) = decide (i < k) := by simp; omega
        simp [rowB, hi, q]
      · simp [rowB, hi]
  rw [← e]; simp [List.map_set]
theorem rowB_skip {n k : Nat} {F : Nat → Bool} (h : F k = false) : rowB n (k + 1) F = rowB n k F := by
  apply List.ext_getElem?
  intro i
  by_cases hi : i < n
  · by_cases c : i = k
    · subst c; simp [rowB, hi, h]
    · have q : decide (i < k + 1) = decide (i < k) := by simp; omega
      simp [rowB, hi, q]
  · simp [rowB, hi]
theorem rowB_at {n k : Nat} {F : Nat → Bool} (hk : k < n) : (((rowB n k F).map Value.bool).toArray)[k]? = some (.bool false) := by simp [rowB, hk]
theorem bool_info : (Try.prog.info? 4).map (fun i => (i.zero, i.size, i.bytes)) = some (some (.bool false), 1, 1) := by kernel_rfl

end Go.Proofs.Ytjlkcjaofglpmaa
