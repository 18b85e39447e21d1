
/-
  Walks: the law's own weights; runs over a few packets; eight numbers in a block.
-/
import Derived.Test.YtamkadffencpgaaFairC
import Derived.Test.YtamkadffencpgaaBucketE
namespace Go.Proofs.Ytamkadffencpgaa
set_option linter.all false
open Go.RowKit Go.Shelf Go.Lib

abbrev ones : List Int := [1, 1, 1, 1, 1, 1, 1, 1]
theorem weights_any (w : World) : Calls Try.prog 13 #[] w fun e w' => ∃ A, e = .returned (.slice A 8 8) ∧ Ints w' A ones ∧ Below w.heap.size w w' := by
  go_enter Try.func13, Try.ntmps13
  go_wp2
  go_ret
  exact ⟨_, rfl, Ints.lit _ ones _ _ rfl (by decide), (Below.refl _ _).alloc (Nat.le_refl _) _⟩
theorem frun_lit (A B : Option Addr) (l : List Pk) (y : List Nat) (nm m c d : Nat) (w : World) (h : Ints w A ones) (h' : Pks w B l) (hE : fwE ones l = 0) (z : ∀ i, i < l.length → (pk l i).at_ ≤ 0) (hy : MinAt l ones y) (dy : y.Nodup) (ly : y.length = l.length) (hb : ∀ i, i ∈ y → i < l.length) (hn : nm = l.length) (hm : m = y.length) :
    Calls Try.prog 8 #[.slice A 8 c, .slice B nm d] w fun e w' => ∃ C k, e = .returned (.tuple #[.slice C m k, .int .i64 0]) ∧ Ints w' C (nts y) ∧ Below w.heap.size w w' := by
  refine (frun_fair A B ones l 8 nm c d w h h' (Lib.hid hE) rfl hn).mono ?_
  rintro e w' ⟨x, C, k, hx, rfl, o, b⟩
  obtain ⟨hv, hp⟩ := fwE_ok hE
  obtain rfl : x = y := fair_zero_is (qu_of hp) hv z hx hy dy ly hb
  rw [← length_nts x] at o
  exact ⟨C, k, by rw [hm], Ints.of_own o, b⟩

/-- Eight numbers. -/
def eit (en : Nat → Int) : Array Value := #[.int .i64 (en 0), .int .i64 (en 1), .int .i64 (en 2), .int .i64 (en 3), .int .i64 (en 4), .int .i64 (en 5), .int .i64 (en 6), .int .i64 (en 7)]
theorem eit_get (en : Nat → Int) {f : Nat} (h : f < 8) : (eit en)[f]? = some (.int .i64 (en f)) := by
  have : f = 0 ∨ f = 1 ∨ f = 2 ∨ f = 3 ∨ f = 4 ∨ f = 5 ∨ f = 6 ∨ f = 7 := by omega
  rcases this with e | e | e | e | e | e | e | e <;> subst e <;> rfl
theorem eit_set (en : Nat → Int) (x : Int) {f : Nat} (h : f < 8) : (eit en).setIfInBounds f (.int .i64 x) = eit (fup en f x) := by
  have : f = 0 ∨ f = 1 ∨ f = 2 ∨ f = 3 ∨ f = 4 ∨ f = 5 ∨ f = 6 ∨ f = 7 := by omega
  rcases this with e | e | e | e | e | e | e | e <;> subst e <;> rfl
theorem eit_put {w : World} {g : Nat} {t : TypeId} {en : Nat → Int} (h : Blk w g t (eit en)) {f : Nat} (hf : f < 8) (x : Int) : Blk (w.setCell ⟨g, f, none⟩ (.int .i64 x)) g t (eit (fup en f x)) := by
  have := h.set_ f (.int .i64 x)
  rwa [eit_set _ _ hf] at this
theorem eit_cell {w : World} {g : Nat} {t : TypeId} {en : Nat → Int} (h : Blk w g t (eit en)) {f : Nat} (hf : f < 8) : w.cell? ⟨g, f, none⟩ = some (.int .i64 (en f)) := by rw [h.cell, eit_get _ hf]
theorem pk_flow {l : List Pk} (q : Qu l) {i : Nat} (hi : i < l.length) {p : Pk} (hp : pk l i = p) : p.flow = ((fl l i : Nat) : Int) := by
  have := (q.ok i hi).f0
  rw [← hp]; unfold fl; omega

theorem nts_at {x : List Nat} {k : Nat} {y : Int} (h : (nts x)[k]? = some y) : k < x.length ∧ y = (nth x k : Nat) := by
  simp only [nts, List.getElem?_map, Option.map_eq_some_iff] at h
  obtain ⟨i, hi, rfl⟩ := h
  exact ⟨(List.getElem?_eq_some_iff.1 hi).1, by simp [nth, List.getD, hi]⟩

end Go.Proofs.Ytamkadffencpgaa
