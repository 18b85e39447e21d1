
/-
  Walks: parts.best, parts.Two, parts.Any, parts.Limit, over whatever function value keeps to its contract.
-/
import Derived.Test.YtoapgdandpcboaaConvP
import Derived.Test.YtoapgdandpcboaaCloP
import Derived.Test.YtoapgdandpcboaaRefA
import Derived.Test.YtoapgdandpcboaaPointA
import Derived.StillTailTactics
namespace Go.Proofs.Ytoapgdandpcboaa
set_option linter.all false
open Go.RowKit Go.Shelf

/-- Values from 0 to 10^8. -/
structure Bd (l : List Int) : Prop where
  lo : ∀ i, i < l.length → 0 ≤ gt l i
  hi : ∀ i, i < l.length → gt l i ≤ 100000000
theorem Nd.bd {l : List Int} {B : Int} (h : Nd B l) (hB : B ≤ 100000000) : Bd l := ⟨h.lo, fun i hi => Int.le_trans (h.hi i hi) hB⟩

theorem Ints.drop {w : World} {b off : Nat} {l : List Int} (h : Ints w (some ⟨b, off, none⟩) l) (t : Nat) : Ints w (some ⟨b, off + t, none⟩) (l.drop t) := by
  refine ⟨by have := h.1; simp; omega, fun hl => ?_⟩
  simp at hl
  obtain ⟨b', off', e, hc⟩ := h.2 (by omega)
  obtain ⟨rfl, rfl⟩ : b' = b ∧ off' = off := by injection e with e; injection e with e1 e2; exact ⟨e1.symm, e2.symm⟩
  refine ⟨b', off' + t, rfl, fun j hj => ?_⟩
  simp at hj
  have := hc (t + j) (by omega)
  rw [Nat.add_assoc, this]
  simp [List.getD]
theorem gt_drop (l : List Int) (t u : Nat) : gt (l.drop t) u = gt l (t + u) := by simp [gt, List.getD]
theorem Bd.drop {l : List Int} (h : Bd l) (t : Nat) : Bd (l.drop t) :=
  ⟨fun i hi => by simp at hi; rw [gt_drop]; exact h.lo _ (by omega), fun i hi => by simp at hi; rw [gt_drop]; exact h.hi _ (by omega)⟩

theorem Ints.of_blk {w : World} {g : Nat} {L : List Int} (h : Blk w g 3 (L.map (Value.int .i64)).toArray) (hl : L.length ≤ 1000) : Ints w (some ⟨g, 0, none⟩) L :=
  ⟨by omega, fun _ => ⟨g, 0, rfl, fun j hj => by rw [h.cell]; simp [List.getD, List.getElem?_eq_getElem hj]⟩⟩
/-- A function value 'func(a, b int) int' that answers b of the two, and leaves the world alone. -/
structure Bet (k : FuncId) (b : Int → Int → Int) : Prop where
  ent : ∀ args w, (callFunc k args).run Try.prog w = .ok (.enter k args) w
  call : ∀ (x y : Int) (w : World), Calls Try.prog k #[.int .i64 x, .int .i64 y] w fun e w' => e = .returned (.int .i64 (b x y)) ∧ w = w'

/-- The row behind k rounds, as numbers. -/
def rowI (n k : Nat) (F : Nat → Int) : List Int := tab k F ++ List.replicate (n - k) 0
theorem rowI_map (n k : Nat) (F : Nat → Int) : rowAt n k F = (rowI n k F).map (Value.int .i64) := by simp [rowAt, rowI]
theorem rowI_length {n k : Nat} (F : Nat → Int) (h : k ≤ n) : (rowI n k F).length = n := by simp [rowI, length_tab]; omega
theorem rowI_gt {n k i : Nat} (F : Nat → Int) (h : i < k) : gt (rowI n k F) i = F i := by
  unfold rowI; rw [gt_left (by rwa [length_tab]), gt_tab F h]
theorem rowI_zero {n k i : Nat} (F : Nat → Int) (h : k ≤ i) : gt (rowI n k F) i = 0 := by
  unfold rowI gt List.getD
  rw [List.getElem?_append_right (by rwa [length_tab]), List.getElem?_replicate]
  split <;> rfl
theorem rowI_one {n : Nat} {F : Nat → Int} (h : 0 < n) (h0 : F 0 = 0) : (rowAt n 1 F).toArray = madeCells #[Value.int .i64 0] n := by
  rw [← rowAt_zero n F, ← rowAt_succ F h, h0]
  obtain ⟨j, rfl⟩ : ∃ j, n = j + 1 := ⟨n - 1, by omega⟩
  apply Array.ext'
  simp [rowAt, tab_zero, List.replicate_succ]

theorem last_cell {w : World} {A : Option Addr} {l : List Int} (h : Ints w A l) (hp : 0 < l.length) : ∃ b off x, A = some ⟨b, off, none⟩ ∧ w.cell? ⟨b, off + (l.length - 1), none⟩ = some (.int .i64 x) ∧ Hid (gt l (l.length - 1) = x) := by
  obtain ⟨b, off, x, e, hc, HX⟩ := h.at_ (k := l.length - 1) (by omega)
  exact ⟨b, off, x, e, hc, Lib.hid (gt_of_get HX.out)⟩

end Go.Proofs.Ytoapgdandpcboaa
