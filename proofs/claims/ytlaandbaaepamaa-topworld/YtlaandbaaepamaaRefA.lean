
/-
  Walks: what the document's own functions answer: slices.Max, Fits, told, Zip.
-/
import Derived.Test.YtlaandbaaepamaaPointA
import Derived.Shelf.Abstract
import Derived.StillTailTactics
import Derived.Deep.RegionHeld3
import Derived.Deep.AppendLies
namespace Go.Proofs.Ytlaandbaaepamaa
set_option linter.all false
open Go.RowKit Go.Shelf

/-- The greatest of the values 0 to k. -/
def maxTo (l : List Int) : Nat → Int
  | 0 => gt l 0
  | k + 1 => max (maxTo l k) (gt l (k + 1))

theorem maxTo_iff (l : List Int) (k : Nat) (B : Int) : B < maxTo l k ↔ ∃ i, i ≤ k ∧ B < gt l i := by
  induction k with
  | zero =>
    refine ⟨fun h => ⟨0, Nat.le_refl _, h⟩, ?_⟩
    rintro ⟨i, hi, h⟩
    obtain rfl : i = 0 := by omega
    exact h
  | succ k ih =>
    constructor
    · intro h
      by_cases h' : B < gt l (k + 1)
      · exact ⟨k + 1, Nat.le_refl _, h'⟩
      · obtain ⟨i, hi, hb⟩ := ih.1 (by simp only [maxTo] at h; omega)
        exact ⟨i, by omega, hb⟩
    · rintro ⟨i, hi, h⟩
      simp only [maxTo]
      by_cases e : i = k + 1
      · subst e; omega
      · have := ih.2 ⟨i, by omega, h⟩; omega

theorem big_maxTo {l : List Int} (h : 0 < l.length) : 1000000 < maxTo l (l.length - 1) ↔ bigB l = true := by
  rw [maxTo_iff, bigB_iff]
  exact ⟨fun ⟨i, hi, h⟩ => ⟨i, by omega, h⟩, fun ⟨i, hi, h⟩ => ⟨i, by omega, h⟩⟩

set_option maxHeartbeats 400000 in
theorem slicesMax_any (A : Option Addr) (l : List Int) (c : Nat) (w : World) (h : Ints w A l) (hp : 0 < l.length) :
    Calls Try.prog 23 #[.slice A l.length c] w fun e w' => e = .returned (.int .i64 (maxTo l (l.length - 1))) ∧ w = w' := by
  have hl := h.1
  obtain ⟨bb, off, x, rfl, hcell, HX⟩ := h.at_ (k := 0) hp
  have e0 : ¬ (l.length : Int) < 1 := by omega
  have hp' : (0 : Int) < (l.length : Int) := by omega
  simp only [Nat.add_zero] at hcell
  go_enter Try.func23, Try.ntmps23
  go_wp2
  go_loop [3, 4] (fun m i => ∃ k : Nat, 1 ≤ k ∧ k ≤ l.length ∧ i = .int .i64 k ∧ m = .int .i64 (maxTo l (k - 1))) (fun _ i => l.length - (intOf i).toNat)
  case atStart => exact ⟨1, Nat.le_refl _, by omega, rfl, by simp [maxTo, gt_of_get HX.out]⟩
  case round =>
    obtain ⟨k, h1, hk, rfl, rfl⟩ := hrel
    by_cases hlt : k < l.length
    · obtain ⟨bb', off', y, e, hcell', HY⟩ := h.at_ hlt
      obtain ⟨rfl, rfl⟩ : bb' = bb ∧ off' = off := by injection e with e; injection e with e1 e2; exact ⟨e1.symm, e2.symm⟩
      clear e
      obtain ⟨M, hM⟩ : ∃ M, M = maxTo l (k - 1) := ⟨_, rfl⟩
      rw [← hM]
      have HM := Lib.hid hM
      have HS : Hid (maxTo l (k + 1 - 1) = max M y) := Lib.hid (by
        obtain ⟨j, rfl⟩ : ∃ j, k = j + 1 := ⟨k - 1, by omega⟩
        rw [hM]; simp only [Nat.add_sub_cancel, maxTo]; rw [gt_of_get HY.out])
      clear hM
      go_wp2
      all_goals
        go_round
        case rel => exact ⟨k + 1, by omega, by omega, by go_num, by rw [HS.out]; congr 1; omega⟩
        case measure => simp [intOf]; omega
    · obtain rfl : k = l.length := by omega
      go_wp2
      go_ret
      exact ⟨rfl, rfl⟩

/-- What a call leaves that hands back a list in new memory. -/
def AnsL (L : List Int) (w : World) (e : Ending) (w' : World) : Prop :=
  ∃ A c, e = .returned (.slice A L.length c) ∧ w'.ownsRow w.heap.size 3 1 (.slice A L.length c) L.length (L.map (Value.int .i64)) ∧ Below w.heap.size w w'

theorem AnsL.of {L : List Int} {w : World} {v : Value} {w' : World} (h : w'.ownsRow w.heap.size 3 1 v L.length (L.map (Value.int .i64))) (hb : Below w.heap.size w w') : AnsL L w (.returned v) w' := by
  rcases h.2 with ⟨rfl, h0⟩ | ⟨g, cap, cur, rfl, h1⟩
  · have : L = [] := List.eq_nil_of_length_eq_zero h0
    subst this
    exact ⟨none, 0, rfl, h, hb⟩
  · exact ⟨some ⟨g, 0, none⟩, cap, rfl, h, hb⟩

theorem own_of_blk {w : World} {g n B : Nat} {L : List Int} (hb : Blk w g 3 (L.map (Value.int .i64)).toArray) (hB : B ≤ g) (hn : n = L.length) (h61 : n ≤ 1000) :
    w.ownsRow B 3 1 (.slice (some ⟨g, 0, none⟩) n n) L.length (L.map (Value.int .i64)) := by
  subst hn
  exact ⟨by simp, .inr ⟨g, L.length, _, rfl, hB, hb, Nat.le_refl _, by unfold maxLen; omega, by simp, by simp [List.take_of_length_le]⟩⟩

end Go.Proofs.Ytlaandbaaepamaa
