
/-
  Walks: slices.Min, slices.Max of numbers between two bounds.
-/
import Derived.Test.YtlaandbaaepamaaRefA
namespace Go.Proofs.Ytlaandbaaepamaa
set_option linter.all false
open Go.RowKit Go.Shelf

/-- The least of the values 0 to k. -/
def minTo (l : List Int) : Nat → Int
  | 0 => gt l 0
  | k + 1 => min (minTo l k) (gt l (k + 1))
theorem minTo_ge {l : List Int} {B : Int} : ∀ k, (∀ i, i ≤ k → B ≤ gt l i) → B ≤ minTo l k
  | 0, h => h 0 (Nat.le_refl _)
  | k + 1, h => by have := minTo_ge k (fun i hi => h i (by omega)); have := h (k + 1) (Nat.le_refl _); simp only [minTo]; omega
theorem maxTo_leW {l : List Int} {B : Int} : ∀ k, (∀ i, i ≤ k → gt l i ≤ B) → maxTo l k ≤ B
  | 0, h => h 0 (Nat.le_refl _)
  | k + 1, h => by have := maxTo_leW k (fun i hi => h i (by omega)); have := h (k + 1) (Nat.le_refl _); simp only [maxTo]; omega
theorem min_max {l : List Int} : ∀ k, minTo l k ≤ gt l 0 ∧ gt l 0 ≤ maxTo l k
  | 0 => ⟨Int.le_refl _, Int.le_refl _⟩
  | k + 1 => by have := min_max (l := l) k; simp only [minTo, maxTo]; omega
set_option maxHeartbeats 400000 in
theorem slicesMin_any (A : Option Addr) (l : List Int) (c : Nat) (w : World) (h : Ints w A l) (hp : 0 < l.length) :
    Calls Try.prog 24 #[.slice A l.length c] w fun e w' => e = .returned (.int .i64 (minTo l (l.length - 1))) ∧ w = w' := by
  have hl := h.1
  obtain ⟨bb, off, x, rfl, hcell, HX⟩ := h.at_ (k := 0) hp
  have e0 : ¬ (l.length : Int) < 1 := by omega
  have hp' : (0 : Int) < (l.length : Int) := by omega
  simp only [Nat.add_zero] at hcell
  go_enter Try.func24, Try.ntmps24
  go_wp2
  go_loop [3, 4] (fun m i => ∃ k : Nat, 1 ≤ k ∧ k ≤ l.length ∧ i = .int .i64 k ∧ m = .int .i64 (minTo l (k - 1))) (fun _ i => l.length - (intOf i).toNat)
  case atStart => exact ⟨1, Nat.le_refl _, by omega, rfl, by simp [minTo, gt_of_get HX.out]⟩
  case round =>
    obtain ⟨k, h1, hk, rfl, rfl⟩ := hrel
    by_cases hlt : k < l.length
    · obtain ⟨bb', off', y, e, hcell', HY⟩ := h.at_ hlt
      obtain ⟨rfl, rfl⟩ : bb' = bb ∧ off' = off := by injection e with e; injection e with e1 e2; exact ⟨e1.symm, e2.symm⟩
      clear e
      obtain ⟨M, hM⟩ : ∃ M, M = minTo l (k - 1) := ⟨_, rfl⟩
      rw [← hM]
      have HM := Lib.hid hM
      have HS : Hid (minTo l (k + 1 - 1) = min M y) := Lib.hid (by
        obtain ⟨j, rfl⟩ : ∃ j, k = j + 1 := ⟨k - 1, by omega⟩
        rw [hM]; simp only [Nat.add_sub_cancel, minTo]; rw [gt_of_get HY.out])
      clear hM
      go_wp2
      all_goals
        go_round
        case rel => exact ⟨k + 1, by omega, by omega, by go_num, by rw [HS.out]; congr 1; omega⟩
        case measure => simp [intOf]; omega
    · obtain rfl : k = l.length := by omega
      go_wp2
      go_ret
      exact ⟨rfl, rfl⟩
theorem smin_smp (A : Option Addr) (l : List Int) (n c : Nat) (M : Int) (w : World) (hM : Hid (minTo l (l.length - 1) = M)) (h : Ints w A l) (hp : 0 < l.length) (hl : n = l.length) :
    Calls Try.prog 24 #[.slice A n c] w fun e w' => e = .returned (.int .i64 M) ∧ w = w' := by
  subst hl
  have q := slicesMin_any A l c w h hp
  rwa [hM.out] at q
theorem smax_smq (A : Option Addr) (l : List Int) (n c : Nat) (M : Int) (w : World) (hM : Hid (maxTo l (l.length - 1) = M)) (h : Ints w A l) (hp : 0 < l.length) (hl : n = l.length) :
    Calls Try.prog 23 #[.slice A n c] w fun e w' => e = .returned (.int .i64 M) ∧ w = w' := by
  subst hl
  have q := slicesMax_any A l c w h hp
  rwa [hM.out] at q

end Go.Proofs.Ytlaandbaaepamaa
