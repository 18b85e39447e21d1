
/-
  Walk: slices.Index of 0.
-/
import Derived.Test.YtnjeelmlabefjaaCatC
namespace Go.Proofs.Ytnjeelmlabefjaa
set_option linter.all false
open Go.RowKit Go.Shelf Go.Lib

/-- The first place of 0. -/
def ixIs (l : List Int) (R : Int) : Prop := (∃ d : Nat, d < l.length ∧ gt l d = 0 ∧ (∀ s, s < d → gt l s ≠ 0) ∧ R = d) ∨ ((∀ s, s < l.length → gt l s ≠ 0) ∧ R = -1)
def NoIx (l : List Int) (k : Nat) : Prop := ∀ s, s < k → gt l s ≠ 0
theorem NoIx.next {l : List Int} {k : Nat} (h : NoIx l k) (h' : gt l k ≠ 0) : NoIx l (k + 1) := fun s hs => by
  by_cases e : s = k
  · rw [e]; exact h'
  · exact h s (by omega)
set_option maxHeartbeats 400000 in
theorem zindex_any (A : Option Addr) (l : List Int) (n c : Nat) (w : World) (h : Ints w A l) (hn : n = l.length) :
    Calls Try.prog 20 #[.slice A n c, .int .i64 0] w fun e w' => (∃ R, ixIs l R ∧ e = .returned (.int .i64 R)) ∧ w = w' := by
  subst hn
  have hl := h.1
  go_enter Try.func20, Try.ntmps20
  go_wp2
  go_loop [8] (fun i => ∃ k : Nat, k ≤ l.length ∧ Hid (NoIx l k) ∧ i = .int .i64 k) (fun i => l.length - (intOf i).toNat)
  case atStart => exact ⟨0, Nat.zero_le _, Lib.hid (fun s hs => by omega), rfl⟩
  case round =>
    obtain ⟨k, hk, HK, rfl⟩ := hrel
    by_cases hlt : k < l.length
    · obtain ⟨bb, off, x, rfl, hcell, HX⟩ := h.at_ hlt
      have hx := gt_of_get HX.out
      have i1 : (k : Int) < (l.length : Int) := by omega
      by_cases q : x = 0
      · subst q
        have HN : Hid (ixIs l (k : Int)) := Lib.hid (.inl ⟨k, hlt, hx, HK.out, rfl⟩)
        clear hx
        go_wp2
        go_ret
        exact ⟨⟨_, HN.out, rfl⟩, rfl⟩
      · have HN := Lib.hid (HK.out.next (by rw [hx]; exact q))
        have e0 : (x == 0) = false := by rw [beq_eq_false_iff_ne]; exact q
        clear hx
        go_wp2
        go_round
        case rel => exact ⟨k + 1, by omega, HN, by go_num⟩
        case measure => simp [intOf]; omega
    · obtain rfl : k = l.length := by omega
      go_wp2
      go_ret
      exact ⟨⟨-1, .inr ⟨HK.out, rfl⟩, rfl⟩, rfl⟩

end Go.Proofs.Ytnjeelmlabefjaa
