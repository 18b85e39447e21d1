
/-
  slices.Clone of whatever slice of integers, nil and empty ones too.
-/
import Derived.Test.YtjlkcjaofglpmaaLineA
import Derived.Test.YtjlkcjaofglpmaaConvB
namespace Go.Proofs.Ytjlkcjaofglpmaa
set_option linter.all false
open Go.RowKit Go.Shelf

set_option maxHeartbeats 400000 in
theorem clone_all (A : Option Addr) (l : List Int) (c : Nat) (w : World) (h : Ints w A l) (h61 : l.length ≤ 61) :
    Calls Try.prog 21 #[.slice A l.length c] w (AnsL l w) := by
  rcases Nat.eq_zero_or_pos l.length with h0 | hp
  · obtain rfl : l = [] := List.eq_nil_of_length_eq_zero h0
    clear h0 h
    obtain ⟨i0, hi0, hz0, hz1, hz2⟩ := info_parts int_info
    have q : ∀ (w : World) (a : Option Addr) (n c n' c' : Nat), (binOp .eql 22 (.slice a n c) (.slice none n' c')).run Try.prog w = .ok (.bool a.isNone) w := fun w a n c n' c' => Lib.run_eql_slice_nil w _ _ a n c n' c' Try.underlying22
    show Calls Try.prog 21 #[.slice A 0 c] w (AnsL [] w)
    cases A with
    | none =>
      go_enter Try.func21, Try.ntmps21
      go_wp2
      go_ret
      exact ⟨none, 0, rfl, World.ownsRow_nil _ _ _ _, Below.refl _ _⟩
    | some ad =>
      go_enter Try.func21, Try.ntmps21
      go_wp2_with (at_builtin; refine wpList_append_own _ rfl _ _ 22 rfl w.heap.size 3 i0 (.int .i64 0) 1 8 Try.underlying22 hi0 hz0 hz1 hz2 rfl (by decide) _ _ _ rfl (World.ownsRow_made w #[] 0 (Nat.le_refl _) (Nat.zero_le _) rfl) ad 0 c [] rfl ?qc1 ?qc2 ?qc3 ?qc4 ?qc5 ?qc6 ?_)
      case qc1 => simp
      case qc2 => intro j u hj; simp at hj
      case qc3 => intro u hu; simp at hu
      case qc4 => unfold maxLen; omega
      case qc5 => omega
      case qc6 => simp
      intro v' w1 hown hgrow hnil
      go_wp2
      go_ret
      exact AnsL.of (by simpa using hown) (((Below.refl _ w).alloc (Nat.le_refl _) _).grown hgrow (by simp) (by intro k hk; simp [Value.ownBlock] at hk; omega))
  · exact clone_any A l c w h hp h61

end Go.Proofs.Ytjlkcjaofglpmaa
