
/-
  The walk of slices.Equal over sent packets that are the same.
-/
import Derived.Test.YtamkadffencpgaaSentA
namespace Go.Proofs.Ytamkadffencpgaa
set_option linter.all false
open Go.RowKit Go.Shelf

set_option maxHeartbeats 800000 in
theorem sentSame (A B : Option Addr) (l : List Snd) (n m c d : Nat) (w : World) (h : Sns w A l) (h' : Sns w B l) (hn : n = l.length) (hm : m = l.length) :
    Calls Try.prog 32 #[.slice A n c, .slice B m d] w fun e w' => e = .returned (.bool true) ∧ ∃ n, w' = w.drewN n := by
  subst hn hm
  have hl := h.1
  go_enter Try.func32, Try.ntmps32
  go_wp2
  go_loopw [13] (fun i wr => ∃ k nd : Nat, k ≤ l.length ∧ i = .int .i64 k ∧ wr = w.drewN nd) (fun i _ => l.length - (intOf i).toNat)
  case atStart => exact ⟨0, 0, Nat.zero_le _, rfl, rfl⟩
  case round =>
    obtain ⟨k, nd, hk, rfl, rfl⟩ := hrel
    by_cases hlt : k < l.length
    · obtain ⟨b1, o1, s, hA, _, c0, c1, HS⟩ := h.get hlt
      obtain ⟨b2, o2, s', hB, _, d0, d1, HS'⟩ := h'.get hlt
      subst hA hB
      obtain rfl : s' = s := Option.some.inj (HS'.out.symm.trans HS.out)
      have i1 : (k : Int) < (l.length : Int) := by omega
      go_wp2
      go_quiet (fail)
      go_wp2
      go_roundw
      case rel => exact ⟨k + 1, nd + nq, by omega, by go_num, by simp [World.drewN, Nat.add_assoc]⟩
      case measure => simp [intOf]; omega
    · go_wp2
      go_ret
      exact ⟨rfl, nd, rfl⟩

end Go.Proofs.Ytamkadffencpgaa
