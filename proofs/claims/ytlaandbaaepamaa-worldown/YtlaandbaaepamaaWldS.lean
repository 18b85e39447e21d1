
/-
  Two lists of peers compared.
-/
import Derived.Test.YtlaandbaaepamaaWldA
import Derived.Laws.StructEq
import Derived.Deep.QuietTactic
namespace Go.Proofs.Ytlaandbaaepamaa
set_option linter.all false
open Go.RowKit Go.Shelf Go.Lib

theorem peT : Try.prog.underlying 34 = some (.struct (Try.prog.fieldsOf 34)) := by kernel_rfl
theorem peH : Try.prog.stoodInHeld 34 = false := by kernel_rfl
theorem peAlike (a b : Int) (c : Bool) (w : World) : (Op.equalIn 10000 34 (.agg #[.int .i64 a, .int .i64 b, .bool c]) (.agg #[.int .i64 a, .int .i64 b, .bool c])).run Try.prog w = .ok true w := by
  rw [show (10000 : Nat) = 9998 + 1 + 1 from rfl, run_equalIn_struct _ _ _ _ _ peT peH]
  simp only [Program.fieldsOf, Try.underlying34, Op.eqFields]
  simp [go_sem, Op.eqFields, part, run_equalIn_int _ _ _ _ _ _ _ Try.underlying3, run_equalIn_bool _ _ _ _ _ Try.underlying4]

set_option maxHeartbeats 800000 in
theorem peSame (A B : Option Addr) (l : List Per) (n m c d : Nat) (w : World) (h : Prs w A l) (h' : Prs w B l) (hn : n = l.length) (hm : m = l.length) :
    Calls Try.prog 18 #[.slice A n c, .slice B m d] w fun e w' => e = .returned (.bool true) ∧ ∃ n, w' = w.drewN n := by
  subst hn hm
  have hl := h.1
  go_enter Try.func18, Try.ntmps18
  go_wp2
  go_loopw [13] (fun i wr => ∃ k nd : Nat, k ≤ l.length ∧ i = .int .i64 k ∧ wr = w.drewN nd) (fun i _ => l.length - (intOf i).toNat)
  case atStart => exact ⟨0, 0, Nat.zero_le _, rfl, rfl⟩
  case round =>
    obtain ⟨k, nd, hk, rfl, rfl⟩ := hrel
    by_cases hlt : k < l.length
    · obtain ⟨b1, o1, hA, _, c0, c1, c2⟩ := h.get hlt
      obtain ⟨b2, o2, hB, _, d0, d1, d2⟩ := h'.get hlt
      subst hA hB
      obtain ⟨x, hx⟩ : ∃ x, x = (pr l k).lag := ⟨_, rfl⟩
      obtain ⟨y, hy⟩ : ∃ y, y = (pr l k).part := ⟨_, rfl⟩
      obtain ⟨z, hz⟩ : ∃ z, z = (pr l k).done := ⟨_, rfl⟩
      rw [← hx] at c0 d0
      rw [← hy] at c1 d1
      rw [← hz] at c2 d2
      have i1 : (k : Int) < (l.length : Int) := by omega
      have hq := peAlike x y z
      clear hx hy hz
      go_wp2
      go_quiet (fail)
      go_wp2
      go_roundw
      case rel => exact ⟨k + 1, nd + nq, by omega, by go_num, by simp [World.drewN, Nat.add_assoc]⟩
      case measure => simp [intOf]; omega
    · go_wp2
      go_ret
      exact ⟨rfl, nd, rfl⟩

end Go.Proofs.Ytlaandbaaepamaa
