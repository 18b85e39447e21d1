
/-
  What package window owes; the document's own sending times.
-/
import Derived.Test.YtmefekgbljhclaaWindowP
import Derived.Test.YtmefekgbljhclaaPointA
import Derived.Test.YtmefekgbljhclaaRefA
import Derived.OwnWalk
namespace Go.Proofs.Ytmefekgbljhclaa
set_option linter.all false
open Go.RowKit Go.Shelf Go.Lib

/-- The error of a window; when all is told. -/
def wnE (n w p : Int) : Int := if n < 0 ∨ 200 < n ∨ w < 1 ∨ 200 < w ∨ p < 1 ∨ 200 < p then 1 else 0
def dnV (w p n : Nat) : Nat := if n = 0 then 0 else sfV w p (n - 1) + p
structure WnOk (n w p : Nat) : Prop where
  n1 : n ≤ 200
  w0 : 1 ≤ w
  w1 : w ≤ 200
  p0 : 1 ≤ p
  p1 : p ≤ 200
theorem wn_of {n w p : Int} (h : wnE n w p = 0) : ∃ N W P : Nat, n = (N : Int) ∧ w = (W : Int) ∧ p = (P : Int) ∧ WnOk N W P := by
  unfold wnE at h
  by_cases c : n < 0 ∨ 200 < n ∨ w < 1 ∨ 200 < w ∨ p < 1 ∨ 200 < p
  · rw [if_pos c] at h; exact absurd h (by decide)
  · exact ⟨n.toNat, w.toNat, p.toNat, by omega, by omega, by omega, ⟨by omega, by omega, by omega, by omega, by omega⟩⟩
theorem wn_ok {n w p : Nat} (h : WnOk n w p) : wnE n w p = 0 := by
  have := h.n1; have := h.w0; have := h.w1; have := h.p0; have := h.p1
  unfold wnE; rw [if_neg (by omega)]
theorem sf_max {n w p i : Nat} (h : WnOk n w p) (hi : i < 200) : sfV w p i ≤ 40200 := by
  have h1 := h.w0; have h2 := h.p1; have h3 := h.p0
  unfold sfV
  split
  · omega
  · have a : i / w ≤ i := Nat.div_le_self _ _
    have b : i % w ≤ i := Nat.mod_le _ _
    have c : i / w * p ≤ i * 200 := Nat.mul_le_mul a h2
    omega
def swV (w p : Nat) (i : Nat) : Int := ((sfV w p i : Nat) : Int)
/-- What package window owes. -/
structure WinC : Prop where
  sent : ∀ (n w p : Nat) (W : World), WnOk n w p → Calls Try.prog 29 #[.int .i64 n, .int .i64 w, .int .i64 p] W fun e W' => ∃ (A : Option Addr) (c : Nat), e = .returned (.tuple #[.slice A n c, .int .i64 0]) ∧ W'.ownsRow W.heap.size 3 1 (.slice A n c) n ((tab n (swV w p)).map (Value.int .i64)) ∧ Below W.heap.size W W'
  sent_no : ∀ (n w p : Int) (W : World), ¬ wnE n w p = 0 → Calls Try.prog 29 #[.int .i64 n, .int .i64 w, .int .i64 p] W fun e W' => (∃ (A : Option Addr) (c : Nat), e = .returned (.tuple #[.slice A 0 c, .int .i64 1])) ∧ Below W.heap.size W W'
  done : ∀ (n w p : Nat) (W : World), WnOk n w p → Calls Try.prog 30 #[.int .i64 n, .int .i64 w, .int .i64 p] W fun e W' => e = .returned (.tuple #[.int .i64 (dnV w p n), .int .i64 0]) ∧ Below W.heap.size W W'
  done_no : ∀ (n w p : Int) (W : World), ¬ wnE n w p = 0 → Calls Try.prog 30 #[.int .i64 n, .int .i64 w, .int .i64 p] W fun e W' => e = .returned (.tuple #[.int .i64 0, .int .i64 1]) ∧ Below W.heap.size W W'
/-- Sent, read. -/
theorem WinC.sent' (E : WinC) (n w p : Nat) (W : World) (h : WnOk n w p) : Calls Try.prog 29 #[.int .i64 n, .int .i64 w, .int .i64 p] W fun e W' => ∃ (A : Option Addr) (c : Nat), e = .returned (.tuple #[.slice A n c, .int .i64 0]) ∧ Ints W' A (tab n (swV w p)) ∧ n ≤ c ∧ Below W.heap.size W W' := by
  refine (E.sent n w p W h).mono ?_
  rintro e W' ⟨A, c, he, o, b⟩
  refine ⟨A, c, he, Ints.of_own (by rw [length_tab]; exact o), ?_, b⟩
  rcases o.2 with ⟨_, h0⟩ | ⟨g, cap, cur, hv, _, _, hn, _⟩
  · omega
  · injection hv with _ _ e
    subst e
    exact hn

set_option maxHeartbeats 400000 in
theorem refSent_any (n w p i : Nat) (R : Int) (W : World) (h : WnOk n w p) (hi : i < 200) (HR : Hid (swV w p i = R)) : Calls Try.prog 31 #[.int .i64 i, .int .i64 w, .int .i64 p] W fun e W' => e = .returned (.int .i64 R) ∧ ∃ m, W' = W.drewN m := by
  have h1 := h.w0; have h2 := h.p1; have h3 := h.p0; have h4 := h.w1
  by_cases c : p ≤ w
  · have HQ : Hid ((i : Int) = R) := Lib.hid (by rw [← HR.out, swV, sfV, if_pos c])
    have i1 : (p : Int) ≤ (w : Int) := by omega
    clear HR
    go_enter Try.func31, Try.ntmps31
    go_wp2
    go_ret
    exact ⟨ret_int HQ.out, 0, rfl⟩
  · have HQ : Hid ((((i / w : Nat) : Int) * (p : Int) + ((i % w : Nat) : Int)) = R) := Lib.hid (by rw [← HR.out, swV, sfV, if_neg c]; simp)
    have i1 : ¬ (p : Int) ≤ (w : Int) := by omega
    obtain ⟨q, hq⟩ : ∃ q, q = i / w := ⟨_, rfl⟩
    obtain ⟨r, hr⟩ : ∃ r, r = i % w := ⟨_, rfl⟩
    have a : i / w ≤ i := Nat.div_le_self _ _
    have b : i % w ≤ i := Nat.mod_le _ _
    rw [← hq] at HQ a
    rw [← hr] at HQ b
    obtain ⟨X, hX⟩ : ∃ X, X = (q : Int) * (p : Int) := ⟨_, rfl⟩
    have Xb : 0 ≤ X ∧ X ≤ 40000 := by
      rw [hX]
      have x : (q : Int) * (p : Int) ≤ (q : Int) * 200 := Int.mul_le_mul_of_nonneg_left (by omega) (by omega)
      have y : 0 ≤ (q : Int) * (p : Int) := Int.mul_nonneg (by omega) (by omega)
      omega
    obtain ⟨X0, X1⟩ := Xb
    have m1 : Int.tdiv (i : Int) (w : Int) = (q : Int) := by rw [hq, Int.tdiv_eq_ediv_of_nonneg (by omega)]; simp
    have m2 : Int.tmod (i : Int) (w : Int) = (r : Int) := by rw [hr, Int.tmod_eq_emod_of_nonneg (by omega)]; simp
    have m3 : IntKind.i64.wrap (q : Int) = (q : Int) := IntWalk.i64_in _ ⟨by omega, by omega⟩
    have m4 : IntKind.i64.wrap (r : Int) = (r : Int) := IntWalk.i64_in _ ⟨by omega, by omega⟩
    have m5 : IntKind.i64.wrap ((q : Int) * (p : Int)) = X := by rw [← hX]; exact IntWalk.i64_in _ ⟨by omega, by omega⟩
    have m6 : IntKind.i64.wrap (X + (r : Int)) = X + r := IntWalk.i64_in _ ⟨by omega, by omega⟩
    rw [← hX] at HQ
    have z : ¬ (w : Int) = 0 := by omega
    have z2 : ¬ w = 0 := by omega
    clear HR hX hq hr c
    go_enter Try.func31, Try.ntmps31
    go_wp2
    go_quiet (fail)
    go_wp2
    go_ret
    exact ⟨ret_int HQ.out, nq, rfl⟩

end Go.Proofs.Ytmefekgbljhclaa
