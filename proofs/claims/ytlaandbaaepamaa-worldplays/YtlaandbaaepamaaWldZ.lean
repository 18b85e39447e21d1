
/-
  The walk of the law WorldPlays over what package world owes.
-/
import Derived.Test.YtlaandbaaepamaaWldY
import Derived.Deep.RegionHeld3
namespace Go.Proofs.Ytlaandbaaepamaa
set_option linter.all false
open Go.RowKit Go.Shelf Go.Lib

variable {Rep : World → Value → (Nat → Prop) → WSt → Prop}
set_option maxRecDepth 100000 in
set_option maxHeartbeats 3200000 in
theorem plays_no (K : WldC Rep) (n1 n2 n3 : Int) (a3 : Option Addr) (c3 : Nat) (l3 : List Lw) (w : World) (hno : ¬ NewOk n1 n2 n3) :
    Calls Try.prog 3 #[.int .i64 n1, .int .i64 n2, .int .i64 n3, .slice a3 l3.length c3] w fun e w' => e = .returned (.bool true) ∧ Below w.heap.size w w' := by
  · have hn := Lib.hid hno
    have hx : n1 < 1 ∨ 8 < n1 ∨ n2 < 0 ∨ 1000 < n2 ∨ n3 < 1 ∨ 1000 < n3 := by
      by_cases c : n1 < 1 ∨ 8 < n1 ∨ n2 < 0 ∨ 1000 < n2 ∨ n3 < 1 ∨ 1000 < n3
      · exact c
      · exact absurd ⟨by omega, by omega, by omega, by omega, by omega, by omega⟩ hno
    clear hno
    by_cases c1 : n1 < 1
    · go_enter Try.func3, Try.ntmps3
      go_wp2_with fail
      refine (K.new_no n1 n2 n3 w hn.out).mono ?_
      rintro e w1 ⟨rfl, b1⟩
      go_wp2
      go_ret
      exact ⟨rfl, b1⟩
    by_cases c2 : 8 < n1
    · go_enter Try.func3, Try.ntmps3
      go_wp2_with fail
      refine (K.new_no n1 n2 n3 w hn.out).mono ?_
      rintro e w1 ⟨rfl, b1⟩
      go_wp2
      go_ret
      exact ⟨rfl, b1⟩
    by_cases c3 : n2 < 0
    · go_enter Try.func3, Try.ntmps3
      go_wp2_with fail
      refine (K.new_no n1 n2 n3 w hn.out).mono ?_
      rintro e w1 ⟨rfl, b1⟩
      go_wp2
      go_ret
      exact ⟨rfl, b1⟩
    by_cases c4 : 1000 < n2
    · go_enter Try.func3, Try.ntmps3
      go_wp2_with fail
      refine (K.new_no n1 n2 n3 w hn.out).mono ?_
      rintro e w1 ⟨rfl, b1⟩
      go_wp2
      go_ret
      exact ⟨rfl, b1⟩
    by_cases c5 : n3 < 1
    · go_enter Try.func3, Try.ntmps3
      go_wp2_with fail
      refine (K.new_no n1 n2 n3 w hn.out).mono ?_
      rintro e w1 ⟨rfl, b1⟩
      go_wp2
      go_ret
      exact ⟨rfl, b1⟩
    have c6 : 1000 < n3 := by omega
    clear hx
    go_enter Try.func3, Try.ntmps3
    go_wp2_with fail
    refine (K.new_no n1 n2 n3 w hn.out).mono ?_
    rintro e w1 ⟨rfl, b1⟩
    go_wp2
    go_ret
    exact ⟨rfl, b1⟩
/-- Both as they begin. -/
theorem Play.start (K : WldC Rep) {N : Nat} {r u : Int} {w w1 w2 : World} {p : Value} {S : Nat → Prop} {g h : Nat} (hR : Rep w1 p S (newW N r u)) (hS : ∀ b, S b → w.heap.size ≤ b) (b1 : Below w.heap.size w w1) (hRf : RefAt w2 g h (newW N r u)) (lg : w1.heap.size ≤ g) (lh : w1.heap.size ≤ h) (lg2 : g < w2.heap.size) (lh2 : h < w2.heap.size) (b2 : Below w1.heap.size w1 w2) : Play Rep w w2 p g h (newW N r u) (newW N r u) := by
  have hl1 := K.lt _ _ _ _ hR
  have hs := b1.size
  exact ⟨⟨⟨S, K.keep _ _ _ _ _ hR (fun i hi => b2.block i (hl1 i hi)), hS, fun i hi e => by
    have := hl1 i hi
    rcases e with e | e <;> omega⟩, below_trans b1 b2, fun i e => by rcases e with e | e <;> omega, fun _ _ => rfl⟩, hRf, by omega, by omega⟩

end Go.Proofs.Ytlaandbaaepamaa
