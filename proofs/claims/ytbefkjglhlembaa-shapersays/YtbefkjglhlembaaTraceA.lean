
/-
  Walks: trace.Check, Sum, Slots; the document's own check and sum.
-/
import Derived.Test.YtbefkjglhlembaaTraceP
import Derived.Laws.AppendOwn
namespace Go.Proofs.Ytbefkjglhlembaa
set_option linter.all false
open Go.RowKit Go.Shelf

theorem trkGo_hd {l : List Int} {k : Nat} {x c : Int} (h : trk l = trkGo (l.drop k)) (hx : l[k]? = some x) (hc : c = if x < 0 then 1 else if 10000 < x then 1 else trkGo (l.drop (k + 1))) : trk l = c := by
  rw [h, drop_of_get hx, hc, trkGo]

/-- What Sum hands back. -/
def trL (l : List Int) : List Int := if trk l = 0 then adL l else []
theorem trL_yes {l : List Int} (h : Tr l) : trL l = adL l := by rw [trL, if_pos (trk_iff.2 h)]
theorem trL_no {l : List Int} (h : ¬ trk l = 0) : trL l = [] := by rw [trL, if_neg h]

/-- A function value 'func(int) bool' that answers p of a number, the world as it was. -/
structure Pr (k : FuncId) (p : Int → Bool) : Prop where
  ent : ∀ args w, (callFunc k args).run Try.prog w = .ok (.enter k args) w
  call : ∀ (x : Int) (w : World), Calls Try.prog k #[.int .i64 x] w fun e w' => e = .returned (.bool (p x)) ∧ w = w'

theorem any_step {p : Int → Bool} {l : List Int} {k : Nat} {x : Int} {r : Bool} (h : l.any p = (l.drop k).any p) (hx : l[k]? = some x) (hr : r = (p x || (l.drop (k + 1)).any p)) : l.any p = r := by
  rw [h, drop_of_get hx, List.any_cons, hr]
/-- A place, or -1. -/
def IdxOf (b : Bool) (e : Ending) : Prop := ∃ i : Int, e = .returned (.int .i64 i) ∧ decide (0 ≤ i) = b

set_option maxHeartbeats 400000 in
theorem refWithin_any (n lo hi : Int) (w : World) : Calls Try.prog 41 #[.int .i64 n, .int .i64 lo, .int .i64 hi] w fun e w' => e = .returned (.bool (decide (lo ≤ n) && decide (n ≤ hi))) ∧ w = w' := by
  by_cases h1 : lo ≤ n
  · have e1 : decide (lo ≤ n) = true := decide_eq_true h1
    by_cases h2 : n ≤ hi
    · have e2 : decide (n ≤ hi) = true := decide_eq_true h2
      go_enter Try.func41, Try.ntmps41
      go_wp2
      go_ret
      exact ⟨by simp [h1, h2], rfl⟩
    · have e2 : decide (n ≤ hi) = false := decide_eq_false h2
      go_enter Try.func41, Try.ntmps41
      go_wp2
      go_ret
      exact ⟨by simp [h1, h2], rfl⟩
  · have e1 : decide (lo ≤ n) = false := decide_eq_false h1
    go_enter Try.func41, Try.ntmps41
    go_wp2
    go_ret
    exact ⟨by simp [h1], rfl⟩

def outP (x : Int) : Bool := decide (x < 0 ∨ 10000 < x)
end Go.Proofs.Ytbefkjglhlembaa
