
/-
  The law WorldPlays: headlaw's at; the document's world in the law.
-/
import Derived.Test.YtlaandbaaepamaaWldR
namespace Go.Proofs.Ytlaandbaaepamaa
set_option linter.all false
open Go.RowKit Go.Shelf Go.Lib

/-- The i-th of a word, or nothing. -/
def atV (l : List Int) (i : Nat) : Int := if i < l.length then gt l i else 0
set_option maxHeartbeats 800000 in
theorem at_any (A : Option Addr) (l : List Int) (n c i : Nat) (v : Int) (w : World) (h : Ints w A l) (hn : n = l.length) (hi : i < 1000) (hv : Hid (atV l i = v)) :
    Calls Try.prog 12 #[.slice A n c, .int .i64 i] w fun e w' => e = .returned (.int .i64 v) ∧ w = w' := by
  subst hn
  have hl := h.1
  by_cases hlt : i < l.length
  · obtain ⟨b, o, x, rfl, hc, HX⟩ := h.at_ (k := i) hlt
    have HV : Hid (x = v) := Lib.hid (by rw [← hv.out, atV, if_pos hlt]; exact (gt_of_get HX.out).symm)
    have i1 : (i : Int) < (l.length : Int) := by omega
    clear HX hv
    go_enter Try.func12, Try.ntmps12
    go_wp2
    go_ret
    rw [HV.out]
    simp
  · have HV : Hid (v = 0) := Lib.hid (by rw [← hv.out, atV, if_neg hlt])
    have i1 : ¬ (i : Int) < (l.length : Int) := by omega
    clear hv
    go_enter Try.func12, Try.ntmps12
    go_wp2
    go_ret
    rw [HV.out]
    simp

end Go.Proofs.Ytlaandbaaepamaa
