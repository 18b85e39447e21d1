
/-
  What fair.Run hands back, whatever it was handed.
-/
import Derived.Test.YtamkadffencpgaaOwnR
import Derived.Test.YtamkadffencpgaaFairC
namespace Go.Proofs.Ytamkadffencpgaa
set_option linter.all false
open Go.RowKit Go.Shelf Go.Lib

theorem fair_own (A B : Option Addr) (l : List Int) (m : List Pk) (nl nm c d : Nat) (w : World) (h : Ints w A l) (h' : Pks w B m) (hl : nl = l.length) (hm : nm = m.length) :
    Calls Try.prog 8 #[.slice A nl c, .slice B nm d] w (AnsO 3 1 ics w) := by
  by_cases hE : fwE l m = 0
  · refine (frun_fair A B l m nl nm c d w h h' (Lib.hid hE) hl hm).mono ?_
    rintro e w' ⟨x, C, k, hx, rfl, o, b⟩
    have := (qu_of (fwE_ok hE).2).le
    have e1 := hx.1
    refine ⟨C, k, 0, nts x, by rw [length_nts], ?_, by rw [length_nts]; omega, b⟩
    rw [length_nts]; exact o
  · refine (frun_fair_no A B l m nl nm c d w h h' hE hl hm).mono ?_
    rintro e w' ⟨rfl, b⟩
    exact ⟨none, 0, fwE l m, [], rfl, World.ownsRow_nil _ _ _ _, by simp, b⟩

end Go.Proofs.Ytamkadffencpgaa
