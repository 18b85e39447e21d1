
/-
  What the search for a rate hangs on: the blocks that its function value holds, and what is known of the rates.
-/
import Derived.Test.YtnjeelmlabefjaaCatC
namespace Go.Proofs.Ytnjeelmlabefjaa
set_option linter.all false
open Go.RowKit Go.Shelf Go.Lib

structure RtW (w : World) (b0 b1 b2 : Nat) (A : Option Addr) (l : List Int) (c : Nat) (g d : Int) : Prop where
  fl : Blk w b0 22 #[.slice A l.length c]
  fg : Blk w b1 3 #[.int .i64 g]
  fd : Blk w b2 3 #[.int .i64 d]
  is : Ints w A l
theorem RtW.below {w w' : World} {b0 b1 b2 : Nat} {A : Option Addr} {l : List Int} {c : Nat} {g d : Int} (h : RtW w b0 b1 b2 A l c g d) (b : Below w.heap.size w w') : RtW w' b0 b1 b2 A l c g d := ⟨h.fl.below b, h.fg.below b, h.fd.below b, h.is.below b⟩
def SaysB (P : Prop) (e : Ending) : Prop := ∃ s : Bool, (s = true ↔ P) ∧ e = .returned (.bool s)
def NoRt (l : List Int) (g : Int) (D : Nat) (x : Nat) : Prop := ∀ s : Int, 0 ≤ s → s < x → ¬ RateOk l g D s
def YesRt (l : List Int) (g : Int) (D : Nat) (y : Nat) : Prop := y = 10001 ∨ RateOk l g D y

end Go.Proofs.Ytnjeelmlabefjaa
