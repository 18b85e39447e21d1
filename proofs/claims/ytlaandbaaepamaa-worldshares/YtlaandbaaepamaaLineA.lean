
/-
  Walks: line.Run, line.Busy.
-/
import Derived.Test.YtlaandbaaepamaaLineQ
import Derived.Test.YtlaandbaaepamaaBucketA
import Derived.Test.YtlaandbaaepamaaAptA
import Derived.Test.YtlaandbaaepamaaTraceA
import Derived.Deep.DeepCutAuto
namespace Go.Proofs.Ytlaandbaaepamaa
set_option linter.all false
open Go.RowKit Go.Shelf

/-- What Run answers: the error, and the two lists. -/
def linE (l : List Int) (r : Int) : Int := if trk l ≠ 0 then trk l else if r < 0 ∨ 10000 < r then 1 else 0
def linG (l : List Int) (r : Int) : List Int := if linE l r = 0 then goL l r else []
def linW (l : List Int) (r : Int) : List Int := if linE l r = 0 then waL l r else []
theorem lin_ok {l : List Int} {r : Int} (h : linE l r = 0) : Tr l ∧ 0 ≤ r ∧ r ≤ 10000 := by
  unfold linE at h
  by_cases h1 : trk l = 0
  · rw [if_neg (by simpa using h1)] at h
    by_cases h2 : r < 0 ∨ 10000 < r
    · rw [if_pos h2] at h; omega
    · exact ⟨trk_iff.1 h1, by omega, by omega⟩
  · rw [if_pos h1] at h; omega
theorem lin_of {l : List Int} {r : Int} (v : Tr l) (r0 : 0 ≤ r) (r1 : r ≤ 10000) : linE l r = 0 := by
  rw [linE, if_neg (by simpa using trk_iff.2 v), if_neg (by omega)]
theorem linG_yes {l : List Int} {r : Int} (h : linE l r = 0) : linG l r = goL l r := by rw [linG, if_pos h]
theorem linW_yes {l : List Int} {r : Int} (h : linE l r = 0) : linW l r = waL l r := by rw [linW, if_pos h]
theorem linG_no {l : List Int} {r : Int} (h : ¬ linE l r = 0) : linG l r = [] := by rw [linG, if_neg h]
theorem linW_no {l : List Int} {r : Int} (h : ¬ linE l r = 0) : linW l r = [] := by rw [linW, if_neg h]

theorem two_made (w : World) (t : TypeId) (cs : Array Value) : Blk ((w.alloc (.cells cs t)).alloc (.cells cs t)).drew w.heap.size t cs ∧ Blk ((w.alloc (.cells cs t)).alloc (.cells cs t)).drew (w.heap.size + 1) t cs ∧ Below w.heap.size w ((w.alloc (.cells cs t)).alloc (.cells cs t)).drew := by
  refine ⟨(Blk.new w t cs).alloc _, ?_, ?_⟩
  · have := Blk.new (w.alloc (.cells cs t)) t cs
    have e : (w.alloc (.cells cs t)).heap.size = w.heap.size + 1 := by simp
    rw [e] at this
    exact this
  · have := ((Below.refl w.heap.size w).alloc (Nat.le_refl _) (.cells cs t)).alloc (by simp) (.cells cs t)
    exact ⟨this.os, this.tape, this.output, this.size, this.block⟩

/-- What a call of Run leaves that fits: two lists of one length, and no error. -/
def AnsT (n : Nat) (x y : List Int) (w : World) (e : Ending) (w' : World) : Prop :=
  ∃ A c B d, e = .returned (.tuple #[.slice A n c, .slice B n d, .int .i64 0]) ∧ Ints w' A x ∧ Ints w' B y ∧ n ≤ c ∧ n ≤ d ∧ Below w.heap.size w w'
theorem own_cap' {w : World} {base n c size : Nat} {e : TypeId} {A : Option Addr} {xs : List Value} (h : w.ownsRow base e size (.slice A n c) n xs) : n ≤ c := by
  rcases h.2 with ⟨_, h0⟩ | ⟨g, cap, cur, hv, _, _, hn, _⟩
  · omega
  · injection hv with _ _ e
    subst e
    exact hn
end Go.Proofs.Ytlaandbaaepamaa
