
/-
  What package edf owes, at lists that are written out.
-/
import Derived.Test.YtccjegnflienhaaJobC
namespace Go.Proofs.Ytccjegnflienhaa
set_option linter.all false
open Go.RowKit Go.Shelf Go.Lib

theorem none_of {l : List Jb} (h : ∀ i, i < l.length → edL l ((jb l i).due).toNat i = 0) : ∀ i, ¬ IsLate l i := fun i hi => hi.2.1 (h i hi.1)
theorem late_none (E : EdfC) (A : Option Addr) (l : List Jb) (n c : Nat) (w : World) (h : Jbs w A l) (hE : jbsE l = 0) (hn : ∀ i, ¬ IsLate l i) (hl : n = l.length) :
    Calls Try.prog 27 #[.slice A n c] w fun e w' => e = .returned (.tuple #[.int .i64 0, .int .i64 5]) ∧ Below w.heap.size w w' := by
  subst hl
  refine (E.late A l c w h hE).mono ?_
  rintro e w' ⟨⟨i, hi, _⟩ | ⟨_, e⟩, b⟩
  · exact absurd hi (hn i)
  · exact ⟨e, b⟩
theorem late_at (E : EdfC) (A : Option Addr) (l : List Jb) (n c i : Nat) (w : World) (h : Jbs w A l) (hE : jbsE l = 0) (hi : IsLate l i) (hl : n = l.length) :
    Calls Try.prog 27 #[.slice A n c] w fun e w' => e = .returned (.tuple #[.int .i64 i, .int .i64 0]) ∧ Below w.heap.size w w' := by
  subst hl
  refine (E.late A l c w h hE).mono ?_
  rintro e w' ⟨⟨k, hk, e⟩ | ⟨hn, _⟩, b⟩
  · obtain rfl := hk.uniq hi
    exact ⟨e, b⟩
  · exact absurd hi (hn i)
theorem fits_at (E : EdfC) (A : Option Addr) (l : List Jb) (s : Bool) (n c : Nat) (w : World) (h : Jbs w A l) (hE : jbsE l = 0) (hs : Hid (demB l = s)) (hl : n = l.length) :
    Calls Try.prog 26 #[.slice A n c] w fun e w' => e = .returned (.tuple #[.bool s, .int .i64 0]) ∧ Below w.heap.size w w' := by
  subst hl
  have := E.fits A l c w h hE
  rwa [hs.out] at this
theorem demB_of {l : List Jb} (hE : jbsE l = 0) (h : ∀ i, i < l.length → edL l ((jb l i).due).toNat i = 0) : demB l = true := demB_true ((none_late (jbs_iff.1 hE).toJobs).mp (none_of h))
theorem demB_not {l : List Jb} (s t : Int) (hst : s ≤ t) (h : ¬ demV l s t ≤ t - s) : demB l = false := demB_false (fun d => h (d s t hst))

abbrev jl1 : List Jb := [⟨0, 1, 1⟩, ⟨0, 1, 2⟩]
abbrev jl2 : List Jb := [⟨0, 1, 1⟩, ⟨0, 1, 1⟩]
abbrev jl3 : List Jb := [⟨0, 1, 1⟩]
theorem jl1_none : ∀ i, ¬ IsLate jl1 i := none_of (by decide)
theorem jl2_late : IsLate jl2 1 := ⟨by decide, by decide, by decide⟩
theorem jl3_fit : demB jl3 = true := demB_of (by decide) (by decide)
end Go.Proofs.Ytccjegnflienhaa
