
/-
  Contracts of package inverse for the keeps: a literal handed in; order of the inverses.
-/
import Derived.Test.YtgckndchndiffaaInvA
namespace Go.Proofs.Ytgckndchndiffaa
set_option linter.all false
open Go.RowKit

theorem lower_lit (A : Option Addr) (l : List Int) (n c : Nat) (y : Int) (a : Nat) (w : World) (h : Ints w A l) (v : chk l = 0) (h0 : 0 ≤ y) (h1 : y ≤ 1000000) (ha : IsFst l y a) (hn : n = l.length) :
    Calls Try.prog 12 #[.slice A n c, .int .i64 y] w fun e w' => e = .returned (.tuple #[.int .i64 a, .int .i64 0]) ∧ Below w.heap.size w w' :=
  (lower_yes A l n c y a w h (cv_of v) h0 h1 ha hn).mono fun _ _ ⟨x, y⟩ => ⟨x, y ▸ Below.refl _ _⟩
theorem upper_lit (A : Option Addr) (l : List Int) (n c : Nat) (y b : Int) (w : World) (h : Ints w A l) (v : chk l = 0) (h0 : 0 ≤ y) (h1 : y ≤ 1000000) (hb : IsLst l y b) (hn : n = l.length) :
    Calls Try.prog 13 #[.slice A n c, .int .i64 y] w fun e w' => e = .returned (.tuple #[.int .i64 b, .int .i64 0]) ∧ Below w.heap.size w w' :=
  (upper_yes A l n c y b w h (cv_of v) h0 h1 hb hn).mono fun _ _ ⟨x, y⟩ => ⟨x, y ▸ Below.refl _ _⟩

theorem fst_lit {l : List Int} {y : Int} {a : Nat} (h1 : a ≤ l.length) (h2 : (List.range a).all (fun i => decide (gt l i < y)) = true) (h3 : a < l.length → y ≤ gt l a) : IsFst l y a :=
  ⟨h1, fun i hi => by simpa using (List.all_eq_true.1 h2 i (by simpa using hi)), h3⟩
theorem lst_lit {l : List Int} {y : Int} {a : Nat} (v : chk l = 0) (h : IsFst l (y + 1) a) {b : Int} (hb : b = (a : Int) - 1) : IsLst l y b := by
  subst hb; exact lst_of_fst (cv_of v) h

/-- Of more it is later. -/
theorem fst_mono {l : List Int} {y z : Int} {a b : Nat} (h : IsFst l y a) (h' : IsFst l z b) (hyz : y ≤ z) : a ≤ b := by
  by_cases q : b < a
  · have := h.below b q; have := h.le; have := h'.at_ (by omega); omega
  · omega
theorem lst_mono {l : List Int} {y z a b : Int} (h : IsLst l y a) (h' : IsLst l z b) (hyz : y ≤ z) : a ≤ b := by
  by_cases q : b < a
  · have := h'.lo; have := h.hi; have h1 := h.at_ a.toNat (by omega); have h2 := h'.above a.toNat (by omega) (by omega); omega
  · omega
/-- With more there the same comes no later. -/
theorem fst_anti {l m : List Int} {y : Int} {a b : Nat} (h : IsFst l y a) (h' : IsFst m y b) (e : l.length = m.length) (hlm : ∀ i, i < l.length → gt l i ≤ gt m i) : b ≤ a := by
  by_cases q : a < b
  · have := h'.below a q; have := h'.le; have := h.at_ (by omega); have := hlm a (by omega); omega
  · omega

end Go.Proofs.Ytgckndchndiffaa
