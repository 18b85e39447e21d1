
/-
  What package share owes.
-/
import Derived.Test.YtlaandbaaepamaaShareP
import Derived.Test.YtlaandbaaepamaaLineA
namespace Go.Proofs.Ytlaandbaaepamaa
set_option linter.all false
open Go.RowKit Go.Shelf Go.Lib

/-- What Check answers; what Done answers. -/
def lgsB (l : List Int) : Bool := l.all (fun n => decide (0 ≤ n ∧ n ≤ 1000))
def shE (l : List Int) (r : Int) : Int := if 8 < l.length then 2 else if lgsB l = false ∨ r < 1 ∨ 10000 < r then 1 else 0
def shY (l : List Int) (r : Int) : List Int := if shE l r = 0 then shL l r else []
structure ShOk (l : List Int) (r : Int) : Prop where
  lags : Lags l
  r0 : 1 ≤ r
  r1 : r ≤ 10000
theorem lgs_iff {l : List Int} : lgsB l = true ↔ ∀ i, i < l.length → 0 ≤ gt l i ∧ gt l i ≤ 1000 := by
  unfold lgsB
  rw [List.all_eq_true]
  constructor
  · intro h i hi
    have := h _ (List.getElem_mem hi)
    rw [decide_eq_true_iff] at this
    rwa [gt_of_get (List.getElem?_eq_getElem hi)]
  · intro h x hx
    obtain ⟨i, hi, rfl⟩ := List.getElem_of_mem hx
    have := h i hi
    rw [gt_of_get (List.getElem?_eq_getElem hi)] at this
    exact decide_eq_true this
theorem sh_iff {l : List Int} {r : Int} : shE l r = 0 ↔ ShOk l r := by
  unfold shE
  constructor
  · intro h
    by_cases h1 : 8 < l.length
    · rw [if_pos h1] at h; exact absurd h (by decide)
    · rw [if_neg h1] at h
      by_cases h2 : lgsB l = false ∨ r < 1 ∨ 10000 < r
      · rw [if_pos h2] at h; exact absurd h (by decide)
      · have h3 : lgsB l = true := by
          cases c : lgsB l with
          | true => rfl
          | false => exact absurd (.inl c) h2
        have h4 := lgs_iff.1 h3
        exact ⟨⟨by omega, fun i hi => (h4 i hi).1, fun i hi => (h4 i hi).2⟩, by omega, by omega⟩
  · rintro ⟨v, r0, r1⟩
    have := v.le
    rw [if_neg (by omega), if_neg]
    rw [lgs_iff.2 (fun i hi => ⟨v.lo i hi, v.hi i hi⟩)]
    rintro (h | h)
    · exact absurd h (by decide)
    · omega
theorem sh_vals (l : List Int) (r : Int) : shE l r = 0 ∨ shE l r = 1 ∨ shE l r = 2 := by unfold shE; split <;> (try split) <;> simp
theorem shY_yes {l : List Int} {r : Int} (h : shE l r = 0) : shY l r = shL l r := by rw [shY, if_pos h]
theorem shY_no {l : List Int} {r : Int} (h : ¬ shE l r = 0) : shY l r = [] := by rw [shY, if_neg h]
theorem length_shL (l : List Int) (r : Int) : (shL l r).length = l.length := length_tab _ _
theorem gt_shL {l : List Int} {r : Int} {i : Nat} (h : i < l.length) : gt (shL l r) i = shV l r i := gt_tab _ h
theorem sh_bd {l : List Int} (v : Lags l) {r : Int} (r0 : 1 ≤ r) {i : Nat} (hi : i < l.length) : 0 ≤ shV l r i ∧ shV l r i ≤ 8000 := by
  unfold shV
  by_cases c : gt l i = 0
  · rw [if_pos c]; omega
  · rw [if_neg c]
    have h0 := v.lo i hi
    have h1 := last_lo v hi (by omega)
    have h2 := last_hi v hi (by omega)
    have h3 := (sum_hi v).2
    have h4 := Int.ediv_le_self (b := r) (show 0 ≤ lastV l i by omega)
    have h5 := Int.ediv_nonneg (show 0 ≤ lastV l i by omega) (show 0 ≤ r by omega)
    omega
/-- What package share owes. -/
structure ShrC : Prop where
  check : ∀ (A : Option Addr) (l : List Int) (c : Nat) (r : Int) (w : World), Ints w A l → Calls Try.prog 37 #[.slice A l.length c, .int .i64 r] w fun e w' => e = .returned (.int .i64 (shE l r)) ∧ Below w.heap.size w w'
  done : ∀ (A : Option Addr) (l : List Int) (c : Nat) (r : Int) (w : World), Ints w A l → Calls Try.prog 25 #[.slice A l.length c, .int .i64 r] w (Ans (shY l r) (shE l r) w)
theorem ShrC.check_at (K : ShrC) (A : Option Addr) (l : List Int) (n c : Nat) (r E : Int) (w : World) (h : Ints w A l) (hE : Hid (shE l r = E)) (hn : n = l.length) : Calls Try.prog 37 #[.slice A n c, .int .i64 r] w fun e w' => e = .returned (.int .i64 E) ∧ Below w.heap.size w w' := by
  subst hn
  have := K.check A l c r w h
  rwa [hE.out] at this
theorem ShrC.done_yes (K : ShrC) (A : Option Addr) (l L : List Int) (n m c : Nat) (r : Int) (w : World) (h : Ints w A l) (hE : Hid (shE l r = 0)) (hL : Hid (shL l r = L)) (hn : n = l.length) (hm : m = l.length) : Calls Try.prog 25 #[.slice A n c, .int .i64 r] w fun e w' => ∃ B d, e = .returned (.tuple #[.slice B m d, .int .i64 0]) ∧ Ints w' B L ∧ m ≤ d ∧ Below w.heap.size w w' := by
  subst hn hm
  have hL := hL.out
  subst hL
  refine (K.done A l c r w h).mono ?_
  rintro e w' ⟨B, d, rfl, o, b⟩
  rw [shY_yes hE.out] at o
  have k := own_cap' o
  rw [length_shL] at k
  exact ⟨B, d, by rw [shY_yes hE.out, hE.out, length_shL], Ints.of_own o, k, b⟩
theorem ShrC.done_no (K : ShrC) (A : Option Addr) (l : List Int) (n c : Nat) (r : Int) (w : World) (h : Ints w A l) (hE : Hid (¬ shE l r = 0)) (hn : n = l.length) : Calls Try.prog 25 #[.slice A n c, .int .i64 r] w fun e w' => (∃ B d, e = .returned (.tuple #[.slice B 0 d, .int .i64 (shE l r)])) ∧ Below w.heap.size w w' := by
  subst hn
  refine (K.done A l c r w h).mono ?_
  rintro e w' ⟨B, d, rfl, o, b⟩
  exact ⟨⟨B, d, by rw [shY_no hE.out]; rfl⟩, b⟩

end Go.Proofs.Ytlaandbaaepamaa
