
/-
  Arguments opened: a slice of booleans (nil let in), a stage by value. What a stage is worth: its error, its pieces.
-/
import Derived.Test.YtjlkcjaofglpmaaBucketD
import Derived.Test.YtjlkcjaofglpmaaRetryP
import Derived.Deep.Grids
namespace Go.Proofs.Ytjlkcjaofglpmaa
set_option linter.all false
open Go.RowKit Go.ChangeShapes Go.WideShapes Go.Deep Go.Joins

section
variable {H : Type} {enc : TypeId × Value → H} {w : World}

theorem bls_of {a : Addr} {len : Nat} {B : Nat → Bool} (hm : len ≤ 9223372036854775807) (hc : ∀ i, i < len → w.cell? (a.add i) = some (.bool (B i))) : Bls w (some a) ((List.range len).map B) := by
  refine ⟨by simp; exact hm, fun h0 => ?_⟩
  simp at h0
  obtain ⟨b, off, spot⟩ := a
  have h := hc 0 h0
  have hspot : spot = none := by simpa [Addr.add] using World.cell?_spot h
  subst hspot
  refine ⟨b, off, rfl, fun j hj => ?_⟩
  simp at hj
  have := hc j hj
  rw [Addr.add_lit] at this
  simpa [List.getD, hj] using this
set_option maxRecDepth 100000 in
theorem one_bools {n : Nat} {u : Value} {y : DataW H × List MemPlace} (h : DataW.trod enc Try.prog w 0 (fun _ => true) true n 32 [u] = some y) :
    ∃ (a : Option Addr) (c : Nat) (z : List Bool), u = .slice a z.length c ∧ Bls w a z ∧ z.length ≤ c ∧ (a = none → c = 0) := by
  rcases open_bools Try.underlying32 Try.underlying4 (by kernel_rfl) h with ⟨hcs, _⟩ | ⟨x, l, c, B, hcs, _, hl, hm, _, hcell⟩
  · simp at hcs
    subst hcs
    exact ⟨none, 0, [], rfl, Bls.nil_ _ _, Nat.zero_le _, fun _ => rfl⟩
  · simp at hcs
    subst hcs
    refine ⟨some x, c, (List.range l).map B, by simp, bls_of (by unfold maxLen at hm; omega) (fun i hi => hcell i (by omega)), by simp; exact hl, (fun e => by cases e)⟩
set_option maxRecDepth 100000 in
theorem bls_open {A : Option Addr} {len cap : Nat} {d : DataW H} {p : List MemPlace} (h : DataW.Trod enc Try.prog w 0 (fun _ => true) true 32 (.slice A len cap) d p) :
    ∃ l : List Bool, Bls w A l ∧ len = l.length ∧ l.length ≤ cap := by
  obtain ⟨fuel, hf⟩ := h
  rcases open_bools Try.underlying32 Try.underlying4 (by kernel_rfl) hf with ⟨hcs, _⟩ | ⟨x, l, c, B, hcs, _, hl, hm, _, hcell⟩
  · simp [Value.cells] at hcs
    obtain ⟨rfl, rfl, rfl⟩ := hcs
    exact ⟨[], Bls.nil_ _ _, rfl, Nat.zero_le _⟩
  · simp [Value.cells] at hcs
    obtain ⟨rfl, rfl, rfl⟩ := hcs
    exact ⟨(List.range len).map B, bls_of (by unfold maxLen at hm; omega) (fun i hi => hcell i (by omega)), by simp, by simp; exact hl⟩
set_option maxRecDepth 100000 in
theorem stg_open {base : Nat} {v : Value} {d : DataW H} {p : List MemPlace} (hv : Value.okWide Try.prog w .any base 44 v) (h : DataW.Trod enc Try.prog w 0 (fun _ => true) true 44 v d p) :
    ∃ (x y : Int) (a : Option Addr) (c : Nat) (z : List Bool), v = .agg #[.int .i64 x, .int .i64 y, .slice a z.length c] ∧ (Lit.int .i64 x).wf = true ∧ (Lit.int .i64 y).wf = true ∧ Bls w a z ∧ z.length ≤ c ∧ (a = none → c = 0) := by
  obtain ⟨v0, v1, v2, y0, y1, y2, n, rfl, _, _, h0, h1, h2⟩ := open_agg3 Try.underlying44 (by kernel_rfl) (by kernel_rfl) hv h
  obtain ⟨x, rfl, k0⟩ := one_int h0
  obtain ⟨y, rfl, k1⟩ := one_int h1
  obtain ⟨a, c, z, rfl, b, l, o⟩ := one_bools h2
  exact ⟨x, y, a, c, z, rfl, k0, k1, b, l, o⟩

end

/-- The error of a thing in pieces; of a stage. -/
def whE (size unit : Int) : Int := if size < 0 ∨ 1000000 < size ∨ unit < 1 ∨ 1000000 < unit then 1 else if 200 * unit < size then 2 else 0
def stE (size unit : Int) (n : Nat) : Int := if whE size unit ≠ 0 then whE size unit else if n = pcN size unit then 0 else 4
structure WhOk (size unit : Int) : Prop where
  s0 : 0 ≤ size
  s1 : size ≤ 1000000
  u0 : 1 ≤ unit
  u1 : unit ≤ 1000000
  le : size ≤ 200 * unit
theorem wh_iff {size unit : Int} : whE size unit = 0 ↔ WhOk size unit := by
  unfold whE
  constructor
  · intro h
    by_cases c : size < 0 ∨ 1000000 < size ∨ unit < 1 ∨ 1000000 < unit
    · rw [if_pos c] at h; exact absurd h (by decide)
    · rw [if_neg c] at h
      by_cases d : 200 * unit < size
      · rw [if_pos d] at h; exact absurd h (by decide)
      · exact ⟨by omega, by omega, by omega, by omega, by omega⟩
  · intro h
    have := h.s0; have := h.s1; have := h.u0; have := h.u1; have := h.le
    rw [if_neg (by omega), if_neg (by omega)]
theorem pcn_max {size unit : Int} (h : WhOk size unit) : pcN size unit ≤ 200 := by
  by_cases c : pcN size unit ≤ 200
  · exact c
  · have := (pcn_iff h.s0 h.u0 (i := 200)).mp (by omega)
    have := h.le
    omega
theorem st_iff {size unit : Int} {n : Nat} : stE size unit n = 0 ↔ WhOk size unit ∧ n = pcN size unit := by
  unfold stE
  by_cases c : whE size unit = 0
  · rw [if_neg (by simpa using c)]
    constructor
    · intro h
      by_cases d : n = pcN size unit
      · exact ⟨wh_iff.mp c, d⟩
      · rw [if_neg d] at h; exact absurd h (by decide)
    · intro h; rw [if_pos h.2]
  · rw [if_pos c]
    exact ⟨fun h => absurd h c, fun h => absurd (wh_iff.mpr h.1) c⟩

end Go.Proofs.Ytjlkcjaofglpmaa
