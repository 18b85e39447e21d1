
/-
  What package resume owes.
-/
import Derived.Test.YtjlkcjaofglpmaaPieceC
import Derived.Test.YtjlkcjaofglpmaaResP
namespace Go.Proofs.Ytjlkcjaofglpmaa
set_option linter.all false
open Go.RowKit Go.Shelf Go.Lib

/-- The error of Run; what it answers. -/
def BadR (s u r : Int) : Prop := s < 0 ∨ 1000000 < s ∨ u < 1 ∨ 1000000 < u ∨ r < 0 ∨ 10000 < r
instance (s u r : Int) : Decidable (BadR s u r) := inferInstanceAs (Decidable (s < 0 ∨ 1000000 < s ∨ u < 1 ∨ 1000000 < u ∨ r < 0 ∨ 10000 < r))
structure RsOk (s u r : Int) : Prop where
  s0 : 0 ≤ s
  s1 : s ≤ 1000000
  u0 : 1 ≤ u
  u1 : u ≤ 1000000
  r0 : 0 ≤ r
  r1 : r ≤ 10000
theorem rs_iff {s u r : Int} : ¬ BadR s u r ↔ RsOk s u r := by
  unfold BadR
  exact ⟨fun h => ⟨by omega, by omega, by omega, by omega, by omega, by omega⟩, fun h => by have := h.s0; have := h.s1; have := h.u0; have := h.u1; have := h.r0; have := h.r1; omega⟩
def ruE (s u r : Int) (n : Nat) : Int := if BadR s u r then 1 else if 200 < n then 2 else 0
def ruL (s u r : Int) (z : List Bool) : List Int := tab z.length (fun t => reV s u r (hv z) (t + 1))
def ruY (s u r : Int) (z : List Bool) : List Int := if ruE s u r z.length = 0 then ruL s u r z else []
theorem ru_ok {s u r : Int} {n : Nat} (h : ruE s u r n = 0) : RsOk s u r ∧ n ≤ 200 := by
  unfold ruE at h
  by_cases c : BadR s u r
  · rw [if_pos c] at h; exact absurd h (by decide)
  · rw [if_neg c] at h
    by_cases d : 200 < n
    · rw [if_pos d] at h; exact absurd h (by decide)
    · exact ⟨rs_iff.1 c, by omega⟩
theorem ru_of {s u r : Int} {n : Nat} (h : RsOk s u r) (hn : n ≤ 200) : ruE s u r n = 0 := by
  rw [ruE, if_neg (rs_iff.2 h), if_neg (by omega)]
theorem ruY_yes {s u r : Int} {z : List Bool} (h : ruE s u r z.length = 0) : ruY s u r z = ruL s u r z := by rw [ruY, if_pos h]
theorem ruY_no {s u r : Int} {z : List Bool} (h : ¬ ruE s u r z.length = 0) : ruY s u r z = [] := by rw [ruY, if_neg h]
theorem length_ruL (s u r : Int) (z : List Bool) : (ruL s u r z).length = z.length := length_tab _ _
theorem gt_ruL {s u r : Int} {z : List Bool} {t : Nat} (h : t < z.length) : gt (ruL s u r z) t = reV s u r (hv z) (t + 1) := gt_tab _ h
/-- The dividend of Bound; its error; what it answers. -/
def ndV (s u k : Int) : Int := if s = 0 then 0 else s + k * (u - 1)
def boE (s u r k : Int) : Int := if BadR s u r ∨ k < 0 ∨ 200 < k then 1 else if ndV s u k = 0 then 0 else if r = 0 then 5 else 0
def boV (s u r k : Int) : Int := if boE s u r k = 0 ∧ ndV s u k ≠ 0 then (ndV s u k - 1) / r + 1 else 0
theorem nd_bd {s u k : Int} (s0 : 0 ≤ s) (s1 : s ≤ 1000000) (u0 : 1 ≤ u) (u1 : u ≤ 1000000) (k0 : 0 ≤ k) (k1 : k ≤ 200) : 0 ≤ ndV s u k ∧ ndV s u k ≤ 201000000 ∧ (ndV s u k = 0 ↔ s = 0) := by
  unfold ndV
  have h1 : 0 ≤ k * (u - 1) := Int.mul_nonneg k0 (by omega)
  have h2 : k * (u - 1) ≤ 200 * 1000000 := Int.mul_le_mul k1 (by omega) (by omega) (by omega)
  split <;> omega
theorem own_capR {w : World} {base n c size : Nat} {e : TypeId} {A : Option Addr} {xs : List Value} (h : w.ownsRow base e size (.slice A n c) n xs) : n ≤ c := by
  rcases h.2 with ⟨_, h0⟩ | ⟨g, cap, cur, hv, _, _, hn, _⟩
  · omega
  · injection hv with _ _ e
    subst e
    exact hn
/-- What package resume owes. -/
structure ResC : Prop where
  run : ∀ (A : Option Addr) (z : List Bool) (c : Nat) (s u r : Int) (w : World), Bls w A z → Calls Try.prog 18 #[.int .i64 s, .int .i64 u, .int .i64 r, .slice A z.length c] w (Ans (ruY s u r z) (ruE s u r z.length) w)
  bound : ∀ (s u r k : Int) (w : World), Calls Try.prog 19 #[.int .i64 s, .int .i64 u, .int .i64 r, .int .i64 k] w fun e w' => e = .returned (.tuple #[.int .i64 (boV s u r k), .int .i64 (boE s u r k)]) ∧ Below w.heap.size w w'
theorem ResC.run_yes (K : ResC) (A : Option Addr) (z : List Bool) (L : List Int) (n m c : Nat) (s u r : Int) (w : World) (h : Bls w A z) (hE : Hid (ruE s u r z.length = 0)) (hL : Hid (ruL s u r z = L)) (hn : n = z.length) (hm : m = z.length) : Calls Try.prog 18 #[.int .i64 s, .int .i64 u, .int .i64 r, .slice A n c] w fun e w' => ∃ B d, e = .returned (.tuple #[.slice B m d, .int .i64 0]) ∧ Ints w' B L ∧ m ≤ d ∧ Below w.heap.size w w' := by
  subst hn hm
  have hL := hL.out
  subst hL
  refine (K.run A z c s u r w h).mono ?_
  rintro e w' ⟨B, d, rfl, o, b⟩
  rw [ruY_yes hE.out] at o
  have k := own_capR o
  rw [length_ruL] at k
  exact ⟨B, d, by rw [ruY_yes hE.out, hE.out, length_ruL], Ints.of_own o, k, b⟩
theorem ResC.run_no (K : ResC) (A : Option Addr) (z : List Bool) (n c : Nat) (s u r : Int) (w : World) (h : Bls w A z) (hE : Hid (¬ ruE s u r z.length = 0)) (hn : n = z.length) : Calls Try.prog 18 #[.int .i64 s, .int .i64 u, .int .i64 r, .slice A n c] w fun e w' => (∃ B d, e = .returned (.tuple #[.slice B 0 d, .int .i64 (ruE s u r z.length)])) ∧ Below w.heap.size w w' := by
  subst hn
  refine (K.run A z c s u r w h).mono ?_
  rintro e w' ⟨B, d, rfl, o, b⟩
  exact ⟨⟨B, d, by rw [ruY_no hE.out]; rfl⟩, b⟩
theorem ResC.bound_at (K : ResC) (s u r k V E : Int) (w : World) (hV : Hid (boV s u r k = V)) (hE : Hid (boE s u r k = E)) : Calls Try.prog 19 #[.int .i64 s, .int .i64 u, .int .i64 r, .int .i64 k] w fun e w' => e = .returned (.tuple #[.int .i64 V, .int .i64 E]) ∧ Below w.heap.size w w' := by
  have := K.bound s u r k w
  rwa [hV.out, hE.out] at this

end Go.Proofs.Ytjlkcjaofglpmaa
