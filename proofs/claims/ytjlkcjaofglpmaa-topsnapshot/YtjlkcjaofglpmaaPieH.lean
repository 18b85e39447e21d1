
/-
  The law PieceAll over what package piece owes.
-/
import Derived.Test.YtjlkcjaofglpmaaPieG
namespace Go.Proofs.Ytjlkcjaofglpmaa
set_option linter.all false
open Go.RowKit Go.Shelf Go.Lib

/-- How many are missing. -/
def miss : List Bool → Nat
  | [] => 0
  | b :: z => (if b then 0 else 1) + miss z
theorem miss_le : ∀ z : List Bool, miss z ≤ z.length
  | [] => Nat.le_refl _
  | b :: z => by have := miss_le z; simp only [miss, List.length_cons]; split <;> omega
theorem miss_set : ∀ (z : List Bool) (i : Nat), i < z.length → hv z i = false → miss (z.set i true) + 1 = miss z
  | [], i, h, _ => by simp at h
  | b :: z, 0, _, h => by
    obtain rfl : b = false := by simpa [hv] using h
    simp [miss]; omega
  | b :: z, i + 1, h, k => by
    have := miss_set z i (by simpa using h) (by simpa [hv] using k)
    simp only [List.set_cons_succ, miss]; omega
theorem miss_all : ∀ (z : List Bool), miss z = 0 → ∀ k, k < z.length → hv z k = true
  | [], _, k, h => by simp at h
  | b :: z, h, k, hk => by
    simp only [miss] at h
    have hb : b = true := by
      cases b
      · simp at h
      · rfl
    cases k with
    | zero => simp [hv, hb]
    | succ k =>
      have := miss_all z (by omega) k (by simpa using hk)
      simpa [hv] using this
theorem miss_not {z : List Bool} (h : miss z = 0) {k : Nat} (hk : k < z.length) (no : hv z k = false) : False := by
  rw [miss_all z h k hk] at no; cases no
theorem pa_lit1 : whE 7 3 = 0 := by decide
theorem pa_lit2 : pcN 7 3 = 3 := by decide
theorem pa_row1 : tab 3 (pcV 7 3) = [3, 3, 1] := by decide
/-- The state in the variable at G. -/
structure AllSt (w W : World) (G N : Nat) (s u : Int) (B : Option Addr) (d : Nat) (z : List Bool) : Prop where
  K : Blk W G 44 #[.int .i64 s, .int .i64 u, .slice B N d]
  g : w.heap.size ≤ G
  r : Bls W B z
  n : z.length = N
  c : N ≤ d
  b : Below w.heap.size w W
theorem AllSt.below {w W W' : World} {G N : Nat} {s u : Int} {B : Option Addr} {d : Nat} {z : List Bool} (h : AllSt w W G N s u B d z) (hb : Below W.heap.size W W') : AllSt w W' G N s u B d z :=
  ⟨h.K.below hb, h.g, h.r.below hb, h.n, h.c, below_trans h.b hb⟩
theorem AllSt.put {w W W' : World} {G N i : Nat} {s u : Int} {B B' : Option Addr} {d d' : Nat} {z : List Bool} (h : AllSt w W G N s u B d z) (hz : Bls W' B' (z.set i true)) (hd : N ≤ d') (hb : Below W.heap.size W W') :
    AllSt w (((W'.setCell ⟨G, 0, none⟩ (.int .i64 s)).setCell ⟨G, 1, none⟩ (.int .i64 u)).setCell ⟨G, 2, none⟩ (.slice B' N d')) G N s u B' d' (z.set i true) :=
  ⟨three_sets (h.K.below hb) _ _ _, h.g, hz.stage (h.K.below hb) _ _ _, by rw [List.length_set]; exact h.n, hd, below_three (below_trans h.b hb) h.g _ _ _⟩
end Go.Proofs.Ytjlkcjaofglpmaa
