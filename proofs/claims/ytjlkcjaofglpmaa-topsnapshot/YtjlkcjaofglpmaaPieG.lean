
/-
  The law PieceOnce over what package piece owes.
-/
import Derived.Test.YtjlkcjaofglpmaaPieF
import Derived.Test.YtjlkcjaofglpmaaKeepA
import Derived.Test.YtjlkcjaofglpmaaWinZ
import Derived.Test.YtjlkcjaofglpmaaBucketA
namespace Go.Proofs.Ytjlkcjaofglpmaa
set_option linter.all false
open Go.RowKit Go.Shelf Go.Lib

theorem three_frozenP {W : World} {g : Nat} {t : TypeId} {cs : Array Value} (h : Blk W g t cs) : W.frozen? ⟨g, 0, none⟩ = false ∧ W.frozen? ⟨g, 1, none⟩ = false ∧ W.frozen? ⟨g, 2, none⟩ = false :=
  ⟨h.frozen 0, h.frozen 1, h.frozen 2⟩
theorem three_stageP {W : World} {g : Nat} {t : TypeId} {x y z : Value} (h : Blk W g t #[x, y, z]) :
    (∀ a, (W.setCell ⟨g, 0, none⟩ a).cell? ⟨g, 0, none⟩ = some a) ∧ (∀ a b, ((W.setCell ⟨g, 0, none⟩ a).setCell ⟨g, 1, none⟩ b).cell? ⟨g, 1, none⟩ = some b) ∧ (∀ a b c, (((W.setCell ⟨g, 0, none⟩ a).setCell ⟨g, 1, none⟩ b).setCell ⟨g, 2, none⟩ c).cell? ⟨g, 2, none⟩ = some c) := by
  refine ⟨fun a => ?_, fun a b => ?_, fun a b c => ?_⟩
  · simpa using (h.set_ 0 a).cell 0
  · simpa using ((h.set_ 0 a).set_ 1 b).cell 1
  · simpa using (((h.set_ 0 a).set_ 1 b).set_ 2 c).cell 2

theorem within_q (k n : Int) (I : Nat) (w : World) (h1 : 1 ≤ n) (h2 : n ≤ 2000000) (h : wi k n = (I : Int)) : Calls Try.prog 20 #[.int .i64 k, .int .i64 n] w fun e w' => e = .returned (.int .i64 I) ∧ ∃ m, w' = w.drewN m := by
  refine (within_any k n w h1 h2).mono ?_
  rintro e w' ⟨rfl, rfl⟩
  exact ⟨by rw [h], 0, rfl⟩
theorem PieceC.put_at (E : PieceC) (s u : Int) (A : Option Addr) (c n : Nat) (z : List Bool) (I : Nat) (w : World) (h : Bls w A z) (hn : z.length = n) (hc : n ≤ c) (h0 : stE s u n = 0) (hi : I < n) : Calls Try.prog 25 #[.agg #[.int .i64 s, .int .i64 u, .slice A n c], .int .i64 I] w fun e w' => ∃ (B : Option Addr) (d : Nat), e = .returned (.tuple #[.agg #[.int .i64 s, .int .i64 u, .slice B n d], .int .i64 0]) ∧ Bls w' B (z.set I true) ∧ n ≤ d ∧ Below w.heap.size w w' := by
  subst hn
  refine (E.put s u A c z I w h hc h0 hi).mono ?_
  rintro e w' ⟨B, d, he, o, b⟩
  refine ⟨B, d, he, Bls.of_ownP (by rw [List.length_set]; exact o), ?_, b⟩
  rcases o.2 with ⟨_, h0⟩ | ⟨g, cap, cur, hv, _, _, hn, _⟩
  · omega
  · injection hv with _ _ e
    subst e
    exact hn
theorem PieceC.got_at (E : PieceC) (s u : Int) (A : Option Addr) (c n : Nat) (z : List Bool) (w : World) (R : Int) (h : Bls w A z) (hn : z.length = n) (h0 : stE s u n = 0) (HR : Hid (gotS s u (hv z) n = R)) : Calls Try.prog 27 #[.agg #[.int .i64 s, .int .i64 u, .slice A n c]] w fun e w' => e = .returned (.tuple #[.int .i64 R, .int .i64 0]) ∧ Below w.heap.size w w' := by
  subst hn
  refine (E.got s u A c z w h h0).mono ?_
  rintro e w' ⟨he, b⟩
  exact ⟨by rw [he, HR.out], b⟩
theorem PieceC.next_at (E : PieceC) (s u : Int) (A : Option Addr) (c n : Nat) (z : List Bool) (w : World) (h : Bls w A z) (hn : z.length = n) (h0 : stE s u n = 0) : Calls Try.prog 28 #[.agg #[.int .i64 s, .int .i64 u, .slice A n c]] w fun e w' => (∃ V T : Int, e = .returned (.tuple #[.int .i64 V, .int .i64 T]) ∧ Hid (NxIs z V T)) ∧ Below w.heap.size w w' := by
  subst hn
  exact E.next_any s u A c z w h h0
theorem got_lit1 : stE 7 3 3 = 0 := by decide
theorem got_lit2 : gotS 7 3 (hv [true, false, true]) 3 = 4 := by decide
theorem hv_set {z : List Bool} {I i : Nat} : hv z i = true → hv (z.set I true) i = true := by
  unfold hv
  rw [List.getD, List.getD, List.getElem?_set]
  intro h
  by_cases c : I = i
  · subst c
    by_cases l : I < z.length
    · simp [l]
    · rw [List.getElem?_eq_none (by omega)] at h; simp at h
  · rw [if_neg c]; exact h
theorem set_swap (z : List Bool) (I J : Nat) : (z.set I true).set J true = (z.set J true).set I true := by
  by_cases c : I = J
  · subst c; rfl
  · exact List.set_comm _ _ c
theorem Bls.stage {W : World} {g : Nat} {t : TypeId} {a b : Int} {s1 : Option Addr} {n1 c1 : Nat} {A : Option Addr} {l : List Bool} (h : Bls W A l) (K : Blk W g t #[.int .i64 a, .int .i64 b, .slice s1 n1 c1]) (v0 v1 v2 : Value) : Bls (((W.setCell ⟨g, 0, none⟩ v0).setCell ⟨g, 1, none⟩ v1).setCell ⟨g, 2, none⟩ v2) A l := by
  refine ⟨h.1, fun hl => ?_⟩
  obtain ⟨b', off, rfl, hc⟩ := h.2 hl
  have ne : g ≠ b' := by
    rintro rfl
    have := hc 0 hl
    rw [K.cell] at this
    match off, this with
    | 0, this => simp at this
    | 1, this => simp at this
    | 2, this => simp at this
    | k + 3, this => simp at this
  refine ⟨b', off, rfl, fun j hj => ?_⟩
  rw [World.cell?_setCell_far _ _ _ _ ne, World.cell?_setCell_far _ _ _ _ ne, World.cell?_setCell_far _ _ _ _ ne]
  exact hc j hj
theorem Blk.stage {W : World} {g h : Nat} {t : TypeId} {cs : Array Value} (H : Blk W h t cs) (ne : h ≠ g) (v0 v1 v2 : Value) : Blk (((W.setCell ⟨g, 0, none⟩ v0).setCell ⟨g, 1, none⟩ v1).setCell ⟨g, 2, none⟩ v2) h t cs :=
  ((H.past (a := ⟨g, 0, none⟩) ne v0).past (a := ⟨g, 1, none⟩) ne v1).past (a := ⟨g, 2, none⟩) ne v2
end Go.Proofs.Ytjlkcjaofglpmaa
