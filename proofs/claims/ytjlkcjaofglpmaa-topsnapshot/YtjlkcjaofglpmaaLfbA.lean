
/-
  A block of numbers, known as far as it is wanted.
-/
import Derived.Test.YtjlkcjaofglpmaaRefA
import Derived.Test.YtjlkcjaofglpmaaPointB
import Derived.Test.YtjlkcjaofglpmaaBucketA
import Derived.Test.YtjlkcjaofglpmaaPlain
namespace Go.Proofs.Ytjlkcjaofglpmaa
set_option linter.all false
open Go.RowKit Go.Shelf Go.Lib

/-- A block of numbers, of which the first n are known. -/
def LfB (w : World) (g n cap : Nat) (F : Nat → Int) : Prop := ∃ cur : List Value, Blk w g 3 cur.toArray ∧ cur.length = cap ∧ n ≤ cap ∧ ∀ k, k < n → cur[k]? = some (.int .i64 (F k))
theorem LfB.cell {w : World} {g n cap : Nat} {F : Nat → Int} (h : LfB w g n cap F) {k : Nat} (hk : k < n) : w.cell? ⟨g, k, none⟩ = some (.int .i64 (F k)) := by
  obtain ⟨cur, hb, _, _, hc⟩ := h
  rw [hb.cell k, List.getElem?_toArray]; exact hc k hk
theorem LfB.frozen {w : World} {g n cap : Nat} {F : Nat → Int} (h : LfB w g n cap F) (k : Nat) : w.frozen? ⟨g, k, none⟩ = false := by
  obtain ⟨cur, hb, _⟩ := h
  exact hb.frozen k
theorem LfB.store {w : World} {g n cap : Nat} {F G : Nat → Int} (h : LfB w g n cap F) {k : Nat} {v : Int} (hk : k < n) (hv : G k = v) (ho : ∀ j, j < n → j ≠ k → G j = F j) : LfB (w.setCell ⟨g, k, none⟩ (.int .i64 v)) g n cap G := by
  obtain ⟨cur, hb, hl, hn, hc⟩ := h
  refine ⟨cur.set k (.int .i64 v), ?_, by rw [List.length_set]; exact hl, hn, fun j hj => ?_⟩
  · have := hb.set_ k (.int .i64 v)
    rwa [List.setIfInBounds_toArray] at this
  · by_cases e : j = k
    · subst e; rw [List.getElem?_set_self (by omega), hv]
    · rw [List.getElem?_set_ne (Ne.symm e), hc j hj, ho j hj e]
theorem LfB.past {w : World} {g n cap : Nat} {F : Nat → Int} (h : LfB w g n cap F) {a : Addr} (ha : g ≠ a.block) (u : Value) : LfB (w.setCell a u) g n cap F := by
  obtain ⟨cur, hb, h⟩ := h
  exact ⟨cur, hb.past ha u, h⟩
theorem LfB.alloc {w : World} {g n cap : Nat} {F : Nat → Int} (h : LfB w g n cap F) (o : Obj) : LfB (w.alloc o) g n cap F := by
  obtain ⟨cur, hb, h⟩ := h
  exact ⟨cur, hb.alloc o, h⟩
theorem LfB.same {w : World} {g n cap : Nat} {F G : Nat → Int} (h : LfB w g n cap F) (e : ∀ k, k < n → G k = F k) : LfB w g n cap G := by
  obtain ⟨cur, hb, hl, hn, hc⟩ := h
  exact ⟨cur, hb, hl, hn, fun k hk => by rw [hc k hk, e k hk]⟩
theorem LfB.of_own {w : World} {B g n c : Nat} {L : List Int} (h : w.ownsRow B 3 1 (.slice (some ⟨g, 0, none⟩) n c) n (L.map (Value.int .i64))) : LfB w g n c (gt L) ∧ B ≤ g := by
  rcases h.2 with ⟨h0, _⟩ | ⟨g', cap, cur, hv, hB, hb, hn, hm, hcl, hct⟩
  · cases h0
  · injection hv with e1 e2 e3
    injection e1 with e1
    injection e1 with e1
    subst e1 e3
    have hL := h.1
    simp at hL hcl hct
    refine ⟨⟨cur.toList, by rw [Array.toArray_toList]; exact hb, by rw [Array.length_toList]; omega, by omega, fun k hk => ?_⟩, hB⟩
    have : (cur.toList.take n)[k]? = cur.toList[k]? := by rw [List.getElem?_take, if_pos hk]
    rw [← this, hct, List.getElem?_map, List.getElem?_eq_getElem (by omega : k < L.length), gt_of_get (List.getElem?_eq_getElem (by omega))]; rfl
theorem LfB.made {w : World} {g n : Nat} {F : Nat → Int} (h : Blk w g 3 (madeCells #[Value.int .i64 0] n)) (e : ∀ k, k < n → F k = 0) : LfB w g n n F := by
  rw [← rowAt_zero n F] at h
  refine ⟨rowAt n 0 F, h, rowAt_length F (Nat.zero_le _), Nat.le_refl _, fun k hk => ?_⟩
  rw [e k hk]
  simp [rowAt, tab_zero, hk]
theorem LfB.own {w : World} {B g n : Nat} {F : Nat → Int} (h : LfB w g n n F) (hB : B ≤ g) (h61 : n ≤ 1000) : w.ownsRow B 3 1 (.slice (some ⟨g, 0, none⟩) n n) (tab n F).length ((tab n F).map (Value.int .i64)) := by
  obtain ⟨cur, hb, hl, _, hc⟩ := h
  have e : cur = (tab n F).map (Value.int .i64) := by
    refine List.ext_getElem? (fun k => ?_)
    by_cases hk : k < n
    · rw [hc k hk, List.getElem?_map, get_tab _ hk]; rfl
    · rw [List.getElem?_eq_none (by omega), List.getElem?_eq_none (by simp [length_tab]; omega)]
  subst e
  exact own_of_blk hb hB (length_tab _ _).symm h61

end Go.Proofs.Ytjlkcjaofglpmaa
