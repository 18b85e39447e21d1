
/-
  The document's own convolution: pair by pair; its powers: by halves.
-/
import Derived.Test.YtlaandbaaepamaaConvB
namespace Go.Proofs.Ytlaandbaaepamaa
set_option linter.all false
open Go.RowKit Go.Shelf

/-- The pairs that were met ahead of the pair (a, b). -/
def Dn (a b i j : Nat) : Prop := i < a ∨ i = a ∧ j < b

theorem gt_set {L : List Int} {k t : Nat} {x : Int} (hk : k < L.length) : gt (L.set k x) t = if t = k then x else gt L t := by
  unfold gt List.getD
  rw [List.getElem?_set]
  by_cases e : k = t
  · subst e; simp [hk]
  · simp [e, Ne.symm e]
theorem set_cells (L : List Int) (k : Nat) (x : Int) : ((L.map (Value.int .i64)).toArray).setIfInBounds k (.int .i64 x) = ((L.set k x).map (Value.int .i64)).toArray := by
  simp [List.map_set]
theorem gt_replicate {n t : Nat} {x : Int} (h : t < n) : gt (List.replicate n x) t = x := by simp [gt, List.getD, h]

/-- What the document's convolution has at the pair (a, b). -/
structure CInv (n : Nat) (f g : Nat → Int) (a b : Nat) (L : List Int) : Prop where
  len : L.length = n
  low : ∀ i j, i + j < n → Dn a b i j → gt L (i + j) ≤ f i + g j
  at_ : ∀ t, t < n → gt L t = 1099511627776 ∨ ∃ i j, i + j = t ∧ Dn a b i j ∧ gt L t = f i + g j

theorem CInv.init (n : Nat) (f g : Nat → Int) : CInv n f g 0 0 (List.replicate n 1099511627776) :=
  ⟨by simp, fun i j _ h => by rcases h with h | ⟨_, h⟩ <;> omega, fun t ht => .inl (gt_replicate ht)⟩
theorem CInv.put {n : Nat} {f g : Nat → Int} {a b : Nat} {L : List Int} (h : CInv n f g a b L) (hab : a + b < n) (hlt : f a + g b < gt L (a + b)) : CInv n f g a (b + 1) (L.set (a + b) (f a + g b)) := by
  have hl := h.len
  refine ⟨by simpa using hl, fun i j hij hd => ?_, fun t ht => ?_⟩
  · rw [gt_set (by omega)]
    by_cases e : i + j = a + b
    · rw [if_pos e]
      by_cases ei : i = a
      · obtain rfl : j = b := by omega
        subst ei; exact Int.le_refl _
      · have := h.low i j hij (by rcases hd with hd | ⟨hd, _⟩; exact .inl hd; omega)
        rw [e] at this; omega
    · rw [if_neg e]
      refine h.low i j hij ?_
      rcases hd with hd | ⟨hd, hj⟩
      · exact .inl hd
      · exact .inr ⟨hd, by omega⟩
  · rw [gt_set (by omega)]
    by_cases e : t = a + b
    · rw [if_pos e]; exact .inr ⟨a, b, e.symm, .inr ⟨rfl, by omega⟩, rfl⟩
    · rw [if_neg e]
      rcases h.at_ t ht with h1 | ⟨i, j, h1, h2, h3⟩
      · exact .inl h1
      · refine .inr ⟨i, j, h1, ?_, h3⟩
        rcases h2 with h2 | ⟨h2, h4⟩
        · exact .inl h2
        · exact .inr ⟨h2, by omega⟩
theorem CInv.keep {n : Nat} {f g : Nat → Int} {a b : Nat} {L : List Int} (h : CInv n f g a b L) (hk : n ≤ a + b ∨ gt L (a + b) ≤ f a + g b) : CInv n f g a (b + 1) L := by
  refine ⟨h.len, fun i j hij hd => ?_, fun t ht => ?_⟩
  · by_cases e : i = a ∧ j = b
    · obtain ⟨rfl, rfl⟩ := e
      rcases hk with hk | hk
      · omega
      · exact hk
    · refine h.low i j hij ?_
      rcases hd with hd | ⟨hd, hj⟩
      · exact .inl hd
      · exact .inr ⟨hd, by omega⟩
  · rcases h.at_ t ht with h1 | ⟨i, j, h1, h2, h3⟩
    · exact .inl h1
    · refine .inr ⟨i, j, h1, ?_, h3⟩
      rcases h2 with h2 | ⟨h2, h4⟩
      · exact .inl h2
      · exact .inr ⟨h2, by omega⟩
theorem CInv.row {n : Nat} {f g : Nat → Int} {a : Nat} {L : List Int} (h : CInv n f g a n L) : CInv n f g (a + 1) 0 L := by
  refine ⟨h.len, fun i j hij hd => ?_, fun t ht => ?_⟩
  · refine h.low i j hij ?_
    rcases hd with hd | ⟨_, hd⟩
    · by_cases e : i = a
      · exact .inr ⟨e, by omega⟩
      · exact .inl (by omega)
    · omega
  · rcases h.at_ t ht with h1 | ⟨i, j, h1, h2, h3⟩
    · exact .inl h1
    · refine .inr ⟨i, j, h1, ?_, h3⟩
      rcases h2 with h2 | ⟨h2, h4⟩
      · exact .inl (by omega)
      · exact .inl (by omega)
theorem CInv.all {n : Nat} {f g : Nat → Int} {L : List Int} (h : CInv n f g n 0 L) (hf : ∀ i, i < n → f i ≤ 100000000) (hg : ∀ i, i < n → g i ≤ 100000000) : L = tab n (cvV f g) := by
  refine eq_tab h.len (fun t ht => (cv_eq (fun i j e => ?_) ?_).symm)
  · have := h.low i j (by omega) (.inl (by omega)); rwa [e] at this
  · rcases h.at_ t ht with h1 | ⟨i, j, h1, h2, h3⟩
    · have := h.low 0 t (by omega) (.inl (by omega))
      rw [Nat.zero_add] at this
      have := hf 0 (by omega); have := hg t ht; omega
    · exact ⟨i, j, h1, by omega⟩

end Go.Proofs.Ytlaandbaaepamaa
