
/-
  Walks: deconv.most, deconv.Of; the document's own deconvolution: pair by pair.
-/
import Derived.Test.YtlaandbaaepamaaConvC
import Derived.Test.YtlaandbaaepamaaPointB
namespace Go.Proofs.Ytlaandbaaepamaa
set_option linter.all false
open Go.RowKit Go.Shelf

/-- By how much l is above m, at the most. -/
def mostV (l m : List Int) (n : Nat) : Int := mx (fun u => gt l u - gt m u) n

theorem most_dc (l m : List Int) (t : Nat) : mostV (l.drop t) m (l.drop t).length = dcV l m t := by
  unfold mostV dcV
  rw [List.length_drop]
  congr 1
  funext u
  rw [gt_drop]

/-- What the document's deconvolution has at the pair (a, b). -/
structure DInv (n : Nat) (f g : Nat → Int) (a b : Nat) (L : List Int) : Prop where
  len : L.length = n
  lo : ∀ t, t < n → 0 ≤ gt L t
  low : ∀ i j t, i < n → i = t + j → Dn a b i j → f i - g j ≤ gt L t
  at_ : ∀ t, t < n → gt L t = 0 ∨ ∃ i j, i < n ∧ i = t + j ∧ gt L t = f i - g j

theorem DInv.init (n : Nat) (f g : Nat → Int) : DInv n f g 0 0 (List.replicate n 0) :=
  ⟨by simp, fun t ht => by rw [gt_replicate ht]; exact Int.le_refl _, fun i j t _ _ h => by rcases h with h | ⟨_, h⟩ <;> omega, fun t ht => .inl (gt_replicate ht)⟩
theorem DInv.put {n : Nat} {f g : Nat → Int} {a b : Nat} {L : List Int} (h : DInv n f g a b L) (ha : a < n) (hab : b ≤ a) (hlt : gt L (a - b) < f a - g b) : DInv n f g a (b + 1) (L.set (a - b) (f a - g b)) := by
  have hl := h.len
  refine ⟨by simpa using hl, fun t ht => ?_, fun i j t hi ht hd => ?_, fun t ht => ?_⟩
  · rw [gt_set (by omega)]
    have := h.lo t ht
    by_cases e : t = a - b
    · rw [if_pos e]; subst e; omega
    · rw [if_neg e]; exact this
  · rw [gt_set (by omega)]
    by_cases e : t = a - b
    · rw [if_pos e]
      by_cases ei : i = a
      · obtain rfl : j = b := by omega
        subst ei; exact Int.le_refl _
      · have := h.low i j t hi ht (by rcases hd with hd | ⟨hd, _⟩; exact .inl hd; omega)
        rw [e] at this; omega
    · rw [if_neg e]
      refine h.low i j t hi ht ?_
      rcases hd with hd | ⟨hd, hj⟩
      · exact .inl hd
      · exact .inr ⟨hd, by omega⟩
  · rw [gt_set (by omega)]
    by_cases e : t = a - b
    · rw [if_pos e]; exact .inr ⟨a, b, ha, by omega, rfl⟩
    · rw [if_neg e]; exact h.at_ t ht
theorem DInv.keep {n : Nat} {f g : Nat → Int} {a b : Nat} {L : List Int} (h : DInv n f g a b L) (hk : a < b ∨ f a - g b ≤ gt L (a - b)) : DInv n f g a (b + 1) L := by
  refine ⟨h.len, h.lo, fun i j t hi ht hd => ?_, h.at_⟩
  by_cases e : i = a ∧ j = b
  · obtain ⟨rfl, rfl⟩ := e
    rcases hk with hk | hk
    · omega
    · rwa [show i - j = t by omega] at hk
  · refine h.low i j t hi ht ?_
    rcases hd with hd | ⟨hd, hj⟩
    · exact .inl hd
    · exact .inr ⟨hd, by omega⟩
theorem DInv.row {n : Nat} {f g : Nat → Int} {a : Nat} {L : List Int} (h : DInv n f g a n L) : DInv n f g (a + 1) 0 L := by
  refine ⟨h.len, h.lo, fun i j t hi ht hd => ?_, h.at_⟩
  refine h.low i j t hi ht ?_
  rcases hd with hd | ⟨_, hd⟩
  · by_cases e : i = a
    · exact .inr ⟨e, by omega⟩
    · exact .inl (by omega)
  · omega
theorem DInv.all {l m L : List Int} (h : DInv l.length (gt l) (gt m) l.length 0 L) : L = dcL l m := by
  refine eq_tab h.len (fun t ht => (dc_eq (h.lo t ht) (fun i j hi e => ?_) ?_).symm)
  · exact h.low i j t hi e (.inl hi)
  · rcases h.at_ t ht with h1 | ⟨i, j, h1, h2, h3⟩
    · exact .inl h1
    · exact .inr ⟨i, j, h1, h2, by omega⟩

end Go.Proofs.Ytlaandbaaepamaa
