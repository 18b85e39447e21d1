
/-
  Plain mathematics of Little's law as the statement says it: the times at which what is there changes, sorted.
-/
import Derived.Test.YtmejapenidociaaFifoP
namespace Go.Proofs.Ytmejapenidociaa
set_option linter.all false

/-- When each of the first k packets comes, and when it is done. -/
def tmL (l : List Pk) : Nat → List Int
  | 0 => []
  | k + 1 => tmL l k ++ [(pk l k).at_, dnV l (k + 1)]
theorem length_tmL (l : List Pk) : ∀ k, (tmL l k).length = 2 * k
  | 0 => rfl
  | k + 1 => by rw [tmL, List.length_append, length_tmL l k]; simp; omega
theorem mem_tmL {l : List Pk} {x : Int} : ∀ k, x ∈ tmL l k ↔ ∃ i, i < k ∧ (x = (pk l i).at_ ∨ x = dnV l (i + 1))
  | 0 => by simp [tmL]
  | k + 1 => by
    rw [tmL, List.mem_append, mem_tmL k]
    constructor
    · rintro (⟨i, hi, h⟩ | h)
      · exact ⟨i, by omega, h⟩
      · exact ⟨k, by omega, by simpa using h⟩
    · rintro ⟨i, hi, h⟩
      by_cases e : i = k
      · subst e; exact .inr (by simpa using h)
      · exact .inl ⟨i, by omega, h⟩
theorem tm_bd {l : List Pk} (q : Qu l) {x : Int} {k : Nat} (hk : k ≤ l.length) (h : x ∈ tmL l k) : 0 ≤ x ∧ x ≤ 60200 := by
  obtain ⟨i, hi, h⟩ := (mem_tmL k).1 h
  have hl := q.le
  rcases h with rfl | rfl
  · have := (q.ok i (by omega)).a0; have := (q.ok i (by omega)).a1; omega
  · have := dn_bd q (i + 1) (by omega); omega
/-- A list in order. -/
def srt (L : List Int) : List Int := L.mergeSort fun x y => decide (x ≤ y)
theorem length_srt (L : List Int) : (srt L).length = L.length := List.length_mergeSort _
theorem mem_srt {L : List Int} {x : Int} : x ∈ srt L ↔ x ∈ L := List.mem_mergeSort
theorem up_srt (L : List Int) : Up (srt L) := by
  have h : (srt L).Pairwise (fun x y => decide (x ≤ y) = true) := List.pairwise_mergeSort (fun a b c h1 h2 => by simp at h1 h2 ⊢; omega) (fun a b => by simp; omega) L
  intro i hi
  have := List.pairwise_iff_getElem.1 h i (i + 1) (by omega) hi (by omega)
  rw [gt_of_get (List.getElem?_eq_getElem (by omega)), gt_of_get (List.getElem?_eq_getElem hi)]
  simpa using this
theorem srt_bd {l : List Pk} (q : Qu l) {i : Nat} (h : i < (srt (tmL l l.length)).length) : 0 ≤ gt (srt (tmL l l.length)) i ∧ gt (srt (tmL l l.length)) i ≤ 60200 := by
  rw [gt_of_get (List.getElem?_eq_getElem h)]
  exact tm_bd q (Nat.le_refl _) (mem_srt.1 (List.getElem_mem h))
theorem little_all {l : List Pk} (q : Qu l) : alV l (srt (tmL l l.length)) l.length (2 * l.length - 1) = soV l l.length := by
  have hl : (srt (tmL l l.length)).length = 2 * l.length := by rw [length_srt, length_tmL]
  have at_ : ∀ x, x ∈ tmL l l.length → ∃ p, p < (srt (tmL l l.length)).length ∧ gt (srt (tmL l l.length)) p = x := fun x hx => by
    obtain ⟨p, hp, e⟩ := List.getElem_of_mem (mem_srt.2 hx)
    exact ⟨p, hp, by rw [gt_of_get (List.getElem?_eq_getElem hp), e]⟩
  have := little q (T := srt (tmL l l.length)) (up_srt _) (fun i hi => ⟨at_ _ ((mem_tmL _).2 ⟨i, hi, .inl rfl⟩), at_ _ ((mem_tmL _).2 ⟨i, hi, .inr rfl⟩)⟩) l.length (Nat.le_refl _)
  rw [hl] at this
  exact this
theorem al_bd {l : List Pk} (q : Qu l) : ∀ j, j < (srt (tmL l l.length)).length → 0 ≤ alV l (srt (tmL l l.length)) l.length j ∧ alV l (srt (tmL l l.length)) l.length j ≤ 3612000 * j
  | 0, _ => by simp [alV]
  | j + 1, h => by
    have ih := al_bd q j (by omega)
    have u := up_srt (tmL l l.length) j h
    have b0 := srt_bd q (i := j) (by omega)
    have b1 := srt_bd q (i := j + 1) h
    have c := cn_bd l (gt (srt (tmL l l.length)) j) l.length
    have hle := q.le
    have m0 := Int.mul_nonneg c.1 (show 0 ≤ gt (srt (tmL l l.length)) (j + 1) - gt (srt (tmL l l.length)) j by omega)
    have m1 := Int.mul_le_mul (show cnV l (gt (srt (tmL l l.length)) j) l.length ≤ 60 by omega) (show gt (srt (tmL l l.length)) (j + 1) - gt (srt (tmL l l.length)) j ≤ 60200 by omega) (by omega) (by omega)
    simp only [alV]
    omega
theorem so_bd {l : List Pk} (q : Qu l) : ∀ k, k ≤ l.length → 0 ≤ soV l k ∧ soV l k ≤ 60200 * k
  | 0, _ => by simp [soV]
  | k + 1, h => by
    have ih := so_bd q k (by omega)
    have hx := dn_at l k
    have := (q.ok k (by omega)).s0; have := (q.ok k (by omega)).a0
    have := dn_bd q (k + 1) h
    have hle := q.le
    simp only [soV]; omega

end Go.Proofs.Ytmejapenidociaa
