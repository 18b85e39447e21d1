
/-
  Plain mathematics of a thing that is sent in pieces, with crashes: what is whole, what is left to be put.
-/
import Derived.Test.YtjlkcjaofglpmaaResA
import Derived.Test.YtjlkcjaofglpmaaDelN
import Derived.Test.YtjlkcjaofglpmaaPieH
namespace Go.Proofs.Ytjlkcjaofglpmaa
set_option linter.all false
open Go.RowKit

/-- With no more crashes than are reckoned with, all is there by when it is reckoned. -/
theorem bo_at {s u r k : Int} {c : Nat → Bool} (ok : RsOk s u r) (t : Nat) (ht : crV c t ≤ k) (k1 : k ≤ 200) (hE : boE s u r k = 0) (hV : boV s u r k ≤ t) : reV s u r c t = s := by
  obtain ⟨s0, s1, u0, u1, r0, r1⟩ := ok
  have k0 := cr_lo c t
  have nb : ¬ (BadR s u r ∨ k < 0 ∨ 200 < k) := by
    rintro (h | h | h)
    · exact rs_iff.2 ⟨s0, s1, u0, u1, r0, r1⟩ h
    · omega
    · omega
  have hb := re_bd (c := c) s0 (show 0 < u by omega) r0 t
  have hn := nd_bd s0 s1 u0 u1 (show 0 ≤ k by omega) k1
  by_cases h1 : ndV s u k = 0
  · have := hn.2.2.1 h1; omega
  · by_cases h2 : r = 0
    · rw [boE, if_neg nb, if_neg h1, if_pos h2] at hE; exact absurd hE (by decide)
    · rw [boV, if_pos ⟨hE, h1⟩] at hV
      have hs := (slot_least (s := ndV s u k) (r := r) (d := t) (by omega) (by omega)).2 hV
      refine re_by s0 (by omega) r0 ?_
      have hm := Int.mul_le_mul_of_nonneg_right ht (show 0 ≤ u - 1 by omega)
      unfold ndV at hs h1
      by_cases z : s = 0
      · rw [if_pos z] at h1; exact absurd rfl h1
      · rw [if_neg z, Int.mul_comm (t : Int)] at hs
        omega
theorem cr_up (c : Nat → Bool) {m : Nat} : ∀ {n : Nat}, m ≤ n → crV c m ≤ crV c n
  | 0, h => by obtain rfl : m = 0 := by omega
               exact Int.le_refl _
  | n + 1, h => by
    by_cases e : m = n + 1
    · subst e; exact Int.le_refl _
    · have := cr_up c (n := n) (show m ≤ n by omega)
      simp only [crV]; split <;> omega
theorem bo_or {s u r k : Int} (ok : RsOk s u r) (k0 : 0 ≤ k) (k1 : k ≤ 200) : (boE s u r k = 0 ∨ boE s u r k = 5) ∧ (boE s u r k = 5 → boV s u r k = 0) ∧ 0 ≤ boV s u r k := by
  have nb : ¬ (BadR s u r ∨ k < 0 ∨ 200 < k) := by
    rintro (h | h | h)
    · exact rs_iff.2 ok h
    · omega
    · omega
  have hn := nd_bd ok.s0 ok.s1 ok.u0 ok.u1 k0 k1
  refine ⟨?_, fun h => by rw [boV, if_neg]; rw [h]; rintro ⟨q, _⟩; exact absurd q (by decide), ?_⟩
  · rw [boE, if_neg nb]
    split
    · exact .inl rfl
    · split
      · exact .inr rfl
      · exact .inl rfl
  · unfold boV
    split
    · rename_i q
      have := Int.ediv_nonneg (show 0 ≤ ndV s u k - 1 by omega) ok.r0
      omega
    · omega
/-- How many pieces are whole. -/
def whH (s u X : Int) (N n : Nat) : Nat := if n = 0 then 0 else if X = s then N else (X / u).toNat
theorem wh_facts {s u X : Int} {N n : Nat} (v : WhOk s u) (hN : pcN s u = N) (x0 : 0 ≤ X) (x1 : X ≤ s) (hX : n = 0 → X = 0) : whH s u X N n ≤ N ∧ (whH s u X N n = N ↔ X = s) ∧ (whH s u X N n < N → u * (whH s u X N n : Nat) < s) := by
  have iff0 : N = 0 ↔ s = 0 := by
    have := pcn_iff v.s0 v.u0 (i := 0)
    rw [hN] at this
    have h0 := v.s0
    constructor
    · intro h; by_cases c : s = 0
      · exact c
      · have := this.2 (by simp; omega); omega
    · intro h; by_cases c : N = 0
      · exact c
      · have := this.1 (by omega); simp at this; omega
  unfold whH
  by_cases c : n = 0
  · rw [if_pos c]
    have hx := hX c
    refine ⟨Nat.zero_le _, ⟨fun h => by rw [hx, iff0.1 h.symm], fun h => (iff0.2 (by omega)).symm⟩, fun h => ?_⟩
    have : s ≠ 0 := fun q => by have := iff0.2 q; omega
    have := v.s0
    simp; omega
  · rw [if_neg c]
    by_cases d : X = s
    · rw [if_pos d]; exact ⟨Nat.le_refl _, ⟨fun _ => d, fun _ => rfl⟩, fun h => by omega⟩
    · rw [if_neg d]
      have hq := div_slot (p := X) (show 0 < u by have := v.u0; omega)
      have hq0 := Int.ediv_nonneg x0 (show 0 ≤ u by have := v.u0; omega)
      have e : (((X / u).toNat : Nat) : Int) = X / u := Int.toNat_of_nonneg hq0
      have lt : u * (((X / u).toNat : Nat) : Int) < s := by rw [e, Int.mul_comm]; omega
      have := (pcn_iff v.s0 v.u0 (i := (X / u).toNat)).2 lt
      rw [hN] at this
      exact ⟨by omega, ⟨fun h => by omega, fun h => absurd h d⟩, fun _ => lt⟩
theorem got_first {s u : Int} {m : Nat → Bool} {H : Nat} : ∀ n, (∀ i, i < n → (m i = true ↔ i < H)) → gotS s u m n = pcS s u (min n H)
  | 0, _ => by simp [gotS, pcS]
  | n + 1, h => by
    rw [gotS, got_first n (fun i hi => h i (by omega))]
    by_cases c : n < H
    · rw [if_pos ((h n (by omega)).2 c), show min n H = n by omega, show min (n + 1) H = n + 1 by omega, pcS]
    · rw [if_neg (fun k => c ((h n (by omega)).1 k)), show min n H = H by omega, show min (n + 1) H = H by omega, Int.add_zero]
theorem hv_setN {z : List Bool} {I k : Nat} (hk : k < z.length) : hv (z.set I true) k = false ↔ k ≠ I ∧ hv z k = false := by
  unfold hv
  rw [List.getD, List.getD, List.getElem?_set]
  by_cases c : I = k
  · subst c
    simp [hk]
  · rw [if_neg c]
    exact ⟨fun h => ⟨fun e => c e.symm, h⟩, fun h => h.2⟩
theorem hv_rep {N k : Nat} : hv (List.replicate N false) k = false := by
  unfold hv
  simp only [List.getD, List.getElem?_replicate]
  split <;> rfl
/-- What is left to be put: of the first H pieces those that are not there. -/
structure SnI (l : List Int) (z : List Bool) (H N : Nat) : Prop where
  lo : ∀ j, j < l.length → 0 ≤ gt l j ∧ gt l j < H
  inj : ∀ j k, j < l.length → k < l.length → gt l j = gt l k → j = k
  mem : ∀ k, k < N → (hv z k = false ↔ (H ≤ k ∨ ∃ j, j < l.length ∧ gt l j = k))
theorem SnI.start {H N : Nat} {l : List Int} (hl : l.length = H) (hg : ∀ j, j < H → gt l j = j) : SnI l (List.replicate N false) H N := by
  refine ⟨fun j hj => by rw [hg j (by omega)]; omega, fun j k hj hk e => by rw [hg j (by omega), hg k (by omega)] at e; omega, fun k hk => ⟨fun _ => ?_, fun _ => hv_rep⟩⟩
  by_cases c : H ≤ k
  · exact .inl c
  · exact .inr ⟨k, by omega, hg k (by omega)⟩
theorem SnI.step {l : List Int} {z : List Bool} {H N J I : Nat} (h : SnI l z H N) (hz : z.length = N) (hHN : H ≤ N) (hJ : J < l.length) (hI : gt l J = I) : SnI (l.eraseIdx J) (z.set I true) H N := by
  have hlen : (l.eraseIdx J).length + 1 = l.length := by rw [List.length_eraseIdx, if_pos hJ]; omega
  have ge : ∀ j, j < (l.eraseIdx J).length → gt (l.eraseIdx J) j = gt l (if j < J then j else j + 1) := fun j hj => by
    rw [gt_erase hJ (by omega)]; split <;> rfl
  have hI' := h.lo J hJ
  refine ⟨fun j hj => ?_, fun j k hj hk e => ?_, fun k hk => ?_⟩
  · rw [ge j hj]; exact h.lo _ (by split <;> omega)
  · rw [ge j hj, ge k hk] at e
    have := h.inj _ _ (by split <;> omega) (by split <;> omega) e
    split at this <;> split at this <;> omega
  · rw [hv_setN (by omega), h.mem k hk]
    constructor
    · rintro ⟨ne, q | ⟨j, hj, e⟩⟩
      · exact .inl q
      · have nj : j ≠ J := fun c => by subst c; rw [hI] at e; omega
        by_cases c : j < J
        · exact .inr ⟨j, by omega, by rw [ge j (by omega), if_pos c]; exact e⟩
        · exact .inr ⟨j - 1, by omega, by rw [ge (j - 1) (by omega), if_neg (by omega), show j - 1 + 1 = j by omega]; exact e⟩
    · rintro (q | ⟨j, hj, e⟩)
      · exact ⟨by omega, .inl q⟩
      · rw [ge j hj] at e
        refine ⟨fun c => ?_, .inr ⟨_, by split <;> omega, e⟩⟩
        have := h.inj (if j < J then j else j + 1) J (by split <;> omega) hJ (by rw [e, hI, c])
        split at this <;> omega
theorem SnI.last {l : List Int} {z : List Bool} {H N : Nat} (h : SnI l z H N) (h0 : l.length = 0) (k : Nat) (hk : k < N) : hv z k = true ↔ k < H := by
  have := h.mem k hk
  constructor
  · intro q
    by_cases c : k < H
    · exact c
    · have := this.2 (.inl (by omega)); rw [q] at this; cases this
  · intro q
    cases e : hv z k with
    | true => rfl
    | false =>
      rcases this.1 e with c | ⟨j, hj, _⟩
      · omega
      · omega

end Go.Proofs.Ytjlkcjaofglpmaa
