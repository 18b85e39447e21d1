
/-
  Plain mathematics: the schedule by deadline made job by job, in the order of the deadlines: what stands in the slots; when each job is done.
-/
import Derived.Test.YtoapgdandpcboaaEdfS
namespace Go.Proofs.Ytoapgdandpcboaa
set_option linter.all false

theorem ins_injJ {l : List Jb} {f : Nat → Nat} {n : Nat} (h : InsA l f n) {p q : Nat} (hp : p < n) (hq : q < n) (e : f p = f q) : p = q := by
  rcases Nat.lt_trichotomy p q with c | c | c
  · have := h.ord p q c hq; unfold DLt at this; rw [e] at this; omega
  · exact c
  · have := h.ord q p c hp; unfold DLt at this; rw [e] at this; omega
/-- What the first p jobs of the order do. -/
def doV (l : List Jb) (f : Nat → Nat) : Nat → Nat → Int
  | 0, _ => -1
  | p + 1, s => if edR l s = ((f p : Nat) : Int) then edR l s else doV l f p s
theorem doV_spec (l : List Jb) (f : Nat → Nat) (s : Nat) : ∀ p, (doV l f p s = edR l s ∧ ∃ q, q < p ∧ edR l s = ((f q : Nat) : Int)) ∨ (doV l f p s = -1 ∧ ∀ q, q < p → ¬ edR l s = ((f q : Nat) : Int))
  | 0 => .inr ⟨rfl, fun q hq => by omega⟩
  | p + 1 => by
    rw [doV]
    by_cases c : edR l s = ((f p : Nat) : Int)
    · rw [if_pos c]; exact .inl ⟨rfl, p, by omega, c⟩
    · rw [if_neg c]
      rcases doV_spec l f s p with ⟨a, q, hq, b⟩ | ⟨a, b⟩
      · exact .inl ⟨a, q, by omega, b⟩
      · refine .inr ⟨a, fun q hq => ?_⟩
        by_cases d : q = p
        · subst d; exact c
        · exact b q (by omega)
theorem doV_all {l : List Jb} {f : Nat → Nat} (h : InsA l f l.length) (s : Nat) : doV l f l.length s = edR l s := by
  rcases doV_spec l f s l.length with ⟨a, _⟩ | ⟨a, b⟩
  · exact a
  · rcases edR_range l s with e | ⟨k, e, hk⟩
    · rw [a, e]
    · obtain ⟨q, hq, z⟩ := h.mem k hk
      exact absurd (by rw [e, z]) (b q hq)
theorem doV_neg {l : List Jb} {f : Nat → Nat} {p s : Nat} : doV l f p s < 0 ↔ ∀ q, q < p → ¬ edR l s = ((f q : Nat) : Int) := by
  rcases doV_spec l f s p with ⟨a, q, hq, b⟩ | ⟨a, b⟩
  · rw [a]
    exact ⟨fun c => by omega, fun c => absurd b (c q hq)⟩
  · rw [a]
    exact ⟨fun _ => b, fun _ => by omega⟩
/-- A free slot goes to the next job of the order, if it has come and is not complete. -/
theorem do_pick {l : List Jb} {f : Nat → Nat} (h : InsA l f l.length) {p t : Nat} (hp : p < l.length) (ha : (jb l (f p)).at_ ≤ (t : Int)) (hw : 0 < edL l t (f p)) (hn : doV l f p t < 0) : edR l t = ((f p : Nat) : Int) := by
  have hq := doV_neg.mp hn
  rcases bs_spec l (edL l t) t l.length with ⟨_, z⟩ | ⟨k, z, hk, hpk, hm⟩
  · have := z _ (h.lt p hp)
    rw [pnB_iff.mpr ⟨ha, hw⟩] at this
    exact absurd this (by simp)
  · have ek : edR l t = (k : Int) := z
    obtain ⟨r, hr, er⟩ := h.mem k hk
    have g := hm _ (h.lt p hp) (pnB_iff.mpr ⟨ha, hw⟩)
    rcases Nat.lt_trichotomy r p with c | c | c
    · exact absurd (by rw [ek, er]) (hq r c)
    · subst c; rw [ek, er]
    · have o := h.ord p r c hr
      unfold DLt at o
      rw [er] at o
      omega
theorem edR_pos {l : List Jb} {t k : Nat} (h : edR l t = (k : Int)) : k < l.length ∧ (jb l k).at_ ≤ (t : Int) ∧ 0 < edL l t k := by
  rcases bs_spec l (edL l t) t l.length with ⟨z, _⟩ | ⟨k', z, hk, hpk, _⟩
  · unfold edR at h; omega
  · obtain rfl : k' = k := by unfold edR at h; omega
    have := pnB_iff.mp hpk
    exact ⟨hk, this.1, this.2⟩
/-- Ahead of its release a job has all of its work. -/
theorem ed_before {l : List Jb} {i : Nat} : ∀ t : Nat, (t : Int) ≤ (jb l i).at_ → edL l t i = (jb l i).work
  | 0, _ => rfl
  | t + 1, h => by
    rw [edL_next, if_neg (fun e => by have := (edR_pos e).2.1; omega), Int.sub_zero]
    exact ed_before t (by omega)
/-- With job p of the order as far as slot t. -/
def doW (l : List Jb) (f : Nat → Nat) (p t s : Nat) : Int := if s < t then doV l f (p + 1) s else doV l f p s
theorem doW_start {l : List Jb} {f : Nat → Nat} {p t : Nat} (h : (t : Int) ≤ (jb l (f p)).at_) (s : Nat) : doW l f p t s = doV l f p s := by
  unfold doW
  by_cases c : s < t
  · rw [if_pos c, doV, if_neg (fun e => by have := (edR_pos e).2.1; omega)]
  · rw [if_neg c]
theorem doW_end {l : List Jb} (j : Jobs l) {f : Nat → Nat} {p t : Nat} (hf : f p < l.length) (h : edL l t (f p) = 0) (s : Nat) : doW l f p t s = doV l f (p + 1) s := by
  unfold doW
  by_cases c : s < t
  · rw [if_pos c]
  · rw [if_neg c, doV, if_neg (fun e => by
      have := (edR_pos e).2.2
      rw [((ed_edf l).way j).zero hf (show t ≤ s by omega) h] at this
      omega)]
theorem doW_full {l : List Jb} {f : Nat → Nat} {p H s : Nat} (hs : s < H) : doW l f p H s = doV l f (p + 1) s := if_pos hs
theorem doW_skip {l : List Jb} {f : Nat → Nat} (h : InsA l f l.length) {p t : Nat} (hp : p < l.length) (hn : 0 ≤ doV l f p t) : (∀ s, doW l f p (t + 1) s = doW l f p t s) ∧ edL l (t + 1) (f p) = edL l t (f p) := by
  rcases doV_spec l f t p with ⟨a, q, hq, b⟩ | ⟨a, _⟩
  · have ne : ¬ edR l t = ((f p : Nat) : Int) := fun e => by
      have : f q = f p := by omega
      have := ins_injJ h (by omega) hp this
      omega
    refine ⟨fun s => ?_, by rw [edL_next, if_neg ne, Int.sub_zero]⟩
    unfold doW
    by_cases c : s < t
    · rw [if_pos c, if_pos (by omega)]
    · by_cases d : s = t
      · subst d; rw [if_pos (by omega), if_neg (by omega), doV, if_neg ne]
      · rw [if_neg c, if_neg (by omega)]
  · omega
theorem doW_take {l : List Jb} {f : Nat → Nat} {p t : Nat} (he : edR l t = ((f p : Nat) : Int)) : (∀ s, s ≠ t → doW l f p (t + 1) s = doW l f p t s) ∧ doW l f p (t + 1) t = ((f p : Nat) : Int) ∧ edL l (t + 1) (f p) = edL l t (f p) - 1 := by
  refine ⟨fun s hs => ?_, ?_, by rw [edL_next, if_pos he]⟩
  · unfold doW
    by_cases c : s < t
    · rw [if_pos c, if_pos (by omega)]
    · rw [if_neg c, if_neg (by omega)]
  · unfold doW
    rw [if_pos (by omega), doV, if_pos he, he]
theorem doW_at (l : List Jb) (f : Nat → Nat) (p t : Nat) : doW l f p t t = doV l f p t := if_neg (Nat.lt_irrefl t)
/-- When the first p jobs of the order are done; of the others nothing stands yet. -/
structure DnA (l : List Jb) (f : Nat → Nat) (p : Nat) (D : Nat → Int) : Prop where
  done : ∀ q, q < p → IsDone l 200 (f q) (D (f q))
  rest : ∀ q, p ≤ q → q < l.length → D (f q) = 0
def DnB (l : List Jb) (f : Nat → Nat) (p t : Nat) (D : Nat → Int) : Prop := (0 < edL l t (f p) ∧ DnA l f p D) ∨ (edL l t (f p) = 0 ∧ DnA l f (p + 1) D)
theorem dn_zero (l : List Jb) (f : Nat → Nat) : DnA l f 0 (fun _ => 0) := ⟨fun q hq => by omega, fun _ _ _ => rfl⟩
theorem dn_fin {l : List Jb} {f : Nat → Nat} (h : InsA l f l.length) {p t : Nat} (hp : p < l.length) (ht : t < 200) {D : Nat → Int} (d : DnA l f p D) (h0 : edL l (t + 1) (f p) = 0) (h1 : 0 < edL l t (f p)) : DnA l f (p + 1) (fun i => if i = f p then (t : Int) + 1 else D i) := by
  refine ⟨fun q hq => ?_, fun q h1' h2 => ?_⟩
  · by_cases c : q = p
    · subst c
      rw [if_pos rfl]
      exact .inr ⟨t, ht, rfl, h0, h1⟩
    · rw [if_neg (fun e => c (ins_injJ h (by omega) hp e))]
      exact d.done q (by omega)
  · rw [if_neg (fun e => by have := ins_injJ h h2 hp e; omega)]
    exact d.rest q (by omega) h2
theorem dn_end {l : List Jb} {f : Nat → Nat} {p : Nat} (hp : p < l.length) {D : Nat → Int} (d : DnA l f p D) (h : 0 < edL l 200 (f p)) : DnA l f (p + 1) D := by
  refine ⟨fun q hq => ?_, fun q h1 h2 => d.rest q (by omega) h2⟩
  by_cases c : q = p
  · subst c
    exact .inl ⟨d.rest q (Nat.le_refl _) hp, by omega⟩
  · exact d.done q (by omega)
theorem dn_all {l : List Jb} {f : Nat → Nat} (h : InsA l f l.length) {D : Nat → Int} (d : DnA l f l.length D) {i : Nat} (hi : i < l.length) : IsDone l 200 i (D i) := by
  obtain ⟨q, hq, e⟩ := h.mem i hi
  rw [← e]
  exact d.done q hq
theorem done_bd {l : List Jb} {i : Nat} {d : Int} (h : IsDone l 200 i d) : 0 ≤ d ∧ d ≤ 200 := by
  rcases h with ⟨e, _⟩ | ⟨t, ht, e, _⟩ <;> omega

end Go.Proofs.Ytoapgdandpcboaa
