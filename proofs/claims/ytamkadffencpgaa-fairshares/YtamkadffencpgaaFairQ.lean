
/-
  Plain mathematics of fair queuing: the waiting list, its tickets, its first; the weights' error; what waits at time 0.
-/
import Derived.Test.YtamkadffencpgaaFairP
namespace Go.Proofs.Ytamkadffencpgaa
set_option linter.all false

/-- The weights' error, then the queue's. -/
def wtB : List Int → Bool
  | [] => false
  | x :: r => if x < 1 ∨ 8 < x then true else wtB r
def fwE (v : List Int) (l : List Pk) : Int := if ¬ v.length = 8 then 4 else if wtB v = true then 1 else pksE l
theorem wtB_no : ∀ {v : List Int}, wtB v = false → ∀ i, i < v.length → 1 ≤ gt v i ∧ gt v i ≤ 8
  | [], _, i, h => by simp at h
  | x :: r, hb, i, h => by
    rw [wtB] at hb
    by_cases c : x < 1 ∨ 8 < x
    · rw [if_pos c] at hb; exact absurd hb (by simp)
    · rw [if_neg c] at hb
      match i, h with
      | 0, _ => have : gt (x :: r) 0 = x := rfl
                omega
      | i + 1, h => exact wtB_no hb i (by simpa using h)
theorem fwE_ok {v : List Int} {l : List Pk} (h : fwE v l = 0) : Wts v ∧ pksE l = 0 := by
  unfold fwE at h
  by_cases c : v.length = 8
  · rw [if_neg (by simpa using c)] at h
    by_cases d : wtB v = true
    · rw [if_pos d] at h; exact absurd h (by decide)
    · rw [if_neg d] at h
      have b := wtB_no (v := v) (by simpa using d)
      exact ⟨⟨c, fun i hi => (b i (by omega)).1, fun i hi => (b i (by omega)).2⟩, h⟩
  · rw [if_pos (by simpa using c)] at h; exact absurd h (by decide)

/-- Who waits, in order. -/
def wl (s : Fs) : List Nat := (List.range s.next).filter (fun i => !s.sv i)
theorem mem_wl {s : Fs} {i : Nat} : i ∈ wl s ↔ s.Wait i := by simp [wl, Fs.Wait, List.mem_filter]
theorem wl_nodup (s : Fs) : (wl s).Nodup := List.Nodup.sublist List.filter_sublist List.nodup_range
theorem wl_len (s : Fs) : (wl s).length ≤ s.next := by
  have := List.length_filter_le (fun i => !s.sv i) (List.range s.next)
  rwa [List.length_range] at this
theorem wl_put {l : List Pk} {w : List Int} {s : Fs} (k : Fi l w s) : wl (s.put l w) = wl s ++ [s.next] := by
  have : s.sv s.next = false := by
    cases c : s.sv s.next
    · rfl
    · have := k.sv _ c; omega
  simp [wl, Fs.put, List.range_succ, List.filter_append, this]
theorem erase_at : ∀ {x : List Nat} {k i : Nat}, x.Nodup → x[k]? = some i → x.filter (fun j => !(j == i)) = x.eraseIdx k
  | [], k, i, _, h => by simp at h
  | a :: x, 0, i, nd, h => by
    simp at h; subst h
    rw [List.nodup_cons] at nd
    rw [List.eraseIdx_zero, List.tail_cons, List.filter_cons_of_neg (by simp)]
    rw [List.filter_eq_self]
    intro b hb
    have : b ≠ a := fun e => nd.1 (e ▸ hb)
    simpa using this
  | a :: x, k + 1, i, nd, h => by
    rw [List.nodup_cons] at nd
    have hx : x[k]? = some i := by simpa using h
    have m := List.mem_of_getElem? hx
    have : a ≠ i := fun e => nd.1 (e ▸ m)
    rw [List.eraseIdx_cons_succ, List.filter_cons_of_pos (by simpa using this), erase_at nd.2 hx]
theorem wl_serve {l : List Pk} {s : Fs} {k i : Nat} (h : (wl s)[k]? = some i) : wl (s.serve l i) = (wl s).eraseIdx k := by
  rw [← erase_at (wl_nodup s) h]
  simp only [wl, Fs.serve, List.filter_filter]
  congr 1
  funext j
  by_cases c : j = i
  · subst c; simp [fup_at]
  · simp [fup_ne _ _ c, c]
/-- Their tickets. -/
abbrev Tk := Nat × Int
def tks (s : Fs) : List Tk := (wl s).map (fun i => (i, s.bg i))
theorem length_tks (s : Fs) : (tks s).length = (wl s).length := by simp [tks]
theorem tks_init : tks Fs.init = [] := rfl
theorem tks_jump (l : List Pk) (s : Fs) : tks (s.jump l) = tks s := rfl
theorem tks_put {l : List Pk} {w : List Int} {s : Fs} (k : Fi l w s) : tks (s.put l w) = tks s ++ [(s.next, s.tag l)] := by
  rw [tks, wl_put k, List.map_append]
  congr 1
  · refine List.map_congr_left (fun i hi => ?_)
    have := (mem_wl.mp hi).1
    simp only [Fs.put]; rw [fup_ne _ _ (by omega)]
  · simp [Fs.put, fup_at]
theorem tks_get {s : Fs} {k : Nat} {t : Tk} (h : (tks s)[k]? = some t) : (wl s)[k]? = some t.1 ∧ t.2 = s.bg t.1 := by
  simp only [tks, List.getElem?_map, Option.map_eq_some_iff] at h
  obtain ⟨i, hi, rfl⟩ := h
  exact ⟨hi, rfl⟩
theorem eraseIdx_map {α β : Type} (f : α → β) : ∀ (x : List α) (k : Nat), (x.map f).eraseIdx k = (x.eraseIdx k).map f
  | [], _ => by simp
  | a :: x, 0 => by simp
  | a :: x, k + 1 => by simp [eraseIdx_map f x k]
theorem tks_serve {l : List Pk} {s : Fs} {k : Nat} {t : Tk} (h : (tks s)[k]? = some t) : tks (s.serve l t.1) = (tks s).eraseIdx k := by
  rw [tks, wl_serve (tks_get h).1, tks, eraseIdx_map]
  rfl
/-- Ahead of another. -/
def TkLt (a b : Tk) : Prop := a.2 < b.2 ∨ a.2 = b.2 ∧ a.1 < b.1
theorem best_of {s : Fs} {k : Nat} {t : Tk} (h : (tks s)[k]? = some t) (m : ∀ (j : Nat) (u : Tk), (tks s)[j]? = some u → ¬ TkLt u t) : s.Best t.1 := by
  obtain ⟨h1, h2⟩ := tks_get h
  refine ⟨mem_wl.mp (List.mem_of_getElem? h1), fun j hj => ?_⟩
  obtain ⟨p, hp, e⟩ := List.getElem_of_mem (mem_wl.mpr hj)
  have hu : (tks s)[p]? = some (j, s.bg j) := by
    simp only [tks, List.getElem?_map, List.getElem?_eq_getElem hp, Option.map_some, e]
  have := m p _ hu
  unfold TkLt at this
  simp only at this
  omega
theorem tks_bd {l : List Pk} {w : List Int} {s : Fs} (k : Fi l w s) {j : Nat} {t : Tk} (h : (tks s)[j]? = some t) : t.1 < s.next ∧ 0 ≤ t.2 ∧ t.2 ≤ 840000 * s.next := by
  obtain ⟨h1, h2⟩ := tks_get h
  have m := (mem_wl.mp (List.mem_of_getElem? h1)).1
  rw [h2]
  exact ⟨m, k.bg0 _ m, k.bg1 _ m⟩
theorem wl_nil_all {l : List Pk} {w : List Int} {s : Fs} (k : Fi l w s) (h : wl s = []) (hl : s.out.length < l.length) : s.next < l.length := by
  have nx := k.nx
  by_cases c : s.next = l.length
  · have := k.all c (fun i hi => by have := mem_wl.mpr hi; rw [h] at this; simp at this)
    omega
  · omega
theorem wl_nil_iff {s : Fs} : wl s = [] ↔ ∀ i, ¬ s.Wait i := by
  constructor
  · intro h i hi
    have := mem_wl.mpr hi; rw [h] at this; simp at this
  · intro h
    exact List.eq_nil_iff_forall_not_mem.mpr (fun i hi => h i (mem_wl.mp hi))
theorem out_le {l : List Pk} {w : List Int} {s : Fs} (k : Fi l w s) : s.out.length ≤ l.length := Nat.le_trans k.short k.nx

/-- What waits from time 0 on, in its one order. -/
def MinAt (l : List Pk) (w : List Int) (x : List Nat) : Prop := ∀ k, k < x.length → ∀ j, j < l.length → (∀ p, p < k → nth x p ≠ j) → tgV l w (nth x k) < tgV l w j ∨ tgV l w (nth x k) = tgV l w j ∧ nth x k ≤ j
theorem Fair.min {l : List Pk} {w : List Int} (q : Qu l) (v : Wts w) (z : ∀ i, i < l.length → (pk l i).at_ ≤ 0) {x : List Nat} (h : Fair l w x) : MinAt l w x := by
  obtain ⟨_, n, s, hs, e⟩ := h
  subst e
  exact (hs.zero q v z).min
theorem minAt_uniq {l : List Pk} {w : List Int} {x y : List Nat} (hx : MinAt l w x) (hy : MinAt l w y) (dx : x.Nodup) (dy : y.Nodup) (lx : x.length = l.length) (ly : y.length = l.length) (bx : ∀ i, i ∈ x → i < l.length) (by_ : ∀ i, i ∈ y → i < l.length) :
    ∀ k, k < l.length → nth x k = nth y k := by
  intro k
  induction k using Nat.strongRecOn with
  | _ k ih =>
    intro hk
    have h1 := hx k (by omega) (nth y k) (by_ _ (nth_mem (by omega))) (fun p hp e => by
      rw [ih p hp (by omega)] at e
      exact nth_ne dy hp (by omega) e)
    have h2 := hy k (by omega) (nth x k) (bx _ (nth_mem (by omega))) (fun p hp e => by
      rw [← ih p hp (by omega)] at e
      exact nth_ne dx hp (by omega) e)
    omega
theorem fair_zero_is {l : List Pk} {w : List Int} (q : Qu l) (v : Wts w) (z : ∀ i, i < l.length → (pk l i).at_ ≤ 0) {x y : List Nat} (h : Fair l w x) (hy : MinAt l w y) (dy : y.Nodup) (ly : y.length = l.length) (by_ : ∀ i, i ∈ y → i < l.length) : x = y := by
  have e := minAt_uniq (h.min q v z) hy (h.nodup q v) dy h.1 ly (fun i hi => h.lt q v hi) by_
  refine List.ext_getElem (by rw [h.1, ly]) (fun k h1 h2 => ?_)
  have := e k (by have := h.1; omega)
  simpa [nth, List.getD, List.getElem?_eq_getElem h1, List.getElem?_eq_getElem h2] using this
/-- Of one flow: in order. -/
theorem fair_one {l : List Pk} {w : List Int} (q : Qu l) (v : Wts w) {x : List Nat} (h : Fair l w x) (z : ∀ i, i < l.length → fl l i = 0) {a b : Nat} (hab : a < b) (hb : b < x.length) : nth x a < nth x b :=
  h.ord q v hab hb (by rw [z _ (h.lt q v (nth_mem (by omega))), z _ (h.lt q v (nth_mem hb))])

end Go.Proofs.Ytamkadffencpgaa
