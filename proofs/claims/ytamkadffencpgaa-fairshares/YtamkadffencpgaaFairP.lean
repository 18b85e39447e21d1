
/-
  Plain mathematics of fair queuing by start tags: the moves, what they keep; Goyal, Vin, Cheng.
-/
import Derived.Test.YtamkadffencpgaaBucketP
import Derived.Test.YtamkadffencpgaaPlain
namespace Go.Proofs.Ytamkadffencpgaa
set_option linter.all false

def fup {α : Type} (f : Nat → α) (i : Nat) (v : α) : Nat → α := fun j => if j = i then v else f j
theorem fup_at {α : Type} (f : Nat → α) (i : Nat) (v : α) : fup f i v i = v := by simp [fup]
theorem fup_ne {α : Type} (f : Nat → α) {i j : Nat} (v : α) (h : j ≠ i) : fup f i v j = f j := by simp [fup, h]
def nth (x : List Nat) (p : Nat) : Nat := x.getD p 0
theorem nth_old {x : List Nat} {i p : Nat} (h : p < x.length) : nth (x ++ [i]) p = nth x p := by simp [nth, List.getD, List.getElem?_append_left h]
theorem nth_new {x : List Nat} {i : Nat} : nth (x ++ [i]) x.length = i := by simp [nth, List.getD]
theorem nth_mem {x : List Nat} {p : Nat} (h : p < x.length) : nth x p ∈ x := by
  simp only [nth, List.getD, List.getElem?_eq_getElem h, Option.getD_some]; exact List.getElem_mem h
theorem mem_nth {x : List Nat} {i : Nat} (h : i ∈ x) : ∃ p, p < x.length ∧ nth x p = i := by
  obtain ⟨p, hp, e⟩ := List.getElem_of_mem h
  exact ⟨p, hp, by simp only [nth, List.getD, List.getElem?_eq_getElem hp, Option.getD_some]; exact e⟩

/-- Eight weights. -/
structure Wts (w : List Int) : Prop where
  len : w.length = 8
  lo : ∀ i, i < 8 → 1 ≤ gt w i
  hi : ∀ i, i < 8 → gt w i ≤ 8
/-- A packet's flow; what it costs, by its weight. -/
def fl (l : List Pk) (i : Nat) : Nat := (pk l i).flow.toNat
def fw (l : List Pk) (w : List Int) (i : Nat) : Int := 840 / gt w (fl l i) * (pk l i).size
theorem part_of {x : Int} (h1 : 1 ≤ x) (h2 : x ≤ 8) : 840 / x * x = 840 ∧ 105 ≤ 840 / x ∧ 840 / x ≤ 840 := by
  have : x = 1 ∨ x = 2 ∨ x = 3 ∨ x = 4 ∨ x = 5 ∨ x = 6 ∨ x = 7 ∨ x = 8 := by omega
  rcases this with h | h | h | h | h | h | h | h <;> subst h <;> decide
theorem part_other {x y : Int} (h1 : 1 ≤ x) (h2 : x ≤ 8) : 840 * y / x = 840 / x * y := by
  have h := (part_of h1 h2).1
  rw [← h, show 840 / x * x * y = 840 / x * y * x by rw [Int.mul_assoc, Int.mul_comm x y, ← Int.mul_assoc], Int.mul_ediv_cancel _ (by omega), h]
theorem fl_lt {l : List Pk} (q : Qu l) {i : Nat} (h : i < l.length) : fl l i < 8 := by
  have := (q.ok i h).f0; have := (q.ok i h).f1; unfold fl; omega
theorem fw_bd {l : List Pk} {w : List Int} (q : Qu l) (v : Wts w) {i : Nat} (h : i < l.length) : 1 ≤ fw l w i ∧ fw l w i ≤ 840000 := by
  have f := fl_lt q h
  have p := part_of (v.lo _ f) (v.hi _ f)
  have k := q.ok i h
  have s0 := k.s0; have s1 := k.s1
  unfold fw
  generalize 840 / gt w (fl l i) = c at p
  have h1 := Int.mul_le_mul p.2.1 s0 (by omega) (by omega)
  have h2 := Int.mul_le_mul p.2.2 s1 (by omega) (by omega)
  omega

/-- Where a run stands, and its moves. -/
structure Fs where
  now : Int
  last : Int
  next : Nat
  bg : Nat → Int
  en : Nat → Int
  sv : Nat → Bool
  out : List Nat
def Fs.init : Fs := ⟨0, 0, 0, fun _ => 0, fun _ => 0, fun _ => false, []⟩
def Fs.tag (l : List Pk) (s : Fs) : Int := max (s.en (fl l s.next)) s.last
def Fs.put (l : List Pk) (w : List Int) (s : Fs) : Fs := ⟨s.now, s.last, s.next + 1, fup s.bg s.next (s.tag l), fup s.en (fl l s.next) (s.tag l + fw l w s.next), s.sv, s.out⟩
def Fs.jump (l : List Pk) (s : Fs) : Fs := ⟨(pk l s.next).at_, s.last, s.next, s.bg, s.en, s.sv, s.out⟩
def Fs.serve (l : List Pk) (s : Fs) (i : Nat) : Fs := ⟨s.now + (pk l i).size, s.bg i, s.next, s.bg, s.en, fup s.sv i true, s.out ++ [i]⟩
def Fs.Come (l : List Pk) (s : Fs) : Prop := s.next < l.length ∧ (pk l s.next).at_ ≤ s.now
def Fs.Wait (s : Fs) (i : Nat) : Prop := i < s.next ∧ s.sv i = false
def Fs.Best (s : Fs) (i : Nat) : Prop := s.Wait i ∧ ∀ j, s.Wait j → s.bg i < s.bg j ∨ s.bg i = s.bg j ∧ i ≤ j
inductive Fs.Go (l : List Pk) (w : List Int) (s : Fs) : Fs → Prop
  | put : s.Come l → Fs.Go l w s (s.put l w)
  | jump : ¬ s.Come l → (∀ i, ¬ s.Wait i) → s.next < l.length → Fs.Go l w s (s.jump l)
  | serve (i : Nat) : ¬ s.Come l → s.Best i → Fs.Go l w s (s.serve l i)
theorem Fs.Best.uniq {s : Fs} {i j : Nat} (h : s.Best i) (k : s.Best j) : i = j := by
  have := h.2 j k.1; have := k.2 i h.1; omega
theorem Fs.Go.uniq {l : List Pk} {w : List Int} {s t u : Fs} (h : Fs.Go l w s t) (k : Fs.Go l w s u) : t = u := by
  cases h with
  | put a => cases k with
    | put => rfl
    | jump b => exact absurd a b
    | serve j b => exact absurd a b
  | jump a n _ => cases k with
    | put b => exact absurd b a
    | jump => rfl
    | serve j _ b => exact absurd b.1 (n j)
  | serve i a b => cases k with
    | put c => exact absurd c a
    | jump _ n => exact absurd b.1 (n i)
    | serve j _ c => rw [b.uniq c]
/-- Behind n moves. -/
inductive Fr (l : List Pk) (w : List Int) : Nat → Fs → Prop
  | init : Fr l w 0 Fs.init
  | go {n : Nat} {s t : Fs} : Fr l w n s → Fs.Go l w s t → Fr l w (n + 1) t
theorem Fr.uniq {l : List Pk} {w : List Int} {n : Nat} : ∀ {s t : Fs}, Fr l w n s → Fr l w n t → s = t := by
  induction n with
  | zero => intro s t h k; cases h; cases k; rfl
  | succ n ih =>
    intro s t h k
    cases h with
    | go h1 h2 => cases k with
      | go k1 k2 => cases ih h1 k1; exact h2.uniq k2
theorem Fr.prefix {l : List Pk} {w : List Int} {m n : Nat} : ∀ {t : Fs}, Fr l w m t → n < m → ∃ s u, Fr l w n s ∧ Fs.Go l w s u := by
  induction m with
  | zero => intro t _ h; omega
  | succ m ih =>
    intro t h hn
    cases h with
    | go h1 h2 =>
      by_cases c : n = m
      · subst c; exact ⟨_, _, h1, h2⟩
      · exact ih h1 (by omega)

/-- What the moves keep. -/
structure Fi (l : List Pk) (w : List Int) (s : Fs) : Prop where
  nx : s.next ≤ l.length
  sv : ∀ i, s.sv i = true → i < s.next
  mem : ∀ i, i ∈ s.out ↔ s.sv i = true
  nodup : s.out.Nodup
  inc : ∀ i j, i < j → j < s.next → fl l i = fl l j → s.bg i + fw l w i ≤ s.bg j
  fin : ∀ i, i < s.next → s.bg i + fw l w i ≤ s.en (fl l i)
  first : ∀ i j, i < j → fl l i = fl l j → s.sv j = true → s.sv i = true
  ord : ∀ p q, p < q → q < s.out.length → fl l (nth s.out p) = fl l (nth s.out q) → nth s.out p < nth s.out q
  now0 : 0 ≤ s.now
  now1 : s.now ≤ 200 + 1000 * s.out.length
  last0 : 0 ≤ s.last
  last1 : s.last ≤ 840000 * s.next
  bg0 : ∀ i, i < s.next → 0 ≤ s.bg i
  bg1 : ∀ i, i < s.next → s.bg i ≤ 840000 * s.next
  en0 : ∀ f, 0 ≤ s.en f
  en1 : ∀ f, s.en f ≤ 840000 * s.next
theorem Fi.init (l : List Pk) (w : List Int) : Fi l w Fs.init := by
  refine ⟨Nat.zero_le _, fun i h => ?_, fun i => ?_, List.nodup_nil, fun i j _ h => ?_, fun i h => ?_, fun i j _ _ h => ?_, fun p q _ h => ?_, Int.le_refl _, ?_, Int.le_refl _, ?_, fun i h => ?_, fun i h => ?_, fun f => Int.le_refl _, fun f => ?_⟩ <;> simp_all [Fs.init]
theorem Fi.put {l : List Pk} {w : List Int} {s : Fs} (q : Qu l) (v : Wts w) (k : Fi l w s) (h : s.Come l) : Fi l w (s.put l w) := by
  have b := fw_bd q v h.1
  have t0 : s.last ≤ s.tag l ∧ s.en (fl l s.next) ≤ s.tag l ∧ (s.tag l = s.last ∨ s.tag l = s.en (fl l s.next)) := by unfold Fs.tag; omega
  have e0 := k.en0 (fl l s.next); have e1 := k.en1 (fl l s.next); have l0 := k.last0; have l1 := k.last1
  refine ⟨h.1, fun i hi => ?_, k.mem, k.nodup, fun i j hij hj e => ?_, fun i hi => ?_, k.first, k.ord, k.now0, k.now1, l0, ?_, fun i hi => ?_, fun i hi => ?_, fun f => ?_, fun f => ?_⟩ <;> simp only [Fs.put] at *
  · have := k.sv i hi; omega
  · rw [fup_ne s.bg _ (show i ≠ s.next by omega)]
    by_cases c : j = s.next
    · subst c; rw [fup_at]
      have := k.fin i hij; rw [e] at this; omega
    · rw [fup_ne _ _ c]; exact k.inc i j hij (by omega) e
  · by_cases c : i = s.next
    · subst c; rw [fup_at, fup_at]; exact Int.le_refl _
    · rw [fup_ne _ _ c]
      have := k.fin i (by omega)
      by_cases d : fl l i = fl l s.next
      · rw [d, fup_at]; rw [d] at this; omega
      · rw [fup_ne _ _ d]; exact this
  · omega
  · by_cases c : i = s.next
    · subst c; rw [fup_at]; omega
    · rw [fup_ne _ _ c]; exact k.bg0 i (by omega)
  · by_cases c : i = s.next
    · subst c; rw [fup_at]; omega
    · rw [fup_ne _ _ c]; have := k.bg1 i (by omega); omega
  · by_cases d : f = fl l s.next
    · subst d; rw [fup_at]; omega
    · rw [fup_ne _ _ d]; exact k.en0 f
  · by_cases d : f = fl l s.next
    · subst d; rw [fup_at]; omega
    · rw [fup_ne _ _ d]; have := k.en1 f; omega
theorem Fi.jump {l : List Pk} {w : List Int} {s : Fs} (q : Qu l) (k : Fi l w s) (h : s.next < l.length) : Fi l w (s.jump l) := by
  have p := q.ok _ h
  exact ⟨k.nx, k.sv, k.mem, k.nodup, k.inc, k.fin, k.first, k.ord, p.a0, by have := p.a1; simp only [Fs.jump]; omega, k.last0, k.last1, k.bg0, k.bg1, k.en0, k.en1⟩
theorem Fi.serve {l : List Pk} {w : List Int} {s : Fs} {i : Nat} (q : Qu l) (v : Wts w) (k : Fi l w s) (h : s.Best i) : Fi l w (s.serve l i) := by
  have p := q.ok i (by have := h.1.1; have := k.nx; omega)
  have s0 := p.s0; have s1 := p.s1; have n0 := k.now0; have n1 := k.now1
  have ni : i ∉ s.out := fun m => by have := (k.mem i).mp m; rw [h.1.2] at this; exact absurd this (by simp)
  have old : ∀ j, j < i → fl l j = fl l i → s.sv j = true := fun j hj e => by
    by_cases c : s.sv j = true
    · exact c
    · have hj' : j < s.next := by have := h.1.1; omega
      have a := h.2 j ⟨hj', by simpa using c⟩
      have b := k.inc j i hj h.1.1 e
      have d := fw_bd q v (show j < l.length by have := k.nx; omega)
      omega
  refine ⟨k.nx, fun j hj => ?_, fun j => ?_, ?_, k.inc, k.fin, fun j m hjm e hm => ?_, fun a b hab hb e => ?_, ?_, ?_, k.bg0 i h.1.1, k.bg1 i h.1.1, k.bg0, k.bg1, k.en0, k.en1⟩ <;> simp only [Fs.serve] at *
  · by_cases c : j = i
    · subst c; exact h.1.1
    · rw [fup_ne _ _ c] at hj; exact k.sv j hj
  · rw [List.mem_append, List.mem_singleton, k.mem j]
    by_cases c : j = i
    · subst c; simp [fup_at]
    · rw [fup_ne _ _ c]; simp [c]
  · rw [List.nodup_append]
    refine ⟨k.nodup, by simp, fun a ha b hb => ?_⟩
    rw [List.mem_singleton] at hb; subst hb
    exact fun e => ni (e ▸ ha)
  · by_cases c : j = i
    · subst c; exact fup_at _ _ _
    · rw [fup_ne _ _ c]
      by_cases d : m = i
      · subst d; exact old j hjm e
      · rw [fup_ne _ _ d] at hm; exact k.first j m hjm e hm
  · rw [List.length_append, List.length_singleton] at hb
    rw [nth_old (show a < s.out.length by omega)] at e ⊢
    by_cases c : b = s.out.length
    · subst c; rw [nth_new] at e ⊢
      have m := nth_mem (show a < s.out.length by omega)
      have m' := (k.mem _).mp m
      by_cases d : nth s.out a < i
      · exact d
      · by_cases d' : nth s.out a = i
        · exact absurd (d' ▸ m) ni
        · have := k.first i (nth s.out a) (by omega) e.symm m'
          rw [h.1.2] at this; exact absurd this (by simp)
    · rw [nth_old (show b < s.out.length by omega)] at e ⊢
      exact k.ord a b hab (by omega) e
  · omega
  · rw [List.length_append, List.length_singleton]; omega
theorem Fr.inv {l : List Pk} {w : List Int} (q : Qu l) (v : Wts w) {n : Nat} {s : Fs} (h : Fr l w n s) : Fi l w s := by
  induction h with
  | init => exact Fi.init l w
  | go _ g ih => cases g with
    | put c => exact ih.put q v c
    | jump _ _ c => exact ih.jump q c
    | serve i _ c => exact ih.serve q v c
theorem nodup_le : ∀ {a b : List Nat}, a.Nodup → (∀ i, i ∈ a → i ∈ b) → a.length ≤ b.length
  | [], _, _, _ => Nat.zero_le _
  | x :: a, b, h, s => by
    rw [List.nodup_cons] at h
    have m := s x List.mem_cons_self
    have := nodup_le (b := b.erase x) h.2 (fun i hi => (List.mem_erase_of_ne (fun (e : i = x) => h.1 (e ▸ hi))).mpr (s i (List.mem_cons_of_mem _ hi)))
    rw [List.length_erase_of_mem m] at this
    have := List.length_pos_of_mem m
    rw [List.length_cons]; omega
theorem nodup_mem {a b : List Nat} (h : a.Nodup) (s : ∀ i, i ∈ a → i ∈ b) (le : b.length ≤ a.length) {i : Nat} (hi : i ∈ b) : i ∈ a := by
  by_cases c : i ∈ a
  · exact c
  · have := nodup_le (a := i :: a) (b := b) (List.nodup_cons.mpr ⟨c, h⟩) (fun j hj => by
      rcases List.mem_cons.mp hj with e | e
      · exact e ▸ hi
      · exact s j e)
    rw [List.length_cons] at this; omega
theorem Fi.sub {l : List Pk} {w : List Int} {s : Fs} (k : Fi l w s) (i : Nat) (hi : i ∈ s.out) : i ∈ List.range s.next := List.mem_range.mpr (k.sv i ((k.mem i).mp hi))
theorem Fi.short {l : List Pk} {w : List Int} {s : Fs} (k : Fi l w s) : s.out.length ≤ s.next := by
  have le := nodup_le k.nodup k.sub
  rw [List.length_range] at le; exact le
theorem Fi.full {l : List Pk} {w : List Int} {s : Fs} (k : Fi l w s) (h : s.out.length = l.length) : s.next = l.length ∧ ∀ i, ¬ s.Wait i := by
  have le := k.short
  have nx := k.nx
  refine ⟨by omega, fun i hi => ?_⟩
  have := (k.mem i).mp (nodup_mem k.nodup k.sub (by rw [List.length_range]; omega) (List.mem_range.mpr hi.1))
  rw [hi.2] at this; exact absurd this (by simp)
/-- Who has none waiting and put all has served all. -/
theorem Fi.all {l : List Pk} {w : List Int} {s : Fs} (k : Fi l w s) (h : s.next = l.length) (hw : ∀ i, ¬ s.Wait i) : s.out.length = l.length := by
  have le := nodup_le (a := List.range s.next) (b := s.out) List.nodup_range (fun i hi => by
    refine (k.mem i).mpr ?_
    by_cases c : s.sv i = true
    · exact c
    · exact absurd ⟨List.mem_range.mp hi, by simpa using c⟩ (hw i))
  rw [List.length_range] at le
  have := k.short
  omega
theorem Fr.ended {l : List Pk} {w : List Int} (q : Qu l) (v : Wts w) {n : Nat} {s u : Fs} (h : Fr l w n s) (f : s.out.length = l.length) : ¬ Fs.Go l w s u := fun g => by
  have := (h.inv q v).full f
  cases g with
  | put c => have := c.1; omega
  | jump _ _ c => omega
  | serve i _ c => exact this.2 i c.1
/-- However one gets there, the order is one. -/
theorem Fr.same {l : List Pk} {w : List Int} (q : Qu l) (v : Wts w) {n m : Nat} {s t : Fs} (h : Fr l w n s) (k : Fr l w m t) (f : s.out.length = l.length) (g : t.out.length = l.length) : s.out = t.out := by
  have one : ∀ {a b : Nat} {x y : Fs}, Fr l w a x → Fr l w b y → x.out.length = l.length → ¬ a < b := fun {a b x y} hx hy fx c => by
    obtain ⟨x', u, hx', gu⟩ := hy.prefix c
    rw [← hx.uniq hx'] at gu
    exact hx.ended q v fx gu
  have e : n = m := by have := one h k f; have := one k h g; omega
  subst e
  rw [h.uniq k]
/-- An order that a run ends with. -/
def Fair (l : List Pk) (w : List Int) (x : List Nat) : Prop := x.length = l.length ∧ ∃ n s, Fr l w n s ∧ s.out = x
theorem Fair.uniq {l : List Pk} {w : List Int} (q : Qu l) (v : Wts w) {x y : List Nat} (h : Fair l w x) (k : Fair l w y) : x = y := by
  obtain ⟨hx, n, s, hs, e⟩ := h
  obtain ⟨hy, m, t, ht, e'⟩ := k
  subst e; subst e'
  exact hs.same q v ht hx hy
theorem Fair.nodup {l : List Pk} {w : List Int} (q : Qu l) (v : Wts w) {x : List Nat} (h : Fair l w x) : x.Nodup := by
  obtain ⟨_, n, s, hs, e⟩ := h; subst e; exact (hs.inv q v).nodup
theorem Fair.lt {l : List Pk} {w : List Int} (q : Qu l) (v : Wts w) {x : List Nat} (h : Fair l w x) {i : Nat} (hi : i ∈ x) : i < l.length := by
  obtain ⟨_, n, s, hs, e⟩ := h; subst e
  have k := hs.inv q v
  have := k.sv i ((k.mem i).mp hi); have := k.nx; omega
theorem Fair.ord {l : List Pk} {w : List Int} (q : Qu l) (v : Wts w) {x : List Nat} (h : Fair l w x) {a b : Nat} (hab : a < b) (hb : b < x.length) (e : fl l (nth x a) = fl l (nth x b)) : nth x a < nth x b := by
  obtain ⟨_, n, s, hs, e'⟩ := h; subst e'; exact (hs.inv q v).ord a b hab hb e
theorem nth_ne {x : List Nat} (h : x.Nodup) {a b : Nat} (hab : a < b) (hb : b < x.length) : nth x a ≠ nth x b := by
  simp only [nth, List.getD, List.getElem?_eq_getElem hb, List.getElem?_eq_getElem (show a < x.length by omega), Option.getD_some]
  exact List.pairwise_iff_getElem.mp h a b (by omega) hb hab

/-- Sums over a flow. -/
def ff (F : Nat → Nat) (f : Nat) (g : Nat → Int) : Nat → Int
  | 0 => 0
  | i + 1 => ff F f g i + if F i = f then g i else 0
theorem ff_gap {F : Nat → Nat} {f : Nat} {g : Nat → Int} {h : Nat} : ∀ d, (∀ i, h ≤ i → i < h + d → F i ≠ f) → ff F f g (h + d) = ff F f g h
  | 0, _ => rfl
  | d + 1, k => by
    rw [show h + (d + 1) = h + d + 1 by omega, ff, if_neg (k (h + d) (by omega) (by omega)), ff_gap d (fun i h1 h2 => k i h1 (by omega))]
    omega
theorem ff_same {F : Nat → Nat} {f : Nat} {g : Nat → Int} {h j : Nat} (hj : h ≤ j) (k : ∀ i, h ≤ i → i < j → F i ≠ f) : ff F f g j = ff F f g h := by
  have := ff_gap (g := g) (h := h) (j - h) (fun i h1 h2 => k i h1 (by omega))
  rwa [show h + (j - h) = j by omega] at this
theorem ff_first {F : Nat → Nat} {f : Nat} {g : Nat → Int} {h : Nat} : ∀ n, h ≤ n → ff F f g n ≠ ff F f g h → ∃ j, h ≤ j ∧ j < n ∧ F j = f ∧ ∀ i, h ≤ i → i < j → F i ≠ f
  | 0, hn, ne => by
    have : h = 0 := by omega
    subst this; exact absurd rfl ne
  | n + 1, hn, ne => by
    by_cases c : h = n + 1
    · subst c; exact absurd rfl ne
    · by_cases d : ff F f g n = ff F f g h
      · by_cases e : ∃ j, h ≤ j ∧ j < n ∧ F j = f ∧ ∀ i, h ≤ i → i < j → F i ≠ f
        · obtain ⟨j, h1, h2, h3⟩ := e; exact ⟨j, h1, by omega, h3⟩
        · have fn : F n = f := by
            by_cases c' : F n = f
            · exact c'
            · rw [ff, if_neg c'] at ne; exact absurd (by omega) ne
          refine ⟨n, by omega, by omega, fn, ?_⟩
          -- none ahead of n: else there is a first one
          have none : ∀ m, h ≤ m → m ≤ n → ∀ i, h ≤ i → i < m → F i ≠ f := by
            intro m
            induction m with
            | zero => intro _ _ i _ hi; omega
            | succ m ih =>
              intro h1 h2 i hi hm fi
              by_cases c1 : h ≤ m
              · have ih' := ih c1 (by omega)
                by_cases c2 : i = m
                · subst c2; exact e ⟨i, hi, by omega, fi, ih'⟩
                · exact ih' i hi (by omega) fi
              · omega
          exact none n (by omega) (Nat.le_refl _)
      · obtain ⟨j, h1, h2, h3⟩ := ff_first n (by omega) d
        exact ⟨j, h1, by omega, h3⟩
theorem ff_up {F : Nat → Nat} {f : Nat} {g : Nat → Int} (n : Nat) (h : ∀ i, i < n → 0 ≤ g i) : ∀ {i j : Nat}, i ≤ j → j ≤ n → ff F f g i ≤ ff F f g j := by
  intro i j hij hj
  induction j with
  | zero => have : i = 0 := by omega
            subst this; exact Int.le_refl _
  | succ j ih =>
    by_cases c : i = j + 1
    · subst c; exact Int.le_refl _
    · have := ih (by omega) (by omega); have := h j (by omega)
      rw [ff]; split <;> omega

/-- When all are there from the beginning on: the tags. -/
def sz (l : List Pk) (i : Nat) : Int := (pk l i).size
def tgV (l : List Pk) (w : List Int) (i : Nat) : Int := 840 / gt w (fl l i) * ff (fl l) (fl l i) (sz l) i
theorem st_inc {l : List Pk} {w : List Int} (q : Qu l) (v : Wts w) {i j : Nat} (hij : i < j) (hj : j < l.length) (e : fl l i = fl l j) : tgV l w i < tgV l w j := by
  have p := part_of (v.lo _ (fl_lt q hj)) (v.hi _ (fl_lt q hj))
  have h1 : ff (fl l) (fl l j) (sz l) (i + 1) ≤ ff (fl l) (fl l j) (sz l) j := ff_up l.length (fun i hi => by have := (q.ok i hi).s0; unfold sz; omega) (by omega) (by omega)
  have s0 := (q.ok i (by omega)).s0
  rw [ff, if_pos e] at h1
  unfold tgV
  rw [e]
  unfold sz at *
  refine Int.mul_lt_mul_of_pos_left ?_ (by omega)
  omega
structure Fz (l : List Pk) (w : List Int) (s : Fs) : Prop where
  all : s.out ≠ [] → s.next = l.length
  last : s.out = [] → s.last = 0
  en : s.out = [] → ∀ f, s.en f = 840 / gt w f * ff (fl l) f (sz l) s.next
  bg : ∀ i, i < s.next → s.bg i = tgV l w i
  min : ∀ k, k < s.out.length → ∀ j, j < l.length → (∀ p, p < k → nth s.out p ≠ j) → tgV l w (nth s.out k) < tgV l w j ∨ tgV l w (nth s.out k) = tgV l w j ∧ nth s.out k ≤ j
theorem Fr.zero {l : List Pk} {w : List Int} (q : Qu l) (v : Wts w) (z : ∀ i, i < l.length → (pk l i).at_ ≤ 0) {n : Nat} {s : Fs} (h : Fr l w n s) : Fz l w s := by
  induction h with
  | init => exact ⟨fun h => absurd rfl h, fun _ => rfl, fun _ f => by simp [Fs.init, ff], fun i hi => absurd hi (by simp [Fs.init]), fun k hk => absurd hk (by simp [Fs.init])⟩
  | @go n s t r g ih =>
    have k := r.inv q v
    cases g with
    | put c =>
      have o : s.out = [] := by
        by_cases d : s.out = []
        · exact d
        · have := ih.all d; have := c.1; omega
      have e0 := ih.en o
      have l0 := ih.last o
      have tg : s.tag l = s.en (fl l s.next) := by have := k.en0 (fl l s.next); unfold Fs.tag; omega
      refine ⟨fun h => absurd o h, ih.last, fun _ f => ?_, fun i hi => ?_, ih.min⟩ <;> simp only [Fs.put] at *
      · by_cases d : f = fl l s.next
        · subst d; rw [fup_at, tg, e0, ff, if_pos rfl, Int.mul_add]; rfl
        · rw [fup_ne _ _ d, e0, ff, if_neg (Ne.symm d), Int.add_zero]
      · by_cases d : i = s.next
        · subst d; rw [fup_at, tg, e0]; rfl
        · rw [fup_ne _ _ d]; exact ih.bg i (by omega)
    | jump c _ d => exact absurd ⟨d, by have := z _ d; have := k.now0; omega⟩ c
    | serve i c b =>
      have nx : s.next = l.length := by
        by_cases d : s.next < l.length
        · exact absurd ⟨d, by have := z _ d; have := k.now0; omega⟩ c
        · have := k.nx; omega
      refine ⟨fun _ => nx, fun h => absurd h (by simp [Fs.serve]), fun h => absurd h (by simp [Fs.serve]), ih.bg, fun p hp j hj hn => ?_⟩
      simp only [Fs.serve] at *
      rw [List.length_append, List.length_singleton] at hp
      by_cases d : p = s.out.length
      · subst d; rw [nth_new]
        have wj : s.Wait j := ⟨by omega, by
          cases c' : s.sv j with
          | false => rfl
          | true =>
            obtain ⟨p, hp, e⟩ := mem_nth ((k.mem j).mpr c')
            have := hn p hp
            rw [nth_old hp] at this
            exact absurd e this⟩
        have := b.2 j wj
        rw [ih.bg i b.1.1, ih.bg j wj.1] at this
        exact this
      · rw [nth_old (by omega)]
        refine ih.min p (by omega) j hj (fun a ha => ?_)
        have := hn a ha
        rwa [nth_old (by omega)] at this
/-- How far each flow is. -/
theorem heads {l : List Pk} {w : List Int} (q : Qu l) (v : Wts w) {x : List Nat} (nd : x.Nodup) (lt : ∀ i, i ∈ x → i < l.length)
    (mn : ∀ k, k < x.length → ∀ j, j < l.length → (∀ p, p < k → nth x p ≠ j) → tgV l w (nth x k) < tgV l w j ∨ tgV l w (nth x k) = tgV l w j ∧ nth x k ≤ j) (f : Nat) :
    ∀ k, k ≤ x.length → ∃ h, h ≤ l.length ∧ (∀ j, j < l.length → fl l j = f → ((∃ p, p < k ∧ nth x p = j) ↔ j < h)) ∧ ∀ g, ff (fun p => fl l (nth x p)) f (fun p => g (nth x p)) k = ff (fl l) f g h
  | 0, _ => ⟨0, Nat.zero_le _, fun j _ _ => ⟨fun ⟨p, hp, _⟩ => by omega, fun h => by omega⟩, fun g => rfl⟩
  | k + 1, hk => by
    obtain ⟨h, hl, hm, hs⟩ := heads q v nd lt mn f k (by omega)
    have il := lt _ (nth_mem (show k < x.length by omega))
    by_cases c : fl l (nth x k) = f
    · have old : ∀ j, j < nth x k → fl l j = f → ∃ p, p < k ∧ nth x p = j := fun j hj fj => by
        by_cases d : ∃ p, p < k ∧ nth x p = j
        · exact d
        · have := mn k (by omega) j (by omega) (fun p hp e => d ⟨p, hp, e⟩)
          have := st_inc q v hj il (fj.trans c.symm)
          omega
      have hi : h ≤ nth x k := by
        by_cases d : nth x k < h
        · obtain ⟨p, hp, e⟩ := (hm _ il c).mpr d
          exact absurd e (nth_ne nd hp (by omega))
        · omega
      refine ⟨nth x k + 1, il, fun j hj fj => ⟨fun ⟨p, hp, e⟩ => ?_, fun hj' => ?_⟩, fun g => ?_⟩
      · by_cases d : p = k
        · subst d; omega
        · have := (hm j hj fj).mp ⟨p, by omega, e⟩; omega
      · by_cases d : j = nth x k
        · exact ⟨k, by omega, d.symm⟩
        · obtain ⟨p, hp, e⟩ := old j (by omega) fj; exact ⟨p, by omega, e⟩
      · simp only [ff]
        rw [hs g, if_pos c, ff_same hi (fun i h1 h2 fi => by have := (hm i (by omega) fi).mp (old i h2 fi); omega)]
    · refine ⟨h, hl, fun j hj fj => ⟨fun ⟨p, hp, e⟩ => ?_, fun hj' => ?_⟩, fun g => ?_⟩
      · by_cases d : p = k
        · subst d; rw [e] at c; exact absurd fj c
        · exact (hm j hj fj).mp ⟨p, by omega, e⟩
      · obtain ⟨p, hp, e⟩ := (hm j hj fj).mpr hj'; exact ⟨p, by omega, e⟩
      · simp only [ff]; rw [hs g, if_neg c, Int.add_zero]
theorem mn_old {l : List Pk} {w : List Int} (q : Qu l) (v : Wts w) {x : List Nat}
    (mn : ∀ k, k < x.length → ∀ j, j < l.length → (∀ p, p < k → nth x p ≠ j) → tgV l w (nth x k) < tgV l w j ∨ tgV l w (nth x k) = tgV l w j ∧ nth x k ≤ j)
    {k j : Nat} (hk : k < x.length) (il : nth x k < l.length) (hj : j < nth x k) (e : fl l j = fl l (nth x k)) : ∃ p, p < k ∧ nth x p = j := by
  by_cases d : ∃ p, p < k ∧ nth x p = j
  · exact d
  · have := mn k hk j (by omega) (fun p hp e => d ⟨p, hp, e⟩)
    have := st_inc q v hj il e
    omega
theorem cross {A B wa wb ga gb : Int} (ha : A * wa = 840) (hb : B * wb = 840) (wa0 : 1 ≤ wa) (wb0 : 1 ≤ wb) (h : A * ga ≤ B * gb) : ga * wb ≤ gb * wa := by
  have h1 := Int.mul_le_mul_of_nonneg_right h (show 0 ≤ wa * wb from Int.mul_nonneg (by omega) (by omega))
  have e1 : A * ga * (wa * wb) = 840 * (ga * wb) := by rw [← ha]; simp only [Int.mul_comm, Int.mul_left_comm]
  have e2 : B * gb * (wa * wb) = 840 * (gb * wa) := by rw [← hb]; simp only [Int.mul_comm, Int.mul_left_comm]
  omega
/-- What a flow was served behind k packets; how many of it. -/
def gotV (l : List Pk) (x : List Nat) (f k : Nat) : Int := ff (fun p => fl l (nth x p)) f (fun p => sz l (nth x p)) k
def cntV (l : List Pk) (x : List Nat) (f k : Nat) : Int := ff (fun p => fl l (nth x p)) f (fun _ => 1) k
/-- GOYAL, VIN, CHENG, from one side. -/
theorem fair_gap {l : List Pk} {w : List Int} (q : Qu l) (v : Wts w) (z : ∀ i, i < l.length → (pk l i).at_ ≤ 0) {x : List Nat} (h : Fair l w x) {a b : Nat} (ha : a < 8) (hb : b < 8) {M : Int} (m0 : 0 ≤ M) (hM : ∀ i, i < l.length → fl l i = a → (pk l i).size ≤ M) :
    ∀ k, k ≤ x.length → (∀ p, p < k → cntV l x b p ≠ ff (fl l) b (fun _ => 1) l.length) → gotV l x a k * gt w b - gotV l x b k * gt w a ≤ M * gt w b
  | 0, _, _ => by
    have := Int.mul_nonneg m0 (show 0 ≤ gt w b by have := v.lo b hb; omega)
    simp only [gotV, ff]; omega
  | k + 1, hk, left => by
    have ih := fair_gap q v z h ha hb m0 hM k (by omega) (fun p hp => left p (by omega))
    have nd := h.nodup q v
    have lt := fun i (hi : i ∈ x) => h.lt q v hi
    obtain ⟨_, n, s, hs, e⟩ := h
    have fz := hs.zero q v z
    rw [← e] at nd lt
    subst e
    have il := lt _ (nth_mem (show k < s.out.length by omega))
    have s0 := (q.ok _ il).s0
    have wa := v.lo a ha; have wb := v.lo b hb
    by_cases c : a = b
    · subst c
      have := Int.mul_nonneg m0 (show 0 ≤ gt w a by omega)
      omega
    by_cases d : fl l (nth s.out k) = a
    · -- a's turn: b waits
      obtain ⟨h1, hl1, hm1, hs1⟩ := heads q v nd lt fz.min a k (by omega)
      obtain ⟨h2, hl2, hm2, hs2⟩ := heads q v nd lt fz.min b k (by omega)
      have ne := left k (by omega)
      rw [cntV, hs2 (fun _ => 1)] at ne
      obtain ⟨j, j1, j2, j3, j4⟩ := ff_first l.length hl2 (Ne.symm ne)
      have mj := fz.min k (by omega) j j2 (fun p hp e => by have := (hm2 j j2 j3).mp ⟨p, hp, e⟩; omega)
      obtain ⟨h3, hl3, hm3, hs3⟩ := heads q v nd lt fz.min a (k + 1) hk
      have ea : gotV l s.out a k = ff (fl l) a (sz l) (nth s.out k) := by
        have old : ∀ i, h1 ≤ i → i < nth s.out k → fl l i ≠ a := fun i i1 i2 fi => by
          have := mn_old q v fz.min (show k < s.out.length by omega) il i2 (fi.trans d.symm)
          have := (hm1 i (by omega) fi).mp this; omega
        have hi : h1 ≤ nth s.out k := by
          by_cases d' : nth s.out k < h1
          · obtain ⟨p, hp, e⟩ := (hm1 _ il d).mpr d'
            exact absurd e (nth_ne nd hp (by omega))
          · omega
        rw [gotV, hs1 (sz l), ff_same hi old]
      have eb : gotV l s.out b k = ff (fl l) b (sz l) j := by rw [gotV, hs2 (sz l), ff_same j1 j4]
      have le : tgV l w (nth s.out k) ≤ tgV l w j := by omega
      unfold tgV at le
      rw [d, j3, ← ea, ← eb] at le
      have cr := cross (part_of wa (v.hi a ha)).1 (part_of wb (v.hi b hb)).1 wa wb le
      have sM := hM _ il d
      have e1 : gotV l s.out a (k + 1) = gotV l s.out a k + (pk l (nth s.out k)).size := by simp only [gotV, ff, d, if_true]; rfl
      have e2 : gotV l s.out b (k + 1) = gotV l s.out b k := by simp only [gotV, ff, d, if_neg c, Int.add_zero]
      rw [e1, e2, Int.add_mul]
      have := Int.mul_le_mul_of_nonneg_right sM (show 0 ≤ gt w b by omega)
      omega
    · have e1 : gotV l s.out a (k + 1) = gotV l s.out a k := by simp only [gotV, ff, if_neg d, Int.add_zero]
      have e2 : gotV l s.out b k ≤ gotV l s.out b (k + 1) := by
        simp only [gotV, ff]; split
        · unfold sz; omega
        · omega
      rw [e1]
      have := Int.mul_le_mul_of_nonneg_right e2 (show 0 ≤ gt w a by omega)
      omega
end Go.Proofs.Ytamkadffencpgaa
