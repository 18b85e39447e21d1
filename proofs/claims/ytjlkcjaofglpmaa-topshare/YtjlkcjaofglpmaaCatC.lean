
/-
  What packages catch and plan owe.
-/
import Derived.Test.YtjlkcjaofglpmaaCatchP
import Derived.Test.YtjlkcjaofglpmaaLineA
namespace Go.Proofs.Ytjlkcjaofglpmaa
set_option linter.all false
open Go.RowKit Go.Shelf Go.Lib

/-- What Lag answers: the error, and the list. -/
def lgE (a : List Int) (r g : Int) : Int := if linE a r ≠ 0 then linE a r else if g < 0 ∨ 1000000 < g then 1 else 0
def lgY (a : List Int) (r g : Int) : List Int := if lgE a r g = 0 then lgL a r g else []
structure LgOk (a : List Int) (r g : Int) : Prop where
  tr : Tr a
  r0 : 0 ≤ r
  r1 : r ≤ 10000
  g0 : 0 ≤ g
  g1 : g ≤ 1000000
theorem lg_ok {a : List Int} {r g : Int} (h : lgE a r g = 0) : LgOk a r g := by
  unfold lgE at h
  by_cases h1 : linE a r = 0
  · rw [if_neg (by simpa using h1)] at h
    by_cases h2 : g < 0 ∨ 1000000 < g
    · rw [if_pos h2] at h; omega
    · obtain ⟨v, r0, r1⟩ := lin_ok h1
      exact ⟨v, r0, r1, by omega, by omega⟩
  · rw [if_pos h1] at h; omega
theorem lg_of {a : List Int} {r g : Int} (h : LgOk a r g) : lgE a r g = 0 := by
  have := h.g0; have := h.g1
  rw [lgE, if_neg (by simpa using lin_of h.tr h.r0 h.r1), if_neg (by omega)]
theorem lgY_yes {a : List Int} {r g : Int} (h : lgE a r g = 0) : lgY a r g = lgL a r g := by rw [lgY, if_pos h]
theorem lgY_no {a : List Int} {r g : Int} (h : ¬ lgE a r g = 0) : lgY a r g = [] := by rw [lgY, if_neg h]
/-- What Done answers. -/
def DnIs (a : List Int) (r g v E : Int) : Prop :=
  (lgE a r g = 0 ∧ ∃ n : Nat, IsDn a r g n ∧ v = n ∧ E = 0) ∨ (lgE a r g = 0 ∧ (∀ s, s ≤ a.length → lgV a r g s ≠ 0) ∧ v = 0 ∧ E = 5) ∨ (lgE a r g ≠ 0 ∧ v = 0 ∧ E = lgE a r g)
/-- The first of the numbers below n of which something is so. -/
theorem first_of (P : Nat → Prop) : ∀ n : Nat, (∃ k, k < n ∧ P k ∧ ∀ s, s < k → ¬ P s) ∨ ∀ s, s < n → ¬ P s
  | 0 => .inr (fun s hs => absurd hs (by omega))
  | n + 1 => by
    rcases first_of P n with ⟨k, h1, h2, h3⟩ | h
    · exact .inl ⟨k, by omega, h2, h3⟩
    · rcases Classical.em (P n) with c | c
      · exact .inl ⟨n, by omega, c, h⟩
      · refine .inr (fun s hs => ?_)
        by_cases e : s = n
        · rw [e]; exact c
        · exact h s (by omega)
theorem ex_dn (a : List Int) (r g : Int) : ∃ v E, DnIs a r g v E := by
  by_cases h : lgE a r g = 0
  · rcases first_of (fun t => lgV a r g t = 0) (a.length + 1) with ⟨k, h1, h2, h3⟩ | q
    · exact ⟨k, 0, .inl ⟨h, k, ⟨by omega, h2, h3⟩, rfl, rfl⟩⟩
    · exact ⟨0, 5, .inr (.inl ⟨h, fun s hs => q s (by omega), rfl, rfl⟩)⟩
  · exact ⟨0, _, .inr (.inr ⟨h, rfl, rfl⟩)⟩
/-- What Bound answers. -/
def cbE (l : List Int) (r g : Int) : Int := if chk l ≠ 0 then chk l else if r < 0 ∨ 10000 < r ∨ g < 0 ∨ 1000000 < g then 1 else 0
structure CbOk (l : List Int) (r g : Int) : Prop where
  cv : Cv l
  r0 : 0 ≤ r
  r1 : r ≤ 10000
  g0 : 0 ≤ g
  g1 : g ≤ 1000000
theorem cb_ok {l : List Int} {r g : Int} (h : cbE l r g = 0) : CbOk l r g := by
  unfold cbE at h
  by_cases h1 : chk l = 0
  · rw [if_neg (by simpa using h1)] at h
    by_cases h2 : r < 0 ∨ 10000 < r ∨ g < 0 ∨ 1000000 < g
    · rw [if_pos h2] at h; omega
    · exact ⟨cv_of h1, by omega, by omega, by omega, by omega⟩
  · rw [if_pos h1] at h; omega
theorem cb_of {l : List Int} {r g : Int} (h : CbOk l r g) : cbE l r g = 0 := by
  have := h.r0; have := h.r1; have := h.g0; have := h.g1
  rw [cbE, if_neg (by simpa using chk_iff.2 h.cv), if_neg (by omega)]
def CbIs (l : List Int) (r g v E : Int) : Prop :=
  (cbE l r g = 0 ∧ ∃ d : Nat, IsCb l r g d ∧ v = d ∧ E = 0) ∨ (cbE l r g = 0 ∧ (∀ s, s < l.length → ¬ CatchOk l r g s) ∧ v = 0 ∧ E = 5) ∨ (cbE l r g ≠ 0 ∧ v = 0 ∧ E = cbE l r g)
theorem ex_cb (l : List Int) (r g : Int) : ∃ v E, CbIs l r g v E := by
  by_cases h : cbE l r g = 0
  · rcases first_of (fun t => CatchOk l r g t) l.length with ⟨k, h1, h2, h3⟩ | q
    · exact ⟨k, 0, .inl ⟨h, k, ⟨h1, h2, h3⟩, rfl, rfl⟩⟩
    · exact ⟨0, 5, .inr (.inl ⟨h, q, rfl, rfl⟩)⟩
  · exact ⟨0, _, .inr (.inr ⟨h, rfl, rfl⟩)⟩
/-- What Rate answers. -/
def rtE (l : List Int) (g d : Int) : Int := if chk l ≠ 0 then chk l else if d < 0 ∨ (l.length : Int) ≤ d ∨ g < 0 ∨ 1000000 < g then 1 else 0
structure RtOk (l : List Int) (g d : Int) : Prop where
  cv : Cv l
  d0 : 0 ≤ d
  d1 : d < l.length
  g0 : 0 ≤ g
  g1 : g ≤ 1000000
theorem rt_ok {l : List Int} {g d : Int} (h : rtE l g d = 0) : RtOk l g d := by
  unfold rtE at h
  by_cases h1 : chk l = 0
  · rw [if_neg (by simpa using h1)] at h
    by_cases h2 : d < 0 ∨ (l.length : Int) ≤ d ∨ g < 0 ∨ 1000000 < g
    · rw [if_pos h2] at h; omega
    · exact ⟨cv_of h1, by omega, by omega, by omega, by omega⟩
  · rw [if_pos h1] at h; omega
theorem rt_of {l : List Int} {g d : Int} (h : RtOk l g d) : rtE l g d = 0 := by
  have := h.d0; have := h.d1; have := h.g0; have := h.g1
  rw [rtE, if_neg (by simpa using chk_iff.2 h.cv), if_neg (by omega)]
def RtIs (l : List Int) (g d v E : Int) : Prop :=
  (rtE l g d = 0 ∧ IsRate l g d.toNat v ∧ E = 0) ∨ (rtE l g d = 0 ∧ (∀ s : Int, 0 ≤ s → s ≤ 10000 → ¬ RateOk l g d.toNat s) ∧ v = 0 ∧ E = 5) ∨ (rtE l g d ≠ 0 ∧ v = 0 ∧ E = rtE l g d)
theorem ex_rt (l : List Int) (g d : Int) : ∃ v E, RtIs l g d v E := by
  by_cases h : rtE l g d = 0
  · rcases first_of (fun t => RateOk l g d.toNat (t : Int)) 10001 with ⟨k, h1, h2, h3⟩ | q
    · refine ⟨k, 0, .inl ⟨h, ⟨by omega, by omega, h2, fun s s0 s1 => ?_⟩, rfl⟩⟩
      have := h3 s.toNat (by omega)
      rwa [Int.toNat_of_nonneg s0] at this
    · refine ⟨0, 5, .inr (.inl ⟨h, fun s s0 s1 => ?_, rfl, rfl⟩)⟩
      have := q s.toNat (by omega)
      rwa [Int.toNat_of_nonneg s0] at this
  · exact ⟨0, _, .inr (.inr ⟨h, rfl, rfl⟩)⟩
/-- What Room answers. -/
def rmE (l : List Int) (r d : Int) : Int := if chk l ≠ 0 then chk l else if d < 0 ∨ (l.length : Int) ≤ d ∨ r < 0 ∨ 10000 < r then 1 else 0
structure RmOk (l : List Int) (r d : Int) : Prop where
  cv : Cv l
  d0 : 0 ≤ d
  d1 : d < l.length
  r0 : 0 ≤ r
  r1 : r ≤ 10000
theorem rm_ok {l : List Int} {r d : Int} (h : rmE l r d = 0) : RmOk l r d := by
  unfold rmE at h
  by_cases h1 : chk l = 0
  · rw [if_neg (by simpa using h1)] at h
    by_cases h2 : d < 0 ∨ (l.length : Int) ≤ d ∨ r < 0 ∨ 10000 < r
    · rw [if_pos h2] at h; omega
    · exact ⟨cv_of h1, by omega, by omega, by omega, by omega⟩
  · rw [if_pos h1] at h; omega
theorem rm_of {l : List Int} {r d : Int} (h : RmOk l r d) : rmE l r d = 0 := by
  have := h.d0; have := h.d1; have := h.r0; have := h.r1
  rw [rmE, if_neg (by simpa using chk_iff.2 h.cv), if_neg (by omega)]
def RmIs (l : List Int) (r d v E : Int) : Prop :=
  (rmE l r d = 0 ∧ IsRoom l r d.toNat v ∧ E = 0) ∨ (rmE l r d = 0 ∧ (∀ g : Int, 0 ≤ g → ¬ RateOk l g d.toNat r) ∧ v = 0 ∧ E = 5) ∨ (rmE l r d ≠ 0 ∧ v = 0 ∧ E = rmE l r d)
/-- The greatest of t * r - l t, t ≤ d. -/
def rmV (l : List Int) (r : Int) (d : Nat) : Int := mx (fun t => r * (t : Int) - gt l t) d
/-- Room is there, or none: the greatest of what would do. -/
theorem room_ex (l : List Int) (r : Int) : ∀ d : Nat, (∃ n : Int, IsRoom l r d n) ∨ ∀ t : Nat, t ≤ d → r * (t : Int) - gt l t < 0
  | 0 => by
    by_cases c : r * ((0 : Nat) : Int) - gt l 0 < 0
    · exact .inr (fun t ht => by obtain rfl : t = 0 := by omega
                                 exact c)
    · exact .inl ⟨_, room_of (by omega) ⟨0, Nat.le_refl _, rfl⟩ (fun t ht => by obtain rfl : t = 0 := by omega
                                                                                exact Int.le_refl _)⟩
  | d + 1 => by
    rcases room_ex l r d with ⟨n, h⟩ | h
    · obtain ⟨t, ht, hc⟩ := h.hit
      unfold CatchOk at hc
      by_cases c : n < r * ((d + 1 : Nat) : Int) - gt l (d + 1)
      · refine .inl ⟨_, room_of (by have := h.lo; omega) ⟨d + 1, Nat.le_refl _, rfl⟩ (fun s hs => ?_)⟩
        by_cases e : s = d + 1
        · subst e; exact Int.le_refl _
        · by_cases p : 0 ≤ r * (s : Int) - gt l s
          · have := h.top _ p ⟨s, by omega, by unfold CatchOk; omega⟩; omega
          · have := h.lo; omega
      · refine .inl ⟨n, h.lo, ⟨t, by omega, by unfold CatchOk; exact hc⟩, fun g g0 ⟨s, hs, q⟩ => ?_⟩
        unfold CatchOk at q
        by_cases e : s = d + 1
        · subst e; omega
        · exact h.top g g0 ⟨s, by omega, by unfold CatchOk; exact q⟩
    · by_cases c : r * ((d + 1 : Nat) : Int) - gt l (d + 1) < 0
      · refine .inr (fun t ht => ?_)
        by_cases e : t = d + 1
        · subst e; exact c
        · exact h t (by omega)
      · refine .inl ⟨_, room_of (by omega) ⟨d + 1, Nat.le_refl _, rfl⟩ (fun s hs => ?_)⟩
        by_cases e : s = d + 1
        · subst e; exact Int.le_refl _
        · have := h s (by omega); omega
theorem no_room {l : List Int} {r : Int} {d : Nat} (h : ∀ t : Nat, t ≤ d → r * (t : Int) - gt l t < 0) : ∀ g : Int, 0 ≤ g → ¬ RateOk l g d r := fun g g0 ⟨t, ht, q⟩ => by
  unfold CatchOk at q
  have := h t ht
  omega
theorem ex_rm (l : List Int) (r d : Int) : ∃ v E, RmIs l r d v E := by
  by_cases h : rmE l r d = 0
  · rcases room_ex l r d.toNat with ⟨n, q⟩ | q
    · exact ⟨n, 0, .inl ⟨h, q, rfl⟩⟩
    · exact ⟨0, 5, .inr (.inl ⟨h, no_room q, rfl, rfl⟩)⟩
  · exact ⟨0, _, .inr (.inr ⟨h, rfl, rfl⟩)⟩

/-- To know them by, for literals. -/
theorem dn_lit {a : List Int} {r g : Int} (n : Nat) (hE : lgE a r g = 0) (hn : n ≤ a.length) (h1 : lgV a r g n = 0) (h2 : ∀ s : Fin n, lgV a r g s.val ≠ 0) : DnIs a r g n 0 := .inl ⟨hE, n, ⟨hn, h1, fun s hs => h2 ⟨s, hs⟩⟩, rfl, rfl⟩
instance (l : List Int) (r g : Int) (t : Nat) : Decidable (CatchOk l r g t) := inferInstanceAs (Decidable (g + gt l t ≤ r * t))
theorem cb_lit {l : List Int} {r g : Int} (d : Nat) (hE : cbE l r g = 0) (hd : d < l.length) (h1 : CatchOk l r g d) (h2 : ∀ s : Fin d, ¬ CatchOk l r g s.val) : CbIs l r g d 0 := .inl ⟨hE, d, ⟨hd, h1, fun s hs => h2 ⟨s, hs⟩⟩, rfl, rfl⟩
theorem rt_lit {l : List Int} {g : Int} (d : Nat) (c : Nat) (hE : rtE l g d = 0) (hc : c ≤ 10000) (h1 : ∃ t : Fin (d + 1), CatchOk l c g t.val) (h2 : c = 0 ∨ ∀ t : Fin (d + 1), ¬ CatchOk l ((c : Int) - 1) g t.val) : RtIs l g d c 0 := by
  refine .inl ⟨hE, ⟨by omega, by omega, ?_, fun s s0 s1 => ?_⟩, rfl⟩
  · obtain ⟨t, ht⟩ := h1
    exact ⟨t.val, by have := t.2; simp; omega, ht⟩
  · rcases h2 with h2 | h2
    · omega
    · intro k
      obtain ⟨t, ht, q⟩ := k.up (show s ≤ (c : Int) - 1 by omega)
      exact h2 ⟨t, by simp at ht; omega⟩ q
theorem rm_lit {l : List Int} {r : Int} (d : Nat) (n : Nat) (hE : rmE l r d = 0) (h1 : ∃ t : Fin (d + 1), (n : Int) = r * (t.val : Int) - gt l t.val) (h2 : ∀ t : Fin (d + 1), r * (t.val : Int) - gt l t.val ≤ n) : RmIs l r d n 0 := by
  refine .inl ⟨hE, room_of (by omega) ?_ (fun t ht => h2 ⟨t, by simp at ht; omega⟩), rfl⟩
  obtain ⟨t, ht⟩ := h1
  exact ⟨t.val, by have := t.2; simp; omega, ht⟩

end Go.Proofs.Ytjlkcjaofglpmaa
