
/-
  Plain mathematics of tasks: the response time as a function, tried one by one; whether all fit, as a Boolean.
-/
import Derived.Test.YtnpdcllfdoobeaaTaskA
import Derived.Test.YtnpdcllfdoobeaaRanksR
namespace Go.Proofs.Ytnpdcllfdoobeaa
set_option linter.all false

def rtF (l : List Tk) (i : Nat) : Nat → Nat → Int
  | 0, _ => -1
  | n + 1, r => if dmV l i (r : Int) = (r : Int) then (r : Int) else rtF l i n (r + 1)
def rtV (l : List Tk) (i : Nat) : Int := rtF l i ((tk l i).due).toNat 1
theorem rtF_spec {l : List Tk} (v : Tks l) {i : Nat} (hi : i < l.length) : ∀ n r : Nat, (∀ q : Nat, q < r → dmV l i q ≠ q) → (rtF l i n r = -1 ∧ ∀ q : Nat, q < r + n → dmV l i q ≠ q) ∨ ∃ q : Nat, rtF l i n r = (q : Int) ∧ r ≤ q ∧ q < r + n ∧ IsRt l i q
  | 0, r, h => .inl ⟨rfl, fun q hq => h q (by omega)⟩
  | n + 1, r, h => by
    rw [rtF]
    by_cases c : dmV l i (r : Int) = (r : Int)
    · rw [if_pos c]
      exact .inr ⟨r, rfl, Nat.le_refl _, by omega, rt_is v hi c h⟩
    · rw [if_neg c]
      have h' : ∀ q : Nat, q < r + 1 → dmV l i q ≠ q := fun q hq => by
        by_cases e : q = r
        · subst e; exact c
        · exact h q (by omega)
      rcases rtF_spec v hi n (r + 1) h' with ⟨a, b⟩ | ⟨q, a, b, d, e⟩
      · exact .inl ⟨a, fun q hq => b q (by omega)⟩
      · exact .inr ⟨q, a, by omega, by omega, e⟩
theorem rt_spec {l : List Tk} (v : Tks l) {i : Nat} (hi : i < l.length) : (rtV l i = -1 ∧ ∀ r : Nat, IsRt l i r → (tk l i).due < (r : Int)) ∨ ∃ r : Nat, rtV l i = (r : Int) ∧ 1 ≤ r ∧ (r : Int) ≤ (tk l i).due ∧ IsRt l i r := by
  have hd : 0 ≤ (tk l i).due := by have := v.wd i hi; have := v.w1 i hi; omega
  rcases rtF_spec v hi ((tk l i).due).toNat 1 (fun q hq e => by
    have := dm_pos v hi (r := (q : Int)) (by omega)
    omega) with ⟨a, b⟩ | ⟨q, a, b, d, e⟩
  · refine .inl ⟨a, fun r hr => ?_⟩
    by_cases c : (tk l i).due < (r : Int)
    · exact c
    · exact absurd hr.eq (b r (by omega))
  · exact .inr ⟨q, a, b, by omega, e⟩
theorem rt_eq {l : List Tk} (v : Tks l) {i r : Nat} (hi : i < l.length) (h : IsRt l i r) (hr : (r : Int) ≤ (tk l i).due) : rtV l i = (r : Int) := by
  rcases rt_spec v hi with ⟨_, b⟩ | ⟨q, a, _, _, e⟩
  · have := b r h; omega
  · rw [a, e.uniq h]
def ftB (l : List Tk) : Bool := (List.range l.length).all (fun i => decide (0 < rtV l i))
theorem ftB_all {l : List Tk} : ftB l = true ↔ ∀ i, i < l.length → 0 < rtV l i := by
  unfold ftB
  rw [List.all_eq_true]
  constructor
  · intro h i hi
    have := h i (List.mem_range.mpr hi)
    simpa using this
  · intro h i hi
    have := h i (List.mem_range.mp hi)
    simpa using this
theorem ftB_iff {l : List Tk} (v : Tks l) : ftB l = true ↔ Fts l := by
  rw [ftB_all]
  constructor
  · intro h i hi
    have := h i hi
    rcases rt_spec v hi with ⟨a, _⟩ | ⟨r, _, _, d, e⟩
    · omega
    · exact ⟨r, e, d⟩
  · intro h i hi
    obtain ⟨r, a, b⟩ := h i hi
    rw [rt_eq v hi a b]
    have := (rt_lo v hi a).1
    omega
theorem ftB_no {l : List Tk} {i : Nat} (hi : i < l.length) (h : ¬ 0 < rtV l i) : ftB l = false := by
  cases e : ftB l with
  | false => rfl
  | true => exact absurd (ftB_all.mp e i hi) h
/-- A part of the tasks. -/
theorem tk_take {l : List Tk} {i k : Nat} (h : k < i) : tk (l.take i) k = tk l k := by simp [tk, List.getD, h]
theorem hg_take {l : List Tk} {i k : Nat} (r : Int) (h : k < i) : hgV (l.take i) r k = hgV l r k := by unfold hgV; rw [tk_take h]
theorem TksB.take {l : List Tk} (v : TksB l) (i : Nat) : TksB (l.take i) := by
  have key : ∀ (P : Tk → Prop), (∀ k, k < l.length → P (tk l k)) → ∀ k, k < (l.take i).length → P (tk (l.take i) k) := fun P h k hk => by
    rw [List.length_take] at hk
    rw [tk_take (by omega)]
    exact h k (by omega)
  exact ⟨⟨key (fun t => 1 ≤ t.per) v.p1, key (fun t => 1 ≤ t.work) v.w1, key (fun t => t.work ≤ t.due) v.wd, key (fun t => t.due ≤ t.per) v.dp⟩, by have := v.le; simp; omega, key (fun t => t.per ≤ 60) v.p60⟩
theorem cel_le {r T : Int} (hT : 1 ≤ T) (h : 0 ≤ r) : cl r T ≤ r := by
  have h1 := cel_hi (r := r) hT
  by_cases c : cl r T ≤ r
  · exact c
  · have h2 : (r + 1) * T ≤ cl r T * T := Int.mul_le_mul_of_nonneg_right (by omega) (by omega)
    rw [Int.add_mul, Int.one_mul] at h2
    have h3 : r * 1 ≤ r * T := Int.mul_le_mul_of_nonneg_left hT h
    omega
theorem hg_bd {l : List Tk} (v : TksB l) {r : Int} (h0 : 0 ≤ r) (h1 : r ≤ 60) {k : Nat} (hk : k < l.length) : 0 ≤ hgV l r k ∧ hgV l r k ≤ 3600 := by
  refine ⟨hg_nonneg v.toTks h0 hk, ?_⟩
  have a := cel_le (r := r) (v.p1 k hk) h0
  have b := cel_nonneg (r := r) (v.p1 k hk) h0
  have c := v.w1 k hk
  have d : (tk l k).work ≤ 60 := by have := v.wd k hk; have := v.dp k hk; have := v.p60 k hk; omega
  unfold hgV
  have e : cl r (tk l k).per * (tk l k).work ≤ 60 * (tk l k).work := Int.mul_le_mul_of_nonneg_right (by omega) (by omega)
  omega
theorem hg_tot {l : List Tk} (v : TksB l) {r : Int} (h0 : 0 ≤ r) (h1 : r ≤ 60) : ∀ k, k ≤ l.length → 0 ≤ tot (hgV l r) k ∧ tot (hgV l r) k ≤ 3600 * k
  | 0, _ => by simp [tot]
  | k + 1, hk => by
    have := hg_tot v h0 h1 k (by omega)
    have := hg_bd v h0 h1 (k := k) (by omega)
    simp only [tot]
    omega

end Go.Proofs.Ytnpdcllfdoobeaa
