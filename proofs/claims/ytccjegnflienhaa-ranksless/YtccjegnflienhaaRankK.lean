
/-
  Tasks in memory of their own: a clone. Plain: one task takes less, the last one out, what is asked in all periods together.
-/
import Derived.Test.YtccjegnflienhaaRankB
import Derived.Test.YtccjegnflienhaaRankI
import Derived.Test.YtccjegnflienhaaKeepA
import Derived.OwnWalk
namespace Go.Proofs.Ytccjegnflienhaa
set_option linter.all false
open Go.RowKit Go.Shelf Go.Lib

set_option maxHeartbeats 400000 in
theorem clone_tp (A : Option Addr) (l : List Pk) (n c : Nat) (w : World) (h : Pks w A l) (hn : n = l.length) (hp : 0 < n) (h61 : n ≤ 61) :
    Calls Try.prog 24 #[.slice A n c] w fun e w' => ∃ g d, e = .returned (.slice (some ⟨g, 0, none⟩) n d) ∧ w'.ownsRow w.heap.size 30 3 (.slice (some ⟨g, 0, none⟩) n d) n (pcs l) ∧ Below w.heap.size w w' := by
  subst hn
  obtain ⟨i0, hi0, hz0, hz1, hz2⟩ := info_parts tpk_info
  obtain ⟨b, off, rfl, hc⟩ := h.2 hp
  have HC := Lib.hid h.cells
  have hlt : b < w.heap.size := cell_lt (hc 0 _ (List.getElem?_eq_getElem hp)).1
  clear hc
  have q : ∀ (w : World) (a : Option Addr) (n c n' c' : Nat), (binOp .eql 22 (.slice a n c) (.slice none n' c')).run Try.prog w = .ok (.bool a.isNone) w := fun w a n c n' c' => Lib.run_eql_slice_nil w _ _ a n c n' c' Try.underlying22
  go_enter Try.func24, Try.ntmps24
  go_wp2_with (at_builtin; refine wpList_append_own _ rfl _ _ 22 rfl w.heap.size 30 i0 (.agg #[.int .i64 0, .int .i64 0, .int .i64 0]) 3 24 Try.underlying22 hi0 hz0 hz1 hz2 rfl (by decide) _ _ _ rfl (World.ownsRow_made w #[] 0 (Nat.le_refl _) (Nat.zero_le _) rfl) ⟨b, off, none⟩ l.length c (pcs l) rfl ?qc1 ?qc2 ?qc3 ?qc4 ?qc5 ?qc6 ?_)
  case qc1 => exact length_pcs l
  case qc2 =>
    intro j u hj
    rw [Addr.add_lit]
    exact (Below.cell ((Below.refl w.heap.size w).alloc (Nat.le_refl _) _) (p := ⟨b, off + j, none⟩) hlt).trans (HC.out j u hj)
  case qc3 => exact pcs_one l
  case qc4 => unfold maxLen; omega
  case qc5 => omega
  case qc6 => simp
  intro v' w1 hown hgrow hnil
  go_wp2
  go_ret
  have o : w1.ownsRow w.heap.size 30 3 v' l.length (pcs l) := by simpa using hown
  have b : Below w.heap.size w w1 := ((Below.refl _ w).alloc (Nat.le_refl _) _).grown hgrow (by simp) (by intro k hk; simp [Value.ownBlock] at hk; omega)
  rcases o.2 with ⟨_, h0⟩ | ⟨g, cap, cur, rfl, _⟩
  · omega
  · exact ⟨g, cap, rfl, o, b⟩
theorem clone_task (A : Option Addr) (l : List Tk) (n c : Nat) (w : World) (h : Tas w A l) (hn : n = l.length) (hp : 0 < n) (h61 : n ≤ 61) :
    Calls Try.prog 24 #[.slice A n c] w fun e w' => ∃ g d, e = .returned (.slice (some ⟨g, 0, none⟩) n d) ∧ w'.ownsRow w.heap.size 30 3 (.slice (some ⟨g, 0, none⟩) n d) n (qcs l) ∧ Below w.heap.size w w' :=
  clone_tp A (l.map tp) n c w h (by simpa using hn) hp h61
theorem wiT (n m : Int) (h : 1 ≤ m) : ∃ k : Nat, wi n m = (k : Int) ∧ (k : Int) < m := by
  have h0 := Int.emod_nonneg (n % 18446744073709551616) (show m ≠ 0 by omega)
  have h1 := Int.emod_lt_of_pos (n % 18446744073709551616) (show 0 < m by omega)
  refine ⟨(wi n m).toNat, ?_, ?_⟩
  · unfold wi; omega
  · unfold wi; omega
theorem tk_set {l : List Tk} {k : Nat} {j : Tk} (h : k < l.length) (i : Nat) : tk (l.set k j) i = if i = k then j else tk l i := by
  unfold tk
  by_cases c : i = k
  · subst c; simp [List.getD, h]
  · rw [if_neg c]; simp [List.getD, List.getElem?_set_ne (fun e : k = i => c e.symm)]
theorem tksB_less {l : List Tk} (v : TksB l) {k : Nat} (hk : k < l.length) {x : Int} (x0 : 1 ≤ x) (x1 : x ≤ (tk l k).work) : TksB (l.set k ⟨(tk l k).per, x, (tk l k).due⟩) := by
  have key : ∀ (P : Tk → Prop), P ⟨(tk l k).per, x, (tk l k).due⟩ → (∀ i, i < l.length → P (tk l i)) → ∀ i, i < (l.set k ⟨(tk l k).per, x, (tk l k).due⟩).length → P (tk (l.set k ⟨(tk l k).per, x, (tk l k).due⟩) i) := fun P pj pl i hi => by
    rw [List.length_set] at hi
    rw [tk_set hk]
    split
    · exact pj
    · exact pl i hi
  have := v.wd k hk
  exact ⟨⟨key (fun t => 1 ≤ t.per) (v.p1 k hk) v.p1, key (fun t => 1 ≤ t.work) x0 v.w1, key (fun t => t.work ≤ t.due) (by simp only; omega) v.wd, key (fun t => t.due ≤ t.per) (v.dp k hk) v.dp⟩, by rw [List.length_set]; exact v.le, key (fun t => t.per ≤ 60) (v.p60 k hk) v.p60⟩
theorem fts_set {l : List Tk} (v : TksB l) {k : Nat} (hk : k < l.length) {x : Int} (x0 : 1 ≤ x) (x1 : x ≤ (tk l k).work) (f : Fts l) : Fts (l.set k ⟨(tk l k).per, x, (tk l k).due⟩) := by
  refine fts_less v.toTks (tksB_less v hk x0 x1).toTks (by rw [List.length_set]; exact Nat.le_refl _) (fun i hi => ?_) f
  rw [tk_set hk]
  by_cases c : i = k
  · subst c; rw [if_pos rfl]; exact ⟨rfl, x1, Int.le_refl _⟩
  · rw [if_neg c]; exact ⟨rfl, Int.le_refl _, Int.le_refl _⟩
theorem fts_take {l : List Tk} (v : TksB l) (m : Nat) (f : Fts l) : Fts (l.take m) := by
  refine fts_less v.toTks (v.take m).toTks (by simp; omega) (fun i hi => ?_) f
  rw [List.length_take] at hi
  rw [tk_take (by omega)]
  exact ⟨rfl, Int.le_refl _, Int.le_refl _⟩
/-- All periods together. -/
def prd (l : List Tk) : Nat → Int
  | 0 => 1
  | k + 1 => prd l k * (tk l k).per
theorem prd_bd {l : List Tk} (v : TksB l) : ∀ k, k ≤ l.length → 1 ≤ prd l k ∧ prd l k ≤ 60 ^ k
  | 0, _ => by simp [prd]
  | k + 1, hk => by
    obtain ⟨a, b⟩ := prd_bd v k (by omega)
    have p1 := v.p1 k (by omega)
    have p2 := v.p60 k (by omega)
    rw [prd, Int.pow_succ]
    have c : prd l k * (tk l k).per ≤ prd l k * 60 := Int.mul_le_mul_of_nonneg_left p2 (by omega)
    have d : prd l k * 60 ≤ 60 ^ k * 60 := Int.mul_le_mul_of_nonneg_right b (by omega)
    have e : prd l k * 1 ≤ prd l k * (tk l k).per := Int.mul_le_mul_of_nonneg_left p1 (by omega)
    omega
theorem prd_max {l : List Tk} (v : TksB l) {k : Nat} (hk : k ≤ l.length) : 1 ≤ prd l k ∧ prd l k ≤ 777600000 := by
  obtain ⟨a, b⟩ := prd_bd v k hk
  refine ⟨a, Int.le_trans b ?_⟩
  have := v.le
  rcases (show k = 0 ∨ k = 1 ∨ k = 2 ∨ k = 3 ∨ k = 4 ∨ k = 5 by omega) with rfl | rfl | rfl | rfl | rfl | rfl <;> decide
theorem prd_dvd {l : List Tk} : ∀ k i, i < k → (tk l i).per ∣ prd l k
  | k + 1, i, hi => by
    rw [prd]
    by_cases c : i = k
    · subst c; exact Int.dvd_mul_left _ _
    · exact Int.dvd_trans (prd_dvd k i (by omega)) (Int.dvd_mul_right _ _)
def askV (l : List Tk) (i : Nat) : Int := prd l l.length / (tk l i).per * (tk l i).work
theorem ask_le {l : List Tk} (v : TksB l) (f : Fts l) : tot (askV l) l.length ≤ prd l l.length := by
  have h := fts_cap v.toTks f (A := prd l l.length) (prd_max v (Nat.le_refl _)).1 (Q := fun i => prd l l.length / (tk l i).per) (fun i hi => Int.ediv_mul_cancel (prd_dvd _ i hi))
  exact h
theorem ask_bd {l : List Tk} (v : TksB l) {i : Nat} (hi : i < l.length) : 0 ≤ askV l i ∧ askV l i ≤ 46656000000 := by
  have p1 := v.p1 i hi
  have w1 := v.w1 i hi
  have w2 : (tk l i).work ≤ 60 := by have := v.wd i hi; have := v.dp i hi; have := v.p60 i hi; omega
  obtain ⟨a, b⟩ := prd_max v (Nat.le_refl l.length)
  obtain ⟨D, hD⟩ : ∃ D, D = prd l l.length / (tk l i).per := ⟨_, rfl⟩
  have d0 : 0 ≤ D := by rw [hD]; exact Int.ediv_nonneg (by omega) (by omega)
  have d1 : D ≤ 777600000 := by
    have : prd l l.length / (tk l i).per ≤ prd l l.length := Int.ediv_le_self _ (by omega)
    omega
  unfold askV
  rw [← hD]
  have x : D * (tk l i).work ≤ D * 60 := Int.mul_le_mul_of_nonneg_left w2 d0
  have y : 0 ≤ D * (tk l i).work := Int.mul_nonneg d0 (by omega)
  omega
theorem ask_tot {l : List Tk} (v : TksB l) : ∀ k, k ≤ l.length → 0 ≤ tot (askV l) k ∧ tot (askV l) k ≤ 46656000000 * k
  | 0, _ => by simp [tot]
  | k + 1, hk => by
    have := ask_tot v k (by omega)
    have := ask_bd v (i := k) (by omega)
    simp only [tot]
    omega

end Go.Proofs.Ytccjegnflienhaa
