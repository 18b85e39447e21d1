
/-
  Plain mathematics of turns: what each flow has sent amid a round.
-/
import Derived.Test.YtamkadffencpgaaFlowP
namespace Go.Proofs.Ytamkadffencpgaa
set_option linter.all false

def midC (l : List Flw) (m p i : Nat) : Nat := (flw l i).cn m + cntL ((rndL l m l.length).take p) i
theorem mid_zero (l : List Flw) (m i : Nat) : midC l m 0 i = (flw l i).cn m := by simp [midC, cntL]
theorem mid_full {l : List Flw} (v : Flws l) (m i : Nat) (hi : i < l.length) : midC l m (rndL l m l.length).length i = (flw l i).cn (m + 1) := by
  obtain ⟨i1, i2⟩ := ord_keep v m
  have r := (rnd_keep v i1 i2 l.length (Nat.le_refl _)).2 i hi
  rw [if_pos hi, cnt_app, i2 i hi] at r
  rw [midC, List.take_length]
  exact r
theorem take_next {x : List Snd} {p : Nat} {s : Snd} (h : x[p]? = some s) : x.take (p + 1) = x.take p ++ [s] := by
  rw [List.take_succ, h]; rfl
theorem mid_next {l : List Flw} (v : Flws l) {m p : Nat} {s : Snd} (h : (rndL l m l.length)[p]? = some s) : s.1 < l.length ∧ s.2 = midC l m p s.1 ∧ s.2 < (flw l s.1).z.length ∧ ∀ i, midC l m (p + 1) i = midC l m p i + if s.1 = i then 1 else 0 := by
  obtain ⟨i1, i2⟩ := ord_keep v m
  have o := (rnd_keep v i1 i2 l.length (Nat.le_refl _)).1
  have f := rnd_flow (l := l) (m := m) (s := s) l.length (List.mem_of_getElem? h)
  have e := o ((ordL l m).length + p) s (by rw [List.getElem?_append_right (by omega), Nat.add_sub_cancel_left]; exact h)
  rw [List.take_append, List.take_of_length_le (show (ordL l m).length ≤ (ordL l m).length + p by omega), Nat.add_sub_cancel_left, cnt_app, i2 s.1 f.1] at e
  refine ⟨f.1, e, f.2, fun i => ?_⟩
  rw [midC, midC, take_next h, cnt_app]
  rw [show [s] = [(s.1, s.2)] from rfl, cnt_one]
  omega
/-- What the flows have sent by those counts. -/
def aft (l : List Flw) (c : Nat → Nat) (i : Nat) : Int := sumV (flw l i).z (c i)
def aftL (l : List Flw) (m : Nat) : List Int := tab l.length (aft l (fun i => (flw l i).cn m))
theorem aft_mid {l : List Flw} {c d : Nat → Nat} (h : ∀ i, i < l.length → c i = d i) : tab l.length (aft l c) = tab l.length (aft l d) := by
  refine list_ext (by rw [length_tab, length_tab]) (fun i hi => ?_)
  rw [length_tab] at hi
  rw [gt_tab _ hi, gt_tab _ hi, aft, aft, h i hi]
theorem aft_bd {l : List Flw} (v : Flws l) {i : Nat} (hi : i < l.length) {c : Nat → Nat} (hc : c i ≤ (flw l i).z.length) : 0 ≤ aft l c i ∧ aft l c i ≤ 60000 := by
  have s := (v.ok i hi).sz
  have h1 := s.bd (c i) hc
  have h2 := s.le
  unfold aft
  omega
/-- One more packet of flow i. -/
theorem aft_set {l : List Flw} {c d : Nat → Nat} {k : Nat} (hk : k < l.length) (h : ∀ i, d i = c i + if k = i then 1 else 0) : (tab l.length (aft l c)).set k (aft l c k + gt (flw l k).z (c k)) = tab l.length (aft l d) := by
  refine list_ext (by rw [List.length_set, length_tab, length_tab]) (fun i hi => ?_)
  rw [List.length_set, length_tab] at hi
  by_cases e : i = k
  · subst e
    rw [show gt ((tab l.length (aft l c)).set i (aft l c i + gt (flw l i).z (c i))) i = aft l c i + gt (flw l i).z (c i) from gt_of_get (by rw [List.getElem?_set_self (by rw [length_tab]; exact hi)]), gt_tab _ hi, aft, aft, h i, if_pos rfl, sumV]
  · rw [show gt ((tab l.length (aft l c)).set k (aft l c k + gt (flw l k).z (c k))) i = gt (tab l.length (aft l c)) i by simp only [gt, List.getD]; rw [List.getElem?_set_ne (by omega)], gt_tab _ hi, gt_tab _ hi, aft, aft, h i, if_neg (by omega), Nat.add_zero]
theorem wait_lt {f : Flw} (h : FlwOk f) {m : Nat} (hw : f.cn m < f.z.length) : m < 60000 := by
  by_cases c : m < 60000
  · exact c
  · rw [cn_end h (by omega)] at hw; exact absurd hw (Nat.lt_irrefl _)
theorem mul_same {a b q : Int} (hq : 1 ≤ q) (h : a * q = b * q) : a = b := Int.eq_of_mul_eq_mul_right (by omega) h

end Go.Proofs.Ytamkadffencpgaa
