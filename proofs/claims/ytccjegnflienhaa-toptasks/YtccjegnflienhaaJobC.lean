
/-
  Walks: the document's demand between all times. What package edf owes.
-/
import Derived.Test.YtccjegnflienhaaJobB
import Derived.Test.YtccjegnflienhaaEdfR
namespace Go.Proofs.Ytccjegnflienhaa
set_option linter.all false
open Go.RowKit Go.Shelf Go.Lib

def dmT (l : List Jb) (s t : Int) (i : Nat) : Int := if s ≤ (jb l i).at_ ∧ (jb l i).due ≤ t then (jb l i).work else 0
theorem dem_tot (l : List Jb) (s t : Int) : demV l s t = tot (dmT l s t) l.length := rfl
theorem dmT_bd {l : List Jb} (j : JobsB l) (s t : Int) : ∀ k : Nat, k ≤ l.length → 0 ≤ tot (dmT l s t) k ∧ tot (dmT l s t) k ≤ 200 * k
  | 0, _ => by simp [tot]
  | k + 1, hk => by
    have ih := dmT_bd j s t k (by omega)
    have := j.w0 k (by omega); have := j.w1 k (by omega)
    simp only [tot]
    unfold dmT at *
    split <;> omega
open Classical in
noncomputable def demB (l : List Jb) : Bool := decide (Dem l)
theorem demB_true {l : List Jb} (h : Dem l) : demB l = true := by simp [demB, h]
theorem demB_false {l : List Jb} (h : ¬ Dem l) : demB l = false := by simp [demB, h]
theorem demB_iff {l : List Jb} : demB l = true ↔ Dem l := by simp [demB]
theorem dem_all {l : List Jb} (j : JobsB l) (h : ∀ s t : Nat, s < 200 → s ≤ t → t ≤ 200 → demV l s t ≤ (t : Int) - s) : Dem l := by
  refine (dem_range j.toJobs (H := 200) (fun i hi => j.d1 i hi) (by omega)).mpr (fun s t hs hst ht => ?_)
  obtain ⟨S, rfl⟩ := Int.eq_ofNat_of_zero_le hs
  obtain ⟨T, rfl⟩ := Int.eq_ofNat_of_zero_le (show 0 ≤ t by omega)
  by_cases c : S < 200
  · exact h S T c (by omega) (by omega)
  · have : demV l S T = 0 := by
      rw [dem_tot]
      refine tot_zero _ (fun i hi => ?_)
      have := j.ad i hi; have := j.d1 i hi
      unfold dmT
      rw [if_neg (by omega)]
    omega

/-- What package edf owes: its four functions, whatever they are handed. -/
structure EdfC : Prop where
  check : ∀ (A : Option Addr) (l : List Jb) (c : Nat) (w : World), Jbs w A l → Calls Try.prog 39 #[.slice A l.length c] w fun e w' => e = .returned (.int .i64 (jbsE l)) ∧ Below w.heap.size w w'
  run : ∀ (A : Option Addr) (l : List Jb) (c : Nat) (w : World), Jbs w A l → jbsE l = 0 → Calls Try.prog 41 #[.slice A l.length c] w fun e w' => ∃ (x : List Int) (B : Option Addr) (k : Nat), IsRun l x ∧ e = .returned (.tuple #[.slice B x.length k, .int .i64 0]) ∧ w'.ownsRow w.heap.size 3 1 (.slice B x.length k) x.length (x.map (Value.int .i64)) ∧ Below w.heap.size w w'
  run_no : ∀ (A : Option Addr) (l : List Jb) (c : Nat) (w : World), Jbs w A l → ¬ jbsE l = 0 → Calls Try.prog 41 #[.slice A l.length c] w fun e w' => e = .returned (.tuple #[.slice none 0 0, .int .i64 (jbsE l)]) ∧ Below w.heap.size w w'
  late : ∀ (A : Option Addr) (l : List Jb) (c : Nat) (w : World), Jbs w A l → jbsE l = 0 → Calls Try.prog 27 #[.slice A l.length c] w fun e w' => ((∃ i, IsLate l i ∧ e = .returned (.tuple #[.int .i64 i, .int .i64 0])) ∨ ((∀ i, ¬ IsLate l i) ∧ e = .returned (.tuple #[.int .i64 0, .int .i64 5]))) ∧ Below w.heap.size w w'
  late_no : ∀ (A : Option Addr) (l : List Jb) (c : Nat) (w : World), Jbs w A l → ¬ jbsE l = 0 → Calls Try.prog 27 #[.slice A l.length c] w fun e w' => e = .returned (.tuple #[.int .i64 0, .int .i64 (jbsE l)]) ∧ Below w.heap.size w w'
  fits : ∀ (A : Option Addr) (l : List Jb) (c : Nat) (w : World), Jbs w A l → jbsE l = 0 → Calls Try.prog 26 #[.slice A l.length c] w fun e w' => e = .returned (.tuple #[.bool (demB l), .int .i64 0]) ∧ Below w.heap.size w w'
  fits_no : ∀ (A : Option Addr) (l : List Jb) (c : Nat) (w : World), Jbs w A l → ¬ jbsE l = 0 → Calls Try.prog 26 #[.slice A l.length c] w fun e w' => e = .returned (.tuple #[.bool false, .int .i64 (jbsE l)]) ∧ Below w.heap.size w w'

end Go.Proofs.Ytccjegnflienhaa
