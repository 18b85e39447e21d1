
/-
  Walks: the document's demand between all times. What package edf owes.
-/
import Derived.Test.YtoapgdandpcboaaJobB
import Derived.Test.YtoapgdandpcboaaEdfR
namespace Go.Proofs.Ytoapgdandpcboaa
set_option linter.all false
open Go.RowKit Go.Shelf Go.Lib

def dmT (l : List Jb) (s t : Int) (i : Nat) : Int := if s ≤ (jb l i).at_ ∧ (jb l i).due ≤ t then (jb l i).work else 0
theorem dem_tot (l : List Jb) (s t : Int) : demV l s t = tot (dmT l s t) l.length := rfl
theorem dmT_bd {l : List Jb} (j : JobsB l) (s t : Int) : ∀ k : Nat, k ≤ l.length → 0 ≤ tot (dmT l s t) k ∧ tot (dmT l s t) k ≤ 200 * k
  | 0, _ => by simp [tot]
  | k + 1, hk => by
    have ih := dmT_bd j s t k (by omega)
    have := j.w0 k (by omega); have := j.w1 k (by omega)
    simp only [tot]
    unfold dmT at *
    split <;> omega
open Classical in
noncomputable def demB (l : List Jb) : Bool := decide (Dem l)
theorem demB_true {l : List Jb} (h : Dem l) : demB l = true := by simp [demB, h]
theorem demB_false {l : List Jb} (h : ¬ Dem l) : demB l = false := by simp [demB, h]
theorem demB_iff {l : List Jb} : demB l = true ↔ Dem l := by simp [demB]
theorem dem_all {l : List Jb} (j : JobsB l) (h : ∀ s t : Nat, s < 200 → s ≤ t → t ≤ 200 → demV l s t ≤ (t : Int) - s) : Dem l := by
  refine (dem_range j.toJobs (H := 200) (fun i hi => j.d1 i hi) (by omega)).mpr (fun s t hs hst ht => ?_)
  obtain ⟨S, rfl⟩ := Int.eq_ofNat_of_zero_le hs
  obtain ⟨T, rfl⟩ := Int.eq_ofNat_of_zero_le (show 0 ≤ t by omega)
  by_cases c : S < 200
  · exact h S T c (by omega) (by omega)
  · have : demV l S T = 0 := by
      rw [dem_tot]
      refine tot_zero _ (fun i hi => ?_)
      have := j.ad i hi; have := j.d1 i hi
      unfold dmT
      rw [if_neg (by omega)]
    omega

set_option maxHeartbeats 3200000 in
theorem refDemand_any (A : Option Addr) (l : List Jb) (c : Nat) (w : World) (h : Jbs w A l) (j : JobsB l) :
    Calls Try.prog 17 #[.slice A l.length c] w fun e w' => e = .returned (.bool (demB l)) ∧ Below w.heap.size w w' := by
  have hle := j.le
  go_enter Try.func17, Try.ntmps17
  go_wp2
  go_loopw [3] (fun s wr => ∃ a : Nat, a ≤ 200 ∧ s = .int .i64 a ∧ Hid (∀ s t : Nat, s < a → s ≤ t → t ≤ 200 → demV l s t ≤ (t : Int) - s) ∧ Below w.heap.size w wr) (fun s _ => 200 - (intOf s).toNat)
  case atStart => exact ⟨0, by omega, rfl, Lib.hid (fun s t hs => by omega), Below.refl _ _⟩
  case round =>
    obtain ⟨a, ha, rfl, HA, hbel⟩ := hrel
    by_cases hlt : a < 200
    · have i1 : (a : Int) < 200 := by omega
      go_wp2
      go_loopw [4] (fun s wr => ∃ b : Nat, a ≤ b ∧ b ≤ 201 ∧ s = .int .i64 b ∧ Hid (∀ t : Nat, a ≤ t → t < b → demV l a t ≤ (t : Int) - a) ∧ Below w.heap.size w wr) (fun s _ => 201 - (intOf s).toNat)
      case atStart => exact ⟨a, Nat.le_refl _, by omega, rfl, Lib.hid (fun t h1 h2 => by omega), hbel⟩
      case round =>
        clear hbel
        obtain ⟨b, hab, hb, rfl, HB, hbel⟩ := hrel
        by_cases hlb : b ≤ 200
        · have i2 : (b : Int) ≤ 200 := by omega
          go_wp2
          go_loopw [5, 19] (fun m s wr => ∃ k : Nat, k ≤ l.length ∧ s = .int .i64 k ∧ m = .int .i64 (tot (dmT l a b) k) ∧ Below w.heap.size w wr) (fun _ s _ => l.length - (intOf s).toNat)
          case atStart => exact ⟨0, Nat.zero_le _, rfl, rfl, hbel⟩
          case round =>
            clear hbel
            obtain ⟨k, hk, rfl, rfl, hbel⟩ := hrel
            obtain ⟨m, hm⟩ : ∃ m, m = tot (dmT l a b) k := ⟨_, rfl⟩
            have mb := dmT_bd j a b k hk
            rw [← hm] at mb ⊢
            obtain ⟨m0, m1⟩ := mb
            by_cases hlk : k < l.length
            · obtain ⟨bb, off, q, hA', hbl, c0, c1, c2, HJ⟩ := (h.below hbel).get hlk
              subst hA'
              have hq := jb_of HJ.out
              have w0 := j.w0 k hlk
              have w1 := j.w1 k hlk
              rw [hq] at w0 w1
              have HN : Hid (tot (dmT l a b) (k + 1) = m + if (a : Int) ≤ q.at_ ∧ q.due ≤ (b : Int) then q.work else 0) := Lib.hid (by simp only [tot]; rw [← hm]; unfold dmT; rw [hq])
              have i3 : (k : Int) < (l.length : Int) := by omega
              clear hm hq
              by_cases g1 : (a : Int) ≤ q.at_
              · have e1 : decide ((a : Int) ≤ q.at_) = true := decide_eq_true g1
                by_cases g2 : q.due ≤ (b : Int)
                · have e2 : decide (q.due ≤ (b : Int)) = true := decide_eq_true g2
                  go_wp2
                  go_roundw
                  case rel => exact ⟨k + 1, by omega, by go_num, by rw [HN.out, if_pos ⟨g1, g2⟩], hbel.alloc hbel.size _⟩
                  case measure => simp [intOf]; omega
                · have e2 : decide (q.due ≤ (b : Int)) = false := decide_eq_false g2
                  go_wp2
                  go_roundw
                  case rel => exact ⟨k + 1, by omega, by go_num, by rw [HN.out, if_neg (fun e => g2 e.2)]; congr 1; omega, hbel.alloc hbel.size _⟩
                  case measure => simp [intOf]; omega
              · have e1 : decide ((a : Int) ≤ q.at_) = false := decide_eq_false g1
                go_wp2
                go_roundw
                case rel => exact ⟨k + 1, by omega, by go_num, by rw [HN.out, if_neg (fun e => g1 e.1)]; congr 1; omega, hbel.alloc hbel.size _⟩
                case measure => simp [intOf]; omega
            · obtain rfl : k = l.length := by omega
              have HM : Hid (demV l a b = m) := Lib.hid (by rw [dem_tot, hm])
              have i3 : ¬ (l.length : Int) < (l.length : Int) := by omega
              clear hm
              by_cases g : (b : Int) - a < m
              · have HR : Hid (demB l = false) := Lib.hid (demB_false (fun d => by have := d a b (by omega); rw [HM.out] at this; omega))
                go_wp2
                go_ret
                exact ⟨ret_bool HR.out.symm, hbel⟩
              · have HB' : Hid (∀ t : Nat, a ≤ t → t < b + 1 → demV l a t ≤ (t : Int) - a) := Lib.hid (fun t h1 h2 => by
                  by_cases e : t = b
                  · subst e; rw [HM.out]; omega
                  · exact HB.out t h1 (by omega))
                go_wp2
                go_roundw
                case rel => exact ⟨b + 1, by omega, by omega, by go_num, HB', hbel⟩
                case measure => simp [intOf]; omega
        · obtain rfl : b = 201 := by omega
          have HA' : Hid (∀ s t : Nat, s < a + 1 → s ≤ t → t ≤ 200 → demV l s t ≤ (t : Int) - s) := Lib.hid (fun s t h1 h2 h3 => by
            by_cases e : s = a
            · subst e; exact HB.out t h2 (by omega)
            · exact HA.out s t (by omega) h2 h3)
          go_wp2
          go_roundw
          case rel => exact ⟨a + 1, by omega, by go_num, HA', hbel⟩
          case measure => simp [intOf]; omega
    · obtain rfl : a = 200 := by omega
      have HR : Hid (demB l = true) := Lib.hid (demB_true (dem_all j HA.out))
      go_wp2
      go_ret
      exact ⟨ret_bool HR.out.symm, hbel⟩

/-- What package edf owes: its four functions, whatever they are handed. -/
structure EdfC : Prop where
  check : ∀ (A : Option Addr) (l : List Jb) (c : Nat) (w : World), Jbs w A l → Calls Try.prog 13 #[.slice A l.length c] w fun e w' => e = .returned (.int .i64 (jbsE l)) ∧ Below w.heap.size w w'
  run : ∀ (A : Option Addr) (l : List Jb) (c : Nat) (w : World), Jbs w A l → jbsE l = 0 → Calls Try.prog 10 #[.slice A l.length c] w fun e w' => ∃ (x : List Int) (B : Option Addr) (k : Nat), IsRun l x ∧ e = .returned (.tuple #[.slice B x.length k, .int .i64 0]) ∧ w'.ownsRow w.heap.size 3 1 (.slice B x.length k) x.length (x.map (Value.int .i64)) ∧ Below w.heap.size w w'
  run_no : ∀ (A : Option Addr) (l : List Jb) (c : Nat) (w : World), Jbs w A l → ¬ jbsE l = 0 → Calls Try.prog 10 #[.slice A l.length c] w fun e w' => e = .returned (.tuple #[.slice none 0 0, .int .i64 (jbsE l)]) ∧ Below w.heap.size w w'
  late : ∀ (A : Option Addr) (l : List Jb) (c : Nat) (w : World), Jbs w A l → jbsE l = 0 → Calls Try.prog 11 #[.slice A l.length c] w fun e w' => ((∃ i, IsLate l i ∧ e = .returned (.tuple #[.int .i64 i, .int .i64 0])) ∨ ((∀ i, ¬ IsLate l i) ∧ e = .returned (.tuple #[.int .i64 0, .int .i64 5]))) ∧ Below w.heap.size w w'
  late_no : ∀ (A : Option Addr) (l : List Jb) (c : Nat) (w : World), Jbs w A l → ¬ jbsE l = 0 → Calls Try.prog 11 #[.slice A l.length c] w fun e w' => e = .returned (.tuple #[.int .i64 0, .int .i64 (jbsE l)]) ∧ Below w.heap.size w w'
  fits : ∀ (A : Option Addr) (l : List Jb) (c : Nat) (w : World), Jbs w A l → jbsE l = 0 → Calls Try.prog 16 #[.slice A l.length c] w fun e w' => e = .returned (.tuple #[.bool (demB l), .int .i64 0]) ∧ Below w.heap.size w w'
  fits_no : ∀ (A : Option Addr) (l : List Jb) (c : Nat) (w : World), Jbs w A l → ¬ jbsE l = 0 → Calls Try.prog 16 #[.slice A l.length c] w fun e w' => e = .returned (.tuple #[.bool false, .int .i64 (jbsE l)]) ∧ Below w.heap.size w w'

end Go.Proofs.Ytoapgdandpcboaa
