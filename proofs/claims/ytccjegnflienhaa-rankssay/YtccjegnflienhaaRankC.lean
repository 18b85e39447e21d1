
/-
  Walks: the document's own response times.
-/
import Derived.Test.YtccjegnflienhaaRankB
namespace Go.Proofs.Ytccjegnflienhaa
set_option linter.all false
open Go.RowKit Go.Shelf Go.Lib

theorem cel_split {r p n : Int} (hp : 1 ≤ p) (h : n = r / p) : (n * p < r → cl r p = n + 1) ∧ (¬ n * p < r → cl r p = n) := by
  have h1 := Int.mul_ediv_add_emod r p
  have h2 := Int.emod_nonneg r (show p ≠ 0 by omega)
  have h3 := Int.emod_lt_of_pos r (show 0 < p by omega)
  have e : p * (r / p) = n * p := by rw [h, Int.mul_comm]
  constructor
  · intro c
    have a : cl r p ≤ n + 1 := mul_lt hp (by have := cel_hi (r := r) hp; rw [Int.add_mul, Int.one_mul]; omega)
    have b : n ≤ cl r p := mul_lt hp (by have := cel_lo (r := r) hp; omega)
    by_cases d : cl r p = n
    · have := cel_lo (r := r) hp; rw [d] at this; omega
    · omega
  · intro c
    have ee : r = n * p := by omega
    rw [ee, cel_mul hp]
set_option maxHeartbeats 3200000 in
theorem refResp_any (A : Option Addr) (l : List Tk) (c i : Nat) (N : Int) (w : World) (h : Tas w A l) (hc : l.length ≤ c) (v : TksB l) (hi : i < l.length) (HR : Hid (rtV l i = N)) :
    Calls Try.prog 15 #[.slice A l.length c, .int .i64 i] w fun e w' => e = .returned (.int .i64 N) ∧ Below w.heap.size w w' := by
  have hle := v.le
  go_enter Try.func15, Try.ntmps15
  go_wp2
  go_loopw [5] (fun s wr => ∃ r : Nat, 1 ≤ r ∧ (r : Int) ≤ (tk l i).due + 1 ∧ s = .int .i64 r ∧ Hid (rtV l i = rtF l i (((tk l i).due).toNat + 1 - r) r) ∧ Below w.heap.size w wr) (fun s _ => ((tk l i).due).toNat + 1 - (intOf s).toNat)
  case atStart =>
    refine ⟨1, Nat.le_refl _, ?_, rfl, Lib.hid rfl, Below.refl _ _⟩
    have := v.wd i hi; have := v.w1 i hi; omega
  case round =>
    obtain ⟨r, hr1, hr, rfl, HF, hbel⟩ := hrel
    obtain ⟨bb, off, q, hA', hbl, c0, c1, c2, HJ⟩ := (h.below hbel).get hi
    subst hA'
    have hq := tk_of HJ.out
    have dp := v.dp i hi
    have wd := v.wd i hi
    have w1' := v.w1 i hi
    have p60 := v.p60 i hi
    rw [hq] at hr HF dp wd w1' p60 ⊢
    have i3 : (i : Int) < (l.length : Int) := by omega
    have i4 : i ≤ c := by omega
    have HQ := Lib.hid hq
    clear hq
    by_cases hlt : (r : Int) ≤ q.due
    · have r60 : (r : Int) ≤ 60 := by omega
      have r60' : r ≤ 60 := by omega
      clear hle
      go_wp2
      go_loopw [6, 28] (fun m s wr => ∃ k : Nat, k ≤ i ∧ s = .int .i64 k ∧ (∃ X : Int, m = .int .i64 X ∧ Hid (X = q.work + tot (hgV l r) k)) ∧ Below w.heap.size w wr) (fun _ s _ => i - (intOf s).toNat)
      case atStart => exact ⟨0, Nat.zero_le _, rfl, ⟨_, rfl, Lib.hid (by simp [tot])⟩, hbel⟩
      case round =>
        clear hbel c0 c1 c2 hbl
        obtain ⟨k, hk, rfl, ⟨X, rfl, HX⟩, hbel⟩ := hrel
        have Xb : 0 ≤ X ∧ X ≤ 18060 := by
          have := hg_tot v (r := r) (by omega) r60 k (by omega)
          have := v.le
          have := HX.out
          omega
        obtain ⟨X0, X1⟩ := Xb
        by_cases hlk : k < i
        · obtain ⟨bb', off', p, hA2, hbl, c0, c1, c2, HJ2⟩ := (h.below hbel).get (k := k) (by omega)
          obtain ⟨rfl, rfl⟩ : bb' = bb ∧ off' = off := by simpa using hA2.symm
          clear hA2
          have hp := tk_of HJ2.out
          have p1 := v.p1 k (by omega)
          have p2 := v.p60 k (by omega)
          have p3 := v.w1 k (by omega)
          have p4 : p.work ≤ 60 := by have := v.wd k (by omega); have := v.dp k (by omega); rw [hp] at *; omega
          have hb := hg_bd v (r := r) (by omega) r60 (k := k) (by omega)
          rw [hp] at p1 p2 p3
          have ha : hgV l r k = cl r p.per * p.work := by unfold hgV; rw [hp]
          rw [ha] at hb
          obtain ⟨n, hn⟩ : ∃ n, n = (r : Int) / p.per := ⟨_, rfl⟩
          have n0 : 0 ≤ n := by rw [hn]; exact Int.ediv_nonneg (by omega) (by omega)
          have n1 : n ≤ 60 := by
            have : (r : Int) / p.per ≤ r := Int.ediv_le_self _ (by omega)
            omega
          have nz : ¬ p.per = 0 := by omega
          have nm : n * p.per ≤ r := by rw [hn]; exact Int.ediv_mul_le _ nz
          have nm0 : 0 ≤ n * p.per := Int.mul_nonneg n0 (by omega)
          have cs := cel_split p1 hn
          have t3 : Int.tdiv (r : Int) p.per = n := by rw [hn]; exact Int.tdiv_eq_ediv_of_nonneg (by omega)
          have t4 : IntKind.i64.wrap n = n := IntWalk.i64_in _ ⟨by omega, by omega⟩
          obtain ⟨M, hM⟩ : ∃ M, M = n * p.per := ⟨_, rfl⟩
          rw [← hM] at nm nm0 cs
          have t5 : IntKind.i64.wrap (n * p.per) = M := by rw [← hM]; exact IntWalk.i64_in _ ⟨by omega, by omega⟩
          have i5 : (k : Int) < (i : Int) := by omega
          have k5 : k ≤ 5 := by have := v.le; omega
          have i6 : (k : Int) < (l.length : Int) := by omega
          obtain ⟨Y, hY⟩ : ∃ Y, Y = cl r p.per * p.work := ⟨_, rfl⟩
          rw [← hY] at hb
          obtain ⟨Y0, Y1⟩ := hb
          have HN : Hid (X + Y = q.work + tot (hgV l r) (k + 1)) := Lib.hid (by simp only [tot]; rw [ha, ← hY, HX.out]; omega)
          have t8 : IntKind.i64.wrap (X + Y) = X + Y := IntWalk.i64_in _ ⟨by omega, by omega⟩
          have HM := Lib.hid hM
          clear hp ha hn hM
          by_cases g : M < (r : Int)
          · have e1 : decide (M < (r : Int)) = true := decide_eq_true g
            have t7 : IntKind.i64.wrap ((n + 1) * p.work) = Y := by rw [← cs.1 g, ← hY]; exact IntWalk.i64_in _ ⟨by omega, by omega⟩
            clear hY cs
            go_wp2
            go_roundw
            case rel => refine ⟨k + 1, ?_, by go_num, ⟨_, rfl, HN⟩, hbel.alloc hbel.size _⟩; exact hlk
            case measure => simp [intOf]; omega
          · have e1 : decide (M < (r : Int)) = false := decide_eq_false g
            have t7 : IntKind.i64.wrap (n * p.work) = Y := by rw [← cs.2 g, ← hY]; exact IntWalk.i64_in _ ⟨by omega, by omega⟩
            clear hY cs
            go_wp2
            go_roundw
            case rel => exact ⟨k + 1, by omega, by go_num, ⟨_, rfl, HN⟩, hbel.alloc hbel.size _⟩
            case measure => simp [intOf]; omega
        · obtain rfl : k = i := by omega
          have HD : Hid (dmV l k r = X) := Lib.hid (by unfold dmV; rw [HQ.out, HX.out])
          have i7 : ¬ (k : Int) < (k : Int) := by omega
          by_cases g : X = (r : Int)
          · have e1 : (X == (r : Int)) = true := by simp [g]
            have HN : Hid ((r : Int) = N) := Lib.hid (by
              rw [← HR.out, HF.out, show q.due.toNat + 1 - r = (q.due.toNat - r) + 1 by omega]
              exact (rtF_here (by rw [HD.out, g])).symm)
            clear g
            go_wp2
            go_ret
            exact ⟨ret_int HN.out, hbel⟩
          · have e1 : (X == (r : Int)) = false := by simp [g]
            have HN : Hid (rtV l k = rtF l k (q.due.toNat + 1 - (r + 1)) (r + 1)) := Lib.hid (by
              rw [HF.out, show q.due.toNat + 1 - r = (q.due.toNat + 1 - (r + 1)) + 1 by omega]
              exact rtF_next (by rw [HD.out]; exact g))
            clear g
            go_wp2
            go_roundw
            case rel => exact ⟨r + 1, by omega, by omega, by go_num, HN, hbel⟩
            case measure => simp [intOf]; omega
    · have HN : Hid (-1 = N) := Lib.hid (by
        rw [← HR.out, HF.out, show q.due.toNat + 1 - r = 0 by omega]; rfl)
      go_wp2
      go_ret
      exact ⟨ret_int HN.out, hbel⟩

end Go.Proofs.Ytccjegnflienhaa
