
/-
  Walks of package ranks: Response, Fits; the document's own response times.
-/
import Derived.Test.YtccjegnflienhaaRankA
import Derived.Deep.RegionHeld3
namespace Go.Proofs.Ytccjegnflienhaa
set_option linter.all false
open Go.RowKit Go.Shelf Go.Lib

theorem Tas.take {w : World} {A : Option Addr} {l : List Tk} (h : Tas w A l) (i : Nat) : Tas w A (l.take i) := by
  unfold Tas at h ⊢
  refine ⟨by have := h.1; simp at this ⊢; omega, fun h0 => ?_⟩
  have hp : 0 < (l.map tp).length := by simp at h0 ⊢; omega
  obtain ⟨b, off, e, hc⟩ := h.2 hp
  refine ⟨b, off, e, fun j q hj => hc j q ?_⟩
  rw [List.map_take] at hj
  rw [List.getElem?_take] at hj
  split at hj
  · exact hj
  · simp at hj
theorem rtF_next {l : List Tk} {i n r : Nat} (h : ¬ dmV l i (r : Int) = (r : Int)) : rtF l i (n + 1) r = rtF l i n (r + 1) := if_neg h
theorem rtF_here {l : List Tk} {i n r : Nat} (h : dmV l i (r : Int) = (r : Int)) : rtF l i (n + 1) r = r := if_pos h
theorem tot_take {l : List Tk} {i : Nat} (r : Int) : tot (hgV (l.take i) r) i = tot (hgV l r) i := tot_eq i (fun k hk => hg_take r hk)
set_option maxHeartbeats 3200000 in
theorem resp_yes (A : Option Addr) (l : List Tk) (c i : Nat) (w : World) (h : Tas w A l) (hc : l.length ≤ c) (hE : tasE l = 0) (hi : i < l.length) (N E : Int) (HR : Hid ((rtV l i = N ∧ E = 0 ∧ 0 < N) ∨ (rtV l i = -1 ∧ N = 0 ∧ E = 8))) :
    Calls Try.prog 11 #[.slice A l.length c, .int .i64 i] w fun e w' => e = .returned (.tuple #[.int .i64 N, .int .i64 E]) ∧ Below w.heap.size w w' := by
  have v := tas_iff.1 hE
  have hle := v.le
  have HE := Lib.hid hE
  clear hE
  have q1 : Hid (decide ((i : Int) < 0 ∨ ((l.length : Int) - 1) < i) = false) := Lib.hid (decide_eq_false (by omega))
  go_enter Try.func11, Try.ntmps11
  go_wp2_with fail
  refine (rcheck_any A l c w h).mono ?_
  rintro e w1 ⟨rfl, b1⟩
  rw [HE.out]
  go_wp2_with fail
  refine (lim_any i 0 ((l.length : Int) - 1) false _ q1).mono ?_
  rintro e w' ⟨rfl, rfl⟩
  go_wp2
  go_loopw [7] (fun s wr => ∃ r : Nat, 1 ≤ r ∧ (r : Int) ≤ (tk l i).due + 1 ∧ s = .int .i64 r ∧ Hid (rtV l i = rtF l i (((tk l i).due).toNat + 1 - r) r) ∧ Below w.heap.size w wr) (fun s _ => ((tk l i).due).toNat + 1 - (intOf s).toNat)
  case atStart =>
    refine ⟨1, Nat.le_refl _, ?_, rfl, Lib.hid rfl, b1⟩
    have := v.wd i hi; have := v.w1 i hi; omega
  case round =>
    clear b1
    obtain ⟨r, hr1, hr, rfl, HF, hbel⟩ := hrel
    obtain ⟨bb, off, q, hA', hbl, c0, c1, c2, HJ⟩ := (h.below hbel).get hi
    subst hA'
    have hq := tk_of HJ.out
    have dp := v.dp i hi
    have wd := v.wd i hi
    have w1' := v.w1 i hi
    have p60 := v.p60 i hi
    rw [hq] at hr HF dp wd w1' p60 ⊢
    have i3 : (i : Int) < (l.length : Int) := by omega
    have i4 : i ≤ c := by omega
    by_cases hlt : (r : Int) ≤ q.due
    · have vt := v.take i
      obtain ⟨X, hX⟩ : ∃ X, tot (hgV (l.take i) r) i = X := ⟨_, rfl⟩
      have HX := Lib.hid hX
      have hti : Hid ((l.take i).length = i) := Lib.hid (by simp; omega)
      have Xb : 0 ≤ X ∧ X ≤ 18000 := by
        have := hg_tot vt (r := r) (by omega) (by omega) i (by rw [hti.out]; exact Nat.le_refl _)
        rw [hX] at this
        omega
      obtain ⟨X0, X1⟩ := Xb
      have ht9 : Hid (Tas wr.drew (some ⟨bb, off, none⟩) (l.take i)) := Lib.hid (show Tas wr.drew _ _ from (h.below hbel).take i)
      have HD : Hid (dmV l i r = q.work + X) := Lib.hid (by unfold dmV; rw [hq, ← hX, tot_take])
      have t1 : IntKind.i64.wrap (q.work + X) = q.work + X := IntWalk.i64_in _ ⟨by omega, by omega⟩
      have HQ := Lib.hid hq
      clear hX hq
      by_cases g : q.work + X = (r : Int)
      · have e1 : (q.work + X == (r : Int)) = true := by simp [g]
        have HG := Lib.hid g
        clear g
        go_wp2
        go_region_held3 (fun w' => w'.cell? ⟨bb, off + i * 3 + 1, none⟩ = some (.int .i64 q.work))
          (first | go_keep | exact (b9.cell (cell_lt (by assumption))).trans (by assumption))
          (first
            | ((with_reducible refine (rdemand_any _ (l.take i) i c r X _ ht9.out hti.out vt (by omega) (by omega) HX).mono ?_); rintro e w9 ⟨rfl, b9⟩))
        have hb9 : Below w.heap.size w w9 := below_trans hbel (below_trans (below_of_drewN (n := 1) rfl) b9)
        have HN : Hid (N = r ∧ E = 0) := Lib.hid (by
          have a : rtV l i = r := by
            rw [HF.out, show q.due.toNat + 1 - r = (q.due.toNat - r) + 1 by omega]
            exact rtF_here (by rw [HD.out, HG.out])
          rcases HR.out with ⟨x, y, _⟩ | ⟨x, _⟩
          · exact ⟨by rw [← x, a], y⟩
          · omega)
        clear b9
        go_wp2
        go_ret2
        exact ⟨by rw [HN.out.1, HN.out.2]; rfl, hb9⟩
      · have e1 : (q.work + X == (r : Int)) = false := by simp [g]
        have HG := Lib.hid g
        clear g
        go_wp2
        go_region_held3 (fun w' => w'.cell? ⟨bb, off + i * 3 + 1, none⟩ = some (.int .i64 q.work))
          (first | go_keep | exact (b9.cell (cell_lt (by assumption))).trans (by assumption))
          (first
            | ((with_reducible refine (rdemand_any _ (l.take i) i c r X _ ht9.out hti.out vt (by omega) (by omega) HX).mono ?_); rintro e w9 ⟨rfl, b9⟩))
        have hb9 : Below w.heap.size w w9 := below_trans hbel (below_trans (below_of_drewN (n := 1) rfl) b9)
        have HN : Hid (rtV l i = rtF l i (q.due.toNat + 1 - (r + 1)) (r + 1)) := Lib.hid (by
          rw [HF.out, show q.due.toNat + 1 - r = (q.due.toNat + 1 - (r + 1)) + 1 by omega]
          exact rtF_next (by rw [HD.out]; exact HG.out))
        clear b9
        go_wp2
        go_roundw
        case rel => exact ⟨r + 1, by omega, by omega, by go_num, HN, hb9⟩
        case measure => simp [intOf]; omega
    · have HN : Hid (N = 0 ∧ E = 8) := Lib.hid (by
        have a : rtV l i = -1 := by
          rw [HF.out, show q.due.toNat + 1 - r = 0 by omega]; rfl
        rcases HR.out with ⟨x, _, y⟩ | ⟨_, x, y⟩
        · omega
        · exact ⟨x, y⟩)
      go_wp2
      go_ret2
      exact ⟨by rw [HN.out.1, HN.out.2]; rfl, hbel⟩
set_option maxHeartbeats 800000 in
theorem resp_arg (A : Option Addr) (l : List Tk) (c : Nat) (i : Int) (w : World) (h : Tas w A l) (hE : tasE l = 0) (hi : ¬ (0 ≤ i ∧ i < l.length)) :
    Calls Try.prog 11 #[.slice A l.length c, .int .i64 i] w fun e w' => e = .returned (.tuple #[.int .i64 0, .int .i64 1]) ∧ Below w.heap.size w w' := by
  have v := tas_iff.1 hE
  have hle := v.le
  have HE := Lib.hid hE
  clear hE
  have q1 : Hid (decide (i < 0 ∨ ((l.length : Int) - 1) < i) = true) := Lib.hid (decide_eq_true (by omega))
  go_enter Try.func11, Try.ntmps11
  go_wp2_with fail
  refine (rcheck_any A l c w h).mono ?_
  rintro e w1 ⟨rfl, b1⟩
  rw [HE.out]
  go_wp2_with fail
  refine (lim_any i 0 ((l.length : Int) - 1) true _ q1).mono ?_
  rintro e w' ⟨rfl, rfl⟩
  go_wp2
  go_ret2
  exact ⟨rfl, b1⟩
set_option maxHeartbeats 800000 in
theorem resp_bad (A : Option Addr) (l : List Tk) (c : Nat) (i : Int) (w : World) (h : Tas w A l) (hE : ¬ tasE l = 0) :
    Calls Try.prog 11 #[.slice A l.length c, .int .i64 i] w fun e w' => e = .returned (.tuple #[.int .i64 0, .int .i64 (tasE l)]) ∧ Below w.heap.size w w' := by
  have e1 : (tasE l != 0) = true := by simp [hE]
  go_enter Try.func11, Try.ntmps11
  go_wp2_with fail
  refine (rcheck_any A l c w h).mono ?_
  rintro e w1 ⟨rfl, b1⟩
  go_wp2
  go_ret2
  exact ⟨rfl, b1⟩

/-- The same, told by the answer. -/
theorem resp_of {l : List Tk} (v : TksB l) {i : Nat} (hi : i < l.length) : ∃ N E : Int, ((rtV l i = N ∧ E = 0 ∧ 0 < N) ∨ (rtV l i = -1 ∧ N = 0 ∧ E = 8)) := by
  rcases rt_spec v.toTks hi with ⟨a, _⟩ | ⟨r, a, b, _⟩
  · exact ⟨0, 8, .inr ⟨a, rfl, rfl⟩⟩
  · exact ⟨r, 0, .inl ⟨a, rfl, by omega⟩⟩
set_option maxHeartbeats 1600000 in
theorem rfits_yes (A : Option Addr) (l : List Tk) (n c : Nat) (s : Bool) (w : World) (h : Tas w A l) (hc : l.length ≤ c) (hE : tasE l = 0) (hn : n = l.length) (hs : Hid (ftB l = s)) :
    Calls Try.prog 12 #[.slice A n c] w fun e w' => e = .returned (.tuple #[.bool s, .int .i64 0]) ∧ Below w.heap.size w w' := by
  subst hn
  have v := tas_iff.1 hE
  have hle := v.le
  have HE := Lib.hid hE
  clear hE
  go_enter Try.func12, Try.ntmps12
  go_wp2_with fail
  refine (rcheck_any A l c w h).mono ?_
  rintro e w1 ⟨rfl, b1⟩
  rw [HE.out]
  go_wp2
  go_loopw [15] (fun s wr => ∃ k : Nat, k ≤ l.length ∧ s = .int .i64 k ∧ Hid (∀ i, i < k → 0 < rtV l i) ∧ Below w.heap.size w wr) (fun s _ => l.length - (intOf s).toNat)
  case atStart => exact ⟨0, Nat.zero_le _, rfl, Lib.hid (fun i hi => by omega), b1⟩
  case round =>
    clear b1
    obtain ⟨k, hk, rfl, HF, hbel⟩ := hrel
    by_cases hlt : k < l.length
    · have i3 : (k : Int) < (l.length : Int) := by omega
      obtain ⟨N, E, hR⟩ := resp_of v hlt
      have HR := Lib.hid hR
      clear hR
      by_cases g : E = 0
      · have HG : Hid (E = 0) := Lib.hid g
        clear g
        go_wp2_with fail
        refine (resp_yes A l c k _ (h.below hbel) hc HE.out hlt N E HR).mono ?_
        rintro e w5 ⟨rfl, b5⟩
        have hb5 := below_trans hbel b5
        rw [HG.out]
        have HN : Hid (∀ i, i < k + 1 → 0 < rtV l i) := Lib.hid (fun i hi => by
          by_cases c : i = k
          · subst c
            rcases HR.out with ⟨x, _, y⟩ | ⟨_, _, y⟩
            · omega
            · have := HG.out; omega
          · exact HF.out i (by omega))
        clear b5
        go_wp2
        go_roundw
        case rel => exact ⟨k + 1, by omega, by go_num, HN, hb5⟩
        case measure => simp [intOf]; omega
      · have e1 : (E != 0) = true := by simp [g]
        have HN : Hid (s = false) := Lib.hid (by
          rw [← hs.out]
          refine ftB_no hlt ?_
          rcases HR.out with ⟨_, y, _⟩ | ⟨x, _⟩ <;> omega)
        clear g
        go_wp2_with fail
        refine (resp_yes A l c k _ (h.below hbel) hc HE.out hlt N E HR).mono ?_
        rintro e w5 ⟨rfl, b5⟩
        go_wp2
        go_ret2
        exact ⟨by rw [HN.out]; rfl, below_trans hbel b5⟩
    · have HN : Hid (s = true) := Lib.hid (by rw [← hs.out]; exact ftB_all.mpr (fun i hi => HF.out i (by omega)))
      have i3 : ¬ (k : Int) < (l.length : Int) := by omega
      go_wp2
      go_ret2
      exact ⟨by rw [HN.out]; rfl, hbel⟩
set_option maxHeartbeats 800000 in
theorem rfits_no (A : Option Addr) (l : List Tk) (c : Nat) (w : World) (h : Tas w A l) (hE : ¬ tasE l = 0) :
    Calls Try.prog 12 #[.slice A l.length c] w fun e w' => e = .returned (.tuple #[.bool false, .int .i64 (tasE l)]) ∧ Below w.heap.size w w' := by
  have e1 : (tasE l != 0) = true := by simp [hE]
  go_enter Try.func12, Try.ntmps12
  go_wp2_with fail
  refine (rcheck_any A l c w h).mono ?_
  rintro e w1 ⟨rfl, b1⟩
  go_wp2
  go_ret2
  exact ⟨rfl, b1⟩

end Go.Proofs.Ytccjegnflienhaa
