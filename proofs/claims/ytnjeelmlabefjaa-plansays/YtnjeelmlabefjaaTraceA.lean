
/-
  Walks: trace.Check, Sum, Slots; the document's own check and sum.
-/
import Derived.Test.YtnjeelmlabefjaaTraceP
import Derived.Test.YtnjeelmlabefjaaPrA
import Derived.Laws.AppendOwn
namespace Go.Proofs.Ytnjeelmlabefjaa
set_option linter.all false
open Go.RowKit Go.Shelf

theorem trkGo_hd {l : List Int} {k : Nat} {x c : Int} (h : trk l = trkGo (l.drop k)) (hx : l[k]? = some x) (hc : c = if x < 0 then 1 else if 10000 < x then 1 else trkGo (l.drop (k + 1))) : trk l = c := by
  rw [h, drop_of_get hx, hc, trkGo]

set_option maxHeartbeats 400000 in
theorem trCheck_any (A : Option Addr) (l : List Int) (c : Nat) (w : World) (h : Ints w A l) :
    Calls Try.prog 30 #[.slice A l.length c] w fun e w' => e = .returned (.int .i64 (trk l)) ∧ w = w' := by
  have hl := h.1
  by_cases h1 : 60 < l.length
  · go_enter Try.func30, Try.ntmps30
    go_wp2
    go_ret
    exact ⟨by simp [trk, h1], rfl⟩
  have HC : Hid (trk l = trkGo (l.drop 0)) := by apply Lib.hid; simp [trk, h1]
  go_enter Try.func30, Try.ntmps30
  go_wp2
  go_loop [10] (fun i => ∃ (k : Nat), k ≤ l.length ∧ i = .int .i64 k ∧ Hid (trk l = trkGo (l.drop k))) (fun i => l.length - (intOf i).toNat)
  case atStart => exact ⟨0, Nat.zero_le _, rfl, HC⟩
  case round =>
    obtain ⟨k, hk, rfl, HR⟩ := hrel
    clear HC
    by_cases hlt : k < l.length
    · obtain ⟨bb, off, x, rfl, hcell, HX⟩ := h.at_ hlt
      by_cases q1 : x < 0
      · have e1 : decide (x < 0) = true := decide_eq_true q1
        go_wp2
        go_ret
        exact ⟨ret_int (trkGo_hd HR.out HX.out (by rw [if_pos (by assumption)])).symm, rfl⟩
      have e1 : decide (x < 0) = false := decide_eq_false q1
      by_cases q2 : 10000 < x
      · have e2 : decide (10000 < x) = true := decide_eq_true q2
        go_wp2
        go_ret
        exact ⟨ret_int (trkGo_hd HR.out HX.out (by rw [if_neg (by omega), if_pos (by assumption)])).symm, rfl⟩
      · have e2 : decide (10000 < x) = false := decide_eq_false q2
        go_wp2
        go_round
        case rel => exact ⟨k + 1, by omega, by go_num, Lib.hid (trkGo_hd HR.out HX.out (by rw [if_neg (by omega), if_neg (by omega)]))⟩
        case measure => simp [intOf]; omega
    · go_wp2
      go_ret
      refine ⟨?_, rfl⟩
      rw [HR.out, List.drop_of_length_le (by omega)]
      rfl

/-- What Sum hands back. -/
def trL (l : List Int) : List Int := if trk l = 0 then adL l else []
theorem trL_yes {l : List Int} (h : Tr l) : trL l = adL l := by rw [trL, if_pos (trk_iff.2 h)]
theorem trL_no {l : List Int} (h : ¬ trk l = 0) : trL l = [] := by rw [trL, if_neg h]

set_option maxHeartbeats 1600000 in
theorem trSum_any (A : Option Addr) (l : List Int) (c : Nat) (w : World) (h : Ints w A l) :
    Calls Try.prog 27 #[.slice A l.length c] w (Ans (trL l) (trk l) w) := by
  by_cases h1 : trk l = 0
  · have v := trk_iff.1 h1
    have e1 : (trk l != 0) = false := by simp [h1]
    have HE : Hid (trk l = 0) := Lib.hid h1
    obtain ⟨F, hF⟩ : ∃ F, F = sumV l := ⟨_, rfl⟩
    have HL : Hid (trL l = tab (l.length + 1) F) := Lib.hid (by rw [trL_yes v, hF]; rfl)
    have hle := v.le
    have BF : Hid (∀ i, i ≤ l.length → 0 ≤ F i ∧ F i ≤ 10000000) := Lib.hid (fun i hi => by have := sum_lo v i hi; rw [hF]; omega)
    have HS : Hid (∀ u, F (u + 1) = F u + gt l u) := Lib.hid (fun u => by rw [hF]; rfl)
    have H0 : Hid (F 0 = 0) := Lib.hid (by rw [hF]; rfl)
    clear h1 hF
    have hmk := fun W => run_make_row' (P := Try.prog) 22 3 (.int .i64 0) 8 Try.underlying22 int_info rfl .i64 .i64 (l.length + 1) (by omega) (by omega) W
    have ec : ((l.length + 1 : Nat) : Int) = (l.length : Int) + 1 := by omega
    simp only [ec] at hmk
    clear ec
    go_enter Try.func27, Try.ntmps27
    go_wp2_with fail
    refine (trCheck_any A l c _ h).mono ?_
    rintro e w' ⟨rfl, rfl⟩
    go_wp2
    go_loopw [19] (fun i wr => ∃ k : Nat, k ≤ l.length ∧ i = .int .i64 k ∧ Blk wr w.heap.size 3 (rowAt (l.length + 1) (k + 1) F).toArray ∧ Below w.heap.size w wr) (fun i _ => l.length - (intOf i).toNat)
    case atStart =>
      refine ⟨0, Nat.zero_le _, rfl, ?_, (Below.refl _ _).alloc (Nat.le_refl _) _⟩
      rw [rowI_one (by omega) H0.out]; exact Blk.new _ _ _
    case round =>
      obtain ⟨t, ht, rfl, hblk, hbel⟩ := hrel
      by_cases hlt : t < l.length
      · obtain ⟨b1, o1, x, rfl, hc1, HX⟩ := (h.below hbel).at_ hlt
        have hx := gt_of_get HX.out
        have x0 : 0 ≤ x := by rw [← hx]; exact v.lo t hlt
        have x1 : x ≤ 10000 := by rw [← hx]; exact v.hi t hlt
        obtain ⟨y, hy⟩ : ∃ y, y = F t := ⟨_, rfl⟩
        have y0 : 0 ≤ y := by rw [hy]; exact (BF.out t ht).1
        have y1 : y ≤ 10000000 := by rw [hy]; exact (BF.out t ht).2
        have hcy : wr.cell? ⟨w.heap.size, t, none⟩ = some (.int .i64 y) := by
          rw [hblk.cell t, rowI_map, hy]
          have := get_of_lt (l := rowI (l.length + 1) (t + 1) F) (i := t) (by rw [rowI_length F (by omega)]; omega)
          rw [rowI_gt F (by omega)] at this
          simp [this]
        have hcz : wr.cell? ⟨w.heap.size, t + 1, none⟩ = some (.int .i64 0) := by rw [hblk.cell (t + 1)]; simpa using rowAt_get F (n := l.length + 1) (k := t + 1) (by omega)
        have hfz := hblk.frozen (t + 1)
        have HN : Hid (F (t + 1) = y + x) := Lib.hid (by rw [HS.out, ← hy, hx])
        clear hx hy
        go_wp2
        go_roundw
        case rel =>
          refine ⟨t + 1, by omega, by go_num, ?_, hbel.setCell (Nat.le_refl _) _⟩
          rw [← rowAt_succ F (n := l.length + 1) (k := t + 1) (by omega), HN.out]; exact hblk.set_ _ _
        case measure => simp [intOf]; omega
      · obtain rfl : t = l.length := by omega
        go_wp2
        go_ret2
        rw [rowAt_full] at hblk
        refine ⟨some ⟨w.heap.size, 0, none⟩, l.length + 1, by rw [HE.out, HL.out, length_tab]; rfl, ?_, hbel⟩
        rw [HL.out, length_tab]
        have := own_of_blk (n := l.length + 1) hblk (Nat.le_refl _) (length_tab _ _).symm (by omega)
        rwa [length_tab] at this
  · have e1 : (trk l != 0) = true := by simp [h1]
    have HL : Hid (trL l = []) := Lib.hid (trL_no h1)
    clear h1
    go_enter Try.func27, Try.ntmps27
    go_wp2_with fail
    refine (trCheck_any A l c _ h).mono ?_
    rintro e w' ⟨rfl, rfl⟩
    go_wp2
    go_ret2
    exact ⟨none, 0, by rw [HL.out]; rfl, by rw [HL.out]; exact World.ownsRow_nil _ _ _ _, Below.refl _ _⟩

set_option maxHeartbeats 400000 in
theorem refWithin_any (n lo hi : Int) (w : World) : Calls Try.prog 54 #[.int .i64 n, .int .i64 lo, .int .i64 hi] w fun e w' => e = .returned (.bool (decide (lo ≤ n) && decide (n ≤ hi))) ∧ w = w' := by
  by_cases h1 : lo ≤ n
  · have e1 : decide (lo ≤ n) = true := decide_eq_true h1
    by_cases h2 : n ≤ hi
    · have e2 : decide (n ≤ hi) = true := decide_eq_true h2
      go_enter Try.func54, Try.ntmps54
      go_wp2
      go_ret
      exact ⟨by simp [h1, h2], rfl⟩
    · have e2 : decide (n ≤ hi) = false := decide_eq_false h2
      go_enter Try.func54, Try.ntmps54
      go_wp2
      go_ret
      exact ⟨by simp [h1, h2], rfl⟩
  · have e1 : decide (lo ≤ n) = false := decide_eq_false h1
    go_enter Try.func54, Try.ntmps54
    go_wp2
    go_ret
    exact ⟨by simp [h1], rfl⟩

def outP (x : Int) : Bool := decide (x < 0 ∨ 10000 < x)
theorem outP_pr : Pr 53 outP := by
  refine ⟨enters_of Try.func53 (by kernel_rfl) rfl, fun x w => ?_⟩
  have HO : Hid ((!(decide (0 ≤ x) && decide (x ≤ 10000))) = outP x) := Lib.hid (by
    unfold outP
    by_cases h1 : 0 ≤ x <;> by_cases h2 : x ≤ 10000 <;> simp [h1, h2] <;> omega)
  go_enter Try.func53, Try.ntmps53
  go_wp2_with fail
  refine (refWithin_any x 0 10000 _).mono ?_
  rintro e w' ⟨rfl, rfl⟩
  go_wp2
  go_ret
  exact ⟨ret_bool (by rw [← HO.out, Bool.not_and]), rfl⟩

set_option maxHeartbeats 400000 in
theorem refTrace_any (A : Option Addr) (l : List Int) (c : Nat) (w : World) (h : Ints w A l) :
    Calls Try.prog 38 #[.slice A l.length c] w fun e w' => e = .returned (.int .i64 (trk l)) ∧ w = w' := by
  have hl := h.1
  by_cases h1 : 60 < l.length
  · go_enter Try.func38, Try.ntmps38
    go_wp2
    go_ret
    exact ⟨by simp [trk, h1], rfl⟩
  have HC : Hid (trk l = if l.any outP = true then 1 else 0) := Lib.hid (by rw [trk, if_neg h1, trkGo_any]; rfl)
  cases q : l.any outP
  · have HQ := Lib.hid q
    clear q
    go_enter Try.func38, Try.ntmps38
    go_wp2_with fail
    refine (containsFunc_any _ outP outP_pr A l c _ h).mono ?_
    rintro e w' ⟨rfl, rfl⟩
    rw [HQ.out]
    go_wp2
    go_ret
    exact ⟨by rw [HC.out, HQ.out]; rfl, rfl⟩
  · have HQ := Lib.hid q
    clear q
    go_enter Try.func38, Try.ntmps38
    go_wp2_with fail
    refine (containsFunc_any _ outP outP_pr A l c _ h).mono ?_
    rintro e w' ⟨rfl, rfl⟩
    rw [HQ.out]
    go_wp2
    go_ret
    exact ⟨by rw [HC.out, HQ.out]; rfl, rfl⟩

end Go.Proofs.Ytnjeelmlabefjaa
