
/-
  Walks of package window: Sent, Done; what it owes, shown.
-/
import Derived.Test.YtmefekgbljhclaaWinC
import Derived.Test.YtmefekgbljhclaaBucketA
namespace Go.Proofs.Ytmefekgbljhclaa
set_option linter.all false
open Go.RowKit Go.Shelf Go.Lib

theorem rowAt_done {n k i : Nat} (F : Nat → Int) (h : i < k) : (rowAt n k F)[i]? = some (.int .i64 (F i)) := by
  simp only [rowAt]
  rw [List.getElem?_append_left (by simp [length_tab]; exact h), List.getElem?_map, get_tab _ h]; rfl
theorem rowAt_one {n : Nat} (F : Nat → Int) (h : F 0 = 0) : rowAt (n + 1) 1 F = rowAt (n + 1) 0 F := by
  simp [rowAt, tab_succ, tab_zero, h, List.replicate_succ]
theorem sw_zero (w p : Nat) : swV w p 0 = 0 := by unfold swV; rw [sf_zero]; rfl
theorem sw_step {w p : Nat} (hw : 1 ≤ w) (hp : 1 ≤ p) (i : Nat) (hi : 1 ≤ i) : swV w p i = max (swV w p (i - 1) + 1) (if w ≤ i then swV w p (i - w) + p else 0) := by
  obtain ⟨k, rfl⟩ : ∃ k, i = k + 1 := ⟨i - 1, by omega⟩
  have := sf_step hw hp k
  unfold swV
  rw [this, Nat.add_sub_cancel]
  split <;> omega
theorem sw_bd {n w p i : Nat} (h : WnOk n w p) (hi : i < 200) : 0 ≤ swV w p i ∧ swV w p i ≤ 40200 := by
  have := sf_max h hi
  unfold swV; omega

set_option maxRecDepth 100000 in
set_option maxHeartbeats 1600000 in
theorem wsent_any (n w p : Nat) (W : World) (v : WnOk n w p) : Calls Try.prog 29 #[.int .i64 n, .int .i64 w, .int .i64 p] W fun e W' => ∃ (A : Option Addr) (c : Nat), e = .returned (.tuple #[.slice A n c, .int .i64 0]) ∧ W'.ownsRow W.heap.size 3 1 (.slice A n c) n ((tab n (swV w p)).map (Value.int .i64)) ∧ Below W.heap.size W W' := by
  have v1 := v.n1
  have v2 := v.w0
  have v3 := v.w1
  have v4 := v.p0
  have v5 := v.p1
  have q1 : Hid (decide ((n : Int) < 0 ∨ 200 < (n : Int)) = false) := Lib.hid (decide_eq_false (by omega))
  have q2 : Hid (decide ((w : Int) < 1 ∨ 200 < (w : Int)) = false) := Lib.hid (decide_eq_false (by omega))
  have q3 : Hid (decide ((p : Int) < 1 ∨ 200 < (p : Int)) = false) := Lib.hid (decide_eq_false (by omega))
  have hmk := fun W => run_make_row' (P := Try.prog) 25 3 (.int .i64 0) 8 Try.underlying25 int_info rfl .i64 .i64 n (by omega) (by omega) W
  obtain ⟨g, hg⟩ : ∃ g, g = W.heap.size := ⟨_, rfl⟩
  have G := Lib.hid hg
  have gle : W.heap.size ≤ g := by omega
  clear hg
  go_enter Try.func29, Try.ntmps29
  go_wp2_with fail
  refine (lim_any n 0 200 false _ q1).mono ?_
  rintro e w' ⟨rfl, rfl⟩
  go_wp2_with fail
  refine (lim_any w 1 200 false _ q2).mono ?_
  rintro e w' ⟨rfl, rfl⟩
  go_wp2_with fail
  refine (lim_any p 1 200 false _ q3).mono ?_
  rintro e w' ⟨rfl, rfl⟩
  go_wp2
  rw [← G.out]
  go_loopw [9] (fun s wr => ∃ k : Nat, 1 ≤ k ∧ (k ≤ n ∨ n = 0) ∧ s = .int .i64 k ∧ (n = 0 → Blk wr g 3 (rowAt n 0 (swV w p)).toArray) ∧ (0 < n → Blk wr g 3 (rowAt n k (swV w p)).toArray) ∧ Below W.heap.size W wr) (fun s _ => n - (intOf s).toNat)
  case atStart =>
    refine ⟨1, Nat.le_refl _, by omega, rfl, fun _ => ?_, fun h => ?_, (Below.refl _ W).alloc (Nat.le_refl _) _⟩
    · rw [rowAt_zero, G.out]; exact Blk.new _ _ _
    · obtain ⟨m, rfl⟩ : ∃ m, n = m + 1 := ⟨n - 1, by omega⟩
      rw [rowAt_one _ (sw_zero _ _), rowAt_zero, G.out]; exact Blk.new _ _ _
  case round =>
    obtain ⟨k, hk0, hk, rfl, HB0, HB, hbel⟩ := hrel
    by_cases hlt : k < n
    · have B0 := HB (by omega)
      clear HB HB0
      have hn : ¬ n = 0 := by omega
      have hk' : k ≤ n := by omega
      have xb := sw_bd v (i := k - 1) (by omega)
      have HN := Lib.hid (sw_step v2 v4 k hk0)
      have cz := B0.cell (k - 1)
      rw [List.getElem?_toArray, rowAt_done _ (show k - 1 < k by omega)] at cz
      obtain ⟨x, hx⟩ : ∃ x, x = swV w p (k - 1) := ⟨_, rfl⟩
      rw [← hx] at cz xb
      obtain ⟨x0, x1⟩ := xb
      have ck : wr.cell? ⟨g, k, none⟩ = some (.int .i64 0) := by rw [B0.cell k]; simpa using rowAt_get (swV w p) hlt
      have fk := B0.frozen k
      have gl := B0.lt
      have i1 : (k : Int) < (n : Int) := by omega
      have m1 : IntKind.i64.wrap ((k : Int) - 1) = (k : Int) - 1 := IntWalk.i64_in _ ⟨by omega, by omega⟩
      have t1 : ((k : Int) - 1).toNat = k - 1 := by omega
      have m2 : IntKind.i64.wrap (x + 1) = x + 1 := IntWalk.i64_in _ ⟨by omega, by omega⟩
      have B1 := B0.set_ k (.int .i64 (x + 1))
      have c1 : (wr.setCell ⟨g, k, none⟩ (.int .i64 (x + 1))).cell? ⟨g, k, none⟩ = some (.int .i64 (x + 1)) := by
        rw [B1.cell k]; simp [rowAt_length _ hk', hlt]
      have f1 := B1.frozen k
      have hb1 := hbel.setCell (p := ⟨g, k, none⟩) gle (.int .i64 (x + 1))
      by_cases hw : w ≤ k
      · have yb := sw_bd v (i := k - w) (by omega)
        rw [if_pos hw, ← hx] at HN
        have cw : (wr.setCell ⟨g, k, none⟩ (.int .i64 (x + 1))).cell? ⟨g, k - w, none⟩ = some (.int .i64 (swV w p (k - w))) := by
          rw [B1.cell (k - w)]
          have := rowAt_done (n := n) (swV w p) (show k - w < k by omega)
          simp [Array.getElem?_setIfInBounds, show ¬ k = k - w by omega]
          exact this
        obtain ⟨y, hy⟩ : ∃ y, y = swV w p (k - w) := ⟨_, rfl⟩
        rw [← hy] at cw yb HN
        obtain ⟨y0, y1⟩ := yb
        have i2 : (w : Int) ≤ (k : Int) := by omega
        have m3 : IntKind.i64.wrap ((k : Int) - (w : Int)) = (k : Int) - (w : Int) := IntWalk.i64_in _ ⟨by omega, by omega⟩
        have t3 : ((k : Int) - (w : Int)).toNat = k - w := by omega
        have m4 : IntKind.i64.wrap (y + (p : Int)) = y + (p : Int) := IntWalk.i64_in _ ⟨by omega, by omega⟩
        have R0 : Hid (∀ u : Int, u = max (x + 1) (y + p) → Blk (((wr.setCell ⟨g, k, none⟩ (.int .i64 (x + 1))).setCell ⟨g, k, none⟩ (.int .i64 u)).drew) g 3 (rowAt n (k + 1) (swV w p)).toArray) := Lib.hid (fun u hu => by
          have q := B1.set_ k (.int .i64 u)
          rw [← rowAt_succ _ hlt, HN.out, ← hu]
          have e : (((rowAt n k (swV w p)).toArray.setIfInBounds k (.int .i64 (x + 1))).setIfInBounds k (.int .i64 u)) = (rowAt n k (swV w p)).toArray.setIfInBounds k (.int .i64 u) := by
            simp
          rw [e] at q
          exact q)
        have HB2 : Hid (∀ u : Value, Below W.heap.size W (((wr.setCell ⟨g, k, none⟩ (.int .i64 (x + 1))).setCell ⟨g, k, none⟩ u).drew)) := Lib.hid (fun u => by
          have q := hb1.setCell (p := ⟨g, k, none⟩) gle u
          exact ⟨q.os, q.tape, q.output, q.size, q.block⟩)
        have zz : ∀ i : Nat, n = 0 → Blk (((wr.setCell ⟨g, k, none⟩ (.int .i64 (x + 1))).setCell ⟨g, k, none⟩ (.int .i64 0)).drew) g 3 #[] := fun _ e => absurd e hn
        clear zz hx hy B0 B1 hbel hb1
        rcases Int.lt_trichotomy (x + 1) (y + (p : Int)) with q | q | q
        · go_wp2
          go_region
          go_wp2
          go_roundw
          case rel => exact ⟨k + 1, by omega, by omega, by go_num, fun e => absurd e hn, fun _ => R0.out _ (by omega), HB2.out _⟩
          case measure => simp [intOf]; omega
        · obtain rfl : y = x + 1 - (p : Int) := by omega
          clear m4 q
          have m4 : IntKind.i64.wrap (x + 1 - (p : Int) + (p : Int)) = x + 1 := by rw [Int.sub_add_cancel]; exact m2
          go_wp2
          go_region
          go_wp2
          go_roundw
          case rel => exact ⟨k + 1, by omega, by omega, by go_num, fun e => absurd e hn, fun _ => R0.out _ (by omega), HB2.out _⟩
          case measure => simp [intOf]; omega
        · go_wp2
          go_region
          go_wp2
          go_roundw
          case rel => exact ⟨k + 1, by omega, by omega, by go_num, fun e => absurd e hn, fun _ => R0.out _ (by omega), HB2.out _⟩
          case measure => simp [intOf]; omega
      · rw [if_neg hw, ← hx] at HN
        have i2 : ¬ (w : Int) ≤ (k : Int) := by omega
        have R0 : Hid (Blk (wr.setCell ⟨g, k, none⟩ (.int .i64 (x + 1))) g 3 (rowAt n (k + 1) (swV w p)).toArray) := Lib.hid (by
          rw [← rowAt_succ _ hlt, HN.out, show max (x + 1) 0 = x + 1 by omega]
          exact B1)
        have HB2 := Lib.hid hb1
        clear hx B0 B1 hbel hb1
        go_wp2
        go_roundw
        case rel => exact ⟨k + 1, by omega, by omega, by go_num, fun e => absurd e hn, fun _ => R0.out, HB2.out⟩
        case measure => simp [intOf]; omega
    · have i1 : ¬ (k : Int) < (n : Int) := by omega
      have B0 : Blk wr g 3 ((tab n (swV w p)).map (Value.int .i64)).toArray := by
        by_cases h0 : n = 0
        · have := HB0 h0
          subst h0
          exact this
        · obtain rfl : k = n := by omega
          have := HB (by omega)
          rwa [rowAt_full] at this
      have o := own_of_blk (n := n) B0 gle (length_tab _ _).symm (by omega)
      rw [length_tab] at o
      clear HB HB0 B0
      go_wp2
      go_ret2
      exact ⟨some ⟨g, 0, none⟩, n, rfl, o, hbel⟩

theorem wn_split {n w p : Int} (h : ¬ wnE n w p = 0) : (n < 0 ∨ 200 < n) ∨ (¬ (n < 0 ∨ 200 < n) ∧ ((w < 1 ∨ 200 < w) ∨ (¬ (w < 1 ∨ 200 < w) ∧ (p < 1 ∨ 200 < p)))) := by
  unfold wnE at h
  by_cases c : n < 0 ∨ 200 < n ∨ w < 1 ∨ 200 < w ∨ p < 1 ∨ 200 < p
  · omega
  · rw [if_neg c] at h; exact absurd rfl h
set_option maxHeartbeats 800000 in
theorem wsent_no (n w p : Int) (W : World) (h : ¬ wnE n w p = 0) : Calls Try.prog 29 #[.int .i64 n, .int .i64 w, .int .i64 p] W fun e W' => (∃ (A : Option Addr) (c : Nat), e = .returned (.tuple #[.slice A 0 c, .int .i64 1])) ∧ Below W.heap.size W W' := by
  rcases wn_split h with c | ⟨c, d | ⟨d, e⟩⟩
  · have q1 := lim_yes c
    clear h c
    go_enter Try.func29, Try.ntmps29
    go_wp2_with fail
    refine (lim_any n 0 200 true _ q1).mono ?_
    rintro e w' ⟨rfl, rfl⟩
    go_wp2
    go_ret2
    exact ⟨⟨none, 0, rfl⟩, Below.refl _ _⟩
  · have q1 : Hid (decide (n < 0 ∨ 200 < n) = false) := Lib.hid (decide_eq_false c)
    have q2 := lim_yes d
    clear h c d
    go_enter Try.func29, Try.ntmps29
    go_wp2_with fail
    refine (lim_any n 0 200 false _ q1).mono ?_
    rintro e w' ⟨rfl, rfl⟩
    go_wp2_with fail
    refine (lim_any w 1 200 true _ q2).mono ?_
    rintro e w' ⟨rfl, rfl⟩
    go_wp2
    go_ret2
    exact ⟨⟨none, 0, rfl⟩, Below.refl _ _⟩
  · have q1 : Hid (decide (n < 0 ∨ 200 < n) = false) := Lib.hid (decide_eq_false c)
    have q2 : Hid (decide (w < 1 ∨ 200 < w) = false) := Lib.hid (decide_eq_false d)
    have q3 := lim_yes e
    clear h c d e
    go_enter Try.func29, Try.ntmps29
    go_wp2_with fail
    refine (lim_any n 0 200 false _ q1).mono ?_
    rintro e w' ⟨rfl, rfl⟩
    go_wp2_with fail
    refine (lim_any w 1 200 false _ q2).mono ?_
    rintro e w' ⟨rfl, rfl⟩
    go_wp2_with fail
    refine (lim_any p 1 200 true _ q3).mono ?_
    rintro e w' ⟨rfl, rfl⟩
    go_wp2
    go_ret2
    exact ⟨⟨none, 0, rfl⟩, Below.refl _ _⟩

set_option maxHeartbeats 800000 in
theorem wdone_any (n w p : Nat) (W : World) (v : WnOk n w p) : Calls Try.prog 30 #[.int .i64 n, .int .i64 w, .int .i64 p] W fun e W' => e = .returned (.tuple #[.int .i64 (dnV w p n), .int .i64 0]) ∧ Below W.heap.size W W' := by
  have v1 := v.n1
  have v5 := v.p1
  by_cases h0 : n = 0
  · have HD : Hid (((dnV w p n : Nat) : Int) = 0) := Lib.hid (by rw [dnV, if_pos h0]; rfl)
    have e1 : (n : Int) = 0 := by omega
    have e2 : ((n : Int) == 0) = true := by rw [e1]; rfl
    clear e1 h0
    go_enter Try.func30, Try.ntmps30
    go_wp2_with fail
    refine (wsent_any n w p _ v).mono ?_
    rintro e w1 ⟨A, c, rfl, o, b⟩
    go_wp2
    go_ret2
    exact ⟨by rw [HD.out]; rfl, b⟩
  · have xb := sw_bd v (i := n - 1) (by omega)
    have HD : Hid (((dnV w p n : Nat) : Int) = swV w p (n - 1) + p) := Lib.hid (by rw [dnV, if_neg h0]; unfold swV; omega)
    have e2 : ((n : Int) == 0) = false := by rw [beq_eq_false_iff_ne]; omega
    have m1 : IntKind.i64.wrap ((n : Int) - 1) = (n : Int) - 1 := IntWalk.i64_in _ ⟨by omega, by omega⟩
    have t1 : ((n : Int) - 1).toNat = n - 1 := by omega
    have i1 : (0 : Int) ≤ (n : Int) - 1 := by omega
    have i2 : (n : Int) - 1 < (n : Int) := by omega
    go_enter Try.func30, Try.ntmps30
    go_wp2_with fail
    refine (wsent_any n w p _ v).mono ?_
    rintro e w1 ⟨A, c, rfl, o, b⟩
    have hx : Ints w1 A (tab n (swV w p)) := Ints.of_own (by rw [length_tab]; exact o)
    obtain ⟨b1, o1, x, rfl, hc, HX⟩ := hx.at_ (k := n - 1) (by rw [length_tab]; omega)
    have ex : x = swV w p (n - 1) := by have := HX.out; rw [get_tab _ (by omega)] at this; exact (Option.some.inj this).symm
    rw [← ex] at xb HD
    obtain ⟨x0, x1⟩ := xb
    have m2 : IntKind.i64.wrap (x + (p : Int)) = x + (p : Int) := IntWalk.i64_in _ ⟨by omega, by omega⟩
    clear ex o hx
    go_wp2
    go_ret2
    exact ⟨by rw [HD.out]; rfl, b⟩
set_option maxHeartbeats 800000 in
theorem wdone_no (n w p : Int) (W : World) (h : ¬ wnE n w p = 0) : Calls Try.prog 30 #[.int .i64 n, .int .i64 w, .int .i64 p] W fun e W' => e = .returned (.tuple #[.int .i64 0, .int .i64 1]) ∧ Below W.heap.size W W' := by
  go_enter Try.func30, Try.ntmps30
  go_wp2_with fail
  refine (wsent_no n w p _ h).mono ?_
  rintro e w1 ⟨⟨A, c, rfl⟩, b⟩
  go_wp2
  go_ret2
  exact ⟨rfl, b⟩
theorem winC : WinC := ⟨wsent_any, wsent_no, wdone_any, wdone_no⟩

end Go.Proofs.Ytmefekgbljhclaa
