
/-
  Walks of package edf: Late; what it owes is shown.
-/
import Derived.Test.YtoapgdandpcboaaEdfZ
namespace Go.Proofs.Ytoapgdandpcboaa
set_option linter.all false
open Go.RowKit Go.Shelf Go.Lib

theorem cnt_ed (l : List Jb) (i : Nat) : ∀ m, (((tab m (edR l)).filter (fun y => y == (i : Int))).length : Int) = (jb l i).work - edL l m i
  | 0 => by simp [tab_zero, edL]
  | m + 1 => by
    rw [tab_succ, List.filter_append, List.length_append, edL_next]
    have ih := cnt_ed l i m
    by_cases c : edR l m = (i : Int)
    · rw [if_pos c, List.filter_cons, if_pos (by simp [c])]
      simp; omega
    · rw [if_neg c, List.filter_cons, if_neg (by simp [c])]
      simp; omega
theorem ed_idle {l : List Jb} {n i : Nat} : ∀ d, (∀ t, n ≤ t → t < n + d → edR l t < 0) → edL l (n + d) i = edL l n i
  | 0, _ => rfl
  | d + 1, h => by
    rw [show n + (d + 1) = n + d + 1 by omega, edL_next, if_neg (by have := h (n + d) (by omega) (by omega); omega), ed_idle d (fun t h1 h2 => h t h1 (by omega)), Int.sub_zero]
theorem end_cut {l : List Jb} {n i d : Nat} (h : IsEnd (edR l) 200 n) (hd : d ≤ 200) : edL l (min d n) i = edL l d i := by
  by_cases c : d ≤ n
  · rw [Nat.min_eq_left c]
  · rw [Nat.min_eq_right (by omega)]
    have := ed_idle (l := l) (n := n) (i := i) (d - n) (fun t h1 h2 => h.2.1 t h1 (by omega))
    rw [show n + (d - n) = d by omega] at this
    exact this.symm
theorem tab_take (n m : Nat) (f : Nat → Int) (h : m ≤ n) : (tab n f).take m = tab m f := by
  refine List.ext_getElem? (fun i => ?_)
  by_cases c : i < m
  · rw [List.getElem?_take_of_lt c]
    simp [tab, c, show i < n by omega]
  · rw [List.getElem?_eq_none (by simp; omega), List.getElem?_eq_none (by rw [length_tab]; omega)]
theorem Ints.takeJ {w : World} {A : Option Addr} {l : List Int} (h : Ints w A l) (k : Nat) : Ints w A (l.take k) := by
  refine ⟨by have := h.1; simp; omega, fun hl => ?_⟩
  simp at hl
  obtain ⟨b, off, rfl, hc⟩ := h.2 (by omega)
  refine ⟨b, off, rfl, fun j hj => ?_⟩
  simp at hj
  rw [hc j (by omega)]
  simp [List.getD, show j < k by omega]
theorem ecount_q (A : Option Addr) (x : List Int) (n c : Nat) (i m : Int) (w : World) (h : Ints w A x) (hn : x.length = n) (h2 : n ≤ 200) (hm : Hid (((x.filter (fun y => y == i)).length : Int) = m)) :
    Calls Try.prog 26 #[.slice A n c, .int .i64 i] w fun e w' => e = .returned (.int .i64 m) ∧ ∃ k, w' = w.drewN k := (ecount_any A x n c i m w h hn h2 hm).mono (fun e w' q => ⟨q.1, 0, q.2⟩)
set_option maxHeartbeats 3200000 in
theorem elate_yes (A : Option Addr) (l : List Jb) (c : Nat) (w : World) (h : Jbs w A l) (hE : jbsE l = 0) :
    Calls Try.prog 11 #[.slice A l.length c] w fun e w' => ((∃ i, IsLate l i ∧ e = .returned (.tuple #[.int .i64 i, .int .i64 0])) ∨ ((∀ i, ¬ IsLate l i) ∧ e = .returned (.tuple #[.int .i64 0, .int .i64 5]))) ∧ Below w.heap.size w w' := by
  have j := jbs_iff.1 hE
  have hle := j.le
  go_enter Try.func11, Try.ntmps11
  go_wp2_with fail
  refine (erun_any A l c w h hE).mono ?_
  rintro e w1 ⟨x, B, kk, ⟨n, HI, rfl⟩, rfl, o1, b1⟩
  have hI := Lib.hid HI
  have n2 := HI.1
  rw [length_tab] at o1 ⊢
  have ix : Ints w1 B (tab n (edR l)) := Ints.of_own (by rw [length_tab]; exact o1)
  have ncap : n ≤ kk := by
    rcases o1.2 with ⟨_, h0⟩ | ⟨g, cap, cur, hv, _, _, hn, _⟩
    · omega
    · injection hv with _ _ e
      subst e
      exact hn
  clear HI hE o1
  go_wp2
  go_loopw [18] (fun u wr => ∃ i : Nat, i ≤ l.length ∧ u = .int .i64 i ∧ Hid (∀ k, k < i → edL l ((jb l k).due).toNat k = 0) ∧ Below w1.heap.size w1 wr ∧ Below w.heap.size w wr) (fun u _ => l.length - (intOf u).toNat)
  case atStart => exact ⟨0, Nat.zero_le _, rfl, Lib.hid (fun k hk => by omega), Below.refl _ _, b1⟩
  case round =>
    clear b1
    obtain ⟨i, hi, rfl, HL, hbx, hbel⟩ := hrel
    by_cases hlt : i < l.length
    · obtain ⟨bb, off, q, hA', hbl, c0, c1, c2, HJ⟩ := (h.below hbel).get hlt
      subst hA'
      have hq := jb_of HJ.out
      have d0 := j.a0 i hlt
      have d1 := j.ad i hlt
      have d2 := j.d1 i hlt
      rw [hq] at d0 d1 d2
      obtain ⟨D, hD⟩ := Int.eq_ofNat_of_zero_le (show 0 ≤ q.due by omega)
      obtain ⟨m, hm⟩ : ∃ m, m = min D n := ⟨_, rfl⟩
      have HC : Hid ((((tab m (edR l)).filter (fun y => y == (i : Int))).length : Int) = q.work - edL l D i) := Lib.hid (by rw [cnt_ed, hm, end_cut hI.out (by omega), hq])
      obtain ⟨X, hX⟩ : ∃ X, X = q.work - edL l D i := ⟨_, rfl⟩
      rw [← hX] at HC
      have HX := Lib.hid hX
      have HD : Hid (((jb l i).due).toNat = D) := Lib.hid (by rw [hq, hD]; rfl)
      have E0 : 0 ≤ edL l D i := ((ed_edf l).way j.toJobs).nn D i hlt
      have i1 : (i : Int) < (l.length : Int) := by omega
      have ixm : Ints wr B (tab m (edR l)) := by
        have := (ix.below hbx).takeJ m
        rwa [tab_take n m _ (by omega)] at this
      obtain ⟨g1, hg1⟩ : ∃ g, g = wr.heap.size := ⟨_, rfl⟩
      obtain ⟨W1, hW1⟩ : ∃ W, W = wr.alloc (.cells #[.int .i64 q.at_, .int .i64 q.work, .int .i64 q.due] 31) := ⟨_, rfl⟩
      have B1 : Blk W1 g1 31 #[.int .i64 q.at_, .int .i64 q.work, .int .i64 q.due] := by rw [hW1, hg1]; exact Blk.new _ _ _
      have ixW : Ints W1 B (tab m (edR l)) := by rw [hW1]; exact ixm.below ((Below.refl _ _).alloc (Nat.le_refl _) _)
      have hb1 : Below w.heap.size w W1 := by rw [hW1]; exact hbel.alloc hbel.size _
      have hbx1 : Below w1.heap.size w1 W1 := by rw [hW1]; exact hbx.alloc hbx.size _
      have HW1 := Lib.hid hW1
      have HG1 := Lib.hid hg1
      have hl1 := B1.lt
      obtain ⟨x0, x1, x2⟩ := three_read B1
      have mn : (m : Int) ≤ n := by omega
      have mk : m ≤ kk := by omega
      have m2 : m ≤ 200 := by omega
      rw [hD] at x2
      have HM := Lib.hid hm
      clear hW1 hg1 hq hX hD ixm hm
      by_cases g : X < q.work
      · have e1 : decide (X < q.work) = true := decide_eq_true g
        have HN : Hid (IsLate l i) := Lib.hid ⟨hlt, by rw [HD.out]; have := HX.out; omega, HL.out⟩
        go_wp2
        rw [← HG1.out, ← HW1.out]
        clear c0 c1 c2 HG1 HW1
        rcases Nat.lt_trichotomy D n with cc | cc | cc
        · obtain rfl : m = D := by have := HM.out; omega
          have i6 : (m : Int) < n := by omega
          clear HM cc
          go_quiet ((go_at_call 26; exact Calls.quiet_of (ecount_q _ (tab m (edR l)) m _ i X _ (ixW.drewN _) (length_tab _ _) m2 HC)))
          go_wp2
          go_ret2
          exact ⟨.inl ⟨i, HN.out, rfl⟩, ⟨hb1.os, hb1.tape, hb1.output, hb1.size, hb1.block⟩⟩
        · obtain rfl : m = D := by have := HM.out; omega
          subst cc
          clear HM
          go_quiet ((go_at_call 26; exact Calls.quiet_of (ecount_q _ (tab m (edR l)) m _ i X _ (ixW.drewN _) (length_tab _ _) m2 HC)))
          go_wp2
          go_ret2
          exact ⟨.inl ⟨i, HN.out, rfl⟩, ⟨hb1.os, hb1.tape, hb1.output, hb1.size, hb1.block⟩⟩
        · obtain rfl : m = n := by have := HM.out; omega
          have i6 : (m : Int) < D := by omega
          clear HM cc
          go_quiet ((go_at_call 26; exact Calls.quiet_of (ecount_q _ (tab m (edR l)) m _ i X _ (ixW.drewN _) (length_tab _ _) m2 HC)))
          go_wp2
          go_ret2
          exact ⟨.inl ⟨i, HN.out, rfl⟩, ⟨hb1.os, hb1.tape, hb1.output, hb1.size, hb1.block⟩⟩
      · have e1 : decide (X < q.work) = false := decide_eq_false g
        have HL' : Hid (∀ k, k < i + 1 → edL l ((jb l k).due).toNat k = 0) := Lib.hid (fun k hk => by
          by_cases z : k = i
          · subst z; rw [HD.out]; have := HX.out; omega
          · exact HL.out k (by omega))
        go_wp2
        rw [← HG1.out, ← HW1.out]
        clear c0 c1 c2 HG1 HW1
        rcases Nat.lt_trichotomy D n with cc | cc | cc
        · obtain rfl : m = D := by have := HM.out; omega
          have i6 : (m : Int) < n := by omega
          clear HM cc
          go_quiet ((go_at_call 26; exact Calls.quiet_of (ecount_q _ (tab m (edR l)) m _ i X _ (ixW.drewN _) (length_tab _ _) m2 HC)))
          go_wp2
          go_roundw
          case rel => exact ⟨i + 1, by omega, by go_num, HL', ⟨hbx1.os, hbx1.tape, hbx1.output, hbx1.size, hbx1.block⟩, ⟨hb1.os, hb1.tape, hb1.output, hb1.size, hb1.block⟩⟩
          case measure => simp [intOf]; omega
        · obtain rfl : m = D := by have := HM.out; omega
          subst cc
          clear HM
          go_quiet ((go_at_call 26; exact Calls.quiet_of (ecount_q _ (tab m (edR l)) m _ i X _ (ixW.drewN _) (length_tab _ _) m2 HC)))
          go_wp2
          go_roundw
          case rel => exact ⟨i + 1, by omega, by go_num, HL', ⟨hbx1.os, hbx1.tape, hbx1.output, hbx1.size, hbx1.block⟩, ⟨hb1.os, hb1.tape, hb1.output, hb1.size, hb1.block⟩⟩
          case measure => simp [intOf]; omega
        · obtain rfl : m = n := by have := HM.out; omega
          have i6 : (m : Int) < D := by omega
          clear HM cc
          go_quiet ((go_at_call 26; exact Calls.quiet_of (ecount_q _ (tab m (edR l)) m _ i X _ (ixW.drewN _) (length_tab _ _) m2 HC)))
          go_wp2
          go_roundw
          case rel => exact ⟨i + 1, by omega, by go_num, HL', ⟨hbx1.os, hbx1.tape, hbx1.output, hbx1.size, hbx1.block⟩, ⟨hb1.os, hb1.tape, hb1.output, hb1.size, hb1.block⟩⟩
          case measure => simp [intOf]; omega
    · obtain rfl : i = l.length := by omega
      go_wp2
      go_ret2
      exact ⟨.inr ⟨fun i hi => hi.2.1 (HL.out i hi.1), rfl⟩, hbel⟩

set_option maxHeartbeats 800000 in
theorem elate_no (A : Option Addr) (l : List Jb) (c : Nat) (w : World) (h : Jbs w A l) (hE : ¬ jbsE l = 0) :
    Calls Try.prog 11 #[.slice A l.length c] w fun e w' => e = .returned (.tuple #[.int .i64 0, .int .i64 (jbsE l)]) ∧ Below w.heap.size w w' := by
  have e1 : (jbsE l != 0) = true := by simp [hE]
  go_enter Try.func11, Try.ntmps11
  go_wp2_with fail
  refine (erun_no A l c w h hE).mono ?_
  rintro e w1 ⟨rfl, b1⟩
  go_wp2
  go_ret2
  exact ⟨rfl, b1⟩

/-- What package edf owes, shown. -/
theorem edfC : EdfC where
  check := echeck_any
  run := erun_any
  run_no := erun_no
  late := elate_yes
  late_no := elate_no
  fits := efits_yes
  fits_no := efits_no

end Go.Proofs.Ytoapgdandpcboaa
