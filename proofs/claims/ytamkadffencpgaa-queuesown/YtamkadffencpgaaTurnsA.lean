
/-
  Walks: turns.Check, waits, a turn of one queue.
-/
import Derived.Test.YtamkadffencpgaaFlowA
import Derived.Test.YtamkadffencpgaaFlowP
import Derived.Test.YtamkadffencpgaaBucketC
import Derived.Deep.RegionWith
namespace Go.Proofs.Ytamkadffencpgaa
set_option linter.all false
open Go.RowKit Go.Shelf

set_option maxHeartbeats 1600000 in
theorem checkFlow_any (f : Fw) (w : World) (h : Ints w f.a f.z) : Calls Try.prog 65 #[.agg #[.int .i64 f.q, .slice f.a f.z.length f.c]] w fun e w' => e = .returned (.int .i64 (chkF f.f)) ∧ Below w.heap.size w w' := by
  obtain ⟨q, A, c, z⟩ := f
  show Calls Try.prog 65 #[.agg #[.int .i64 q, .slice A z.length c]] w _
  replace h : Ints w A z := h
  have hz0 := h.1
  by_cases hq : q < 1 ∨ 1000 < q
  · have HE : Hid (chkF (Fw.f ⟨q, A, c, z⟩) = 1) := Lib.hid (if_pos hq)
    have q1 := lim_yes hq
    clear hq
    go_enter Try.func65, Try.ntmps65
    go_wp2_with fail
    refine (lim_any q 1 1000 true _ q1).mono ?_
    rintro e w' ⟨rfl, rfl⟩
    go_wp2
    go_ret
    exact ⟨ret_int HE.out.symm, (Below.refl _ _).alloc (Nat.le_refl _) _⟩
  have q1 : Hid (decide (q < 1 ∨ 1000 < q) = false) := Lib.hid (decide_eq_false hq)
  by_cases hl : 60 < z.length
  · have HE : Hid (chkF (Fw.f ⟨q, A, c, z⟩) = 2) := Lib.hid (by rw [chkF, if_neg (by exact hq), if_pos (by exact hl)])
    have i1 : (60 : Int) < (z.length : Int) := by omega
    clear hq hl
    go_enter Try.func65, Try.ntmps65
    go_wp2_with fail
    refine (lim_any q 1 1000 false _ q1).mono ?_
    rintro e w' ⟨rfl, rfl⟩
    go_wp2
    go_ret
    exact ⟨ret_int HE.out.symm, (Below.refl _ _).alloc (Nat.le_refl _) _⟩
  have HE0 : Hid (chkF (Fw.f ⟨q, A, c, z⟩) = szGo z) := Lib.hid (by rw [chkF, if_neg (by exact hq), if_neg (by exact hl)]; rfl)
  have i1 : ¬ (60 : Int) < (z.length : Int) := by omega
  obtain ⟨W, hW⟩ : ∃ W, W = w.alloc (.cells #[.int .i64 q, .slice A z.length c] 47) := ⟨_, rfl⟩
  have h' : Ints W A z := by rw [hW]; exact h.alloc _
  have HW := Lib.hid hW
  clear hq hl hW
  go_enter Try.func65, Try.ntmps65
  go_wp2_with fail
  refine (lim_any q 1 1000 false _ q1).mono ?_
  rintro e w' ⟨rfl, rfl⟩
  go_wp2
  rw [← HW.out]
  go_loop [15] (fun i => ∃ k : Nat, k ≤ z.length ∧ i = .int .i64 k ∧ Hid (szGo z = szGo (z.drop k))) (fun i => z.length - (intOf i).toNat)
  case atStart => exact ⟨0, Nat.zero_le _, rfl, Lib.hid rfl⟩
  case round =>
    obtain ⟨k, hk, rfl, HG⟩ := hrel
    by_cases hlt : k < z.length
    · obtain ⟨b1, o1, x, rfl, hc1, HX⟩ := h'.at_ hlt
      have i2 : (k : Int) < (z.length : Int) := by omega
      by_cases hx : x < 1 ∨ 1000 < x
      · have HE : Hid (chkF (Fw.f ⟨q, some ⟨b1, o1, none⟩, c, z⟩) = 1) := Lib.hid (by rw [HE0.out, HG.out, sz_drop HX.out, szGo, if_pos hx])
        have q2 := lim_yes hx
        clear hx
        go_wp2_with fail
        refine (lim_any x 1 1000 true _ q2).mono ?_
        rintro e w' ⟨rfl, rfl⟩
        go_wp2
        go_ret
        exact ⟨ret_int HE.out.symm, by rw [HW.out]; exact (Below.refl _ _).alloc (Nat.le_refl _) _⟩
      · have HN : Hid (szGo z = szGo (z.drop (k + 1))) := Lib.hid (by rw [HG.out, sz_drop HX.out, szGo, if_neg hx])
        have q2 : Hid (decide (x < 1 ∨ 1000 < x) = false) := Lib.hid (decide_eq_false hx)
        clear hx
        go_wp2_with fail
        refine (lim_any x 1 1000 false _ q2).mono ?_
        rintro e w' ⟨rfl, rfl⟩
        go_wp2
        go_round
        case rel => exact ⟨k + 1, by omega, by go_num, HN⟩
        case measure => simp [intOf]; omega
    · have HE : Hid (chkF (Fw.f ⟨q, A, c, z⟩) = 0) := Lib.hid (by rw [HE0.out, HG.out, List.drop_of_length_le (by omega)]; rfl)
      go_wp2
      go_ret
      exact ⟨ret_int HE.out.symm, by rw [HW.out]; exact (Below.refl _ _).alloc (Nat.le_refl _) _⟩

theorem two_read {W : World} {g : Nat} {t : TypeId} {x y : Value} (h : Blk W g t #[x, y]) : W.cell? ⟨g, 0, none⟩ = some x ∧ W.cell? ⟨g, 1, none⟩ = some y :=
  ⟨by simpa using h.cell 0, by simpa using h.cell 1⟩
theorem four_read {W : World} {g : Nat} {t : TypeId} {x y z u : Value} (h : Blk W g t #[x, y, z, u]) : W.cell? ⟨g, 0, none⟩ = some x ∧ W.cell? ⟨g, 1, none⟩ = some y ∧ W.cell? ⟨g, 2, none⟩ = some z ∧ W.cell? ⟨g, 3, none⟩ = some u :=
  ⟨by simpa using h.cell 0, by simpa using h.cell 1, by simpa using h.cell 2, by simpa using h.cell 3⟩

set_option maxHeartbeats 1600000 in
theorem tcheck_any (A : Option Addr) (l : List Fw) (c : Nat) (w : World) (h : Fls w A l) :
    Calls Try.prog 51 #[.slice A l.length c] w fun e w' => e = .returned (.int .i64 (flE (fls l))) ∧ Below w.heap.size w w' := by
  by_cases h8 : 8 < l.length
  · have HE : Hid (flE (fls l) = 2) := Lib.hid (if_pos (by rw [length_fls]; exact h8))
    have hz : (8 : Int) < (l.length : Int) := by omega
    go_enter Try.func51, Try.ntmps51
    go_wp2
    go_ret
    exact ⟨ret_int HE.out.symm, Below.refl _ _⟩
  have HE : Hid (flE (fls l) = flGo (fls l)) := Lib.hid (if_neg (by rw [length_fls]; exact h8))
  have hz : ¬ (8 : Int) < (l.length : Int) := by omega
  go_enter Try.func51, Try.ntmps51
  go_wp2
  go_loopw [11] (fun i wr => ∃ k : Nat, k ≤ l.length ∧ i = .int .i64 k ∧ Hid (flE (fls l) = flGo ((fls l).drop k)) ∧ Below w.heap.size w wr) (fun i _ => l.length - (intOf i).toNat)
  case atStart => exact ⟨0, Nat.zero_le _, rfl, Lib.hid (by rw [HE.out]; rfl), Below.refl _ _⟩
  case round =>
    clear HE
    obtain ⟨k, hk, rfl, HE, hbel⟩ := hrel
    by_cases hlt : k < l.length
    · obtain ⟨bb, off, f, rfl, hbl, c0, c1, iz, kz, HP⟩ := (h.below hbel).get hlt
      have i1 : (k : Int) < (l.length : Int) := by omega
      have hd : Hid ((fls l).drop k = f.f :: (fls l).drop (k + 1)) := Lib.hid (fl_drop (by simp [fls, HP.out]))
      go_wp2_with fail
      refine (checkFlow_any f _ (iz.alloc _)).mono ?_
      rintro e w1 ⟨rfl, b1⟩
      have hb1 := below_trans hbel (below_of1 b1)
      clear b1 c0 c1
      by_cases hq : chkF f.f = 0
      · have HN : Hid (flE (fls l) = flGo ((fls l).drop (k + 1))) := Lib.hid (by rw [HE.out, hd.out, flGo, if_pos hq])
        have HQ := Lib.hid hq
        rw [HQ.out]
        clear hq
        go_wp2
        go_roundw
        case rel => exact ⟨k + 1, by omega, by go_num, HN, hb1⟩
        case measure => simp [intOf]; omega
      · have HN : Hid (chkF f.f = flE (fls l)) := Lib.hid (by rw [HE.out, hd.out, flGo, if_neg hq])
        have e1 : (chkF f.f != 0) = true := by simp [hq]
        clear hq
        go_wp2
        go_ret
        exact ⟨ret_int HN.out, hb1⟩
    · have HN : Hid (flE (fls l) = 0) := Lib.hid (by rw [HE.out, List.drop_of_length_le (by rw [length_fls]; omega)]; rfl)
      go_wp2
      go_ret
      exact ⟨ret_int HN.out.symm, hbel⟩

set_option maxHeartbeats 400000 in
theorem waits_any (q : Int) (A : Option Addr) (n c x : Nat) (d : Int) (w : World) (hn : n ≤ 9223372036854775807) :
    Calls Try.prog 54 #[.agg #[.int .i64 q, .slice A n c, .int .i64 x, .int .i64 d]] w fun e w' => e = .returned (.bool (decide (x < n))) ∧ Below w.heap.size w w' := by
  by_cases hx : x < n
  · have i1 : (x : Int) < (n : Int) := by omega
    have e1 : decide (x < n) = true := decide_eq_true hx
    rw [e1]
    clear hx e1
    go_enter Try.func54, Try.ntmps54
    go_wp2
    go_ret
    exact ⟨rfl, (Below.refl _ _).alloc (Nat.le_refl _) _⟩
  · have i1 : ¬ (x : Int) < (n : Int) := by omega
    have e1 : decide (x < n) = false := decide_eq_false hx
    rw [e1]
    clear hx e1
    go_enter Try.func54, Try.ntmps54
    go_wp2
    go_ret
    exact ⟨rfl, (Below.refl _ _).alloc (Nat.le_refl _) _⟩

/-- The number in a cell. -/
def cellN (w : World) (g i : Nat) : Nat := match w.cell? ⟨g, i, none⟩ with
  | some (.int _ n) => n.toNat
  | _ => 0
theorem cellN_eq {w : World} {g i n : Nat} (h : w.cell? ⟨g, i, none⟩ = some (.int .i64 n)) : cellN w g i = n := by simp [cellN, h]

theorem four_stage {W : World} {g : Nat} {t : TypeId} {x y z u : Value} (h : Blk W g t #[x, y, z, u]) :
    (∀ a, (W.setCell ⟨g, 0, none⟩ a).cell? ⟨g, 0, none⟩ = some a) ∧ (∀ a b, ((W.setCell ⟨g, 0, none⟩ a).setCell ⟨g, 1, none⟩ b).cell? ⟨g, 1, none⟩ = some b) ∧ (∀ a b c, (((W.setCell ⟨g, 0, none⟩ a).setCell ⟨g, 1, none⟩ b).setCell ⟨g, 2, none⟩ c).cell? ⟨g, 2, none⟩ = some c) ∧ (∀ a b c d, ((((W.setCell ⟨g, 0, none⟩ a).setCell ⟨g, 1, none⟩ b).setCell ⟨g, 2, none⟩ c).setCell ⟨g, 3, none⟩ d).cell? ⟨g, 3, none⟩ = some d) := by
  refine ⟨fun a => ?_, fun a b => ?_, fun a b c => ?_, fun a b c d => ?_⟩
  · simpa using (h.set_ 0 a).cell 0
  · simpa using ((h.set_ 0 a).set_ 1 b).cell 1
  · simpa using (((h.set_ 0 a).set_ 1 b).set_ 2 c).cell 2
  · simpa using ((((h.set_ 0 a).set_ 1 b).set_ 2 c).set_ 3 d).cell 3
theorem four_sets {W : World} {g : Nat} {t : TypeId} {x y z u : Value} (h : Blk W g t #[x, y, z, u]) (a b c d : Value) : Blk ((((W.setCell ⟨g, 0, none⟩ a).setCell ⟨g, 1, none⟩ b).setCell ⟨g, 2, none⟩ c).setCell ⟨g, 3, none⟩ d) g t #[a, b, c, d] := by
  have := (((h.set_ 0 a).set_ 1 b).set_ 2 c).set_ 3 d
  simpa using this
theorem below_four {w W : World} {B g : Nat} (h : Below B w W) (hg : B ≤ g) (a b c d : Value) : Below B w ((((W.setCell ⟨g, 0, none⟩ a).setCell ⟨g, 1, none⟩ b).setCell ⟨g, 2, none⟩ c).setCell ⟨g, 3, none⟩ d) :=
  (((h.setCell (p := ⟨g, 0, none⟩) hg a).setCell (p := ⟨g, 1, none⟩) hg b).setCell (p := ⟨g, 2, none⟩) hg c).setCell (p := ⟨g, 3, none⟩) hg d

set_option maxHeartbeats 1600000 in
theorem turn_any (q : Int) (A : Option Addr) (z : List Int) (c x m : Nat) (d : Int) (w : World) (ok : FlwOk ⟨q, z⟩) (h : Ints w A z) (hx : x = Flw.cn ⟨q, z⟩ m) (hd : d = m * q - sumV z x) (lt : x < z.length) :
    Calls Try.prog 67 #[.agg #[.int .i64 q, .slice A z.length c, .int .i64 x, .int .i64 d]] w fun e w' => ∃ (y : Nat) (g : Int), y = Flw.cn ⟨q, z⟩ (m + 1) ∧ g = (m + 1 : Nat) * q - sumV z y ∧ e = .returned (.agg #[.int .i64 q, .slice A z.length c, .int .i64 y, .int .i64 g]) ∧ Below w.heap.size w w' := by
  have q0 : 1 ≤ q := ok.q0
  have q1 : q ≤ 1000 := ok.q1
  have sz : Sz z := ok.sz
  have hle := sz.le
  obtain ⟨P, hP⟩ : ∃ P, P = (m : Int) * q := ⟨_, rfl⟩
  have hP1 : ((m + 1 : Nat) : Int) * q = P + q := by rw [hP, show ((m + 1 : Nat) : Int) = (m : Int) + 1 by omega, Int.add_mul, Int.one_mul]
  have P0 : 0 ≤ P := by rw [hP]; exact Int.mul_nonneg (by omega) (by omega)
  have d0 : 0 ≤ d := by
    have := cg_ok (z := z) (B := P) P0 z.length
    rw [hd, ← hP, hx]
    show 0 ≤ P - sumV z (cgN z ((m : Int) * q))
    rw [← hP]; unfold cgN; omega
  have d1 : d ≤ 1000 := by
    have h1 := cg_next (z := z) (B := P) P0 (by rw [hP]; show Flw.cn ⟨q, z⟩ m < _; rw [← hx]; exact lt)
    have h2 := sz.hi x lt
    rw [hP] at h1
    replace h1 : (m : Int) * q < sumV z (Flw.cn ⟨q, z⟩ m + 1) := h1
    rw [← hx, sumV] at h1
    omega
  have HP1 := Lib.hid hP1
  rw [← hP] at hd
  have HD := Lib.hid hd
  clear hP hP1 hd hx
  have hn := h.1
  go_enter Try.func67, Try.ntmps67
  go_wp2
  go_loopw [] (fun wr => ∃ (y : Nat) (g : Int), x ≤ y ∧ y ≤ z.length ∧ g = P + q - sumV z y ∧ 0 ≤ g ∧ g ≤ 2000 ∧ Blk wr w.heap.size 91 #[.int .i64 q, .slice A z.length c, .int .i64 y, .int .i64 g] ∧ Blk wr (w.heap.size + 1) 91 #[.int .i64 0, .slice none 0 0, .int .i64 0, .int .i64 0] ∧ Below w.heap.size w wr) (fun wr => z.length - cellN wr w.heap.size 2)
  case atStart =>
    refine ⟨x, d + q, Nat.le_refl _, by omega, by rw [HD.out]; omega, by omega, by omega, (Blk.new _ _ _).alloc _, ?_, ((Below.refl _ _).alloc (Nat.le_refl _) _).alloc (by simp) _⟩
    have := Blk.new (w.alloc (.cells #[.int .i64 q, .slice A z.length c, .int .i64 x, .int .i64 (d + q)] 91)) 91 #[.int .i64 0, .slice none 0 0, .int .i64 0, .int .i64 0]
    simpa using this
  case round =>
    obtain ⟨y, g, hxy, hy, hg, g0, g1, K0, K1, hbel⟩ := hrel
    have HG := Lib.hid hg
    clear hg
    obtain ⟨c0, c1, c2, c3⟩ := four_read K0
    have CN := Lib.hid (cellN_eq c2)
    have lt0 := K0.lt
    have lt1 := K1.lt
    by_cases hlt : y < z.length
    · obtain ⟨b1, o1, s, rfl, hc1, HS⟩ := (h.below hbel).at_ hlt
      have hs := gt_of_get HS.out
      have s0 : 1 ≤ s := by rw [← hs]; exact sz.lo y hlt
      have s1 : s ≤ 1000 := by rw [← hs]; exact sz.hi y hlt
      have i1 : (y : Int) < (z.length : Int) := by omega
      have dy : decide (y < z.length) = true := decide_eq_true hlt
      have HSV : Hid (sumV z (y + 1) = sumV z y + s) := Lib.hid (by rw [sumV, hs])
      have lb1 := cell_lt hc1
      clear hs
      by_cases hsg : s ≤ g
      · have e1 : decide (s ≤ g) = true := decide_eq_true hsg
        go_wp2
        go_region_held3 (fun w' => w'.cell? ⟨w.heap.size, 0, none⟩ = some (.int .i64 q) ∧ w'.cell? ⟨w.heap.size, 1, none⟩ = some (.slice (some ⟨b1, o1, none⟩) z.length c) ∧ w'.cell? ⟨w.heap.size, 2, none⟩ = some (.int .i64 y) ∧ w'.cell? ⟨w.heap.size, 3, none⟩ = some (.int .i64 g) ∧ w'.cell? ⟨b1, o1 + y, none⟩ = some (.int .i64 s))
          (first | go_keep | (go_split_ands; refine ⟨?_, ?_, ?_, ?_, ?_⟩ <;> exact (b9.cell (cell_lt (by assumption))).trans (by assumption)))
          (first
            | ((with_reducible refine (waits_any q (some ⟨b1, o1, none⟩) z.length c y g _ hn).mono ?_); rintro e w9 ⟨rfl, b9⟩; rw [dy]))
        have b9' : Below wr.heap.size wr w9 := below_trans (below_of_drewN (n := 1) rfl) b9
        have K0' := K0.below b9'
        have K1' := K1.below b9'
        have hbel' := below_trans hbel b9'
        clear b9 c0 c1 c2 c3 K0 K1
        obtain ⟨c0, c1, c2, c3⟩ := four_read K0'
        have hc1' : w9.cell? ⟨b1, o1 + y, none⟩ = some (.int .i64 s) := (b9'.cell (p := ⟨b1, o1 + y, none⟩) lb1).trans hc1
        have f2 := K0'.frozen 2
        have f3 := K0'.frozen 3
        have f2' : ((w9.setCell ⟨w.heap.size, 3, none⟩ (.int .i64 (g - s))).drew).frozen? ⟨w.heap.size, 2, none⟩ = false := (K0'.set_ 3 _).frozen 2
        have HK : Hid (Blk ((((w9.setCell ⟨w.heap.size, 3, none⟩ (.int .i64 (g - s))).setCell ⟨w.heap.size, 2, none⟩ (.int .i64 ((y : Int) + 1))).drew)) w.heap.size 91 #[.int .i64 q, .slice (some ⟨b1, o1, none⟩) z.length c, .int .i64 (y + 1 : Nat), .int .i64 (g - s)]) := Lib.hid (by
          have k4 : Blk (((w9.setCell ⟨w.heap.size, 3, none⟩ (.int .i64 (g - s))).setCell ⟨w.heap.size, 2, none⟩ (.int .i64 ((y : Int) + 1)))) w.heap.size 91 _ := (K0'.set_ 3 (.int .i64 (g - s))).set_ 2 (.int .i64 ((y : Int) + 1))
          simp at k4
          exact k4)
        have HK1 : Hid (Blk ((((w9.setCell ⟨w.heap.size, 3, none⟩ (.int .i64 (g - s))).setCell ⟨w.heap.size, 2, none⟩ (.int .i64 ((y : Int) + 1))).drew)) (w.heap.size + 1) 91 #[.int .i64 0, .slice none 0 0, .int .i64 0, .int .i64 0]) := Lib.hid (by
          exact (K1'.past (a := ⟨w.heap.size, 3, none⟩) (by simp) (.int .i64 (g - s))).past (a := ⟨w.heap.size, 2, none⟩) (by simp) (.int .i64 ((y : Int) + 1)))
        have HBB : Hid (Below w.heap.size w ((((w9.setCell ⟨w.heap.size, 3, none⟩ (.int .i64 (g - s))).setCell ⟨w.heap.size, 2, none⟩ (.int .i64 ((y : Int) + 1))).drew))) := Lib.hid (by
          have q := (hbel'.setCell (p := ⟨w.heap.size, 3, none⟩) (Nat.le_refl _) (.int .i64 (g - s))).setCell (p := ⟨w.heap.size, 2, none⟩) (Nat.le_refl _) (.int .i64 ((y : Int) + 1))
          exact ⟨q.os, q.tape, q.output, q.size, q.block⟩)
        have HN : Hid (g - s = P + q - sumV z (y + 1)) := Lib.hid (by rw [HSV.out, HG.out]; omega)
        clear K0' K1' hbel' b9' hc1 dy e1
        go_wp2
        go_region
        go_wp2
        go_roundw
        case rel => exact ⟨y + 1, g - s, by omega, by omega, HN.out, by omega, by omega, HK.out, HK1.out, HBB.out⟩
        case measure => rw [CN.out, cellN_eq (four_read HK.out).2.2.1]; omega
      · have e1 : decide (s ≤ g) = false := decide_eq_false hsg
        go_wp2
        go_region_held3 (fun w' => w'.cell? ⟨w.heap.size, 0, none⟩ = some (.int .i64 q) ∧ w'.cell? ⟨w.heap.size, 1, none⟩ = some (.slice (some ⟨b1, o1, none⟩) z.length c) ∧ w'.cell? ⟨w.heap.size, 2, none⟩ = some (.int .i64 y) ∧ w'.cell? ⟨w.heap.size, 3, none⟩ = some (.int .i64 g) ∧ w'.cell? ⟨b1, o1 + y, none⟩ = some (.int .i64 s))
          (first | go_keep | (go_split_ands; refine ⟨?_, ?_, ?_, ?_, ?_⟩ <;> exact (b9.cell (cell_lt (by assumption))).trans (by assumption)))
          (first
            | ((with_reducible refine (waits_any q (some ⟨b1, o1, none⟩) z.length c y g _ hn).mono ?_); rintro e w9 ⟨rfl, b9⟩; rw [dy]))
        have b9' : Below wr.heap.size wr w9 := below_trans (below_of_drewN (n := 1) rfl) b9
        have K0' := K0.below b9'
        have K1' := K1.below b9'
        have hbel' := below_trans hbel b9'
        clear b9 c0 c1 c2 c3 K0 K1
        have HY : Hid (y = Flw.cn ⟨q, z⟩ (m + 1)) := Lib.hid (cn_is ok hy (by show sumV z y ≤ ((m + 1 : Nat) : Int) * q; rw [HP1.out]; have := HG.out; omega) (fun _ => by show ((m + 1 : Nat) : Int) * q < sumV z (y + 1); rw [HP1.out, HSV.out]; have := HG.out; omega)).symm
        obtain ⟨c0, c1, c2, c3⟩ := four_read K0'
        have f0 := K1'.frozen 0
        have f1 := K1'.frozen 1
        have f2 := K1'.frozen 2
        have f3 := K1'.frozen 3
        have z1 := K1'.lt
        obtain ⟨p0, p1, p2, p3⟩ := four_read K1'
        obtain ⟨s0', s1', s2', s3'⟩ := four_stage K1'
        have HGG : Hid (g = (m + 1 : Nat) * q - sumV z y) := Lib.hid (by rw [HP1.out]; exact HG.out)
        clear dy
        go_wp2
        have T0 := four_sets K1' (.int .i64 q) (.slice (some ⟨b1, o1, none⟩) z.length c) (.int .i64 y) (.int .i64 g)
        have T2 := below_four (g := w.heap.size + 1) hbel' (by omega) (.int .i64 q) (.slice (some ⟨b1, o1, none⟩) z.length c) (.int .i64 y) (.int .i64 g)
        clear p0 p1 p2 p3 s0' s1' s2' s3' f0 f1 f2 f3 K1' K0' c0 c1 c2 c3
        generalize ((((w9.setCell ⟨w.heap.size + 1, 0, none⟩ (.int .i64 q)).setCell ⟨w.heap.size + 1, 1, none⟩ (.slice (some ⟨b1, o1, none⟩) z.length c)).setCell ⟨w.heap.size + 1, 2, none⟩ (.int .i64 y)).setCell ⟨w.heap.size + 1, 3, none⟩ (.int .i64 g)) = W' at *
        obtain ⟨x0, x1, x2, x3⟩ := four_read T0
        exact bodyPost_ret (v := .agg #[.int .i64 q, .slice (some ⟨b1, o1, none⟩) z.length c, .int .i64 y, .int .i64 g]) (by simp [results, Try.results67, go_sem, x0, x1, x2, x3]) rfl ⟨y, g, HY.out, HGG.out, rfl, T2⟩
    · have dy : decide (y < z.length) = false := decide_eq_false hlt
      have HY : Hid (y = Flw.cn ⟨q, z⟩ (m + 1)) := Lib.hid (cn_is ok hy (by show sumV z y ≤ ((m + 1 : Nat) : Int) * q; rw [HP1.out]; have := HG.out; omega) (fun c => absurd c hlt)).symm
      go_wp2
      refine wp_region_any (by kernel_rfl) ?_
      change wpAny _ _ _ _ _ _ _ (World.drew _)
      refine wpAny_ready (rs := [0]) (by kernel_rfl) (by simp) ?_
      refine AllReady.cons rfl (fun K hK => ?_) AllReady.nil
      go_simp
      refine hK _ _ ?_
      clear hK K
      refine wpAny_ready (rs := [1]) (by kernel_rfl) (by simp) ?_
      refine AllReady.cons rfl (fun K hK => ?_) AllReady.nil
      go_simp
      go_wp2_with (go_at_call 54; refine (waits_any q A z.length c y g _ hn).mono ?_; rintro e w9 ⟨rfl, b9⟩; rw [dy])
      refine wpAny_take (i := 2) (v := .bool false) rfl (by kernel_rfl) (by kernel_rfl) (by kernel_rfl) (fun _ _ _ h => h) (Or.inl ⟨by rfl, by intro w; go_simp⟩) ?_
      refine wpAny_take (i := 3) (v := undef) rfl (by kernel_rfl) (by kernel_rfl) (by kernel_rfl) (fun _ _ _ h => h) (Or.inr ⟨by kernel_rfl, rfl⟩) ?_
      go_simp
      refine wpAny_take (i := 4) (v := undef) rfl (by kernel_rfl) (by kernel_rfl) (by kernel_rfl) (fun _ _ _ h => h) (Or.inr ⟨by kernel_rfl, rfl⟩) ?_
      go_simp
      refine wpAny_take (i := 5) (v := undef) rfl (by kernel_rfl) (by kernel_rfl) (by kernel_rfl) (fun _ _ _ h => h) (Or.inr ⟨by kernel_rfl, rfl⟩) ?_
      go_simp
      refine wpAny_take (i := 6) (v := undef) rfl (by kernel_rfl) (by kernel_rfl) (by kernel_rfl) (fun _ _ _ h => h) (Or.inr ⟨by kernel_rfl, rfl⟩) ?_
      go_simp
      refine wpAny_take (i := 7) (v := undef) rfl (by kernel_rfl) (by kernel_rfl) (by kernel_rfl) (fun _ _ _ h => h) (Or.inr ⟨by kernel_rfl, rfl⟩) ?_
      go_simp
      refine wpAny_take (i := 8) (v := undef) rfl (by kernel_rfl) (by kernel_rfl) (by kernel_rfl) (fun _ _ _ h => h) (Or.inr ⟨by kernel_rfl, rfl⟩) ?_
      go_simp
      refine wpAny_take (i := 9) (v := undef) rfl (by kernel_rfl) (by kernel_rfl) (by kernel_rfl) (fun _ _ _ h => h) (Or.inr ⟨by kernel_rfl, rfl⟩) ?_
      go_simp
      refine wpAny_take (i := 10) (v := undef) rfl (by kernel_rfl) (by kernel_rfl) (by kernel_rfl) (fun _ _ _ h => h) (Or.inr ⟨by kernel_rfl, rfl⟩) ?_
      go_simp
      refine wpAny_take (i := 11) (v := undef) rfl (by kernel_rfl) (by kernel_rfl) (by kernel_rfl) (fun _ _ _ h => h) (Or.inr ⟨by kernel_rfl, rfl⟩) ?_
      go_simp
      refine wpAny_take (i := 12) (v := undef) rfl (by kernel_rfl) (by kernel_rfl) (by kernel_rfl) (fun _ _ _ h => h) (Or.inr ⟨by kernel_rfl, rfl⟩) ?_
      go_simp
      refine wpAny_take (i := 13) (v := .bool false) rfl (by kernel_rfl) (by kernel_rfl) (by kernel_rfl) (fun _ _ _ h => h) (Or.inl ⟨by kernel_rfl, by intro w; go_simp⟩) ?_
      refine wpAny_done (by kernel_rfl) ?_ _
      go_simp
      have b9' : Below wr.heap.size wr w9 := below_trans (below_of_drewN (n := 1) rfl) b9
      have K0' := K0.below b9'
      have K1' := K1.below b9'
      have hbel' := below_trans hbel b9'
      clear b9 c0 c1 c2 c3 K0 K1
      obtain ⟨c0, c1, c2, c3⟩ := four_read K0'
      have f0 := K1'.frozen 0
      have f1 := K1'.frozen 1
      have f2 := K1'.frozen 2
      have f3 := K1'.frozen 3
      have z1 := K1'.lt
      obtain ⟨p0, p1, p2, p3⟩ := four_read K1'
      obtain ⟨s0', s1', s2', s3'⟩ := four_stage K1'
      have HGG : Hid (g = (m + 1 : Nat) * q - sumV z y) := Lib.hid (by rw [HP1.out]; exact HG.out)
      clear dy
      go_wp2
      have T0 := four_sets K1' (.int .i64 q) (.slice A z.length c) (.int .i64 y) (.int .i64 g)
      have T2 := below_four (g := w.heap.size + 1) hbel' (by omega) (.int .i64 q) (.slice A z.length c) (.int .i64 y) (.int .i64 g)
      clear p0 p1 p2 p3 s0' s1' s2' s3' f0 f1 f2 f3 K1' K0' c0 c1 c2 c3
      generalize ((((w9.setCell ⟨w.heap.size + 1, 0, none⟩ (.int .i64 q)).setCell ⟨w.heap.size + 1, 1, none⟩ (.slice A z.length c)).setCell ⟨w.heap.size + 1, 2, none⟩ (.int .i64 y)).setCell ⟨w.heap.size + 1, 3, none⟩ (.int .i64 g)) = W' at *
      obtain ⟨x0, x1, x2, x3⟩ := four_read T0
      exact bodyPost_ret (v := .agg #[.int .i64 q, .slice A z.length c, .int .i64 y, .int .i64 g]) (by simp [results, Try.results67, go_sem, x0, x1, x2, x3]) rfl ⟨y, g, HY.out, HGG.out, rfl, T2⟩

end Go.Proofs.Ytamkadffencpgaa
