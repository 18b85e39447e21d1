
/-
  Walks of packages catch and plan: Lag, Done, Bound, Rate, Room; what they owe, shown.
-/
import Derived.Test.YtnjeelmlabefjaaCatZ
namespace Go.Proofs.Ytnjeelmlabefjaa
set_option linter.all false
open Go.RowKit Go.Shelf Go.Lib

set_option maxHeartbeats 800000 in
theorem cout_any (r g : Int) (s : Bool) (w : World) (hs : Hid (decide (r < 0 ∨ 10000 < r ∨ g < 0 ∨ 1000000 < g) = s)) : Calls Try.prog 37 #[.int .i64 r, .int .i64 g] w fun e w' => e = .returned (.bool s) ∧ w = w' := by
  by_cases h1 : r < 0 ∨ 10000 < r
  · have q1 : Hid (decide (r < 0 ∨ 10000 < r) = true) := Lib.hid (decide_eq_true h1)
    have HS : Hid (s = true) := Lib.hid (by rw [← hs.out]; exact decide_eq_true (by omega))
    clear hs h1
    go_enter Try.func37, Try.ntmps37
    go_wp2_with fail
    refine (lim_any r 0 10000 true _ q1).mono ?_
    rintro e w' ⟨rfl, rfl⟩
    go_wp2
    go_ret
    exact ⟨ret_bool HS.out.symm, rfl⟩
  · have q1 : Hid (decide (r < 0 ∨ 10000 < r) = false) := Lib.hid (decide_eq_false h1)
    have q2 : Hid (decide (g < 0 ∨ 1000000 < g) = s) := Lib.hid (by
      rw [← hs.out]
      by_cases c : g < 0 ∨ 1000000 < g
      · rw [decide_eq_true c, decide_eq_true (by omega)]
      · rw [decide_eq_false c, decide_eq_false (by omega)])
    clear hs h1
    go_enter Try.func37, Try.ntmps37
    go_wp2_with fail
    refine (lim_any r 0 10000 false _ q1).mono ?_
    rintro e w' ⟨rfl, rfl⟩
    go_wp2_with fail
    refine (lim_any g 0 1000000 s _ q2).mono ?_
    rintro e w' ⟨rfl, rfl⟩
    go_wp2
    go_ret
    exact ⟨rfl, rfl⟩

theorem rowAt_setz {n : Nat} (F : Nat → Int) (h : 0 < n) : (madeCells #[Value.int .i64 0] n).setIfInBounds 0 (.int .i64 (F 0)) = (rowAt n 1 F).toArray := by
  rw [← rowAt_zero n F, rowAt_succ F h]

set_option maxHeartbeats 1600000 in
theorem clag_any (A : Option Addr) (l : List Int) (c : Nat) (r g : Int) (w : World) (h : Ints w A l) :
    Calls Try.prog 15 #[.slice A l.length c, .int .i64 r, .int .i64 g] w (Ans (lgY l r g) (lgE l r g) w) := by
  by_cases h1 : trk l = 0
  · have e1 : (trk l != 0) = false := by simp [h1]
    by_cases h2 : r < 0 ∨ 10000 < r ∨ g < 0 ∨ 1000000 < g
    · have HE : Hid (lgE l r g = 1) := Lib.hid (by
        unfold lgE linE
        rw [if_neg (show ¬ trk l ≠ 0 by simpa using h1)]
        by_cases c : r < 0 ∨ 10000 < r
        · rw [if_pos c]; rfl
        · rw [if_neg c, if_neg (by decide), if_pos (by omega)])
      have HL : Hid (lgY l r g = []) := Lib.hid (lgY_no (by rw [HE.out]; decide))
      have q1 : Hid (decide (r < 0 ∨ 10000 < r ∨ g < 0 ∨ 1000000 < g) = true) := Lib.hid (decide_eq_true h2)
      clear h1 h2
      go_enter Try.func15, Try.ntmps15
      go_wp2_with fail
      refine (trCheck_any A l c _ h).mono ?_
      rintro e w' ⟨rfl, rfl⟩
      go_wp2_with fail
      refine (cout_any r g true _ q1).mono ?_
      rintro e w' ⟨rfl, rfl⟩
      go_wp2
      go_ret2
      exact Ans.of_none HL.out (by rw [HE.out]; rfl) rfl
    · have v := trk_iff.1 h1
      have q1 : Hid (decide (r < 0 ∨ 10000 < r ∨ g < 0 ∨ 1000000 < g) = false) := Lib.hid (decide_eq_false h2)
      have r0 : 0 ≤ r := by omega
      have r1 : r ≤ 10000 := by omega
      have g0 : 0 ≤ g := by omega
      have g1 : g ≤ 1000000 := by omega
      have hE : lgE l r g = 0 := lg_of ⟨v, r0, r1, g0, g1⟩
      have HE := Lib.hid hE
      obtain ⟨F, hF⟩ : ∃ F, F = lgV l r g := ⟨_, rfl⟩
      have HL : Hid (lgY l r g = tab (l.length + 1) F) := Lib.hid (by rw [lgY_yes hE, hF]; rfl)
      have hle := v.le
      have BF : Hid (∀ i, i ≤ l.length → 0 ≤ F i ∧ F i ≤ 1600000) := Lib.hid (fun i hi => by rw [hF]; exact lg_bd v g0 g1 r0 hi)
      have HS : Hid (∀ u, F (u + 1) = max 0 (F u + gt l u - r)) := Lib.hid (fun u => by rw [hF]; rfl)
      have H0 : Hid (F 0 = g) := Lib.hid (by rw [hF]; rfl)
      clear h1 h2 hF hE
      have hmk := fun W => run_make_row' (P := Try.prog) 22 3 (.int .i64 0) 8 Try.underlying22 int_info rfl .i64 .i64 (l.length + 1) (by omega) (by omega) W
      have ec : ((l.length + 1 : Nat) : Int) = (l.length : Int) + 1 := by omega
      simp only [ec] at hmk
      clear ec
      obtain ⟨b, hbk⟩ : ∃ b, b = w.heap.size := ⟨_, rfl⟩
      have G := Lib.hid hbk
      have gle : w.heap.size ≤ b := by omega
      obtain ⟨W, hW⟩ : ∃ W, W = w.alloc (.cells (madeCells #[Value.int .i64 0] (l.length + 1)) 3) := ⟨_, rfl⟩
      have W0 : Blk W b 3 (madeCells #[Value.int .i64 0] (l.length + 1)) := by rw [hW, hbk]; exact Blk.new _ _ _
      have bW : Below w.heap.size w W := by rw [hW]; exact (Below.refl _ w).alloc (Nat.le_refl _) _
      have HW := Lib.hid hW
      have cz : W.cell? ⟨b, 0, none⟩ = some (.int .i64 0) := by
        rw [W0.cell 0, ← rowAt_zero (l.length + 1) F]; simpa using rowAt_get F (n := l.length + 1) (k := 0) (by omega)
      have fz := W0.frozen 0
      have B1 : Hid (Blk (W.setCell ⟨b, 0, none⟩ (.int .i64 g)) b 3 (rowAt (l.length + 1) 1 F).toArray) := Lib.hid (by
        have := W0.set_ 0 (.int .i64 g)
        rw [← H0.out, rowAt_setz F (by omega)] at this
        rw [← H0.out]; exact this)
      have bW1 := Lib.hid (bW.setCell (p := ⟨b, 0, none⟩) gle (.int .i64 g))
      have hmk1 := hmk w
      rw [← hW, ← hbk] at hmk1
      clear hW hbk hmk W0 bW
      go_enter Try.func15, Try.ntmps15
      go_wp2_with fail
      refine (trCheck_any A l c _ h).mono ?_
      rintro e w' ⟨rfl, rfl⟩
      go_wp2_with fail
      refine (cout_any r g false _ q1).mono ?_
      rintro e w' ⟨rfl, rfl⟩
      go_wp2
      go_loopw [29] (fun i wr => ∃ k : Nat, k ≤ l.length ∧ i = .int .i64 k ∧ Blk wr b 3 (rowAt (l.length + 1) (k + 1) F).toArray ∧ Below w.heap.size w wr) (fun i _ => l.length - (intOf i).toNat)
      case atStart => exact ⟨0, Nat.zero_le _, rfl, B1.out, bW1.out⟩
      case round =>
        obtain ⟨t, ht, rfl, hblk, hbel⟩ := hrel
        by_cases hlt : t < l.length
        · obtain ⟨b1, o1, x, rfl, hc1, HX⟩ := (h.below hbel).at_ hlt
          have hx := gt_of_get HX.out
          have x0 : 0 ≤ x := by rw [← hx]; exact v.lo t hlt
          have x1 : x ≤ 10000 := by rw [← hx]; exact v.hi t hlt
          obtain ⟨y, hy⟩ : ∃ y, y = F t := ⟨_, rfl⟩
          have y0 : 0 ≤ y := by rw [hy]; exact (BF.out t ht).1
          have y1 : y ≤ 1600000 := by rw [hy]; exact (BF.out t ht).2
          have hcy : wr.cell? ⟨b, t, none⟩ = some (.int .i64 y) := by
            rw [hblk.cell t, rowI_map, hy]
            have := get_of_lt (l := rowI (l.length + 1) (t + 1) F) (i := t) (by rw [rowI_length F (by omega)]; omega)
            rw [rowI_gt F (by omega)] at this
            simp [this]
          have hcz : wr.cell? ⟨b, t + 1, none⟩ = some (.int .i64 0) := by rw [hblk.cell (t + 1)]; simpa using rowAt_get F (n := l.length + 1) (k := t + 1) (by omega)
          have hfz := hblk.frozen (t + 1)
          have HN : Hid (F (t + 1) = max 0 (y + x - r)) := Lib.hid (by rw [HS.out, ← hy, hx])
          have m1 : IntKind.i64.wrap ((t : Int) + 1) = (t : Int) + 1 := IntWalk.i64_in _ ⟨by omega, by omega⟩
          have m2 : IntKind.i64.wrap (y + x) = y + x := IntWalk.i64_in _ ⟨by omega, by omega⟩
          have m3 : IntKind.i64.wrap (y + x - r) = y + x - r := IntWalk.i64_in _ ⟨by omega, by omega⟩
          have t1 : ((t : Int) + 1).toNat = t + 1 := by omega
          have i1 : (t : Int) < (l.length : Int) := by omega
          have R0 : Hid (∀ u : Int, u = max 0 (y + x - r) → Blk (wr.setCell ⟨b, t + 1, none⟩ (.int .i64 u)) b 3 (rowAt (l.length + 1) (t + 1 + 1) F).toArray) := Lib.hid (fun u hu => by
            have q := hblk.set_ (t + 1) (.int .i64 u)
            rw [hu, ← HN.out, rowAt_succ F (n := l.length + 1) (k := t + 1) (by omega)] at q
            rw [hu, ← HN.out]; exact q)
          have HB2 : Hid (∀ u : Value, Below w.heap.size w (wr.setCell ⟨b, t + 1, none⟩ u)) := Lib.hid (fun u => hbel.setCell (p := ⟨b, t + 1, none⟩) gle u)
          clear hx hy hblk hbel
          rcases Int.lt_trichotomy 0 (y + x - r) with q | q | q
          · go_wp2
            go_roundw
            case rel => exact ⟨t + 1, by omega, by go_num, R0.out _ (by omega), HB2.out _⟩
            case measure => simp [intOf]; omega
          · go_wp2
            go_roundw
            case rel => exact ⟨t + 1, by omega, by go_num, R0.out _ (by omega), HB2.out _⟩
            case measure => simp [intOf]; omega
          · go_wp2
            go_roundw
            case rel => exact ⟨t + 1, by omega, by go_num, R0.out _ (by omega), HB2.out _⟩
            case measure => simp [intOf]; omega
        · obtain rfl : t = l.length := by omega
          go_wp2
          go_ret2
          rw [rowAt_full] at hblk
          refine ⟨some ⟨b, 0, none⟩, l.length + 1, by rw [HE.out, HL.out, length_tab]; rfl, ?_, hbel⟩
          rw [HL.out, length_tab]
          have := own_of_blk (n := l.length + 1) hblk gle (length_tab _ _).symm (by omega)
          rwa [length_tab] at this
  · have HE : Hid (lgE l r g = trk l) := Lib.hid (by
      have e : linE l r = trk l := by rw [linE, if_pos h1]
      rw [lgE, e, if_pos h1])
    have HL : Hid (lgY l r g = []) := Lib.hid (lgY_no (by rw [HE.out]; exact h1))
    have e1 : (trk l != 0) = true := by simp [h1]
    clear h1
    go_enter Try.func15, Try.ntmps15
    go_wp2_with fail
    refine (trCheck_any A l c _ h).mono ?_
    rintro e w' ⟨rfl, rfl⟩
    go_wp2
    go_ret2
    exact Ans.of_none HL.out (by rw [HE.out]; rfl) rfl

theorem dn_ix {l : List Int} {r g v E R : Int} (hE : lgE l r g = 0) (hv : DnIs l r g v E) (hR : ixIs (lgL l r g) R) : (∃ n : Nat, R = n ∧ v = n ∧ E = 0) ∨ (R = -1 ∧ v = 0 ∧ E = 5) := by
  have hl := length_lgL l r g
  rcases hv with ⟨_, n, hn, rfl, rfl⟩ | ⟨_, hn, rfl, rfl⟩ | ⟨h, _⟩
  · left
    have h1 := hn.hit
    have h2 := hn.le
    rcases hR with ⟨d, hd, e, ha, rfl⟩ | ⟨ha, rfl⟩
    · rw [gt_lgL (by omega)] at e
      have k1 := hn.least e
      by_cases c : n < d
      · have := ha n c
        rw [gt_lgL h2] at this
        exact absurd h1 this
      · obtain rfl : d = n := by omega
        exact ⟨d, rfl, rfl, rfl⟩
    · have := ha n (by omega)
      rw [gt_lgL h2] at this
      exact absurd h1 this
  · right
    rcases hR with ⟨d, hd, e, ha, rfl⟩ | ⟨ha, rfl⟩
    · rw [gt_lgL (by omega)] at e
      exact absurd e (hn d (by omega))
    · exact ⟨rfl, rfl, rfl⟩
  · exact absurd hE h
theorem dn_no {l : List Int} {r g v E : Int} (hE : ¬ lgE l r g = 0) (hv : DnIs l r g v E) : v = 0 ∧ E = lgE l r g := by
  rcases hv with ⟨h, _⟩ | ⟨h, _⟩ | ⟨_, rfl, rfl⟩
  · exact absurd h hE
  · exact absurd h hE
  · exact ⟨rfl, rfl⟩
set_option maxHeartbeats 800000 in
theorem cdone_any (A : Option Addr) (l : List Int) (c : Nat) (r g v E : Int) (w : World) (h : Ints w A l) (hv : DnIs l r g v E) :
    Calls Try.prog 16 #[.slice A l.length c, .int .i64 r, .int .i64 g] w fun e w' => e = .returned (.tuple #[.int .i64 v, .int .i64 E]) ∧ Below w.heap.size w w' := by
  by_cases hE : lgE l r g = 0
  · obtain ⟨L, hL⟩ : ∃ L, L = lgL l r g := ⟨_, rfl⟩
    have HY : Hid (lgY l r g = L) := Lib.hid (by rw [lgY_yes hE, hL])
    have HE := Lib.hid hE
    have HR : Hid (∀ R, ixIs L R → (∃ n : Nat, R = n ∧ v = n ∧ E = 0) ∨ (R = -1 ∧ v = 0 ∧ E = 5)) := Lib.hid (fun R hR => dn_ix hE hv (by rw [← hL]; exact hR))
    clear hL hE hv
    go_enter Try.func16, Try.ntmps16
    go_wp2_with fail
    refine (clag_any A l c r g _ h).mono ?_
    rintro e w1 ⟨B, d, rfl, o, b⟩
    rw [HE.out, HY.out]
    rw [HY.out] at o
    have hB := Ints.of_own o
    clear o
    go_wp2_with fail
    refine (zindex_any B L _ d _ hB rfl).mono ?_
    rintro e w2 ⟨⟨R, hR, rfl⟩, rfl⟩
    rcases HR.out R hR with ⟨n, rfl, rfl, rfl⟩ | ⟨rfl, rfl, rfl⟩
    · clear hR HR
      go_wp2
      go_ret2
      exact ⟨rfl, b⟩
    · clear hR HR
      go_wp2
      go_ret2
      exact ⟨rfl, b⟩
  · obtain ⟨rfl, hv2⟩ := dn_no hE hv
    have HV := Lib.hid hv2
    have HY := Lib.hid (lgY_no hE)
    have e1 : (lgE l r g != 0) = true := by simp [hE]
    clear hv hv2 hE
    go_enter Try.func16, Try.ntmps16
    go_wp2_with fail
    refine (clag_any A l c r g _ h).mono ?_
    rintro e w1 ⟨B, d, rfl, o, b⟩
    rw [HY.out]
    go_wp2
    go_ret2
    exact ⟨by rw [HV.out]; rfl, b⟩

def NoCx (l : List Int) (r g : Int) (k : Nat) : Prop := ∀ s, s < k → ¬ CatchOk l r g s
theorem NoCx.next {l : List Int} {r g : Int} {k : Nat} (h : NoCx l r g k) (h' : ¬ CatchOk l r g k) : NoCx l r g (k + 1) := fun s hs => by
  by_cases e : s = k
  · rw [e]; exact h'
  · exact h s (by omega)
theorem cb_hit {l : List Int} {r g v E : Int} {k : Nat} (hE : cbE l r g = 0) (hv : CbIs l r g v E) (hk : k < l.length) (hn : NoCx l r g k) (h : CatchOk l r g k) : v = k ∧ E = 0 := by
  rcases hv with ⟨_, d, hd, rfl, rfl⟩ | ⟨_, ha, _⟩ | ⟨q, _⟩
  · have h1 := hd.least h
    by_cases c : d < k
    · exact absurd hd.hit (hn d c)
    · obtain rfl : d = k := by omega
      exact ⟨rfl, rfl⟩
  · exact absurd h (ha k hk)
  · exact absurd hE q
theorem cb_none {l : List Int} {r g v E : Int} (hE : cbE l r g = 0) (hv : CbIs l r g v E) (hn : NoCx l r g l.length) : v = 0 ∧ E = 5 := by
  rcases hv with ⟨_, d, hd, _⟩ | ⟨_, _, rfl, rfl⟩ | ⟨q, _⟩
  · exact absurd hd.hit (hn d hd.lt)
  · exact ⟨rfl, rfl⟩
  · exact absurd hE q
theorem cb_no {l : List Int} {r g v E : Int} (hE : ¬ cbE l r g = 0) (hv : CbIs l r g v E) : v = 0 ∧ E = cbE l r g := by
  rcases hv with ⟨h, _⟩ | ⟨h, _⟩ | ⟨_, rfl, rfl⟩
  · exact absurd h hE
  · exact absurd h hE
  · exact ⟨rfl, rfl⟩
set_option maxHeartbeats 1600000 in
theorem cbound_any (A : Option Addr) (l : List Int) (c : Nat) (r g v E : Int) (w : World) (h : Ints w A l) (hv : CbIs l r g v E) :
    Calls Try.prog 21 #[.slice A l.length c, .int .i64 r, .int .i64 g] w fun e w' => e = .returned (.tuple #[.int .i64 v, .int .i64 E]) ∧ Below w.heap.size w w' := by
  by_cases h1 : chk l = 0
  · have e1 : (chk l != 0) = false := by simp [h1]
    by_cases h2 : r < 0 ∨ 10000 < r ∨ g < 0 ∨ 1000000 < g
    · have hE : cbE l r g = 1 := by rw [cbE, if_neg (by simpa using h1), if_pos h2]
      obtain ⟨rfl, hv2⟩ := cb_no (by rw [hE]; decide) hv
      rw [hE] at hv2
      have HV := Lib.hid hv2
      have q1 : Hid (decide (r < 0 ∨ 10000 < r ∨ g < 0 ∨ 1000000 < g) = true) := Lib.hid (decide_eq_true h2)
      clear h1 h2 hv hv2 hE
      go_enter Try.func21, Try.ntmps21
      go_wp2_with fail
      refine (check_any A l c _ h).mono ?_
      rintro e w' ⟨rfl, rfl⟩
      go_wp2_with fail
      refine (cout_any r g true _ q1).mono ?_
      rintro e w' ⟨rfl, rfl⟩
      go_wp2
      go_ret2
      exact ⟨by rw [HV.out]; rfl, Below.refl _ _⟩
    · have V := cv_of h1
      have q1 : Hid (decide (r < 0 ∨ 10000 < r ∨ g < 0 ∨ 1000000 < g) = false) := Lib.hid (decide_eq_false h2)
      have r0 : 0 ≤ r := by omega
      have r1 : r ≤ 10000 := by omega
      have g0 : 0 ≤ g := by omega
      have g1 : g ≤ 1000000 := by omega
      have hE : cbE l r g = 0 := cb_of ⟨V, r0, r1, g0, g1⟩
      have HH : Hid (∀ k, k < l.length → NoCx l r g k → CatchOk l r g k → v = k ∧ E = 0) := Lib.hid (fun k => cb_hit hE hv)
      have HN : Hid (NoCx l r g l.length → v = 0 ∧ E = 5) := Lib.hid (cb_none hE hv)
      have hle := V.le
      clear h1 h2 hE hv
      go_enter Try.func21, Try.ntmps21
      go_wp2_with fail
      refine (check_any A l c _ h).mono ?_
      rintro e w' ⟨rfl, rfl⟩
      go_wp2_with fail
      refine (cout_any r g false _ q1).mono ?_
      rintro e w' ⟨rfl, rfl⟩
      go_wp2
      go_loop [21] (fun i => ∃ k : Nat, k ≤ l.length ∧ i = .int .i64 k ∧ Hid (NoCx l r g k)) (fun i => l.length - (intOf i).toNat)
      case atStart => exact ⟨0, Nat.zero_le _, rfl, Lib.hid (fun s hs => by omega)⟩
      case round =>
        obtain ⟨k, hk, rfl, HK⟩ := hrel
        by_cases hlt : k < l.length
        · obtain ⟨b1, o1, x, rfl, hc1, HX⟩ := h.at_ hlt
          have hx := gt_of_get HX.out
          have x0 : 0 ≤ x := by rw [← hx]; exact V.lo k hlt
          have x1 : x ≤ 1000000 := by rw [← hx]; exact V.hi k hlt
          obtain ⟨P, hP⟩ : ∃ P, P = r * (k : Int) := ⟨_, rfl⟩
          have P0 : 0 ≤ P := by rw [hP]; exact Int.mul_nonneg r0 (by omega)
          have P1 : P ≤ 610000 := by rw [hP]; have := Int.mul_le_mul r1 (show (k : Int) ≤ 61 by omega) (by omega) (by omega); omega
          have s2 : IntKind.i64.wrap ((k : Int) * r) = P := by rw [Int.mul_comm, ← hP]; exact IntWalk.i64_in _ ⟨by omega, by omega⟩
          have s3 : IntKind.i64.wrap (g + x) = g + x := IntWalk.i64_in _ ⟨by omega, by omega⟩
          have i1 : (k : Int) < (l.length : Int) := by omega
          by_cases q : g + x ≤ P
          · obtain ⟨rfl, hE0⟩ := HH.out k hlt HK.out (by unfold CatchOk; rw [hx, ← hP]; exact q)
            have HE0 := Lib.hid hE0
            clear hE0 hx hP HH HN HK
            go_wp2
            go_ret2
            exact ⟨by rw [HE0.out]; rfl, Below.refl _ _⟩
          · have HD := Lib.hid (HK.out.next (show ¬ CatchOk l r g k by unfold CatchOk; rw [hx, ← hP]; exact q))
            clear hx hP
            go_wp2
            go_round
            case rel => exact ⟨k + 1, by omega, by go_num, HD⟩
            case measure => simp [intOf]; omega
        · obtain rfl : k = l.length := by omega
          obtain ⟨rfl, hE0⟩ := HN.out HK.out
          have HV := Lib.hid hE0
          clear hE0
          go_wp2
          go_ret2
          exact ⟨by rw [HV.out]; rfl, Below.refl _ _⟩
  · have hE : cbE l r g = chk l := by rw [cbE, if_pos h1]
    obtain ⟨rfl, hv2⟩ := cb_no (by rw [hE]; exact h1) hv
    rw [hE] at hv2
    have HV := Lib.hid hv2
    have e1 : (chk l != 0) = true := by simp [h1]
    clear h1 hv hv2 hE
    go_enter Try.func21, Try.ntmps21
    go_wp2_with fail
    refine (check_any A l c _ h).mono ?_
    rintro e w' ⟨rfl, rfl⟩
    go_wp2
    go_ret2
    exact ⟨by rw [HV.out]; rfl, Below.refl _ _⟩

theorem catC : CatC := ⟨clag_any, cdone_any, cbound_any⟩

end Go.Proofs.Ytnjeelmlabefjaa
