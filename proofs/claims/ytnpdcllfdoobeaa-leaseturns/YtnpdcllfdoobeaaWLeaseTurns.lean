
/-
  The law LeaseTurns.
-/
import Derived.Test.YtnpdcllfdoobeaaLeaT
import Derived.Test.YtnpdcllfdoobeaaLeaV
namespace Go.Proofs.Ytnpdcllfdoobeaa
set_option linter.all false
open Go.RowKit Go.Shelf Go.Lib

/-- What the closure asks: its box holds a slice that reads as s. -/
def HasZ (bb : Nat) (A : Option Addr) (s : List Lz) (m c : Nat) (w : World) : Prop := Blk w bb 33 #[.slice A m c] ∧ Les w A s ∧ m = s.length
theorem HasZ.below {bb : Nat} {A : Option Addr} {s : List Lz} {m c : Nat} {w w' : World} (h : HasZ bb A s m c w) (b : Below w.heap.size w w') : HasZ bb A s m c w' := ⟨h.1.below b, h.2.1.below b, h.2.2⟩
set_option maxHeartbeats 800000 in
theorem missing_any (bb : Nat) (A : Option Addr) (s : List Lz) (m c : Nat) (x : Lz) (w : World) (h : HasZ bb A s m c w) (hx : x ∈ s) :
    Calls Try.prog 36 #[.agg #[.int .i64 x.who, .int .i64 x.till, .int .i64 x.pin], .pointer (some ⟨bb, 0, none⟩)] w fun e w' => e = .returned (.bool false) ∧ Below w.heap.size w w' := by
  obtain ⟨h1, h2, h3⟩ := h
  obtain ⟨W, hW⟩ : ∃ W, W = w.alloc (.cells #[.int .i64 x.who, .int .i64 x.till, .int .i64 x.pin] 35) := ⟨_, rfl⟩
  have bW : Below w.heap.size w W := by rw [hW]; exact (Below.refl _ _).alloc (Nat.le_refl _) _
  have c0 : w.cell? ⟨bb, 0, none⟩ = some (.slice A m c) := by simpa using h1.cell 0
  have hlt := h1.lt
  have ne : ¬ bb = w.heap.size := by omega
  have i2 := h2.below bW
  have HW := Lib.hid hW
  have H3 := Lib.hid h3
  clear hW h3
  go_enter Try.func36, Try.ntmps36
  go_wp2_with fail
  rw [← HW.out]
  refine (lcontains_yes A s x m c _ i2 H3.out hx).mono ?_
  rintro e w1 ⟨rfl, b1⟩
  have hb := below_trans bW b1
  go_wp2
  go_ret
  exact ⟨rfl, hb⟩
set_option maxHeartbeats 800000 in
theorem missing_none (bb : Nat) (B : Option Addr) (s : List Lz) (m d : Nat) (A : Option Addr) (l : List Lz) (n c : Nat) (w : World) (h : Les w A l) (hn : n = l.length) (hR : HasZ bb B s m d w) (all : Hid (∀ x, x ∈ l → x ∈ s)) :
    Calls Try.prog 58 #[.slice A n c, .func (.func 36) #[] #[.pointer (some ⟨bb, 0, none⟩)]] w fun e w' => e = .returned (.int .i64 (-1)) ∧ Below w.heap.size w w' := by
  subst hn
  have hl := h.le
  have hent := enters_of Try.func36 (by kernel_rfl) rfl
  go_enter Try.func58, Try.ntmps58
  go_wp2
  go_loopw [8] (fun i wr => ∃ t : Nat, t ≤ l.length ∧ i = .int .i64 t ∧ HasZ bb B s m d wr ∧ Below w.heap.size w wr) (fun i _ => l.length - (intOf i).toNat)
  case atStart => exact ⟨0, Nat.zero_le _, rfl, hR, Below.refl _ _⟩
  case round =>
    obtain ⟨t, ht, rfl, hR, hbel⟩ := hrel
    by_cases hlt : t < l.length
    · obtain ⟨bb', off, x, hA, hbl, c0, c1, c2, HX⟩ := (h.below hbel).get hlt
      subst hA
      have i1 : (t : Int) < (l.length : Int) := by omega
      have hx := Lib.hid (all.out x (List.mem_of_getElem? HX.out))
      go_wp2_with fail
      refine (missing_any bb B s m d x _ hR hx.out).mono ?_
      rintro e w1 ⟨rfl, b1⟩
      have hb1 := below_trans hbel b1
      have hR1 := hR.below b1
      clear b1 hR
      go_wp2
      go_roundw
      case rel => exact ⟨t + 1, by omega, by go_num, hR1, hb1⟩
      case measure => simp [intOf]; omega
    · have i1 : ¬ (t : Int) < (l.length : Int) := by omega
      go_wp2
      go_ret
      exact ⟨rfl, hbel⟩
set_option maxHeartbeats 800000 in
theorem missing_not (bb : Nat) (B : Option Addr) (s : List Lz) (m d : Nat) (A : Option Addr) (l : List Lz) (n c : Nat) (w : World) (h : Les w A l) (hn : n = l.length) (hR : HasZ bb B s m d w) (all : Hid (∀ x, x ∈ l → x ∈ s)) :
    Calls Try.prog 35 #[.slice A n c, .func (.func 36) #[] #[.pointer (some ⟨bb, 0, none⟩)]] w fun e w' => e = .returned (.bool false) ∧ Below w.heap.size w w' := by
  have hix := missing_none bb B s m d A l n c w h hn hR all
  clear hn h hR
  go_enter Try.func35, Try.ntmps35
  go_wp2_with fail
  refine hix.mono ?_
  rintro e w1 ⟨rfl, b1⟩
  clear hix
  go_wp2
  go_ret
  exact ⟨rfl, b1⟩

set_option maxRecDepth 100000 in
set_option maxHeartbeats 6400000 in
theorem walk_LeaseTurns (A : Option Addr) (c : Nat) (l : List Lz) (x1 x2 x3 y1 y2 y3 : Int) (a b : Int) (w : World) (h : Les w A l) (_k : l.length ≤ c) (_hx1 : (Lit.int .i64 x1).wf = true) (_hx2 : (Lit.int .i64 x2).wf = true) (_hx3 : (Lit.int .i64 x3).wf = true) (_hy1 : (Lit.int .i64 y1).wf = true) (_hy2 : (Lit.int .i64 y2).wf = true) (_hy3 : (Lit.int .i64 y3).wf = true) (_ha : (Lit.int .i64 a).wf = true) (_hb : (Lit.int .i64 b).wf = true) :
    Calls Try.prog 10 #[.slice A l.length c, .agg #[.int .i64 x1, .int .i64 x2, .int .i64 x3], .agg #[.int .i64 y1, .int .i64 y2, .int .i64 y3], .int .i64 a, .int .i64 b] w fun e w' => e = .returned (.bool true) ∧ Below w.heap.size w w' := by
  have hl := h.le
  obtain ⟨x, hX⟩ : ∃ X : Lz, X = ⟨x1, x2, x3⟩ := ⟨_, rfl⟩
  obtain ⟨rfl, rfl, rfl⟩ : x1 = x.who ∧ x2 = x.till ∧ x3 = x.pin := by subst hX; exact ⟨rfl, rfl, rfl⟩
  obtain ⟨y, hY⟩ : ∃ X : Lz, X = ⟨y1, y2, y3⟩ := ⟨_, rfl⟩
  obtain ⟨rfl, rfl, rfl⟩ : y1 = y.who ∧ y2 = y.till ∧ y3 = y.pin := by subst hY; exact ⟨rfl, rfl, rfl⟩
  clear hX hY
  have E0 : Hid (tkE ⟨1, 0, 5⟩ [⟨2, 0, 0⟩] = 0) := Lib.hid (by decide)
  have L0 : Hid (takeL ⟨1, 0, 5⟩ [⟨2, 0, 0⟩] = [⟨1, 0, 5⟩, ⟨2, 0, 0⟩]) := Lib.hid (by rfl)
  obtain ⟨B0, hB0⟩ : ∃ B0, B0 = w.heap.size := ⟨_, rfl⟩
  have HB0 := Lib.hid hB0
  obtain ⟨W, hW⟩ : ∃ W, W = (w.alloc (.cells #[.int .i64 x.who, .int .i64 x.till, .int .i64 x.pin] 35)).alloc (.cells #[.int .i64 y.who, .int .i64 y.till, .int .i64 y.pin] 35) := ⟨_, rfl⟩
  have hb : Below w.heap.size w W := by rw [hW]; exact ((Below.refl _ _).alloc (Nat.le_refl _) _).alloc (by simp) _
  have BX : Blk W B0 35 #[.int .i64 x.who, .int .i64 x.till, .int .i64 x.pin] := by rw [hW, hB0]; exact (Blk.new _ _ _).alloc _
  have BY : Blk W (B0 + 1) 35 #[.int .i64 y.who, .int .i64 y.till, .int .i64 y.pin] := by
    have q := Blk.new (w.alloc (.cells #[.int .i64 x.who, .int .i64 x.till, .int .i64 x.pin] 35)) 35 #[.int .i64 y.who, .int .i64 y.till, .int .i64 y.pin]
    rw [hW, hB0]; simpa using q
  have HWs : Hid (W.heap.size = w.heap.size + 1 + 1) := Lib.hid (by rw [hW]; simp)
  have HW := Lib.hid hW
  replace h := h.below hb
  clear hB0 hW
  go_enter Try.func10, Try.ntmps10
  go_wp2_with fail
  rw [← HW.out]
  refine (take_yes (some ⟨w.heap.size + 1 + 1, 0, none⟩) [⟨2, 0, 0⟩] ⟨1, 0, 5⟩ 1 1 _ (by rw [← HWs.out]; exact Les.lit W _ _ _ rfl (by decide)) rfl E0).mono ?_
  rintro e w1 ⟨A1, c1, rfl, o1, b1⟩
  rw [L0.out] at o1
  rw [L0.out, ← HB0.out]
  have i1 := Les.of_row o1
  have b1' := below_of1 b1
  replace h := h.below b1'
  replace BX := BX.below b1'
  replace BY := BY.below b1'
  replace hb := below_trans hb b1'
  clear b1 b1' o1 E0 L0
  go_wp2_with fail
  refine (leSame A1 _ [⟨1, 0, 5⟩, ⟨2, 0, 0⟩] 2 2 _ _ _ (i1.alloc _) (by exact Les.lit w1 _ _ _ rfl (by decide)) rfl rfl).mono ?_
  rintro e w2 ⟨rfl, n2, hw2⟩
  have b2 := below_of1 (below_of_drewN hw2)
  replace h := h.below b2
  replace BX := BX.below b2
  replace BY := BY.below b2
  replace hb := below_trans hb b2
  clear b2 hw2 i1
  obtain ⟨x0, x1, x2⟩ := three_read BX
  by_cases hE : tkE x l = 0
  rotate_left
  · have HE := Lib.hid hE
    have e1 : (tkE x l != 0) = true := by simp [hE]
    clear hE
    go_wp2_with fail
    refine (take_no A l x _ c _ h rfl HE).mono ?_
    rintro e w4 ⟨rfl, b4⟩
    replace BX := BX.below b4
    replace BY := BY.below b4
    replace hb := below_trans hb b4
    clear x0 x1 x2
    obtain ⟨x0, x1, x2⟩ := three_read BX
    by_cases hF : tkE x [] = 0
    · have HF := Lib.hid hF
      clear hF
      go_wp2_with fail
      refine (take_yes none [] x 0 0 _ (Les.nil_ _ _) rfl HF).mono ?_
      rintro e w5 ⟨A5, c5, rfl, o5, b5⟩
      replace BX := BX.below b5
      replace BY := BY.below b5
      replace hb := below_trans hb b5
      clear o5
      go_wp2
      go_ret
      exact ⟨rfl, hb⟩
    · have HF := Lib.hid hF
      clear hF
      go_wp2_with fail
      refine (take_no none [] x 0 0 _ (Les.nil_ _ _) rfl HF).mono ?_
      rintro e w5 ⟨rfl, b5⟩
      replace BX := BX.below b5
      replace BY := BY.below b5
      replace hb := below_trans hb b5
      go_wp2
      go_ret
      exact ⟨rfl, hb⟩
  have HE := Lib.hid hE
  obtain ⟨v, hx⟩ := tk_iff.mp hE
  have V := Lib.hid v
  have HX := Lib.hid hx
  have VP := Lib.hid (v.take hx)
  have TW := Lib.hid (take_twice (x := x) v.sorted)
  clear hE hx v
  go_wp2_with fail
  refine (take_yes A l x _ c _ h rfl HE).mono ?_
  rintro e w4 ⟨Ap, cp, rfl, op, b4⟩
  have ip := Les.of_row op
  replace h := h.below b4
  replace BX := BX.below b4
  replace BY := BY.below b4
  replace hb := below_trans hb b4
  clear op b4 x0 x1 x2
  obtain ⟨P, hP⟩ : ∃ P, P = takeL x l := ⟨_, rfl⟩
  rw [← hP] at ip VP TW ⊢
  have HP := Lib.hid hP
  clear hP
  obtain ⟨x0, x1, x2⟩ := three_read BX
  have EPX : Hid (tkE x P = 0) := Lib.hid (tk_iff.mpr ⟨VP.out, HX.out⟩)
  go_wp2_with fail
  refine (take_yes Ap P x _ cp _ ip rfl EPX).mono ?_
  rintro e w5 ⟨Aq, cq, rfl, oq, b5⟩
  rw [TW.out] at oq
  rw [TW.out]
  have iq := Les.of_row oq
  replace h := h.below b5
  replace ip := ip.below b5
  replace BX := BX.below b5
  replace BY := BY.below b5
  replace hb := below_trans hb b5
  clear oq b5 x0 x1 x2
  go_wp2_with fail
  refine (leSame Ap Aq P _ _ _ _ _ ip iq rfl rfl).mono ?_
  rintro e w6 ⟨rfl, n6, hw6⟩
  have b6 := below_of_drewN hw6
  replace h := h.below b6
  replace ip := ip.below b6
  replace BX := BX.below b6
  replace BY := BY.below b6
  replace hb := below_trans hb b6
  clear b6 hw6 iq
  obtain ⟨y0, y1, y2⟩ := three_read BY
  by_cases hy : lzBad y = true
  · have HPY : Hid (¬ tkE y P = 0) := Lib.hid (fun c => by rw [(tk_iff.mp c).2] at hy; exact absurd hy (by decide))
    have HLY : Hid (¬ tkE y l = 0) := Lib.hid (fun c => by rw [(tk_iff.mp c).2] at hy; exact absurd hy (by decide))
    have e1 : (tkE y P != 0) = true := by simp [HPY.out]
    have e2 : (tkE y l != 0) = true := by simp [HLY.out]
    clear hy
    go_wp2_with fail
    refine (take_no Ap P y _ cp _ ip rfl HPY).mono ?_
    rintro e w7 ⟨rfl, b7⟩
    replace h := h.below b7
    replace BX := BX.below b7
    replace BY := BY.below b7
    replace hb := below_trans hb b7
    clear y0 y1 y2
    obtain ⟨y0, y1, y2⟩ := three_read BY
    go_wp2_with fail
    refine (take_no A l y _ c _ h rfl HLY).mono ?_
    rintro e w8 ⟨rfl, b8⟩
    replace BX := BX.below b8
    replace BY := BY.below b8
    replace hb := below_trans hb b8
    go_wp2
    go_ret
    exact ⟨rfl, hb⟩
  have hy' : lzBad y = false := by simpa using hy
  have EPY : Hid (tkE y P = 0) := Lib.hid (tk_iff.mpr ⟨VP.out, hy'⟩)
  have ELY : Hid (tkE y l = 0) := Lib.hid (tk_iff.mpr ⟨V.out, hy'⟩)
  have VU := Lib.hid (VP.out.take hy')
  have VV := Lib.hid (V.out.take hy')
  have EVX : Hid (tkE x (takeL y l) = 0) := Lib.hid (tk_iff.mpr ⟨VV.out, HX.out⟩)
  have ORD : Hid (x.who ≠ y.who → takeL y P = takeL x (takeL y l)) := Lib.hid (fun ne => by rw [HP.out]; exact take_order V.out.sorted ne)
  clear hy hy'
  go_wp2_with fail
  refine (take_yes Ap P y _ cp _ ip rfl EPY).mono ?_
  rintro e w7 ⟨Au, cu, rfl, ou, b7⟩
  have iu := Les.of_row ou
  replace h := h.below b7
  replace BX := BX.below b7
  replace BY := BY.below b7
  replace hb := below_trans hb b7
  clear ou b7 y0 y1 y2 ip
  obtain ⟨U, hU⟩ : ∃ U, U = takeL y P := ⟨_, rfl⟩
  rw [← hU] at iu VU ORD ⊢
  have EU := Lib.hid (lzE_iff.mpr VU.out)
  clear hU
  obtain ⟨y0, y1, y2⟩ := three_read BY
  go_wp2_with fail
  refine (take_yes A l y _ c _ h rfl ELY).mono ?_
  rintro e w8 ⟨Av, cv, rfl, ov, b8⟩
  have iv := Les.of_row ov
  replace iu := iu.below b8
  replace BX := BX.below b8
  replace BY := BY.below b8
  replace hb := below_trans hb b8
  clear ov b8 y0 y1 y2 h
  obtain ⟨Vl, hV⟩ : ∃ Vl, Vl = takeL y l := ⟨_, rfl⟩
  rw [← hV] at iv EVX ORD ⊢
  clear hV
  obtain ⟨x0, x1, x2⟩ := three_read BX
  go_wp2_with fail
  refine (take_yes Av Vl x _ cv _ iv rfl EVX).mono ?_
  rintro e w9 ⟨Aw, cw, rfl, ow, b9⟩
  have iw := Les.of_row ow
  replace iu := iu.below b9
  replace BX := BX.below b9
  replace BY := BY.below b9
  replace hb := below_trans hb b9
  clear ow b9 x0 x1 x2 iv
  obtain ⟨x0, x1, x2⟩ := three_read BX
  obtain ⟨y0, y1, y2⟩ := three_read BY
  by_cases hw : x.who = y.who
  · have e1 : (x.who != y.who) = false := by simp [hw]
    clear hw
    rcases Int.lt_trichotomy a b with q | q | q
    · go_wp2_with fail
      refine (live_yes Au U _ cu a _ iu rfl EU).mono ?_
      rintro e wg ⟨As, cs, rfl, os, bs⟩
      have is := Les.of_row os
      replace iu := iu.below bs
      replace BX := BX.below bs
      replace BY := BY.below bs
      replace hb := below_trans hb bs
      clear os bs
      obtain ⟨S, hS⟩ : ∃ S, S = liveL a U := ⟨_, rfl⟩
      have HT : Hid (∀ x, x ∈ liveL b U → x ∈ S) := Lib.hid (fun x hx => by rw [hS]; exact live_later (by omega) hx)
      rw [← hS] at is ⊢
      obtain ⟨bq, hbq⟩ : ∃ bq, bq = wg.heap.size := ⟨_, rfl⟩
      obtain ⟨Y, hY⟩ : ∃ Y, Y = wg.alloc (.cells #[.slice As S.length cs] 33) := ⟨_, rfl⟩
      have bY : Below wg.heap.size wg Y := by rw [hY]; exact (Below.refl _ _).alloc (Nat.le_refl _) _
      have hz : HasZ bq As S S.length cs Y := ⟨by rw [hY, hbq]; exact Blk.new _ _ _, is.below bY, rfl⟩
      replace iu := iu.below bY
      replace hb := below_trans hb bY
      have HQ := Lib.hid hbq
      have HY := Lib.hid hY
      clear hS hbq hY is BX BY bY
      go_wp2_with fail
      rw [← HY.out, ← HQ.out]
      refine (live_yes Au U _ cu b _ iu rfl EU).mono ?_
      rintro e wh ⟨At, ct, rfl, ot, bt⟩
      have it := Les.of_row ot
      replace hb := below_trans hb bt
      replace hz := hz.below bt
      clear ot bt iu
      go_wp2_with fail
      refine (missing_not bq As S _ cs At _ _ ct _ it rfl hz HT).mono ?_
      rintro e wi ⟨rfl, bi⟩
      replace hb := below_trans hb bi
      go_wp2
      go_ret
      exact ⟨rfl, hb⟩
    · subst q
      go_wp2_with fail
      refine (live_yes Au U _ cu a _ iu rfl EU).mono ?_
      rintro e wg ⟨As, cs, rfl, os, bs⟩
      have is := Les.of_row os
      replace iu := iu.below bs
      replace BX := BX.below bs
      replace BY := BY.below bs
      replace hb := below_trans hb bs
      clear os bs
      obtain ⟨S, hS⟩ : ∃ S, S = liveL a U := ⟨_, rfl⟩
      have HT : Hid (∀ x, x ∈ liveL a U → x ∈ S) := Lib.hid (fun x hx => by rw [hS]; exact live_later (by omega) hx)
      rw [← hS] at is ⊢
      obtain ⟨bq, hbq⟩ : ∃ bq, bq = wg.heap.size := ⟨_, rfl⟩
      obtain ⟨Y, hY⟩ : ∃ Y, Y = wg.alloc (.cells #[.slice As S.length cs] 33) := ⟨_, rfl⟩
      have bY : Below wg.heap.size wg Y := by rw [hY]; exact (Below.refl _ _).alloc (Nat.le_refl _) _
      have hz : HasZ bq As S S.length cs Y := ⟨by rw [hY, hbq]; exact Blk.new _ _ _, is.below bY, rfl⟩
      replace iu := iu.below bY
      replace hb := below_trans hb bY
      have HQ := Lib.hid hbq
      have HY := Lib.hid hY
      clear hS hbq hY is BX BY bY
      go_wp2_with fail
      rw [← HY.out, ← HQ.out]
      refine (live_yes Au U _ cu a _ iu rfl EU).mono ?_
      rintro e wh ⟨At, ct, rfl, ot, bt⟩
      have it := Les.of_row ot
      replace hb := below_trans hb bt
      replace hz := hz.below bt
      clear ot bt iu
      go_wp2_with fail
      refine (missing_not bq As S _ cs At _ _ ct _ it rfl hz HT).mono ?_
      rintro e wi ⟨rfl, bi⟩
      replace hb := below_trans hb bi
      go_wp2
      go_ret
      exact ⟨rfl, hb⟩
    · go_wp2_with fail
      refine (live_yes Au U _ cu b _ iu rfl EU).mono ?_
      rintro e wg ⟨As, cs, rfl, os, bs⟩
      have is := Les.of_row os
      replace iu := iu.below bs
      replace BX := BX.below bs
      replace BY := BY.below bs
      replace hb := below_trans hb bs
      clear os bs
      obtain ⟨S, hS⟩ : ∃ S, S = liveL b U := ⟨_, rfl⟩
      have HT : Hid (∀ x, x ∈ liveL a U → x ∈ S) := Lib.hid (fun x hx => by rw [hS]; exact live_later (by omega) hx)
      rw [← hS] at is ⊢
      obtain ⟨bq, hbq⟩ : ∃ bq, bq = wg.heap.size := ⟨_, rfl⟩
      obtain ⟨Y, hY⟩ : ∃ Y, Y = wg.alloc (.cells #[.slice As S.length cs] 33) := ⟨_, rfl⟩
      have bY : Below wg.heap.size wg Y := by rw [hY]; exact (Below.refl _ _).alloc (Nat.le_refl _) _
      have hz : HasZ bq As S S.length cs Y := ⟨by rw [hY, hbq]; exact Blk.new _ _ _, is.below bY, rfl⟩
      replace iu := iu.below bY
      replace hb := below_trans hb bY
      have HQ := Lib.hid hbq
      have HY := Lib.hid hY
      clear hS hbq hY is BX BY bY
      go_wp2_with fail
      rw [← HY.out, ← HQ.out]
      refine (live_yes Au U _ cu a _ iu rfl EU).mono ?_
      rintro e wh ⟨At, ct, rfl, ot, bt⟩
      have it := Les.of_row ot
      replace hb := below_trans hb bt
      replace hz := hz.below bt
      clear ot bt iu
      go_wp2_with fail
      refine (missing_not bq As S _ cs At _ _ ct _ it rfl hz HT).mono ?_
      rintro e wi ⟨rfl, bi⟩
      replace hb := below_trans hb bi
      go_wp2
      go_ret
      exact ⟨rfl, hb⟩
  · have e1 : (x.who != y.who) = true := by simp [hw]
    have EQ := Lib.hid (ORD.out hw)
    clear hw ORD
    go_wp2_with fail
    rw [← EQ.out] at iw
    rw [← EQ.out]
    refine (leSame Au Aw U _ _ _ _ _ iu iw rfl rfl).mono ?_
    rintro e wf ⟨rfl, nf, hwf⟩
    have bf := below_of_drewN hwf
    replace iu := iu.below bf
    replace BX := BX.below bf
    replace BY := BY.below bf
    replace hb := below_trans hb bf
    clear bf hwf iw x0 x1 x2 y0 y1 y2
    rcases Int.lt_trichotomy a b with q | q | q
    · go_wp2_with fail
      refine (live_yes Au U _ cu a _ iu rfl EU).mono ?_
      rintro e wg ⟨As, cs, rfl, os, bs⟩
      have is := Les.of_row os
      replace iu := iu.below bs
      replace BX := BX.below bs
      replace BY := BY.below bs
      replace hb := below_trans hb bs
      clear os bs
      obtain ⟨S, hS⟩ : ∃ S, S = liveL a U := ⟨_, rfl⟩
      have HT : Hid (∀ x, x ∈ liveL b U → x ∈ S) := Lib.hid (fun x hx => by rw [hS]; exact live_later (by omega) hx)
      rw [← hS] at is ⊢
      obtain ⟨bq, hbq⟩ : ∃ bq, bq = wg.heap.size := ⟨_, rfl⟩
      obtain ⟨Y, hY⟩ : ∃ Y, Y = wg.alloc (.cells #[.slice As S.length cs] 33) := ⟨_, rfl⟩
      have bY : Below wg.heap.size wg Y := by rw [hY]; exact (Below.refl _ _).alloc (Nat.le_refl _) _
      have hz : HasZ bq As S S.length cs Y := ⟨by rw [hY, hbq]; exact Blk.new _ _ _, is.below bY, rfl⟩
      replace iu := iu.below bY
      replace hb := below_trans hb bY
      have HQ := Lib.hid hbq
      have HY := Lib.hid hY
      clear hS hbq hY is BX BY bY
      go_wp2_with fail
      rw [← HY.out, ← HQ.out]
      refine (live_yes Au U _ cu b _ iu rfl EU).mono ?_
      rintro e wh ⟨At, ct, rfl, ot, bt⟩
      have it := Les.of_row ot
      replace hb := below_trans hb bt
      replace hz := hz.below bt
      clear ot bt iu
      go_wp2_with fail
      refine (missing_not bq As S _ cs At _ _ ct _ it rfl hz HT).mono ?_
      rintro e wi ⟨rfl, bi⟩
      replace hb := below_trans hb bi
      go_wp2
      go_ret
      exact ⟨rfl, hb⟩
    · subst q
      go_wp2_with fail
      refine (live_yes Au U _ cu a _ iu rfl EU).mono ?_
      rintro e wg ⟨As, cs, rfl, os, bs⟩
      have is := Les.of_row os
      replace iu := iu.below bs
      replace BX := BX.below bs
      replace BY := BY.below bs
      replace hb := below_trans hb bs
      clear os bs
      obtain ⟨S, hS⟩ : ∃ S, S = liveL a U := ⟨_, rfl⟩
      have HT : Hid (∀ x, x ∈ liveL a U → x ∈ S) := Lib.hid (fun x hx => by rw [hS]; exact live_later (by omega) hx)
      rw [← hS] at is ⊢
      obtain ⟨bq, hbq⟩ : ∃ bq, bq = wg.heap.size := ⟨_, rfl⟩
      obtain ⟨Y, hY⟩ : ∃ Y, Y = wg.alloc (.cells #[.slice As S.length cs] 33) := ⟨_, rfl⟩
      have bY : Below wg.heap.size wg Y := by rw [hY]; exact (Below.refl _ _).alloc (Nat.le_refl _) _
      have hz : HasZ bq As S S.length cs Y := ⟨by rw [hY, hbq]; exact Blk.new _ _ _, is.below bY, rfl⟩
      replace iu := iu.below bY
      replace hb := below_trans hb bY
      have HQ := Lib.hid hbq
      have HY := Lib.hid hY
      clear hS hbq hY is BX BY bY
      go_wp2_with fail
      rw [← HY.out, ← HQ.out]
      refine (live_yes Au U _ cu a _ iu rfl EU).mono ?_
      rintro e wh ⟨At, ct, rfl, ot, bt⟩
      have it := Les.of_row ot
      replace hb := below_trans hb bt
      replace hz := hz.below bt
      clear ot bt iu
      go_wp2_with fail
      refine (missing_not bq As S _ cs At _ _ ct _ it rfl hz HT).mono ?_
      rintro e wi ⟨rfl, bi⟩
      replace hb := below_trans hb bi
      go_wp2
      go_ret
      exact ⟨rfl, hb⟩
    · go_wp2_with fail
      refine (live_yes Au U _ cu b _ iu rfl EU).mono ?_
      rintro e wg ⟨As, cs, rfl, os, bs⟩
      have is := Les.of_row os
      replace iu := iu.below bs
      replace BX := BX.below bs
      replace BY := BY.below bs
      replace hb := below_trans hb bs
      clear os bs
      obtain ⟨S, hS⟩ : ∃ S, S = liveL b U := ⟨_, rfl⟩
      have HT : Hid (∀ x, x ∈ liveL a U → x ∈ S) := Lib.hid (fun x hx => by rw [hS]; exact live_later (by omega) hx)
      rw [← hS] at is ⊢
      obtain ⟨bq, hbq⟩ : ∃ bq, bq = wg.heap.size := ⟨_, rfl⟩
      obtain ⟨Y, hY⟩ : ∃ Y, Y = wg.alloc (.cells #[.slice As S.length cs] 33) := ⟨_, rfl⟩
      have bY : Below wg.heap.size wg Y := by rw [hY]; exact (Below.refl _ _).alloc (Nat.le_refl _) _
      have hz : HasZ bq As S S.length cs Y := ⟨by rw [hY, hbq]; exact Blk.new _ _ _, is.below bY, rfl⟩
      replace iu := iu.below bY
      replace hb := below_trans hb bY
      have HQ := Lib.hid hbq
      have HY := Lib.hid hY
      clear hS hbq hY is BX BY bY
      go_wp2_with fail
      rw [← HY.out, ← HQ.out]
      refine (live_yes Au U _ cu a _ iu rfl EU).mono ?_
      rintro e wh ⟨At, ct, rfl, ot, bt⟩
      have it := Les.of_row ot
      replace hb := below_trans hb bt
      replace hz := hz.below bt
      clear ot bt iu
      go_wp2_with fail
      refine (missing_not bq As S _ cs At _ _ ct _ it rfl hz HT).mono ?_
      rintro e wi ⟨rfl, bi⟩
      replace hb := below_trans hb bi
      go_wp2
      go_ret
      exact ⟨rfl, hb⟩

end Go.Proofs.Ytnpdcllfdoobeaa
