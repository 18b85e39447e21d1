
/-
  Walks: leases by holder and by pin, the search by halves, the least by pin (slices.MinFunc), a copy (slices.Clone), two lists compared (slices.Equal).
-/
import Derived.Test.YtnpdcllfdoobeaaLeaX
import Derived.StillTailTactics
import Derived.Deep.RegionHeld3
namespace Go.Proofs.Ytnpdcllfdoobeaa
set_option linter.all false
open Go.RowKit Go.Shelf Go.Lib

def cmL (x y : Int) : Int := if x < y then -1 else if y < x then 1 else 0
theorem cmL_lt {x y : Int} : cmL x y < 0 ↔ x < y := by unfold cmL; split; omega; split <;> omega
theorem cmL_eq {x y : Int} : cmL x y = 0 ↔ x = y := by unfold cmL; split; omega; split <;> omega
theorem cmpL_any (x y c : Int) (w : World) (hc : Hid (cmL x y = c)) : Calls Try.prog 71 #[.int .i64 x, .int .i64 y] w fun e w' => e = .returned (.int .i64 c) ∧ w' = w := by
  by_cases h1 : x < y
  · have HC : Hid (c = -1) := Lib.hid (by rw [← hc.out, cmL, if_pos h1])
    clear hc
    go_enter Try.func71, Try.ntmps71
    go_wp2
    go_ret
    exact ⟨ret_int HC.out.symm, rfl⟩
  · by_cases h2 : y < x
    · have HC : Hid (c = 1) := Lib.hid (by rw [← hc.out, cmL, if_neg h1, if_pos h2])
      clear hc
      go_enter Try.func71, Try.ntmps71
      go_wp2
      go_ret
      exact ⟨ret_int HC.out.symm, rfl⟩
    · have HC : Hid (c = 0) := Lib.hid (by rw [← hc.out, cmL, if_neg h1, if_neg h2])
      clear hc
      go_enter Try.func71, Try.ntmps71
      go_wp2
      go_ret
      exact ⟨ret_int HC.out.symm, rfl⟩
set_option maxHeartbeats 800000 in
theorem byHolder_any (a b : Lz) (v : Int) (w : World) (hv : Hid (cmL a.who b.who = v)) : Calls Try.prog 55 #[.agg #[.int .i64 a.who, .int .i64 a.till, .int .i64 a.pin], .agg #[.int .i64 b.who, .int .i64 b.till, .int .i64 b.pin]] w fun e w' => e = .returned (.int .i64 v) ∧ Below w.heap.size w w' := by
  obtain ⟨a1, a2, a3⟩ := a
  obtain ⟨b1, b2, b3⟩ := b
  simp only at hv ⊢
  go_enter Try.func55, Try.ntmps55
  go_wp2_with fail
  refine (cmpL_any a1 b1 v _ hv).mono ?_
  rintro e w' ⟨rfl, rfl⟩
  go_wp2
  go_ret
  exact ⟨rfl, ((Below.refl _ w).alloc (Nat.le_refl _) _).alloc (by simp) _⟩
set_option maxHeartbeats 800000 in
theorem byPin_any (a b : Lz) (v : Int) (w : World) (hv : Hid (cmL a.pin b.pin = v)) : Calls Try.prog 62 #[.agg #[.int .i64 a.who, .int .i64 a.till, .int .i64 a.pin], .agg #[.int .i64 b.who, .int .i64 b.till, .int .i64 b.pin]] w fun e w' => e = .returned (.int .i64 v) ∧ Below w.heap.size w w' := by
  obtain ⟨a1, a2, a3⟩ := a
  obtain ⟨b1, b2, b3⟩ := b
  simp only at hv ⊢
  go_enter Try.func62, Try.ntmps62
  go_wp2_with fail
  refine (cmpL_any a3 b3 v _ hv).mono ?_
  rintro e w' ⟨rfl, rfl⟩
  go_wp2
  go_ret
  exact ⟨rfl, ((Below.refl _ w).alloc (Nat.le_refl _) _).alloc (by simp) _⟩

/-- Is there a lease of the holder? -/
def fndB (x : Lz) (l : List Lz) : Bool := match l[plcV x l]? with
  | some a => decide (a.who = x.who)
  | none => false
theorem fnd_at {x : Lz} {l : List Lz} {a : Lz} (h : l[plcV x l]? = some a) : fndB x l = decide (a.who = x.who) := by simp [fndB, h]
theorem fnd_end {x : Lz} {l : List Lz} (h : plcV x l = l.length) : fndB x l = false := by simp [fndB, h]
theorem take_at {x : Lz} {l : List Lz} (h : fndB x l = true) : takeL x l = l.set (plcV x l) x ∧ plcV x l < l.length := by
  unfold fndB at h
  split at h
  · rename_i a e
    exact ⟨take_same e (of_decide_eq_true h), (List.getElem?_eq_some_iff.1 e).1⟩
  · exact absurd h (by simp)
theorem take_in {x : Lz} {l : List Lz} (h : fndB x l = false) : takeL x l = l.take (plcV x l) ++ x :: l.drop (plcV x l) :=
  take_new (fun a ha c => by rw [fnd_at ha, decide_eq_true c] at h; exact absurd h (by simp))

set_option maxRecDepth 100000 in
set_option maxHeartbeats 1600000 in
theorem bsearch_any (A : Option Addr) (l : List Lz) (x : Lz) (n c : Nat) (w : World) (h : Les w A l) (hn : n = l.length) (v : LzOk l) :
    Calls Try.prog 54 #[.slice A n c, .agg #[.int .i64 x.who, .int .i64 x.till, .int .i64 x.pin], .func (.func 55) #[] #[]] w fun e w' => e = .returned (.tuple #[.int .i64 (plcV x l), .bool (fndB x l)]) ∧ Below w.heap.size w w' := by
  subst hn
  have hent := enters_of Try.func55 (by kernel_rfl) rfl
  have hl := v.len
  have hp := plc_le x l
  have LO : Hid (∀ k a, l[k]? = some a → a.who < x.who → k + 1 ≤ plcV x l) := Lib.hid (fun k a ha hlt => by
    by_cases c : plcV x l ≤ k
    · have := plc_ge v.sorted c ha; omega
    · omega)
  have HI : Hid (∀ k a, l[k]? = some a → x.who ≤ a.who → plcV x l ≤ k) := Lib.hid (fun k a ha hlt => by
    by_cases c : k < plcV x l
    · have := plc_lt c ha; omega
    · omega)
  obtain ⟨P, hP⟩ : ∃ P, P = plcV x l := ⟨_, rfl⟩
  obtain ⟨F, hF⟩ : ∃ F, F = fndB x l := ⟨_, rfl⟩
  rw [← hP] at LO HI hp ⊢
  rw [← hF]
  have HP := Lib.hid hP
  have HF := Lib.hid hF
  obtain ⟨gx, hgx⟩ : ∃ gx, gx = w.heap.size := ⟨_, rfl⟩
  have GX := Lib.hid hgx
  have gle : w.heap.size ≤ gx := by omega
  clear hP hF hgx v
  go_enter Try.func54, Try.ntmps54
  go_wp2
  rw [← GX.out]
  go_loopw [9, 10] (fun i j wr => ∃ lo hi : Nat, lo ≤ P ∧ P ≤ hi ∧ hi ≤ l.length ∧ i = .int .i64 lo ∧ j = .int .i64 hi ∧ Blk wr gx 35 #[.int .i64 x.who, .int .i64 x.till, .int .i64 x.pin] ∧ Below w.heap.size w wr) (fun i j _ => (intOf j).toNat - (intOf i).toNat)
  case atStart => exact ⟨0, l.length, Nat.zero_le _, hp, Nat.le_refl _, rfl, rfl, by rw [GX.out]; exact Blk.new _ _ _, (Below.refl _ _).alloc (Nat.le_refl _) _⟩
  case round =>
    obtain ⟨lo, hi, h1, h2, h3, rfl, rfl, BX, hbel⟩ := hrel
    obtain ⟨x0, x1, x2⟩ := three_read BX
    by_cases hlt : lo < hi
    · obtain ⟨m, hm⟩ : ∃ m, m = (lo + hi) / 2 := ⟨_, rfl⟩
      obtain ⟨bb, off, a, rfl, hbl, c0, c1, c2, HA⟩ := (h.below hbel).get (k := m) (by omega)
      obtain ⟨vv, hv⟩ : ∃ vv, cmL a.who x.who = vv := ⟨_, rfl⟩
      have HV := Lib.hid hv
      have i1 : (lo : Int) < (hi : Int) := by omega
      have em : ((lo : Int) + (hi : Int)) / 2 = (m : Int) := by omega
      have HM := Lib.hid hm
      have m1 : lo ≤ m := by omega
      have m2 : m < hi := by omega
      have m3 : (m : Int) < (l.length : Int) := by omega
      have KL : Hid (a.who < x.who → m + 1 ≤ P) := Lib.hid (fun q => LO.out m a HA.out q)
      have KH : Hid (x.who ≤ a.who → P ≤ m) := Lib.hid (fun q => HI.out m a HA.out q)
      have KV : Hid (vv < 0 ↔ a.who < x.who) := Lib.hid (by rw [← hv]; exact cmL_lt)
      clear hv hm
      go_wp2
      go_still_tail 6, (by kernel_rfl)
      change wpList _ _ _ _ _ wr.drew
      go_wp2_with fail
      refine (byHolder_any a x vv _ HV).mono ?_
      rintro e w1 ⟨rfl, b1⟩
      have b1' : Below wr.heap.size wr w1 := ⟨b1.os, b1.tape, b1.output, b1.size, b1.block⟩
      have BX' := BX.below b1'
      have hb1 := below_trans hbel b1'
      clear b1 b1' BX x0 x1 x2 c0 c1 c2 hbel
      by_cases hneg : vv < 0
      · have q := KL.out (KV.out.mp hneg)
        clear KL KH KV HV
        go_wp2
        go_roundw
        case rel => exact ⟨m + 1, hi, q, h2, h3, by go_num, rfl, BX', hb1⟩
        case measure => simp [intOf]; omega
      · have q := KH.out (Int.not_lt.mp (fun c => hneg (KV.out.mpr c)))
        clear KL KH KV HV
        go_wp2
        go_roundw
        case rel => exact ⟨lo, m, h1, q, by omega, rfl, by first | rfl | go_num, BX', hb1⟩
        case measure => simp [intOf]; omega
    · obtain rfl : lo = hi := by omega
      obtain rfl : lo = P := by omega
      by_cases hq : lo < l.length
      · obtain ⟨bb, off, a, rfl, hbl, c0, c1, c2, HA⟩ := (h.below hbel).get hq
        obtain ⟨vv, hv⟩ : ∃ vv, cmL a.who x.who = vv := ⟨_, rfl⟩
        have HV := Lib.hid hv
        have i1 : ¬ (lo : Int) < (lo : Int) := by omega
        have i2 : (lo : Int) < (l.length : Int) := by omega
        have i3 : decide ((lo : Int) < (l.length : Int)) = true := decide_eq_true i2
        have i4 : decide (lo < l.length) = true := decide_eq_true hq
        have KF : Hid (F = decide (vv = 0)) := Lib.hid (by
          rw [HF.out, fnd_at (by rw [← HP.out]; exact HA.out), ← hv]
          by_cases c : a.who = x.who
          · rw [decide_eq_true c, decide_eq_true (cmL_eq.mpr c)]
          · rw [decide_eq_false c, decide_eq_false (fun q => c (cmL_eq.mp q))])
        clear hv
        go_wp2
        go_region_held3 (fun w' => w'.cell? ⟨bb, off + lo * 3, none⟩ = some (.int .i64 a.who) ∧ w'.cell? ⟨bb, off + lo * 3 + 1, none⟩ = some (.int .i64 a.till) ∧ w'.cell? ⟨bb, off + lo * 3 + 2, none⟩ = some (.int .i64 a.pin) ∧ w'.cell? ⟨gx, 0, none⟩ = some (.int .i64 x.who) ∧ w'.cell? ⟨gx, 1, none⟩ = some (.int .i64 x.till) ∧ w'.cell? ⟨gx, 2, none⟩ = some (.int .i64 x.pin))
          (first | go_keep | (go_split_ands; refine ⟨?_, ?_, ?_, ?_, ?_, ?_⟩ <;> exact (b9.cell (cell_lt (by assumption))).trans (by assumption)))
          (first
            | ((with_reducible refine (byHolder_any a x vv _ HV).mono ?_); rintro e w9 ⟨rfl, b9⟩))
        have hb1 := below_trans hbel (below_trans (below_of_drewN (n := 1) rfl) b9)
        clear b9 BX x0 x1 x2 c0 c1 c2 hbel
        have HT : Hid (F = (vv == 0)) := Lib.hid (by
          rw [KF.out]
          by_cases c : vv = 0
          · simp [c]
          · simp [c])
        clear KF HV
        go_wp2
        go_ret2
        exact ⟨by rw [HT.out]; rfl, hb1⟩
      · have i1 : ¬ (lo : Int) < (lo : Int) := by omega
        have i2 : ¬ (lo : Int) < (l.length : Int) := by omega
        have i3 : decide ((lo : Int) < (l.length : Int)) = false := decide_eq_false i2
        have i4 : decide (lo < l.length) = false := decide_eq_false hq
        have HT : Hid (F = false) := Lib.hid (by rw [HF.out, fnd_end (by rw [← HP.out]; omega)])
        go_wp2
        go_quiet (fail)
        go_wp2
        go_ret2
        exact ⟨by rw [HT.out]; rfl, below_trans hbel (below_of_drewN rfl)⟩

set_option maxHeartbeats 800000 in
/-- slices.Clone of whatever slice of at most a thousand leases. -/
theorem clone_le (A : Option Addr) (l : List Lz) (n c : Nat) (w : World) (h : Les w A l) (hn : n = l.length) (hm : n ≤ 1000) :
    Calls Try.prog 23 #[.slice A n c] w fun e w' => ∃ A' c', e = .returned (.slice A' n c') ∧ w'.ownsRow w.heap.size 35 3 (.slice A' n c') n (lcs l) ∧ Below w.heap.size w w' := by
  subst hn
  obtain ⟨i0, hi0, hz0, hz1, hz2⟩ := info_parts le_info
  have q : ∀ (w : World) (a : Option Addr) (n c n' c' : Nat), (binOp .eql 33 (.slice a n c) (.slice none n' c')).run Try.prog w = .ok (.bool a.isNone) w := fun w a n c n' c' => Lib.run_eql_slice_nil w _ _ a n c n' c' Try.underlying33
  have hlen := length_lcs l
  have HC : Hid (∀ ad, A = some ad → ∀ j u, (lcs l)[j]? = some u → w.cell? (ad.add j) = some u ∧ ad.block < w.heap.size) := Lib.hid (fun ad e j u hu => by
    have hj : 0 < l.length := by have := (List.getElem?_eq_some_iff.1 hu).1; omega
    obtain ⟨b, off, _, e', hb, _⟩ := Les.get h hj
    rw [e] at e'
    obtain rfl := Option.some.inj e'
    subst e
    rw [Addr.add_lit]
    exact ⟨h.cells j u hu, hb⟩)
  have HL := Lib.hid hlen
  by_cases hA : A = none
  · subst hA
    have hl0 : l.length = 0 := by
      by_cases c : l.length = 0
      · exact c
      · obtain ⟨b, off, _, e, _⟩ := Les.get h (k := 0) (by omega); cases e
    obtain rfl := List.eq_nil_of_length_eq_zero hl0
    clear hl0 h HC hlen HL
    go_enter Try.func23, Try.ntmps23
    go_wp2
    go_ret
    exact ⟨none, 0, rfl, World.ownsRow_nil _ _ _ _, Below.refl _ _⟩
  · obtain ⟨ad, rfl⟩ := Option.ne_none_iff_exists'.mp hA
    clear hA h hlen
    go_enter Try.func23, Try.ntmps23
    go_wp2_with (at_builtin; refine wpList_append_own _ rfl _ _ 33 rfl w.heap.size 35 i0 (.agg #[.int .i64 0, .int .i64 0, .int .i64 0]) 3 24 Try.underlying33 hi0 hz0 hz1 hz2 rfl (by decide) _ _ _ rfl (World.ownsRow_made w #[] 0 (Nat.le_refl _) (Nat.zero_le _) rfl) ad l.length c (lcs l) rfl ?qc1 ?qc2 ?qc3 ?qc4 ?qc5 ?qc6 ?_)
    case qc1 => exact HL.out
    case qc2 =>
      intro j u hj
      obtain ⟨hc, hlt⟩ := HC.out ad rfl j u hj
      have hlt' : (ad.add j).block < w.heap.size := by rw [show (ad.add j).block = ad.block by unfold Addr.add; split <;> rfl]; exact hlt
      exact (Below.cell ((Below.refl w.heap.size w).alloc (Nat.le_refl _) _) hlt').trans hc
    case qc3 => exact lcs_one l
    case qc4 => unfold maxLen; omega
    case qc5 => omega
    case qc6 => simp
    intro v' w1 hown hgrow hnil
    have hown' : w1.ownsRow w.heap.size 35 3 v' l.length (lcs l) := by simpa using hown
    obtain ⟨A', c', rfl⟩ := row_formL hown'
    have hb : Below w.heap.size w w1 := ((Below.refl _ w).alloc (Nat.le_refl _) _).grown hgrow (by simp) (by intro k hk; simp [Value.ownBlock] at hk; omega)
    clear hown hgrow hnil
    go_wp2
    go_ret
    exact ⟨A', c', rfl, hown', hb⟩

end Go.Proofs.Ytnpdcllfdoobeaa
