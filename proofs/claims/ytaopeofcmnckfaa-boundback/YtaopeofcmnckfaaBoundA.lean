
/-
  Walks: bound.Back, bound.Delay; the document's own delay.
-/
import Derived.Test.YtaopeofcmnckfaaTraceB
namespace Go.Proofs.Ytaopeofcmnckfaa
set_option linter.all false
open Go.RowKit Go.Shelf

theorem Ints.take {w : World} {A : Option Addr} {l : List Int} (h : Ints w A l) (t : Nat) : Ints w A (l.take t) := by
  refine ⟨by have := h.1; simp; omega, fun hl => ?_⟩
  simp at hl
  obtain ⟨b, off, rfl, hc⟩ := h.2 (by omega)
  refine ⟨b, off, rfl, fun j hj => ?_⟩
  simp at hj
  rw [hc j (by omega)]
  simp [List.getD, show j < t by omega]

theorem Cv.drop {l : List Int} (h : Cv l) {t : Nat} (ht : t < l.length) : Cv (l.drop t) := by
  have hl := h.le
  refine ⟨by simp; omega, by simp; omega, fun i hi => ?_, fun i hi => ?_, fun i hi => ?_⟩ <;> simp at hi
  · rw [gt_drop]; exact h.lo _ (by omega)
  · rw [gt_drop]; exact h.hi _ (by omega)
  · rw [gt_drop, gt_drop]; exact h.up _ (by omega)

/-- Is d enough? -/
theorem part_len {a b : List Int} (e : a.length = b.length) {d : Nat} (hd : d < a.length) : (a.take (a.length - d)).length = (b.drop d).length := by simp; omega
theorem part_chk {a b : List Int} (va : Cv a) (vb : Cv b) (e : a.length = b.length) {d : Nat} (hd : d < a.length) : chk2 (a.take (a.length - d)) (b.drop d) = 0 :=
  chk2_iff.2 ⟨va.take (by omega), vb.drop (by omega), part_len e hd⟩
theorem part_iff {a b : List Int} (e : a.length = b.length) {d : Nat} (hd : d < a.length) : leB (a.take (a.length - d)) (b.drop d) = true ↔ Del a b d := by
  rw [leB_iff (part_len e hd)]
  constructor
  · intro h t ht
    have := h t (by simp; omega)
    rwa [gt_take (by omega), gt_drop, Nat.add_comm] at this
  · intro h t ht
    simp at ht
    rw [gt_take (by omega), gt_drop, Nat.add_comm]
    exact h t (by omega)

set_option maxHeartbeats 400000 in
theorem back_yes (A A' : Option Addr) (l m : List Int) (nl nm c d : Nat) (w : World) (vl : Cv l) (vm : Cv m) (e : l.length = m.length) (h : Ints w A l) (h' : Ints w A' m) (hl : nl = l.length) (hm : nm = m.length) :
    Calls Try.prog 29 #[.slice A nl c, .slice A' nm d] w fun e w' => e = .returned (.tuple #[.int .i64 (backV l m), .int .i64 0]) ∧ Below w.heap.size w w' := by
  subst hl hm
  have hb : Below w.heap.size w w := Below.refl _ _
  obtain ⟨R, z⟩ := ex_less vl vm e
  have er := z.rlen
  have hp := z.r.pos
  have hle := z.r.le
  obtain ⟨k, hk⟩ : ∃ k, k = R.length - 1 := ⟨_, rfl⟩
  have HV : Hid (gt R k = backV l m) := Lib.hid (by
    rw [z.val k (by omega), lessV, backV, show k + 1 = l.length by omega])
  have i1 : (k : Int) < (R.length : Int) := by omega
  have i2 : (R.length : Int) - 1 = (k : Int) := by omega
  have i3 : k < R.length := by omega
  clear e er hk
  go_enter Try.func29, Try.ntmps29
  go_wp2_with fail
  refine (less_ok A A' l m R _ _ c d _ z h h' rfl rfl).mono ?_
  rintro e w1 ⟨AR, cR, rfl, oR, bw1⟩
  replace hb := below_trans hb bw1
  have hR := Ints.of_own oR
  clear bw1 oR
  obtain ⟨b1, o1, x, rfl, hc1, HX⟩ := hR.at_ (k := k) i3
  have HX' : Hid (x = backV l m) := Lib.hid (by rw [← HV.out, gt_of_get HX.out])
  go_wp2
  go_ret2
  exact ⟨by rw [← HX'.out]; rfl, hb⟩

set_option maxHeartbeats 400000 in
theorem back_no (A A' : Option Addr) (l m : List Int) (c d : Nat) (w : World) (hE : ¬ chk2 l m = 0) (h : Ints w A l) (h' : Ints w A' m) :
    Calls Try.prog 29 #[.slice A l.length c, .slice A' m.length d] w fun e w' => e = .returned (.tuple #[.int .i64 0, .int .i64 (chk2 l m)]) ∧ Below w.heap.size w w' := by
  have hb : Below w.heap.size w w := Below.refl _ _
  have HE : Hid (resE (chk2 l m) (tab l.length (lessV l m)) = chk2 l m) := Lib.hid (res_err hE).1
  have e1 : (chk2 l m != 0) = true := by simp [hE]
  clear hE
  go_enter Try.func29, Try.ntmps29
  go_wp2_with fail
  refine (less_any A A' l m c d _ h h').mono ?_
  rintro e w1 ⟨Ax, cx, rfl, ox, bw1⟩
  replace hb := below_trans hb bw1
  have hx := Ints.of_own ox
  clear bw1 ox
  rw [HE.out]
  go_wp2
  go_ret2
  exact ⟨rfl, hb⟩

/-- What is not enough so far. -/
def NoDel (a b : List Int) (k : Nat) : Prop := ∀ e, e < k → ¬ Del a b e
theorem NoDel.next {a b : List Int} {k : Nat} (h : NoDel a b k) (h' : ¬ Del a b k) : NoDel a b (k + 1) := fun e he => by
  by_cases q : e = k
  · subst q; exact h'
  · exact h e (by omega)

/-- What Delay answers: the least delay, or that there is none. -/
def DelIs (a b : List Int) (v E : Int) : Prop := (∃ d : Nat, IsDel a b d ∧ v = d ∧ E = 0) ∨ (NoDel a b a.length ∧ v = 0 ∧ E = 5)
theorem DelIs.uniq {a b : List Int} {v E v' E' : Int} (h : DelIs a b v E) (h' : DelIs a b v' E') : v = v' ∧ E = E' := by
  rcases h with ⟨d, h1, rfl, rfl⟩ | ⟨h1, rfl, rfl⟩ <;> rcases h' with ⟨d', h2, rfl, rfl⟩ | ⟨h2, rfl, rfl⟩
  · rw [h1.uniq h2]; exact ⟨rfl, rfl⟩
  · exact absurd h1.ok (h2 d h1.lt)
  · exact absurd h2.ok (h1 d' h2.lt)
  · exact ⟨rfl, rfl⟩
theorem ex_delIs (a b : List Int) : ∃ v E, DelIs a b v E := by
  rcases ex_del a b with ⟨d, h⟩ | h
  · exact ⟨d, 0, .inl ⟨d, h, rfl, rfl⟩⟩
  · exact ⟨0, 5, .inr ⟨h, rfl, rfl⟩⟩

/-- Le of two parts. -/
theorem le_part (A A' : Option Addr) (l m : List Int) (nl nm c d : Nat) (s : Bool) (w : World) (h : Ints w A l) (h' : Ints w A' m) (he : chk2 l m = 0) (hs : Hid (leB l m = s)) (hl : nl = l.length) (hm : nm = m.length) :
    Calls Try.prog 50 #[.slice A nl c, .slice A' nm d] w fun e w' => e = .returned (.tuple #[.bool s, .int .i64 0]) ∧ ∃ n, w' = w.drewN n := by
  subst hl hm
  have := le_any A A' l m c d w h h'
  rw [hs.out, he] at this
  exact this
theorem refLe_part (A A' : Option Addr) (l m : List Int) (nl nm c d : Nat) (s : Bool) (w : World) (h : Ints w A l) (h' : Ints w A' m) (hlen : l.length ≤ m.length) (hs : Hid (leB l m = s)) (hl : nl = l.length) (hm : nm = m.length) :
    Calls Try.prog 53 #[.slice A nl c, .slice A' nm d] w fun e w' => e = .returned (.bool s) ∧ ∃ n, w' = w.drewN n := by
  subst hl hm
  have := refLe_any A A' l m c d w h h' hlen
  rw [hs.out] at this
  exact this

set_option maxHeartbeats 1600000 in
theorem delay_yes (A A' : Option Addr) (l m : List Int) (nl nm c d : Nat) (v E : Int) (w : World) (hv : DelIs l m v E) (vl : Cv l) (vm : Cv m) (e : l.length = m.length) (h : Ints w A l) (h' : Ints w A' m) (hc : l.length ≤ c) (hd : m.length ≤ d) (hl : nl = l.length) (hm : nm = m.length) :
    Calls Try.prog 30 #[.slice A nl c, .slice A' nm d] w fun e w' => e = .returned (.tuple #[.int .i64 v, .int .i64 E]) ∧ ∃ n, w' = w.drewN n := by
  subst hl hm
  have hp := vl.pos
  have hle := vl.le
  obtain ⟨bb, off, rfl, _⟩ := h.2 hp
  obtain ⟨bb', off', rfl, _⟩ := h'.2 (by omega)
  have H0 : Hid ((decide (chk2 l m = 0) && leB l m) = leB l m) := Lib.hid (by simp [chk2_iff.2 ⟨vl, vm, e⟩])
  have H1 : Hid (chk2 l m = 0) := Lib.hid (chk2_iff.2 ⟨vl, vm, e⟩)
  have hlm : l.length ≤ m.length := by omega
  have hlm' : m.length ≤ l.length := by omega
  have HE := Lib.hid e
  have HV := Lib.hid hv
  clear e hv
  go_enter Try.func30, Try.ntmps30
  go_wp2_with fail
  refine (le_any _ _ l m c d _ h h').mono ?_
  rintro e w4 ⟨rfl, n4, rfl⟩
  rw [H0.out, H1.out]
  go_wp2
  go_loopw [22] (fun i wr => ∃ k n : Nat, k ≤ l.length ∧ i = .int .i64 k ∧ wr = w.drewN n ∧ Hid (NoDel l m k)) (fun i _ => l.length - (intOf i).toNat)
  case atStart => exact ⟨0, n4, Nat.zero_le _, rfl, rfl, Lib.hid (fun e he => absurd he (by omega))⟩
  case round =>
    obtain ⟨t, n, ht, rfl, hw, HR⟩ := hrel
    have HW := Lib.hid hw
    have hr := h.below (below_of_drewN hw)
    have hr' := h'.below (below_of_drewN hw)
    clear hw
    by_cases hlt : t < l.length
    · obtain ⟨k, hk⟩ : ∃ k, k = l.length - t := ⟨_, rfl⟩
      have HC : Hid (chk2 (l.take k) (m.drop t) = 0) := Lib.hid (by rw [hk]; exact part_chk vl vm HE.out hlt)
      have HI : Hid (leB (l.take k) (m.drop t) = true ↔ Del l m t) := Lib.hid (by rw [hk]; exact part_iff HE.out hlt)
      have r0 := hr.take k
      have r1 := hr'.drop t
      have i0 : IntKind.i64.wrap (k : Int) = (k : Int) := IntWalk.i64_in _ ⟨by omega, by omega⟩
      have i0' : (l.length : Int) - (t : Int) = (k : Int) := by omega
      have i1 : (k : Int) ≤ (c : Int) := by omega
      have i2 : (t : Int) ≤ (m.length : Int) := by omega
      have i3 : ¬ d = t := by omega
      have lk : k = (l.take k).length := by simp; omega
      have lm : m.length - t = (m.drop t).length := by simp
      have LK := Lib.hid lk
      have LM := Lib.hid lm
      have LN : Hid ((l.take k).length ≤ (m.drop t).length) := Lib.hid (by rw [← lk, ← lm]; omega)
      clear lk lm hk
      cases q : leB (l.take k) (m.drop t)
      · have HQ := Lib.hid (Lib.hid q)
        clear q
        go_wp2
        go_quiet ((go_at_call 50; exact Calls.quiet_of (le_part _ _ (l.take k) (m.drop t) _ _ _ _ false _ (r0.drewN _) (r1.drewN _) HC.out HQ.out LK.out LM.out)))
        go_wp2
        go_roundw
        case rel => exact ⟨t + 1, _, by omega, by go_num, by rw [HW.out]; exact World.drewN_drewN .., Lib.hid (HR.out.next (fun q => by have := HI.out.2 q; rw [HQ.out.out] at this; cases this))⟩
        case measure => simp [intOf]; omega
      · have HQ := Lib.hid (Lib.hid q)
        clear q
        go_wp2
        go_quiet ((go_at_call 50; exact Calls.quiet_of (le_part _ _ (l.take k) (m.drop t) _ _ _ _ true _ (r0.drewN _) (r1.drewN _) HC.out HQ.out LK.out LM.out)))
        go_wp2
        go_ret2
        refine ⟨?_, _, by rw [HW.out]; exact World.drewN_drewN ..⟩
        obtain ⟨e1, e2⟩ := HV.out.uniq (.inl ⟨t, ⟨hlt, HI.out.1 HQ.out.out, HR.out⟩, rfl, rfl⟩)
        rw [e1, e2]; rfl
    · obtain rfl : t = l.length := by omega
      go_wp2
      go_ret2
      refine ⟨?_, _, HW.out⟩
      obtain ⟨e1, e2⟩ := HV.out.uniq (.inr ⟨HR.out, rfl, rfl⟩)
      rw [e1, e2]; rfl

set_option maxHeartbeats 400000 in
theorem delay_no (A A' : Option Addr) (l m : List Int) (c d : Nat) (w : World) (hE : ¬ chk2 l m = 0) (h : Ints w A l) (h' : Ints w A' m) :
    Calls Try.prog 30 #[.slice A l.length c, .slice A' m.length d] w fun e w' => e = .returned (.tuple #[.int .i64 0, .int .i64 (chk2 l m)]) ∧ ∃ n, w' = w.drewN n := by
  have e1 : (chk2 l m != 0) = true := by simp [hE]
  clear hE
  go_enter Try.func30, Try.ntmps30
  go_wp2_with fail
  refine (le_any _ _ l m c d _ h h').mono ?_
  rintro e w4 ⟨rfl, n4, rfl⟩
  go_wp2
  go_ret2
  exact ⟨rfl, n4, rfl⟩

/-- The document's answer: the least delay, or -1. -/
def DelRef (v E k : Int) : Prop := (0 ≤ k ∧ v = k ∧ E = 0) ∨ (k = -1 ∧ v = 0 ∧ E = 5)

set_option maxHeartbeats 1600000 in
theorem refDelay_any (A A' : Option Addr) (l m : List Int) (c d : Nat) (v E k0 : Int) (w : World) (hv : DelIs l m v E) (hk0 : DelRef v E k0) (h61 : l.length ≤ 61) (hp : 0 < l.length) (e : l.length = m.length) (h : Ints w A l) (h' : Ints w A' m) (hc : l.length ≤ c) (hd : m.length ≤ d) :
    Calls Try.prog 34 #[.slice A l.length c, .slice A' m.length d] w fun e w' => e = .returned (.int .i64 k0) ∧ ∃ n, w' = w.drewN n := by
  obtain ⟨bb, off, rfl, _⟩ := h.2 hp
  obtain ⟨bb', off', rfl, _⟩ := h'.2 (by omega)
  have hlm : l.length ≤ m.length := by omega
  have hlm' : m.length ≤ l.length := by omega
  have HE := Lib.hid e
  have HV := Lib.hid hv
  have HK := Lib.hid hk0
  clear e hv hk0
  go_enter Try.func34, Try.ntmps34
  go_wp2
  go_loopw [8] (fun i wr => ∃ k n : Nat, k ≤ l.length ∧ i = .int .i64 k ∧ wr = w.drewN n ∧ Hid (NoDel l m k)) (fun i _ => l.length - (intOf i).toNat)
  case atStart => exact ⟨0, 0, Nat.zero_le _, rfl, rfl, Lib.hid (fun e he => absurd he (by omega))⟩
  case round =>
    obtain ⟨t, n, ht, rfl, hw, HR⟩ := hrel
    have HW := Lib.hid hw
    have hr := h.below (below_of_drewN hw)
    have hr' := h'.below (below_of_drewN hw)
    clear hw
    by_cases hlt : t < l.length
    · obtain ⟨k, hk⟩ : ∃ k, k = l.length - t := ⟨_, rfl⟩
      have HI : Hid (leB (l.take k) (m.drop t) = true ↔ Del l m t) := Lib.hid (by rw [hk]; exact part_iff HE.out hlt)
      have r0 := hr.take k
      have r1 := hr'.drop t
      have i0 : IntKind.i64.wrap (k : Int) = (k : Int) := IntWalk.i64_in _ ⟨by omega, by omega⟩
      have i0' : (l.length : Int) - (t : Int) = (k : Int) := by omega
      have i1 : (k : Int) ≤ (c : Int) := by omega
      have i2 : (t : Int) ≤ (m.length : Int) := by omega
      have i3 : ¬ d = t := by omega
      have lk : k = (l.take k).length := by simp; omega
      have lm : m.length - t = (m.drop t).length := by simp
      have LK := Lib.hid lk
      have LM := Lib.hid lm
      have LN : Hid ((l.take k).length ≤ (m.drop t).length) := Lib.hid (by rw [← lk, ← lm]; omega)
      clear lk lm hk
      cases q : leB (l.take k) (m.drop t)
      · have HQ := Lib.hid (Lib.hid q)
        clear q
        go_wp2
        go_quiet ((go_at_call 53; exact Calls.quiet_of (refLe_part _ _ (l.take k) (m.drop t) _ _ _ _ false _ (r0.drewN _) (r1.drewN _) LN.out HQ.out LK.out LM.out)))
        go_wp2
        go_roundw
        case rel => exact ⟨t + 1, _, by omega, by go_num, by rw [HW.out]; exact World.drewN_drewN .., Lib.hid (HR.out.next (fun q => by have := HI.out.2 q; rw [HQ.out.out] at this; cases this))⟩
        case measure => simp [intOf]; omega
      · have HQ := Lib.hid (Lib.hid q)
        clear q
        go_wp2
        go_quiet ((go_at_call 53; exact Calls.quiet_of (refLe_part _ _ (l.take k) (m.drop t) _ _ _ _ true _ (r0.drewN _) (r1.drewN _) LN.out HQ.out LK.out LM.out)))
        go_wp2
        go_ret
        refine ⟨ret_int ?_, _, by rw [HW.out]; exact World.drewN_drewN ..⟩
        obtain ⟨e1, e2⟩ := HV.out.uniq (.inl ⟨t, ⟨hlt, HI.out.1 HQ.out.out, HR.out⟩, rfl, rfl⟩)
        rcases HK.out with ⟨q1, q2, q3⟩ | ⟨q1, q2, q3⟩ <;> omega
    · obtain rfl : t = l.length := by omega
      go_wp2
      go_ret
      refine ⟨ret_int ?_, _, HW.out⟩
      obtain ⟨e1, e2⟩ := HV.out.uniq (.inr ⟨HR.out, rfl, rfl⟩)
      rcases HK.out with ⟨q1, q2, q3⟩ | ⟨q1, q2, q3⟩ <;> omega

end Go.Proofs.Ytaopeofcmnckfaa
