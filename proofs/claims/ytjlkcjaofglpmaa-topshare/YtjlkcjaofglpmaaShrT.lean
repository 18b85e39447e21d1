
/-
  The walk of the law TopShare over the contracts of packages share and catch.
-/
import Derived.Test.YtjlkcjaofglpmaaShrB
import Derived.Test.YtjlkcjaofglpmaaCatX
import Derived.Test.YtjlkcjaofglpmaaBegA
namespace Go.Proofs.Ytjlkcjaofglpmaa
set_option linter.all false
open Go.RowKit Go.Shelf


def zsL : List Int := List.replicate 61 0
theorem gt_zs (t : Nat) : gt zsL t = 0 := by
  unfold gt zsL
  simp only [List.getD, List.getElem?_replicate]
  split <;> rfl
theorem len_zs : zsL.length = 61 := by rw [zsL, List.length_replicate]
theorem cv_zs : Cv zsL := ⟨by rw [len_zs]; omega, by rw [len_zs]; omega, fun i _ => by rw [gt_zs]; omega, fun i _ => by rw [gt_zs]; omega, fun i _ => by rw [gt_zs, gt_zs]; omega⟩
theorem cbound_at (A : Option Addr) (l : List Int) (n c : Nat) (r g v E : Int) (w : World) (h : Ints w A l) (hv : Hid (CbIs l r g v E)) (hn : n = l.length) : Calls Try.prog 29 #[.slice A n c, .int .i64 r, .int .i64 g] w fun e w' => e = .returned (.tuple #[.int .i64 v, .int .i64 E]) ∧ Below w.heap.size w w' := by
  subst hn; exact cbound_any A l c r g v E w h hv.out
theorem smax_smp (A : Option Addr) (l : List Int) (n c : Nat) (M : Int) (w : World) (hM : Hid (maxTo l (l.length - 1) = M)) (h : Ints w A l) (hp : 0 < l.length) (hl : n = l.length) :
    Calls Try.prog 30 #[.slice A n c] w fun e w' => e = .returned (.int .i64 M) ∧ w = w' := by
  subst hl
  have q := slicesMax_any A l c w h hp
  rwa [hM.out] at q
/-- The greatest of the times is the last. -/
theorem max_sh {l : List Int} {r : Int} (v : Lags l) (r0 : 1 ≤ r) : ∀ k, k < l.length → maxTo (shL l r) k = mxS l r (k + 1)
  | 0, h => by simp only [maxTo, mxS]; rw [gt_shL h]; have := (sh_bd v r0 h).1; omega
  | k + 1, h => by rw [maxTo, max_sh v r0 k (by omega), gt_shL h]; rfl
/-- By when a line alone has given all. -/
theorem cb_sh {l : List Int} {r : Int} (v : Lags l) (r0 : 1 ≤ r) (r1 : r ≤ 10000) : (mxS l r l.length ≤ 60 ∧ CbIs zsL r (sg (gt l) l.length) (mxS l r l.length) 0) ∨ (60 < mxS l r l.length ∧ CbIs zsL r (sg (gt l) l.length) 0 5) := by
  have sb := sg_bd v (Nat.le_refl l.length)
  have hE : cbE zsL r (sg (gt l) l.length) = 0 := cb_of ⟨cv_zs, by omega, r1, sb.1, by omega⟩
  have hm := mxS_all v r0
  have h0 := mxS_lo l r l.length
  have hk : ∀ t : Nat, CatchOk zsL r (sg (gt l) l.length) t ↔ mxS l r l.length ≤ t := fun t => by
    unfold CatchOk
    rw [gt_zs, Int.add_zero]
    constructor
    · intro h
      by_cases c : mxS l r l.length ≤ t
      · exact c
      · have := Int.mul_le_mul_of_nonneg_left (show (t : Int) ≤ mxS l r l.length - 1 by omega) (show 0 ≤ r by omega)
        rw [Int.mul_comm r (mxS l r l.length - 1)] at this
        omega
    · intro h
      have := Int.mul_le_mul_of_nonneg_left h (show 0 ≤ r by omega)
      rw [Int.mul_comm r (mxS l r l.length)] at this
      omega
  by_cases c : mxS l r l.length ≤ 60
  · refine .inl ⟨c, .inl ⟨hE, (mxS l r l.length).toNat, ⟨by rw [len_zs]; omega, (hk _).2 (by omega), fun s hs => ?_⟩, by omega, rfl⟩⟩
    intro q
    have := (hk s).1 q
    omega
  · refine .inr ⟨by omega, .inr (.inl ⟨hE, fun s hs q => ?_, rfl, rfl⟩)⟩
    rw [len_zs] at hs
    have := (hk s).1 q
    omega

set_option maxRecDepth 100000 in
set_option maxHeartbeats 3200000 in
theorem v_TopShare (K : ShrC) (a0 : Option Addr) (c0 : Nat) (l0 : List Int) (n1 : Int) (w : World)
    (h0 : Ints w a0 l0) (_k0 : l0.length ≤ c0) (_1 : (Lit.int .i64 n1).wf = true) :
    Calls Try.prog 11 #[.slice a0 l0.length c0, .int .i64 n1] w fun e w' => e = .returned (.bool true) ∧ Below w.heap.size w w' := by
  have hb : Below w.heap.size w w := Below.refl _ _
  clear _k0 _1
  by_cases hE : shE l0 n1 = 0
  · have ok := sh_iff.1 hE
    have v := ok.lags
    have r0 := ok.r0
    have r1 := ok.r1
    have HE := Lib.hid hE
    have hle := v.le
    clear hE ok
    by_cases hz : l0.length = 0
    · have e1 : ((l0.length : Int) == 0) = true := by rw [hz]; rfl
      have e2 : (l0.length : Int) = 0 := by omega
      clear hz
      go_enter Try.func11, Try.ntmps11
      go_wp2_with fail
      refine (K.done_yes a0 l0 (shL l0 n1) _ l0.length c0 n1 _ h0 HE (Lib.hid rfl) rfl rfl).mono ?_
      rintro e w1 ⟨Ax, cx, rfl, hx, kx, bw1⟩
      replace h0 := h0.below bw1
      replace hb := below_trans hb bw1
      clear bw1
      go_wp2_with fail
      refine (begin_any _).mono ?_
      rintro e w2 ⟨rfl, bw2⟩
      replace h0 := h0.below bw2
      replace hx := hx.below bw2
      replace hb := below_trans hb bw2
      clear bw2
      go_wp2_with fail
      refine (begin_any _).mono ?_
      rintro e w3 ⟨rfl, bw3⟩
      replace hb := below_trans hb bw3
      clear bw3
      go_wp2
      go_ret
      exact ⟨rfl, hb⟩
    · have e1 : ((l0.length : Int) == 0) = false := by rw [beq_eq_false_iff_ne]; omega
      have hz' : 0 < l0.length := by omega
      have HM : Hid (maxTo (shL l0 n1) ((shL l0 n1).length - 1) = mxS l0 n1 l0.length) := Lib.hid (by rw [length_shL, max_sh v r0 _ (by omega), show l0.length - 1 + 1 = l0.length by omega])
      have HC := Lib.hid (cb_sh v r0 r1)
      have hmk := fun W => run_make_row' (P := Try.prog) 22 3 (.int .i64 0) 8 Try.underlying22 int_info rfl .i64 .i64 61 (by omega) (by omega) W
      have ec : ((61 : Nat) : Int) = 61 := rfl
      rw [ec] at hmk
      clear ec
      clear hz
      go_enter Try.func11, Try.ntmps11
      go_wp2_with fail
      refine (K.done_yes a0 l0 (shL l0 n1) _ l0.length c0 n1 _ h0 HE (Lib.hid rfl) rfl rfl).mono ?_
      rintro e w1 ⟨Ax, cx, rfl, hx, kx, bw1⟩
      replace h0 := h0.below bw1
      replace hb := below_trans hb bw1
      clear bw1
      go_wp2_with fail
      refine (begin_any _).mono ?_
      rintro e w2 ⟨rfl, bw2⟩
      replace h0 := h0.below bw2
      replace hx := hx.below bw2
      replace hb := below_trans hb bw2
      clear bw2
      go_wp2
      go_loop [7, 39] (fun s i => ∃ t : Nat, t ≤ l0.length ∧ s = .int .i64 (sg (gt l0) t) ∧ i = .int .i64 t) (fun _ i => l0.length - (intOf i).toNat)
      case atStart => exact ⟨0, Nat.zero_le _, rfl, rfl⟩
      case round =>
        obtain ⟨t, ht, rfl, rfl⟩ := hrel
        obtain ⟨s, hs⟩ : ∃ s, s = sg (gt l0) t := ⟨_, rfl⟩
        have sb := sg_bd v ht
        rw [← hs] at sb
        rw [← hs]
        obtain ⟨s0, s1⟩ := sb
        by_cases hlt : t < l0.length
        · obtain ⟨b1, o1, y, e1, hc1, HY⟩ := h0.at_ (k := t) hlt
          subst e1
          have hy := gt_of_get HY.out
          have y0 : 0 ≤ y := by rw [← hy]; exact v.lo t hlt
          have y1 : y ≤ 1000 := by rw [← hy]; exact v.hi t hlt
          have s3 : IntKind.i64.wrap (s + y) = s + y := IntWalk.i64_in _ ⟨by omega, by omega⟩
          have HS : Hid (sg (gt l0) (t + 1) = s + y) := Lib.hid (by rw [sg, ← hs, hy])
          have i1 : (t : Int) < (l0.length : Int) := by omega
          clear hy hs
          go_wp2
          go_round
          case rel => exact ⟨t + 1, by omega, by rw [HS.out], by go_num⟩
          case measure => simp [intOf]; omega
        · obtain rfl : t = l0.length := by omega
          obtain ⟨m, hm⟩ : ∃ m, m = mxS l0 n1 l0.length := ⟨_, rfl⟩
          have HC' := HC.out
          rw [← hs, ← hm] at HC'
          rw [← hm] at HM
          have HZ : ∀ W : World, Ints (W.alloc (.cells (madeCells #[Value.int .i64 0] 61) 3)) (some ⟨W.heap.size, 0, none⟩) zsL := fun W => Ints.of_blk (by
            have := Blk.new W 3 (madeCells #[Value.int .i64 0] 61)
            have e : (zsL.map (Value.int .i64)).toArray = madeCells #[Value.int .i64 0] 61 := by rw [← rowAt_zero 61 (fun _ => 0)]; simp [rowAt, tab_zero, zsL]
            rw [e]; exact this) (by rw [len_zs]; omega)
          rcases HC' with ⟨c, hc⟩ | ⟨c, hc⟩
          · have HV := Lib.hid hc
            clear hc hs hm
            go_wp2_with fail
            refine (cbound_at _ zsL 61 61 n1 s m 0 _ (HZ _) HV len_zs.symm).mono ?_
            rintro e w3 ⟨rfl, b3⟩
            replace b3 := below_of1 b3
            replace hx := hx.below b3
            replace hb := below_trans hb b3
            clear b3 h0
            go_wp2_with fail
            refine (smax_smp Ax (shL l0 n1) _ cx m _ HM hx (by rw [length_shL]; exact hz') (length_shL _ _).symm).mono ?_
            rintro e w' ⟨rfl, rfl⟩
            go_wp2
            go_ret
            exact ⟨rfl, hb⟩
          · have HV := Lib.hid hc
            clear hc hs hm
            go_wp2_with fail
            refine (cbound_at _ zsL 61 61 n1 s 0 5 _ (HZ _) HV len_zs.symm).mono ?_
            rintro e w3 ⟨rfl, b3⟩
            replace b3 := below_of1 b3
            replace hx := hx.below b3
            replace hb := below_trans hb b3
            clear b3 h0
            go_wp2_with fail
            refine (smax_smp Ax (shL l0 n1) _ cx m _ HM hx (by rw [length_shL]; exact hz') (length_shL _ _).symm).mono ?_
            rintro e w' ⟨rfl, rfl⟩
            go_wp2
            go_ret
            exact ⟨rfl, hb⟩
  · have e1 : (shE l0 n1 != 0) = true := by simp [hE]
    have HE := Lib.hid hE
    clear hE
    go_enter Try.func11, Try.ntmps11
    go_wp2_with fail
    refine (K.done_no a0 l0 _ c0 n1 _ h0 HE rfl).mono ?_
    rintro e w3 ⟨⟨B, d, rfl⟩, b3⟩
    replace hb := below_trans hb b3
    clear b3
    go_wp2_with fail
    refine (begin_any _).mono ?_
    rintro e w2 ⟨rfl, bw2⟩
    replace hb := below_trans hb bw2
    clear bw2
    go_wp2_with fail
    refine (begin_any _).mono ?_
    rintro e w4 ⟨rfl, bw4⟩
    replace hb := below_trans hb bw4
    clear bw4
    go_wp2
    go_ret
    exact ⟨rfl, hb⟩

end Go.Proofs.Ytjlkcjaofglpmaa
