
/-
  The walk of the law BucketFits.
-/
import Derived.Test.YtbefkjglhlembaaBucketE
namespace Go.Proofs.Ytbefkjglhlembaa
set_option linter.all false
open Go.RowKit Go.Shelf


theorem bk_lit3 : Bk 1 2 2 := ⟨by decide, by decide, by decide, by decide, by decide, by decide⟩
theorem run_lit1 : runL 1 2 2 [⟨0, 2, 0⟩, ⟨0, 1, 0⟩, ⟨1, 1, 0⟩] = [true, false, true] := by decide

set_option maxHeartbeats 3200000 in
theorem walk_BucketFits (r b f : Int) (a1 : Option Addr) (c1 : Nat) (l1 : List Pk) (w : World) (_hr : (Lit.int .i64 r).wf = true) (_hb : (Lit.int .i64 b).wf = true) (_hf : (Lit.int .i64 f).wf = true) (hp : Pks w a1 l1) (_k1 : l1.length ≤ c1) :
    Calls Try.prog 9 #[.agg #[.int .i64 r, .int .i64 b, .int .i64 f], .slice a1 l1.length c1] w fun e w' => e = .returned (.bool true) ∧ Below w.heap.size w w' := by
  clear _hr _hb _hf _k1
  by_cases hB : Bk r b f
  · by_cases hq : pksE l1 = 0
    · have HB := Lib.hid hB
      have HQ := Lib.hid hq
      have q := qu_of hq
      have hle := q.le
      have r0 := hB.r0
      have r1 := hB.r1
      have b0 := hB.b0
      have b1 := hB.b1
      clear hB hq
      go_enter Try.func9, Try.ntmps9
      go_wp2_with fail
      refine (run_at _ [⟨0, 2, 0⟩, ⟨0, 1, 0⟩, ⟨1, 1, 0⟩] _ 1 2 2 _ _ _ bk_lit3 (by exact Pks.litB _ [⟨0, 2, 0⟩, ⟨0, 1, 0⟩, ⟨1, 1, 0⟩] _ _ _ rfl (by decide)) (by decide) rfl run_lit1).mono ?_
      rintro e w1 ⟨A1, cy, rfl, hx, by1⟩
      have B0 := ((Blk.new w 32 #[.int .i64 r, .int .i64 b, .int .i64 f]).alloc _).below by1
      have hb := below_of2 by1
      replace hp := ((hp.alloc _).alloc _).below by1
      clear by1
      go_wp2_with fail
      refine (bequal_same A1 _ [true, false, true] _ _ _ _ _ (by exact Bls.alloc hx _) (by exact Bls.lit _ [true, false, true] _ _ rfl (by decide)) rfl rfl).mono ?_
      rintro e w2 ⟨rfl, n2, hw2⟩
      have b2 := below_of1 (below_of_drewN hw2)
      clear hw2
      replace B0 := B0.below b2
      replace hb := below_trans hb b2
      replace hp := hp.below b2
      clear b2 hx
      obtain ⟨u0, u1, u2⟩ := three_read B0
      have ul := B0.lt
      go_wp2_with fail
      refine (run_ok a1 l1 r b f c1 _ HB.out hp HQ.out).mono ?_
      rintro e w3 ⟨Ax, cx, rfl, hx, b3⟩
      replace B0 := B0.below b3
      replace hb := below_trans hb b3
      replace hp := hp.below b3
      clear b3 u0 u1 u2 ul
      obtain ⟨u0, u1, u2⟩ := three_read B0
      have ul := B0.lt
      clear B0
      go_wp2
      go_loopw [47] (fun v wr => ∃ i n : Nat, i ≤ l1.length ∧ v = .int .i64 i ∧ wr = w3.drewN n) (fun v _ => l1.length - (intOf v).toNat)
      case atStart => exact ⟨0, 0, Nat.zero_le _, rfl, rfl⟩
      case round =>
        obtain ⟨i, n, hi, rfl, rfl⟩ := hrel
        by_cases hlt : i < l1.length
        · have i1 : (i : Int) < (l1.length : Int) := by omega
          go_wp2
          go_loopw [10, 11] (fun s v wi => ∃ m n : Nat, i + m ≤ l1.length ∧ v = .int .i64 (i + m : Nat) ∧ s = .int .i64 (sm (tkn r b f l1) i m) ∧ wi = w3.drewN n) (fun _ v _ => l1.length - (intOf v).toNat)
          case atStart => exact ⟨0, n, by omega, rfl, rfl, rfl⟩
          case round =>
            obtain ⟨m, n, hm, rfl, rfl, rfl⟩ := hrel
            by_cases hmt : i + m < l1.length
            · obtain ⟨bb, off, p, rfl, _, c0, c1', c2, HP⟩ := hp.get hmt
              obtain ⟨bb', off', p', e', _, d0, _, _, HP'⟩ := hp.get hlt
              obtain ⟨rfl, rfl⟩ : bb' = bb ∧ off' = off := by injection e' with e1; injection e1 with e1 e2; exact ⟨e1.symm, e2.symm⟩
              clear e'
              obtain ⟨xb, xo, t, rfl, hxc, HT⟩ := hx.get (k := i + m) (by rw [length_runL]; exact hmt)
              have HK := Lib.hid (pk_of HP.out)
              have HK' := Lib.hid (pk_of HP'.out)
              have ok := q.ok _ hmt
              have ok' := q.ok _ hlt
              have up := q.mono (i := i) (j := i + m) (by omega) hmt
              rw [HK.out] at ok up
              rw [HK'.out] at ok' up
              have hfit := fits_bucket HB.out q hmt
              rw [HK.out, HK'.out, sm] at hfit
              have hto : okV r b f l1 (i + m) = t := by have := (get_runL (r := r) (b := b) (f := f) hmt).symm.trans HT.out; simpa using this
              have bd := sm_bd (T := tkn r b f l1) (i := i) (n := l1.length) (fun j hj => tkn_bd q hj) m hm
              have a1 := ok.a1
              have a0 := ok'.a0
              have z0 := ok.s0
              have z1 := ok.s1
              obtain ⟨Sm, hSm⟩ : ∃ S, S = sm (tkn r b f l1) i m := ⟨_, rfl⟩
              obtain ⟨M, hM⟩ : ∃ M, M = r * (p.at_ - p'.at_) := ⟨_, rfl⟩
              have M0 : 0 ≤ M := by rw [hM]; exact Int.mul_nonneg r0 (by omega)
              have M1 : M ≤ 10000 * 200 := by rw [hM]; exact Int.mul_le_mul r1 (by omega) (by omega) (by decide)
              have s1 : IntKind.i64.wrap (r * (p.at_ - p'.at_)) = M := by rw [← hM]; exact IntWalk.i64_in _ ⟨by omega, by omega⟩
              have HTK : Hid (tkn r b f l1 (i + m) = if t = true then p.size else 0) := Lib.hid (by rw [tkn, hto, HK.out])
              have HSN : Hid (sm (tkn r b f l1) i (m + 1) = Sm + if t = true then p.size else 0) := Lib.hid (by rw [sm, HTK.out, hSm])
              rw [HTK.out, ← hM, ← hSm] at hfit
              rw [← hSm] at bd ⊢
              have bd0 := bd.1
              have bd1 := bd.2
              have i2 : ((i + m : Nat) : Int) < (l1.length : Int) := by omega
              clear hSm hM hto ok ok' bd HT HP HP' HK HK'
              cases t
              · have hno : ¬ b + M < Sm := by simp at hfit; omega
                have hd : decide (b + M < Sm) = false := decide_eq_false hno
                have HSN' : Hid (sm (tkn r b f l1) i (m + 1) = Sm) := Lib.hid (by rw [HSN.out]; simp)
                clear hfit HSN HTK
                go_wp2
                go_quiet (fail)
                go_wp2
                go_roundw
                case rel => exact ⟨m + 1, _, by omega, by go_num, by rw [HSN'.out], rfl⟩
                case measure => simp [intOf]; omega
              · have hno : ¬ b + M < Sm + p.size := by simp at hfit; omega
                have hd : decide (b + M < Sm + p.size) = false := decide_eq_false hno
                have HSN' : Hid (sm (tkn r b f l1) i (m + 1) = Sm + p.size) := Lib.hid (by rw [HSN.out]; simp)
                clear hfit HSN HTK
                go_wp2
                go_quiet (fail)
                go_wp2
                go_roundw
                case rel => exact ⟨m + 1, _, by omega, by go_num, by rw [HSN'.out], rfl⟩
                case measure => simp [intOf]; omega
            · have e2 : i + m = l1.length := by omega
              have i2 : ¬ ((i + m : Nat) : Int) < (l1.length : Int) := by omega
              go_wp2
              go_roundw
              case rel => exact ⟨i + 1, n, by omega, by go_num, rfl⟩
              case measure => simp [intOf]; omega
        · obtain rfl : i = l1.length := by omega
          go_wp2
          go_ret
          exact ⟨rfl, below_trans hb (below_of_drewN rfl)⟩
    · have HB := Lib.hid hB
      have HQ := Lib.hid hq
      have e1 : (pksE l1 != 0) = true := by simp [hq]
      clear hB hq
      go_enter Try.func9, Try.ntmps9
      go_wp2_with fail
      refine (run_at _ [⟨0, 2, 0⟩, ⟨0, 1, 0⟩, ⟨1, 1, 0⟩] _ 1 2 2 _ _ _ bk_lit3 (by exact Pks.litB _ [⟨0, 2, 0⟩, ⟨0, 1, 0⟩, ⟨1, 1, 0⟩] _ _ _ rfl (by decide)) (by decide) rfl run_lit1).mono ?_
      rintro e w1 ⟨A1, cy, rfl, hx, by1⟩
      have B0 := ((Blk.new w 32 #[.int .i64 r, .int .i64 b, .int .i64 f]).alloc _).below by1
      have hb := below_of2 by1
      replace hp := ((hp.alloc _).alloc _).below by1
      clear by1
      go_wp2_with fail
      refine (bequal_same A1 _ [true, false, true] _ _ _ _ _ (by exact Bls.alloc hx _) (by exact Bls.lit _ [true, false, true] _ _ rfl (by decide)) rfl rfl).mono ?_
      rintro e w2 ⟨rfl, n2, hw2⟩
      have b2 := below_of1 (below_of_drewN hw2)
      clear hw2
      replace B0 := B0.below b2
      replace hb := below_trans hb b2
      replace hp := hp.below b2
      clear b2 hx
      obtain ⟨u0, u1, u2⟩ := three_read B0
      have ul := B0.lt
      go_wp2_with fail
      refine (run_no a1 l1 r b f c1 _ HB.out hp HQ.out).mono ?_
      rintro e w3 ⟨Ax, cx, rfl, hx, b3⟩
      replace hb := below_trans hb b3
      clear b3
      go_wp2
      go_ret
      exact ⟨rfl, hb⟩
  · have HB := Lib.hid hB
    clear hB
    go_enter Try.func9, Try.ntmps9
    go_wp2_with fail
    refine (run_at _ [⟨0, 2, 0⟩, ⟨0, 1, 0⟩, ⟨1, 1, 0⟩] _ 1 2 2 _ _ _ bk_lit3 (by exact Pks.litB _ [⟨0, 2, 0⟩, ⟨0, 1, 0⟩, ⟨1, 1, 0⟩] _ _ _ rfl (by decide)) (by decide) rfl run_lit1).mono ?_
    rintro e w1 ⟨A1, cy, rfl, hx, by1⟩
    have B0 := ((Blk.new w 32 #[.int .i64 r, .int .i64 b, .int .i64 f]).alloc _).below by1
    have hb := below_of2 by1
    replace hp := ((hp.alloc _).alloc _).below by1
    clear by1
    go_wp2_with fail
    refine (bequal_same A1 _ [true, false, true] _ _ _ _ _ (by exact Bls.alloc hx _) (by exact Bls.lit _ [true, false, true] _ _ rfl (by decide)) rfl rfl).mono ?_
    rintro e w2 ⟨rfl, n2, hw2⟩
    have b2 := below_of1 (below_of_drewN hw2)
    clear hw2
    replace B0 := B0.below b2
    replace hb := below_trans hb b2
    replace hp := hp.below b2
    clear b2 hx
    obtain ⟨u0, u1, u2⟩ := three_read B0
    have ul := B0.lt
    go_wp2_with fail
    refine (run_bad a1 l1 r b f c1 _ HB.out).mono ?_
    rintro e w3 ⟨Ax, cx, rfl, hx, b3⟩
    replace hb := below_trans hb b3
    clear b3
    go_wp2
    go_ret
    exact ⟨rfl, hb⟩

end Go.Proofs.Ytbefkjglhlembaa
