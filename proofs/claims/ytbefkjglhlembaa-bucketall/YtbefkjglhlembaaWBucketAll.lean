
/-
  The walk of the law BucketAll.
-/
import Derived.Test.YtbefkjglhlembaaBucketE
namespace Go.Proofs.Ytbefkjglhlembaa
set_option linter.all false
open Go.RowKit Go.Shelf



theorem bk_lit4 : Bk 1 2 2 := ⟨by decide, by decide, by decide, by decide, by decide, by decide⟩
theorem run_lit2 : runL 1 2 2 [⟨0, 2, 0⟩, ⟨2, 2, 0⟩] = [true, true] := by decide
/-- No more than the bucket allows, from i on, for m packets. -/
def Low (r b : Int) (l : List Pk) (i m : Nat) : Prop := sm (fun j => (pk l j).size) i (m + 1) ≤ b + r * ((pk l (i + m)).at_ - (pk l i).at_)

set_option maxHeartbeats 3200000 in
theorem walk_BucketAll (x z : Int) (a1 : Option Addr) (c1 : Nat) (l1 : List Pk) (w : World) (_hr : (Lit.int .i64 x).wf = true) (_hb : (Lit.int .i64 z).wf = true) (hp : Pks w a1 l1) (_k1 : l1.length ≤ c1) :
    Calls Try.prog 10 #[.int .i64 x, .int .i64 z, .slice a1 l1.length c1] w fun e w' => e = .returned (.bool true) ∧ Below w.heap.size w w' := by
  clear _hr _hb _k1
  obtain ⟨r, hr⟩ : ∃ y, y = wi x 1001 := ⟨_, rfl⟩
  have rlo : 0 ≤ r := by rw [hr]; exact wi_nonneg _ _ (by omega)
  have rhi : r < 1001 := by rw [hr]; exact wi_lt x 1001 (by omega)
  have Hr := Lib.hid hr
  clear hr
  obtain ⟨b, hb⟩ : ∃ y, y = wi z 20001 := ⟨_, rfl⟩
  have blo : 0 ≤ b := by rw [hb]; exact wi_nonneg _ _ (by omega)
  have bhi : b < 20001 := by rw [hb]; exact wi_lt z 20001 (by omega)
  have Hb := Lib.hid hb
  clear hb
  have HB : Hid (Bk r b b) := Lib.hid ⟨by omega, by omega, by omega, by omega, by omega, by omega⟩
  by_cases hq : pksE l1 = 0
  · have HQ := Lib.hid hq
    have q := qu_of hq
    have hle := q.le
    clear hq
    go_enter Try.func10, Try.ntmps10
    go_wp2_with fail
    refine (run_at _ [⟨0, 2, 0⟩, ⟨2, 2, 0⟩] _ 1 2 2 _ _ _ bk_lit4 (by exact Pks.lit _ [⟨0, 2, 0⟩, ⟨2, 2, 0⟩] _ _ rfl (by decide)) (by decide) rfl run_lit2).mono ?_
    rintro e w1 ⟨A1, cy, rfl, hx, by1⟩
    have hb := below_of1 by1
    replace hp := (hp.alloc _).below by1
    clear by1
    go_wp2_with fail
    refine (bequal_same A1 _ [true, true] _ _ _ _ _ (by exact Bls.alloc hx _) (by exact Bls.lit _ [true, true] _ _ rfl (by decide)) rfl rfl).mono ?_
    rintro e w2 ⟨rfl, n2, hw2⟩
    have b2 := below_of1 (below_of_drewN hw2)
    clear hw2
    replace hb := below_trans hb b2
    replace hp := hp.below b2
    clear b2 hx
    go_wp2_with fail
    refine (within_any x 1001 _ (by omega) (by omega)).mono ?_
    rintro e w' ⟨rfl, rfl⟩
    rw [← Hr.out]
    go_wp2_with fail
    refine (within_any z 20001 _ (by omega) (by omega)).mono ?_
    rintro e w' ⟨rfl, rfl⟩
    rw [← Hb.out]
    go_wp2_with fail
    refine (run_ok a1 l1 r b b c1 _ HB.out hp HQ.out).mono ?_
    rintro e w3 ⟨Ax, cx, rfl, hx, b3⟩
    replace hb := below_trans hb b3
    replace hp := hp.below b3
    clear b3
    go_wp2
    go_loopw [51] (fun v wr => ∃ i n : Nat, i ≤ l1.length ∧ v = .int .i64 i ∧ wr = w3.drewN n ∧ Hid (∀ j m, j < i → j + m < l1.length → Low r b l1 j m)) (fun v _ => l1.length - (intOf v).toNat)
    case atStart => exact ⟨0, 0, Nat.zero_le _, rfl, rfl, Lib.hid (fun j m h => absurd h (Nat.not_lt_zero _))⟩
    case round =>
      obtain ⟨i, n, hi, rfl, rfl, HI⟩ := hrel
      by_cases hlt : i < l1.length
      · have i1 : (i : Int) < (l1.length : Int) := by omega
        go_wp2
        go_loopw [12, 13] (fun s v wi => ∃ m n : Nat, i + m ≤ l1.length ∧ v = .int .i64 (i + m : Nat) ∧ s = .int .i64 (sm (fun j => (pk l1 j).size) i m) ∧ wi = w3.drewN n ∧ Hid (∀ k, k < m → Low r b l1 i k)) (fun _ v _ => l1.length - (intOf v).toNat)
        case atStart => exact ⟨0, n, by omega, rfl, rfl, rfl, Lib.hid (fun k h => absurd h (Nat.not_lt_zero _))⟩
        case round =>
          obtain ⟨m, n, hm, rfl, rfl, rfl, HM⟩ := hrel
          by_cases hmt : i + m < l1.length
          · obtain ⟨bb, off, p, rfl, _, c0, c1', c2, HP⟩ := hp.get hmt
            obtain ⟨bb', off', p', e', _, d0, _, _, HP'⟩ := hp.get hlt
            obtain ⟨rfl, rfl⟩ : bb' = bb ∧ off' = off := by injection e' with e1; injection e1 with e1 e2; exact ⟨e1.symm, e2.symm⟩
            clear e'
            have HK := Lib.hid (pk_of HP.out)
            have HK' := Lib.hid (pk_of HP'.out)
            have ok := q.ok _ hmt
            have ok' := q.ok _ hlt
            have up := q.mono (i := i) (j := i + m) (by omega) hmt
            rw [HK.out] at ok up
            rw [HK'.out] at ok' up
            have bd := sm_bd (T := fun j => (pk l1 j).size) (i := i) (n := l1.length) (fun j hj => ⟨by have := (q.ok j hj).s0; omega, (q.ok j hj).s1⟩) m hm
            have a1 := ok.a1
            have a0 := ok'.a0
            have z0 := ok.s0
            have z1 := ok.s1
            obtain ⟨Sm, hSm⟩ : ∃ S, S = sm (fun j => (pk l1 j).size) i m := ⟨_, rfl⟩
            obtain ⟨M, hM⟩ : ∃ M, M = r * (p.at_ - p'.at_) := ⟨_, rfl⟩
            have M0 : 0 ≤ M := by rw [hM]; exact Int.mul_nonneg rlo (by omega)
            have M1 : M ≤ 10000 * 200 := by rw [hM]; exact Int.mul_le_mul (by omega) (by omega) (by omega) (by decide)
            have s1 : IntKind.i64.wrap (r * (p.at_ - p'.at_)) = M := by rw [← hM]; exact IntWalk.i64_in _ ⟨by omega, by omega⟩
            have HSN : Hid (sm (fun j => (pk l1 j).size) i (m + 1) = Sm + p.size) := Lib.hid (by rw [sm, HK.out, hSm])
            have HL : Hid (Low r b l1 i m ↔ Sm + p.size ≤ b + M) := Lib.hid (by rw [Low, HSN.out, HK.out, HK'.out, hM])
            rw [← hSm] at bd ⊢
            have bd0 := bd.1
            have bd1 := bd.2
            have i2 : ((i + m : Nat) : Int) < (l1.length : Int) := by omega
            clear hSm hM ok ok' bd HP HP' HK HK'
            by_cases hno : b + M < Sm + p.size
            · have hd : decide (b + M < Sm + p.size) = true := decide_eq_true hno
              go_wp2
              go_quiet (fail)
              go_wp2
              go_ret
              exact ⟨rfl, below_trans hb (below_of_drewN (World.drewN_drewN ..))⟩
            · have hd : decide (b + M < Sm + p.size) = false := decide_eq_false hno
              have HM' : Hid (∀ k, k < m + 1 → Low r b l1 i k) := Lib.hid (fun k hk => by
                by_cases e : k = m
                · subst e; exact HL.out.2 (by omega)
                · exact HM.out k (by omega))
              go_wp2
              go_quiet (fail)
              go_wp2
              go_roundw
              case rel => exact ⟨m + 1, _, by omega, by go_num, by rw [HSN.out], rfl, HM'⟩
              case measure => simp [intOf]; omega
          · have e2 : i + m = l1.length := by omega
            have i2 : ¬ ((i + m : Nat) : Int) < (l1.length : Int) := by omega
            have HI' : Hid (∀ j k, j < i + 1 → j + k < l1.length → Low r b l1 j k) := Lib.hid (fun j k hj hk => by
              by_cases e : j = i
              · subst e; exact HM.out k (by omega)
              · exact HI.out j k (by omega) hk)
            clear e2
            go_wp2
            go_roundw
            case rel => exact ⟨i + 1, n, by omega, by go_num, rfl, HI'⟩
            case measure => simp [intOf]; omega
      · obtain rfl : i = l1.length := by omega
        have all : Hid (∀ k, k < (runL r b b l1).length → (runL r b b l1)[k]? = some true) := Lib.hid (fun k hk => by
          rw [length_runL] at hk
          rw [get_runL hk, all_pass HB.out q (fun j m h => HI.out j m (by omega) h) hk])
        have HLn : Hid (l1.length = (runL r b b l1).length) := Lib.hid (by rw [length_runL])
        go_wp2_with fail
        refine (bcontains_all Ax (runL r b b l1) _ _ _ (by exact hx) all.out HLn.out).mono ?_
        rintro e w' ⟨rfl, rfl⟩
        go_wp2
        go_ret
        exact ⟨rfl, below_trans hb (below_of_drewN rfl)⟩
  · have HQ := Lib.hid hq
    have e1 : (pksE l1 != 0) = true := by simp [hq]
    have e2 : (pksE l1 == pksE l1) = true := by simp
    clear hq
    go_enter Try.func10, Try.ntmps10
    go_wp2_with fail
    refine (run_at _ [⟨0, 2, 0⟩, ⟨2, 2, 0⟩] _ 1 2 2 _ _ _ bk_lit4 (by exact Pks.lit _ [⟨0, 2, 0⟩, ⟨2, 2, 0⟩] _ _ rfl (by decide)) (by decide) rfl run_lit2).mono ?_
    rintro e w1 ⟨A1, cy, rfl, hx, by1⟩
    have hb := below_of1 by1
    replace hp := (hp.alloc _).below by1
    clear by1
    go_wp2_with fail
    refine (bequal_same A1 _ [true, true] _ _ _ _ _ (by exact Bls.alloc hx _) (by exact Bls.lit _ [true, true] _ _ rfl (by decide)) rfl rfl).mono ?_
    rintro e w2 ⟨rfl, n2, hw2⟩
    have b2 := below_of1 (below_of_drewN hw2)
    clear hw2
    replace hb := below_trans hb b2
    replace hp := hp.below b2
    clear b2 hx
    go_wp2_with fail
    refine (within_any x 1001 _ (by omega) (by omega)).mono ?_
    rintro e w' ⟨rfl, rfl⟩
    rw [← Hr.out]
    go_wp2_with fail
    refine (within_any z 20001 _ (by omega) (by omega)).mono ?_
    rintro e w' ⟨rfl, rfl⟩
    rw [← Hb.out]
    go_wp2_with fail
    refine (run_no a1 l1 r b b c1 _ HB.out hp HQ.out).mono ?_
    rintro e w3 ⟨Ax, cx, rfl, hx, b3⟩
    replace hb := below_trans hb b3
    replace hp := hp.below b3
    clear b3
    go_wp2_with fail
    refine (packets_any a1 l1 c1 _ hp).mono ?_
    rintro e w4 ⟨rfl, b4⟩
    replace hb := below_trans hb b4
    clear b4
    go_wp2
    go_ret
    exact ⟨rfl, hb⟩

end Go.Proofs.Ytbefkjglhlembaa
