
/-
  The walk of the law RanksFirst.
-/
import Derived.Test.YtccjegnflienhaaRankE
namespace Go.Proofs.Ytccjegnflienhaa
set_option linter.all false
open Go.RowKit Go.Shelf Go.Lib

theorem tot_work {l : List Tk} (v : TksB l) : ∀ k, k ≤ l.length → 0 ≤ tot (fun k => (tk l k).work) k ∧ tot (fun k => (tk l k).work) k ≤ 60 * k
  | 0, _ => by simp [tot]
  | k + 1, hk => by
    have := tot_work v k (by omega)
    have := v.w1 k (by omega)
    have := v.wd k (by omega)
    have := v.dp k (by omega)
    have := v.p60 k (by omega)
    simp only [tot]
    omega
set_option maxRecDepth 100000 in
set_option maxHeartbeats 3200000 in
theorem walk_RanksFirst (a0 : Option Addr) (c0 : Nat) (l0 : List Tk) (n1 : Int) (w : World) (h0 : Tas w a0 l0) (k0 : l0.length ≤ c0) (_h1 : (Lit.int .i64 n1).wf = true) :
    Calls Try.prog 9 #[.slice a0 l0.length c0, .int .i64 n1] w fun e w' => e = .returned (.bool true) ∧ Below w.heap.size w w' := by
  have hb := Below.refl w.heap.size w
  have hl := h0.le
  go_enter Try.func9, Try.ntmps9
  go_wp2_with fail
  refine (rank_any _).mono ?_
  rintro e w1 ⟨⟨g, rfl, hx⟩, b1⟩
  replace h0 := h0.below b1
  replace hb := below_trans hb b1
  clear b1
  go_wp2_with fail
  refine (resp_yes _ rkX 2 0 _ hx (by decide) rkX_ok (by decide) 1 0 (Lib.hid (.inl ⟨rkX_rt0, rfl, by decide⟩))).mono ?_
  rintro e w2 ⟨rfl, b2⟩
  replace h0 := h0.below b2
  replace hb := below_trans hb b2
  clear b2 hx
  by_cases hE : tasE l0 = 0
  · have v := tas_iff.1 hE
    have hle := v.le
    by_cases hi : 0 ≤ n1 ∧ n1 < l0.length
    · obtain ⟨I, rfl⟩ := Int.eq_ofNat_of_zero_le hi.1
      have hlt : I < l0.length := by omega
      obtain ⟨N, E, hR⟩ := resp_of v hlt
      have HR := Lib.hid hR
      go_wp2_with fail
      refine (resp_yes a0 l0 c0 I _ h0 k0 hE hlt N E HR).mono ?_
      rintro e w3 ⟨rfl, b3⟩
      replace h0 := h0.below b3
      replace hb := below_trans hb b3
      clear b3 HR hE
      rcases hR with ⟨r1, rfl, r2⟩ | ⟨_, rfl, rfl⟩
      · obtain ⟨bb, off, q, hA', hbl, c0_, c1_, c2_, HJ⟩ := h0.get hlt
        have hq := tk_of HJ.out
        have HRT : Hid (∃ r : Nat, N = r ∧ IsRt l0 I r ∧ N ≤ q.due) := Lib.hid (by
          rcases rt_spec v.toTks hlt with ⟨x, _⟩ | ⟨r, x, _, y, z⟩
          · omega
          · exact ⟨r, by omega, z, by rw [← hq]; omega⟩)
        have HLO : Hid (tot (fun k => (tk l0 k).work) (I + 1) ≤ N) := Lib.hid (by
          obtain ⟨r, a, b, _⟩ := HRT.out
          have := (rt_lo v.toTks hlt b).2
          omega)
        have HDU : Hid (N ≤ q.due) := Lib.hid (by obtain ⟨_, _, _, c⟩ := HRT.out; exact c)
        have HFI : Hid (I = 0 → N = (tk l0 0).work) := Lib.hid (fun e => by
          subst e
          obtain ⟨r, a, b, _⟩ := HRT.out
          have := b.eq
          unfold dmV at this
          simp only [tot] at this
          omega)
        have HTW := Lib.hid (tot_work v)
        have i1 : (I : Int) < (l0.length : Int) := by omega
        have i2 : I + 1 ≤ c0 := by omega
        have i3 : (I : Int) + 1 ≤ (c0 : Int) := by omega
        have m1 : IntKind.i64.wrap ((I : Int) + 1) = (I : Int) + 1 := IntWalk.i64_in _ ⟨by omega, by omega⟩
        have i4 : ((I : Int) + 1).toNat = I + 1 := by omega
        have i5 : (0 : Int) ≤ (I : Int) + 1 := by omega
        have I5 : I ≤ 4 := by omega
        have HN := Lib.hid r1
        have HA := Lib.hid hA'
        clear hq c0_ c1_ c2_ hbl r1 HRT hi
        subst hA'
        go_wp2
        go_loopw [9, 52] (fun s i wr => ∃ k : Nat, k ≤ I + 1 ∧ i = .int .i64 k ∧ (∃ S : Int, s = .int .i64 S ∧ Hid (S = tot (fun k => (tk l0 k).work) k)) ∧ Tas wr (some ⟨bb, off, none⟩) l0 ∧ Below w.heap.size w wr) (fun _ i _ => I + 1 - (intOf i).toNat)
        case atStart => exact ⟨0, Nat.zero_le _, rfl, ⟨0, rfl, Lib.hid rfl⟩, h0, hb⟩
        case round =>
          clear h0 hb
          obtain ⟨k, hk, rfl, ⟨S, rfl, HS⟩, hT, hbel⟩ := hrel
          have Sb : 0 ≤ S ∧ S ≤ 60 * k := by rw [HS.out]; exact HTW.out k (by omega)
          obtain ⟨S0, S1⟩ := Sb
          by_cases hlk : k < I + 1
          · obtain ⟨bb', off', p, hA2, hbl, c0_, c1_, c2_, HJ2⟩ := hT.get (k := k) (by omega)
            obtain ⟨rfl, rfl⟩ : bb' = bb ∧ off' = off := by simpa using hA2.symm
            clear hA2
            have hp := tk_of HJ2.out
            have Wb := HTW.out (k + 1) (by omega)
            have HN2 : Hid (S + p.work = tot (fun k => (tk l0 k).work) (k + 1)) := Lib.hid (by simp only [tot]; rw [← HS.out, hp])
            have m2 : IntKind.i64.wrap (S + p.work) = S + p.work := IntWalk.i64_in _ ⟨by have := HN2.out; omega, by have := HN2.out; omega⟩
            have i6 : (k : Int) < (I : Int) + 1 := by omega
            have k4 : k ≤ 4 := by omega
            clear hp Wb
            go_wp2
            go_roundw
            case rel => exact ⟨k + 1, hlk, by go_num, ⟨_, rfl, HN2⟩, hT.alloc _, hbel.alloc hbel.size _⟩
            case measure => simp [intOf]; omega
          · obtain rfl : k = I + 1 := by omega
            have e1 : decide (S ≤ N) = true := decide_eq_true (by rw [HS.out]; exact HLO.out)
            have e2 : decide (N ≤ q.due) = true := decide_eq_true HDU.out
            obtain ⟨bb', off', p, hA2, hbl, c0_, c1_, c2_, HJ2⟩ := hT.get (k := I) hlt
            obtain ⟨rfl, rfl⟩ : bb' = bb ∧ off' = off := by simpa using hA2.symm
            obtain rfl : p = q := by have a := HJ.out; have b := HJ2.out; rw [a] at b; exact (Option.some.inj b).symm
            clear hA2
            have i7 : ¬ (I : Int) + 1 < (I : Int) + 1 := by omega
            by_cases z : I = 0
            · subst z
              have e3 : (N == p.work) = true := by
                have h0' := tk_of HJ.out
                rw [HFI.out rfl, h0']
                simp
              clear HFI HLO HDU HS
              simp only [Nat.zero_mul, Nat.add_zero] at c0_ c1_ c2_
              go_wp2
              go_ret
              exact ⟨rfl, hbel⟩
            · have e3 : decide ((0 : Int) < (I : Int)) = true := decide_eq_true (by omega)
              have z0 : (0 : Int) < (I : Int) := by omega
              have z1 : 0 < I := by omega
              clear HFI HLO HDU HS
              go_wp2
              go_ret
              exact ⟨rfl, hbel⟩
      · go_wp2
        go_ret
        exact ⟨rfl, hb⟩
    · go_wp2_with fail
      refine (resp_arg a0 l0 c0 n1 _ h0 hE hi).mono ?_
      rintro e w3 ⟨rfl, b3⟩
      replace hb := below_trans hb b3
      clear b3 hE hi
      go_wp2
      go_ret
      exact ⟨rfl, hb⟩
  · have e1 : (tasE l0 != 0) = true := by simp [hE]
    go_wp2_with fail
    refine (resp_bad a0 l0 c0 n1 _ h0 hE).mono ?_
    rintro e w3 ⟨rfl, b3⟩
    replace hb := below_trans hb b3
    clear b3 hE
    go_wp2
    go_ret
    exact ⟨rfl, hb⟩

end Go.Proofs.Ytccjegnflienhaa
