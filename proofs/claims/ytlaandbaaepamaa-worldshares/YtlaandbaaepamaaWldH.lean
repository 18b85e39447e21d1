
/-
  The walk of the law WorldShares over what packages world and share owe.
-/
import Derived.Test.YtlaandbaaepamaaWldD
import Derived.Test.YtlaandbaaepamaaWldF
import Derived.Test.YtlaandbaaepamaaShrC
import Derived.Test.YtlaandbaaepamaaConvB
namespace Go.Proofs.Ytlaandbaaepamaa
set_option linter.all false
open Go.RowKit Go.Shelf Go.Lib

variable {Rep : World → Value → (Nat → Prop) → WSt → Prop}
theorem sg_two {c : Int} {i : Nat} : ∀ n : Nat, sg (fun k => if k < i then c + 1 else c) n = (n : Int) * c + (min n i : Nat)
  | 0 => by simp [sg]
  | n + 1 => by
    rw [sg, sg_two n, show ((n + 1 : Nat) : Int) = (n : Int) + 1 by omega, Int.add_mul, Int.one_mul]
    split <;> omega
theorem gt_rep {N : Nat} {V : Int} {i : Nat} (h : i < N) : gt (List.replicate N V) i = V := gt_of_get (by rw [List.getElem?_replicate, if_pos h])
theorem last_rep {N V i : Nat} (hi : i < N) (hV : 1 ≤ V) : lastV (List.replicate N (V : Int)) i = (N : Int) * ((V : Int) - 1) + i := by
  unfold lastV posV
  rw [List.length_replicate, gt_rep hi, sg_eq (g := fun k => if k < i then (V : Int) - 1 + 1 else (V : Int) - 1) N (fun k hk => by
    unfold wentV
    rw [gt_rep hk]
    split <;> omega), sg_two]
  rw [show min N i = i by omega]
theorem rep_lags {N V : Nat} (hN : N ≤ 8) (hV : V ≤ 1000) : Lags (List.replicate N (V : Int)) := by
  refine ⟨by rw [List.length_replicate]; exact hN, fun i hi => ?_, fun i hi => ?_⟩ <;> rw [List.length_replicate] at hi <;> rw [gt_rep hi] <;> omega
/-- Who shares is done when a peer is. -/
theorem share_done {N V i k m : Nat} {r : Int} {s : WSt} {t : Wd} (ok : StOk s) (hu : s.unit = 1) (h0 : s.d.turn = 0) (hN : s.d.l.length = N) (hn : ∀ j, j < s.d.l.length → (pr s.d.l j).need = V) (b : Bys 1 m s.d t) (r1 : 1 ≤ r) (hm : (m : Int) = min ((N : Int) * V) ((k : Int) * r)) (hi : i < N) : (pr t.l i).done = true ↔ shV (List.replicate N (V : Int)) r i ≤ k := by
  have o := ok.ok
  rw [hu] at o
  have e := b.even_done (by omega) o h0 (N := V) hn (i := i) (by omega)
  rw [hN] at e
  rw [e]
  by_cases c : V = 0
  · subst c
    have : shV (List.replicate N ((0 : Nat) : Int)) r i = 0 := by rw [shV, gt_rep hi]; simp
    rw [this]; simp
  · have hs : shV (List.replicate N (V : Int)) r i = (((N : Int) * ((V : Int) - 1) + i + 1) - 1) / r + 1 := by
      rw [shV, gt_rep hi, if_neg (by omega), last_rep hi (by omega)]
      congr 2; omega
    have p0 : 0 ≤ (N : Int) * ((V : Int) - 1) := Int.mul_nonneg (by omega) (by omega)
    rw [hs, ← slot_least (s := (N : Int) * ((V : Int) - 1) + i + 1) (r := r) (d := k) (by omega) (by omega)]
    have e1 : (((V - 1) * N : Nat) : Int) = (N : Int) * ((V : Int) - 1) := by
      rw [Int.natCast_mul, Int.mul_comm]; congr 1; omega
    have e2 : (N : Int) * (V : Int) = (N : Int) * ((V : Int) - 1) + N := by rw [Int.mul_sub, Int.mul_one]; omega
    constructor
    · rintro (h | h)
      · exact absurd h c
      · omega
    · intro h; right; omega
set_option maxRecDepth 100000 in
set_option maxHeartbeats 3200000 in
theorem v_WorldShares (K : WldC Rep) (H : ShrC) (n1 n2 n3 : Int) (w : World) (_1 : (Lit.int .i64 n1).wf = true) (_2 : (Lit.int .i64 n2).wf = true) (_3 : (Lit.int .i64 n3).wf = true) :
    Calls Try.prog 7 #[.int .i64 n1, .int .i64 n2, .int .i64 n3] w fun e w' => e = .returned (.bool true) ∧ Below w.heap.size w w' := by
  clear _1 _2 _3
  obtain ⟨A, hA⟩ := Int.eq_ofNat_of_zero_le (wi_nonneg n1 8 (by omega))
  have hA8 : A < 8 := by have := wi_lt n1 8 (by omega); omega
  obtain ⟨R, hR⟩ := Int.eq_ofNat_of_zero_le (wi_nonneg n2 50 (by omega))
  have hR1 : R < 50 := by have := wi_lt n2 50 (by omega); omega
  obtain ⟨V, hV⟩ := Int.eq_ofNat_of_zero_le (wi_nonneg n3 201 (by omega))
  have hV1 : V < 201 := by have := wi_lt n3 201 (by omega); omega
  have HA := Lib.hid hA
  have HR := Lib.hid hR
  have HV := Lib.hid hV
  have hnew : NewOk ((A + 1 : Nat) : Int) (1 + (R : Int)) 1 := ⟨by omega, by omega, by omega, by omega, by omega, by omega⟩
  have HNW := Lib.hid hnew
  have hE : apE V (newW (A + 1) (1 + (R : Int)) 1) = 0 := by
    have : overB V (newW (A + 1) (1 + (R : Int)) 1).d.l = false := over_iff.2 (fun i hi => by simp [newW] at hi ⊢; rw [pr_rep hi]; simp; omega)
    rw [apE, if_neg (by omega), this]; rfl
  have HE := Lib.hid hE
  obtain ⟨s0, hs0⟩ : ∃ s, s = apW V (newW (A + 1) (1 + (R : Int)) 1) := ⟨_, rfl⟩
  have hs1 : s0 = moreW V (newW (A + 1) (1 + (R : Int)) 1) := by rw [hs0, apW, if_pos hE]
  have hln : s0.d.l.length = A + 1 := by rw [hs1]; simp [moreW, newW]
  have hnd : ∀ j, j < s0.d.l.length → (pr s0.d.l j).need = V := fun j hj => by
    rw [hln] at hj
    rw [hs1]
    simp only [moreW, newW]
    rw [pr_map (by simpa using hj), pr_rep hj]
    simp only [Per.more, Per.need]; omega
  have htn : s0.d.turn = 0 := by rw [hs1]; rfl
  have FR0 : Frm s0 (1 + (R : Int)) 1 (A + 1) := ⟨by rw [hs0]; exact (ap_unit _ _).2, by rw [hs0]; exact (ap_unit _ _).1, hln⟩
  have hsum : s0.d.sum = ((A + 1 : Nat) : Int) * V := by
    have : ∀ n, n ≤ A + 1 → needs s0.d.l n = (n : Int) * V := fun n => by
      induction n with
      | zero => intro _; simp [needs]
      | succ n ih => intro h; rw [needs, ih (by omega), hnd n (by omega), show ((n + 1 : Nat) : Int) = (n : Int) + 1 by omega, Int.add_mul, Int.one_mul]
    rw [Wd.sum, hln, this _ (Nat.le_refl _)]
  obtain ⟨P, hP⟩ : ∃ P, P = ((A + 1 : Nat) : Int) * V := ⟨_, rfl⟩
  have P0 : 0 ≤ P := by rw [hP]; exact Int.mul_nonneg (by omega) (by omega)
  have P1 : P ≤ 1608 := by rw [hP]; have := Int.mul_le_mul (show ((A + 1 : Nat) : Int) ≤ 8 by omega) (show (V : Int) ≤ 201 by omega) (by omega) (by omega); omega
  obtain ⟨Q, hQ⟩ : ∃ Q, Q = P / (1 + (R : Int)) := ⟨_, rfl⟩
  have Q0 : 0 ≤ Q := by rw [hQ]; exact Int.ediv_nonneg P0 (by omega)
  have Q1 : Q ≤ P := by rw [hQ]; exact Int.ediv_le_self (b := 1 + (R : Int)) P0
  have t1 : IntKind.i64.wrap ((1 + (A : Int)) * (V : Int)) = P := by rw [hP, show ((A + 1 : Nat) : Int) = 1 + (A : Int) by omega] at *; exact IntWalk.i64_in _ ⟨by omega, by omega⟩
  have t2 : Int.tdiv P (1 + (R : Int)) = Q := by rw [hQ, Int.tdiv_eq_ediv_of_nonneg P0]
  have t3 : IntKind.i64.wrap Q = Q := IntWalk.i64_in _ ⟨by omega, by omega⟩
  have t4 : IntKind.i64.wrap (Q + 1) = Q + 1 := IntWalk.i64_in _ ⟨by omega, by omega⟩
  have t5 : (1 + (R : Int) == 0) = false := by rw [beq_eq_false_iff_ne]; omega
  have HS0 := Lib.hid hs0
  have HND := Lib.hid hnd
  have HTN := Lib.hid htn
  have HSM : Hid (s0.d.sum = P) := Lib.hid (by rw [hsum, hP])
  have HPV := Lib.hid hP
  have HLg : Hid (shE (List.replicate (A + 1) (V : Int)) (1 + (R : Int)) = 0) := Lib.hid (sh_iff.2 ⟨rep_lags (by omega) (by omega), by omega, by omega⟩)
  have e5 : (((A : Int) + 1) != (1 + (A : Int))) = false := by rw [bne_eq_false_iff_eq]; omega
  have HLR : Hid ((List.replicate (A + 1) (V : Int)).length = A + 1) := Lib.hid (List.length_replicate ..)
  clear hA hR hV hnew hE hs0 hs1 hln hnd htn hsum hP hQ
  go_enter Try.func7, Try.ntmps7
  go_wp2_with fail
  refine (within_n n1 8 A _ (by omega) (by omega) HA).mono ?_
  rintro e w' ⟨rfl, rfl⟩
  go_wp2_with fail
  refine (within_n n2 50 R _ (by omega) (by omega) HR).mono ?_
  rintro e w' ⟨rfl, rfl⟩
  go_wp2_with fail
  refine (within_n n3 201 V _ (by omega) (by omega) HV).mono ?_
  rintro e w' ⟨rfl, rfl⟩
  go_wp2_with fail
  refine (K.new_at (1 + (A : Int)) (1 + (R : Int)) 1 (A + 1) _ (by omega) HNW.out).mono ?_
  rintro e w1 ⟨a, S, rfl, hR1', hS, b1⟩
  have hlt1 := K.lt _ _ _ _ hR1'
  have hrep : ∀ (W : World) (B : Option Addr) (c : Nat), Ints W B [(V : Int)] → Calls Try.prog 26 #[.slice B 1 c, .int .i64 (1 + (A : Int))] W (AnsK (A + 1) (List.replicate (A + 1) (V : Int)) W) := fun W B c h => by
    have := repeat_one B V (A + 1) c W h (by omega) (by omega)
    rwa [show ((A + 1 : Nat) : Int) = 1 + (A : Int) by omega] at this
  go_wp2_with fail
  refine (hrep _ _ _ (by exact Ints.lit _ [(V : Int)] _ _ rfl (by simp))).mono ?_
  rintro e w2 ⟨g, rfl, _, BK, b2⟩
  have iR : Ints w2 (some ⟨g, 0, none⟩) (List.replicate (A + 1) (V : Int)) := Ints.of_blk BK (by rw [HLR.out]; omega)
  have b12 : Below w1.heap.size w1 w2 := below_trans (alloc_below _ _) b2
  have hR2' := K.keep _ w2 _ _ _ hR1' (fun b hb => b12.block b (hlt1 b hb))
  clear BK b2
  have hdone : Calls Try.prog 25 #[.slice (some ⟨g, 0, none⟩) (A + 1) (A + 1), .int .i64 (1 + (R : Int))] w2 fun e w' => ∃ X d, e = .returned (.tuple #[.slice X (A + 1) d, .int .i64 0]) ∧ Ints w' X (shL (List.replicate (A + 1) (V : Int)) (1 + (R : Int))) ∧ (∀ b off, X = some ⟨b, off, none⟩ → w2.heap.size ≤ b ∧ b < w'.heap.size) ∧ Below w2.heap.size w2 w' := by
    have hd := H.done (some ⟨g, 0, none⟩) (List.replicate (A + 1) (V : Int)) (A + 1) (1 + (R : Int)) w2 iR
    rw [HLR.out] at hd
    refine hd.mono ?_
    rintro e w' ⟨X, d, rfl, o, b⟩
    rw [shY_yes HLg.out] at o ⊢
    have e1 : (shL (List.replicate (A + 1) (V : Int)) (1 + (R : Int))).length = A + 1 := by rw [length_shL, HLR.out]
    rw [HLg.out]
    refine ⟨X, d, by rw [e1], Ints.of_own o, fun bb off e => own_bltW o bb off e, b⟩
  go_wp2_with fail
  refine hdone.mono ?_
  rintro e w3 ⟨X, cX, rfl, hX, hXb, b3⟩
  have hR3' := K.keep _ w3 _ _ _ hR2' (fun b hb => b3.block b (Nat.lt_of_lt_of_le (hlt1 b hb) b12.size))
  obtain ⟨F, hF⟩ : ∃ F : Nat → Prop, F = fun b => ∃ off, X = some ⟨b, off, none⟩ := ⟨_, rfl⟩
  have O3 : OwnF Rep w w3 (.pointer (some a)) (newW (A + 1) (1 + (R : Int)) 1) F w3 := ⟨⟨S, hR3', hS, fun b hb k => by
      rw [hF] at k
      obtain ⟨off, e⟩ := k
      have h1 := (hXb b off e).1
      have h2 := hlt1 b hb
      have h3 := b12.size
      omega⟩, below_trans (below_trans b1 b12) b3, fun b k => by
      rw [hF] at k
      obtain ⟨off, e⟩ := k
      exact (hXb b off e).2, fun b k => rfl⟩
  have HXI : Hid (∀ W : World, (∀ b, F b → W.heap[b]? = w3.heap[b]?) → Ints W X (shL (List.replicate (A + 1) (V : Int)) (1 + (R : Int)))) := Lib.hid (fun W h => hX.heapW (fun b off e => h b (by rw [hF]; exact ⟨off, e⟩)))
  clear hR1' hR2' hR3' hS b1 b12 b3 hXb hX hdone hrep iR hlt1 hF
  go_wp2_with fail
  refine (K.appendF V 0 w _ w3 _ _ F O3 HE).mono ?_
  rintro e w4 ⟨rfl, O4⟩
  rw [← HS0.out] at O4
  have HOK0 := Lib.hid (O4.ok K)
  clear O3
  go_wp2
  go_loopw [11] (fun i wr => ∃ (k m : Nat) (s : WSt), (k : Int) ≤ Q + 2 ∧ i = .int .i64 k ∧ OwnF Rep w wr (.pointer (some a)) s F w3 ∧ Frm s (1 + (R : Int)) 1 (A + 1) ∧ Hid (Bys 1 m s0.d s.d ∧ (m : Int) = min P ((k : Int) * (1 + (R : Int))))) (fun i _ => (Q + 2 - intOf i).toNat)
  case atStart => exact ⟨0, 0, s0, by omega, rfl, O4, FR0, Lib.hid ⟨.none _, by simp; omega⟩⟩
  case round =>
    clear O4 HS0 HE HNW HLg e5
    obtain ⟨k, m, s, hk, rfl, O, FR, HB⟩ := hrel
    by_cases hlt : (k : Int) ≤ Q + 1
    · have HL := Lib.hid FR.len
      have HD : Hid (∀ i, i < A + 1 → ((pr s.d.l i).done = true ↔ shV (List.replicate (A + 1) (V : Int)) (1 + (R : Int)) i ≤ k)) := Lib.hid (fun i hi => share_done HOK0.out FR0.unit HTN.out FR0.len HND.out HB.out.1 (by omega) (by rw [HB.out.2, HPV.out]) hi)
      go_wp2_with fail
      refine (K.peersF (A + 1) w _ w3 _ s F O HL.out).mono ?_
      rintro e w5 ⟨C, cC, rfl, hP, O5⟩
      clear O
      have iX := HXI.out w5 O5.same
      go_wp2
      go_loopw [72] (fun i wi => ∃ j : Nat, j ≤ A + 1 ∧ i = .int .i64 j ∧ Below w5.heap.size w5 wi) (fun i _ => A + 1 - (intOf i).toNat)
      case atStart => exact ⟨0, Nat.zero_le _, rfl, Below.refl _ _⟩
      case round =>
        obtain ⟨j, hj, rfl, hbel⟩ := hrel
        by_cases hlt2 : j < A + 1
        · obtain ⟨bb', off', rfl, hbl', g0, g1, g2⟩ := (hP.below hbel).get (k := j) (by rw [HL.out]; exact hlt2)
          obtain ⟨b3, o3, u, e3, hc3, HU⟩ := (iX.below hbel).at_ (k := j) (by rw [length_shL, HLR.out]; exact hlt2)
          subst e3
          have hu := gt_of_get HU.out
          rw [gt_shL (by rw [HLR.out]; exact hlt2)] at hu
          have hd := HD.out j hlt2
          rw [hu] at hd
          obtain ⟨x, hx⟩ : ∃ x, x = (pr s.d.l j).lag := ⟨_, rfl⟩
          obtain ⟨y, hy⟩ : ∃ y, y = (pr s.d.l j).part := ⟨_, rfl⟩
          obtain ⟨z, hz⟩ : ∃ z, z = (pr s.d.l j).done := ⟨_, rfl⟩
          rw [← hx] at g0
          rw [← hy] at g1
          rw [← hz] at g2 hd
          have i1 : (j : Int) < (A : Int) + 1 := by omega
          have hb2 := hbel.alloc hbel.size (.cells #[.int .i64 x, .int .i64 y, .bool z] 34)
          have hc3' : (wr.alloc (.cells #[.int .i64 x, .int .i64 y, .bool z] 34)).cell? ⟨b3, o3 + j, none⟩ = some (.int .i64 u) := by
            rw [((Below.refl _ wr).alloc (Nat.le_refl _) _).cell (cell_lt hc3)]; exact hc3
          clear hx hy hz hu
          by_cases c : u ≤ (k : Int)
          · obtain rfl : z = true := hd.2 c
            have d1 : decide (u ≤ (k : Int)) = true := decide_eq_true c
            clear hd
            go_wp2
            go_quiet (fail)
            go_wp2
            go_roundw
            case rel => exact ⟨j + 1, by omega, by go_num, below_trans hb2 (below_of_drewN rfl)⟩
            case measure => simp [intOf]; omega
          · obtain rfl : z = false := by
              cases z with
              | false => rfl
              | true => exact absurd (hd.1 rfl) c
            have d1 : decide (u ≤ (k : Int)) = false := decide_eq_false c
            clear hd
            go_wp2
            go_quiet (fail)
            go_wp2
            go_roundw
            case rel => exact ⟨j + 1, by omega, by go_num, below_trans hb2 (below_of_drewN rfl)⟩
            case measure => simp [intOf]; omega
        · obtain rfl : j = A + 1 := by omega
          have O6 := O5.keep K hbel
          obtain ⟨t', m', ht⟩ := ex_tick (O6.ok K)
          have hti := ht.is (O6.ok K).u0 (O6.ok K).ok
          have FR6 := FR.same (tick_same (O6.ok K) ht)
          have HB6 : Hid (Bys 1 (m + m') s0.d (tickW t' s).d ∧ ((m + m' : Nat) : Int) = min P (((k + 1 : Nat) : Int) * (1 + (R : Int)))) := Lib.hid (by
            have h1 := hti.1
            have ok0 := HOK0.out.ok
            rw [FR0.unit] at ok0
            have hk2 := (HB.out.1.keep (by omega) ok0).2.2
            rw [HSM.out] at hk2
            rw [FR.rate, hk2] at h1
            have hb := ht.bys
            rw [FR.unit] at hb
            have h3 := HB.out.2
            rw [show ((k + 1 : Nat) : Int) = (k : Int) + 1 by omega, Int.add_mul, Int.one_mul]
            exact ⟨HB.out.1.trans hb, by omega⟩)
          have HT := Lib.hid ht
          clear O5 hP hbel hti ht iX HD HB
          go_wp2_with fail
          refine (K.tickF w _ w3 _ s F t' m' O6 HT.out).mono ?_
          rintro e w7 ⟨rfl, O7⟩
          clear O6
          go_wp2
          go_roundw
          case rel => exact ⟨k + 1, m + m', tickW t' s, by omega, by go_num, O7, FR6, HB6⟩
          case measure => simp [intOf]; omega
    · have hb := O.b
      clear O
      go_wp2
      go_ret
      exact ⟨rfl, hb⟩

end Go.Proofs.Ytlaandbaaepamaa
