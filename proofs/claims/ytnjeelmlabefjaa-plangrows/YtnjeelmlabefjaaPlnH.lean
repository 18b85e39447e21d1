
/-
  The walk of the law PlanGrows over the contracts of package plan.
-/
import Derived.Test.YtnjeelmlabefjaaPlnG
namespace Go.Proofs.Ytnjeelmlabefjaa
set_option linter.all false
open Go.RowKit Go.Shelf Go.Lib



/-- What the law asks of a second rate. -/
def GrwOk (c e1 x e2 : Int) : Prop := ¬ (e2 = 0 ∧ (e1 ≠ 0 ∨ x < c)) ∧ ¬ (e2 ≠ 0 ∧ e2 ≠ 5)
theorem rt_grow {l m : List Int} {g k d e c E x F : Int} (h : RtIs l g d c E) (q : RtIs m k e x F) (ho : RtOk l g d) (qo : RtOk m k e) (imp : ∀ r : Int, RateOk m k e.toNat r → RateOk l g d.toNat r) : GrwOk c E x F := by
  rcases q with ⟨_, q, rfl⟩ | ⟨_, q, rfl, rfl⟩ | ⟨n, _⟩
  · have := imp x q.hit
    rcases h with ⟨_, h, rfl⟩ | ⟨_, h, rfl, rfl⟩ | ⟨n, _⟩
    · have := (h.iff q.lo).1 this
      exact ⟨by omega, by omega⟩
    · exact absurd this (h x q.lo q.hi)
    · exact absurd (rt_of ho) n
  · exact ⟨by omega, by omega⟩
  · exact absurd (rt_of qo) n

theorem grw_vals {c e1 x e2 : Int} (h : GrwOk c e1 x e2) : e2 = 5 ∨ (e2 = 0 ∧ e1 = 0 ∧ c ≤ x) := by
  obtain ⟨a, b⟩ := h
  by_cases q : e2 = 0
  · by_cases r : e1 = 0
    · exact .inr ⟨q, r, by
        by_cases k : c ≤ x
        · exact k
        · exact absurd ⟨q, .inr (by omega)⟩ a⟩
    · exact absurd ⟨q, .inl r⟩ a
  · by_cases r : e2 = 5
    · exact .inl r
    · exact absurd ⟨q, r⟩ b

set_option maxRecDepth 100000 in
set_option maxHeartbeats 3200000 in
theorem v_PlanGrows (P : PlnC) (a0 : Option Addr) (c0 : Nat) (l0 : List Int) (a1 : Option Addr) (c1 : Nat) (l1 : List Int) (n1 n2 n3 n4 : Int) (w : World)
    (h0 : Ints w a0 l0) (_k0 : l0.length ≤ c0) (h1 : Ints w a1 l1) (_k1 : l1.length ≤ c1) (_1 : (Lit.int .i64 n1).wf = true) (_2 : (Lit.int .i64 n2).wf = true) (_3 : (Lit.int .i64 n3).wf = true) (_4 : (Lit.int .i64 n4).wf = true) :
    Calls Try.prog 13 #[.slice a0 l0.length c0, .slice a1 l1.length c1, .int .i64 n1, .int .i64 n2, .int .i64 n3, .int .i64 n4] w fun e w' => e = .returned (.bool true) ∧ Below w.heap.size w w' := by
  have hb : Below w.heap.size w w := Below.refl _ _
  clear _1 _2 _3 _4 _k0 _k1
  have L1 : Hid (RtIs [0, 5] 0 0 0 0) := Lib.hid (rt_lit 0 0 (by decide) (by decide) (by decide) (.inl rfl))
  have L2 : Hid (RtIs [0, 5] 2 1 7 0) := Lib.hid (rt_lit 1 7 (by decide) (by decide) (by decide) (by decide))
  cases ho : okB l0 l1
  · have HO := Lib.hid ho
    clear ho
    go_enter Try.func13, Try.ntmps13
    go_wp2_with fail
    refine (P.rate_at _ [0, 5] _ _ 0 0 0 0 _ (by exact Ints.lit _ [0, 5] _ _ rfl (by decide)) L1 rfl).mono ?_
    rintro e w1 ⟨rfl, bw1⟩
    replace bw1 := below_of1 bw1
    replace h0 := h0.below bw1
    replace h1 := h1.below bw1
    replace hb := below_trans hb bw1
    clear bw1
    go_wp2_with fail
    refine (P.rate_at _ [0, 5] _ _ 2 1 7 0 _ (by exact Ints.lit _ [0, 5] _ _ rfl (by decide)) L2 rfl).mono ?_
    rintro e w2 ⟨rfl, bw2⟩
    replace bw2 := below_of1 bw2
    replace h0 := h0.below bw2
    replace h1 := h1.below bw2
    replace hb := below_trans hb bw2
    clear bw2
    go_wp2_with fail
    refine (both_any a0 a1 l0 l1 c0 c1 _ h0 h1).mono ?_
    rintro e w' ⟨rfl, rfl⟩
    rw [HO.out]
    go_wp2
    go_ret
    exact ⟨rfl, hb⟩
  have HO := Lib.hid ho
  cases hl : leK l0 l1
  · have HL := Lib.hid hl
    clear hl ho
    go_enter Try.func13, Try.ntmps13
    go_wp2_with fail
    refine (P.rate_at _ [0, 5] _ _ 0 0 0 0 _ (by exact Ints.lit _ [0, 5] _ _ rfl (by decide)) L1 rfl).mono ?_
    rintro e w1 ⟨rfl, bw1⟩
    replace bw1 := below_of1 bw1
    replace h0 := h0.below bw1
    replace h1 := h1.below bw1
    replace hb := below_trans hb bw1
    clear bw1
    go_wp2_with fail
    refine (P.rate_at _ [0, 5] _ _ 2 1 7 0 _ (by exact Ints.lit _ [0, 5] _ _ rfl (by decide)) L2 rfl).mono ?_
    rintro e w2 ⟨rfl, bw2⟩
    replace bw2 := below_of1 bw2
    replace h0 := h0.below bw2
    replace h1 := h1.below bw2
    replace hb := below_trans hb bw2
    clear bw2
    go_wp2_with fail
    refine (both_any a0 a1 l0 l1 c0 c1 _ h0 h1).mono ?_
    rintro e w' ⟨rfl, rfl⟩
    rw [HO.out]
    go_wp2_with fail
    refine (kle_any a0 a1 l0 l1 c0 c1 _ h0 h1).mono ?_
    rintro e w3 ⟨rfl, nw3, hww3⟩
    have bw3 := below_of_drewN hww3
    clear hww3
    replace h0 := h0.below bw3
    replace h1 := h1.below bw3
    replace hb := below_trans hb bw3
    clear bw3
    rw [HL.out]
    go_wp2
    go_ret
    exact ⟨rfl, hb⟩
  have HL := Lib.hid hl
  obtain ⟨v0, v1', e01⟩ := okB_iff.1 ho
  replace v0 := cv_of v0
  replace v1' := cv_of v1'
  have hle : ∀ t, t < l0.length → gt l0 t ≤ gt l1 t := (leK_iff v0 v1' e01).1 hl
  have p0 := v0.pos
  have p1 := v0.le
  obtain ⟨A, hA⟩ : ∃ y, y = wi n1 1000 := ⟨_, rfl⟩
  have Alo : 0 ≤ A := by rw [hA]; exact wi_nonneg _ _ (by omega)
  have Ahi : A < 1000 := by rw [hA]; exact wi_lt n1 1000 (by omega)
  have HA := Lib.hid hA
  clear hA
  obtain ⟨B, hB⟩ : ∃ y, y = wi n2 1000 := ⟨_, rfl⟩
  have Blo : 0 ≤ B := by rw [hB]; exact wi_nonneg _ _ (by omega)
  have Bhi : B < 1000 := by rw [hB]; exact wi_lt n2 1000 (by omega)
  have HB := Lib.hid hB
  clear hB
  obtain ⟨D, hD⟩ : ∃ y, y = wi n3 (l0.length : Int) := ⟨_, rfl⟩
  have Dlo : 0 ≤ D := by rw [hD]; exact wi_nonneg _ _ (by omega)
  have Dhi : D < (l0.length : Int) := by rw [hD]; exact wi_lt n3 (l0.length : Int) (by omega)
  have HD := Lib.hid hD
  clear hD
  obtain ⟨S, hS⟩ : ∃ y, y = wi n4 61 := ⟨_, rfl⟩
  have Slo : 0 ≤ S := by rw [hS]; exact wi_nonneg _ _ (by omega)
  have Shi : S < 61 := by rw [hS]; exact wi_lt n4 61 (by omega)
  have HS := Lib.hid hS
  clear hS
  obtain ⟨v1, E1, r1⟩ := ex_rt l0 A D
  obtain ⟨v2, E2, r2⟩ := ex_rt l0 (A + B) D
  obtain ⟨v3, E3, r3⟩ := ex_rt l0 A (max 0 (D - S))
  obtain ⟨v4, E4, r4⟩ := ex_rt l1 A D
  have o1 : RtOk l0 A D := ⟨v0, by omega, by omega, by omega, by omega⟩
  have G2 : Hid (GrwOk v1 E1 v2 E2) := Lib.hid (rt_grow r1 r2 o1 ⟨v0, by omega, by omega, by omega, by omega⟩ (fun r h => h.less (by omega) (Nat.le_refl _) (fun _ _ => Int.le_refl _)))
  have G3 : Hid (GrwOk v1 E1 v3 E3) := Lib.hid (rt_grow r1 r3 o1 ⟨v0, by omega, by omega, by omega, by omega⟩ (fun r h => h.less (Int.le_refl _) (by omega) (fun _ _ => Int.le_refl _)))
  have G4 : Hid (GrwOk v1 E1 v4 E4) := Lib.hid (rt_grow r1 r4 o1 ⟨v1', by omega, by omega, by omega, by omega⟩ (fun r h => h.less (Int.le_refl _) (Nat.le_refl _) (fun t ht => hle t (by omega))))
  have HV1 := Lib.hid r1
  have HV2 := Lib.hid r2
  have HV3 : Hid (∀ m : Int, m = max 0 (D - S) → RtIs l0 A m v3 E3) := Lib.hid (fun m hm => by rw [hm]; exact r3)
  have HV4 := Lib.hid r4
  clear r1 r2 r3 r4 o1 hle v0 v1' e01 ho hl
  rcases Int.lt_trichotomy 0 (D - S) with q | q | q
  · go_enter Try.func13, Try.ntmps13
    go_wp2_with fail
    refine (P.rate_at _ [0, 5] _ _ 0 0 0 0 _ (by exact Ints.lit _ [0, 5] _ _ rfl (by decide)) L1 rfl).mono ?_
    rintro e w1 ⟨rfl, bw1⟩
    replace bw1 := below_of1 bw1
    replace h0 := h0.below bw1
    replace h1 := h1.below bw1
    replace hb := below_trans hb bw1
    clear bw1
    go_wp2_with fail
    refine (P.rate_at _ [0, 5] _ _ 2 1 7 0 _ (by exact Ints.lit _ [0, 5] _ _ rfl (by decide)) L2 rfl).mono ?_
    rintro e w2 ⟨rfl, bw2⟩
    replace bw2 := below_of1 bw2
    replace h0 := h0.below bw2
    replace h1 := h1.below bw2
    replace hb := below_trans hb bw2
    clear bw2
    go_wp2_with fail
    refine (both_any a0 a1 l0 l1 c0 c1 _ h0 h1).mono ?_
    rintro e w' ⟨rfl, rfl⟩
    rw [HO.out]
    go_wp2_with fail
    refine (kle_any a0 a1 l0 l1 c0 c1 _ h0 h1).mono ?_
    rintro e w3 ⟨rfl, nw3, hww3⟩
    have bw3 := below_of_drewN hww3
    clear hww3
    replace h0 := h0.below bw3
    replace h1 := h1.below bw3
    replace hb := below_trans hb bw3
    clear bw3
    rw [HL.out]
    go_wp2_with fail
    refine (within_any n1 1000 _ (by omega) (by omega)).mono ?_
    rintro e w' ⟨rfl, rfl⟩
    rw [← HA.out]
    go_wp2_with fail
    refine (within_any n2 1000 _ (by omega) (by omega)).mono ?_
    rintro e w' ⟨rfl, rfl⟩
    rw [← HB.out]
    go_wp2_with fail
    refine (within_any n3 (l0.length) _ (by omega) (by omega)).mono ?_
    rintro e w' ⟨rfl, rfl⟩
    rw [← HD.out]
    go_wp2_with fail
    refine (within_any n4 61 _ (by omega) (by omega)).mono ?_
    rintro e w' ⟨rfl, rfl⟩
    rw [← HS.out]
    go_wp2_with fail
    refine (P.rate_at a0 l0 _ c0 A D v1 E1 _ h0 HV1 rfl).mono ?_
    rintro e w4 ⟨rfl, bw4⟩
    replace h0 := h0.below bw4
    replace h1 := h1.below bw4
    replace hb := below_trans hb bw4
    clear bw4
    go_wp2_with fail
    refine (P.rate_at a0 l0 _ c0 (A + B) D v2 E2 _ h0 HV2 rfl).mono ?_
    rintro e w5 ⟨rfl, bw5⟩
    replace h0 := h0.below bw5
    replace h1 := h1.below bw5
    replace hb := below_trans hb bw5
    clear bw5
    go_wp2_with fail
    refine (P.rate_at a0 l0 _ c0 A _ v3 E3 _ h0 (Lib.hid (HV3.out _ (by omega))) rfl).mono ?_
    rintro e w6 ⟨rfl, bw6⟩
    replace h0 := h0.below bw6
    replace h1 := h1.below bw6
    replace hb := below_trans hb bw6
    clear bw6
    go_wp2_with fail
    refine (P.rate_at a1 l1 _ c1 A D v4 E4 _ h1 HV4 rfl).mono ?_
    rintro e w7 ⟨rfl, bw7⟩
    replace hb := below_trans hb bw7
    clear bw7
    obtain ⟨g, hg⟩ : ∃ g, g = w7.heap.size := ⟨_, rfl⟩
    obtain ⟨W, hW⟩ : ∃ W, W = w7.alloc (.cells #[.int .i64 v2, .int .i64 E2, .int .i64 v3, .int .i64 E3, .int .i64 v4, .int .i64 E4] 44) := ⟨_, rfl⟩
    have BW : Blk W g 44 #[.int .i64 v2, .int .i64 E2, .int .i64 v3, .int .i64 E3, .int .i64 v4, .int .i64 E4] := by rw [hW, hg]; exact Blk.new _ _ _
    replace hb : Below w.heap.size w W := by rw [hW]; exact below_trans hb ((Below.refl _ _).alloc (Nat.le_refl _) _)
    have HW := Lib.hid hW
    have HGG := Lib.hid hg
    clear hW hg h0 h1
    go_wp2
    rw [← HW.out, ← HGG.out]
    go_loopw [109] (fun i wr => ∃ k : Nat, k ≤ 3 ∧ i = .int .i64 k ∧ Blk wr g 44 #[.int .i64 v2, .int .i64 E2, .int .i64 v3, .int .i64 E3, .int .i64 v4, .int .i64 E4] ∧ Below w.heap.size w wr) (fun i _ => 3 - (intOf i).toNat)
    case atStart => exact ⟨0, Nat.zero_le _, rfl, BW, hb⟩
    case round =>
      clear BW hb
      obtain ⟨k, hk, rfl, BW, hb⟩ := hrel
      have x0 : wr.cell? ⟨g, 0, none⟩ = some (.int .i64 v2) := by simpa using BW.cell 0
      have x1 : wr.cell? ⟨g, 1, none⟩ = some (.int .i64 E2) := by simpa using BW.cell 1
      have x2 : wr.cell? ⟨g, 2, none⟩ = some (.int .i64 v3) := by simpa using BW.cell 2
      have x3 : wr.cell? ⟨g, 3, none⟩ = some (.int .i64 E3) := by simpa using BW.cell 3
      have x4 : wr.cell? ⟨g, 4, none⟩ = some (.int .i64 v4) := by simpa using BW.cell 4
      have x5 : wr.cell? ⟨g, 5, none⟩ = some (.int .i64 E4) := by simpa using BW.cell 5
      have glt := BW.lt
      rcases (show k = 0 ∨ k = 1 ∨ k = 2 ∨ k = 3 by omega) with rfl | rfl | rfl | rfl
      · have y0 : (wr.alloc (.cells #[.int .i64 v2, .int .i64 E2] 44)).cell? ⟨wr.heap.size, 0, none⟩ = some (.int .i64 v2) := by simpa using (Blk.new wr 44 #[.int .i64 v2, .int .i64 E2]).cell 0
        have y1 : (wr.alloc (.cells #[.int .i64 v2, .int .i64 E2] 44)).cell? ⟨wr.heap.size, 1, none⟩ = some (.int .i64 E2) := by simpa using (Blk.new wr 44 #[.int .i64 v2, .int .i64 E2]).cell 1
        have bu : Below wr.heap.size wr (wr.alloc (.cells #[.int .i64 v2, .int .i64 E2] 44)) := (Below.refl _ _).alloc (Nat.le_refl _) _
        have BWU := Lib.hid (BW.below bu)
        have hbu := Lib.hid (below_trans hb bu)
        clear BW hb bu
        rcases grw_vals G2.out with e | ⟨e, t, q'⟩
        · have e1 : (E2 == 0) = false := by rw [e]; rfl
          have e2 : (E2 != 5) = false := by rw [e]; rfl
          have e3 : (E2 != 0) = true := by rw [e]; rfl
          clear e
          go_wp2
          go_roundw
          case rel => exact ⟨1, by omega, rfl, BWU.out, hbu.out⟩
          case measure => simp [intOf]
        · have e1 : (E2 == 0) = true := by rw [e]; rfl
          have e2 : (E2 != 0) = false := by rw [e]; rfl
          have t1 : (E1 != 0) = false := by rw [t]; rfl
          clear e t
          go_wp2
          go_roundw
          case rel => exact ⟨1, by omega, rfl, BWU.out, hbu.out⟩
          case measure => simp [intOf]
      · have y0 : (wr.alloc (.cells #[.int .i64 v3, .int .i64 E3] 44)).cell? ⟨wr.heap.size, 0, none⟩ = some (.int .i64 v3) := by simpa using (Blk.new wr 44 #[.int .i64 v3, .int .i64 E3]).cell 0
        have y1 : (wr.alloc (.cells #[.int .i64 v3, .int .i64 E3] 44)).cell? ⟨wr.heap.size, 1, none⟩ = some (.int .i64 E3) := by simpa using (Blk.new wr 44 #[.int .i64 v3, .int .i64 E3]).cell 1
        have bu : Below wr.heap.size wr (wr.alloc (.cells #[.int .i64 v3, .int .i64 E3] 44)) := (Below.refl _ _).alloc (Nat.le_refl _) _
        have BWU := Lib.hid (BW.below bu)
        have hbu := Lib.hid (below_trans hb bu)
        clear BW hb bu
        rcases grw_vals G3.out with e | ⟨e, t, q'⟩
        · have e1 : (E3 == 0) = false := by rw [e]; rfl
          have e2 : (E3 != 5) = false := by rw [e]; rfl
          have e3 : (E3 != 0) = true := by rw [e]; rfl
          clear e
          go_wp2
          go_roundw
          case rel => exact ⟨2, by omega, rfl, BWU.out, hbu.out⟩
          case measure => simp [intOf]
        · have e1 : (E3 == 0) = true := by rw [e]; rfl
          have e2 : (E3 != 0) = false := by rw [e]; rfl
          have t1 : (E1 != 0) = false := by rw [t]; rfl
          clear e t
          go_wp2
          go_roundw
          case rel => exact ⟨2, by omega, rfl, BWU.out, hbu.out⟩
          case measure => simp [intOf]
      · have y0 : (wr.alloc (.cells #[.int .i64 v4, .int .i64 E4] 44)).cell? ⟨wr.heap.size, 0, none⟩ = some (.int .i64 v4) := by simpa using (Blk.new wr 44 #[.int .i64 v4, .int .i64 E4]).cell 0
        have y1 : (wr.alloc (.cells #[.int .i64 v4, .int .i64 E4] 44)).cell? ⟨wr.heap.size, 1, none⟩ = some (.int .i64 E4) := by simpa using (Blk.new wr 44 #[.int .i64 v4, .int .i64 E4]).cell 1
        have bu : Below wr.heap.size wr (wr.alloc (.cells #[.int .i64 v4, .int .i64 E4] 44)) := (Below.refl _ _).alloc (Nat.le_refl _) _
        have BWU := Lib.hid (BW.below bu)
        have hbu := Lib.hid (below_trans hb bu)
        clear BW hb bu
        rcases grw_vals G4.out with e | ⟨e, t, q'⟩
        · have e1 : (E4 == 0) = false := by rw [e]; rfl
          have e2 : (E4 != 5) = false := by rw [e]; rfl
          have e3 : (E4 != 0) = true := by rw [e]; rfl
          clear e
          go_wp2
          go_roundw
          case rel => exact ⟨3, by omega, rfl, BWU.out, hbu.out⟩
          case measure => simp [intOf]
        · have e1 : (E4 == 0) = true := by rw [e]; rfl
          have e2 : (E4 != 0) = false := by rw [e]; rfl
          have t1 : (E1 != 0) = false := by rw [t]; rfl
          clear e t
          go_wp2
          go_roundw
          case rel => exact ⟨3, by omega, rfl, BWU.out, hbu.out⟩
          case measure => simp [intOf]
      · go_wp2
        go_ret
        exact ⟨rfl, hb⟩
  · obtain rfl : D = S := by omega
    clear q
    go_enter Try.func13, Try.ntmps13
    go_wp2_with fail
    refine (P.rate_at _ [0, 5] _ _ 0 0 0 0 _ (by exact Ints.lit _ [0, 5] _ _ rfl (by decide)) L1 rfl).mono ?_
    rintro e w1 ⟨rfl, bw1⟩
    replace bw1 := below_of1 bw1
    replace h0 := h0.below bw1
    replace h1 := h1.below bw1
    replace hb := below_trans hb bw1
    clear bw1
    go_wp2_with fail
    refine (P.rate_at _ [0, 5] _ _ 2 1 7 0 _ (by exact Ints.lit _ [0, 5] _ _ rfl (by decide)) L2 rfl).mono ?_
    rintro e w2 ⟨rfl, bw2⟩
    replace bw2 := below_of1 bw2
    replace h0 := h0.below bw2
    replace h1 := h1.below bw2
    replace hb := below_trans hb bw2
    clear bw2
    go_wp2_with fail
    refine (both_any a0 a1 l0 l1 c0 c1 _ h0 h1).mono ?_
    rintro e w' ⟨rfl, rfl⟩
    rw [HO.out]
    go_wp2_with fail
    refine (kle_any a0 a1 l0 l1 c0 c1 _ h0 h1).mono ?_
    rintro e w3 ⟨rfl, nw3, hww3⟩
    have bw3 := below_of_drewN hww3
    clear hww3
    replace h0 := h0.below bw3
    replace h1 := h1.below bw3
    replace hb := below_trans hb bw3
    clear bw3
    rw [HL.out]
    go_wp2_with fail
    refine (within_any n1 1000 _ (by omega) (by omega)).mono ?_
    rintro e w' ⟨rfl, rfl⟩
    rw [← HA.out]
    go_wp2_with fail
    refine (within_any n2 1000 _ (by omega) (by omega)).mono ?_
    rintro e w' ⟨rfl, rfl⟩
    rw [← HB.out]
    go_wp2_with fail
    refine (within_any n3 (l0.length) _ (by omega) (by omega)).mono ?_
    rintro e w' ⟨rfl, rfl⟩
    rw [← HD.out]
    go_wp2_with fail
    refine (within_any n4 61 _ (by omega) (by omega)).mono ?_
    rintro e w' ⟨rfl, rfl⟩
    rw [← HS.out]
    go_wp2_with fail
    refine (P.rate_at a0 l0 _ c0 A D v1 E1 _ h0 HV1 rfl).mono ?_
    rintro e w4 ⟨rfl, bw4⟩
    replace h0 := h0.below bw4
    replace h1 := h1.below bw4
    replace hb := below_trans hb bw4
    clear bw4
    go_wp2_with fail
    refine (P.rate_at a0 l0 _ c0 (A + B) D v2 E2 _ h0 HV2 rfl).mono ?_
    rintro e w5 ⟨rfl, bw5⟩
    replace h0 := h0.below bw5
    replace h1 := h1.below bw5
    replace hb := below_trans hb bw5
    clear bw5
    go_wp2_with fail
    refine (P.rate_at a0 l0 _ c0 A _ v3 E3 _ h0 (Lib.hid (HV3.out _ (by omega))) rfl).mono ?_
    rintro e w6 ⟨rfl, bw6⟩
    replace h0 := h0.below bw6
    replace h1 := h1.below bw6
    replace hb := below_trans hb bw6
    clear bw6
    go_wp2_with fail
    refine (P.rate_at a1 l1 _ c1 A D v4 E4 _ h1 HV4 rfl).mono ?_
    rintro e w7 ⟨rfl, bw7⟩
    replace hb := below_trans hb bw7
    clear bw7
    obtain ⟨g, hg⟩ : ∃ g, g = w7.heap.size := ⟨_, rfl⟩
    obtain ⟨W, hW⟩ : ∃ W, W = w7.alloc (.cells #[.int .i64 v2, .int .i64 E2, .int .i64 v3, .int .i64 E3, .int .i64 v4, .int .i64 E4] 44) := ⟨_, rfl⟩
    have BW : Blk W g 44 #[.int .i64 v2, .int .i64 E2, .int .i64 v3, .int .i64 E3, .int .i64 v4, .int .i64 E4] := by rw [hW, hg]; exact Blk.new _ _ _
    replace hb : Below w.heap.size w W := by rw [hW]; exact below_trans hb ((Below.refl _ _).alloc (Nat.le_refl _) _)
    have HW := Lib.hid hW
    have HGG := Lib.hid hg
    clear hW hg h0 h1
    go_wp2
    rw [← HW.out, ← HGG.out]
    go_loopw [109] (fun i wr => ∃ k : Nat, k ≤ 3 ∧ i = .int .i64 k ∧ Blk wr g 44 #[.int .i64 v2, .int .i64 E2, .int .i64 v3, .int .i64 E3, .int .i64 v4, .int .i64 E4] ∧ Below w.heap.size w wr) (fun i _ => 3 - (intOf i).toNat)
    case atStart => exact ⟨0, Nat.zero_le _, rfl, BW, hb⟩
    case round =>
      clear BW hb
      obtain ⟨k, hk, rfl, BW, hb⟩ := hrel
      have x0 : wr.cell? ⟨g, 0, none⟩ = some (.int .i64 v2) := by simpa using BW.cell 0
      have x1 : wr.cell? ⟨g, 1, none⟩ = some (.int .i64 E2) := by simpa using BW.cell 1
      have x2 : wr.cell? ⟨g, 2, none⟩ = some (.int .i64 v3) := by simpa using BW.cell 2
      have x3 : wr.cell? ⟨g, 3, none⟩ = some (.int .i64 E3) := by simpa using BW.cell 3
      have x4 : wr.cell? ⟨g, 4, none⟩ = some (.int .i64 v4) := by simpa using BW.cell 4
      have x5 : wr.cell? ⟨g, 5, none⟩ = some (.int .i64 E4) := by simpa using BW.cell 5
      have glt := BW.lt
      rcases (show k = 0 ∨ k = 1 ∨ k = 2 ∨ k = 3 by omega) with rfl | rfl | rfl | rfl
      · have y0 : (wr.alloc (.cells #[.int .i64 v2, .int .i64 E2] 44)).cell? ⟨wr.heap.size, 0, none⟩ = some (.int .i64 v2) := by simpa using (Blk.new wr 44 #[.int .i64 v2, .int .i64 E2]).cell 0
        have y1 : (wr.alloc (.cells #[.int .i64 v2, .int .i64 E2] 44)).cell? ⟨wr.heap.size, 1, none⟩ = some (.int .i64 E2) := by simpa using (Blk.new wr 44 #[.int .i64 v2, .int .i64 E2]).cell 1
        have bu : Below wr.heap.size wr (wr.alloc (.cells #[.int .i64 v2, .int .i64 E2] 44)) := (Below.refl _ _).alloc (Nat.le_refl _) _
        have BWU := Lib.hid (BW.below bu)
        have hbu := Lib.hid (below_trans hb bu)
        clear BW hb bu
        rcases grw_vals G2.out with e | ⟨e, t, q'⟩
        · have e1 : (E2 == 0) = false := by rw [e]; rfl
          have e2 : (E2 != 5) = false := by rw [e]; rfl
          have e3 : (E2 != 0) = true := by rw [e]; rfl
          clear e
          go_wp2
          go_roundw
          case rel => exact ⟨1, by omega, rfl, BWU.out, hbu.out⟩
          case measure => simp [intOf]
        · have e1 : (E2 == 0) = true := by rw [e]; rfl
          have e2 : (E2 != 0) = false := by rw [e]; rfl
          have t1 : (E1 != 0) = false := by rw [t]; rfl
          clear e t
          go_wp2
          go_roundw
          case rel => exact ⟨1, by omega, rfl, BWU.out, hbu.out⟩
          case measure => simp [intOf]
      · have y0 : (wr.alloc (.cells #[.int .i64 v3, .int .i64 E3] 44)).cell? ⟨wr.heap.size, 0, none⟩ = some (.int .i64 v3) := by simpa using (Blk.new wr 44 #[.int .i64 v3, .int .i64 E3]).cell 0
        have y1 : (wr.alloc (.cells #[.int .i64 v3, .int .i64 E3] 44)).cell? ⟨wr.heap.size, 1, none⟩ = some (.int .i64 E3) := by simpa using (Blk.new wr 44 #[.int .i64 v3, .int .i64 E3]).cell 1
        have bu : Below wr.heap.size wr (wr.alloc (.cells #[.int .i64 v3, .int .i64 E3] 44)) := (Below.refl _ _).alloc (Nat.le_refl _) _
        have BWU := Lib.hid (BW.below bu)
        have hbu := Lib.hid (below_trans hb bu)
        clear BW hb bu
        rcases grw_vals G3.out with e | ⟨e, t, q'⟩
        · have e1 : (E3 == 0) = false := by rw [e]; rfl
          have e2 : (E3 != 5) = false := by rw [e]; rfl
          have e3 : (E3 != 0) = true := by rw [e]; rfl
          clear e
          go_wp2
          go_roundw
          case rel => exact ⟨2, by omega, rfl, BWU.out, hbu.out⟩
          case measure => simp [intOf]
        · have e1 : (E3 == 0) = true := by rw [e]; rfl
          have e2 : (E3 != 0) = false := by rw [e]; rfl
          have t1 : (E1 != 0) = false := by rw [t]; rfl
          clear e t
          go_wp2
          go_roundw
          case rel => exact ⟨2, by omega, rfl, BWU.out, hbu.out⟩
          case measure => simp [intOf]
      · have y0 : (wr.alloc (.cells #[.int .i64 v4, .int .i64 E4] 44)).cell? ⟨wr.heap.size, 0, none⟩ = some (.int .i64 v4) := by simpa using (Blk.new wr 44 #[.int .i64 v4, .int .i64 E4]).cell 0
        have y1 : (wr.alloc (.cells #[.int .i64 v4, .int .i64 E4] 44)).cell? ⟨wr.heap.size, 1, none⟩ = some (.int .i64 E4) := by simpa using (Blk.new wr 44 #[.int .i64 v4, .int .i64 E4]).cell 1
        have bu : Below wr.heap.size wr (wr.alloc (.cells #[.int .i64 v4, .int .i64 E4] 44)) := (Below.refl _ _).alloc (Nat.le_refl _) _
        have BWU := Lib.hid (BW.below bu)
        have hbu := Lib.hid (below_trans hb bu)
        clear BW hb bu
        rcases grw_vals G4.out with e | ⟨e, t, q'⟩
        · have e1 : (E4 == 0) = false := by rw [e]; rfl
          have e2 : (E4 != 5) = false := by rw [e]; rfl
          have e3 : (E4 != 0) = true := by rw [e]; rfl
          clear e
          go_wp2
          go_roundw
          case rel => exact ⟨3, by omega, rfl, BWU.out, hbu.out⟩
          case measure => simp [intOf]
        · have e1 : (E4 == 0) = true := by rw [e]; rfl
          have e2 : (E4 != 0) = false := by rw [e]; rfl
          have t1 : (E1 != 0) = false := by rw [t]; rfl
          clear e t
          go_wp2
          go_roundw
          case rel => exact ⟨3, by omega, rfl, BWU.out, hbu.out⟩
          case measure => simp [intOf]
      · go_wp2
        go_ret
        exact ⟨rfl, hb⟩
  · go_enter Try.func13, Try.ntmps13
    go_wp2_with fail
    refine (P.rate_at _ [0, 5] _ _ 0 0 0 0 _ (by exact Ints.lit _ [0, 5] _ _ rfl (by decide)) L1 rfl).mono ?_
    rintro e w1 ⟨rfl, bw1⟩
    replace bw1 := below_of1 bw1
    replace h0 := h0.below bw1
    replace h1 := h1.below bw1
    replace hb := below_trans hb bw1
    clear bw1
    go_wp2_with fail
    refine (P.rate_at _ [0, 5] _ _ 2 1 7 0 _ (by exact Ints.lit _ [0, 5] _ _ rfl (by decide)) L2 rfl).mono ?_
    rintro e w2 ⟨rfl, bw2⟩
    replace bw2 := below_of1 bw2
    replace h0 := h0.below bw2
    replace h1 := h1.below bw2
    replace hb := below_trans hb bw2
    clear bw2
    go_wp2_with fail
    refine (both_any a0 a1 l0 l1 c0 c1 _ h0 h1).mono ?_
    rintro e w' ⟨rfl, rfl⟩
    rw [HO.out]
    go_wp2_with fail
    refine (kle_any a0 a1 l0 l1 c0 c1 _ h0 h1).mono ?_
    rintro e w3 ⟨rfl, nw3, hww3⟩
    have bw3 := below_of_drewN hww3
    clear hww3
    replace h0 := h0.below bw3
    replace h1 := h1.below bw3
    replace hb := below_trans hb bw3
    clear bw3
    rw [HL.out]
    go_wp2_with fail
    refine (within_any n1 1000 _ (by omega) (by omega)).mono ?_
    rintro e w' ⟨rfl, rfl⟩
    rw [← HA.out]
    go_wp2_with fail
    refine (within_any n2 1000 _ (by omega) (by omega)).mono ?_
    rintro e w' ⟨rfl, rfl⟩
    rw [← HB.out]
    go_wp2_with fail
    refine (within_any n3 (l0.length) _ (by omega) (by omega)).mono ?_
    rintro e w' ⟨rfl, rfl⟩
    rw [← HD.out]
    go_wp2_with fail
    refine (within_any n4 61 _ (by omega) (by omega)).mono ?_
    rintro e w' ⟨rfl, rfl⟩
    rw [← HS.out]
    go_wp2_with fail
    refine (P.rate_at a0 l0 _ c0 A D v1 E1 _ h0 HV1 rfl).mono ?_
    rintro e w4 ⟨rfl, bw4⟩
    replace h0 := h0.below bw4
    replace h1 := h1.below bw4
    replace hb := below_trans hb bw4
    clear bw4
    go_wp2_with fail
    refine (P.rate_at a0 l0 _ c0 (A + B) D v2 E2 _ h0 HV2 rfl).mono ?_
    rintro e w5 ⟨rfl, bw5⟩
    replace h0 := h0.below bw5
    replace h1 := h1.below bw5
    replace hb := below_trans hb bw5
    clear bw5
    go_wp2_with fail
    refine (P.rate_at a0 l0 _ c0 A _ v3 E3 _ h0 (Lib.hid (HV3.out _ (by omega))) rfl).mono ?_
    rintro e w6 ⟨rfl, bw6⟩
    replace h0 := h0.below bw6
    replace h1 := h1.below bw6
    replace hb := below_trans hb bw6
    clear bw6
    go_wp2_with fail
    refine (P.rate_at a1 l1 _ c1 A D v4 E4 _ h1 HV4 rfl).mono ?_
    rintro e w7 ⟨rfl, bw7⟩
    replace hb := below_trans hb bw7
    clear bw7
    obtain ⟨g, hg⟩ : ∃ g, g = w7.heap.size := ⟨_, rfl⟩
    obtain ⟨W, hW⟩ : ∃ W, W = w7.alloc (.cells #[.int .i64 v2, .int .i64 E2, .int .i64 v3, .int .i64 E3, .int .i64 v4, .int .i64 E4] 44) := ⟨_, rfl⟩
    have BW : Blk W g 44 #[.int .i64 v2, .int .i64 E2, .int .i64 v3, .int .i64 E3, .int .i64 v4, .int .i64 E4] := by rw [hW, hg]; exact Blk.new _ _ _
    replace hb : Below w.heap.size w W := by rw [hW]; exact below_trans hb ((Below.refl _ _).alloc (Nat.le_refl _) _)
    have HW := Lib.hid hW
    have HGG := Lib.hid hg
    clear hW hg h0 h1
    go_wp2
    rw [← HW.out, ← HGG.out]
    go_loopw [109] (fun i wr => ∃ k : Nat, k ≤ 3 ∧ i = .int .i64 k ∧ Blk wr g 44 #[.int .i64 v2, .int .i64 E2, .int .i64 v3, .int .i64 E3, .int .i64 v4, .int .i64 E4] ∧ Below w.heap.size w wr) (fun i _ => 3 - (intOf i).toNat)
    case atStart => exact ⟨0, Nat.zero_le _, rfl, BW, hb⟩
    case round =>
      clear BW hb
      obtain ⟨k, hk, rfl, BW, hb⟩ := hrel
      have x0 : wr.cell? ⟨g, 0, none⟩ = some (.int .i64 v2) := by simpa using BW.cell 0
      have x1 : wr.cell? ⟨g, 1, none⟩ = some (.int .i64 E2) := by simpa using BW.cell 1
      have x2 : wr.cell? ⟨g, 2, none⟩ = some (.int .i64 v3) := by simpa using BW.cell 2
      have x3 : wr.cell? ⟨g, 3, none⟩ = some (.int .i64 E3) := by simpa using BW.cell 3
      have x4 : wr.cell? ⟨g, 4, none⟩ = some (.int .i64 v4) := by simpa using BW.cell 4
      have x5 : wr.cell? ⟨g, 5, none⟩ = some (.int .i64 E4) := by simpa using BW.cell 5
      have glt := BW.lt
      rcases (show k = 0 ∨ k = 1 ∨ k = 2 ∨ k = 3 by omega) with rfl | rfl | rfl | rfl
      · have y0 : (wr.alloc (.cells #[.int .i64 v2, .int .i64 E2] 44)).cell? ⟨wr.heap.size, 0, none⟩ = some (.int .i64 v2) := by simpa using (Blk.new wr 44 #[.int .i64 v2, .int .i64 E2]).cell 0
        have y1 : (wr.alloc (.cells #[.int .i64 v2, .int .i64 E2] 44)).cell? ⟨wr.heap.size, 1, none⟩ = some (.int .i64 E2) := by simpa using (Blk.new wr 44 #[.int .i64 v2, .int .i64 E2]).cell 1
        have bu : Below wr.heap.size wr (wr.alloc (.cells #[.int .i64 v2, .int .i64 E2] 44)) := (Below.refl _ _).alloc (Nat.le_refl _) _
        have BWU := Lib.hid (BW.below bu)
        have hbu := Lib.hid (below_trans hb bu)
        clear BW hb bu
        rcases grw_vals G2.out with e | ⟨e, t, q'⟩
        · have e1 : (E2 == 0) = false := by rw [e]; rfl
          have e2 : (E2 != 5) = false := by rw [e]; rfl
          have e3 : (E2 != 0) = true := by rw [e]; rfl
          clear e
          go_wp2
          go_roundw
          case rel => exact ⟨1, by omega, rfl, BWU.out, hbu.out⟩
          case measure => simp [intOf]
        · have e1 : (E2 == 0) = true := by rw [e]; rfl
          have e2 : (E2 != 0) = false := by rw [e]; rfl
          have t1 : (E1 != 0) = false := by rw [t]; rfl
          clear e t
          go_wp2
          go_roundw
          case rel => exact ⟨1, by omega, rfl, BWU.out, hbu.out⟩
          case measure => simp [intOf]
      · have y0 : (wr.alloc (.cells #[.int .i64 v3, .int .i64 E3] 44)).cell? ⟨wr.heap.size, 0, none⟩ = some (.int .i64 v3) := by simpa using (Blk.new wr 44 #[.int .i64 v3, .int .i64 E3]).cell 0
        have y1 : (wr.alloc (.cells #[.int .i64 v3, .int .i64 E3] 44)).cell? ⟨wr.heap.size, 1, none⟩ = some (.int .i64 E3) := by simpa using (Blk.new wr 44 #[.int .i64 v3, .int .i64 E3]).cell 1
        have bu : Below wr.heap.size wr (wr.alloc (.cells #[.int .i64 v3, .int .i64 E3] 44)) := (Below.refl _ _).alloc (Nat.le_refl _) _
        have BWU := Lib.hid (BW.below bu)
        have hbu := Lib.hid (below_trans hb bu)
        clear BW hb bu
        rcases grw_vals G3.out with e | ⟨e, t, q'⟩
        · have e1 : (E3 == 0) = false := by rw [e]; rfl
          have e2 : (E3 != 5) = false := by rw [e]; rfl
          have e3 : (E3 != 0) = true := by rw [e]; rfl
          clear e
          go_wp2
          go_roundw
          case rel => exact ⟨2, by omega, rfl, BWU.out, hbu.out⟩
          case measure => simp [intOf]
        · have e1 : (E3 == 0) = true := by rw [e]; rfl
          have e2 : (E3 != 0) = false := by rw [e]; rfl
          have t1 : (E1 != 0) = false := by rw [t]; rfl
          clear e t
          go_wp2
          go_roundw
          case rel => exact ⟨2, by omega, rfl, BWU.out, hbu.out⟩
          case measure => simp [intOf]
      · have y0 : (wr.alloc (.cells #[.int .i64 v4, .int .i64 E4] 44)).cell? ⟨wr.heap.size, 0, none⟩ = some (.int .i64 v4) := by simpa using (Blk.new wr 44 #[.int .i64 v4, .int .i64 E4]).cell 0
        have y1 : (wr.alloc (.cells #[.int .i64 v4, .int .i64 E4] 44)).cell? ⟨wr.heap.size, 1, none⟩ = some (.int .i64 E4) := by simpa using (Blk.new wr 44 #[.int .i64 v4, .int .i64 E4]).cell 1
        have bu : Below wr.heap.size wr (wr.alloc (.cells #[.int .i64 v4, .int .i64 E4] 44)) := (Below.refl _ _).alloc (Nat.le_refl _) _
        have BWU := Lib.hid (BW.below bu)
        have hbu := Lib.hid (below_trans hb bu)
        clear BW hb bu
        rcases grw_vals G4.out with e | ⟨e, t, q'⟩
        · have e1 : (E4 == 0) = false := by rw [e]; rfl
          have e2 : (E4 != 5) = false := by rw [e]; rfl
          have e3 : (E4 != 0) = true := by rw [e]; rfl
          clear e
          go_wp2
          go_roundw
          case rel => exact ⟨3, by omega, rfl, BWU.out, hbu.out⟩
          case measure => simp [intOf]
        · have e1 : (E4 == 0) = true := by rw [e]; rfl
          have e2 : (E4 != 0) = false := by rw [e]; rfl
          have t1 : (E1 != 0) = false := by rw [t]; rfl
          clear e t
          go_wp2
          go_roundw
          case rel => exact ⟨3, by omega, rfl, BWU.out, hbu.out⟩
          case measure => simp [intOf]
      · go_wp2
        go_ret
        exact ⟨rfl, hb⟩

end Go.Proofs.Ytnjeelmlabefjaa
