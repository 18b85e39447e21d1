
/-
  The law LeaseHolds.
-/
import Derived.Test.YtnpdcllfdoobeaaLeaT
import Derived.Test.YtnpdcllfdoobeaaLeaU
import Derived.Test.YtnpdcllfdoobeaaKeepA
namespace Go.Proofs.Ytnpdcllfdoobeaa
set_option linter.all false
open Go.RowKit Go.Shelf Go.Lib

theorem wiH (n m : Int) (h : 1 ≤ m) : 0 ≤ wi n m ∧ wi n m < m :=
  ⟨Int.emod_nonneg (n % 18446744073709551616) (show m ≠ 0 by omega), Int.emod_lt_of_pos (n % 18446744073709551616) (show 0 < m by omega)⟩
set_option maxRecDepth 100000 in
set_option maxHeartbeats 3200000 in
theorem walk_LeaseHolds (A : Option Addr) (c : Nat) (l : List Lz) (x y z : Int) (now to : Int) (w : World) (h : Les w A l) (_k : l.length ≤ c) (_hx : (Lit.int .i64 x).wf = true) (_hy : (Lit.int .i64 y).wf = true) (_hz : (Lit.int .i64 z).wf = true) (_h2 : (Lit.int .i64 now).wf = true) (_h3 : (Lit.int .i64 to).wf = true) :
    Calls Try.prog 8 #[.slice A l.length c, .agg #[.int .i64 x, .int .i64 y, .int .i64 z], .int .i64 now, .int .i64 to] w fun e w' => e = .returned (.bool true) ∧ Below w.heap.size w w' := by
  have hl := h.le
  obtain ⟨X, hX⟩ : ∃ X : Lz, X = ⟨x, y, z⟩ := ⟨_, rfl⟩
  obtain ⟨rfl, rfl, rfl⟩ : x = X.who ∧ y = X.till ∧ z = X.pin := by subst hX; exact ⟨rfl, rfl, rfl⟩
  clear hX
  have E0 : Hid (¬ cuE 4 3 [⟨0, 5, 2⟩] = 0) := Lib.hid (by decide)
  have E7 : Hid (cuE 4 3 [⟨0, 5, 2⟩] = 7) := Lib.hid (by decide)
  have E1 : Hid (cuE 5 3 [⟨0, 5, 2⟩] = 0) := Lib.hid (by decide)
  have L1 : Hid (liveL 5 [⟨0, 5, 2⟩] = []) := Lib.hid (by rfl)
  obtain ⟨B0, hB0⟩ : ∃ B0, B0 = w.heap.size := ⟨_, rfl⟩
  have HB0 := Lib.hid hB0
  obtain ⟨W, hW⟩ : ∃ W, W = w.alloc (.cells #[.int .i64 X.who, .int .i64 X.till, .int .i64 X.pin] 35) := ⟨_, rfl⟩
  have hb : Below w.heap.size w W := by rw [hW]; exact (Below.refl _ _).alloc (Nat.le_refl _) _
  have BX : Blk W B0 35 #[.int .i64 X.who, .int .i64 X.till, .int .i64 X.pin] := by rw [hW, hB0]; exact Blk.new _ _ _
  have HWs : Hid (W.heap.size = w.heap.size + 1) := Lib.hid (by rw [hW]; simp)
  have HW := Lib.hid hW
  replace h := h.below hb
  clear hB0 hW
  go_enter Try.func8, Try.ntmps8
  go_wp2_with fail
  rw [← HW.out]
  refine (cut_no (some ⟨w.heap.size + 1, 0, none⟩) [⟨0, 5, 2⟩] 1 1 4 3 _ (by rw [← HWs.out]; exact Les.lit W _ _ _ rfl (by decide)) rfl E0).mono ?_
  rintro e w1 ⟨rfl, b1⟩
  rw [E7.out, ← HB0.out]
  have b1' := below_of1 b1
  replace h := h.below b1'
  replace BX := BX.below b1'
  replace hb := below_trans hb b1'
  clear b1 b1' E0 E7
  go_wp2_with fail
  refine (cut_yes (some ⟨w1.heap.size, 0, none⟩) [⟨0, 5, 2⟩] 1 1 5 3 _ (Les.lit w1 _ _ _ rfl (by decide)) rfl E1).mono ?_
  rintro e w2 ⟨A2, c2, rfl, o2, b2⟩
  rw [L1.out]
  have b2' := below_of1 b2
  replace h := h.below b2'
  replace BX := BX.below b2'
  replace hb := below_trans hb b2'
  clear b2 b2' E1 L1 o2
  obtain ⟨x0, x1, x2⟩ := three_read BX
  by_cases hE : tkE X l = 0
  · have HE := Lib.hid hE
    obtain ⟨v, hx⟩ := tk_iff.mp hE
    have vL := v.take hx
    have xL : X ∈ takeL X l := (mem_take v.sorted).mpr (.inl rfl)
    clear hE hx
    go_wp2_with fail
    refine (take_yes A l X _ c _ h rfl HE).mono ?_
    rintro e w4 ⟨A5, c5, rfl, o4, b4⟩
    replace BX := BX.below b4
    replace hb := below_trans hb b4
    have i5 := Les.of_row o4
    obtain ⟨u0, u1⟩ := wiH to 1000001 (by decide)
    obtain ⟨L, hL⟩ : ∃ L, L = takeL X l := ⟨_, rfl⟩
    rw [← hL] at vL xL i5 ⊢
    have VL := Lib.hid vL
    have XL := Lib.hid xL
    clear x0 x1 x2 o4 b4 h hL vL xL v
    go_wp2_with fail
    refine (within_any to 1000001 _ (by decide) (by decide)).mono ?_
    rintro e w5 ⟨rfl, rfl⟩
    obtain ⟨u, hu⟩ : ∃ u, u = wi to 1000001 := ⟨_, rfl⟩
    rw [← hu] at u0 u1 ⊢
    clear hu
    by_cases t1 : now < X.till
    · by_cases t2 : X.pin < u
      · have H7 : Hid (cuE now u L = 7) := Lib.hid (cu_there VL.out u0 (by omega) (fun c => by have := c X XL.out t1; omega))
        have HC : Hid (¬ cuE now u L = 0) := Lib.hid (by rw [H7.out]; decide)
        go_wp2_with fail
        refine (cut_no A5 L _ c5 now u _ i5 rfl HC).mono ?_
        rintro e w6 ⟨rfl, b6⟩
        rw [H7.out]
        replace BX := BX.below b6
        replace hb := below_trans hb b6
        obtain ⟨x0, x1, x2⟩ := three_read BX
        go_wp2
        go_ret
        exact ⟨rfl, hb⟩
      · by_cases hC : cuE now u L = 0
        · have HC := Lib.hid hC
          obtain ⟨_, _, _, ct⟩ := cu_iff.mp hC
          have KZ : Hid (∀ a, a ∈ liveL now L → u ≤ a.pin ∧ now < a.till) := Lib.hid (fun a ha => by
            have q := mem_live.mp ha
            exact ⟨ct a q.1 q.2, q.2⟩)
          have hlen : (liveL now L).length ≤ 8 := (VL.out.live now).len
          clear hC ct
          go_wp2_with fail
          refine (cut_yes A5 L _ c5 now u _ i5 rfl HC).mono ?_
          rintro e w6 ⟨A6, c6, rfl, o6, b6⟩
          replace BX := BX.below b6
          replace hb := below_trans hb b6
          have i6 := Les.of_row o6
          obtain ⟨z, hz⟩ : ∃ z, z = liveL now L := ⟨_, rfl⟩
          rw [← hz] at i6 KZ hlen ⊢
          obtain ⟨x0, x1, x2⟩ := three_read BX
          clear o6 i5 hz b6
          go_wp2
          go_loopw [82] (fun s wr => ∃ k : Nat, k ≤ z.length ∧ s = .int .i64 k ∧ Below w6.heap.size w6 wr) (fun s _ => z.length - (intOf s).toNat)
          case atStart => exact ⟨0, Nat.zero_le _, rfl, Below.refl _ _⟩
          case round =>
            obtain ⟨k, hk, rfl, hbel⟩ := hrel
            by_cases hlt : k < z.length
            · obtain ⟨bb, off, a, hA, hbl, c0, c1, c2, HA⟩ := (i6.below hbel).get hlt
              subst hA
              have i1 : (k : Int) < (z.length : Int) := by omega
              obtain ⟨p1, p2⟩ := KZ.out a (List.mem_of_getElem? HA.out)
              have p3 : ¬ a.pin < u := by omega
              have p4 : ¬ a.till ≤ now := by omega
              clear KZ HA
              go_wp2
              go_roundw
              case rel => exact ⟨k + 1, by omega, by go_num, hbel.alloc hbel.size _⟩
              case measure => simp [intOf]; omega
            · have i1 : ¬ (k : Int) < (z.length : Int) := by omega
              go_wp2
              go_ret
              exact ⟨rfl, below_trans hb hbel⟩
        · have HC := Lib.hid hC
          have H7 : Hid (cuE now u L = 7) := Lib.hid (cu_there VL.out u0 (by omega) (fun c => hC (cu_iff.mpr ⟨VL.out, u0, by omega, c⟩)))
          clear hC
          go_wp2_with fail
          refine (cut_no A5 L _ c5 now u _ i5 rfl HC).mono ?_
          rintro e w6 ⟨rfl, b6⟩
          rw [H7.out]
          replace BX := BX.below b6
          replace hb := below_trans hb b6
          obtain ⟨x0, x1, x2⟩ := three_read BX
          go_wp2
          go_ret
          exact ⟨rfl, hb⟩
    · by_cases hC : cuE now u L = 0
      · have HC := Lib.hid hC
        obtain ⟨_, _, _, ct⟩ := cu_iff.mp hC
        have KZ : Hid (∀ a, a ∈ liveL now L → u ≤ a.pin ∧ now < a.till) := Lib.hid (fun a ha => by
          have q := mem_live.mp ha
          exact ⟨ct a q.1 q.2, q.2⟩)
        have hlen : (liveL now L).length ≤ 8 := (VL.out.live now).len
        clear hC ct
        go_wp2_with fail
        refine (cut_yes A5 L _ c5 now u _ i5 rfl HC).mono ?_
        rintro e w6 ⟨A6, c6, rfl, o6, b6⟩
        replace BX := BX.below b6
        replace hb := below_trans hb b6
        have i6 := Les.of_row o6
        obtain ⟨z, hz⟩ : ∃ z, z = liveL now L := ⟨_, rfl⟩
        rw [← hz] at i6 KZ hlen ⊢
        obtain ⟨x0, x1, x2⟩ := three_read BX
        clear o6 i5 hz b6
        go_wp2
        go_loopw [82] (fun s wr => ∃ k : Nat, k ≤ z.length ∧ s = .int .i64 k ∧ Below w6.heap.size w6 wr) (fun s _ => z.length - (intOf s).toNat)
        case atStart => exact ⟨0, Nat.zero_le _, rfl, Below.refl _ _⟩
        case round =>
          obtain ⟨k, hk, rfl, hbel⟩ := hrel
          by_cases hlt : k < z.length
          · obtain ⟨bb, off, a, hA, hbl, c0, c1, c2, HA⟩ := (i6.below hbel).get hlt
            subst hA
            have i1 : (k : Int) < (z.length : Int) := by omega
            obtain ⟨p1, p2⟩ := KZ.out a (List.mem_of_getElem? HA.out)
            have p3 : ¬ a.pin < u := by omega
            have p4 : ¬ a.till ≤ now := by omega
            clear KZ HA
            go_wp2
            go_roundw
            case rel => exact ⟨k + 1, by omega, by go_num, hbel.alloc hbel.size _⟩
            case measure => simp [intOf]; omega
          · have i1 : ¬ (k : Int) < (z.length : Int) := by omega
            go_wp2
            go_ret
            exact ⟨rfl, below_trans hb hbel⟩
      · have HC := Lib.hid hC
        have H7 : Hid (cuE now u L = 7) := Lib.hid (cu_there VL.out u0 (by omega) (fun c => hC (cu_iff.mpr ⟨VL.out, u0, by omega, c⟩)))
        clear hC
        go_wp2_with fail
        refine (cut_no A5 L _ c5 now u _ i5 rfl HC).mono ?_
        rintro e w6 ⟨rfl, b6⟩
        rw [H7.out]
        replace BX := BX.below b6
        replace hb := below_trans hb b6
        obtain ⟨x0, x1, x2⟩ := three_read BX
        go_wp2
        go_ret
        exact ⟨rfl, hb⟩
  · have HE := Lib.hid hE
    have e1 : (tkE X l != 0) = true := by simp [hE]
    clear hE
    go_wp2_with fail
    refine (take_no A l X _ c _ h rfl HE).mono ?_
    rintro e w4 ⟨rfl, b4⟩
    replace hb := below_trans hb b4
    go_wp2
    go_ret
    exact ⟨rfl, hb⟩

end Go.Proofs.Ytnpdcllfdoobeaa
