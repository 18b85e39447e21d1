
/-
  The walk of the law BucketMoves.
-/
import Derived.Test.YtbefkjglhlembaaBucketB
namespace Go.Proofs.Ytbefkjglhlembaa
set_option linter.all false
open Go.RowKit Go.Shelf


set_option maxHeartbeats 3200000 in
theorem moves_none (r b f n : Int) (w : World) (h : ¬ Bk r b f) :
    Calls Try.prog 4 #[.agg #[.int .i64 r, .int .i64 b, .int .i64 f], .int .i64 n] w fun e w' => e = .returned (.bool true) ∧ Below w.heap.size w w' := by
  have em := bkM
  have eq := bkSame
  have HE := Lib.hid (bk_no h)
  go_enter Try.func4, Try.ntmps4
  go_wp2_with fail
  refine (tick_no r b f n _ (fun q => absurd q h)).mono ?_
  rintro e w1 ⟨rfl, b1⟩
  have B0 := (Blk.new w 32 #[.int .i64 r, .int .i64 b, .int .i64 f]).below b1
  have hb := below_of1 b1
  obtain ⟨u0, u1, u2⟩ := three_read B0
  have ul := B0.lt
  clear b1
  go_wp2_with fail
  refine (take_arg r b f n _ (fun q => absurd q h)).mono ?_
  rintro e w2 ⟨rfl, b2⟩
  have Bx := (Blk.new w1 32 #[.int .i64 0, .int .i64 0, .int .i64 0]).below b2
  replace B0 := (B0.alloc _).below b2
  replace hb := below_trans hb (below_of1 b2)
  clear b2 u0 u1 u2 ul
  obtain ⟨u0, u1, u2⟩ := three_read B0
  have ul := B0.lt
  go_wp2_with fail
  refine (refBucket_any r b f _).mono ?_
  rintro e w3 ⟨rfl, b3⟩
  have By := (Blk.new w2 32 #[.int .i64 0, .int .i64 0, .int .i64 0]).below b3
  replace B0 := (B0.alloc _).below b3
  replace Bx := (Bx.alloc _).below b3
  replace hb := below_trans hb (below_of1 b3)
  clear b3 u0 u1 u2 ul
  obtain ⟨u0, u1, u2⟩ := three_read B0
  have ul := B0.lt
  rw [HE.out]
  go_wp2_with fail
  refine (bcheck_any r b f _).mono ?_
  rintro e w4 ⟨rfl, b4⟩
  replace B0 := B0.below b4
  replace Bx := Bx.below b4
  replace By := By.below b4
  replace hb := below_trans hb b4
  clear b4 u0 u1 u2 ul
  obtain ⟨u0, u1, u2⟩ := three_read B0
  obtain ⟨x0, x1, x2⟩ := three_read Bx
  obtain ⟨y0, y1, y2⟩ := three_read By
  have ul := B0.lt
  have xl := Bx.lt
  have yl := By.lt
  rw [HE.out]
  clear h
  go_wp2
  go_ret
  exact ⟨rfl, (hb.alloc hb.size _).alloc (by simp; exact Nat.le_succ_of_le hb.size) _⟩
set_option maxHeartbeats 3200000 in
theorem moves_neg (r b f n : Int) (w : World) (h : Bk r b f) (hn : n < 0) :
    Calls Try.prog 4 #[.agg #[.int .i64 r, .int .i64 b, .int .i64 f], .int .i64 n] w fun e w' => e = .returned (.bool true) ∧ Below w.heap.size w w' := by
  have em := bkM
  have eq := bkSame
  have HE := Lib.hid h.ok
  go_enter Try.func4, Try.ntmps4
  go_wp2_with fail
  refine (tick_no r b f n _ (fun _ => .inl hn)).mono ?_
  rintro e w1 ⟨rfl, b1⟩
  have B0 := (Blk.new w 32 #[.int .i64 r, .int .i64 b, .int .i64 f]).below b1
  have hb := below_of1 b1
  obtain ⟨u0, u1, u2⟩ := three_read B0
  have ul := B0.lt
  clear b1
  go_wp2_with fail
  refine (take_arg r b f n _ (fun _ => hn)).mono ?_
  rintro e w2 ⟨rfl, b2⟩
  have Bx := (Blk.new w1 32 #[.int .i64 0, .int .i64 0, .int .i64 0]).below b2
  replace B0 := (B0.alloc _).below b2
  replace hb := below_trans hb (below_of1 b2)
  clear b2 u0 u1 u2 ul
  obtain ⟨u0, u1, u2⟩ := three_read B0
  have ul := B0.lt
  go_wp2_with fail
  refine (refBucket_any r b f _).mono ?_
  rintro e w3 ⟨rfl, b3⟩
  have By := (Blk.new w2 32 #[.int .i64 0, .int .i64 0, .int .i64 0]).below b3
  replace B0 := (B0.alloc _).below b3
  replace Bx := (Bx.alloc _).below b3
  replace hb := below_trans hb (below_of1 b3)
  clear b3 u0 u1 u2 ul
  obtain ⟨u0, u1, u2⟩ := three_read B0
  have ul := B0.lt
  rw [HE.out]
  go_wp2_with fail
  refine (bcheck_any r b f _).mono ?_
  rintro e w4 ⟨rfl, b4⟩
  replace B0 := B0.below b4
  replace Bx := Bx.below b4
  replace By := By.below b4
  replace hb := below_trans hb b4
  clear b4 u0 u1 u2 ul
  obtain ⟨u0, u1, u2⟩ := three_read B0
  obtain ⟨x0, x1, x2⟩ := three_read Bx
  obtain ⟨y0, y1, y2⟩ := three_read By
  have ul := B0.lt
  have xl := Bx.lt
  have yl := By.lt
  rw [HE.out]
  go_wp2
  go_ret
  exact ⟨rfl, (hb.alloc hb.size _).alloc (by simp; exact Nat.le_succ_of_le hb.size) _⟩
set_option maxHeartbeats 3200000 in
theorem moves_far (r b f n : Int) (w : World) (h : Bk r b f) (hn : 200 < n) :
    Calls Try.prog 4 #[.agg #[.int .i64 r, .int .i64 b, .int .i64 f], .int .i64 n] w fun e w' => e = .returned (.bool true) ∧ Below w.heap.size w w' := by
  have em := bkM
  have eq := bkSame
  have HE := Lib.hid h.ok
  have hn' : ¬ n < 0 := by omega
  go_enter Try.func4, Try.ntmps4
  go_wp2_with fail
  refine (tick_no r b f n _ (fun _ => .inr hn)).mono ?_
  rintro e w1 ⟨rfl, b1⟩
  have B0 := (Blk.new w 32 #[.int .i64 r, .int .i64 b, .int .i64 f]).below b1
  have hb := below_of1 b1
  obtain ⟨u0, u1, u2⟩ := three_read B0
  have ul := B0.lt
  clear b1
  by_cases hq : n ≤ f
  · go_wp2_with fail
    refine (take_yes r b f n (f - n) _ h (by omega) hq rfl).mono ?_
    rintro e w2 ⟨rfl, b2⟩
    have Bx := (Blk.new w1 32 #[.int .i64 0, .int .i64 0, .int .i64 0]).below b2
    replace B0 := (B0.alloc _).below b2
    replace hb := below_trans hb (below_of1 b2)
    clear b2 u0 u1 u2 ul
    obtain ⟨u0, u1, u2⟩ := three_read B0
    have ul := B0.lt
    go_wp2_with fail
    refine (refBucket_any r b f _).mono ?_
    rintro e w3 ⟨rfl, b3⟩
    have By := (Blk.new w2 32 #[.int .i64 r, .int .i64 b, .int .i64 (f - n)]).below b3
    replace B0 := (B0.alloc _).below b3
    replace Bx := (Bx.alloc _).below b3
    replace hb := below_trans hb (below_of1 b3)
    clear b3 u0 u1 u2 ul
    obtain ⟨u0, u1, u2⟩ := three_read B0
    have ul := B0.lt
    rw [HE.out]
    go_wp2_with fail
    refine (bcheck_any r b f _).mono ?_
    rintro e w4 ⟨rfl, b4⟩
    replace B0 := B0.below b4
    replace Bx := Bx.below b4
    replace By := By.below b4
    replace hb := below_trans hb b4
    clear b4 u0 u1 u2 ul
    obtain ⟨u0, u1, u2⟩ := three_read B0
    obtain ⟨x0, x1, x2⟩ := three_read Bx
    obtain ⟨y0, y1, y2⟩ := three_read By
    have ul := B0.lt
    have xl := Bx.lt
    have yl := By.lt
    rw [HE.out]
    have f1 := h.f1
    have b1 := h.b1
    go_wp2
    go_ret
    exact ⟨rfl, (hb.alloc hb.size _).alloc (by simp; exact Nat.le_succ_of_le hb.size) _⟩
  · go_wp2_with fail
    refine (take_full r b f n _ h (by omega)).mono ?_
    rintro e w2 ⟨rfl, b2⟩
    have Bx := (Blk.new w1 32 #[.int .i64 0, .int .i64 0, .int .i64 0]).below b2
    replace B0 := (B0.alloc _).below b2
    replace hb := below_trans hb (below_of1 b2)
    clear b2 u0 u1 u2 ul
    obtain ⟨u0, u1, u2⟩ := three_read B0
    have ul := B0.lt
    go_wp2_with fail
    refine (refBucket_any r b f _).mono ?_
    rintro e w3 ⟨rfl, b3⟩
    have By := (Blk.new w2 32 #[.int .i64 0, .int .i64 0, .int .i64 0]).below b3
    replace B0 := (B0.alloc _).below b3
    replace Bx := (Bx.alloc _).below b3
    replace hb := below_trans hb (below_of1 b3)
    clear b3 u0 u1 u2 ul
    obtain ⟨u0, u1, u2⟩ := three_read B0
    have ul := B0.lt
    rw [HE.out]
    go_wp2_with fail
    refine (bcheck_any r b f _).mono ?_
    rintro e w4 ⟨rfl, b4⟩
    replace B0 := B0.below b4
    replace Bx := Bx.below b4
    replace By := By.below b4
    replace hb := below_trans hb b4
    clear b4 u0 u1 u2 ul
    obtain ⟨u0, u1, u2⟩ := three_read B0
    obtain ⟨x0, x1, x2⟩ := three_read Bx
    obtain ⟨y0, y1, y2⟩ := three_read By
    have ul := B0.lt
    have xl := Bx.lt
    have yl := By.lt
    rw [HE.out]
    go_wp2
    go_ret
    exact ⟨rfl, (hb.alloc hb.size _).alloc (by simp; exact Nat.le_succ_of_le hb.size) _⟩

theorem tk_step {r b f : Int} {k : Nat} (h : Bk r b f) : tkV r b f (k + 1 : Nat) = min b (tkV r b f k + r) := by
  have q := tk_add (m := (k : Int)) (n := 1) h (by omega) (by omega)
  rw [show ((k + 1 : Nat) : Int) = (k : Int) + 1 by omega, ← q]
  unfold tkV
  omega
theorem tk_zero {r b f : Int} (h : Bk r b f) : tkV r b f (0 : Nat) = f := by have := h.f1; unfold tkV; simp; omega
set_option maxHeartbeats 3200000 in
theorem moves_near (r b f n : Int) (w : World) (h : Bk r b f) (n0 : 0 ≤ n) (n1 : n ≤ 200) :
    Calls Try.prog 4 #[.agg #[.int .i64 r, .int .i64 b, .int .i64 f], .int .i64 n] w fun e w' => e = .returned (.bool true) ∧ Below w.heap.size w w' := by
  have em := bkM
  have eq := bkSame
  obtain ⟨m, rfl⟩ := Int.eq_ofNat_of_zero_le n0
  have HE := Lib.hid h.ok
  have HZ := Lib.hid (tk_zero h)
  obtain ⟨z, hz⟩ : ∃ z, z = tkV r b f m := ⟨_, rfl⟩
  have hz' : z = min b (f + m * r) := hz
  go_enter Try.func4, Try.ntmps4
  go_wp2_with fail
  refine (tick_yes r b f m z _ h n0 n1 hz').mono ?_
  rintro e w1 ⟨rfl, b1⟩
  have B0 := (Blk.new w 32 #[.int .i64 r, .int .i64 b, .int .i64 f]).below b1
  have hb := below_of1 b1
  obtain ⟨u0, u1, u2⟩ := three_read B0
  have ul := B0.lt
  clear b1
  clear hz'
  have HZZ := Lib.hid hz
  clear hz
  by_cases hq : (m : Int) ≤ f
  · go_wp2_with fail
    refine (take_yes r b f m (f - m) _ h (by omega) hq rfl).mono ?_
    rintro e w2 ⟨rfl, b2⟩
    have Bx := (Blk.new w1 32 #[.int .i64 r, .int .i64 b, .int .i64 z]).below b2
    replace B0 := (B0.alloc _).below b2
    replace hb := below_trans hb (below_of1 b2)
    clear b2 u0 u1 u2 ul
    obtain ⟨u0, u1, u2⟩ := three_read B0
    have ul := B0.lt
    go_wp2_with fail
    refine (refBucket_any r b f _).mono ?_
    rintro e w3 ⟨rfl, b3⟩
    have By := (Blk.new w2 32 #[.int .i64 r, .int .i64 b, .int .i64 (f - m)]).below b3
    replace B0 := (B0.alloc _).below b3
    replace Bx := (Bx.alloc _).below b3
    replace hb := below_trans hb (below_of1 b3)
    clear b3 u0 u1 u2 ul
    obtain ⟨u0, u1, u2⟩ := three_read B0
    have ul := B0.lt
    rw [HE.out]
    go_wp2_with fail
    refine (bcheck_any r b f _).mono ?_
    rintro e w4 ⟨rfl, b4⟩
    replace B0 := B0.below b4
    replace Bx := Bx.below b4
    replace By := By.below b4
    replace hb := below_trans hb b4
    clear b4 u0 u1 u2 ul
    obtain ⟨u0, u1, u2⟩ := three_read B0
    obtain ⟨x0, x1, x2⟩ := three_read Bx
    obtain ⟨y0, y1, y2⟩ := three_read By
    have ul := B0.lt
    have xl := Bx.lt
    have yl := By.lt
    rw [HE.out]
    have f1 := h.f1
    have b1 := h.b1
    go_wp2
    go_loopw [62] (fun i wr => ∃ k : Nat, k ≤ m ∧ i = .int .i64 k ∧ wr = (w4.alloc (.cells #[.int .i64 r, .int .i64 b, .int .i64 (tkV r b f k)] 32)).alloc (.cells #[.int .i64 0, .int .i64 0, .int .i64 0] 32)) (fun i _ => m - (intOf i).toNat)
    case atStart => exact ⟨0, Nat.zero_le _, rfl, by rw [HZ.out]⟩
    case round =>
      obtain ⟨k, hk, rfl, rfl⟩ := hrel
      obtain ⟨x, hx⟩ : ∃ x, x = tkV r b f k := ⟨_, rfl⟩
      have HB := h.tick (n := (k : Int)) (by omega)
      have HS := Lib.hid (tk_step (k := k) h)
      rw [← hx] at HB HS ⊢
      have HX := Lib.hid hx
      clear hx
      have c0 := HB.f0
      have c1 := HB.f1
      have c2 := HB.b1
      have c3 := HB.r0
      have c4 := HB.r1
      by_cases hlt : k < m
      · by_cases q1 : b < x + r
        · have HN : Hid (tkV r b f (k + 1 : Nat) = b) := Lib.hid (by rw [HS.out]; omega)
          go_wp2
          go_roundw
          case rel => exact ⟨k + 1, by omega, by go_num, by rw [HN.out]⟩
          case measure => simp [intOf]; omega
        by_cases q2 : x + r < b
        · have HN : Hid (tkV r b f (k + 1 : Nat) = x + r) := Lib.hid (by rw [HS.out]; omega)
          clear q1
          go_wp2
          go_roundw
          case rel => exact ⟨k + 1, by omega, by go_num, by rw [HN.out]⟩
          case measure => simp [intOf]; omega
        · have HN : Hid (tkV r b f (k + 1 : Nat) = b) := Lib.hid (by rw [HS.out]; omega)
          have s2 : IntKind.i64.wrap (x + r) = b := by rw [show x + r = b by omega]; exact IntWalk.i64_in _ ⟨by omega, by omega⟩
          clear q1 q2 c0 c1 c2 c3 c4
          go_wp2
          go_roundw
          case rel => exact ⟨k + 1, by omega, by go_num, by rw [HN.out]⟩
          case measure => simp [intOf]; omega
      · obtain rfl : k = m := by omega
        clear hlt hk
        rw [show x = z by rw [HX.out, HZZ.out]]
        go_wp2
        go_ret
        exact ⟨rfl, (hb.alloc hb.size _).alloc (by simp; exact Nat.le_succ_of_le hb.size) _⟩
  · go_wp2_with fail
    refine (take_full r b f m _ h (by omega)).mono ?_
    rintro e w2 ⟨rfl, b2⟩
    have Bx := (Blk.new w1 32 #[.int .i64 r, .int .i64 b, .int .i64 z]).below b2
    replace B0 := (B0.alloc _).below b2
    replace hb := below_trans hb (below_of1 b2)
    clear b2 u0 u1 u2 ul
    obtain ⟨u0, u1, u2⟩ := three_read B0
    have ul := B0.lt
    go_wp2_with fail
    refine (refBucket_any r b f _).mono ?_
    rintro e w3 ⟨rfl, b3⟩
    have By := (Blk.new w2 32 #[.int .i64 0, .int .i64 0, .int .i64 0]).below b3
    replace B0 := (B0.alloc _).below b3
    replace Bx := (Bx.alloc _).below b3
    replace hb := below_trans hb (below_of1 b3)
    clear b3 u0 u1 u2 ul
    obtain ⟨u0, u1, u2⟩ := three_read B0
    have ul := B0.lt
    rw [HE.out]
    go_wp2_with fail
    refine (bcheck_any r b f _).mono ?_
    rintro e w4 ⟨rfl, b4⟩
    replace B0 := B0.below b4
    replace Bx := Bx.below b4
    replace By := By.below b4
    replace hb := below_trans hb b4
    clear b4 u0 u1 u2 ul
    obtain ⟨u0, u1, u2⟩ := three_read B0
    obtain ⟨x0, x1, x2⟩ := three_read Bx
    obtain ⟨y0, y1, y2⟩ := three_read By
    have ul := B0.lt
    have xl := Bx.lt
    have yl := By.lt
    rw [HE.out]
    go_wp2
    go_loopw [62] (fun i wr => ∃ k : Nat, k ≤ m ∧ i = .int .i64 k ∧ wr = (w4.alloc (.cells #[.int .i64 r, .int .i64 b, .int .i64 (tkV r b f k)] 32)).alloc (.cells #[.int .i64 0, .int .i64 0, .int .i64 0] 32)) (fun i _ => m - (intOf i).toNat)
    case atStart => exact ⟨0, Nat.zero_le _, rfl, by rw [HZ.out]⟩
    case round =>
      obtain ⟨k, hk, rfl, rfl⟩ := hrel
      obtain ⟨x, hx⟩ : ∃ x, x = tkV r b f k := ⟨_, rfl⟩
      have HB := h.tick (n := (k : Int)) (by omega)
      have HS := Lib.hid (tk_step (k := k) h)
      rw [← hx] at HB HS ⊢
      have HX := Lib.hid hx
      clear hx
      have c0 := HB.f0
      have c1 := HB.f1
      have c2 := HB.b1
      have c3 := HB.r0
      have c4 := HB.r1
      by_cases hlt : k < m
      · by_cases q1 : b < x + r
        · have HN : Hid (tkV r b f (k + 1 : Nat) = b) := Lib.hid (by rw [HS.out]; omega)
          go_wp2
          go_roundw
          case rel => exact ⟨k + 1, by omega, by go_num, by rw [HN.out]⟩
          case measure => simp [intOf]; omega
        by_cases q2 : x + r < b
        · have HN : Hid (tkV r b f (k + 1 : Nat) = x + r) := Lib.hid (by rw [HS.out]; omega)
          clear q1
          go_wp2
          go_roundw
          case rel => exact ⟨k + 1, by omega, by go_num, by rw [HN.out]⟩
          case measure => simp [intOf]; omega
        · have HN : Hid (tkV r b f (k + 1 : Nat) = b) := Lib.hid (by rw [HS.out]; omega)
          have s2 : IntKind.i64.wrap (x + r) = b := by rw [show x + r = b by omega]; exact IntWalk.i64_in _ ⟨by omega, by omega⟩
          clear q1 q2 c0 c1 c2 c3 c4
          go_wp2
          go_roundw
          case rel => exact ⟨k + 1, by omega, by go_num, by rw [HN.out]⟩
          case measure => simp [intOf]; omega
      · obtain rfl : k = m := by omega
        clear hlt hk
        rw [show x = z by rw [HX.out, HZZ.out]]
        go_wp2
        go_ret
        exact ⟨rfl, (hb.alloc hb.size _).alloc (by simp; exact Nat.le_succ_of_le hb.size) _⟩

set_option maxHeartbeats 400000 in
theorem walk_BucketMoves (r b f n : Int) (w : World) (_hr : (Lit.int .i64 r).wf = true) (_hb : (Lit.int .i64 b).wf = true) (_hf : (Lit.int .i64 f).wf = true) (_hn : (Lit.int .i64 n).wf = true) :
    Calls Try.prog 4 #[.agg #[.int .i64 r, .int .i64 b, .int .i64 f], .int .i64 n] w fun e w' => e = .returned (.bool true) ∧ Below w.heap.size w w' := by
  by_cases h : Bk r b f
  · by_cases h0 : n < 0
    · exact moves_neg r b f n w h h0
    · by_cases h1 : 200 < n
      · exact moves_far r b f n w h h1
      · exact moves_near r b f n w h (by omega) (by omega)
  · exact moves_none r b f n w h

end Go.Proofs.Ytbefkjglhlembaa
