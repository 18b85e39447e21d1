
/-
  The walk of the law BucketParts.
-/
import Derived.Test.YtbefkjglhlembaaBucketB
namespace Go.Proofs.Ytbefkjglhlembaa
set_option linter.all false
open Go.RowKit Go.Shelf



theorem bk_lit1 : Bk 2 5 2 := ⟨by decide, by decide, by decide, by decide, by decide, by decide⟩
theorem bk_lit2 : Bk 0 5 2 := ⟨by decide, by decide, by decide, by decide, by decide, by decide⟩
theorem bk_lit0 : Bk 0 0 0 := ⟨by decide, by decide, by decide, by decide, by decide, by decide⟩

set_option maxHeartbeats 3200000 in
theorem walk_BucketParts (r b f m n : Int) (w : World) (_hr : (Lit.int .i64 r).wf = true) (_hb : (Lit.int .i64 b).wf = true) (_hf : (Lit.int .i64 f).wf = true) (_hm : (Lit.int .i64 m).wf = true) (_hn : (Lit.int .i64 n).wf = true) :
    Calls Try.prog 11 #[.agg #[.int .i64 r, .int .i64 b, .int .i64 f], .int .i64 m, .int .i64 n] w fun e w' => e = .returned (.bool true) ∧ Below w.heap.size w w' := by
  have em := bkM
  have eq := bkSame
  clear _hr _hb _hf _hm _hn
  by_cases hB : Bk r b f
  · have HE := Lib.hid hB.ok
    obtain ⟨p, hp⟩ : ∃ y, y = wi m 101 := ⟨_, rfl⟩
    have plo : 0 ≤ p := by rw [hp]; exact wi_nonneg _ _ (by omega)
    have phi : p < 101 := by rw [hp]; exact wi_lt m 101 (by omega)
    have Hp := Lib.hid hp
    clear hp
    obtain ⟨q, hq⟩ : ∃ y, y = wi n 101 := ⟨_, rfl⟩
    have qlo : 0 ≤ q := by rw [hq]; exact wi_nonneg _ _ (by omega)
    have qhi : q < 101 := by rw [hq]; exact wi_lt n 101 (by omega)
    have Hq := Lib.hid hq
    clear hq
    have H1 := hB.tick plo
    have H2 := H1.tick qlo
    obtain ⟨x, hx⟩ : ∃ x, x = tkV r b f p := ⟨_, rfl⟩
    obtain ⟨y, hy⟩ : ∃ y, y = tkV r b x q := ⟨_, rfl⟩
    have hz : y = tkV r b f (p + q) := by rw [hy, hx, tk_add hB plo qlo]
    rw [← hx, ← hy] at H2
    rw [← hx] at H1
    have hyb := H2.f1
    have HE2 := Lib.hid H2.ok
    have HX := Lib.hid hx
    have HY := Lib.hid hy
    have HZ := Lib.hid hz
    have f1 := hB.f1
    have b1 := hB.b1
    clear hx hy hz
    go_enter Try.func11, Try.ntmps11
    go_wp2_with fail
    refine (tick_yes 2 5 2 2 5 _ bk_lit1 (by decide) (by decide) (by decide)).mono ?_
    rintro e w1 ⟨rfl, b1⟩
    have B0 := (Blk.new w 32 #[.int .i64 r, .int .i64 b, .int .i64 f]).below b1
    have hb := below_of1 b1
    obtain ⟨u0, u1, u2⟩ := three_read B0
    have ul := B0.lt
    clear b1
    go_wp2_with fail
    refine (take_yes 0 5 2 2 0 _ bk_lit2 (by decide) (by decide) (by decide)).mono ?_
    rintro e w2 ⟨rfl, bw2⟩
    replace B0 := (B0.alloc _).below bw2
    replace hb := below_trans hb (below_of1 bw2)
    clear bw2 u0 u1 u2 ul
    obtain ⟨u0, u1, u2⟩ := three_read B0
    have ul := B0.lt
    go_wp2_with fail
    refine (bcheck_any r b f _).mono ?_
    rintro e w3 ⟨rfl, bw3⟩
    replace B0 := (B0.alloc _).below bw3
    replace hb := below_trans hb (below_of1 bw3)
    clear bw3 u0 u1 u2 ul
    obtain ⟨u0, u1, u2⟩ := three_read B0
    have ul := B0.lt
    rw [HE.out]
    go_wp2_with fail
    refine (within_any m 101 _ (by omega) (by omega)).mono ?_
    rintro e w' ⟨rfl, rfl⟩
    rw [← Hp.out]
    go_wp2_with fail
    refine (within_any n 101 _ (by omega) (by omega)).mono ?_
    rintro e w' ⟨rfl, rfl⟩
    rw [← Hq.out]
    go_wp2_with fail
    refine (tick_yes r b f p x _ hB plo (by omega) HX.out).mono ?_
    rintro e w4 ⟨rfl, bw4⟩
    replace B0 := B0.below bw4
    replace hb := below_trans hb bw4
    clear bw4 u0 u1 u2 ul
    obtain ⟨u0, u1, u2⟩ := three_read B0
    have ul := B0.lt
    go_wp2_with fail
    refine (tick_yes r b x q y _ H1 qlo (by omega) HY.out).mono ?_
    rintro e w5 ⟨rfl, bw5⟩
    replace B0 := (B0.alloc _).below bw5
    replace hb := below_trans hb (below_of1 bw5)
    clear bw5 u0 u1 u2 ul
    obtain ⟨u0, u1, u2⟩ := three_read B0
    have ul := B0.lt
    go_wp2_with fail
    refine (tick_yes r b f (p + q) y _ hB (by omega) (by omega) HZ.out).mono ?_
    rintro e w6 ⟨rfl, bw6⟩
    have By := (Blk.new w5 32 #[.int .i64 r, .int .i64 b, .int .i64 y]).below bw6
    obtain ⟨y0, y1, y2⟩ := three_read By
    have yl := By.lt
    replace B0 := (B0.alloc _).below bw6
    replace hb := below_trans hb (below_of1 bw6)
    clear bw6 u0 u1 u2 ul
    obtain ⟨u0, u1, u2⟩ := three_read B0
    have ul := B0.lt
    go_wp2_with fail
    refine (bcheck_any r b y _).mono ?_
    rintro e w7 ⟨rfl, bw7⟩
    replace B0 := (B0.alloc _).below bw7
    replace hb := below_trans hb (below_of1 bw7)
    clear bw7 u0 u1 u2 ul
    obtain ⟨u0, u1, u2⟩ := three_read B0
    have ul := B0.lt
    clear By y0 y1 y2 yl
    rw [HE2.out]
    by_cases hp : p ≤ f
    · have H3 := hB.take plo hp
      go_wp2_with fail
      refine (take_yes r b f p (f - p) _ hB plo hp rfl).mono ?_
      rintro e w8 ⟨rfl, bw8⟩
      replace B0 := B0.below bw8
      replace hb := below_trans hb bw8
      clear bw8 u0 u1 u2 ul
      obtain ⟨u0, u1, u2⟩ := three_read B0
      have ul := B0.lt
      by_cases hq : q ≤ f - p
      · obtain ⟨z, hz⟩ : ∃ z, z = f - p - q := ⟨_, rfl⟩
        have Z1 : Hid (z = f - p - q) := Lib.hid hz
        have Z2 : Hid (z = f - (p + q)) := Lib.hid (by omega)
        clear hz
        go_wp2_with fail
        refine (take_yes r b (f - p) q z _ H3 qlo hq Z1.out).mono ?_
        rintro e w9 ⟨rfl, bw9⟩
        replace B0 := (B0.alloc _).below bw9
        replace hb := below_trans hb (below_of1 bw9)
        clear bw9 u0 u1 u2 ul
        obtain ⟨u0, u1, u2⟩ := three_read B0
        have ul := B0.lt
        go_wp2_with fail
        refine (take_yes r b f (p + q) z _ hB (by omega) (by omega) Z2.out).mono ?_
        rintro e wa ⟨rfl, bwa⟩
        have By := (Blk.new w9 32 #[.int .i64 r, .int .i64 b, .int .i64 z]).below bwa
        obtain ⟨y0, y1, y2⟩ := three_read By
        have yl := By.lt
        replace B0 := (B0.alloc _).below bwa
        replace hb := below_trans hb (below_of1 bwa)
        clear bwa u0 u1 u2 ul
        obtain ⟨u0, u1, u2⟩ := three_read B0
        have ul := B0.lt
        go_wp2
        go_ret
        exact ⟨rfl, hb.alloc hb.size _⟩
      · go_wp2_with fail
        refine (take_full r b (f - p) q _ H3 (by omega)).mono ?_
        rintro e w9 ⟨rfl, bw9⟩
        replace B0 := (B0.alloc _).below bw9
        replace hb := below_trans hb (below_of1 bw9)
        clear bw9 u0 u1 u2 ul
        obtain ⟨u0, u1, u2⟩ := three_read B0
        have ul := B0.lt
        go_wp2_with fail
        refine (take_full r b f (p + q) _ hB (by omega)).mono ?_
        rintro e wa ⟨rfl, bwa⟩
        have By := (Blk.new w9 32 #[.int .i64 0, .int .i64 0, .int .i64 0]).below bwa
        obtain ⟨y0, y1, y2⟩ := three_read By
        have yl := By.lt
        replace B0 := (B0.alloc _).below bwa
        replace hb := below_trans hb (below_of1 bwa)
        clear bwa u0 u1 u2 ul
        obtain ⟨u0, u1, u2⟩ := three_read B0
        have ul := B0.lt
        go_wp2
        go_ret
        exact ⟨rfl, hb.alloc hb.size _⟩
    · go_wp2_with fail
      refine (take_full r b f p _ hB (by omega)).mono ?_
      rintro e w8 ⟨rfl, bw8⟩
      replace B0 := B0.below bw8
      replace hb := below_trans hb bw8
      clear bw8 u0 u1 u2 ul
      obtain ⟨u0, u1, u2⟩ := three_read B0
      have ul := B0.lt
      by_cases hq : q = 0
      · have HQ := Lib.hid hq
        clear hq
        go_wp2_with fail
        refine (take_yes 0 0 0 q 0 _ bk_lit0 qlo (by have := HQ.out; omega) (by have := HQ.out; omega)).mono ?_
        rintro e w9 ⟨rfl, bw9⟩
        replace B0 := (B0.alloc _).below bw9
        replace hb := below_trans hb (below_of1 bw9)
        clear bw9 u0 u1 u2 ul
        obtain ⟨u0, u1, u2⟩ := three_read B0
        have ul := B0.lt
        go_wp2_with fail
        refine (take_full r b f (p + q) _ hB (by omega)).mono ?_
        rintro e wa ⟨rfl, bwa⟩
        replace B0 := (B0.alloc _).below bwa
        replace hb := below_trans hb (below_of1 bwa)
        clear bwa u0 u1 u2 ul
        obtain ⟨u0, u1, u2⟩ := three_read B0
        have ul := B0.lt
        go_wp2
        go_ret
        exact ⟨rfl, hb.alloc hb.size _⟩
      · have hq' : 0 < q := by omega
        clear hq
        go_wp2_with fail
        refine (take_full 0 0 0 q _ bk_lit0 (by omega)).mono ?_
        rintro e w9 ⟨rfl, bw9⟩
        replace B0 := (B0.alloc _).below bw9
        replace hb := below_trans hb (below_of1 bw9)
        clear bw9 u0 u1 u2 ul
        obtain ⟨u0, u1, u2⟩ := three_read B0
        have ul := B0.lt
        go_wp2_with fail
        refine (take_full r b f (p + q) _ hB (by omega)).mono ?_
        rintro e wa ⟨rfl, bwa⟩
        replace B0 := (B0.alloc _).below bwa
        replace hb := below_trans hb (below_of1 bwa)
        clear bwa u0 u1 u2 ul
        obtain ⟨u0, u1, u2⟩ := three_read B0
        have ul := B0.lt
        go_wp2
        go_ret
        exact ⟨rfl, hb.alloc hb.size _⟩
  · have HE := Lib.hid (bk_no hB)
    clear hB
    go_enter Try.func11, Try.ntmps11
    go_wp2_with fail
    refine (tick_yes 2 5 2 2 5 _ bk_lit1 (by decide) (by decide) (by decide)).mono ?_
    rintro e w1 ⟨rfl, b1⟩
    have B0 := (Blk.new w 32 #[.int .i64 r, .int .i64 b, .int .i64 f]).below b1
    have hb := below_of1 b1
    obtain ⟨u0, u1, u2⟩ := three_read B0
    have ul := B0.lt
    clear b1
    go_wp2_with fail
    refine (take_yes 0 5 2 2 0 _ bk_lit2 (by decide) (by decide) (by decide)).mono ?_
    rintro e w2 ⟨rfl, bw2⟩
    replace B0 := (B0.alloc _).below bw2
    replace hb := below_trans hb (below_of1 bw2)
    clear bw2 u0 u1 u2 ul
    obtain ⟨u0, u1, u2⟩ := three_read B0
    have ul := B0.lt
    go_wp2_with fail
    refine (bcheck_any r b f _).mono ?_
    rintro e w3 ⟨rfl, bw3⟩
    replace B0 := (B0.alloc _).below bw3
    replace hb := below_trans hb (below_of1 bw3)
    clear bw3 u0 u1 u2 ul
    obtain ⟨u0, u1, u2⟩ := three_read B0
    have ul := B0.lt
    rw [HE.out]
    go_wp2
    go_ret
    exact ⟨rfl, hb⟩

end Go.Proofs.Ytbefkjglhlembaa
