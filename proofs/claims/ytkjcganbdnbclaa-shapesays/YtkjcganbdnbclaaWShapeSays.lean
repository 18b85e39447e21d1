
/-
  The walk of the law ShapeSays.
-/
import Derived.Test.YtkjcganbdnbclaaShapeR
namespace Go.Proofs.Ytkjcganbdnbclaa
set_option linter.all false
open Go.RowKit Go.Shelf

abbrev At1 (g : Nat) (h r n : Int) (B : Nat) : Prop := At 12 #[.pointer (some ⟨g + 1, 0, none⟩), .pointer (some ⟨g, 0, none⟩)] B (h.toNat + 1) (buV r n) (RBox g r n)
abbrev At2 (g : Nat) (h r n : Int) (B : Nat) : Prop := At 13 #[.pointer (some ⟨g, 0, none⟩), .pointer (some ⟨g + 1, 0, none⟩)] B (h.toNat + 1) (liV r n) (RBox g r n)
abbrev At3 (g : Nat) (h r n : Int) (B : Nat) : Prop := At 14 #[.pointer (some ⟨g + 1, 0, none⟩), .pointer (some ⟨g, 0, none⟩)] B (h.toNat + 1) (stV r n) (RBox g r n)
set_option maxHeartbeats 3200000 in
theorem walk_ShapeSays (h r n : Int) (w : World) (_hh : (Lit.int .i64 h).wf = true) (_hr : (Lit.int .i64 r).wf = true) (_hn : (Lit.int .i64 n).wf = true) :
    Calls Try.prog 3 #[.int .i64 h, .int .i64 r, .int .i64 n] w fun e w' => e = .returned (.bool true) ∧ Below w.heap.size w w' := by
  obtain ⟨W, hW⟩ : ∃ W, W = (w.alloc (.cells #[.int .i64 r] 3)).alloc (.cells #[.int .i64 n] 3) := ⟨_, rfl⟩
  obtain ⟨⟨B1, B2⟩, hz, hb⟩ := sboxes r n w W hW
  have c1 := B1.one
  have c2 := B2.one
  have HW := Lib.hid hW
  clear hW hz
  obtain ⟨M1, L1⟩ : ∃ L, Hid (L = tab (h.toNat + 1) (buV r n)) := ⟨_, Lib.hid rfl⟩
  obtain ⟨M2, L2⟩ : ∃ L, Hid (L = tab (h.toNat + 1) (liV r n)) := ⟨_, Lib.hid rfl⟩
  obtain ⟨M3, L3⟩ : ∃ L, Hid (L = tab (h.toNat + 1) (stV r n)) := ⟨_, Lib.hid rfl⟩
  by_cases r0 : r < 0
  · have o2 := Lib.hid (outB_yes (x := r) (lo := 0) (hi := 10000) (.inl r0))
    have S1 : Hid (shE h r n 0 1000000 = madeE h false) := Lib.hid (shE_made (by rw [o2.out]; rfl))
    have S2 : Hid (shE h r n 0 60 = madeE h false) := Lib.hid (shE_made (by rw [o2.out]; rfl))
    have S3 : Hid (shE h r n 1 60 = madeE h false) := Lib.hid (shE_made (by rw [o2.out]; rfl))
    have C1 : Hid (∀ B, w.heap.size + 1 < B → 0 ≤ h → h ≤ 60 → false = true → At1 w.heap.size h r n B) := Lib.hid (fun B hB h0 h60 e => absurd e (by decide))
    have C2 : Hid (∀ B, w.heap.size + 1 < B → 0 ≤ h → h ≤ 60 → false = true → At2 w.heap.size h r n B) := Lib.hid (fun B hB h0 h60 e => absurd e (by decide))
    have C3 : Hid (∀ B, w.heap.size + 1 < B → 0 ≤ h → h ≤ 60 → false = true → At3 w.heap.size h r n B) := Lib.hid (fun B hB h0 h60 e => absurd e (by decide))
    obtain ⟨Y1, Z1⟩ : ∃ Y, Hid (Y = if madeE h false = 0 then tab (h.toNat + 1) (buV r n) else []) := ⟨_, Lib.hid rfl⟩
    obtain ⟨Y2, Z2⟩ : ∃ Y, Hid (Y = if madeE h false = 0 then tab (h.toNat + 1) (liV r n) else []) := ⟨_, Lib.hid rfl⟩
    obtain ⟨Y3, Z3⟩ : ∃ Y, Hid (Y = if madeE h false = 0 then tab (h.toNat + 1) (stV r n) else []) := ⟨_, Lib.hid rfl⟩
    obtain ⟨e1, E1⟩ : ∃ e, Hid (e = madeE h false) := ⟨_, Lib.hid rfl⟩
    obtain ⟨e2, E2⟩ : ∃ e, Hid (e = madeE h false) := ⟨_, Lib.hid rfl⟩
    obtain ⟨e3, E3⟩ : ∃ e, Hid (e = madeE h false) := ⟨_, Lib.hid rfl⟩
    have K1 : Hid (e1 = 0 → Y1 = M1) := Lib.hid (fun e => by rw [Z1.out, L1.out, if_pos (by rw [← E1.out]; exact e)])
    have K2 : Hid (e2 = 0 → Y2 = M2) := Lib.hid (fun e => by rw [Z2.out, L2.out, if_pos (by rw [← E2.out]; exact e)])
    have K3 : Hid (e3 = 0 → Y3 = M3) := Lib.hid (fun e => by rw [Z3.out, L3.out, if_pos (by rw [← E3.out]; exact e)])
    go_enter Try.func3, Try.ntmps3
    go_wp2_with fail
    rw [← HW.out]
    refine (bucket_any h r n W).mono ?_
    rintro e w1 ⟨Ax, cx, rfl, ox, bw1⟩
    replace B1 := B1.below bw1
    replace B2 := B2.below bw1
    replace hb := below_trans hb bw1
    have hx := Ints.of_own ox
    clear bw1 ox c1 c2
    rw [S1.out, ← L1.out, ← E1.out]
    rw [S1.out, ← L1.out, ← E1.out] at hx
    have c1 := B1.one
    have c2 := B2.one
    go_wp2_with fail
    refine (line_any h r n _).mono ?_
    rintro e w2 ⟨Ay, cy, rfl, oy, bw2⟩
    replace B1 := B1.below bw2
    replace B2 := B2.below bw2
    replace hx := hx.below bw2
    replace hb := below_trans hb bw2
    have hy := Ints.of_own oy
    clear bw2 oy
    clear c1 c2
    rw [S2.out, ← L2.out, ← E2.out]
    rw [S2.out, ← L2.out, ← E2.out] at hy
    have c1 := B1.one
    have c2 := B2.one
    go_wp2_with fail
    refine (stair_any h r n _).mono ?_
    rintro e w3 ⟨Az, cz, rfl, oz, bw3⟩
    replace B1 := B1.below bw3
    replace B2 := B2.below bw3
    replace hx := hx.below bw3
    replace hy := hy.below bw3
    replace hb := below_trans hb bw3
    have hz := Ints.of_own oz
    clear bw3 oz
    clear c1 c2
    rw [S3.out, ← L3.out, ← E3.out]
    rw [S3.out, ← L3.out, ← E3.out] at hz
    have c1 := B1.one
    have c2 := B2.one
    go_wp2_with fail
    refine (made_any _ _ h false (buV r n) (RBox w.heap.size r n) _ Y1 Z1.out (fun a b c => C1.out _ B2.lt a b (by first | trivial | exact c)) ⟨B1, B2⟩).mono ?_
    rintro e w4 ⟨Ap, cp, rfl, op, bw4⟩
    replace B1 := B1.below bw4
    replace B2 := B2.below bw4
    replace hx := hx.below bw4
    replace hy := hy.below bw4
    replace hz := hz.below bw4
    replace hb := below_trans hb bw4
    have hp := Ints.of_own op
    clear bw4 op
    clear c1 c2
    rw [← E1.out]
    have c1 := B1.one
    have c2 := B2.one
    go_wp2_with fail
    refine (made_any _ _ h false (liV r n) (RBox w.heap.size r n) _ Y2 Z2.out (fun a b c => C2.out _ B2.lt a b (by first | trivial | exact c)) ⟨B1, B2⟩).mono ?_
    rintro e w5 ⟨Aq, cq, rfl, oq, bw5⟩
    replace B1 := B1.below bw5
    replace B2 := B2.below bw5
    replace hx := hx.below bw5
    replace hy := hy.below bw5
    replace hz := hz.below bw5
    replace hp := hp.below bw5
    replace hb := below_trans hb bw5
    have hq := Ints.of_own oq
    clear bw5 oq
    clear c1 c2
    rw [← E2.out]
    have c1 := B1.one
    have c2 := B2.one
    go_wp2_with fail
    refine (made_any _ _ h false (stV r n) (RBox w.heap.size r n) _ Y3 Z3.out (fun a b c => C3.out _ B2.lt a b (by first | trivial | exact c)) ⟨B1, B2⟩).mono ?_
    rintro e w6 ⟨As, cs, rfl, os, bw6⟩
    replace hx := hx.below bw6
    replace hy := hy.below bw6
    replace hz := hz.below bw6
    replace hp := hp.below bw6
    replace hq := hq.below bw6
    replace hb := below_trans hb bw6
    have hs := Ints.of_own os
    clear bw6 os
    clear c1 c2
    rw [← E3.out]
    go_wp2_with fail
    refine (told_at Ax Ap M1 Y1 _ _ _ _ e1 _ _ hx hp K1.out rfl rfl rfl).mono ?_
    rintro e w7 ⟨rfl, nw7, hww7⟩
    have bw7 := below_of_drewN hww7
    clear hww7
    replace hy := hy.below bw7
    replace hz := hz.below bw7
    replace hq := hq.below bw7
    replace hs := hs.below bw7
    replace hb := below_trans hb bw7
    clear bw7
    go_wp2_with fail
    refine (told_at Ay Aq M2 Y2 _ _ _ _ e2 _ _ hy hq K2.out rfl rfl rfl).mono ?_
    rintro e w8 ⟨rfl, nw8, hww8⟩
    have bw8 := below_of_drewN hww8
    clear hww8
    replace hz := hz.below bw8
    replace hs := hs.below bw8
    replace hb := below_trans hb bw8
    clear bw8
    go_wp2_with fail
    refine (told_at Az As M3 Y3 _ _ _ _ e3 _ _ hz hs K3.out rfl rfl rfl).mono ?_
    rintro e w9 ⟨rfl, nw9, hww9⟩
    have bw9 := below_of_drewN hww9
    clear hww9
    replace hb := below_trans hb bw9
    clear bw9
    go_wp2
    go_ret
    exact ⟨rfl, hb⟩
  by_cases r1 : 10000 < r
  · have o2 := Lib.hid (outB_yes (x := r) (lo := 0) (hi := 10000) (.inr r1))
    have S1 : Hid (shE h r n 0 1000000 = madeE h false) := Lib.hid (shE_made (by rw [o2.out]; rfl))
    have S2 : Hid (shE h r n 0 60 = madeE h false) := Lib.hid (shE_made (by rw [o2.out]; rfl))
    have S3 : Hid (shE h r n 1 60 = madeE h false) := Lib.hid (shE_made (by rw [o2.out]; rfl))
    have C1 : Hid (∀ B, w.heap.size + 1 < B → 0 ≤ h → h ≤ 60 → false = true → At1 w.heap.size h r n B) := Lib.hid (fun B hB h0 h60 e => absurd e (by decide))
    have C2 : Hid (∀ B, w.heap.size + 1 < B → 0 ≤ h → h ≤ 60 → false = true → At2 w.heap.size h r n B) := Lib.hid (fun B hB h0 h60 e => absurd e (by decide))
    have C3 : Hid (∀ B, w.heap.size + 1 < B → 0 ≤ h → h ≤ 60 → false = true → At3 w.heap.size h r n B) := Lib.hid (fun B hB h0 h60 e => absurd e (by decide))
    obtain ⟨Y1, Z1⟩ : ∃ Y, Hid (Y = if madeE h false = 0 then tab (h.toNat + 1) (buV r n) else []) := ⟨_, Lib.hid rfl⟩
    obtain ⟨Y2, Z2⟩ : ∃ Y, Hid (Y = if madeE h false = 0 then tab (h.toNat + 1) (liV r n) else []) := ⟨_, Lib.hid rfl⟩
    obtain ⟨Y3, Z3⟩ : ∃ Y, Hid (Y = if madeE h false = 0 then tab (h.toNat + 1) (stV r n) else []) := ⟨_, Lib.hid rfl⟩
    obtain ⟨e1, E1⟩ : ∃ e, Hid (e = madeE h false) := ⟨_, Lib.hid rfl⟩
    obtain ⟨e2, E2⟩ : ∃ e, Hid (e = madeE h false) := ⟨_, Lib.hid rfl⟩
    obtain ⟨e3, E3⟩ : ∃ e, Hid (e = madeE h false) := ⟨_, Lib.hid rfl⟩
    have K1 : Hid (e1 = 0 → Y1 = M1) := Lib.hid (fun e => by rw [Z1.out, L1.out, if_pos (by rw [← E1.out]; exact e)])
    have K2 : Hid (e2 = 0 → Y2 = M2) := Lib.hid (fun e => by rw [Z2.out, L2.out, if_pos (by rw [← E2.out]; exact e)])
    have K3 : Hid (e3 = 0 → Y3 = M3) := Lib.hid (fun e => by rw [Z3.out, L3.out, if_pos (by rw [← E3.out]; exact e)])
    go_enter Try.func3, Try.ntmps3
    go_wp2_with fail
    rw [← HW.out]
    refine (bucket_any h r n W).mono ?_
    rintro e w1 ⟨Ax, cx, rfl, ox, bw1⟩
    replace B1 := B1.below bw1
    replace B2 := B2.below bw1
    replace hb := below_trans hb bw1
    have hx := Ints.of_own ox
    clear bw1 ox c1 c2
    rw [S1.out, ← L1.out, ← E1.out]
    rw [S1.out, ← L1.out, ← E1.out] at hx
    have c1 := B1.one
    have c2 := B2.one
    go_wp2_with fail
    refine (line_any h r n _).mono ?_
    rintro e w2 ⟨Ay, cy, rfl, oy, bw2⟩
    replace B1 := B1.below bw2
    replace B2 := B2.below bw2
    replace hx := hx.below bw2
    replace hb := below_trans hb bw2
    have hy := Ints.of_own oy
    clear bw2 oy
    clear c1 c2
    rw [S2.out, ← L2.out, ← E2.out]
    rw [S2.out, ← L2.out, ← E2.out] at hy
    have c1 := B1.one
    have c2 := B2.one
    go_wp2_with fail
    refine (stair_any h r n _).mono ?_
    rintro e w3 ⟨Az, cz, rfl, oz, bw3⟩
    replace B1 := B1.below bw3
    replace B2 := B2.below bw3
    replace hx := hx.below bw3
    replace hy := hy.below bw3
    replace hb := below_trans hb bw3
    have hz := Ints.of_own oz
    clear bw3 oz
    clear c1 c2
    rw [S3.out, ← L3.out, ← E3.out]
    rw [S3.out, ← L3.out, ← E3.out] at hz
    have c1 := B1.one
    have c2 := B2.one
    go_wp2_with fail
    refine (made_any _ _ h false (buV r n) (RBox w.heap.size r n) _ Y1 Z1.out (fun a b c => C1.out _ B2.lt a b (by first | trivial | exact c)) ⟨B1, B2⟩).mono ?_
    rintro e w4 ⟨Ap, cp, rfl, op, bw4⟩
    replace B1 := B1.below bw4
    replace B2 := B2.below bw4
    replace hx := hx.below bw4
    replace hy := hy.below bw4
    replace hz := hz.below bw4
    replace hb := below_trans hb bw4
    have hp := Ints.of_own op
    clear bw4 op
    clear c1 c2
    rw [← E1.out]
    have c1 := B1.one
    have c2 := B2.one
    go_wp2_with fail
    refine (made_any _ _ h false (liV r n) (RBox w.heap.size r n) _ Y2 Z2.out (fun a b c => C2.out _ B2.lt a b (by first | trivial | exact c)) ⟨B1, B2⟩).mono ?_
    rintro e w5 ⟨Aq, cq, rfl, oq, bw5⟩
    replace B1 := B1.below bw5
    replace B2 := B2.below bw5
    replace hx := hx.below bw5
    replace hy := hy.below bw5
    replace hz := hz.below bw5
    replace hp := hp.below bw5
    replace hb := below_trans hb bw5
    have hq := Ints.of_own oq
    clear bw5 oq
    clear c1 c2
    rw [← E2.out]
    have c1 := B1.one
    have c2 := B2.one
    go_wp2_with fail
    refine (made_any _ _ h false (stV r n) (RBox w.heap.size r n) _ Y3 Z3.out (fun a b c => C3.out _ B2.lt a b (by first | trivial | exact c)) ⟨B1, B2⟩).mono ?_
    rintro e w6 ⟨As, cs, rfl, os, bw6⟩
    replace hx := hx.below bw6
    replace hy := hy.below bw6
    replace hz := hz.below bw6
    replace hp := hp.below bw6
    replace hq := hq.below bw6
    replace hb := below_trans hb bw6
    have hs := Ints.of_own os
    clear bw6 os
    clear c1 c2
    rw [← E3.out]
    go_wp2_with fail
    refine (told_at Ax Ap M1 Y1 _ _ _ _ e1 _ _ hx hp K1.out rfl rfl rfl).mono ?_
    rintro e w7 ⟨rfl, nw7, hww7⟩
    have bw7 := below_of_drewN hww7
    clear hww7
    replace hy := hy.below bw7
    replace hz := hz.below bw7
    replace hq := hq.below bw7
    replace hs := hs.below bw7
    replace hb := below_trans hb bw7
    clear bw7
    go_wp2_with fail
    refine (told_at Ay Aq M2 Y2 _ _ _ _ e2 _ _ hy hq K2.out rfl rfl rfl).mono ?_
    rintro e w8 ⟨rfl, nw8, hww8⟩
    have bw8 := below_of_drewN hww8
    clear hww8
    replace hz := hz.below bw8
    replace hs := hs.below bw8
    replace hb := below_trans hb bw8
    clear bw8
    go_wp2_with fail
    refine (told_at Az As M3 Y3 _ _ _ _ e3 _ _ hz hs K3.out rfl rfl rfl).mono ?_
    rintro e w9 ⟨rfl, nw9, hww9⟩
    have bw9 := below_of_drewN hww9
    clear hww9
    replace hb := below_trans hb bw9
    clear bw9
    go_wp2
    go_ret
    exact ⟨rfl, hb⟩
  have O := Lib.hid (outB_no (x := r) (lo := 0) (hi := 10000) (by omega) (by omega))
  by_cases n0 : n < 0
  · have P1 := Lib.hid (outB_yes (x := n) (lo := 0) (hi := 1000000) (.inl n0))
    have P2 := Lib.hid (outB_yes (x := n) (lo := 0) (hi := 60) (.inl n0))
    have P3 := Lib.hid (outB_yes (x := n) (lo := 1) (hi := 60) (.inl (by omega)))
    have S1 : Hid (shE h r n 0 1000000 = madeE h false) := Lib.hid (shE_made (by rw [O.out, P1.out]; rfl))
    have S2 : Hid (shE h r n 0 60 = madeE h false) := Lib.hid (shE_made (by rw [O.out, P2.out]; rfl))
    have S3 : Hid (shE h r n 1 60 = madeE h false) := Lib.hid (shE_made (by rw [O.out, P3.out]; rfl))
    have C1 : Hid (∀ B, w.heap.size + 1 < B → 0 ≤ h → h ≤ 60 → false = true → At1 w.heap.size h r n B) := Lib.hid (fun B hB h0 h60 e => absurd e (by decide))
    have C2 : Hid (∀ B, w.heap.size + 1 < B → 0 ≤ h → h ≤ 60 → false = true → At2 w.heap.size h r n B) := Lib.hid (fun B hB h0 h60 e => absurd e (by decide))
    have C3 : Hid (∀ B, w.heap.size + 1 < B → 0 ≤ h → h ≤ 60 → false = true → At3 w.heap.size h r n B) := Lib.hid (fun B hB h0 h60 e => absurd e (by decide))
    obtain ⟨Y1, Z1⟩ : ∃ Y, Hid (Y = if madeE h false = 0 then tab (h.toNat + 1) (buV r n) else []) := ⟨_, Lib.hid rfl⟩
    obtain ⟨Y2, Z2⟩ : ∃ Y, Hid (Y = if madeE h false = 0 then tab (h.toNat + 1) (liV r n) else []) := ⟨_, Lib.hid rfl⟩
    obtain ⟨Y3, Z3⟩ : ∃ Y, Hid (Y = if madeE h false = 0 then tab (h.toNat + 1) (stV r n) else []) := ⟨_, Lib.hid rfl⟩
    obtain ⟨e1, E1⟩ : ∃ e, Hid (e = madeE h false) := ⟨_, Lib.hid rfl⟩
    obtain ⟨e2, E2⟩ : ∃ e, Hid (e = madeE h false) := ⟨_, Lib.hid rfl⟩
    obtain ⟨e3, E3⟩ : ∃ e, Hid (e = madeE h false) := ⟨_, Lib.hid rfl⟩
    have K1 : Hid (e1 = 0 → Y1 = M1) := Lib.hid (fun e => by rw [Z1.out, L1.out, if_pos (by rw [← E1.out]; exact e)])
    have K2 : Hid (e2 = 0 → Y2 = M2) := Lib.hid (fun e => by rw [Z2.out, L2.out, if_pos (by rw [← E2.out]; exact e)])
    have K3 : Hid (e3 = 0 → Y3 = M3) := Lib.hid (fun e => by rw [Z3.out, L3.out, if_pos (by rw [← E3.out]; exact e)])
    go_enter Try.func3, Try.ntmps3
    go_wp2_with fail
    rw [← HW.out]
    refine (bucket_any h r n W).mono ?_
    rintro e w1 ⟨Ax, cx, rfl, ox, bw1⟩
    replace B1 := B1.below bw1
    replace B2 := B2.below bw1
    replace hb := below_trans hb bw1
    have hx := Ints.of_own ox
    clear bw1 ox c1 c2
    rw [S1.out, ← L1.out, ← E1.out]
    rw [S1.out, ← L1.out, ← E1.out] at hx
    have c1 := B1.one
    have c2 := B2.one
    go_wp2_with fail
    refine (line_any h r n _).mono ?_
    rintro e w2 ⟨Ay, cy, rfl, oy, bw2⟩
    replace B1 := B1.below bw2
    replace B2 := B2.below bw2
    replace hx := hx.below bw2
    replace hb := below_trans hb bw2
    have hy := Ints.of_own oy
    clear bw2 oy
    clear c1 c2
    rw [S2.out, ← L2.out, ← E2.out]
    rw [S2.out, ← L2.out, ← E2.out] at hy
    have c1 := B1.one
    have c2 := B2.one
    go_wp2_with fail
    refine (stair_any h r n _).mono ?_
    rintro e w3 ⟨Az, cz, rfl, oz, bw3⟩
    replace B1 := B1.below bw3
    replace B2 := B2.below bw3
    replace hx := hx.below bw3
    replace hy := hy.below bw3
    replace hb := below_trans hb bw3
    have hz := Ints.of_own oz
    clear bw3 oz
    clear c1 c2
    rw [S3.out, ← L3.out, ← E3.out]
    rw [S3.out, ← L3.out, ← E3.out] at hz
    have c1 := B1.one
    have c2 := B2.one
    go_wp2_with fail
    refine (made_any _ _ h false (buV r n) (RBox w.heap.size r n) _ Y1 Z1.out (fun a b c => C1.out _ B2.lt a b (by first | trivial | exact c)) ⟨B1, B2⟩).mono ?_
    rintro e w4 ⟨Ap, cp, rfl, op, bw4⟩
    replace B1 := B1.below bw4
    replace B2 := B2.below bw4
    replace hx := hx.below bw4
    replace hy := hy.below bw4
    replace hz := hz.below bw4
    replace hb := below_trans hb bw4
    have hp := Ints.of_own op
    clear bw4 op
    clear c1 c2
    rw [← E1.out]
    have c1 := B1.one
    have c2 := B2.one
    go_wp2_with fail
    refine (made_any _ _ h false (liV r n) (RBox w.heap.size r n) _ Y2 Z2.out (fun a b c => C2.out _ B2.lt a b (by first | trivial | exact c)) ⟨B1, B2⟩).mono ?_
    rintro e w5 ⟨Aq, cq, rfl, oq, bw5⟩
    replace B1 := B1.below bw5
    replace B2 := B2.below bw5
    replace hx := hx.below bw5
    replace hy := hy.below bw5
    replace hz := hz.below bw5
    replace hp := hp.below bw5
    replace hb := below_trans hb bw5
    have hq := Ints.of_own oq
    clear bw5 oq
    clear c1 c2
    rw [← E2.out]
    have c1 := B1.one
    have c2 := B2.one
    go_wp2_with fail
    refine (made_any _ _ h false (stV r n) (RBox w.heap.size r n) _ Y3 Z3.out (fun a b c => C3.out _ B2.lt a b (by first | trivial | exact c)) ⟨B1, B2⟩).mono ?_
    rintro e w6 ⟨As, cs, rfl, os, bw6⟩
    replace hx := hx.below bw6
    replace hy := hy.below bw6
    replace hz := hz.below bw6
    replace hp := hp.below bw6
    replace hq := hq.below bw6
    replace hb := below_trans hb bw6
    have hs := Ints.of_own os
    clear bw6 os
    clear c1 c2
    rw [← E3.out]
    go_wp2_with fail
    refine (told_at Ax Ap M1 Y1 _ _ _ _ e1 _ _ hx hp K1.out rfl rfl rfl).mono ?_
    rintro e w7 ⟨rfl, nw7, hww7⟩
    have bw7 := below_of_drewN hww7
    clear hww7
    replace hy := hy.below bw7
    replace hz := hz.below bw7
    replace hq := hq.below bw7
    replace hs := hs.below bw7
    replace hb := below_trans hb bw7
    clear bw7
    go_wp2_with fail
    refine (told_at Ay Aq M2 Y2 _ _ _ _ e2 _ _ hy hq K2.out rfl rfl rfl).mono ?_
    rintro e w8 ⟨rfl, nw8, hww8⟩
    have bw8 := below_of_drewN hww8
    clear hww8
    replace hz := hz.below bw8
    replace hs := hs.below bw8
    replace hb := below_trans hb bw8
    clear bw8
    go_wp2_with fail
    refine (told_at Az As M3 Y3 _ _ _ _ e3 _ _ hz hs K3.out rfl rfl rfl).mono ?_
    rintro e w9 ⟨rfl, nw9, hww9⟩
    have bw9 := below_of_drewN hww9
    clear hww9
    replace hb := below_trans hb bw9
    clear bw9
    go_wp2
    go_ret
    exact ⟨rfl, hb⟩
  by_cases n1 : 1000000 < n
  · have dA : decide (n ≤ 1000000) = false := decide_eq_false (by omega)
    have dB : decide (n ≤ 60) = false := decide_eq_false (by omega)
    have P1 := Lib.hid (outB_yes (x := n) (lo := 0) (hi := 1000000) (.inr n1))
    have P2 := Lib.hid (outB_yes (x := n) (lo := 0) (hi := 60) (.inr (by omega)))
    have P3 := Lib.hid (outB_yes (x := n) (lo := 1) (hi := 60) (.inr (by omega)))
    have S1 : Hid (shE h r n 0 1000000 = madeE h false) := Lib.hid (shE_made (by rw [O.out, P1.out]; rfl))
    have S2 : Hid (shE h r n 0 60 = madeE h false) := Lib.hid (shE_made (by rw [O.out, P2.out]; rfl))
    have S3 : Hid (shE h r n 1 60 = madeE h false) := Lib.hid (shE_made (by rw [O.out, P3.out]; rfl))
    have C1 : Hid (∀ B, w.heap.size + 1 < B → 0 ≤ h → h ≤ 60 → false = true → At1 w.heap.size h r n B) := Lib.hid (fun B hB h0 h60 e => absurd e (by decide))
    have C2 : Hid (∀ B, w.heap.size + 1 < B → 0 ≤ h → h ≤ 60 → false = true → At2 w.heap.size h r n B) := Lib.hid (fun B hB h0 h60 e => absurd e (by decide))
    have C3 : Hid (∀ B, w.heap.size + 1 < B → 0 ≤ h → h ≤ 60 → false = true → At3 w.heap.size h r n B) := Lib.hid (fun B hB h0 h60 e => absurd e (by decide))
    obtain ⟨Y1, Z1⟩ : ∃ Y, Hid (Y = if madeE h false = 0 then tab (h.toNat + 1) (buV r n) else []) := ⟨_, Lib.hid rfl⟩
    obtain ⟨Y2, Z2⟩ : ∃ Y, Hid (Y = if madeE h false = 0 then tab (h.toNat + 1) (liV r n) else []) := ⟨_, Lib.hid rfl⟩
    obtain ⟨Y3, Z3⟩ : ∃ Y, Hid (Y = if madeE h false = 0 then tab (h.toNat + 1) (stV r n) else []) := ⟨_, Lib.hid rfl⟩
    obtain ⟨e1, E1⟩ : ∃ e, Hid (e = madeE h false) := ⟨_, Lib.hid rfl⟩
    obtain ⟨e2, E2⟩ : ∃ e, Hid (e = madeE h false) := ⟨_, Lib.hid rfl⟩
    obtain ⟨e3, E3⟩ : ∃ e, Hid (e = madeE h false) := ⟨_, Lib.hid rfl⟩
    have K1 : Hid (e1 = 0 → Y1 = M1) := Lib.hid (fun e => by rw [Z1.out, L1.out, if_pos (by rw [← E1.out]; exact e)])
    have K2 : Hid (e2 = 0 → Y2 = M2) := Lib.hid (fun e => by rw [Z2.out, L2.out, if_pos (by rw [← E2.out]; exact e)])
    have K3 : Hid (e3 = 0 → Y3 = M3) := Lib.hid (fun e => by rw [Z3.out, L3.out, if_pos (by rw [← E3.out]; exact e)])
    go_enter Try.func3, Try.ntmps3
    go_wp2_with fail
    rw [← HW.out]
    refine (bucket_any h r n W).mono ?_
    rintro e w1 ⟨Ax, cx, rfl, ox, bw1⟩
    replace B1 := B1.below bw1
    replace B2 := B2.below bw1
    replace hb := below_trans hb bw1
    have hx := Ints.of_own ox
    clear bw1 ox c1 c2
    rw [S1.out, ← L1.out, ← E1.out]
    rw [S1.out, ← L1.out, ← E1.out] at hx
    have c1 := B1.one
    have c2 := B2.one
    go_wp2_with fail
    refine (line_any h r n _).mono ?_
    rintro e w2 ⟨Ay, cy, rfl, oy, bw2⟩
    replace B1 := B1.below bw2
    replace B2 := B2.below bw2
    replace hx := hx.below bw2
    replace hb := below_trans hb bw2
    have hy := Ints.of_own oy
    clear bw2 oy
    clear c1 c2
    rw [S2.out, ← L2.out, ← E2.out]
    rw [S2.out, ← L2.out, ← E2.out] at hy
    have c1 := B1.one
    have c2 := B2.one
    go_wp2_with fail
    refine (stair_any h r n _).mono ?_
    rintro e w3 ⟨Az, cz, rfl, oz, bw3⟩
    replace B1 := B1.below bw3
    replace B2 := B2.below bw3
    replace hx := hx.below bw3
    replace hy := hy.below bw3
    replace hb := below_trans hb bw3
    have hz := Ints.of_own oz
    clear bw3 oz
    clear c1 c2
    rw [S3.out, ← L3.out, ← E3.out]
    rw [S3.out, ← L3.out, ← E3.out] at hz
    have c1 := B1.one
    have c2 := B2.one
    go_wp2_with fail
    refine (made_any _ _ h false (buV r n) (RBox w.heap.size r n) _ Y1 Z1.out (fun a b c => C1.out _ B2.lt a b (by first | trivial | exact c)) ⟨B1, B2⟩).mono ?_
    rintro e w4 ⟨Ap, cp, rfl, op, bw4⟩
    replace B1 := B1.below bw4
    replace B2 := B2.below bw4
    replace hx := hx.below bw4
    replace hy := hy.below bw4
    replace hz := hz.below bw4
    replace hb := below_trans hb bw4
    have hp := Ints.of_own op
    clear bw4 op
    clear c1 c2
    rw [← E1.out]
    have c1 := B1.one
    have c2 := B2.one
    go_wp2_with fail
    refine (made_any _ _ h false (liV r n) (RBox w.heap.size r n) _ Y2 Z2.out (fun a b c => C2.out _ B2.lt a b (by first | trivial | exact c)) ⟨B1, B2⟩).mono ?_
    rintro e w5 ⟨Aq, cq, rfl, oq, bw5⟩
    replace B1 := B1.below bw5
    replace B2 := B2.below bw5
    replace hx := hx.below bw5
    replace hy := hy.below bw5
    replace hz := hz.below bw5
    replace hp := hp.below bw5
    replace hb := below_trans hb bw5
    have hq := Ints.of_own oq
    clear bw5 oq
    clear c1 c2
    rw [← E2.out]
    have c1 := B1.one
    have c2 := B2.one
    go_wp2_with fail
    refine (made_any _ _ h false (stV r n) (RBox w.heap.size r n) _ Y3 Z3.out (fun a b c => C3.out _ B2.lt a b (by first | trivial | exact c)) ⟨B1, B2⟩).mono ?_
    rintro e w6 ⟨As, cs, rfl, os, bw6⟩
    replace hx := hx.below bw6
    replace hy := hy.below bw6
    replace hz := hz.below bw6
    replace hp := hp.below bw6
    replace hq := hq.below bw6
    replace hb := below_trans hb bw6
    have hs := Ints.of_own os
    clear bw6 os
    clear c1 c2
    rw [← E3.out]
    go_wp2_with fail
    refine (told_at Ax Ap M1 Y1 _ _ _ _ e1 _ _ hx hp K1.out rfl rfl rfl).mono ?_
    rintro e w7 ⟨rfl, nw7, hww7⟩
    have bw7 := below_of_drewN hww7
    clear hww7
    replace hy := hy.below bw7
    replace hz := hz.below bw7
    replace hq := hq.below bw7
    replace hs := hs.below bw7
    replace hb := below_trans hb bw7
    clear bw7
    go_wp2_with fail
    refine (told_at Ay Aq M2 Y2 _ _ _ _ e2 _ _ hy hq K2.out rfl rfl rfl).mono ?_
    rintro e w8 ⟨rfl, nw8, hww8⟩
    have bw8 := below_of_drewN hww8
    clear hww8
    replace hz := hz.below bw8
    replace hs := hs.below bw8
    replace hb := below_trans hb bw8
    clear bw8
    go_wp2_with fail
    refine (told_at Az As M3 Y3 _ _ _ _ e3 _ _ hz hs K3.out rfl rfl rfl).mono ?_
    rintro e w9 ⟨rfl, nw9, hww9⟩
    have bw9 := below_of_drewN hww9
    clear hww9
    replace hb := below_trans hb bw9
    clear bw9
    go_wp2
    go_ret
    exact ⟨rfl, hb⟩
  have P1 := Lib.hid (outB_no (x := n) (lo := 0) (hi := 1000000) (by omega) (by omega))
  have dA : decide (n ≤ 1000000) = true := decide_eq_true (by omega)
  by_cases n2 : 60 < n
  · have dB : decide (n ≤ 60) = false := decide_eq_false (by omega)
    have P2 := Lib.hid (outB_yes (x := n) (lo := 0) (hi := 60) (.inr (by omega)))
    have P3 := Lib.hid (outB_yes (x := n) (lo := 1) (hi := 60) (.inr (by omega)))
    have S1 : Hid (shE h r n 0 1000000 = madeE h true) := Lib.hid (shE_made (by rw [O.out, P1.out]; rfl))
    have S2 : Hid (shE h r n 0 60 = madeE h false) := Lib.hid (shE_made (by rw [O.out, P2.out]; rfl))
    have S3 : Hid (shE h r n 1 60 = madeE h false) := Lib.hid (shE_made (by rw [O.out, P3.out]; rfl))
    have C1 : Hid (∀ B, w.heap.size + 1 < B → 0 ≤ h → h ≤ 60 → true = true → At1 w.heap.size h r n B) := Lib.hid (fun B hB h0 h60 e => ss1_at _ r n _ B hB (by omega) (by omega) (by omega) (by omega) (by omega))
    have C2 : Hid (∀ B, w.heap.size + 1 < B → 0 ≤ h → h ≤ 60 → false = true → At2 w.heap.size h r n B) := Lib.hid (fun B hB h0 h60 e => absurd e (by decide))
    have C3 : Hid (∀ B, w.heap.size + 1 < B → 0 ≤ h → h ≤ 60 → false = true → At3 w.heap.size h r n B) := Lib.hid (fun B hB h0 h60 e => absurd e (by decide))
    obtain ⟨Y1, Z1⟩ : ∃ Y, Hid (Y = if madeE h true = 0 then tab (h.toNat + 1) (buV r n) else []) := ⟨_, Lib.hid rfl⟩
    obtain ⟨Y2, Z2⟩ : ∃ Y, Hid (Y = if madeE h false = 0 then tab (h.toNat + 1) (liV r n) else []) := ⟨_, Lib.hid rfl⟩
    obtain ⟨Y3, Z3⟩ : ∃ Y, Hid (Y = if madeE h false = 0 then tab (h.toNat + 1) (stV r n) else []) := ⟨_, Lib.hid rfl⟩
    obtain ⟨e1, E1⟩ : ∃ e, Hid (e = madeE h true) := ⟨_, Lib.hid rfl⟩
    obtain ⟨e2, E2⟩ : ∃ e, Hid (e = madeE h false) := ⟨_, Lib.hid rfl⟩
    obtain ⟨e3, E3⟩ : ∃ e, Hid (e = madeE h false) := ⟨_, Lib.hid rfl⟩
    have K1 : Hid (e1 = 0 → Y1 = M1) := Lib.hid (fun e => by rw [Z1.out, L1.out, if_pos (by rw [← E1.out]; exact e)])
    have K2 : Hid (e2 = 0 → Y2 = M2) := Lib.hid (fun e => by rw [Z2.out, L2.out, if_pos (by rw [← E2.out]; exact e)])
    have K3 : Hid (e3 = 0 → Y3 = M3) := Lib.hid (fun e => by rw [Z3.out, L3.out, if_pos (by rw [← E3.out]; exact e)])
    go_enter Try.func3, Try.ntmps3
    go_wp2_with fail
    rw [← HW.out]
    refine (bucket_any h r n W).mono ?_
    rintro e w1 ⟨Ax, cx, rfl, ox, bw1⟩
    replace B1 := B1.below bw1
    replace B2 := B2.below bw1
    replace hb := below_trans hb bw1
    have hx := Ints.of_own ox
    clear bw1 ox c1 c2
    rw [S1.out, ← L1.out, ← E1.out]
    rw [S1.out, ← L1.out, ← E1.out] at hx
    have c1 := B1.one
    have c2 := B2.one
    go_wp2_with fail
    refine (line_any h r n _).mono ?_
    rintro e w2 ⟨Ay, cy, rfl, oy, bw2⟩
    replace B1 := B1.below bw2
    replace B2 := B2.below bw2
    replace hx := hx.below bw2
    replace hb := below_trans hb bw2
    have hy := Ints.of_own oy
    clear bw2 oy
    clear c1 c2
    rw [S2.out, ← L2.out, ← E2.out]
    rw [S2.out, ← L2.out, ← E2.out] at hy
    have c1 := B1.one
    have c2 := B2.one
    go_wp2_with fail
    refine (stair_any h r n _).mono ?_
    rintro e w3 ⟨Az, cz, rfl, oz, bw3⟩
    replace B1 := B1.below bw3
    replace B2 := B2.below bw3
    replace hx := hx.below bw3
    replace hy := hy.below bw3
    replace hb := below_trans hb bw3
    have hz := Ints.of_own oz
    clear bw3 oz
    clear c1 c2
    rw [S3.out, ← L3.out, ← E3.out]
    rw [S3.out, ← L3.out, ← E3.out] at hz
    have c1 := B1.one
    have c2 := B2.one
    go_wp2_with fail
    refine (made_any _ _ h true (buV r n) (RBox w.heap.size r n) _ Y1 Z1.out (fun a b c => C1.out _ B2.lt a b (by first | trivial | exact c)) ⟨B1, B2⟩).mono ?_
    rintro e w4 ⟨Ap, cp, rfl, op, bw4⟩
    replace B1 := B1.below bw4
    replace B2 := B2.below bw4
    replace hx := hx.below bw4
    replace hy := hy.below bw4
    replace hz := hz.below bw4
    replace hb := below_trans hb bw4
    have hp := Ints.of_own op
    clear bw4 op
    clear c1 c2
    rw [← E1.out]
    have c1 := B1.one
    have c2 := B2.one
    go_wp2_with fail
    refine (made_any _ _ h false (liV r n) (RBox w.heap.size r n) _ Y2 Z2.out (fun a b c => C2.out _ B2.lt a b (by first | trivial | exact c)) ⟨B1, B2⟩).mono ?_
    rintro e w5 ⟨Aq, cq, rfl, oq, bw5⟩
    replace B1 := B1.below bw5
    replace B2 := B2.below bw5
    replace hx := hx.below bw5
    replace hy := hy.below bw5
    replace hz := hz.below bw5
    replace hp := hp.below bw5
    replace hb := below_trans hb bw5
    have hq := Ints.of_own oq
    clear bw5 oq
    clear c1 c2
    rw [← E2.out]
    have c1 := B1.one
    have c2 := B2.one
    go_wp2_with fail
    refine (made_any _ _ h false (stV r n) (RBox w.heap.size r n) _ Y3 Z3.out (fun a b c => C3.out _ B2.lt a b (by first | trivial | exact c)) ⟨B1, B2⟩).mono ?_
    rintro e w6 ⟨As, cs, rfl, os, bw6⟩
    replace hx := hx.below bw6
    replace hy := hy.below bw6
    replace hz := hz.below bw6
    replace hp := hp.below bw6
    replace hq := hq.below bw6
    replace hb := below_trans hb bw6
    have hs := Ints.of_own os
    clear bw6 os
    clear c1 c2
    rw [← E3.out]
    go_wp2_with fail
    refine (told_at Ax Ap M1 Y1 _ _ _ _ e1 _ _ hx hp K1.out rfl rfl rfl).mono ?_
    rintro e w7 ⟨rfl, nw7, hww7⟩
    have bw7 := below_of_drewN hww7
    clear hww7
    replace hy := hy.below bw7
    replace hz := hz.below bw7
    replace hq := hq.below bw7
    replace hs := hs.below bw7
    replace hb := below_trans hb bw7
    clear bw7
    go_wp2_with fail
    refine (told_at Ay Aq M2 Y2 _ _ _ _ e2 _ _ hy hq K2.out rfl rfl rfl).mono ?_
    rintro e w8 ⟨rfl, nw8, hww8⟩
    have bw8 := below_of_drewN hww8
    clear hww8
    replace hz := hz.below bw8
    replace hs := hs.below bw8
    replace hb := below_trans hb bw8
    clear bw8
    go_wp2_with fail
    refine (told_at Az As M3 Y3 _ _ _ _ e3 _ _ hz hs K3.out rfl rfl rfl).mono ?_
    rintro e w9 ⟨rfl, nw9, hww9⟩
    have bw9 := below_of_drewN hww9
    clear hww9
    replace hb := below_trans hb bw9
    clear bw9
    go_wp2
    go_ret
    exact ⟨rfl, hb⟩
  have P2 := Lib.hid (outB_no (x := n) (lo := 0) (hi := 60) (by omega) (by omega))
  have dB : decide (n ≤ 60) = true := decide_eq_true (by omega)
  by_cases n3 : n < 1
  · have dC : decide (1 ≤ n) = false := decide_eq_false (by omega)
    have P3 := Lib.hid (outB_yes (x := n) (lo := 1) (hi := 60) (.inl (by omega)))
    have S1 : Hid (shE h r n 0 1000000 = madeE h true) := Lib.hid (shE_made (by rw [O.out, P1.out]; rfl))
    have S2 : Hid (shE h r n 0 60 = madeE h true) := Lib.hid (shE_made (by rw [O.out, P2.out]; rfl))
    have S3 : Hid (shE h r n 1 60 = madeE h false) := Lib.hid (shE_made (by rw [O.out, P3.out]; rfl))
    have C1 : Hid (∀ B, w.heap.size + 1 < B → 0 ≤ h → h ≤ 60 → true = true → At1 w.heap.size h r n B) := Lib.hid (fun B hB h0 h60 e => ss1_at _ r n _ B hB (by omega) (by omega) (by omega) (by omega) (by omega))
    have C2 : Hid (∀ B, w.heap.size + 1 < B → 0 ≤ h → h ≤ 60 → true = true → At2 w.heap.size h r n B) := Lib.hid (fun B hB h0 h60 e => ss2_at _ r n _ B hB (by omega) (by omega) (by omega) (by omega) (by omega))
    have C3 : Hid (∀ B, w.heap.size + 1 < B → 0 ≤ h → h ≤ 60 → false = true → At3 w.heap.size h r n B) := Lib.hid (fun B hB h0 h60 e => absurd e (by decide))
    obtain ⟨Y1, Z1⟩ : ∃ Y, Hid (Y = if madeE h true = 0 then tab (h.toNat + 1) (buV r n) else []) := ⟨_, Lib.hid rfl⟩
    obtain ⟨Y2, Z2⟩ : ∃ Y, Hid (Y = if madeE h true = 0 then tab (h.toNat + 1) (liV r n) else []) := ⟨_, Lib.hid rfl⟩
    obtain ⟨Y3, Z3⟩ : ∃ Y, Hid (Y = if madeE h false = 0 then tab (h.toNat + 1) (stV r n) else []) := ⟨_, Lib.hid rfl⟩
    obtain ⟨e1, E1⟩ : ∃ e, Hid (e = madeE h true) := ⟨_, Lib.hid rfl⟩
    obtain ⟨e2, E2⟩ : ∃ e, Hid (e = madeE h true) := ⟨_, Lib.hid rfl⟩
    obtain ⟨e3, E3⟩ : ∃ e, Hid (e = madeE h false) := ⟨_, Lib.hid rfl⟩
    have K1 : Hid (e1 = 0 → Y1 = M1) := Lib.hid (fun e => by rw [Z1.out, L1.out, if_pos (by rw [← E1.out]; exact e)])
    have K2 : Hid (e2 = 0 → Y2 = M2) := Lib.hid (fun e => by rw [Z2.out, L2.out, if_pos (by rw [← E2.out]; exact e)])
    have K3 : Hid (e3 = 0 → Y3 = M3) := Lib.hid (fun e => by rw [Z3.out, L3.out, if_pos (by rw [← E3.out]; exact e)])
    go_enter Try.func3, Try.ntmps3
    go_wp2_with fail
    rw [← HW.out]
    refine (bucket_any h r n W).mono ?_
    rintro e w1 ⟨Ax, cx, rfl, ox, bw1⟩
    replace B1 := B1.below bw1
    replace B2 := B2.below bw1
    replace hb := below_trans hb bw1
    have hx := Ints.of_own ox
    clear bw1 ox c1 c2
    rw [S1.out, ← L1.out, ← E1.out]
    rw [S1.out, ← L1.out, ← E1.out] at hx
    have c1 := B1.one
    have c2 := B2.one
    go_wp2_with fail
    refine (line_any h r n _).mono ?_
    rintro e w2 ⟨Ay, cy, rfl, oy, bw2⟩
    replace B1 := B1.below bw2
    replace B2 := B2.below bw2
    replace hx := hx.below bw2
    replace hb := below_trans hb bw2
    have hy := Ints.of_own oy
    clear bw2 oy
    clear c1 c2
    rw [S2.out, ← L2.out, ← E2.out]
    rw [S2.out, ← L2.out, ← E2.out] at hy
    have c1 := B1.one
    have c2 := B2.one
    go_wp2_with fail
    refine (stair_any h r n _).mono ?_
    rintro e w3 ⟨Az, cz, rfl, oz, bw3⟩
    replace B1 := B1.below bw3
    replace B2 := B2.below bw3
    replace hx := hx.below bw3
    replace hy := hy.below bw3
    replace hb := below_trans hb bw3
    have hz := Ints.of_own oz
    clear bw3 oz
    clear c1 c2
    rw [S3.out, ← L3.out, ← E3.out]
    rw [S3.out, ← L3.out, ← E3.out] at hz
    have c1 := B1.one
    have c2 := B2.one
    go_wp2_with fail
    refine (made_any _ _ h true (buV r n) (RBox w.heap.size r n) _ Y1 Z1.out (fun a b c => C1.out _ B2.lt a b (by first | trivial | exact c)) ⟨B1, B2⟩).mono ?_
    rintro e w4 ⟨Ap, cp, rfl, op, bw4⟩
    replace B1 := B1.below bw4
    replace B2 := B2.below bw4
    replace hx := hx.below bw4
    replace hy := hy.below bw4
    replace hz := hz.below bw4
    replace hb := below_trans hb bw4
    have hp := Ints.of_own op
    clear bw4 op
    clear c1 c2
    rw [← E1.out]
    have c1 := B1.one
    have c2 := B2.one
    go_wp2_with fail
    refine (made_any _ _ h true (liV r n) (RBox w.heap.size r n) _ Y2 Z2.out (fun a b c => C2.out _ B2.lt a b (by first | trivial | exact c)) ⟨B1, B2⟩).mono ?_
    rintro e w5 ⟨Aq, cq, rfl, oq, bw5⟩
    replace B1 := B1.below bw5
    replace B2 := B2.below bw5
    replace hx := hx.below bw5
    replace hy := hy.below bw5
    replace hz := hz.below bw5
    replace hp := hp.below bw5
    replace hb := below_trans hb bw5
    have hq := Ints.of_own oq
    clear bw5 oq
    clear c1 c2
    rw [← E2.out]
    have c1 := B1.one
    have c2 := B2.one
    go_wp2_with fail
    refine (made_any _ _ h false (stV r n) (RBox w.heap.size r n) _ Y3 Z3.out (fun a b c => C3.out _ B2.lt a b (by first | trivial | exact c)) ⟨B1, B2⟩).mono ?_
    rintro e w6 ⟨As, cs, rfl, os, bw6⟩
    replace hx := hx.below bw6
    replace hy := hy.below bw6
    replace hz := hz.below bw6
    replace hp := hp.below bw6
    replace hq := hq.below bw6
    replace hb := below_trans hb bw6
    have hs := Ints.of_own os
    clear bw6 os
    clear c1 c2
    rw [← E3.out]
    go_wp2_with fail
    refine (told_at Ax Ap M1 Y1 _ _ _ _ e1 _ _ hx hp K1.out rfl rfl rfl).mono ?_
    rintro e w7 ⟨rfl, nw7, hww7⟩
    have bw7 := below_of_drewN hww7
    clear hww7
    replace hy := hy.below bw7
    replace hz := hz.below bw7
    replace hq := hq.below bw7
    replace hs := hs.below bw7
    replace hb := below_trans hb bw7
    clear bw7
    go_wp2_with fail
    refine (told_at Ay Aq M2 Y2 _ _ _ _ e2 _ _ hy hq K2.out rfl rfl rfl).mono ?_
    rintro e w8 ⟨rfl, nw8, hww8⟩
    have bw8 := below_of_drewN hww8
    clear hww8
    replace hz := hz.below bw8
    replace hs := hs.below bw8
    replace hb := below_trans hb bw8
    clear bw8
    go_wp2_with fail
    refine (told_at Az As M3 Y3 _ _ _ _ e3 _ _ hz hs K3.out rfl rfl rfl).mono ?_
    rintro e w9 ⟨rfl, nw9, hww9⟩
    have bw9 := below_of_drewN hww9
    clear hww9
    replace hb := below_trans hb bw9
    clear bw9
    go_wp2
    go_ret
    exact ⟨rfl, hb⟩
  have P3 := Lib.hid (outB_no (x := n) (lo := 1) (hi := 60) (by omega) (by omega))
  have S1 : Hid (shE h r n 0 1000000 = madeE h true) := Lib.hid (shE_made (by rw [O.out, P1.out]; rfl))
  have S2 : Hid (shE h r n 0 60 = madeE h true) := Lib.hid (shE_made (by rw [O.out, P2.out]; rfl))
  have S3 : Hid (shE h r n 1 60 = madeE h true) := Lib.hid (shE_made (by rw [O.out, P3.out]; rfl))
  have C1 : Hid (∀ B, w.heap.size + 1 < B → 0 ≤ h → h ≤ 60 → true = true → At1 w.heap.size h r n B) := Lib.hid (fun B hB h0 h60 e => ss1_at _ r n _ B hB (by omega) (by omega) (by omega) (by omega) (by omega))
  have C2 : Hid (∀ B, w.heap.size + 1 < B → 0 ≤ h → h ≤ 60 → true = true → At2 w.heap.size h r n B) := Lib.hid (fun B hB h0 h60 e => ss2_at _ r n _ B hB (by omega) (by omega) (by omega) (by omega) (by omega))
  have C3 : Hid (∀ B, w.heap.size + 1 < B → 0 ≤ h → h ≤ 60 → true = true → At3 w.heap.size h r n B) := Lib.hid (fun B hB h0 h60 e => ss3_at _ r n _ B hB (by omega) (by omega) (by omega) (by omega) (by omega))
  obtain ⟨Y1, Z1⟩ : ∃ Y, Hid (Y = if madeE h true = 0 then tab (h.toNat + 1) (buV r n) else []) := ⟨_, Lib.hid rfl⟩
  obtain ⟨Y2, Z2⟩ : ∃ Y, Hid (Y = if madeE h true = 0 then tab (h.toNat + 1) (liV r n) else []) := ⟨_, Lib.hid rfl⟩
  obtain ⟨Y3, Z3⟩ : ∃ Y, Hid (Y = if madeE h true = 0 then tab (h.toNat + 1) (stV r n) else []) := ⟨_, Lib.hid rfl⟩
  obtain ⟨e1, E1⟩ : ∃ e, Hid (e = madeE h true) := ⟨_, Lib.hid rfl⟩
  obtain ⟨e2, E2⟩ : ∃ e, Hid (e = madeE h true) := ⟨_, Lib.hid rfl⟩
  obtain ⟨e3, E3⟩ : ∃ e, Hid (e = madeE h true) := ⟨_, Lib.hid rfl⟩
  have K1 : Hid (e1 = 0 → Y1 = M1) := Lib.hid (fun e => by rw [Z1.out, L1.out, if_pos (by rw [← E1.out]; exact e)])
  have K2 : Hid (e2 = 0 → Y2 = M2) := Lib.hid (fun e => by rw [Z2.out, L2.out, if_pos (by rw [← E2.out]; exact e)])
  have K3 : Hid (e3 = 0 → Y3 = M3) := Lib.hid (fun e => by rw [Z3.out, L3.out, if_pos (by rw [← E3.out]; exact e)])
  go_enter Try.func3, Try.ntmps3
  go_wp2_with fail
  rw [← HW.out]
  refine (bucket_any h r n W).mono ?_
  rintro e w1 ⟨Ax, cx, rfl, ox, bw1⟩
  replace B1 := B1.below bw1
  replace B2 := B2.below bw1
  replace hb := below_trans hb bw1
  have hx := Ints.of_own ox
  clear bw1 ox c1 c2
  rw [S1.out, ← L1.out, ← E1.out]
  rw [S1.out, ← L1.out, ← E1.out] at hx
  have c1 := B1.one
  have c2 := B2.one
  go_wp2_with fail
  refine (line_any h r n _).mono ?_
  rintro e w2 ⟨Ay, cy, rfl, oy, bw2⟩
  replace B1 := B1.below bw2
  replace B2 := B2.below bw2
  replace hx := hx.below bw2
  replace hb := below_trans hb bw2
  have hy := Ints.of_own oy
  clear bw2 oy
  clear c1 c2
  rw [S2.out, ← L2.out, ← E2.out]
  rw [S2.out, ← L2.out, ← E2.out] at hy
  have c1 := B1.one
  have c2 := B2.one
  go_wp2_with fail
  refine (stair_any h r n _).mono ?_
  rintro e w3 ⟨Az, cz, rfl, oz, bw3⟩
  replace B1 := B1.below bw3
  replace B2 := B2.below bw3
  replace hx := hx.below bw3
  replace hy := hy.below bw3
  replace hb := below_trans hb bw3
  have hz := Ints.of_own oz
  clear bw3 oz
  clear c1 c2
  rw [S3.out, ← L3.out, ← E3.out]
  rw [S3.out, ← L3.out, ← E3.out] at hz
  have c1 := B1.one
  have c2 := B2.one
  go_wp2_with fail
  refine (made_any _ _ h true (buV r n) (RBox w.heap.size r n) _ Y1 Z1.out (fun a b c => C1.out _ B2.lt a b (by first | trivial | exact c)) ⟨B1, B2⟩).mono ?_
  rintro e w4 ⟨Ap, cp, rfl, op, bw4⟩
  replace B1 := B1.below bw4
  replace B2 := B2.below bw4
  replace hx := hx.below bw4
  replace hy := hy.below bw4
  replace hz := hz.below bw4
  replace hb := below_trans hb bw4
  have hp := Ints.of_own op
  clear bw4 op
  clear c1 c2
  rw [← E1.out]
  have c1 := B1.one
  have c2 := B2.one
  go_wp2_with fail
  refine (made_any _ _ h true (liV r n) (RBox w.heap.size r n) _ Y2 Z2.out (fun a b c => C2.out _ B2.lt a b (by first | trivial | exact c)) ⟨B1, B2⟩).mono ?_
  rintro e w5 ⟨Aq, cq, rfl, oq, bw5⟩
  replace B1 := B1.below bw5
  replace B2 := B2.below bw5
  replace hx := hx.below bw5
  replace hy := hy.below bw5
  replace hz := hz.below bw5
  replace hp := hp.below bw5
  replace hb := below_trans hb bw5
  have hq := Ints.of_own oq
  clear bw5 oq
  clear c1 c2
  rw [← E2.out]
  have c1 := B1.one
  have c2 := B2.one
  go_wp2_with fail
  refine (made_any _ _ h true (stV r n) (RBox w.heap.size r n) _ Y3 Z3.out (fun a b c => C3.out _ B2.lt a b (by first | trivial | exact c)) ⟨B1, B2⟩).mono ?_
  rintro e w6 ⟨As, cs, rfl, os, bw6⟩
  replace hx := hx.below bw6
  replace hy := hy.below bw6
  replace hz := hz.below bw6
  replace hp := hp.below bw6
  replace hq := hq.below bw6
  replace hb := below_trans hb bw6
  have hs := Ints.of_own os
  clear bw6 os
  clear c1 c2
  rw [← E3.out]
  go_wp2_with fail
  refine (told_at Ax Ap M1 Y1 _ _ _ _ e1 _ _ hx hp K1.out rfl rfl rfl).mono ?_
  rintro e w7 ⟨rfl, nw7, hww7⟩
  have bw7 := below_of_drewN hww7
  clear hww7
  replace hy := hy.below bw7
  replace hz := hz.below bw7
  replace hq := hq.below bw7
  replace hs := hs.below bw7
  replace hb := below_trans hb bw7
  clear bw7
  go_wp2_with fail
  refine (told_at Ay Aq M2 Y2 _ _ _ _ e2 _ _ hy hq K2.out rfl rfl rfl).mono ?_
  rintro e w8 ⟨rfl, nw8, hww8⟩
  have bw8 := below_of_drewN hww8
  clear hww8
  replace hz := hz.below bw8
  replace hs := hs.below bw8
  replace hb := below_trans hb bw8
  clear bw8
  go_wp2_with fail
  refine (told_at Az As M3 Y3 _ _ _ _ e3 _ _ hz hs K3.out rfl rfl rfl).mono ?_
  rintro e w9 ⟨rfl, nw9, hww9⟩
  have bw9 := below_of_drewN hww9
  clear hww9
  replace hb := below_trans hb bw9
  clear bw9
  go_wp2
  go_ret
  exact ⟨rfl, hb⟩

end Go.Proofs.Ytkjcganbdnbclaa
