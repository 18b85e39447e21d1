
/-
  The document's own world: a slot.
-/
import Derived.Test.YtlaandbaaepamaaWldQ
import Derived.StillTailTactics
import Derived.Deep.RegionHeld3
namespace Go.Proofs.Ytlaandbaaepamaa
set_option linter.all false
open Go.RowKit Go.Shelf Go.Lib

theorem But2.drew {B : Nat} {w w' : World} {g h : Nat} (k : But2 B w w' g h) : But2 B w w'.drew g h := ⟨k.b.drew, k.block⟩
theorem But2.setq {B : Nat} {w w' : World} {g h q : Nat} (k : But2 B w w' g h) (hB : B ≤ q) (hw : w.heap.size ≤ q) (i : Nat) (u : Value) : But2 B w (w'.setCell ⟨q, i, none⟩ u) g h :=
  ⟨k.b.setCell (p := ⟨q, i, none⟩) hB u, fun j hj ne1 ne2 => (Below.heap_setCell w' ⟨q, i, none⟩ u j (by simp only; omega)).trans (k.block j hj ne1 ne2)⟩
set_option maxRecDepth 100000 in
set_option maxHeartbeats 3200000 in
theorem rtick_any (B g h : Nat) (s : WSt) (t : Wd) (m : Nat) (w : World) (ok : StOk s) (hR : RefAt w g h s) (hg : B ≤ g) (hh : B ≤ h) (ht : Tick s.unit s.rate s.d t m) :
    Calls Try.prog 16 #[.pointer (some ⟨g, 0, none⟩)] w fun e w' => e = .returned (.int .i64 m) ∧ RefAt w' g h (tickW t s) ∧ But2 B w w' g h := by
  have ne := hR.ne
  have ne' : ¬ h = g := fun e => ne e.symm
  obtain ⟨N, hN⟩ : ∃ N, s.d.l.length = N := ⟨_, rfl⟩
  have hN1 := ok.n0
  have hN8 := ok.n1
  rw [hN] at hN1 hN8
  obtain ⟨rt, hrt⟩ : ∃ x, x = s.rate := ⟨_, rfl⟩
  obtain ⟨ut, hut⟩ : ∃ x, x = s.unit := ⟨_, rfl⟩
  have rt0 := ok.r0
  have rt1 := ok.r1
  have ut0 := ok.u0
  have ut1 := ok.u1
  rw [← hrt] at rt0 rt1
  rw [← hut] at ut0 ut1
  have hX0 : Blk w g 37 #[.int .i64 rt, .int .i64 ut, .slice (some ⟨h, 0, none⟩) N N, .int .i64 s.d.turn] := by rw [← hN, hrt, hut]; exact hR.box
  have hB0 := hR.row
  have HN := Lib.hid hN
  have HOK := Lib.hid ok
  have HT := Lib.hid ht
  have HRT := Lib.hid hrt
  have HUT := Lib.hid hut
  have HFIN : Hid (∀ (W : World) (d : Wd) (n : Nat), Blk W g 37 #[.int .i64 rt, .int .i64 ut, .slice (some ⟨h, 0, none⟩) N N, .int .i64 d.turn] → Blk W h 34 (pecs d.l).toArray → d.l.length = N → Tick ut rt s.d d n → n = m ∧ RefAt W g h (tickW t s)) := Lib.hid (fun W d n q1 q2 q3 q4 => by
    rw [hut, hrt] at q4
    obtain ⟨e1, e2⟩ := ht.uniq ok.u0 ok.ok q4
    subst e1 e2
    refine ⟨rfl, ?_, q2, ne⟩
    show Blk W g 37 #[.int .i64 s.rate, .int .i64 s.unit, .slice (some ⟨h, 0, none⟩) t.l.length t.l.length, .int .i64 t.turn]
    rw [q3, ← hrt, ← hut]; exact q1)
  clear hN ok hR ht hrt hut
  go_enter Try.func16, Try.ntmps16
  go_wp2
  go_loopw [3] (fun i wr => ∃ (n : Nat) (d : Wd), (n : Int) ≤ rt ∧ i = .int .i64 n ∧ Blk wr g 37 #[.int .i64 rt, .int .i64 ut, .slice (some ⟨h, 0, none⟩) N N, .int .i64 d.turn] ∧ Blk wr h 34 (pecs d.l).toArray ∧ But2 B w wr g h ∧ Hid (d.l.length = N) ∧ Hid (WdOk ut d) ∧ Hid (Bys ut n s.d d) ∧ Hid (∀ i, i < d.l.length → (pr d.l i).lag ≤ 1000000)) (fun i _ => (rt - intOf i).toNat)
  case atStart => exact ⟨0, s.d, rt0, rfl, hX0, hB0, But2.refl _ _ _ _, HN, Lib.hid (by rw [HUT.out]; exact HOK.out.ok), Lib.hid (.none _), Lib.hid HOK.out.lag⟩
  case round =>
    clear hX0 hB0
    obtain ⟨n, d, hn, rfl, hX, hB, hbt, HL, HW, HY, HG⟩ := hrel
    have x0 : wr.cell? ⟨g, 0, none⟩ = some (.int .i64 rt) := by simpa using hX.cell 0
    by_cases hlt : (n : Int) < rt
    · have ht := HW.out.turn
      by_cases hall : ∃ i, i < d.l.length ∧ (pr d.l i).done = false
      · obtain ⟨i, hp⟩ := Wd.pick hall
        have hi := hp.lt
        have hf := far_lt HW.out hi
        obtain ⟨f, hfe⟩ : ∃ f, f = d.far i := ⟨_, rfl⟩
        have HP := Lib.hid hp
        have HF := Lib.hid hfe
        rw [HL.out] at hi hf ht
        rw [← hfe] at hf
        clear hall hp hfe
        go_wp2
        go_loopw [4] (fun i wq => ∃ k : Nat, k ≤ f ∧ i = .int .i64 k ∧ Blk wq g 37 #[.int .i64 rt, .int .i64 ut, .slice (some ⟨h, 0, none⟩) N N, .int .i64 (atT d k : Nat)] ∧ Blk wq h 34 (pecs d.l).toArray ∧ But2 B w wq g h) (fun i _ => f - (intOf i).toNat)
        case atStart => exact ⟨0, Nat.zero_le _, rfl, by rw [atT_zero (by rw [HL.out]; exact ht)]; exact hX, hB, hbt⟩
        case round =>
          clear hX hB hbt x0
          obtain ⟨k, hk, rfl, hX, hB, hbt⟩ := hrel
          have hat := atT_lt (s := d) (k := k) (by rw [HL.out]; exact ht) (by rw [HL.out]; omega)
          obtain ⟨c0, c1, c2⟩ := hB.peer hat
          rw [HL.out] at hat
          have x2 : wr.cell? ⟨g, 2, none⟩ = some (.slice (some ⟨h, 0, none⟩) N N) := by simpa using hX.cell 2
          have x3 : wr.cell? ⟨g, 3, none⟩ = some (.int .i64 (atT d k : Nat)) := by simpa using hX.cell 3
          by_cases hkf : k < f
          · have hd := pick_before (by rw [HL.out]; exact ht) HP.out (show k < d.far i by rw [← HF.out]; exact hkf) (by rw [HL.out]; omega)
            rw [hd] at c2
            have hr := rem_after HL.out hat
            rw [← atT_succ (by rw [HL.out]; exact ht) (by rw [HL.out]; omega)] at hr
            have hat2 := atT_lt (s := d) (k := k + 1) (by rw [HL.out]; exact ht) (by rw [HL.out]; omega)
            rw [HL.out] at hat2
            obtain ⟨T, hT⟩ : ∃ T, T = atT d k := ⟨_, rfl⟩
            obtain ⟨T2, hT2⟩ : ∃ T, T = atT d (k + 1) := ⟨_, rfl⟩
            rw [← hT] at x3 c0 c1 c2 hat hr hX
            rw [← hT2] at hr hat2
            have HT2 := Lib.hid hT2
            have HRE := Lib.hid hr
            have i1 : (T : Int) < (N : Int) := by omega
            clear hT hT2 hd hr
            go_wp2
            go_quiet (fail)
            obtain ⟨W2, hW2⟩ : ∃ W2, W2 = wr.drewN nq := ⟨_, rfl⟩
            have hX2 : Blk W2 g 37 #[.int .i64 rt, .int .i64 ut, .slice (some ⟨h, 0, none⟩) N N, .int .i64 (T : Int)] := by rw [hW2]; exact hX
            have hB2 : Blk W2 h 34 (pecs d.l).toArray := by rw [hW2]; exact hB
            have hbt2 : But2 B w W2 g h := hbt.step (by have := hX.lt; omega) (by rw [hW2]; exact below_of_drewN rfl)
            rw [← hW2]
            clear hW2 hX hB hbt x2 x3 c0 c1 c2
            have x2 : W2.cell? ⟨g, 2, none⟩ = some (.slice (some ⟨h, 0, none⟩) N N) := by simpa using hX2.cell 2
            have x3 : W2.cell? ⟨g, 3, none⟩ = some (.int .i64 (T : Int)) := by simpa using hX2.cell 3
            have f3 := hX2.frozen 3
            have gl := hX2.lt
            have hr := HRE.out
            have e1 : ((k : Int) == (N : Int)) = false := by rw [beq_eq_false_iff_ne]; omega
            have e2 : ((N : Int) == 0) = false := by rw [beq_eq_false_iff_ne]; omega
            have e3 : ¬ (N : Int) = 0 := by omega
            have e4 : ¬ N = 0 := by omega
            have s1 : IntKind.i64.wrap ((T : Int) + 1) = (T : Int) + 1 := IntWalk.i64_in _ ⟨by omega, by omega⟩
            have s2 : IntKind.i64.wrap (T2 : Int) = (T2 : Int) := IntWalk.i64_in _ ⟨by omega, by omega⟩
            have MX : Hid (Blk (W2.setCell ⟨g, 3, none⟩ (.int .i64 (T2 : Int))) g 37 #[.int .i64 rt, .int .i64 ut, .slice (some ⟨h, 0, none⟩) N N, .int .i64 (T2 : Int)]) := Lib.hid (by simpa using hX2.set_ 3 (.int .i64 (T2 : Int)))
            have MB := Lib.hid (hB2.past (a := ⟨g, 3, none⟩) ne' (.int .i64 (T2 : Int)))
            have MT := Lib.hid (hbt2.setg hg 3 (.int .i64 (T2 : Int))).drew
            clear hX2 hB2 hbt2
            go_wp2
            go_still_tail 14, (by kernel_rfl)
            change wpList _ _ _ _ _ W2.drew
            go_wp2
            go_roundw
            case rel => exact ⟨k + 1, by omega, by go_num, by rw [← HT2.out]; exact MX.out, MB.out, MT.out⟩
            case measure => simp [intOf]; omega
          · obtain rfl : k = f := by omega
            have hTi : atT d k = i := by rw [HF.out]; exact far_at (by rw [HL.out]; exact ht) (by rw [HL.out]; exact hi)
            rw [hTi] at x3 c0 c1 c2 hat hX
            rw [HP.out.wait] at c2
            have i1 : (i : Int) < (N : Int) := by omega
            go_wp2
            go_quiet (fail)
            obtain ⟨W2, hW2⟩ : ∃ W2, W2 = wr.drewN nq := ⟨_, rfl⟩
            have hX2 : Blk W2 g 37 #[.int .i64 rt, .int .i64 ut, .slice (some ⟨h, 0, none⟩) N N, .int .i64 (i : Int)] := by rw [hW2]; exact hX
            have hB2 : Blk W2 h 34 (pecs d.l).toArray := by rw [hW2]; exact hB
            have hbt2 : But2 B w W2 g h := hbt.step (by have := hX.lt; omega) (by rw [hW2]; exact below_of_drewN rfl)
            rw [← hW2]
            clear hW2 hX hB hbt x2 x3 c0 c1 c2
            have x1 : W2.cell? ⟨g, 1, none⟩ = some (.int .i64 ut) := by simpa using hX2.cell 1
            have x2 : W2.cell? ⟨g, 2, none⟩ = some (.slice (some ⟨h, 0, none⟩) N N) := by simpa using hX2.cell 2
            have x3 : W2.cell? ⟨g, 3, none⟩ = some (.int .i64 (i : Int)) := by simpa using hX2.cell 3
            obtain ⟨c0, c1, c2⟩ := hB2.peer (i := i) (by rw [HL.out]; exact hi)
            rw [HP.out.wait] at c2
            obtain ⟨x, hx⟩ : ∃ x, x = (pr d.l i).lag := ⟨_, rfl⟩
            obtain ⟨y, hy⟩ : ∃ y, y = (pr d.l i).part := ⟨_, rfl⟩
            rw [← hx] at c0
            rw [← hy] at c1
            have yb : 0 ≤ y ∧ y < ut := by rw [hy]; exact ⟨(HW.out.ok i (by rw [HL.out]; exact hi)).part0, (HW.out.ok i (by rw [HL.out]; exact hi)).less⟩
            have xb : 0 ≤ x ∧ x ≤ 1000000 := by rw [hx]; exact ⟨(HW.out.ok i (by rw [HL.out]; exact hi)).lag0, HG.out i (by rw [HL.out]; exact hi)⟩
            obtain ⟨y0, y1⟩ := yb
            obtain ⟨u0, u1⟩ := xb
            have HX := Lib.hid hx
            have HYP := Lib.hid hy
            obtain ⟨W3, hW3⟩ : ∃ W3, W3 = (W2.alloc (.cells #[.int .i64 x, .int .i64 y, .bool false] 34)).drew := ⟨_, rfl⟩
            obtain ⟨q, hq⟩ : ∃ q, q = W2.heap.size := ⟨_, rfl⟩
            have b23 : Below W2.heap.size W2 W3 := by rw [hW3]; exact ((Below.refl _ _).alloc (Nat.le_refl _) _).drew
            have BQ : Blk W3 q 34 #[.int .i64 x, .int .i64 y, .bool false] := by rw [hW3, hq]; exact Blk.new W2 _ _
            have hX3 := hX2.below b23
            have hB3 := hB2.below b23
            have qg : ¬ g = q := by have := hX2.lt; omega
            have qh : ¬ h = q := by have := hB2.lt; omega
            have qw : w.heap.size ≤ q := by have := hbt2.b.size; omega
            have qB : B ≤ q := by have := hX2.lt; omega
            have hbt3 := hbt2.step (by omega) b23
            have HW3 := Lib.hid hW3
            have HQ := Lib.hid hq
            clear hx hy hW3 hq b23 hX2 hB2 hbt2
            go_wp2
            go_region_held3 (fun w' => w'.cell? ⟨g, 2, none⟩ = some (.slice (some ⟨h, 0, none⟩) N N) ∧ w'.cell? ⟨g, 3, none⟩ = some (.int .i64 (i : Int)) ∧ w'.cell? ⟨h, i * 3, none⟩ = some (.int .i64 x) ∧ w'.cell? ⟨h, i * 3 + 1, none⟩ = some (.int .i64 y) ∧ w'.cell? ⟨h, i * 3 + 2, none⟩ = some (.bool false))
              (first | go_keep)
              (first | fail)
            rw [← HW3.out, ← HQ.out]
            clear x1 x2 x3 c0 c1 c2
            obtain ⟨t0, t1, t2⟩ := three_read BQ
            have fq := BQ.frozen 1
            have lq := BQ.lt
            obtain ⟨W4, hW4⟩ : ∃ W4, W4 = W3.setCell ⟨q, 1, none⟩ (.int .i64 (y + 1)) := ⟨_, rfl⟩
            have BQ4 : Blk W4 q 34 #[.int .i64 x, .int .i64 (y + 1), .bool false] := by rw [hW4]; simpa using BQ.set_ 1 (.int .i64 (y + 1))
            have hX4 : Blk W4 g 37 #[.int .i64 rt, .int .i64 ut, .slice (some ⟨h, 0, none⟩) N N, .int .i64 (i : Int)] := by rw [hW4]; exact hX3.past (a := ⟨q, 1, none⟩) qg _
            have hB4 : Blk W4 h 34 (pecs d.l).toArray := by rw [hW4]; exact hB3.past (a := ⟨q, 1, none⟩) qh _
            have hbt4 : But2 B w W4 g h := by rw [hW4]; exact hbt3.setq qB qw 1 (.int .i64 (y + 1))
            have HW4 := Lib.hid hW4
            have s1 : IntKind.i64.wrap (y + 1) = y + 1 := IntWalk.i64_in _ ⟨by omega, by omega⟩
            clear hW4 BQ hX3 hB3 hbt3
            go_wp2
            rw [← HW4.out]
            clear t0 t1 t2 fq lq
            obtain ⟨t0, t1, t2⟩ := three_read BQ4
            have x1 : W4.cell? ⟨g, 1, none⟩ = some (.int .i64 ut) := by simpa using hX4.cell 1
            have HLb : Hid ((d.byte ut i).l.length = N) := Lib.hid (by rw [Wd.length_byte]; exact HL.out)
            have HWb : Hid (WdOk ut (d.byte ut i)) := Lib.hid (Wd.byte_ok ut0 HW.out HP.out)
            have HYb : Hid (Bys ut (n + 1) s.d (d.byte ut i)) := Lib.hid (.byte i HY.out HP.out)
            have HGb : Hid (∀ j, j < (d.byte ut i).l.length → (pr (d.byte ut i).l j).lag ≤ 1000000) := Lib.hid (fun j hj => by
              rw [Wd.length_byte] at hj
              simp only [Wd.byte]
              by_cases c : i = j
              · subst c; rw [pr_set hj]; have := byte_lag ut0 (HW.out.ok i hj); have := HG.out i hj; omega
              · rw [pr_other c]; exact HG.out j hj)
            by_cases cu : y + 1 = ut ∨ y + 1 = x
            · have HBY : Hid (d.byte ut i = ⟨d.l.set i ⟨x - (y + 1), 0, decide (x - (y + 1) = 0)⟩, d.after i⟩) := Lib.hid (by
                rw [Wd.byte, Per.byte, if_pos (by rw [← HX.out, ← HYP.out]; exact cu), ← HX.out, ← HYP.out])
              have s9 : IntKind.i64.wrap (x - (y + 1)) = x - (y + 1) := IntWalk.i64_in _ ⟨by omega, by omega⟩
              rcases (show y + 1 = ut ∨ (¬ y + 1 = ut ∧ y + 1 = x) by omega) with c | ⟨c, c'⟩
              · have e1 : ((y + 1) == ut) = true := by rw [beq_iff_eq]; exact c
                clear cu c
                go_quiet (fail)
                obtain ⟨W5, hW5⟩ : ∃ W5, W5 = W4.drewN nq := ⟨_, rfl⟩
                have b45 : Below W4.heap.size W4 W5 := by rw [hW5]; exact below_of_drewN rfl
                have BQ5 := BQ4.below b45
                have hX5 := hX4.below b45
                have hB5 := hB4.below b45
                have hbt5 := hbt4.step (by have := hX4.lt; omega) b45
                rw [← hW5]
                clear hW5 b45 BQ4 hX4 hB4 hbt4 t0 t1 t2 x1 HW4 HW3 HQ
                clear e1
                obtain ⟨t0, t1, t2⟩ := three_read BQ5
                have f0 := BQ5.frozen 0
                have f1 := BQ5.frozen 1
                have f2 := BQ5.frozen 2
                have lq5 := BQ5.lt
                have s3 : ∀ a, (W5.setCell ⟨q, 0, none⟩ a).cell? ⟨q, 0, none⟩ = some a := fun a => by rw [(BQ5.set_ 0 a).cell]; simp
                have s4 : ∀ a b, ((W5.setCell ⟨q, 0, none⟩ a).setCell ⟨q, 1, none⟩ b).cell? ⟨q, 1, none⟩ = some b := fun a b => by rw [((BQ5.set_ 0 a).set_ 1 b).cell]; simp
                obtain ⟨z, hz⟩ : ∃ z, z = (x - (y + 1) == 0) := ⟨_, rfl⟩
                obtain ⟨W7, hW7⟩ : ∃ W7, W7 = (((W5.setCell ⟨q, 0, none⟩ (.int .i64 (x - (y + 1)))).setCell ⟨q, 1, none⟩ (.int .i64 0)).setCell ⟨q, 2, none⟩ (.bool false)).setCell ⟨q, 2, none⟩ (.bool z) := ⟨_, rfl⟩
                have BQ7 : Blk W7 q 34 #[.int .i64 (x - (y + 1)), .int .i64 0, .bool z] := by rw [hW7]; simpa using (((BQ5.set_ 0 (.int .i64 (x - (y + 1)))).set_ 1 (.int .i64 0)).set_ 2 (.bool false)).set_ 2 (.bool z)
                have hX7 : Blk W7 g 37 #[.int .i64 rt, .int .i64 ut, .slice (some ⟨h, 0, none⟩) N N, .int .i64 (i : Int)] := by
                  rw [hW7]; exact (((hX5.past (a := ⟨q, 0, none⟩) qg _).past (a := ⟨q, 1, none⟩) qg _).past (a := ⟨q, 2, none⟩) qg _).past (a := ⟨q, 2, none⟩) qg _
                have hB7 : Blk W7 h 34 (pecs d.l).toArray := by
                  rw [hW7]; exact (((hB5.past (a := ⟨q, 0, none⟩) qh _).past (a := ⟨q, 1, none⟩) qh _).past (a := ⟨q, 2, none⟩) qh _).past (a := ⟨q, 2, none⟩) qh _
                have hbt7 : But2 B w W7 g h := by
                  rw [hW7]; exact (((hbt5.setq qB qw 0 _).setq qB qw 1 _).setq qB qw 2 _).setq qB qw 2 _
                have HZ := Lib.hid hz
                have HW7 := Lib.hid hW7
                clear hz hW7 BQ5 hX5 hB5 hbt5
                go_wp2
                rw [← HZ.out, ← HW7.out]
                clear t0 t1 t2 f0 f1 f2 lq5 s3 s4 HW7
                have BQ5 := BQ7
                have hX5 := hX7
                have hB5 := hB7
                have hbt5 := hbt7
                clear BQ7 hX7 hB7 hbt7
                replace HBY : Hid (d.byte ut i = ⟨d.l.set i ⟨x - (y + 1), 0, z⟩, d.after i⟩) := Lib.hid (by rw [HZ.out]; exact HBY.out)
                clear HZ
                obtain ⟨t0, t1, t2⟩ := three_read BQ5
                obtain ⟨v0, v1, v2⟩ := hB5.peer (i := i) (by rw [HL.out]; exact hi)
                have x2 : W7.cell? ⟨g, 2, none⟩ = some (.slice (some ⟨h, 0, none⟩) N N) := by simpa using hX5.cell 2
                have x3 : W7.cell? ⟨g, 3, none⟩ = some (.int .i64 (i : Int)) := by simpa using hX5.cell 3
                have f0 := hB5.frozen (i * 3)
                have f1 := hB5.frozen (i * 3 + 1)
                have f2 := hB5.frozen (i * 3 + 2)
                have lh := hB5.lt
                have lp : (pecs d.l).length = N * 3 := by rw [length_pecs, HL.out]
                have s5 : ∀ a, (W7.setCell ⟨h, i * 3, none⟩ a).cell? ⟨h, i * 3, none⟩ = some a := fun a => by rw [(hB5.setl a).cell, List.getElem?_toArray, List.getElem?_set_self (by omega)]
                have s6 : ∀ a b, ((W7.setCell ⟨h, i * 3, none⟩ a).setCell ⟨h, i * 3 + 1, none⟩ b).cell? ⟨h, i * 3 + 1, none⟩ = some b := fun a b => by rw [((hB5.setl a).setl b).cell, List.getElem?_toArray, List.getElem?_set_self (by simp; omega)]
                obtain ⟨W6, hW6⟩ : ∃ W6, W6 = (((W7.setCell ⟨h, i * 3, none⟩ (.int .i64 (x - (y + 1)))).setCell ⟨h, i * 3 + 1, none⟩ (.int .i64 0)).setCell ⟨h, i * 3 + 2, none⟩ (.bool z)).drew := ⟨_, rfl⟩
                have hB6 : Blk W6 h 34 (pecs (d.l.set i ⟨(x - (y + 1)), 0, z⟩)).toArray := by
                  rw [hW6, ← pecs_set _ (by rw [HL.out]; exact hi)]
                  exact ((hB5.setl _).setl _).setl _
                have hX6 : Blk W6 g 37 #[.int .i64 rt, .int .i64 ut, .slice (some ⟨h, 0, none⟩) N N, .int .i64 (i : Int)] := by
                  rw [hW6]
                  exact ((hX5.past (a := ⟨h, i * 3, none⟩) ne _).past (a := ⟨h, i * 3 + 1, none⟩) ne _).past (a := ⟨h, i * 3 + 2, none⟩) ne _
                have hbt6 : But2 B w W6 g h := by
                  rw [hW6]
                  exact (((hbt5.seth hh _ _).seth hh _ _).seth hh _ _).drew
                have HW6 := Lib.hid hW6
                clear hW6 hB5 hX5 hbt5 BQ5
                go_still_tail 10, (by kernel_rfl)
                change wpList _ _ _ _ _ W7.drew
                go_wp2
                rw [← HW6.out]
                clear t0 t1 t2 v0 v1 v2 x2 x3 f0 f1 f2 s5 s6 lh lp HW6
                have x2 : W6.cell? ⟨g, 2, none⟩ = some (.slice (some ⟨h, 0, none⟩) N N) := by simpa using hX6.cell 2
                have x3 : W6.cell? ⟨g, 3, none⟩ = some (.int .i64 (i : Int)) := by simpa using hX6.cell 3
                have f3 := hX6.frozen 3
                have gl := hX6.lt
                have hr := rem_after HL.out hi
                have hal : d.after i < N := by unfold Wd.after; rw [HL.out]; split <;> omega
                obtain ⟨T2, hT2⟩ : ∃ T, T = d.after i := ⟨_, rfl⟩
                rw [← hT2] at hr hal
                have e5 : ¬ (N : Int) = 0 := by omega
                have e6 : ¬ N = 0 := by omega
                have s7 : IntKind.i64.wrap ((i : Int) + 1) = (i : Int) + 1 := IntWalk.i64_in _ ⟨by omega, by omega⟩
                have s8 : IntKind.i64.wrap (T2 : Int) = (T2 : Int) := IntWalk.i64_in _ ⟨by omega, by omega⟩
                have MX : Hid (Blk (W6.setCell ⟨g, 3, none⟩ (.int .i64 (T2 : Int))) g 37 #[.int .i64 rt, .int .i64 ut, .slice (some ⟨h, 0, none⟩) N N, .int .i64 ((d.byte ut i).turn : Int)]) := Lib.hid (by rw [HBY.out, ← hT2]; simpa using hX6.set_ 3 (.int .i64 (T2 : Int)))
                have MB : Hid (Blk (W6.setCell ⟨g, 3, none⟩ (.int .i64 (T2 : Int))) h 34 (pecs (d.byte ut i).l).toArray) := Lib.hid (by rw [HBY.out]; exact hB6.past (a := ⟨g, 3, none⟩) ne' (.int .i64 (T2 : Int)))
                have MT := Lib.hid (hbt6.setg hg 3 (.int .i64 (T2 : Int))).drew
                clear hT2 hX6 hB6 hbt6
                go_still_tail 14, (by kernel_rfl)
                change wpList _ _ _ _ _ W6.drew
                go_wp2
                go_roundw
                case rel => exact ⟨n + 1, d.byte ut i, by omega, by go_num, MX.out, MB.out, MT.out, HLb, HWb, HYb, HGb⟩
                case measure => simp [intOf]; omega
              · have e1 : ((y + 1) == ut) = false := by rw [beq_eq_false_iff_ne]; exact c
                have e2 : ((y + 1) == x) = true := by rw [beq_iff_eq]; exact c'
                clear cu c c'
                go_quiet (fail)
                obtain ⟨W5, hW5⟩ : ∃ W5, W5 = W4.drewN nq := ⟨_, rfl⟩
                have b45 : Below W4.heap.size W4 W5 := by rw [hW5]; exact below_of_drewN rfl
                have BQ5 := BQ4.below b45
                have hX5 := hX4.below b45
                have hB5 := hB4.below b45
                have hbt5 := hbt4.step (by have := hX4.lt; omega) b45
                rw [← hW5]
                clear hW5 b45 BQ4 hX4 hB4 hbt4 t0 t1 t2 x1 HW4 HW3 HQ
                clear e1
                obtain ⟨t0, t1, t2⟩ := three_read BQ5
                have f0 := BQ5.frozen 0
                have f1 := BQ5.frozen 1
                have f2 := BQ5.frozen 2
                have lq5 := BQ5.lt
                have s3 : ∀ a, (W5.setCell ⟨q, 0, none⟩ a).cell? ⟨q, 0, none⟩ = some a := fun a => by rw [(BQ5.set_ 0 a).cell]; simp
                have s4 : ∀ a b, ((W5.setCell ⟨q, 0, none⟩ a).setCell ⟨q, 1, none⟩ b).cell? ⟨q, 1, none⟩ = some b := fun a b => by rw [((BQ5.set_ 0 a).set_ 1 b).cell]; simp
                obtain ⟨z, hz⟩ : ∃ z, z = (x - (y + 1) == 0) := ⟨_, rfl⟩
                obtain ⟨W7, hW7⟩ : ∃ W7, W7 = (((W5.setCell ⟨q, 0, none⟩ (.int .i64 (x - (y + 1)))).setCell ⟨q, 1, none⟩ (.int .i64 0)).setCell ⟨q, 2, none⟩ (.bool false)).setCell ⟨q, 2, none⟩ (.bool z) := ⟨_, rfl⟩
                have BQ7 : Blk W7 q 34 #[.int .i64 (x - (y + 1)), .int .i64 0, .bool z] := by rw [hW7]; simpa using (((BQ5.set_ 0 (.int .i64 (x - (y + 1)))).set_ 1 (.int .i64 0)).set_ 2 (.bool false)).set_ 2 (.bool z)
                have hX7 : Blk W7 g 37 #[.int .i64 rt, .int .i64 ut, .slice (some ⟨h, 0, none⟩) N N, .int .i64 (i : Int)] := by
                  rw [hW7]; exact (((hX5.past (a := ⟨q, 0, none⟩) qg _).past (a := ⟨q, 1, none⟩) qg _).past (a := ⟨q, 2, none⟩) qg _).past (a := ⟨q, 2, none⟩) qg _
                have hB7 : Blk W7 h 34 (pecs d.l).toArray := by
                  rw [hW7]; exact (((hB5.past (a := ⟨q, 0, none⟩) qh _).past (a := ⟨q, 1, none⟩) qh _).past (a := ⟨q, 2, none⟩) qh _).past (a := ⟨q, 2, none⟩) qh _
                have hbt7 : But2 B w W7 g h := by
                  rw [hW7]; exact (((hbt5.setq qB qw 0 _).setq qB qw 1 _).setq qB qw 2 _).setq qB qw 2 _
                have HZ := Lib.hid hz
                have HW7 := Lib.hid hW7
                clear hz hW7 BQ5 hX5 hB5 hbt5
                go_wp2
                rw [← HZ.out, ← HW7.out]
                clear t0 t1 t2 f0 f1 f2 lq5 s3 s4 HW7
                have BQ5 := BQ7
                have hX5 := hX7
                have hB5 := hB7
                have hbt5 := hbt7
                clear BQ7 hX7 hB7 hbt7
                replace HBY : Hid (d.byte ut i = ⟨d.l.set i ⟨x - (y + 1), 0, z⟩, d.after i⟩) := Lib.hid (by rw [HZ.out]; exact HBY.out)
                clear HZ
                obtain ⟨t0, t1, t2⟩ := three_read BQ5
                obtain ⟨v0, v1, v2⟩ := hB5.peer (i := i) (by rw [HL.out]; exact hi)
                have x2 : W7.cell? ⟨g, 2, none⟩ = some (.slice (some ⟨h, 0, none⟩) N N) := by simpa using hX5.cell 2
                have x3 : W7.cell? ⟨g, 3, none⟩ = some (.int .i64 (i : Int)) := by simpa using hX5.cell 3
                have f0 := hB5.frozen (i * 3)
                have f1 := hB5.frozen (i * 3 + 1)
                have f2 := hB5.frozen (i * 3 + 2)
                have lh := hB5.lt
                have lp : (pecs d.l).length = N * 3 := by rw [length_pecs, HL.out]
                have s5 : ∀ a, (W7.setCell ⟨h, i * 3, none⟩ a).cell? ⟨h, i * 3, none⟩ = some a := fun a => by rw [(hB5.setl a).cell, List.getElem?_toArray, List.getElem?_set_self (by omega)]
                have s6 : ∀ a b, ((W7.setCell ⟨h, i * 3, none⟩ a).setCell ⟨h, i * 3 + 1, none⟩ b).cell? ⟨h, i * 3 + 1, none⟩ = some b := fun a b => by rw [((hB5.setl a).setl b).cell, List.getElem?_toArray, List.getElem?_set_self (by simp; omega)]
                obtain ⟨W6, hW6⟩ : ∃ W6, W6 = (((W7.setCell ⟨h, i * 3, none⟩ (.int .i64 (x - (y + 1)))).setCell ⟨h, i * 3 + 1, none⟩ (.int .i64 0)).setCell ⟨h, i * 3 + 2, none⟩ (.bool z)).drew := ⟨_, rfl⟩
                have hB6 : Blk W6 h 34 (pecs (d.l.set i ⟨(x - (y + 1)), 0, z⟩)).toArray := by
                  rw [hW6, ← pecs_set _ (by rw [HL.out]; exact hi)]
                  exact ((hB5.setl _).setl _).setl _
                have hX6 : Blk W6 g 37 #[.int .i64 rt, .int .i64 ut, .slice (some ⟨h, 0, none⟩) N N, .int .i64 (i : Int)] := by
                  rw [hW6]
                  exact ((hX5.past (a := ⟨h, i * 3, none⟩) ne _).past (a := ⟨h, i * 3 + 1, none⟩) ne _).past (a := ⟨h, i * 3 + 2, none⟩) ne _
                have hbt6 : But2 B w W6 g h := by
                  rw [hW6]
                  exact (((hbt5.seth hh _ _).seth hh _ _).seth hh _ _).drew
                have HW6 := Lib.hid hW6
                clear hW6 hB5 hX5 hbt5 BQ5
                go_still_tail 10, (by kernel_rfl)
                change wpList _ _ _ _ _ W7.drew
                go_wp2
                rw [← HW6.out]
                clear t0 t1 t2 v0 v1 v2 x2 x3 f0 f1 f2 s5 s6 lh lp HW6
                have x2 : W6.cell? ⟨g, 2, none⟩ = some (.slice (some ⟨h, 0, none⟩) N N) := by simpa using hX6.cell 2
                have x3 : W6.cell? ⟨g, 3, none⟩ = some (.int .i64 (i : Int)) := by simpa using hX6.cell 3
                have f3 := hX6.frozen 3
                have gl := hX6.lt
                have hr := rem_after HL.out hi
                have hal : d.after i < N := by unfold Wd.after; rw [HL.out]; split <;> omega
                obtain ⟨T2, hT2⟩ : ∃ T, T = d.after i := ⟨_, rfl⟩
                rw [← hT2] at hr hal
                have e5 : ¬ (N : Int) = 0 := by omega
                have e6 : ¬ N = 0 := by omega
                have s7 : IntKind.i64.wrap ((i : Int) + 1) = (i : Int) + 1 := IntWalk.i64_in _ ⟨by omega, by omega⟩
                have s8 : IntKind.i64.wrap (T2 : Int) = (T2 : Int) := IntWalk.i64_in _ ⟨by omega, by omega⟩
                have MX : Hid (Blk (W6.setCell ⟨g, 3, none⟩ (.int .i64 (T2 : Int))) g 37 #[.int .i64 rt, .int .i64 ut, .slice (some ⟨h, 0, none⟩) N N, .int .i64 ((d.byte ut i).turn : Int)]) := Lib.hid (by rw [HBY.out, ← hT2]; simpa using hX6.set_ 3 (.int .i64 (T2 : Int)))
                have MB : Hid (Blk (W6.setCell ⟨g, 3, none⟩ (.int .i64 (T2 : Int))) h 34 (pecs (d.byte ut i).l).toArray) := Lib.hid (by rw [HBY.out]; exact hB6.past (a := ⟨g, 3, none⟩) ne' (.int .i64 (T2 : Int)))
                have MT := Lib.hid (hbt6.setg hg 3 (.int .i64 (T2 : Int))).drew
                clear hT2 hX6 hB6 hbt6
                go_still_tail 14, (by kernel_rfl)
                change wpList _ _ _ _ _ W6.drew
                go_wp2
                go_roundw
                case rel => exact ⟨n + 1, d.byte ut i, by omega, by go_num, MX.out, MB.out, MT.out, HLb, HWb, HYb, HGb⟩
                case measure => simp [intOf]; omega
            · have HBY : Hid (d.byte ut i = ⟨d.l.set i ⟨x, y + 1, false⟩, d.after i⟩) := Lib.hid (by
                rw [Wd.byte, Per.byte, if_neg (by rw [← HX.out, ← HYP.out]; exact cu), ← HX.out, ← HYP.out, HP.out.wait])
              have e1 : ((y + 1) == ut) = false := by rw [beq_eq_false_iff_ne]; omega
              have e2 : ((y + 1) == x) = false := by rw [beq_eq_false_iff_ne]; omega
              have e3 : ¬ (y + 1) = ut := by omega
              have e4 : ¬ (y + 1) = x := by omega
              go_quiet (fail)
              obtain ⟨W5, hW5⟩ : ∃ W5, W5 = W4.drewN nq := ⟨_, rfl⟩
              have b45 : Below W4.heap.size W4 W5 := by rw [hW5]; exact below_of_drewN rfl
              have BQ5 := BQ4.below b45
              have hX5 := hX4.below b45
              have hB5 := hB4.below b45
              have hbt5 := hbt4.step (by have := hX4.lt; omega) b45
              rw [← hW5]
              clear hW5 b45 BQ4 hX4 hB4 hbt4 t0 t1 t2 x1 HW4 HW3 HQ
              go_wp2
              obtain ⟨t0, t1, t2⟩ := three_read BQ5
              obtain ⟨v0, v1, v2⟩ := hB5.peer (i := i) (by rw [HL.out]; exact hi)
              have x2 : W5.cell? ⟨g, 2, none⟩ = some (.slice (some ⟨h, 0, none⟩) N N) := by simpa using hX5.cell 2
              have x3 : W5.cell? ⟨g, 3, none⟩ = some (.int .i64 (i : Int)) := by simpa using hX5.cell 3
              have f0 := hB5.frozen (i * 3)
              have f1 := hB5.frozen (i * 3 + 1)
              have f2 := hB5.frozen (i * 3 + 2)
              have lh := hB5.lt
              have lp : (pecs d.l).length = N * 3 := by rw [length_pecs, HL.out]
              have s5 : ∀ a, (W5.setCell ⟨h, i * 3, none⟩ a).cell? ⟨h, i * 3, none⟩ = some a := fun a => by rw [(hB5.setl a).cell, List.getElem?_toArray, List.getElem?_set_self (by omega)]
              have s6 : ∀ a b, ((W5.setCell ⟨h, i * 3, none⟩ a).setCell ⟨h, i * 3 + 1, none⟩ b).cell? ⟨h, i * 3 + 1, none⟩ = some b := fun a b => by rw [((hB5.setl a).setl b).cell, List.getElem?_toArray, List.getElem?_set_self (by simp; omega)]
              obtain ⟨W6, hW6⟩ : ∃ W6, W6 = (((W5.setCell ⟨h, i * 3, none⟩ (.int .i64 x)).setCell ⟨h, i * 3 + 1, none⟩ (.int .i64 (y + 1))).setCell ⟨h, i * 3 + 2, none⟩ (.bool false)).drew := ⟨_, rfl⟩
              have hB6 : Blk W6 h 34 (pecs (d.l.set i ⟨x, (y + 1), false⟩)).toArray := by
                rw [hW6, ← pecs_set _ (by rw [HL.out]; exact hi)]
                exact ((hB5.setl _).setl _).setl _
              have hX6 : Blk W6 g 37 #[.int .i64 rt, .int .i64 ut, .slice (some ⟨h, 0, none⟩) N N, .int .i64 (i : Int)] := by
                rw [hW6]
                exact ((hX5.past (a := ⟨h, i * 3, none⟩) ne _).past (a := ⟨h, i * 3 + 1, none⟩) ne _).past (a := ⟨h, i * 3 + 2, none⟩) ne _
              have hbt6 : But2 B w W6 g h := by
                rw [hW6]
                exact (((hbt5.seth hh _ _).seth hh _ _).seth hh _ _).drew
              have HW6 := Lib.hid hW6
              clear hW6 hB5 hX5 hbt5 BQ5
              go_still_tail 10, (by kernel_rfl)
              change wpList _ _ _ _ _ W5.drew
              go_wp2
              rw [← HW6.out]
              clear t0 t1 t2 v0 v1 v2 x2 x3 f0 f1 f2 s5 s6 lh lp HW6
              have x2 : W6.cell? ⟨g, 2, none⟩ = some (.slice (some ⟨h, 0, none⟩) N N) := by simpa using hX6.cell 2
              have x3 : W6.cell? ⟨g, 3, none⟩ = some (.int .i64 (i : Int)) := by simpa using hX6.cell 3
              have f3 := hX6.frozen 3
              have gl := hX6.lt
              have hr := rem_after HL.out hi
              have hal : d.after i < N := by unfold Wd.after; rw [HL.out]; split <;> omega
              obtain ⟨T2, hT2⟩ : ∃ T, T = d.after i := ⟨_, rfl⟩
              rw [← hT2] at hr hal
              have e5 : ¬ (N : Int) = 0 := by omega
              have e6 : ¬ N = 0 := by omega
              have s7 : IntKind.i64.wrap ((i : Int) + 1) = (i : Int) + 1 := IntWalk.i64_in _ ⟨by omega, by omega⟩
              have s8 : IntKind.i64.wrap (T2 : Int) = (T2 : Int) := IntWalk.i64_in _ ⟨by omega, by omega⟩
              have MX : Hid (Blk (W6.setCell ⟨g, 3, none⟩ (.int .i64 (T2 : Int))) g 37 #[.int .i64 rt, .int .i64 ut, .slice (some ⟨h, 0, none⟩) N N, .int .i64 ((d.byte ut i).turn : Int)]) := Lib.hid (by rw [HBY.out, ← hT2]; simpa using hX6.set_ 3 (.int .i64 (T2 : Int)))
              have MB : Hid (Blk (W6.setCell ⟨g, 3, none⟩ (.int .i64 (T2 : Int))) h 34 (pecs (d.byte ut i).l).toArray) := Lib.hid (by rw [HBY.out]; exact hB6.past (a := ⟨g, 3, none⟩) ne' (.int .i64 (T2 : Int)))
              have MT := Lib.hid (hbt6.setg hg 3 (.int .i64 (T2 : Int))).drew
              clear hT2 hX6 hB6 hbt6
              go_still_tail 14, (by kernel_rfl)
              change wpList _ _ _ _ _ W6.drew
              go_wp2
              go_roundw
              case rel => exact ⟨n + 1, d.byte ut i, by omega, by go_num, MX.out, MB.out, MT.out, HLb, HWb, HYb, HGb⟩
              case measure => simp [intOf]; omega
      · have HD : Hid (∀ i, i < d.l.length → (pr d.l i).done = true) := Lib.hid (fun i hi => by
          cases c : (pr d.l i).done with
          | true => rfl
          | false => exact absurd ⟨i, hi, c⟩ hall)
        rw [HL.out] at ht
        clear hall
        go_wp2
        go_loopw [4] (fun i wq => ∃ k : Nat, k ≤ N ∧ i = .int .i64 k ∧ Blk wq g 37 #[.int .i64 rt, .int .i64 ut, .slice (some ⟨h, 0, none⟩) N N, .int .i64 (atT d k : Nat)] ∧ Blk wq h 34 (pecs d.l).toArray ∧ But2 B w wq g h) (fun i _ => N - (intOf i).toNat)
        case atStart => exact ⟨0, Nat.zero_le _, rfl, by rw [atT_zero (by rw [HL.out]; exact ht)]; exact hX, hB, hbt⟩
        case round =>
          clear hX hB hbt x0
          obtain ⟨k, hk, rfl, hX, hB, hbt⟩ := hrel
          have hat := atT_lt (s := d) (k := k) (by rw [HL.out]; exact ht) (by rw [HL.out]; omega)
          obtain ⟨c0, c1, c2⟩ := hB.peer hat
          have hd := HD.out _ hat
          rw [HL.out] at hat
          have x2 : wr.cell? ⟨g, 2, none⟩ = some (.slice (some ⟨h, 0, none⟩) N N) := by simpa using hX.cell 2
          have x3 : wr.cell? ⟨g, 3, none⟩ = some (.int .i64 (atT d k : Nat)) := by simpa using hX.cell 3
          by_cases hkf : k < N
          · rw [hd] at c2
            have hr := rem_after HL.out hat
            rw [← atT_succ (by rw [HL.out]; exact ht) (by rw [HL.out]; omega)] at hr
            have hat2 := atT_lt (s := d) (k := k + 1) (by rw [HL.out]; exact ht) (by rw [HL.out]; omega)
            rw [HL.out] at hat2
            obtain ⟨T, hT⟩ : ∃ T, T = atT d k := ⟨_, rfl⟩
            obtain ⟨T2, hT2⟩ : ∃ T, T = atT d (k + 1) := ⟨_, rfl⟩
            rw [← hT] at x3 c0 c1 c2 hat hr hX
            rw [← hT2] at hr hat2
            have HT2 := Lib.hid hT2
            have HRE := Lib.hid hr
            have i1 : (T : Int) < (N : Int) := by omega
            clear hT hT2 hd hr
            go_wp2
            go_quiet (fail)
            obtain ⟨W2, hW2⟩ : ∃ W2, W2 = wr.drewN nq := ⟨_, rfl⟩
            have hX2 : Blk W2 g 37 #[.int .i64 rt, .int .i64 ut, .slice (some ⟨h, 0, none⟩) N N, .int .i64 (T : Int)] := by rw [hW2]; exact hX
            have hB2 : Blk W2 h 34 (pecs d.l).toArray := by rw [hW2]; exact hB
            have hbt2 : But2 B w W2 g h := hbt.step (by have := hX.lt; omega) (by rw [hW2]; exact below_of_drewN rfl)
            rw [← hW2]
            clear hW2 hX hB hbt x2 x3 c0 c1 c2
            have x2 : W2.cell? ⟨g, 2, none⟩ = some (.slice (some ⟨h, 0, none⟩) N N) := by simpa using hX2.cell 2
            have x3 : W2.cell? ⟨g, 3, none⟩ = some (.int .i64 (T : Int)) := by simpa using hX2.cell 3
            have f3 := hX2.frozen 3
            have gl := hX2.lt
            have hr := HRE.out
            have e1 : ((k : Int) == (N : Int)) = false := by rw [beq_eq_false_iff_ne]; omega
            have e2 : ((N : Int) == 0) = false := by rw [beq_eq_false_iff_ne]; omega
            have e3 : ¬ (N : Int) = 0 := by omega
            have e4 : ¬ N = 0 := by omega
            have s1 : IntKind.i64.wrap ((T : Int) + 1) = (T : Int) + 1 := IntWalk.i64_in _ ⟨by omega, by omega⟩
            have s2 : IntKind.i64.wrap (T2 : Int) = (T2 : Int) := IntWalk.i64_in _ ⟨by omega, by omega⟩
            have MX : Hid (Blk (W2.setCell ⟨g, 3, none⟩ (.int .i64 (T2 : Int))) g 37 #[.int .i64 rt, .int .i64 ut, .slice (some ⟨h, 0, none⟩) N N, .int .i64 (T2 : Int)]) := Lib.hid (by simpa using hX2.set_ 3 (.int .i64 (T2 : Int)))
            have MB := Lib.hid (hB2.past (a := ⟨g, 3, none⟩) ne' (.int .i64 (T2 : Int)))
            have MT := Lib.hid (hbt2.setg hg 3 (.int .i64 (T2 : Int))).drew
            clear hX2 hB2 hbt2
            go_wp2
            go_still_tail 14, (by kernel_rfl)
            change wpList _ _ _ _ _ W2.drew
            go_wp2
            go_roundw
            case rel => exact ⟨k + 1, by omega, by go_num, by rw [← HT2.out]; exact MX.out, MB.out, MT.out⟩
            case measure => simp [intOf]; omega
          · obtain rfl : N = k := by omega
            have hTi : atT d N = d.turn := by have := atT_all (s := d); rwa [HL.out] at this
            rw [hd] at c2
            rw [hTi] at x3 c0 c1 c2 hat hX
            have i1 : (d.turn : Int) < (N : Int) := by omega
            have e1 : ((N : Int) == (N : Int)) = true := by rw [beq_iff_eq]
            clear hd hTi
            go_wp2
            go_quiet (fail)
            obtain ⟨W2, hW2⟩ : ∃ W2, W2 = wr.drewN nq := ⟨_, rfl⟩
            have hX2 : Blk W2 g 37 #[.int .i64 rt, .int .i64 ut, .slice (some ⟨h, 0, none⟩) N N, .int .i64 (d.turn : Int)] := by rw [hW2]; exact hX
            have hB2 : Blk W2 h 34 (pecs d.l).toArray := by rw [hW2]; exact hB
            have hbt2 : But2 B w W2 g h := hbt.step (by have := hX.lt; omega) (by rw [hW2]; exact below_of_drewN rfl)
            rw [← hW2]
            clear hW2 hX hB hbt x2 x3 c0 c1 c2
            have x2 : W2.cell? ⟨g, 2, none⟩ = some (.slice (some ⟨h, 0, none⟩) N N) := by simpa using hX2.cell 2
            obtain ⟨rfl, hF⟩ := HFIN.out W2 d n hX2 hB2 HL.out ⟨HY.out, hn, .inr HD.out⟩
            go_wp2
            go_ret
            exact ⟨rfl, hF, hbt2⟩
    · obtain ⟨hm, hF⟩ := HFIN.out wr d n hX hB HL.out ⟨HY.out, hn, .inl (by omega)⟩
      have HM : Hid ((m : Int) = rt) := Lib.hid (by rw [← hm]; omega)
      clear hX hB hm
      go_wp2
      go_ret
      rw [HM.out]
      exact ⟨rfl, hF, hbt⟩

end Go.Proofs.Ytlaandbaaepamaa
