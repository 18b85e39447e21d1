
/-
  Walks of package edf: which job is next.
-/
import Derived.Test.YtoapgdandpcboaaEdfX
namespace Go.Proofs.Ytoapgdandpcboaa
set_option linter.all false
open Go.RowKit Go.Shelf Go.Lib

def wks (r : List Jb) (i : Nat) : Int := (jb r i).work
theorem bs_next (r : List Jb) (t k : Nat) {q : Jb} (h : r[k]? = some q) : bsV r (wks r) t (k + 1) = if (q.at_ ≤ (t : Int) ∧ 0 < q.work) ∧ (bsV r (wks r) t k < 0 ∨ q.due < (jb r (bsV r (wks r) t k).toNat).due) then (k : Int) else bsV r (wks r) t k := by
  rw [bsV]
  have e := jb_of h
  have : pnB r (wks r) t k = true ↔ (q.at_ ≤ (t : Int) ∧ 0 < q.work) := by rw [pnB_iff, wks, e]
  rw [e]
  by_cases c : (q.at_ ≤ (t : Int) ∧ 0 < q.work) ∧ (bsV r (wks r) t k < 0 ∨ q.due < (jb r (bsV r (wks r) t k).toNat).due)
  · rw [if_pos ⟨this.mpr c.1, c.2⟩, if_pos c]
  · rw [if_neg (fun x => c ⟨this.mp x.1, x.2⟩), if_neg c]
set_option maxHeartbeats 3200000 in
theorem next_any (A : Option Addr) (r : List Jb) (n c t : Nat) (R : Int) (w : World) (h : Jbs w A r) (hn : r.length = n) (h12 : n ≤ 12) (HR : Hid (bsV r (wks r) t n = R)) :
    Calls Try.prog 25 #[.slice A n c, .int .i64 t] w fun e w' => e = .returned (.int .i64 R) ∧ Below w.heap.size w w' := by
  subst hn
  go_enter Try.func25, Try.ntmps25
  go_wp2
  go_loopw [5, 10] (fun s i wr => ∃ k : Nat, k ≤ r.length ∧ i = .int .i64 k ∧ (∃ b : Int, Hid (bsV r (wks r) t k = b) ∧ s = .int .i64 b) ∧ Below w.heap.size w wr) (fun _ i _ => r.length - (intOf i).toNat)
  case atStart => exact ⟨0, Nat.zero_le _, rfl, ⟨-1, Lib.hid rfl, rfl⟩, Below.refl _ _⟩
  case round =>
    obtain ⟨k, hk, rfl, ⟨b, HB, rfl⟩, hbel⟩ := hrel
    by_cases hlt : k < r.length
    · obtain ⟨bb, off, q, hA', hbl, c0, c1, c2, HJ⟩ := (h.below hbel).get hlt
      subst hA'
      have HN := Lib.hid (bs_next r t k HJ.out)
      have i1 : (k : Int) < (r.length : Int) := by omega
      obtain ⟨g1, hg1⟩ : ∃ g, g = wr.heap.size := ⟨_, rfl⟩
      obtain ⟨W1, hW1⟩ : ∃ W, W = wr.alloc (.cells #[.int .i64 q.at_, .int .i64 q.work, .int .i64 q.due] 31) := ⟨_, rfl⟩
      have B1 : Blk W1 g1 31 #[.int .i64 q.at_, .int .i64 q.work, .int .i64 q.due] := by rw [hW1, hg1]; exact Blk.new _ _ _
      have hb1 : Below w.heap.size w W1 := by rw [hW1]; exact hbel.alloc hbel.size _
      have HW1 := Lib.hid hW1
      have HG1 := Lib.hid hg1
      clear hW1 hg1
      by_cases a1 : q.at_ ≤ (t : Int)
      · have e1 : decide (q.at_ ≤ (t : Int)) = true := decide_eq_true a1
        cases a2 : decide (0 < q.work)
        · have HQ := Lib.hid a2
          have HN' : Hid (bsV r (wks r) t (k + 1) = b) := Lib.hid (by rw [HN.out, if_neg (fun x => absurd x.1.2 (of_decide_eq_false a2)), HB.out])
          clear a2
          have hl1 := B1.lt
          obtain ⟨x0, x1, x2⟩ := three_read B1
          go_wp2
          rw [← HG1.out, ← HW1.out]
          clear c0 c1 c2 HG1 HW1
          refine wp_region_any (by kernel_rfl) ?_
          change wpAny _ _ _ _ _ _ _ (World.drew _)
          refine wpAny_take (i := 0) (v := (.pointer (some ⟨g1, 0, none⟩))) rfl (by kernel_rfl) (by kernel_rfl) (by kernel_rfl) (fun _ _ _ h => h) (Or.inl ⟨by first | rfl | kernel_rfl, by intro w; go_simp⟩) ?_
          refine wpAny_take (i := 2) (v := (.int .i64 t)) rfl (by kernel_rfl) (by kernel_rfl) (by kernel_rfl) (fun _ _ _ h => h) (Or.inl ⟨by first | rfl | kernel_rfl, by intro w; go_simp⟩) ?_
          refine wpAny_ready (rs := [1]) (by kernel_rfl) (by simp) ?_
          refine AllReady.cons rfl (fun K hK => ?_) AllReady.nil
          go_simp
          refine hK _ _ ?_
          clear hK K
          refine wpAny_take (i := 3) (v := (.bool true)) rfl (by kernel_rfl) (by kernel_rfl) (by kernel_rfl) (fun _ _ _ h => h) (Or.inl ⟨by first | rfl | kernel_rfl, by intro w; go_simp⟩) ?_
          refine wpAny_take (i := 4) (v := (.bool true)) rfl (by kernel_rfl) (by kernel_rfl) (by kernel_rfl) (fun _ _ _ h => h) (Or.inl ⟨by first | rfl | kernel_rfl, by intro w; go_simp⟩) ?_
          refine wpAny_ready (rs := [5]) (by kernel_rfl) (by simp) ?_
          refine AllReady.cons rfl (fun K hK => ?_) AllReady.nil
          go_simp
          refine hK _ _ ?_
          clear hK K
          refine wpAny_ready (rs := [6]) (by kernel_rfl) (by simp) ?_
          refine AllReady.cons rfl (fun K hK => ?_) AllReady.nil
          go_simp
          go_wp2_with (go_at_call 24; refine (waits_any q false _ HQ).mono ?_; rintro e w9 ⟨rfl, b9⟩)
          refine wpAny_take (i := 7) (v := (.bool false)) rfl (by kernel_rfl) (by kernel_rfl) (by kernel_rfl) (fun _ _ _ h => h) (Or.inl ⟨by first | rfl | kernel_rfl, by intro w; go_simp⟩) ?_
          refine wpAny_take (i := 8) (v := (.bool false)) rfl (by kernel_rfl) (by kernel_rfl) (by kernel_rfl) (fun _ _ _ h => h) (Or.inl ⟨by first | rfl | kernel_rfl, by intro w; go_simp⟩) ?_
          refine wpAny_take (i := 9) (v := undef) rfl (by kernel_rfl) (by kernel_rfl) (by kernel_rfl) (fun _ _ _ h => h) (Or.inr ⟨by kernel_rfl, rfl⟩) ?_
          go_simp
          refine wpAny_take (i := 10) (v := undef) rfl (by kernel_rfl) (by kernel_rfl) (by kernel_rfl) (fun _ _ _ h => h) (Or.inr ⟨by kernel_rfl, rfl⟩) ?_
          go_simp
          refine wpAny_take (i := 11) (v := undef) rfl (by kernel_rfl) (by kernel_rfl) (by kernel_rfl) (fun _ _ _ h => h) (Or.inr ⟨by kernel_rfl, rfl⟩) ?_
          go_simp
          refine wpAny_take (i := 12) (v := undef) rfl (by kernel_rfl) (by kernel_rfl) (by kernel_rfl) (fun _ _ _ h => h) (Or.inr ⟨by kernel_rfl, rfl⟩) ?_
          go_simp
          refine wpAny_take (i := 13) (v := undef) rfl (by kernel_rfl) (by kernel_rfl) (by kernel_rfl) (fun _ _ _ h => h) (Or.inr ⟨by kernel_rfl, rfl⟩) ?_
          go_simp
          refine wpAny_take (i := 14) (v := undef) rfl (by kernel_rfl) (by kernel_rfl) (by kernel_rfl) (fun _ _ _ h => h) (Or.inr ⟨by kernel_rfl, rfl⟩) ?_
          go_simp
          refine wpAny_take (i := 15) (v := undef) rfl (by kernel_rfl) (by kernel_rfl) (by kernel_rfl) (fun _ _ _ h => h) (Or.inr ⟨by kernel_rfl, rfl⟩) ?_
          go_simp
          refine wpAny_take (i := 16) (v := undef) rfl (by kernel_rfl) (by kernel_rfl) (by kernel_rfl) (fun _ _ _ h => h) (Or.inr ⟨by kernel_rfl, rfl⟩) ?_
          go_simp
          refine wpAny_take (i := 17) (v := undef) rfl (by kernel_rfl) (by kernel_rfl) (by kernel_rfl) (fun _ _ _ h => h) (Or.inr ⟨by kernel_rfl, rfl⟩) ?_
          go_simp
          refine wpAny_take (i := 18) (v := undef) rfl (by kernel_rfl) (by kernel_rfl) (by kernel_rfl) (fun _ _ _ h => h) (Or.inr ⟨by kernel_rfl, rfl⟩) ?_
          go_simp
          refine wpAny_take (i := 19) (v := undef) rfl (by kernel_rfl) (by kernel_rfl) (by kernel_rfl) (fun _ _ _ h => h) (Or.inr ⟨by kernel_rfl, rfl⟩) ?_
          go_simp
          refine wpAny_take (i := 20) (v := undef) rfl (by kernel_rfl) (by kernel_rfl) (by kernel_rfl) (fun _ _ _ h => h) (Or.inr ⟨by kernel_rfl, rfl⟩) ?_
          go_simp
          refine wpAny_take (i := 21) (v := (.bool false)) rfl (by kernel_rfl) (by kernel_rfl) (by kernel_rfl) (fun _ _ _ h => h) (Or.inl ⟨by first | rfl | kernel_rfl, by intro w; go_simp⟩) ?_
          refine wpAny_done (by kernel_rfl) ?_ _
          go_simp
          have b9' : Below W1.heap.size W1 w9 := below_trans (below_of_drewN (n := 1) rfl) b9
          have hb9 := below_trans hb1 b9'
          clear b9 x0 x1 x2
          go_wp2
          go_roundw
          case rel => exact ⟨k + 1, by omega, by go_num, ⟨b, HN', rfl⟩, hb9⟩
          case measure => simp [intOf]; omega
        · have HQ := Lib.hid a2
          have a3 := of_decide_eq_true a2
          clear a2
          rcases bs_spec r (wks r) t k with ⟨z, _⟩ | ⟨m, z, hm, _⟩
          · obtain rfl : b = -1 := by rw [← HB.out, z]
            have HN' : Hid (bsV r (wks r) t (k + 1) = k) := Lib.hid (by rw [HN.out, if_pos ⟨⟨a1, a3⟩, .inl (by rw [z]; omega)⟩])
            clear z a3
            have hl1 := B1.lt
            obtain ⟨x0, x1, x2⟩ := three_read B1
            go_wp2
            rw [← HG1.out, ← HW1.out]
            clear c0 c1 c2 HG1 HW1
            refine wp_region_any (by kernel_rfl) ?_
            change wpAny _ _ _ _ _ _ _ (World.drew _)
            refine wpAny_take (i := 0) (v := (.pointer (some ⟨g1, 0, none⟩))) rfl (by kernel_rfl) (by kernel_rfl) (by kernel_rfl) (fun _ _ _ h => h) (Or.inl ⟨by first | rfl | kernel_rfl, by intro w; go_simp⟩) ?_
            refine wpAny_take (i := 2) (v := (.int .i64 t)) rfl (by kernel_rfl) (by kernel_rfl) (by kernel_rfl) (fun _ _ _ h => h) (Or.inl ⟨by first | rfl | kernel_rfl, by intro w; go_simp⟩) ?_
            refine wpAny_ready (rs := [1]) (by kernel_rfl) (by simp) ?_
            refine AllReady.cons rfl (fun K hK => ?_) AllReady.nil
            go_simp
            refine hK _ _ ?_
            clear hK K
            refine wpAny_take (i := 3) (v := (.bool true)) rfl (by kernel_rfl) (by kernel_rfl) (by kernel_rfl) (fun _ _ _ h => h) (Or.inl ⟨by first | rfl | kernel_rfl, by intro w; go_simp⟩) ?_
            refine wpAny_take (i := 4) (v := (.bool true)) rfl (by kernel_rfl) (by kernel_rfl) (by kernel_rfl) (fun _ _ _ h => h) (Or.inl ⟨by first | rfl | kernel_rfl, by intro w; go_simp⟩) ?_
            refine wpAny_ready (rs := [5]) (by kernel_rfl) (by simp) ?_
            refine AllReady.cons rfl (fun K hK => ?_) AllReady.nil
            go_simp
            refine hK _ _ ?_
            clear hK K
            refine wpAny_ready (rs := [6]) (by kernel_rfl) (by simp) ?_
            refine AllReady.cons rfl (fun K hK => ?_) AllReady.nil
            go_simp
            go_wp2_with (go_at_call 24; refine (waits_any q true _ HQ).mono ?_; rintro e w9 ⟨rfl, b9⟩)
            refine wpAny_take (i := 7) (v := (.bool true)) rfl (by kernel_rfl) (by kernel_rfl) (by kernel_rfl) (fun _ _ _ h => h) (Or.inl ⟨by first | rfl | kernel_rfl, by intro w; go_simp⟩) ?_
            refine wpAny_take (i := 8) (v := (.bool true)) rfl (by kernel_rfl) (by kernel_rfl) (by kernel_rfl) (fun _ _ _ h => h) (Or.inl ⟨by first | rfl | kernel_rfl, by intro w; go_simp⟩) ?_
            refine wpAny_take (i := 9) (v := (.int .i64 (-1))) rfl (by kernel_rfl) (by kernel_rfl) (by kernel_rfl) (fun _ _ _ h => h) (Or.inl ⟨by first | rfl | kernel_rfl, by intro w; go_simp⟩) ?_
            refine wpAny_take (i := 10) (v := (.bool true)) rfl (by kernel_rfl) (by kernel_rfl) (by kernel_rfl) (fun _ _ _ h => h) (Or.inl ⟨by first | rfl | kernel_rfl, by intro w; go_simp⟩) ?_
            refine wpAny_take (i := 11) (v := (.bool true)) rfl (by kernel_rfl) (by kernel_rfl) (by kernel_rfl) (fun _ _ _ h => h) (Or.inl ⟨by first | rfl | kernel_rfl, by intro w; go_simp⟩) ?_
            refine wpAny_take (i := 12) (v := undef) rfl (by kernel_rfl) (by kernel_rfl) (by kernel_rfl) (fun _ _ _ h => h) (Or.inr ⟨by kernel_rfl, rfl⟩) ?_
            go_simp
            refine wpAny_take (i := 13) (v := undef) rfl (by kernel_rfl) (by kernel_rfl) (by kernel_rfl) (fun _ _ _ h => h) (Or.inr ⟨by kernel_rfl, rfl⟩) ?_
            go_simp
            refine wpAny_take (i := 14) (v := undef) rfl (by kernel_rfl) (by kernel_rfl) (by kernel_rfl) (fun _ _ _ h => h) (Or.inr ⟨by kernel_rfl, rfl⟩) ?_
            go_simp
            refine wpAny_take (i := 15) (v := undef) rfl (by kernel_rfl) (by kernel_rfl) (by kernel_rfl) (fun _ _ _ h => h) (Or.inr ⟨by kernel_rfl, rfl⟩) ?_
            go_simp
            refine wpAny_take (i := 16) (v := undef) rfl (by kernel_rfl) (by kernel_rfl) (by kernel_rfl) (fun _ _ _ h => h) (Or.inr ⟨by kernel_rfl, rfl⟩) ?_
            go_simp
            refine wpAny_take (i := 17) (v := undef) rfl (by kernel_rfl) (by kernel_rfl) (by kernel_rfl) (fun _ _ _ h => h) (Or.inr ⟨by kernel_rfl, rfl⟩) ?_
            go_simp
            refine wpAny_take (i := 18) (v := undef) rfl (by kernel_rfl) (by kernel_rfl) (by kernel_rfl) (fun _ _ _ h => h) (Or.inr ⟨by kernel_rfl, rfl⟩) ?_
            go_simp
            refine wpAny_take (i := 19) (v := undef) rfl (by kernel_rfl) (by kernel_rfl) (by kernel_rfl) (fun _ _ _ h => h) (Or.inr ⟨by kernel_rfl, rfl⟩) ?_
            go_simp
            refine wpAny_take (i := 20) (v := (.bool true)) rfl (by kernel_rfl) (by kernel_rfl) (by kernel_rfl) (fun _ _ _ h => h) (Or.inl ⟨by first | rfl | kernel_rfl, by intro w; go_simp⟩) ?_
            refine wpAny_take (i := 21) (v := (.bool true)) rfl (by kernel_rfl) (by kernel_rfl) (by kernel_rfl) (fun _ _ _ h => h) (Or.inl ⟨by first | rfl | kernel_rfl, by intro w; go_simp⟩) ?_
            refine wpAny_done (by kernel_rfl) ?_ _
            go_simp
            have b9' : Below W1.heap.size W1 w9 := below_trans (below_of_drewN (n := 1) rfl) b9
            have hb9 := below_trans hb1 b9'
            clear b9 x0 x1 x2
            go_wp2
            go_roundw
            case rel => exact ⟨k + 1, by omega, by go_num, ⟨k, HN', rfl⟩, hb9⟩
            case measure => simp [intOf]; omega
          · obtain rfl : b = (m : Int) := by rw [← HB.out, z]
            obtain ⟨bb', off', p, hA2, hbl2, d0, d1, d2, HJ2⟩ := (h.below hbel).get (k := m) (by omega)
            obtain ⟨rfl, rfl⟩ : bb' = bb ∧ off' = off := by simpa using hA2.symm
            clear hA2
            have hp := jb_of HJ2.out
            have dW : W1.cell? ⟨bb', off' + m * 3 + 2, none⟩ = some (.int .i64 p.due) := by
              rw [HW1.out]; exact (Below.cell ((Below.refl wr.heap.size wr).alloc (Nat.le_refl _) _) (p := ⟨bb', off' + m * 3 + 2, none⟩) hbl2).trans d2
            clear d0 d1 d2
            have i4 : (m : Int) < (r.length : Int) := by omega
            cases a4 : decide (q.due < p.due)
            all_goals
              have HF := Lib.hid a4
              have e4 := a4
              clear a4
              have hl1 := B1.lt
              obtain ⟨x0, x1, x2⟩ := three_read B1
            · have HN' : Hid (bsV r (wks r) t (k + 1) = m) := Lib.hid (by rw [HN.out, z, if_neg (fun x => by rcases x.2 with y | y; omega; rw [show ((m : Int)).toNat = m by omega, hp] at y; exact absurd y (of_decide_eq_false HF.out))])
              clear z hp HF
              go_wp2
              rw [← HG1.out, ← HW1.out]
              clear c0 c1 c2 HG1 HW1
              go_region_held3 (fun w' => w'.cell? ⟨g1, 0, none⟩ = some (.int .i64 q.at_) ∧ w'.cell? ⟨g1, 1, none⟩ = some (.int .i64 q.work) ∧ w'.cell? ⟨g1, 2, none⟩ = some (.int .i64 q.due) ∧ w'.cell? ⟨bb', off' + m * 3 + 2, none⟩ = some (.int .i64 p.due))
                (first | go_keep | (go_split_ands; refine ⟨?_, ?_, ?_, ?_⟩ <;> exact (b9.cell (cell_lt (by assumption))).trans (by assumption)))
                (first
                  | ((with_reducible refine (waits_any q true _ HQ).mono ?_); rintro e w9 ⟨rfl, b9⟩))
              have b9' : Below W1.heap.size W1 w9 := below_trans (below_of_drewN (n := 1) rfl) b9
              have hb9 := below_trans hb1 b9'
              clear b9 x0 x1 x2
              go_wp2
              go_roundw
              case rel => exact ⟨k + 1, by omega, by go_num, ⟨m, HN', rfl⟩, hb9⟩
              case measure => simp [intOf]; omega
            · have HN' : Hid (bsV r (wks r) t (k + 1) = k) := Lib.hid (by rw [HN.out, z, if_pos ⟨⟨a1, a3⟩, .inr (by rw [show ((m : Int)).toNat = m by omega, hp]; exact of_decide_eq_true HF.out)⟩])
              clear z hp HF
              go_wp2
              rw [← HG1.out, ← HW1.out]
              clear c0 c1 c2 HG1 HW1
              go_region_held3 (fun w' => w'.cell? ⟨g1, 0, none⟩ = some (.int .i64 q.at_) ∧ w'.cell? ⟨g1, 1, none⟩ = some (.int .i64 q.work) ∧ w'.cell? ⟨g1, 2, none⟩ = some (.int .i64 q.due) ∧ w'.cell? ⟨bb', off' + m * 3 + 2, none⟩ = some (.int .i64 p.due))
                (first | go_keep | (go_split_ands; refine ⟨?_, ?_, ?_, ?_⟩ <;> exact (b9.cell (cell_lt (by assumption))).trans (by assumption)))
                (first
                  | ((with_reducible refine (waits_any q true _ HQ).mono ?_); rintro e w9 ⟨rfl, b9⟩))
              have b9' : Below W1.heap.size W1 w9 := below_trans (below_of_drewN (n := 1) rfl) b9
              have hb9 := below_trans hb1 b9'
              clear b9 x0 x1 x2
              go_wp2
              go_roundw
              case rel => exact ⟨k + 1, by omega, by go_num, ⟨k, HN', rfl⟩, hb9⟩
              case measure => simp [intOf]; omega
      · have e1 : decide (q.at_ ≤ (t : Int)) = false := decide_eq_false a1
        have HN' : Hid (bsV r (wks r) t (k + 1) = b) := Lib.hid (by rw [HN.out, if_neg (fun x => a1 x.1.1), HB.out])
        have hl1 := B1.lt
        obtain ⟨x0, x1, x2⟩ := three_read B1
        go_wp2
        rw [← HG1.out, ← HW1.out]
        go_quiet (fail)
        go_wp2
        go_roundw
        case rel => exact ⟨k + 1, by omega, by go_num, ⟨b, HN', rfl⟩, ⟨hb1.os, hb1.tape, hb1.output, hb1.size, hb1.block⟩⟩
        case measure => simp [intOf]; omega
    · obtain rfl : k = r.length := by omega
      have HQ : Hid (b = R) := Lib.hid (by rw [← HB.out, HR.out])
      go_wp2
      go_ret
      exact ⟨ret_int HQ.out, hbel⟩

end Go.Proofs.Ytoapgdandpcboaa
