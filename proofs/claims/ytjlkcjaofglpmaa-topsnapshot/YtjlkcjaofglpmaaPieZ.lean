
/-
  Walks of package piece: New, Put; what it owes, shown.
-/
import Derived.Test.YtjlkcjaofglpmaaPieY
import Derived.Test.YtjlkcjaofglpmaaPieF
import Derived.Laws.OwnMore
import Derived.Deep.AppendLies
namespace Go.Proofs.Ytjlkcjaofglpmaa
set_option linter.all false
open Go.RowKit Go.Shelf Go.Lib

theorem own_keepZ {w w' : World} {base n size : Nat} {e : TypeId} {v : Value} {xs : List Value} (h : w.ownsRow base e size v n xs) (hk : ∀ g, v.ownBlock = some g → w'.heap[g]? = w.heap[g]?) : w'.ownsRow base e size v n xs := by
  refine ⟨h.1, ?_⟩
  rcases h.2 with q | ⟨g, cap, cur, rfl, h1, h2, h3⟩
  · exact .inl q
  · exact .inr ⟨g, cap, cur, rfl, h1, (hk g rfl).trans h2, h3⟩
theorem own_lowZ {w : World} {base base' n size : Nat} {e : TypeId} {v : Value} {xs : List Value} (h : w.ownsRow base e size v n xs) (hb : base' ≤ base) : w.ownsRow base' e size v n xs := by
  refine ⟨h.1, ?_⟩
  rcases h.2 with q | ⟨g, cap, cur, rfl, h1, h3⟩
  · exact .inl q
  · exact .inr ⟨g, cap, cur, rfl, Nat.le_trans hb h1, h3⟩
theorem three_frozenZ {W : World} {g : Nat} {t : TypeId} {cs : Array Value} (h : Blk W g t cs) : W.frozen? ⟨g, 0, none⟩ = false ∧ W.frozen? ⟨g, 1, none⟩ = false ∧ W.frozen? ⟨g, 2, none⟩ = false :=
  ⟨h.frozen 0, h.frozen 1, h.frozen 2⟩
theorem three_stageZ {W : World} {g : Nat} {t : TypeId} {x y z : Value} (h : Blk W g t #[x, y, z]) :
    (∀ a, (W.setCell ⟨g, 0, none⟩ a).cell? ⟨g, 0, none⟩ = some a) ∧ (∀ a b, ((W.setCell ⟨g, 0, none⟩ a).setCell ⟨g, 1, none⟩ b).cell? ⟨g, 1, none⟩ = some b) ∧ (∀ a b c, (((W.setCell ⟨g, 0, none⟩ a).setCell ⟨g, 1, none⟩ b).setCell ⟨g, 2, none⟩ c).cell? ⟨g, 2, none⟩ = some c) := by
  refine ⟨fun a => ?_, fun a b => ?_, fun a b c => ?_⟩
  · simpa using (h.set_ 0 a).cell 0
  · simpa using ((h.set_ 0 a).set_ 1 b).cell 1
  · simpa using (((h.set_ 0 a).set_ 1 b).set_ 2 c).cell 2
/-- Three stores to a block below the row. -/
theorem own_pastZ {w : World} {base n size g : Nat} {e : TypeId} {v : Value} {xs : List Value} (h : w.ownsRow base e size v n xs) (hg : g < base) (a b c : Value) : (((w.setCell ⟨g, 0, none⟩ a).setCell ⟨g, 1, none⟩ b).setCell ⟨g, 2, none⟩ c).ownsRow base e size v n xs := by
  refine own_keepZ h (fun k hk => ?_)
  have hl := (h.lt k hk).1
  rw [Below.heap_setCell _ _ _ k (by simp; omega), Below.heap_setCell _ _ _ k (by simp; omega), Below.heap_setCell _ _ _ k (by simp; omega)]
theorem own_blkB {w : World} {g n B : Nat} {z : List Bool} (hb : Blk w g 4 (z.map Value.bool).toArray) (hB : B ≤ g) (hn : n = z.length) (h61 : n ≤ 1000) :
    w.ownsRow B 4 1 (.slice (some ⟨g, 0, none⟩) n n) n (z.map Value.bool) := by
  subst hn
  exact ⟨by simp, .inr ⟨g, z.length, _, rfl, hB, hb, Nat.le_refl _, by unfold maxLen; omega, by simp, by simp [List.take_of_length_le]⟩⟩

set_option maxHeartbeats 800000 in
theorem pnew_any (s u : Int) (w : World) (h : whE s u = 0) : Calls Try.prog 23 #[.int .i64 s, .int .i64 u] w fun e w' => ∃ (A : Option Addr) (c : Nat), e = .returned (.tuple #[.agg #[.int .i64 s, .int .i64 u, .slice A (pcN s u) c], .int .i64 0]) ∧ w'.ownsRow w.heap.size 4 1 (.slice A (pcN s u) c) (pcN s u) ((List.replicate (pcN s u) false).map Value.bool) ∧ Below w.heap.size w w' := by
  have n200 := pcn_max (wh_iff.mp h)
  have HE := Lib.hid h
  obtain ⟨N, hN⟩ : ∃ N, N = pcN s u := ⟨_, rfl⟩
  have HN := Lib.hid hN
  rw [← hN] at n200 ⊢
  have hmk := fun W => made_nots N n200 W
  obtain ⟨G, hG⟩ : ∃ G, G = w.heap.size := ⟨_, rfl⟩
  have HG := Lib.hid hG
  have gle : w.heap.size ≤ G := by omega
  have K0 : Blk (w.alloc (.cells #[.int .i64 0, .int .i64 0, .slice none 0 0] 44)) G 44 #[.int .i64 0, .int .i64 0, .slice none 0 0] := by rw [hG]; exact Blk.new _ _ _
  clear hG hN h
  go_enter Try.func23, Try.ntmps23
  go_wp2_with fail
  refine (psizes_any s u _ HE.out).mono ?_
  rw [← HN.out]
  rintro e w1 ⟨B, d, rfl, o, b1⟩
  have K1 := K0.below b1
  have hb := below_of1 b1
  have sz := b1.size
  have sz1 : G < w1.heap.size := K1.lt
  clear o b1 K0
  obtain ⟨c0, c1, c2⟩ := three_read K1
  obtain ⟨f0, f1, f2⟩ := three_frozenZ K1
  obtain ⟨t0, t1, t2⟩ := three_stageZ K1
  rw [← HG.out]
  go_wp2
  have hk' := three_sets K1 (.int .i64 s) (.int .i64 u) (.slice (some ⟨w1.heap.size, 0, none⟩) N N)
  have hb2 : Below w.heap.size w _ := below_three (g := G) hb (by omega) (.int .i64 s) (.int .i64 u) (.slice (some ⟨w1.heap.size, 0, none⟩) N N)
  have sz2 : (((w1.setCell ⟨G, 0, none⟩ (.int .i64 s)).setCell ⟨G, 1, none⟩ (.int .i64 u)).setCell ⟨G, 2, none⟩ (.slice (some ⟨w1.heap.size, 0, none⟩) N N)).heap.size = w1.heap.size := by simp
  obtain ⟨M, hM⟩ : ∃ M, M = w1.heap.size := ⟨_, rfl⟩
  rw [← hM] at hk' hb2 sz2 sz1 ⊢
  generalize (((w1.setCell ⟨G, 0, none⟩ (.int .i64 s)).setCell ⟨G, 1, none⟩ (.int .i64 u)).setCell ⟨G, 2, none⟩ (.slice (some ⟨M, 0, none⟩) N N)) = W2 at *
  have K2 := hk'.alloc (.cells ((nots N).map Value.bool).toArray 4)
  have hb3 : Below w.heap.size w (W2.alloc (.cells ((nots N).map Value.bool).toArray 4)) := below_trans hb2 (alloc_below _ _)
  have o2 : (W2.alloc (.cells ((nots N).map Value.bool).toArray 4)).ownsRow w.heap.size 4 1 (.slice (some ⟨M, 0, none⟩) N N) N ((nots N).map Value.bool) := own_blkB (by rw [← sz2]; exact Blk.new _ _ _) (by omega) (length_nots N).symm (by omega)
  generalize (W2.alloc (.cells ((nots N).map Value.bool).toArray 4)) = W' at *
  obtain ⟨x0, x1, x2⟩ := three_read K2
  exact bodyPost_ret (v := .tuple #[.agg #[.int .i64 s, .int .i64 u, .slice (some ⟨M, 0, none⟩) N N], .int .i64 0]) (by simp [results, Try.results23, go_sem, x0, x1, x2]) rfl ⟨_, _, rfl, o2, hb3⟩
set_option maxHeartbeats 800000 in
theorem pnew_no (s u : Int) (w : World) (h : ¬ whE s u = 0) : Calls Try.prog 23 #[.int .i64 s, .int .i64 u] w fun e w' => (∃ (A : Option Addr) (c : Nat), e = .returned (.tuple #[.agg #[.int .i64 0, .int .i64 0, .slice A 0 c], .int .i64 (whE s u)])) ∧ Below w.heap.size w w' := by
  have HE := Lib.hid h
  have e1 : (whE s u != 0) = true := by simp [h]
  obtain ⟨G, hG⟩ : ∃ G, G = w.heap.size := ⟨_, rfl⟩
  have HG := Lib.hid hG
  have gle : w.heap.size ≤ G := by omega
  have K0 : Blk (w.alloc (.cells #[.int .i64 0, .int .i64 0, .slice none 0 0] 44)) G 44 #[.int .i64 0, .int .i64 0, .slice none 0 0] := by rw [hG]; exact Blk.new _ _ _
  clear hG h
  go_enter Try.func23, Try.ntmps23
  go_wp2_with fail
  refine (psizes_no s u _ HE.out).mono ?_
  rintro e w1 ⟨⟨B, d, rfl⟩, b1⟩
  have K1 := K0.below b1
  have hb := below_of1 b1
  clear b1 K0
  obtain ⟨c0, c1, c2⟩ := three_read K1
  obtain ⟨f0, f1, f2⟩ := three_frozenZ K1
  obtain ⟨t0, t1, t2⟩ := three_stageZ K1
  rw [← HG.out]
  go_wp2
  have hk' := three_sets K1 (.int .i64 0) (.int .i64 0) (.slice none 0 0)
  have hb2 : Below w.heap.size w _ := below_three (g := G) hb (by omega) (.int .i64 0) (.int .i64 0) (.slice none 0 0)
  generalize (((w1.setCell ⟨G, 0, none⟩ (.int .i64 0)).setCell ⟨G, 1, none⟩ (.int .i64 0)).setCell ⟨G, 2, none⟩ (.slice none 0 0)) = W' at *
  obtain ⟨x0, x1, x2⟩ := three_read hk'
  exact bodyPost_ret (v := .tuple #[.agg #[.int .i64 0, .int .i64 0, .slice none 0 0], .int .i64 (whE s u)]) (by simp [results, Try.results23, go_sem, x0, x1, x2]) rfl ⟨⟨_, _, rfl⟩, hb2⟩

set_option maxHeartbeats 800000 in
theorem pput_no (s u : Int) (A : Option Addr) (c : Nat) (z : List Bool) (i : Int) (w : World) (hz : Bls w A z) (h0 : ¬ stE s u z.length = 0) : Calls Try.prog 25 #[.agg #[.int .i64 s, .int .i64 u, .slice A z.length c], .int .i64 i] w fun e w' => (∃ (B : Option Addr) (d : Nat), e = .returned (.tuple #[.agg #[.int .i64 0, .int .i64 0, .slice B 0 d], .int .i64 (stE s u z.length)])) ∧ Below w.heap.size w w' := by
  have e1 : (stE s u z.length != 0) = true := by simp [h0]
  clear h0
  have hzl := hz.1
  obtain ⟨P, hP⟩ : ∃ P, P = w.heap.size := ⟨_, rfl⟩
  have HP := Lib.hid hP
  obtain ⟨W, hW⟩ : ∃ W, W = (w.alloc (.cells #[.int .i64 s, .int .i64 u, .slice A z.length c] 44)).alloc (.cells #[.int .i64 0, .int .i64 0, .slice none 0 0] 44) := ⟨_, rfl⟩
  have K0 : Blk W P 44 #[.int .i64 s, .int .i64 u, .slice A z.length c] := by rw [hW, hP]; exact (Blk.new _ _ _).alloc _
  have K1 : Blk W (P + 1) 44 #[.int .i64 0, .int .i64 0, .slice none 0 0] := by
    rw [hW, hP]
    have := Blk.new (w.alloc (.cells #[.int .i64 s, .int .i64 u, .slice A z.length c] 44)) 44 #[.int .i64 0, .int .i64 0, .slice none 0 0]
    simpa using this
  have hb : Below w.heap.size w W := by rw [hW]; exact below_trans (alloc_below _ _) (alloc_below _ _)
  have hzW : Bls W A z := hz.below hb
  have hPle : w.heap.size ≤ P := by omega
  obtain ⟨c0, c1, c2⟩ := three_read K0
  have lt0 := K0.lt
  have HW := Lib.hid hW
  clear hW hP
  go_enter Try.func25, Try.ntmps25
  go_wp2_with fail
  rw [← HW.out, ← HP.out]
  refine (pcheck_any s u A c z _ hzW).mono ?_
  rintro e w1 ⟨rfl, b1⟩
  clear c0 c1 c2 lt0
  replace K0 := K0.below b1
  replace K1 := K1.below b1
  replace hzW := hzW.below b1
  replace hb := below_trans hb b1
  obtain ⟨c0, c1, c2⟩ := three_read K0
  have lt0 := K0.lt
  clear b1
  obtain ⟨f0, f1, f2⟩ := three_frozenZ K1
  obtain ⟨t0, t1, t2⟩ := three_stageZ K1
  obtain ⟨d0, d1, d2⟩ := three_read K1
  go_wp2
  have hk' := three_sets K1 (.int .i64 0) (.int .i64 0) (.slice none 0 0)
  have hb2 : Below w.heap.size w _ := below_three (g := P + 1) hb (by omega) (.int .i64 0) (.int .i64 0) (.slice none 0 0)
  generalize (((w1.setCell ⟨P + 1, 0, none⟩ (.int .i64 0)).setCell ⟨P + 1, 1, none⟩ (.int .i64 0)).setCell ⟨P + 1, 2, none⟩ (.slice none 0 0)) = W' at *
  obtain ⟨x0, x1, x2⟩ := three_read hk'
  exact bodyPost_ret (v := .tuple #[.agg #[.int .i64 0, .int .i64 0, .slice none 0 0], .int .i64 (stE s u z.length)]) (by simp [results, Try.results25, go_sem, x0, x1, x2]) rfl ⟨⟨_, _, rfl⟩, hb2⟩
set_option maxHeartbeats 800000 in
theorem pput_arg (s u : Int) (A : Option Addr) (c : Nat) (z : List Bool) (i : Int) (w : World) (hz : Bls w A z) (h0 : stE s u z.length = 0) (hi : ¬ (0 ≤ i ∧ i < z.length)) : Calls Try.prog 25 #[.agg #[.int .i64 s, .int .i64 u, .slice A z.length c], .int .i64 i] w fun e w' => (∃ (B : Option Addr) (d : Nat), e = .returned (.tuple #[.agg #[.int .i64 0, .int .i64 0, .slice B 0 d], .int .i64 1])) ∧ Below w.heap.size w w' := by
  have H0 := Lib.hid h0
  have q1 : Hid (decide (i < 0 ∨ (z.length : Int) - 1 < i) = true) := Lib.hid (decide_eq_true (by omega))
  clear h0 hi
  have hzl := hz.1
  obtain ⟨P, hP⟩ : ∃ P, P = w.heap.size := ⟨_, rfl⟩
  have HP := Lib.hid hP
  obtain ⟨W, hW⟩ : ∃ W, W = (w.alloc (.cells #[.int .i64 s, .int .i64 u, .slice A z.length c] 44)).alloc (.cells #[.int .i64 0, .int .i64 0, .slice none 0 0] 44) := ⟨_, rfl⟩
  have K0 : Blk W P 44 #[.int .i64 s, .int .i64 u, .slice A z.length c] := by rw [hW, hP]; exact (Blk.new _ _ _).alloc _
  have K1 : Blk W (P + 1) 44 #[.int .i64 0, .int .i64 0, .slice none 0 0] := by
    rw [hW, hP]
    have := Blk.new (w.alloc (.cells #[.int .i64 s, .int .i64 u, .slice A z.length c] 44)) 44 #[.int .i64 0, .int .i64 0, .slice none 0 0]
    simpa using this
  have hb : Below w.heap.size w W := by rw [hW]; exact below_trans (alloc_below _ _) (alloc_below _ _)
  have hzW : Bls W A z := hz.below hb
  have hPle : w.heap.size ≤ P := by omega
  obtain ⟨c0, c1, c2⟩ := three_read K0
  have lt0 := K0.lt
  have HW := Lib.hid hW
  clear hW hP
  have m1 : IntKind.i64.wrap ((z.length : Int) - 1) = (z.length : Int) - 1 := IntWalk.i64_in _ ⟨by omega, by omega⟩
  go_enter Try.func25, Try.ntmps25
  go_wp2_with fail
  rw [← HW.out, ← HP.out]
  refine (pcheck_any s u A c z _ hzW).mono ?_
  rintro e w1 ⟨rfl, b1⟩
  rw [H0.out]
  clear c0 c1 c2 lt0
  replace K0 := K0.below b1
  replace K1 := K1.below b1
  replace hzW := hzW.below b1
  replace hb := below_trans hb b1
  obtain ⟨c0, c1, c2⟩ := three_read K0
  have lt0 := K0.lt
  clear b1
  go_wp2_with fail
  refine (lim_any i 0 ((z.length : Int) - 1) true _ q1).mono ?_
  rintro e w' ⟨rfl, rfl⟩
  obtain ⟨f0, f1, f2⟩ := three_frozenZ K1
  obtain ⟨t0, t1, t2⟩ := three_stageZ K1
  obtain ⟨d0, d1, d2⟩ := three_read K1
  go_wp2
  have hk' := three_sets K1 (.int .i64 0) (.int .i64 0) (.slice none 0 0)
  have hb2 : Below w.heap.size w _ := below_three (g := P + 1) hb (by omega) (.int .i64 0) (.int .i64 0) (.slice none 0 0)
  generalize (((w1.setCell ⟨P + 1, 0, none⟩ (.int .i64 0)).setCell ⟨P + 1, 1, none⟩ (.int .i64 0)).setCell ⟨P + 1, 2, none⟩ (.slice none 0 0)) = W' at *
  obtain ⟨x0, x1, x2⟩ := three_read hk'
  exact bodyPost_ret (v := .tuple #[.agg #[.int .i64 0, .int .i64 0, .slice none 0 0], .int .i64 1]) (by simp [results, Try.results25, go_sem, x0, x1, x2]) rfl ⟨⟨_, _, rfl⟩, hb2⟩
set_option maxHeartbeats 1600000 in
theorem pput_any (s u : Int) (A : Option Addr) (c : Nat) (z : List Bool) (i : Nat) (w : World) (hz : Bls w A z) (hzc : z.length ≤ c) (h0 : stE s u z.length = 0) (hi : i < z.length) : Calls Try.prog 25 #[.agg #[.int .i64 s, .int .i64 u, .slice A z.length c], .int .i64 i] w fun e w' => ∃ (B : Option Addr) (d : Nat), e = .returned (.tuple #[.agg #[.int .i64 s, .int .i64 u, .slice B z.length d], .int .i64 0]) ∧ w'.ownsRow w.heap.size 4 1 (.slice B z.length d) z.length ((z.set i true).map Value.bool) ∧ Below w.heap.size w w' := by
  obtain ⟨v, hNp⟩ := st_iff.mp h0
  have n200 := pcn_max v
  rw [← hNp] at n200
  have H0 := Lib.hid h0
  have q1 : Hid (decide ((i : Int) < 0 ∨ (z.length : Int) - 1 < (i : Int)) = false) := Lib.hid (decide_eq_false (by omega))
  clear h0 hNp v
  have hzl := hz.1
  obtain ⟨P, hP⟩ : ∃ P, P = w.heap.size := ⟨_, rfl⟩
  have HP := Lib.hid hP
  obtain ⟨W, hW⟩ : ∃ W, W = (w.alloc (.cells #[.int .i64 s, .int .i64 u, .slice A z.length c] 44)).alloc (.cells #[.int .i64 0, .int .i64 0, .slice none 0 0] 44) := ⟨_, rfl⟩
  have K0 : Blk W P 44 #[.int .i64 s, .int .i64 u, .slice A z.length c] := by rw [hW, hP]; exact (Blk.new _ _ _).alloc _
  have K1 : Blk W (P + 1) 44 #[.int .i64 0, .int .i64 0, .slice none 0 0] := by
    rw [hW, hP]
    have := Blk.new (w.alloc (.cells #[.int .i64 s, .int .i64 u, .slice A z.length c] 44)) 44 #[.int .i64 0, .int .i64 0, .slice none 0 0]
    simpa using this
  have hb : Below w.heap.size w W := by rw [hW]; exact below_trans (alloc_below _ _) (alloc_below _ _)
  have hzW : Bls W A z := hz.below hb
  have hPle : w.heap.size ≤ P := by omega
  obtain ⟨c0, c1, c2⟩ := three_read K0
  have lt0 := K0.lt
  have HW := Lib.hid hW
  clear hW hP
  have m1 : IntKind.i64.wrap ((z.length : Int) - 1) = (z.length : Int) - 1 := IntWalk.i64_in _ ⟨by omega, by omega⟩
  go_enter Try.func25, Try.ntmps25
  go_wp2_with fail
  rw [← HW.out, ← HP.out]
  refine (pcheck_any s u A c z _ hzW).mono ?_
  rintro e w1 ⟨rfl, b1⟩
  rw [H0.out]
  clear c0 c1 c2 lt0
  replace K0 := K0.below b1
  replace K1 := K1.below b1
  replace hzW := hzW.below b1
  replace hb := below_trans hb b1
  obtain ⟨c0, c1, c2⟩ := three_read K0
  have lt0 := K0.lt
  clear b1
  go_wp2_with fail
  refine (lim_any i 0 ((z.length : Int) - 1) false _ q1).mono ?_
  rintro e w' ⟨rfl, rfl⟩
  have sz1 : P + 1 < w1.heap.size := K1.lt
  go_wp2_with fail
  refine (clone_bls A _ z c _ hzW rfl (by omega) n200).mono ?_
  rintro e w2 ⟨B, d, rfl, o, b2⟩
  obtain ⟨g, cap, hv, hg, hgl⟩ := o.form (by omega)
  obtain ⟨rfl, rfl⟩ : B = some ⟨g, 0, none⟩ ∧ d = cap := by injection hv with a b c; exact ⟨a, c⟩
  clear hv
  clear c0 c1 c2 lt0
  replace K0 := K0.below b2
  replace K1 := K1.below b2
  replace hzW := hzW.below b2
  replace hb := below_trans hb b2
  obtain ⟨c0, c1, c2⟩ := three_read K0
  have lt0 := K0.lt
  clear b2
  have ne0 : ¬ g = P := by omega
  have ne1 : ¬ P = g := by omega
  have ne2 : ¬ g = P + 1 := by omega
  have ne3 : ¬ P + 1 = g := by omega
  have f2 := K0.frozen 2
  have c3 := three_set K0
  have i1 : (i : Int) < (z.length : Int) := by omega
  obtain ⟨x, hx⟩ : ∃ x, z[i]? = some x := ⟨_, List.getElem?_eq_getElem hi⟩
  have ci : w2.cell? ⟨g, i, none⟩ = some (.bool x) := by rw [o.cellAt i (by omega), List.getElem?_map, hx]; rfl
  have fi := o.frozenAt i
  have li : ∀ v, (w2.setCell ⟨P, 2, none⟩ v).frozen? ⟨g, i, none⟩ = false := fun v => by
    have := (own_keepZ (w' := w2.setCell ⟨P, 2, none⟩ v) o (fun k hk => Below.heap_setCell _ _ _ k (by injection hk with hk; subst hk; simpa using ne0))).frozenAt i
    exact this
  obtain ⟨f3, f4, f5⟩ := three_frozenZ K1
  obtain ⟨d0, d1, d2⟩ := three_read K1
  go_wp2
  obtain ⟨V, hV⟩ : ∃ V : Value, V = .slice (some ⟨g, 0, none⟩) z.length d := ⟨_, rfl⟩
  have K2 : Blk ((w2.setCell ⟨P, 2, none⟩ V).setCell ⟨g, i, none⟩ (.bool true)) (P + 1) 44 #[.int .i64 0, .int .i64 0, .slice none 0 0] := (K1.past (a := ⟨P, 2, none⟩) (by simp) V).past (a := ⟨g, i, none⟩) (by simpa using ne3) _
  have hb2 : Below w.heap.size w ((w2.setCell ⟨P, 2, none⟩ V).setCell ⟨g, i, none⟩ (.bool true)) := (hb.setCell (p := ⟨P, 2, none⟩) hPle V).setCell (p := ⟨g, i, none⟩) (by show w.heap.size ≤ g; omega) _
  have o2 : (w2.setCell ⟨P, 2, none⟩ V).ownsRow w1.heap.size 4 1 (.slice (some ⟨g, 0, none⟩) z.length d) z.length (z.map Value.bool) := own_keepZ o (fun k hk => Below.heap_setCell _ _ _ k (by injection hk with hk; subst hk; simpa using ne0))
  have o3 := (o2.stored i (.bool true)).1
  rw [← List.map_set] at o3
  have hk' := three_sets K2 (.int .i64 s) (.int .i64 u) V
  have hb3 : Below w.heap.size w _ := below_three (g := P + 1) hb2 (by omega) (.int .i64 s) (.int .i64 u) V
  have o4 := own_lowZ (own_pastZ (g := P + 1) o3 sz1 (.int .i64 s) (.int .i64 u) V) (show w.heap.size ≤ w1.heap.size by omega)
  rw [hV] at hk' hb3 o4
  generalize (((((w2.setCell ⟨P, 2, none⟩ (.slice (some ⟨g, 0, none⟩) z.length d)).setCell ⟨g, i, none⟩ (.bool true)).setCell ⟨P + 1, 0, none⟩ (.int .i64 s)).setCell ⟨P + 1, 1, none⟩ (.int .i64 u)).setCell ⟨P + 1, 2, none⟩ (.slice (some ⟨g, 0, none⟩) z.length d)) = W' at *
  obtain ⟨x0, x1, x2⟩ := three_read hk'
  exact bodyPost_ret (v := .tuple #[.agg #[.int .i64 s, .int .i64 u, .slice (some ⟨g, 0, none⟩) z.length d], .int .i64 0]) (by simp [results, Try.results25, go_sem, x0, x1, x2]) rfl ⟨_, _, rfl, o4, hb3⟩
theorem pieceC : PieceC := ⟨psizes_any, psizes_no, pcheck_any, pnew_any, pnew_no, pput_any, pput_arg, pput_no, pnext_any, pnext_no, pgot_any, pgot_no⟩

end Go.Proofs.Ytjlkcjaofglpmaa
