
/-
  Walks: point.Min, Max, Sum, Less, Late, Up.
-/
import Derived.Test.YtmefekgbljhclaaPointB
namespace Go.Proofs.Ytmefekgbljhclaa
set_option linter.all false
open Go.RowKit Go.Shelf

theorem min1_any (a b : Int) (w : World) : Calls Try.prog 45 #[.int .i64 a, .int .i64 b] w fun e w' => e = .returned (.int .i64 (min a b)) ∧ w = w' := by
  go_enter Try.func45, Try.ntmps45
  go_wp2
  all_goals (go_ret; exact ⟨ret_int (by omega), rfl⟩)
theorem less1_any (a b x : Int) (g : Nat) (w : World) (h1 : 0 ≤ a) (h2 : a ≤ 1000000) (h3 : 0 ≤ b) (h4 : b ≤ 1000000) (hb : Blk w g 3 #[.int .i64 x]) :
    Calls Try.prog 55 #[.int .i64 a, .int .i64 b, .pointer (some ⟨g, 0, none⟩)] w fun e w' => e = .returned (.int .i64 (max x (a - b))) ∧ w' = w.setCell ⟨g, 0, none⟩ (.int .i64 (max x (a - b))) := by
  have hc := hb.cell 0
  have hf := hb.frozen 0
  simp at hc
  obtain ⟨y, hy⟩ : ∃ y, y = max x (a - b) := ⟨_, rfl⟩
  have HY := Lib.hid hy
  rw [← hy]
  clear hy
  go_enter Try.func55, Try.ntmps55
  go_wp2
  · go_ret
    have e : a - b = y := by rw [HY.out]; omega
    exact ⟨ret_int e, by rw [e]⟩
  · go_ret
    have e : x = y := by rw [HY.out]; omega
    exact ⟨ret_int e, by rw [e]⟩

theorem min_op (l m : List Int) (w : World) : Op2 45 #[] w.heap.size w.heap.size l.length (gt l) (gt m) (fun t => min (gt l t) (gt m t)) (fun _ _ => True) :=
  ⟨enters_of Try.func45 (by kernel_rfl) rfl, fun t w' _ _ _ => (min1_any (gt l t) (gt m t) w').mono (by rintro e w'' ⟨rfl, rfl⟩; exact ⟨rfl, trivial, Below.refl _ _, fun _ _ _ => rfl⟩), fun _ _ _ _ _ => trivial⟩
set_option maxHeartbeats 400000 in
theorem min_any (A A' : Option Addr) (l m : List Int) (c d : Nat) (w : World) (h : Ints w A l) (h' : Ints w A' m) :
    Calls Try.prog 35 #[.slice A l.length c, .slice A' m.length d] w (Ans (resL (chk2 l m) (tab l.length fun t => min (gt l t) (gt m t))) (resE (chk2 l m) (tab l.length fun t => min (gt l t) (gt m t))) w) := by
  obtain ⟨L, hL⟩ : ∃ L, L = resL (chk2 l m) (tab l.length fun t => min (gt l t) (gt m t)) := ⟨_, rfl⟩
  obtain ⟨E, hE⟩ : ∃ E, E = resE (chk2 l m) (tab l.length fun t => min (gt l t) (gt m t)) := ⟨_, rfl⟩
  have hp := pairwise_any 45 #[] w.heap.size (fun t => min (gt l t) (gt m t)) (fun _ _ => True) A A' l m c d w (fun w' he => h.heap he) (fun w' he => h'.heap he) (Nat.le_refl _) (fun _ => min_op l m w) (fun _ => trivial)
  rw [← hL, ← hE] at hp ⊢
  have HP := Lib.hid hp
  clear hp hL hE
  go_enter Try.func35, Try.ntmps35
  go_wp2_with fail
  refine HP.out.mono ?_
  rintro e w1 ⟨A1, c1, rfl, o1, b1⟩
  go_wp2
  go_ret2
  exact ⟨A1, c1, rfl, o1, b1⟩
/-- The values of Less. -/
def lessV (l m : List Int) (t : Nat) : Int := mx (fun s => gt l s - gt m s) (t + 1)

theorem less_op (l m : List Int) (hl : Cv l) (hm : Cv m) (e : l.length = m.length) (B : Nat) :
    Op2 55 #[.pointer (some ⟨B, 0, none⟩)] B (B + 1) l.length (gt l) (gt m) (lessV l m) (fun t w => Blk w B 3 #[.int .i64 (mx (fun s => gt l s - gt m s) t)]) :=
  ⟨enters_of Try.func55 (by kernel_rfl) rfl,
   fun t w' ht hi hs => (less1_any (gt l t) (gt m t) _ B w' (hl.lo t ht) (hl.hi t ht) (hm.lo t (by omega)) (hm.hi t (by omega)) hi).mono (by
     rintro e w'' ⟨rfl, rfl⟩
     exact ⟨rfl, hi.set_ 0 _, (Below.refl B w').setCell (p := ⟨B, 0, none⟩) (Nat.le_refl B) _, fun b h1 _ => Below.heap_setCell w' _ _ b (by simp; omega)⟩),
   fun t w1 w2 h he => h.same (he B (by omega))⟩

set_option maxHeartbeats 400000 in
theorem less_any (A A' : Option Addr) (l m : List Int) (c d : Nat) (w : World) (h : Ints w A l) (h' : Ints w A' m) :
    Calls Try.prog 48 #[.slice A l.length c, .slice A' m.length d] w (Ans (resL (chk2 l m) (tab l.length (lessV l m))) (resE (chk2 l m) (tab l.length (lessV l m))) w) := by
  obtain ⟨L, hL⟩ : ∃ L, L = resL (chk2 l m) (tab l.length (lessV l m)) := ⟨_, rfl⟩
  obtain ⟨E, hE⟩ : ∃ E, E = resE (chk2 l m) (tab l.length (lessV l m)) := ⟨_, rfl⟩
  obtain ⟨W, hW⟩ : ∃ W, W = w.alloc (.cells #[.int .i64 0] 3) := ⟨_, rfl⟩
  have hsz : W.heap.size = w.heap.size + 1 := by rw [hW]; simp
  have hold : ∀ b, b < w.heap.size → W.heap[b]? = w.heap[b]? := fun b hb => by rw [hW]; exact Below.heap_alloc w _ b hb
  have hblk : Blk W w.heap.size 3 #[.int .i64 0] := by rw [hW]; exact Blk.new _ _ _
  have hbel : Below w.heap.size w W := by rw [hW]; exact (Below.refl _ _).alloc (Nat.le_refl _) _
  have hp := pairwise_any 55 #[.pointer (some ⟨w.heap.size, 0, none⟩)] w.heap.size (lessV l m) (fun t w' => Blk w' w.heap.size 3 #[.int .i64 (mx (fun s => gt l s - gt m s) t)]) A A' l m c d W
    (fun w' he => h.heap (fun b hb => (he b hb).trans (hold b hb))) (fun w' he => h'.heap (fun b hb => (he b hb).trans (hold b hb))) (by omega)
    (fun e => by rw [hsz]; exact less_op l m (chk2_iff.1 e).1 (chk2_iff.1 e).2.1 (chk2_iff.1 e).2.2 w.heap.size) (fun _ => hblk)
  rw [← hL, ← hE] at hp ⊢
  have HP := Lib.hid hp
  have HW := Lib.hid hW
  have HZ := Lib.hid hsz
  clear hp hL hE hW hold hblk hsz
  go_enter Try.func48, Try.ntmps48
  go_wp2_with fail
  rw [← HW.out]
  refine HP.out.mono ?_
  rintro e w1 ⟨A1, c1, rfl, o1, b1⟩
  go_wp2
  go_ret2
  exact ⟨A1, c1, rfl, own_lower o1 (by have := HZ.out; omega), hbel.trans b1⟩

end Go.Proofs.Ytmefekgbljhclaa
