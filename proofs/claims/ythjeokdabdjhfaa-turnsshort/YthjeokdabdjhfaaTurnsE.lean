
/-
  Walks: flows as literals; turns.After where it fails.
-/
import Derived.Test.YthjeokdabdjhfaaTurnsD
import Derived.Test.YthjeokdabdjhfaaKeepA
namespace Go.Proofs.Ythjeokdabdjhfaa
set_option linter.all false
open Go.RowKit Go.Shelf

set_option maxHeartbeats 400000 in
theorem flow_any (q : Int) (A : Option Addr) (n c : Nat) (w : World) : Calls Try.prog 17 #[.int .i64 q, .slice A n c] w fun e w' => e = .returned (.agg #[.int .i64 q, .slice A n c]) ∧ Below w.heap.size w w' := by
  go_enter Try.func17, Try.ntmps17
  go_wp2
  have B := Blk.new w 36 #[.int .i64 q, .slice A n c]
  have hb : Below w.heap.size w (w.alloc (.cells #[.int .i64 q, .slice A n c] 36)) := (Below.refl _ _).alloc (Nat.le_refl _) _
  generalize w.alloc (.cells #[.int .i64 q, .slice A n c] 36) = W' at *
  obtain ⟨x0, x1⟩ := two_read B
  exact bodyPost_ret (v := .agg #[.int .i64 q, .slice A n c]) (by simp [results, Try.results17, go_sem, x0, x1]) rfl ⟨rfl, hb⟩

theorem Fls.lit1 (w : World) (q : Int) (A : Option Addr) (n c : Nat) (z : List Int) (t : TypeId) (h : Ints w A z) (hn : n = z.length) (hc : z.length ≤ c) : Fls (w.alloc (.cells #[.int .i64 q, .slice A n c] t)) (some ⟨w.heap.size, 0, none⟩) [⟨q, A, c, z⟩] := by
  subst hn
  have B := two_read (Blk.new w t #[.int .i64 q, .slice A z.length c])
  refine ⟨by simp, fun _ => ⟨w.heap.size, 0, rfl, fun j f hj => ?_⟩⟩
  match j, hj with
  | 0, hj =>
    simp at hj
    subst hj
    exact ⟨B.1, B.2, h.alloc _, hc⟩
  | j + 1, hj => simp at hj
theorem Fls.lit2 (w : World) (q r : Int) (A B : Option Addr) (n c m d : Nat) (z y : List Int) (t : TypeId) (h : Ints w A z) (hn : n = z.length) (hc : z.length ≤ c) (h' : Ints w B y) (hm : m = y.length) (hd : y.length ≤ d) : Fls (w.alloc (.cells #[.int .i64 q, .slice A n c, .int .i64 r, .slice B m d] t)) (some ⟨w.heap.size, 0, none⟩) [⟨q, A, c, z⟩, ⟨r, B, d, y⟩] := by
  subst hn hm
  have K := four_read (Blk.new w t #[.int .i64 q, .slice A z.length c, .int .i64 r, .slice B y.length d])
  refine ⟨by simp, fun _ => ⟨w.heap.size, 0, rfl, fun j f hj => ?_⟩⟩
  match j, hj with
  | 0, hj =>
    simp at hj
    subst hj
    exact ⟨K.1, K.2.1, h.alloc _, hc⟩
  | 1, hj =>
    simp at hj
    subst hj
    exact ⟨K.2.2.1, K.2.2.2, h'.alloc _, hd⟩
  | j + 2, hj => simp at hj

theorem aft_at (A : Option Addr) (l : List Fw) (x : List Int) (n c m : Nat) (M : Int) (w : World) (h : Fls w A l) (hE : Hid (flE (fls l) = 0)) (hm : m ≤ 1000) (hx : Hid (aftL (fls l) m = x)) (hn : n = l.length) (hM : M = (m : Int)) :
    Calls Try.prog 10 #[.slice A n c, .int .i64 M] w (Ans x 0 w) := by
  subst hM; exact aft_yes A l x n c m w h hE hm hx hn
set_option maxHeartbeats 800000 in
theorem aft_no (A : Option Addr) (l : List Fw) (c : Nat) (M : Int) (w : World) (h : Fls w A l) (hE : ¬ flE (fls l) = 0) :
    Calls Try.prog 10 #[.slice A l.length c, .int .i64 M] w (Ans [] (flE (fls l)) w) := by
  have e1 : (flE (fls l) != 0) = true := by simp [hE]
  go_enter Try.func10, Try.ntmps10
  go_wp2_with fail
  refine (tcheck_any A l c _ h).mono ?_
  rintro e w1 ⟨rfl, b1⟩
  go_wp2
  go_ret2
  exact ⟨none, 0, rfl, World.ownsRow_nil _ _ _ _, b1⟩
set_option maxHeartbeats 800000 in
theorem aft_out (A : Option Addr) (l : List Fw) (c : Nat) (M : Int) (w : World) (h : Fls w A l) (hE : Hid (flE (fls l) = 0)) (hM : M < 0 ∨ 1000 < M) :
    Calls Try.prog 10 #[.slice A l.length c, .int .i64 M] w (Ans [] 1 w) := by
  have q1 := lim_yes hM
  clear hM
  go_enter Try.func10, Try.ntmps10
  go_wp2_with fail
  refine (tcheck_any A l c _ h).mono ?_
  rintro e w1 ⟨rfl, b1⟩
  rw [hE.out]
  go_wp2_with fail
  refine (lim_any M 0 1000 true _ q1).mono ?_
  rintro e w' ⟨rfl, rfl⟩
  go_wp2
  go_ret2
  exact ⟨none, 0, rfl, World.ownsRow_nil _ _ _ _, b1⟩
theorem length_aftL (l : List Flw) (m : Nat) : (aftL l m).length = l.length := by rw [aftL, length_tab]
theorem gt_aftL {l : List Flw} {m i : Nat} (h : i < l.length) : gt (aftL l m) i = sumV (flw l i).z ((flw l i).cn m) := by rw [aftL, gt_tab _ h]; rfl
theorem wi_nat (n m : Int) (h : 1 ≤ m) : ∃ k : Nat, wi n m = (k : Int) ∧ (k : Int) < m := by
  obtain ⟨k, hk⟩ := Int.eq_ofNat_of_zero_le (wi_nonneg n m (by omega))
  exact ⟨k, hk, by have := wi_lt n m (by omega); omega⟩

end Go.Proofs.Ythjeokdabdjhfaa
