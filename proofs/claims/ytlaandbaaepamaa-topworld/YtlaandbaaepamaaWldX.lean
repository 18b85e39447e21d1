
/-
  The landed world: its memory; a byte for a peer; who gets the next one; a crash; what its peers are.
-/
import Derived.Test.YtlaandbaaepamaaWldE
import Derived.StillTailTactics
import Derived.Deep.RegionHeld3
namespace Go.Proofs.Ytlaandbaaepamaa
set_option linter.all false
open Go.RowKit Go.Shelf Go.Lib

/-- The peers as they lie in the array: eight places. -/
def padL (l : List Per) : List Per := l ++ List.replicate (8 - l.length) ⟨0, 0, false⟩
theorem length_padL {l : List Per} (h : l.length ≤ 8) : (padL l).length = 8 := by simp [padL]; omega
theorem pr_padL {l : List Per} {i : Nat} (h : i < l.length) : pr (padL l) i = pr l i := by simp [pr, padL, List.getD, List.getElem?_append_left h]
theorem padL_set {l : List Per} {i : Nat} {p : Per} (h : i < l.length) : (padL l).set i p = padL (l.set i p) := by
  unfold padL; rw [List.set_append_left _ _ h, List.length_set]
/-- The cells of the struct. -/
def wcv (r u t : Int) (c : List Value) (n : Int) : List Value := .int .i64 r :: .int .i64 u :: .int .i64 t :: (c ++ [.int .i64 n])
theorem wcv_get {r u t : Int} {c : List Value} {n : Int} {i : Nat} (h : i < c.length) : (wcv r u t c n)[3 + i]? = c[i]? := by
  unfold wcv
  rw [show 3 + i = i + 3 by omega]
  simp [List.getElem?_append_left h]
theorem wcv_last {r u t : Int} {c : List Value} {n : Int} {i : Nat} (h : c.length = i) : (wcv r u t c n)[3 + i]? = some (.int .i64 n) := by
  unfold wcv
  subst h
  rw [show 3 + c.length = c.length + 3 by omega]
  simp
theorem wcv_set {r u t : Int} {c : List Value} {n : Int} {i : Nat} (v : Value) (h : i < c.length) : (wcv r u t c n).set (3 + i) v = wcv r u t (c.set i v) n := by
  unfold wcv
  rw [show 3 + i = i + 3 by omega]
  simp [List.set_append_left _ _ h]
theorem wcv_turn {r u t v : Int} {c : List Value} {n : Int} : (wcv r u t c n).set 2 (.int .i64 v) = wcv r u v c n := rfl

/-- The struct at g: link, piece, turn, eight places, how many of them count. -/
structure WAt (w : World) (g : Nat) (r u t : Int) (l : List Per) (n : Nat) : Prop where
  blk : Blk w g 55 (wcv r u t (pecs l) n).toArray
  len : l.length = 8
theorem WAt.lt {w : World} {g : Nat} {r u t : Int} {l : List Per} {n : Nat} (h : WAt w g r u t l n) : g < w.heap.size := h.blk.lt
theorem WAt.below {w w' : World} {g : Nat} {r u t : Int} {l : List Per} {n : Nat} (h : WAt w g r u t l n) (b : Below w.heap.size w w') : WAt w' g r u t l n := ⟨h.blk.below b, h.len⟩
theorem WAt.same {w w' : World} {g : Nat} {r u t : Int} {l : List Per} {n : Nat} (h : WAt w g r u t l n) (e : w'.heap[g]? = w.heap[g]?) : WAt w' g r u t l n := ⟨h.blk.same e, h.len⟩
theorem WAt.past {w : World} {g : Nat} {r u t : Int} {l : List Per} {n : Nat} (h : WAt w g r u t l n) {a : Addr} (ha : g ≠ a.block) (v : Value) : WAt (w.setCell a v) g r u t l n := ⟨h.blk.past ha v, h.len⟩
theorem WAt.head {w : World} {g : Nat} {r u t : Int} {l : List Per} {n : Nat} (h : WAt w g r u t l n) : w.cell? ⟨g, 0, none⟩ = some (.int .i64 r) ∧ w.cell? ⟨g, 1, none⟩ = some (.int .i64 u) ∧ w.cell? ⟨g, 2, none⟩ = some (.int .i64 t) ∧ w.cell? ⟨g, 27, none⟩ = some (.int .i64 n) := by
  refine ⟨by rw [h.blk.cell]; simp [wcv], by rw [h.blk.cell]; simp [wcv], by rw [h.blk.cell]; simp [wcv], ?_⟩
  rw [h.blk.cell, List.getElem?_toArray]
  exact wcv_last (i := 24) (by rw [length_pecs, h.len])
theorem WAt.peer {w : World} {g i : Nat} {r u t : Int} {l : List Per} {n : Nat} (h : WAt w g r u t l n) (hi : i < 8) : w.cell? ⟨g, 3 + i * 3, none⟩ = some (.int .i64 (pr l i).lag) ∧ w.cell? ⟨g, 3 + i * 3 + 1, none⟩ = some (.int .i64 (pr l i).part) ∧ w.cell? ⟨g, 3 + i * 3 + 2, none⟩ = some (.bool (pr l i).done) := by
  have hl := h.len
  have e : l[i]? = some (pr l i) := by simp [pr, List.getD, List.getElem?_eq_getElem (show i < l.length by omega)]
  obtain ⟨g0, g1, g2⟩ := pecs_get e
  have lp := length_pecs l
  refine ⟨?_, ?_, ?_⟩
  · rw [h.blk.cell, List.getElem?_toArray, wcv_get (by omega)]; exact g0
  · rw [h.blk.cell, List.getElem?_toArray, Nat.add_assoc, wcv_get (by omega)]; exact g1
  · rw [h.blk.cell, List.getElem?_toArray, Nat.add_assoc, wcv_get (by omega)]; exact g2
theorem WAt.prs {w : World} {g : Nat} {r u t : Int} {l : List Per} {n : Nat} (h : WAt w g r u t (padL l) n) (hl : l.length ≤ 8) : Prs w (some ⟨g, 3, none⟩) l := by
  refine ⟨by omega, fun _ => ⟨g, 3, rfl, fun k p hk => ?_⟩⟩
  have hk8 := (List.getElem?_eq_some_iff.1 hk).1
  have e : pr (padL l) k = p := by rw [pr_padL hk8]; simp [pr, List.getD, hk]
  have := h.peer (i := k) (by omega)
  rw [e] at this
  exact this
/-- The world as it is told: in one block. -/
def RepW (w : World) (p : Value) (S : Nat → Prop) (s : WSt) : Prop := ∃ g, p = .pointer (some ⟨g, 0, none⟩) ∧ S = (fun b => b = g) ∧ WAt w g s.rate s.unit s.d.turn (padL s.d.l) s.d.l.length ∧ StOk s

/-- Nothing but block g has turned, and what is new. -/
def Mv1 (w w' : World) (g : Nat) : Prop := Mv w w' (fun b => b = g) (fun b => b = g)
theorem Mv1.refl (w : World) (g : Nat) : Mv1 w w g := ⟨rfl, rfl, rfl, Nat.le_refl _, fun _ _ _ => rfl, fun _ h => .inl h⟩

theorem all_any (g : Nat) (r u t : Int) (l : List Per) (n : Nat) (w : World) (h : WAt w g r u t l n) (hn : n ≤ 8) :
    Calls Try.prog 33 #[.pointer (some ⟨g, 0, none⟩)] w fun e w' => e = .returned (.slice (some ⟨g, 3, none⟩) n 8) ∧ ∃ k, w' = w.drewN k := by
  obtain ⟨x0, x1, x2, x3⟩ := h.head
  have hl := h.lt
  have i1 : (n : Int) ≤ 8 := by omega
  clear h
  go_enter Try.func33, Try.ntmps33
  go_wp2
  go_quiet (fail)
  go_wp2
  go_ret
  exact ⟨rfl, _, rfl⟩

set_option maxHeartbeats 800000 in
theorem fed_part (x y u : Int) (z : Bool) (w : World) (h1 : y + 1 ≠ u) (h2 : y + 1 ≠ x) (hx : x ≠ 0) (y0 : 0 ≤ y) (y1 : y ≤ 1000000) :
    Calls Try.prog 35 #[.agg #[.int .i64 x, .int .i64 y, .bool z], .int .i64 u] w fun e w' => e = .returned (.agg #[.int .i64 x, .int .i64 (y + 1), .bool false]) ∧ Below w.heap.size w w' := by
  have s1 : IntKind.i64.wrap (y + 1) = y + 1 := IntWalk.i64_in _ ⟨by omega, by omega⟩
  have b1 : ((y + 1 : Int) == u) = false := by rw [beq_eq_false_iff_ne]; exact h1
  have b2 : ((y + 1 : Int) == x) = false := by rw [beq_eq_false_iff_ne]; exact h2
  have b3 : ((x : Int) == 0) = false := by rw [beq_eq_false_iff_ne]; exact hx
  clear h1 h2 hx
  go_enter Try.func35, Try.ntmps35
  go_wp2
  have bb : Below w.heap.size w ((w.alloc (.cells #[.int .i64 x, .int .i64 (y + 1), .bool false] 34)).alloc (.cells #[.int .i64 x, .int .i64 (y + 1), .bool false] 34)) := ((Below.refl _ _).alloc (Nat.le_refl _) _).alloc (by simp) _
  obtain ⟨r0, r1, r2⟩ := three_read (Blk.new (w.alloc (.cells #[.int .i64 x, .int .i64 (y + 1), .bool false] 34)) 34 #[.int .i64 x, .int .i64 (y + 1), .bool false])
  rw [show (w.alloc (.cells #[.int .i64 x, .int .i64 (y + 1), .bool false] 34)).heap.size = w.heap.size + 1 by simp] at r0 r1 r2
  generalize ((w.alloc (.cells #[.int .i64 x, .int .i64 (y + 1), .bool false] 34)).alloc (.cells #[.int .i64 x, .int .i64 (y + 1), .bool false] 34)) = W' at *
  exact bodyPost_ret (v := .agg #[.int .i64 x, .int .i64 (y + 1), .bool false]) (by simp [results, Try.results35, go_sem, r0, r1, r2]) rfl ⟨rfl, bb⟩
set_option maxHeartbeats 800000 in
theorem fed_unit (x y u : Int) (z d : Bool) (w : World) (h1 : y + 1 = u) (y0 : 0 ≤ y) (y1 : y ≤ 1000000) (x0 : 0 ≤ x) (x1 : x ≤ 1000000) (hd : ((x - (y + 1) : Int) == 0) = d) :
    Calls Try.prog 35 #[.agg #[.int .i64 x, .int .i64 y, .bool z], .int .i64 u] w fun e w' => e = .returned (.agg #[.int .i64 (x - (y + 1)), .int .i64 0, .bool d]) ∧ Below w.heap.size w w' := by
  have s1 : IntKind.i64.wrap (y + 1) = y + 1 := IntWalk.i64_in _ ⟨by omega, by omega⟩
  have s2 : IntKind.i64.wrap (x - (y + 1)) = x - (y + 1) := IntWalk.i64_in _ ⟨by omega, by omega⟩
  have b1 : ((y + 1 : Int) == u) = true := by rw [beq_iff_eq]; exact h1
  clear h1
  go_enter Try.func35, Try.ntmps35
  go_wp2
  have bb : Below w.heap.size w ((w.alloc (.cells #[.int .i64 (x - (y + 1)), .int .i64 0, .bool d] 34)).alloc (.cells #[.int .i64 (x - (y + 1)), .int .i64 0, .bool d] 34)) := ((Below.refl _ _).alloc (Nat.le_refl _) _).alloc (by simp) _
  obtain ⟨r0, r1, r2⟩ := three_read (Blk.new (w.alloc (.cells #[.int .i64 (x - (y + 1)), .int .i64 0, .bool d] 34)) 34 #[.int .i64 (x - (y + 1)), .int .i64 0, .bool d])
  rw [show (w.alloc (.cells #[.int .i64 (x - (y + 1)), .int .i64 0, .bool d] 34)).heap.size = w.heap.size + 1 by simp] at r0 r1 r2
  generalize ((w.alloc (.cells #[.int .i64 (x - (y + 1)), .int .i64 0, .bool d] 34)).alloc (.cells #[.int .i64 (x - (y + 1)), .int .i64 0, .bool d] 34)) = W' at *
  exact bodyPost_ret (v := .agg #[.int .i64 (x - (y + 1)), .int .i64 0, .bool d]) (by simp [results, Try.results35, go_sem, r0, r1, r2]) rfl ⟨rfl, bb⟩
set_option maxHeartbeats 800000 in
theorem fed_lag (x y u : Int) (z d : Bool) (w : World) (h0 : y + 1 ≠ u) (h1 : y + 1 = x) (y0 : 0 ≤ y) (y1 : y ≤ 1000000) (x0 : 0 ≤ x) (x1 : x ≤ 1000000) (hd : ((x - (y + 1) : Int) == 0) = d) :
    Calls Try.prog 35 #[.agg #[.int .i64 x, .int .i64 y, .bool z], .int .i64 u] w fun e w' => e = .returned (.agg #[.int .i64 (x - (y + 1)), .int .i64 0, .bool d]) ∧ Below w.heap.size w w' := by
  have s1 : IntKind.i64.wrap (y + 1) = y + 1 := IntWalk.i64_in _ ⟨by omega, by omega⟩
  have s2 : IntKind.i64.wrap (x - (y + 1)) = x - (y + 1) := IntWalk.i64_in _ ⟨by omega, by omega⟩
  have b0 : ((y + 1 : Int) == u) = false := by rw [beq_eq_false_iff_ne]; exact h0
  have b1 : ((y + 1 : Int) == x) = true := by rw [beq_iff_eq]; exact h1
  clear h0 h1
  go_enter Try.func35, Try.ntmps35
  go_wp2
  have bb : Below w.heap.size w ((w.alloc (.cells #[.int .i64 (x - (y + 1)), .int .i64 0, .bool d] 34)).alloc (.cells #[.int .i64 (x - (y + 1)), .int .i64 0, .bool d] 34)) := ((Below.refl _ _).alloc (Nat.le_refl _) _).alloc (by simp) _
  obtain ⟨r0, r1, r2⟩ := three_read (Blk.new (w.alloc (.cells #[.int .i64 (x - (y + 1)), .int .i64 0, .bool d] 34)) 34 #[.int .i64 (x - (y + 1)), .int .i64 0, .bool d])
  rw [show (w.alloc (.cells #[.int .i64 (x - (y + 1)), .int .i64 0, .bool d] 34)).heap.size = w.heap.size + 1 by simp] at r0 r1 r2
  generalize ((w.alloc (.cells #[.int .i64 (x - (y + 1)), .int .i64 0, .bool d] 34)).alloc (.cells #[.int .i64 (x - (y + 1)), .int .i64 0, .bool d] 34)) = W' at *
  exact bodyPost_ret (v := .agg #[.int .i64 (x - (y + 1)), .int .i64 0, .bool d]) (by simp [results, Try.results35, go_sem, r0, r1, r2]) rfl ⟨rfl, bb⟩
/-- A byte for a peer that waits. -/
theorem fed_any (p q : Per) (u : Int) (w : World) (h : PrOk u p) (hd : p.done = false) (hl : p.lag ≤ 1000000) (hq : q = p.byte u) :
    Calls Try.prog 35 #[.agg #[.int .i64 p.lag, .int .i64 p.part, .bool p.done], .int .i64 u] w fun e w' => e = .returned (.agg #[.int .i64 q.lag, .int .i64 q.part, .bool q.done]) ∧ Below w.heap.size w w' := by
  have n := h.wait hd
  have y0 := h.part0
  have x0 := h.lag0
  have x1 : p.part < p.lag := by unfold Per.need at n; omega
  subst hq
  unfold Per.byte
  by_cases c : p.part + 1 = u
  · rw [if_pos (.inl c)]
    exact fed_unit _ _ _ _ _ w c y0 (by omega) x0 hl rfl
  · by_cases c2 : p.part + 1 = p.lag
    · rw [if_pos (.inr c2)]
      exact fed_lag _ _ _ _ _ w c c2 y0 (by omega) x0 hl rfl
    · rw [if_neg (by omega)]
      simp only [hd]
      exact fed_part _ _ _ _ w c c2 (by omega) y0 (by omega)

theorem rem_at {s : Wd} {k N : Nat} (hN : s.l.length = N) (h : s.turn < N) (hk : k < N) : Int.tmod ((s.turn : Int) + k) (N : Int) = (atT s k : Int) := by
  subst hN
  unfold atT
  by_cases c : s.turn + k < s.l.length
  · rw [if_pos c, Int.tmod_eq_emod_of_nonneg (by omega), Int.emod_eq_of_lt (by omega) (by omega)]; omega
  · rw [if_neg c, Int.tmod_eq_emod_of_nonneg (by omega), show ((s.turn : Int) + k) = ((s.turn + k - s.l.length : Nat) : Int) + (s.l.length : Int) by omega, Int.add_emod_right, Int.emod_eq_of_lt (by omega) (by omega)]
set_option maxHeartbeats 1600000 in
theorem next_yes (g : Nat) (r u : Int) (s : Wd) (i : Nat) (w : World) (h : WAt w g r u s.turn (padL s.l) s.l.length) (h8 : s.l.length ≤ 8) (ht : s.turn < s.l.length) (hp : s.Pick i) :
    Calls Try.prog 34 #[.pointer (some ⟨g, 0, none⟩)] w fun e w' => e = .returned (.tuple #[.int .i64 i, .bool true]) ∧ ∃ k, w' = w.drewN k := by
  have hf : s.far i < s.l.length := by have := hp.lt; unfold Wd.far; split <;> omega
  have hi := hp.lt
  obtain ⟨N, hN⟩ : ∃ N, s.l.length = N := ⟨_, rfl⟩
  obtain ⟨T, hT⟩ : ∃ T, T = s.turn := ⟨_, rfl⟩
  rw [hN] at h ht
  rw [← hT] at h ht
  have x2 := h.head.2.2.1
  have x3 := h.head.2.2.2
  have gl := h.lt
  have H := Lib.hid h
  have HN := Lib.hid hN
  have HT := Lib.hid hT
  rw [hN] at hf hi h8
  obtain ⟨f, hff⟩ : ∃ f, f = s.far i := ⟨_, rfl⟩
  rw [← hff] at hf
  have HF := Lib.hid hff
  have HP := Lib.hid hp
  clear h hN hT hff hp
  go_enter Try.func34, Try.ntmps34
  go_wp2
  go_loopw [10] (fun i wr => ∃ k : Nat, k ≤ f ∧ i = .int .i64 k ∧ ∃ m, wr = w.drewN m) (fun i _ => N - (intOf i).toNat)
  case atStart => exact ⟨0, by omega, rfl, 0, rfl⟩
  case round =>
    obtain ⟨k, hk, rfl, m, rfl⟩ := hrel
    have x2' : (w.drewN m).cell? ⟨g, 2, none⟩ = some (.int .i64 T) := x2
    have x3' : (w.drewN m).cell? ⟨g, 27, none⟩ = some (.int .i64 N) := x3
    have hlt : k < N := by omega
    have hr := rem_at HN.out (show s.turn < N by rw [← HT.out]; exact ht) hlt
    rw [← HT.out] at hr
    have hat := atT_lt (s := s) (k := k) (by rw [HN.out, ← HT.out]; exact ht) (by rw [HN.out]; omega)
    rw [HN.out] at hat
    obtain ⟨W1, hW1⟩ : ∃ W1, W1 = w.drewN m := ⟨_, rfl⟩
    have hA1 : WAt W1 g r u T (padL s.l) N := by rw [hW1]; exact H.out.same rfl
    obtain ⟨c0, c1, c2⟩ := hA1.peer (i := atT s k) (by omega)
    rw [pr_padL (by rw [HN.out]; exact hat)] at c2
    have gl1 := hA1.lt
    rw [← hW1] at x2' x3'
    have HW1 := Lib.hid hW1
    clear hA1 c0 c1 hW1
    have i1 : (k : Int) < (N : Int) := by omega
    have i0 : ((atT s k : Nat) : Int) < (N : Int) := by omega
    by_cases hkf : k < f
    · have hd := pick_before (by rw [HN.out, ← HT.out]; exact ht) HP.out (show k < s.far i by rw [← HF.out]; exact hkf) (by rw [HN.out]; omega)
      rw [hd] at c2
      obtain ⟨A, hA⟩ : ∃ A, A = atT s k := ⟨_, rfl⟩
      rw [← hA] at c2 i0 hat hr
      clear hA hd
      rw [← HW1.out]
      have e5 : ¬ (N : Int) = 0 := by omega
      have e6 : ¬ N = 0 := by omega
      have s1 : IntKind.i64.wrap ((T : Int) + k) = (T : Int) + k := IntWalk.i64_in _ ⟨by omega, by omega⟩
      have s2 : IntKind.i64.wrap ((A : Nat) : Int) = ((A : Nat) : Int) := IntWalk.i64_in _ ⟨by omega, by omega⟩
      go_wp2
      go_region
      go_wp2
      go_roundw
      case rel => exact ⟨k + 1, by omega, by go_num, m + 1, by rw [HW1.out]; rfl⟩
      case measure => simp [intOf]; omega
    · obtain rfl : k = f := by omega
      have hTi : atT s k = i := by rw [HF.out]; exact far_at (by rw [HN.out, ← HT.out]; exact ht) (by rw [HN.out]; exact hi)
      rw [hTi, HP.out.wait] at c2
      rw [hTi] at i0 hat hr
      obtain ⟨A, hA⟩ : ∃ A, A = i := ⟨_, rfl⟩
      rw [← hA] at c2 i0 hat hr
      have HA := Lib.hid hA
      clear hA hTi
      rw [← HW1.out]
      have e5 : ¬ (N : Int) = 0 := by omega
      have e6 : ¬ N = 0 := by omega
      have s1 : IntKind.i64.wrap ((T : Int) + k) = (T : Int) + k := IntWalk.i64_in _ ⟨by omega, by omega⟩
      have s2 : IntKind.i64.wrap ((A : Nat) : Int) = ((A : Nat) : Int) := IntWalk.i64_in _ ⟨by omega, by omega⟩
      go_wp2
      go_region
      go_wp2
      go_ret2
      exact ⟨by rw [HA.out]; rfl, m + 1, by rw [HW1.out]; rfl⟩
set_option maxHeartbeats 1600000 in
theorem next_no (g : Nat) (r u : Int) (s : Wd) (w : World) (h : WAt w g r u s.turn (padL s.l) s.l.length) (h8 : s.l.length ≤ 8) (ht : s.turn < s.l.length) (hp : ∀ i, i < s.l.length → (pr s.l i).done = true) :
    Calls Try.prog 34 #[.pointer (some ⟨g, 0, none⟩)] w fun e w' => e = .returned (.tuple #[.int .i64 0, .bool false]) ∧ ∃ k, w' = w.drewN k := by
  obtain ⟨N, hN⟩ : ∃ N, s.l.length = N := ⟨_, rfl⟩
  obtain ⟨T, hT⟩ : ∃ T, T = s.turn := ⟨_, rfl⟩
  rw [hN] at h ht
  rw [← hT] at h ht
  have x2 := h.head.2.2.1
  have x3 := h.head.2.2.2
  have gl := h.lt
  have H := Lib.hid h
  have HN := Lib.hid hN
  have HT := Lib.hid hT
  rw [hN] at h8
  have HP := Lib.hid hp
  clear h hN hT hp
  go_enter Try.func34, Try.ntmps34
  go_wp2
  go_loopw [10] (fun i wr => ∃ k : Nat, k ≤ N ∧ i = .int .i64 k ∧ ∃ m, wr = w.drewN m) (fun i _ => N - (intOf i).toNat)
  case atStart => exact ⟨0, by omega, rfl, 0, rfl⟩
  case round =>
    obtain ⟨k, hk, rfl, m, rfl⟩ := hrel
    have x2' : (w.drewN m).cell? ⟨g, 2, none⟩ = some (.int .i64 T) := x2
    have x3' : (w.drewN m).cell? ⟨g, 27, none⟩ = some (.int .i64 N) := x3
    by_cases hlt : k < N
    · have hr := rem_at HN.out (show s.turn < N by rw [← HT.out]; exact ht) hlt
      rw [← HT.out] at hr
      have hat := atT_lt (s := s) (k := k) (by rw [HN.out, ← HT.out]; exact ht) (by rw [HN.out]; omega)
      rw [HN.out] at hat
      obtain ⟨W1, hW1⟩ : ∃ W1, W1 = w.drewN m := ⟨_, rfl⟩
      have hA1 : WAt W1 g r u T (padL s.l) N := by rw [hW1]; exact H.out.same rfl
      obtain ⟨c0, c1, c2⟩ := hA1.peer (i := atT s k) (by omega)
      rw [pr_padL (by rw [HN.out]; exact hat)] at c2
      have gl1 := hA1.lt
      rw [← hW1] at x2' x3'
      have HW1 := Lib.hid hW1
      clear hA1 c0 c1 hW1
      have i1 : (k : Int) < (N : Int) := by omega
      have i0 : ((atT s k : Nat) : Int) < (N : Int) := by omega
      rw [HP.out _ (by rw [HN.out]; exact hat)] at c2
      obtain ⟨A, hA⟩ : ∃ A, A = atT s k := ⟨_, rfl⟩
      rw [← hA] at c2 i0 hat hr
      clear hA
      rw [← HW1.out]
      have e5 : ¬ (N : Int) = 0 := by omega
      have e6 : ¬ N = 0 := by omega
      have s1 : IntKind.i64.wrap ((T : Int) + k) = (T : Int) + k := IntWalk.i64_in _ ⟨by omega, by omega⟩
      have s2 : IntKind.i64.wrap ((A : Nat) : Int) = ((A : Nat) : Int) := IntWalk.i64_in _ ⟨by omega, by omega⟩
      go_wp2
      go_region
      go_wp2
      go_roundw
      case rel => exact ⟨k + 1, by omega, by go_num, m + 1, by rw [HW1.out]; rfl⟩
      case measure => simp [intOf]; omega
    · obtain rfl : k = N := by omega
      go_wp2
      go_ret2
      exact ⟨rfl, m, rfl⟩

theorem prk_info : (Try.prog.info? 34).map (fun i => (i.zero, i.size, i.bytes)) = some (some (.agg #[.int .i64 0, .int .i64 0, .bool false]), 3, 24) := by kernel_rfl
theorem Prs.cells {w : World} {A : Option Addr} {l : List Per} (h : Prs w A l) {b off : Nat} (e : A = some ⟨b, off, none⟩) (hl : 0 < l.length) : ∀ j u, (pecs l)[j]? = some u → w.cell? ⟨b, off + j, none⟩ = some u := by
  subst e
  obtain ⟨b', off', e, hc⟩ := h.2 hl
  injection e with e
  injection e with e1 e2
  subst e1 e2
  intro j u hj
  have hlt := (List.getElem?_eq_some_iff.1 hj).1
  rw [length_pecs] at hlt
  have hk : j / 3 < l.length := by omega
  have e := List.getElem?_eq_getElem hk
  obtain ⟨c0, c1, c2⟩ := hc _ _ e
  obtain ⟨g0, g1, g2⟩ := pecs_get e
  rcases (show j = j / 3 * 3 ∨ j = j / 3 * 3 + 1 ∨ j = j / 3 * 3 + 2 by omega) with q | q | q
  · rw [← q] at g0 c0; rw [g0] at hj; injection hj with hj; rw [c0, hj]
  · rw [Nat.add_assoc, ← q] at c1; rw [← q] at g1; rw [g1] at hj; injection hj with hj; rw [c1, hj]
  · rw [Nat.add_assoc, ← q] at c2; rw [← q] at g2; rw [g2] at hj; injection hj with hj; rw [c2, hj]
set_option maxHeartbeats 800000 in
theorem clone_prs (A : Option Addr) (l : List Per) (c : Nat) (w : World) (h : Prs w A l) (hp : 0 < l.length) (h61 : l.length ≤ 61) :
    Calls Try.prog 36 #[.slice A l.length c] w fun e w' => ∃ A' c', e = .returned (.slice A' l.length c') ∧ w'.ownsRow w.heap.size 34 3 (.slice A' l.length c') l.length (pecs l) ∧ Below w.heap.size w w' := by
  obtain ⟨i0, hi0, hz0, hz1, hz2⟩ := info_parts prk_info
  obtain ⟨b, off, rfl, hc⟩ := h.2 hp
  have HC := Lib.hid (h.cells rfl hp)
  have hlt : b < w.heap.size := cell_lt (hc 0 _ (List.getElem?_eq_getElem hp)).1
  clear hc
  have q : ∀ (w : World) (a : Option Addr) (n c n' c' : Nat), (binOp .eql 35 (.slice a n c) (.slice none n' c')).run Try.prog w = .ok (.bool a.isNone) w := fun w a n c n' c' => Lib.run_eql_slice_nil w _ _ a n c n' c' Try.underlying35
  go_enter Try.func36, Try.ntmps36
  go_wp2_with (at_builtin; refine wpList_append_own _ rfl _ _ 35 rfl w.heap.size 34 i0 (.agg #[.int .i64 0, .int .i64 0, .bool false]) 3 24 Try.underlying35 hi0 hz0 hz1 hz2 rfl (by decide) _ _ _ rfl (World.ownsRow_made w #[] 0 (Nat.le_refl _) (Nat.zero_le _) rfl) ⟨b, off, none⟩ l.length c (pecs l) rfl ?qc1 ?qc2 ?qc3 ?qc4 ?qc5 ?qc6 ?_)
  case qc1 => exact length_pecs l
  case qc2 =>
    intro j u hj
    rw [Addr.add_lit]
    exact (Below.cell ((Below.refl w.heap.size w).alloc (Nat.le_refl _) _) (p := ⟨b, off + j, none⟩) hlt).trans (HC.out j u hj)
  case qc3 => exact pecs_one l
  case qc4 => unfold maxLen; omega
  case qc5 => omega
  case qc6 => simp
  intro v' w1 hown hgrow hnil
  go_wp2
  go_ret
  have ho : w1.ownsRow w.heap.size 34 3 v' l.length (pecs l) := by simpa using hown
  have hb : Below w.heap.size w w1 := ((Below.refl _ w).alloc (Nat.le_refl _) _).grown hgrow (by simp) (by intro k hk; simp [Value.ownBlock] at hk; omega)
  rcases ho.2 with ⟨rfl, h0⟩ | ⟨g, cap, cur, rfl, _⟩
  · omega
  · exact ⟨_, _, rfl, ho, hb⟩

set_option maxHeartbeats 800000 in
theorem peers_any (w : World) (p : Value) (S : Nat → Prop) (s : WSt) (h : RepW w p S s) :
    Calls Try.prog 19 #[p] w fun e w' => ∃ A c, e = .returned (.slice A s.d.l.length c) ∧ w'.ownsRow w.heap.size 34 3 (.slice A s.d.l.length c) s.d.l.length (pecs s.d.l) ∧ Below w.heap.size w w' := by
  obtain ⟨g, rfl, rfl, hA, ok⟩ := h
  have n0 := ok.n0
  have n8 := ok.n1
  go_enter Try.func19, Try.ntmps19
  go_wp2_with fail
  refine (all_any g _ _ _ _ _ _ hA n8).mono ?_
  rintro e w1 ⟨rfl, k, rfl⟩
  go_wp2_with fail
  refine (clone_prs _ s.d.l 8 (w.drewN k) (WAt.prs (hA.same rfl) n8) (by omega) (by omega)).mono ?_
  rintro e w1 ⟨A, c, rfl, ho, hb⟩
  go_wp2
  go_ret
  exact ⟨_, _, rfl, ho, (show Below w.heap.size w (w.drewN k) from below_of_drewN rfl).trans hb⟩

theorem crash_set {s : WSt} {i : Nat} (hi : i < s.d.l.length) (w : World) (g : Nat) (h : WAt w g s.rate s.unit s.d.turn (padL s.d.l) s.d.l.length) (h8 : s.d.l.length ≤ 8) :
    WAt (w.setCell ⟨g, 3 + i * 3 + 1, none⟩ (.int .i64 0)) g (crashW i s).rate (crashW i s).unit (crashW i s).d.turn (padL (crashW i s).d.l) (crashW i s).d.l.length := by
  have hl := length_padL h8
  have k := h.blk.setl (i := 3 + i * 3 + 1) (.int .i64 0)
  rw [Nat.add_assoc, wcv_set _ (by rw [length_pecs]; omega), pecs_part (by omega), pr_padL hi, padL_set hi] at k
  simp only [crashW, List.length_set]
  exact ⟨by rw [Nat.add_assoc]; exact k, length_padL (by rw [List.length_set]; exact h8)⟩
set_option maxHeartbeats 800000 in
theorem crash_yes (i : Nat) (w : World) (p : Value) (S : Nat → Prop) (s : WSt) (h : RepW w p S s) (hi : i < s.d.l.length) :
    Calls Try.prog 17 #[p, .int .i64 i] w fun e w' => e = .returned (.int .i64 0) ∧ ∃ S', RepW w' p S' (crashW i s) ∧ Mv w w' S S' := by
  obtain ⟨g, rfl, rfl, hA, ok⟩ := h
  have n0 := ok.n0
  have n8 := ok.n1
  have hA' := Lib.hid (crash_set hi w g hA n8)
  have hok := Lib.hid (crash_st ok hi)
  obtain ⟨c0, c1, c2⟩ := hA.peer (i := i) (by omega)
  obtain ⟨_, _, _, x3⟩ := hA.head
  have f1 := hA.blk.frozen (3 + i * 3 + 1)
  have gl := hA.lt
  obtain ⟨N, hN⟩ : ∃ N, N = s.d.l.length := ⟨_, rfl⟩
  rw [← hN] at hi n0 n8 x3
  have s1 : IntKind.i64.wrap ((N : Int) - 1) = (N : Int) - 1 := IntWalk.i64_in _ ⟨by omega, by omega⟩
  have q1 : Hid _ := lim_no (x := i) (lo := 0) (hi := (N : Int) - 1) (by omega) (by omega)
  have i1 : (i : Int) < 8 := by omega
  clear hA hN ok
  go_enter Try.func17, Try.ntmps17
  go_wp2_with fail
  refine (lim_any i 0 ((N : Int) - 1) false _ q1).mono ?_
  rintro e w' ⟨rfl, rfl⟩
  go_wp2
  go_ret
  exact ⟨rfl, _, ⟨g, rfl, rfl, hA'.out, hok.out⟩, rfl, rfl, rfl, by simp, fun b hb hne => Below.heap_setCell w ⟨g, _, none⟩ _ b hne, fun b hb => .inl hb⟩
set_option maxHeartbeats 800000 in
theorem crash_not (i : Int) (w : World) (p : Value) (S : Nat → Prop) (s : WSt) (h : RepW w p S s) (hi : ¬ (0 ≤ i ∧ i < s.d.l.length)) :
    Calls Try.prog 17 #[p, .int .i64 i] w fun e w' => e = .returned (.int .i64 1) ∧ ∃ S', RepW w' p S' s ∧ Mv w w' S S' := by
  have H := Lib.hid h
  obtain ⟨g, rfl, rfl, hA, ok⟩ := h
  have n0 := ok.n0
  have n8 := ok.n1
  obtain ⟨_, _, _, x3⟩ := hA.head
  have gl := hA.lt
  obtain ⟨N, hN⟩ : ∃ N, N = s.d.l.length := ⟨_, rfl⟩
  rw [← hN] at hi n0 n8 x3
  have s1 : IntKind.i64.wrap ((N : Int) - 1) = (N : Int) - 1 := IntWalk.i64_in _ ⟨by omega, by omega⟩
  have q1 : Hid _ := lim_yes (x := i) (lo := 0) (hi := (N : Int) - 1) (by omega)
  clear hA hN ok hi
  go_enter Try.func17, Try.ntmps17
  go_wp2_with fail
  refine (lim_any i 0 ((N : Int) - 1) true _ q1).mono ?_
  rintro e w' ⟨rfl, rfl⟩
  go_wp2
  go_ret
  exact ⟨rfl, _, H.out, rfl, rfl, rfl, Nat.le_refl _, fun b hb hne => rfl, fun b hb => .inl hb⟩

end Go.Proofs.Ytlaandbaaepamaa
