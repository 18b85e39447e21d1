
/-
  Frames by a set of blocks; tickets in memory; which of two comes first.
-/
import Derived.Test.YtamkadffencpgaaFairQ
import Derived.Test.YtamkadffencpgaaBucketC
import Derived.Test.YtamkadffencpgaaPointB
import Derived.StillTailTactics
import Derived.Laws.OwnMore
namespace Go.Proofs.Ytamkadffencpgaa
set_option linter.all false
open Go.RowKit Go.Shelf Go.Lib

/-- Of what was there nothing has turned but the blocks of S. -/
structure Tn (S : Nat → Prop) (w w' : World) : Prop where
  os : w'.os = w.os
  tape : w'.tape = w.tape
  output : w'.output = w.output
  size : w.heap.size ≤ w'.heap.size
  block : ∀ k, k < w.heap.size → ¬ S k → w'.heap[k]? = w.heap[k]?
theorem Tn.refl (S : Nat → Prop) (w : World) : Tn S w w := ⟨rfl, rfl, rfl, Nat.le_refl _, fun _ _ _ => rfl⟩
theorem Tn.trans {S : Nat → Prop} {a b c : World} (h : Tn S a b) (k : Tn S b c) : Tn S a c :=
  ⟨k.os.trans h.os, k.tape.trans h.tape, k.output.trans h.output, Nat.le_trans h.size k.size, fun i hi hs => (k.block i (Nat.lt_of_lt_of_le hi h.size) hs).trans (h.block i hi hs)⟩
/-- A second step may turn what is new besides. -/
theorem Tn.then_ {S R : Nat → Prop} {a b c : World} (h : Tn S a b) (k : Tn R b c) (hr : ∀ i, i < a.heap.size → R i → S i) : Tn S a c :=
  ⟨k.os.trans h.os, k.tape.trans h.tape, k.output.trans h.output, Nat.le_trans h.size k.size, fun i hi hs => (k.block i (Nat.lt_of_lt_of_le hi h.size) (fun c => hs (hr i hi c))).trans (h.block i hi hs)⟩
theorem Tn.drew {S : Nat → Prop} {a w : World} (h : Tn S a w) : Tn S a w.drew := ⟨h.os, h.tape, h.output, h.size, h.block⟩
theorem Tn.drewN {S : Nat → Prop} {a w : World} (h : Tn S a w) (n : Nat) : Tn S a (w.drewN n) := ⟨h.os, h.tape, h.output, h.size, h.block⟩
theorem Tn.bel {S : Nat → Prop} {a b c : World} (h : Tn S a b) (k : Below b.heap.size b c) : Tn S a c :=
  ⟨k.os.trans h.os, k.tape.trans h.tape, k.output.trans h.output, Nat.le_trans h.size k.size, fun i hi hs => (k.block i (Nat.lt_of_lt_of_le hi h.size)).trans (h.block i hi hs)⟩
theorem Tn.of_below {S : Nat → Prop} {w w' : World} (k : Below w.heap.size w w') : Tn S w w' := (Tn.refl S w).bel k
theorem Tn.alloc {S : Nat → Prop} {a w : World} (h : Tn S a w) (o : Obj) : Tn S a (w.alloc o) := h.bel ((Below.refl _ _).alloc (Nat.le_refl _) _)
theorem Tn.set_ {S : Nat → Prop} {a w : World} (h : Tn S a w) {p : Addr} (hp : S p.block ∨ a.heap.size ≤ p.block) (u : Value) : Tn S a (w.setCell p u) := by
  refine ⟨h.os, h.tape, h.output, by simpa [World.setCell] using h.size, fun i hi hs => ?_⟩
  rw [Below.heap_setCell w p u i (fun e => by subst e; rcases hp with c | c; exact hs c; omega)]
  exact h.block i hi hs
theorem Tn.grown {S : Nat → Prop} {a w w' : World} {row : Option Nat} (h : Tn S a w) (hg : w.grownBy w' row) (hr : ∀ k, row = some k → S k ∨ a.heap.size ≤ k) : Tn S a w' :=
  ⟨hg.os.trans h.os, hg.tape.trans h.tape, hg.output.trans h.output, Nat.le_trans h.size hg.size, fun i hi hs => by
    rw [hg.block i (Nat.lt_of_lt_of_le hi h.size) (fun e => by rcases hr i e.symm with c | c; exact hs c; omega)]
    exact h.block i hi hs⟩
theorem Tn.below {S : Nat → Prop} {w w' : World} {B : Nat} (h : Tn S w w') (hB : B ≤ w.heap.size) (hs : ∀ k, S k → B ≤ k) : Below B w w' :=
  ⟨h.os, h.tape, h.output, h.size, fun k hk => h.block k (by omega) (fun c => by have := hs k c; omega)⟩
theorem Tn.own {S : Nat → Prop} {w w' : World} {base n size : Nat} {e : TypeId} {v : Value} {xs : List Value} (h : Tn S w w') (o : w.ownsRow base e size v n xs) (hv : ∀ k, v.ownBlock = some k → ¬ S k) : w'.ownsRow base e size v n xs := by
  refine ⟨o.1, ?_⟩
  rcases o.2 with c | ⟨g, cap, cur, rfl, hb, hg, r⟩
  · exact .inl c
  · refine .inr ⟨g, cap, cur, rfl, hb, ?_, r⟩
    rw [h.block g (Array.getElem?_eq_some_iff.1 hg).1 (hv g rfl)]; exact hg
theorem Tn.blk {S : Nat → Prop} {w w' : World} {g : Nat} {t : TypeId} {cs : Array Value} (h : Tn S w w') (b : Blk w g t cs) (hg : ¬ S g) : Blk w' g t cs := (h.block g b.lt hg).trans b

/-- The cells of tickets. -/
def tcs (l : List Tk) : List Value := l.flatMap (fun s => [Value.int .i64 (s.1 : Nat), .int .i64 s.2])
theorem tcs_cons (s : Tk) (l : List Tk) : tcs (s :: l) = [Value.int .i64 (s.1 : Nat), .int .i64 s.2] ++ tcs l := by simp [tcs]
theorem tcs_app (l m : List Tk) : tcs (l ++ m) = tcs l ++ tcs m := by simp [tcs]
theorem length_tcs (l : List Tk) : (tcs l).length = l.length * 2 := by
  induction l with
  | nil => rfl
  | cons p l ih => rw [tcs_cons, List.length_append, ih]; simp; omega
theorem tcs_get : ∀ {l : List Tk} {k : Nat} {s : Tk}, l[k]? = some s → (tcs l)[k * 2]? = some (.int .i64 (s.1 : Nat)) ∧ (tcs l)[k * 2 + 1]? = some (.int .i64 s.2)
  | [], k, p, h => by simp at h
  | q :: l, 0, p, h => by simp at h; subst h; rw [tcs_cons]; simp
  | q :: l, k + 1, p, h => by
    have ih := tcs_get (l := l) (k := k) (s := p) (by simpa using h)
    rw [tcs_cons]
    refine ⟨?_, ?_⟩
    · rw [List.getElem?_append_right (by simp; omega)]; simpa [show (k + 1) * 2 - 2 = k * 2 by omega] using ih.1
    · rw [List.getElem?_append_right (by simp; omega)]; simpa [show (k + 1) * 2 + 1 - 2 = k * 2 + 1 by omega] using ih.2
theorem tcs_set : ∀ {l : List Tk} {k : Nat} (s : Tk), k < l.length → ((tcs l).set (k * 2) (.int .i64 (s.1 : Nat))).set (k * 2 + 1) (.int .i64 s.2) = tcs (l.set k s)
  | [], k, s, h => by simp at h
  | q :: l, 0, s, h => by simp [tcs_cons]
  | q :: l, k + 1, s, h => by
    have ih := tcs_set (l := l) (k := k) s (by simpa using h)
    rw [tcs_cons, List.set_append_right _ _ (by simp; omega), List.set_append_right _ _ (by simp; omega), List.set_cons_succ, tcs_cons, ← ih]
    simp [show (k + 1) * 2 - 2 = k * 2 by omega, show (k + 1) * 2 + 1 - 2 = k * 2 + 1 by omega]
theorem tcs_take (l : List Tk) (k : Nat) : (tcs l).take (k * 2) = tcs (l.take k) := by
  by_cases h : k ≤ l.length
  · have e : tcs l = tcs (l.take k) ++ tcs (l.drop k) := by rw [← tcs_app, List.take_append_drop]
    rw [e, List.take_left' (by rw [length_tcs, List.length_take]; omega)]
  · rw [List.take_of_length_le (by rw [length_tcs]; omega), List.take_of_length_le (by omega)]
theorem tk_info : (Try.prog.info? 96).map (fun i => (i.zero, i.size, i.bytes)) = some (some (.agg #[.int .i64 0, .int .i64 0]), 2, 16) := by kernel_rfl
theorem new_two (w : World) (x y : Value) (t : TypeId) : ∀ (j : Nat) (v : Value), [x, y][j]? = some v → (w.alloc (.cells #[x, y] t)).cell? ((⟨w.heap.size, 0, none⟩ : Addr).add j) = some v := by
  intro j v hj
  have b := Blk.new w t #[x, y]
  match j, hj with
  | 0, hj => simp at hj; subst hj; simpa [Addr.add] using b.cell 0
  | 1, hj => simp at hj; subst hj; simpa [Addr.add] using b.cell 1
theorem pair_read {W : World} {g : Nat} {t : TypeId} {x y : Value} (h : Blk W g t #[x, y]) : W.cell? ⟨g, 0, none⟩ = some x ∧ W.cell? ⟨g, 1, none⟩ = some y :=
  ⟨by simpa using h.cell 0, by simpa using h.cell 1⟩
theorem pair_set {W : World} {g : Nat} {t : TypeId} {x y : Value} (h : Blk W g t #[x, y]) (a b : Value) : Blk ((W.setCell ⟨g, 0, none⟩ a).setCell ⟨g, 1, none⟩ b) g t #[a, b] := by
  have := (h.set_ 0 a).set_ 1 b
  simpa using this
theorem pair_stage {W : World} {g : Nat} {t : TypeId} {x y : Value} (h : Blk W g t #[x, y]) : ∀ a, (W.setCell ⟨g, 0, none⟩ a).cell? ⟨g, 0, none⟩ = some a := fun a => by
  rw [(h.set_ 0 a).cell]; simp

/-- A row of tickets, in block g. -/
theorem row_get {w : World} {base g n cap : Nat} {l : List Tk} (h : w.ownsRow base 96 2 (.slice (some ⟨g, 0, none⟩) n cap) n (tcs l)) {k : Nat} (hk : k < n) :
    ∃ t, w.cell? ⟨g, k * 2, none⟩ = some (.int .i64 ((t : Tk).1 : Nat)) ∧ w.cell? ⟨g, k * 2 + 1, none⟩ = some (.int .i64 t.2) ∧ Hid (l[k]? = some t) := by
  have hl : l.length = n := by have := h.1; rw [length_tcs] at this; omega
  have hg := List.getElem?_eq_getElem (l := l) (i := k) (by omega)
  obtain ⟨a, b⟩ := tcs_get hg
  exact ⟨_, (h.cellAt _ (by omega)).trans a, (h.cellAt _ (by omega)).trans b, Lib.hid hg⟩

/-- Which of two numbers is less. -/
def cmpV (x y : Int) : Int := if x < y then -1 else if y < x then 1 else 0
set_option maxHeartbeats 400000 in
theorem cmp_any (x y c : Int) (w : World) (hc : Hid (cmpV x y = c)) : Calls Try.prog 69 #[.int .i64 x, .int .i64 y] w fun e w' => e = .returned (.int .i64 c) ∧ w' = w := by
  by_cases h1 : x < y
  · have HC : Hid (c = -1) := Lib.hid (by rw [← hc.out, cmpV, if_pos h1])
    clear hc
    go_enter Try.func69, Try.ntmps69
    go_wp2
    go_ret
    exact ⟨ret_int HC.out.symm, rfl⟩
  · by_cases h2 : y < x
    · have HC : Hid (c = 1) := Lib.hid (by rw [← hc.out, cmpV, if_neg h1, if_pos h2])
      clear hc
      go_enter Try.func69, Try.ntmps69
      go_wp2
      go_ret
      exact ⟨ret_int HC.out.symm, rfl⟩
    · have HC : Hid (c = 0) := Lib.hid (by rw [← hc.out, cmpV, if_neg h1, if_neg h2])
      clear hc
      go_enter Try.func69, Try.ntmps69
      go_wp2
      go_ret
      exact ⟨ret_int HC.out.symm, rfl⟩
/-- The first that is not 0. -/
def orV (x y : Int) : Int := if x = 0 then y else x
set_option maxHeartbeats 400000 in
theorem or_any (b : Nat) (x y c : Int) (w : World) (hc : Hid (orV x y = c)) (h0 : w.cell? ⟨b, 0, none⟩ = some (.int .i64 x)) (h1 : w.cell? ⟨b, 1, none⟩ = some (.int .i64 y)) :
    Calls Try.prog 68 #[.slice (some ⟨b, 0, none⟩) 2 2] w fun e w' => e = .returned (.int .i64 c) ∧ w' = w := by
  by_cases c0 : x = 0
  · have HC : Hid (c = y) := Lib.hid (by rw [← hc.out, orV, if_pos c0])
    subst c0
    clear hc
    by_cases c1 : y = 0
    · subst c1
      go_enter Try.func68, Try.ntmps68
      go_wp2
      refine wp_loop_rounds 3 ?_
      rw [rounds_succ]; go_wp2
      rw [rounds_succ]; go_wp2
      rw [rounds_succ]; go_wp2
      go_ret
      exact ⟨ret_int HC.out.symm, rfl⟩
    · have e1 : (y != 0) = true := by simp [c1]
      go_enter Try.func68, Try.ntmps68
      go_wp2
      refine wp_loop_rounds 2 ?_
      rw [rounds_succ]; go_wp2
      rw [rounds_succ]; go_wp2
      go_ret
      exact ⟨ret_int HC.out.symm, rfl⟩
  · have HC : Hid (c = x) := Lib.hid (by rw [← hc.out, orV, if_neg c0])
    have e1 : (x != 0) = true := by simp [c0]
    clear hc
    go_enter Try.func68, Try.ntmps68
    go_wp2
    refine wp_loop_rounds 1 ?_
    rw [rounds_succ]; go_wp2
    go_ret
    exact ⟨ret_int HC.out.symm, rfl⟩
/-- Which of two tickets comes first. -/
def tickV (a b : Tk) : Int := orV (cmpV a.2 b.2) (cmpV (a.1 : Int) (b.1 : Int))
theorem tickV_neg (a b : Tk) : tickV a b < 0 ↔ TkLt a b := by
  unfold tickV orV cmpV TkLt
  rcases Int.lt_trichotomy a.2 b.2 with c | c | c
  · rw [if_pos c]; simp; omega
  · rw [if_neg (show ¬ a.2 < b.2 by omega), if_neg (show ¬ b.2 < a.2 by omega), if_pos rfl]
    rcases Nat.lt_trichotomy a.1 b.1 with d | d | d
    · rw [if_pos (show (a.1 : Int) < b.1 by omega)]; simp; omega
    · rw [if_neg (show ¬ (a.1 : Int) < b.1 by omega), if_neg (show ¬ (b.1 : Int) < a.1 by omega)]; simp; omega
    · rw [if_neg (show ¬ (a.1 : Int) < b.1 by omega), if_pos (show (b.1 : Int) < a.1 by omega)]; simp; omega
  · rw [if_neg (show ¬ a.2 < b.2 by omega), if_pos c]; simp; omega
set_option maxRecDepth 100000 in
set_option maxHeartbeats 800000 in
theorem byStart_any (a b : Tk) (w : World) : Calls Try.prog 57 #[.agg #[.int .i64 (a.1 : Nat), .int .i64 a.2], .agg #[.int .i64 (b.1 : Nat), .int .i64 b.2]] w fun e w' => e = .returned (.int .i64 (tickV a b)) ∧ Below w.heap.size w w' := by
  obtain ⟨a1, a2⟩ := a
  obtain ⟨b1, b2⟩ := b
  simp only
  obtain ⟨x, hx⟩ : ∃ x, cmpV a2 b2 = x := ⟨_, rfl⟩
  obtain ⟨y, hy⟩ : ∃ y, cmpV (a1 : Int) (b1 : Int) = y := ⟨_, rfl⟩
  obtain ⟨z, hz⟩ : ∃ z, orV x y = z := ⟨_, rfl⟩
  have HX := Lib.hid hx
  have HY := Lib.hid hy
  have HZ := Lib.hid hz
  have HR : Hid (tickV (a1, a2) (b1, b2) = z) := Lib.hid (by unfold tickV; simp only; rw [hx, hy, hz])
  clear hx hy hz
  obtain ⟨W, hW⟩ : ∃ W, W = (w.alloc (.cells #[.int .i64 (a1 : Nat), .int .i64 a2] 96)).alloc (.cells #[.int .i64 (b1 : Nat), .int .i64 b2] 96) := ⟨_, rfl⟩
  have K1 : Blk W w.heap.size 96 #[.int .i64 (a1 : Nat), .int .i64 a2] := by rw [hW]; exact (Blk.new _ _ _).alloc _
  have K2 : Blk W (w.heap.size + 1) 96 #[.int .i64 (b1 : Nat), .int .i64 b2] := by
    have := Blk.new (w.alloc (.cells #[.int .i64 (a1 : Nat), .int .i64 a2] 96)) 96 #[.int .i64 (b1 : Nat), .int .i64 b2]
    rw [hW]; simpa using this
  have hb : Below w.heap.size w W := by rw [hW]; exact ((Below.refl _ _).alloc (Nat.le_refl _) _).alloc (by simp) _
  have HW := Lib.hid hW
  obtain ⟨p0, p1⟩ := pair_read K1
  obtain ⟨q0, q1⟩ := pair_read K2
  clear hW K1 K2
  go_enter Try.func57, Try.ntmps57
  go_wp2
  rw [← HW.out]
  go_still_tail 10, (by kernel_rfl)
  still_call (cmp_any a2 b2 x _ HX)
  repeat still_step
  still_call (cmp_any (a1 : Int) (b1 : Int) y _ HY)
  refine wpStill_nil ?_
  change wpList _ _ _ _ _ W.drew
  go_wp2_with fail
  refine (or_any _ x y z _ HZ ?oc0 ?oc1).mono ?_
  case oc0 => exact ((Blk.new _ _ _).cell 0).trans (by rfl)
  case oc1 => exact ((Blk.new _ _ _).cell 1).trans (by rfl)
  rintro e w1 ⟨rfl, rfl⟩
  go_wp2
  go_ret
  exact ⟨ret_int HR.out.symm, below_trans hb ((Below.refl _ W).drew.alloc (Nat.le_refl _) _)⟩

end Go.Proofs.Ytamkadffencpgaa
