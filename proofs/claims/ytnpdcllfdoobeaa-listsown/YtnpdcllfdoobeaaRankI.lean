
/-
  Walks: slices.Values over tasks, slices.AppendSeq, slices.Collect: a slice of tasks is laid anew.
-/
import Derived.Test.YtnpdcllfdoobeaaTaskA
import Derived.Test.YtnpdcllfdoobeaaBucketA
import Derived.Deep.RegionHeld3
import Derived.RangeFuncNested
import Derived.RangeFuncBound
import Derived.RangeFuncCalls
import Derived.RangeFuncLeaves
import Derived.RangeFuncBox
import Derived.Shelf.Abstract
import Derived.Shelf.RegionOpen
import Derived.WalkKit
import Derived.OwnWalkIn
import Derived.TacticsInMore
import Derived.LoopNIn
import Derived.LoopIn
namespace Go.Proofs.Ytnpdcllfdoobeaa
set_option linter.all false
open Go.RowKit Go.Shelf

attribute [local go_sem] Oper.semAt_some

theorem upto_take {l : List Tk} {k : Nat} (hk : k ≤ l.length) : (List.range k).map (tk l) = l.take k := by
  apply List.ext_getElem?
  intro i
  by_cases c : i < k
  · rw [List.getElem?_take_of_lt c]
    simp [c, tk, List.getD, show i < l.length by omega]
  · rw [List.getElem?_eq_none (by simp; omega), List.getElem?_eq_none (by simp; omega)]
theorem upto_next (l : List Tk) (k : Nat) : (List.range (k + 1)).map (tk l) = (List.range k).map (tk l) ++ [tk l k] := by simp [List.range_succ]
def tenc (x : Tk) : Array Value := #[.agg #[.int .i64 x.per, .int .i64 x.work, .int .i64 x.due]]

set_option maxRecDepth 100000 in
set_option maxHeartbeats 2000000 in
theorem tvalues1_in (F : Fence) (n : Nat) (hv : F.fn 86) (hro : F.round = none) (hn : 1 ≤ n) (l Bs n₀ b off cap : Nat) (zs : List Tk) (hle : zs.length ≤ 1000) (hb : b < n₀) (J Jx : List Tk → World → Prop) (hJ : ∀ pre W, J pre W → ∀ o, J pre (W.alloc o))
    (hY : ∀ pre (x : Tk) W, J pre W → pre.length < zs.length → YieldAt F (n - 1) Try.prog l #[.agg #[.int .i64 x.per, .int .i64 x.work, .int .i64 x.due]] W fun e W' =>
      (e = .returned (.bool true) ∧ J (pre ++ [x]) W' ∧ Below n₀ W W') ∨ (e = .returned (.bool false) ∧ Jx (pre ++ [x]) W'))
    (W : World) (hn₀ : n₀ ≤ W.heap.size) (hBs : W.cell? ⟨Bs, 0, none⟩ = some (.slice (some ⟨b, off, none⟩) zs.length cap))
    (hc : ∀ j, j < zs.length → W.cell? ⟨b, off + j * 3, none⟩ = some (.int .i64 (tk zs j).per) ∧ W.cell? ⟨b, off + j * 3 + 1, none⟩ = some (.int .i64 (tk zs j).work) ∧ W.cell? ⟨b, off + j * 3 + 2, none⟩ = some (.int .i64 (tk zs j).due)) (h0 : J [] W) :
    CallsIn F n Try.prog 86 #[.func (.yield l) #[] #[], .pointer (some ⟨Bs, 0, none⟩)] W fun e W' => (∃ v, e = .returned v) ∧
      ((∃ ys, ys = zs ∧ J ys W') ∨ (∃ pre, pre <+: zs ∧ Jx pre W')) := by
  refine callsIn_of_wp Try.func86 rfl hv ?_ hro
  simp only [Try.ntmps86, List.size_toArray, List.length_cons, List.length_nil, Nat.reduceAdd, Nat.reduceSub, Array.replicate_succ, Array.replicate_zero, List.push_toArray, List.append_toArray, List.nil_append, List.cons_append]
  gi_wp2
  gi_loopw [7] (fun i wr => ∃ k : Nat, k ≤ zs.length ∧ i = .int .i64 k ∧ J ((List.range k).map (tk zs)) wr ∧ Below n₀ W wr)
    (fun i _ => zs.length - (intOf i).toNat)
  case atStart => exact ⟨0, Nat.zero_le _, rfl, h0, Below.refl _ _⟩
  case round =>
    obtain ⟨k, hk, rfl, hJs, hnx⟩ := hrel
    by_cases hlt : k < zs.length
    · obtain ⟨d0, d1, d2⟩ := hc k hlt
      have c0 := (hnx.cell (p := ⟨b, off + k * 3, none⟩) hb).trans d0
      have c1 := (hnx.cell (p := ⟨b, off + k * 3 + 1, none⟩) hb).trans d1
      have c2 := (hnx.cell (p := ⟨b, off + k * 3 + 2, none⟩) hb).trans d2
      have HU := Lib.hid (upto_next zs k)
      have HT := Lib.hid (upto_take (l := zs) (k := k + 1) (by omega))
      obtain ⟨x, hx⟩ : ∃ x, x = tk zs k := ⟨_, rfl⟩
      rw [← hx] at c0 c1 c2 HU
      clear d0 d1 d2 hx
      have hlo : n₀ ≤ wr.heap.size := Nat.le_trans hn₀ hnx.size
      obtain ⟨g1, hg1⟩ : ∃ g, g = wr.heap.size := ⟨_, rfl⟩
      obtain ⟨W1, hW1⟩ : ∃ W, W = wr.alloc (.cells #[.int .i64 x.per, .int .i64 x.work, .int .i64 x.due] 68) := ⟨_, rfl⟩
      have B1 : Blk W1 g1 68 #[.int .i64 x.per, .int .i64 x.work, .int .i64 x.due] := by rw [hW1, hg1]; exact Blk.new _ _ _
      have hb1 : Below n₀ W W1 := by rw [hW1]; exact hnx.alloc hlo _
      have hJ1 : J ((List.range k).map (tk zs)) W1 := by rw [hW1]; exact hJ _ _ hJs _
      obtain ⟨fn, tmps, assign, body, hy, hR⟩ := hY _ x W1 hJ1 (by rw [List.length_map, List.length_range]; exact hlt)
      obtain ⟨x0, x1, x2⟩ := three_read B1
      have HW1 := Lib.hid hW1
      have HG1 := Lib.hid hg1
      have i1 : (k : Int) < (zs.length : Int) := by omega
      clear hW1 hg1 hJs hJ1
      gi_wp2_with fail
      rw [← HG1.out, ← HW1.out]
      clear c0 c1 c2
      rw [hy]
      gi_wp2
      refine hR.mono ?_
      rintro e W3 (⟨rfl, hJ3, hk3⟩ | ⟨rfl, hJx3⟩)
      · gi_wp2
        go_roundw
        case rel => exact ⟨k + 1, by omega, by simp, by rw [HU.out]; exact hJ3, hb1.trans hk3⟩
        case measure => simp [intOf]; omega
      · gi_wp2
        refine bodyPost_ret (results_none rfl _ _ _) rfl ?_
        refine ⟨⟨_, rfl⟩, .inr ⟨_, ?_, hJx3⟩⟩
        rw [← HU.out, HT.out]
        exact List.take_prefix _ _
    · obtain rfl : k = zs.length := by omega
      gi_wp2
      go_end0
      exact ⟨⟨_, rfl⟩, .inl ⟨_, by rw [upto_take (Nat.le_refl _), List.take_of_length_le (Nat.le_refl _)], hJs⟩⟩

set_option maxRecDepth 100000 in
set_option maxHeartbeats 1000000 in
theorem tvalues1_nil (F : Fence) (n : Nat) (hv : F.fn 86) (hro : F.round = none) (l Bs cap : Nat) (A : Option Addr) (J : List Tk → World → Prop) (W : World) (hBs : W.cell? ⟨Bs, 0, none⟩ = some (.slice A 0 cap)) (h0 : J [] W) :
    CallsIn F n Try.prog 86 #[.func (.yield l) #[] #[], .pointer (some ⟨Bs, 0, none⟩)] W fun e W' => (∃ v, e = .returned v) ∧ J [] W' := by
  refine callsIn_of_wp Try.func86 rfl hv ?_ hro
  simp only [Try.ntmps86, List.size_toArray, List.length_cons, List.length_nil, Nat.reduceAdd, Nat.reduceSub, Array.replicate_succ, Array.replicate_zero, List.push_toArray, List.append_toArray, List.nil_append, List.cons_append]
  gi_wp2
  gi_loopw [7] (fun i wr => i = .int .i64 0 ∧ J [] wr) (fun _ _ => 0)
  case atStart => exact ⟨rfl, h0⟩
  case round =>
    obtain ⟨rfl, hJs⟩ := hrel
    gi_wp2
    go_end0
    exact ⟨⟨_, rfl⟩, hJs⟩
/-- The slice value that a box holds reads as tasks, in a block below n₀. -/
theorem tvalues_stops (F : Fence) (n : Nat) (hv : F.fn 86) (hro : F.round = none) (hn : 1 ≤ n) (Bs n₀ cap : Nat) (A : Option Addr) (zs : List Tk) (hle : zs.length ≤ 1000) (w0 w : World) (hT : Tas w0 A zs) (hw : Below w0.heap.size w0 w) (hlo : w0.heap.size ≤ n₀) (hBs : Bs < w.heap.size) (hn₀ : n₀ ≤ w.heap.size)
    (hc : w.cell? ⟨Bs, 0, none⟩ = some (.slice A zs.length cap)) :
    SeqStopsK F n Try.prog 86 #[.pointer (some ⟨Bs, 0, none⟩)] tenc (Below n₀) (fun ys => ys = zs) (fun pre => pre <+: zs) zs.length w := fun l J Jx W hW hJ _ hY h0 => by
  have hc' := (hW.cell (p := ⟨Bs, 0, none⟩) hBs).trans hc
  by_cases hz : zs.length = 0
  · obtain rfl := List.eq_nil_of_length_eq_zero hz
    exact (tvalues1_nil F n hv hro l Bs cap A J W hc' h0).mono fun e W' ⟨he, hj⟩ => ⟨he, .inl ⟨_, rfl, hj⟩⟩
  · obtain ⟨b, off, _, rfl, hbl, _⟩ := hT.get (k := 0) (by omega)
    have hTW : Tas W (some ⟨b, off, none⟩) zs := hT.below (hw.trans (hW.mono hw.size))
    exact tvalues1_in F n hv hro hn l Bs n₀ b off cap zs hle (by omega) J Jx (fun pre V q o => hJ pre V _ none q (World.grownBy_alloc V o none) (fun r e => by cases e)) hY W (Nat.le_trans hn₀ hW.size) hc' (fun j hj => by
      obtain ⟨b', off', q, e, _, c0, c1, c2, HQ⟩ := hTW.get hj
      obtain ⟨rfl, rfl⟩ : b' = b ∧ off' = off := by injection e with e; injection e with e1 e2; exact ⟨e1.symm, e2.symm⟩
      rw [tk_of HQ.out]
      exact ⟨c0, c1, c2⟩) h0

set_option maxHeartbeats 1000000 in
theorem tvalues_in (F : Fence) (n : Nat) (hv : F.fn 68) (hro : F.round = none) (a : Option Addr) (len cap : Nat) (w : World) :
    CallsIn F n Try.prog 68 #[.slice a len cap] w fun e w' => e = .returned (.func (.func 86) #[] #[.pointer (some ⟨w.heap.size, 0, none⟩)]) ∧ w' = w.alloc (.cells #[.slice a len cap] 62) := by
  refine callsIn_of_wp Try.func68 rfl hv ?_ hro
  simp only [Try.ntmps68, List.size_toArray, List.length_cons, List.length_nil, Nat.reduceAdd, Nat.reduceSub, Array.replicate_succ, Array.replicate_zero, List.push_toArray, List.append_toArray, List.nil_append, List.cons_append]
  gi_wp2
  go_ret
  exact ⟨rfl, rfl⟩

theorem new_threeT (w : World) (x y z : Value) (t : TypeId) : ∀ (j : Nat) (v : Value), [x, y, z][j]? = some v → (w.alloc (.cells #[x, y, z] t)).cell? ((⟨w.heap.size, 0, none⟩ : Addr).add j) = some v := by
  intro j v hj
  have b := Blk.new w t #[x, y, z]
  match j, hj with
  | 0, hj => simp at hj; subst hj; simpa [Addr.add] using b.cell 0
  | 1, hj => simp at hj; subst hj; simpa [Addr.add] using b.cell 1
  | 2, hj => simp at hj; subst hj; simpa [Addr.add] using b.cell 2
theorem three_oneT (x y z : Int) : ∀ u ∈ [Value.int .i64 x, .int .i64 y, .int .i64 z], u.oneCell' = true := by
  intro u hu
  simp at hu
  rcases hu with rfl | rfl | rfl <;> rfl
theorem blk_own (B : Nat) (t : TypeId) (cs : Array Value) : Own (fun (_ : Unit) W => Blk W B t cs) := fun s X Y row hs hg hrow =>
  hs.same (hg.block B hs.lt (fun e' => by obtain ⟨o, ho, hc⟩ := hrow B e'.symm; rw [show X.heap[B]? = _ from hs] at ho; cases ho; cases hc))
theorem tpk_info : (Try.prog.info? 68).map (fun i => (i.zero, i.size, i.bytes)) = some (some (.agg #[.int .i64 0, .int .i64 0, .int .i64 0]), 3, 24) := by kernel_rfl
theorem qcs_snoc (l : List Tk) (x : Tk) : qcs (l ++ [x]) = qcs l ++ [.int .i64 x.per, .int .i64 x.work, .int .i64 x.due] := by
  unfold qcs
  rw [List.map_append, pcs_append]
  rfl

set_option maxRecDepth 100000 in
set_option maxHeartbeats 2000000 in
theorem tappend_in (F : Fence) (n : Nat) (hf : F.fn 95) (hv : F.fn 86) (hro : F.round = none) (hn : 3 ≤ n) (Bs cap : Nat) (A : Option Addr) (zs : List Tk) (hle : zs.length ≤ 1000) (w0 w : World) (hT : Tas w0 A zs) (hw : Below w0.heap.size w0 w) (hBs : Bs < w.heap.size)
    (hc : w.cell? ⟨Bs, 0, none⟩ = some (.slice A zs.length cap)) :
    CallsIn F n Try.prog 95 #[.slice none 0 0, .func (.func 86) #[] #[.pointer (some ⟨Bs, 0, none⟩)]] w fun e w' => ∃ v, e = .returned v ∧ w'.ownsRow w.heap.size 68 3 v zs.length (qcs zs) ∧ Below w.heap.size w w' := by
  have h1 : 1 ≤ n := by omega
  obtain ⟨i0, hi, hz0, hz1, hz2⟩ := info_parts tpk_info
  have hsz := hw.size
  refine callsIn_of_wp_marks Try.func95 rfl hf ?_ hro
  simp only [Try.ntmps95, List.size_toArray, List.length_cons, List.length_nil, Nat.reduceAdd, Nat.reduceSub, Array.replicate_succ, Array.replicate_zero, List.push_toArray, List.append_toArray, List.nil_append, List.cons_append]
  gi_wp2
  have bO := Boxed.new w 62 (.slice none 0 0)
  have hB0 : Below w.heap.size w (w.alloc (.cells #[.slice none 0 0] 62)) := (Below.refl _ w).alloc (Nat.le_refl _) _
  refine wpIn_rangeFunc_ownH hro h1 (gf := 86) (lb := #[.pointer (some ⟨Bs, 0, none⟩)]) rfl hv (enters_of Try.func86 (by kernel_rfl) rfl)
    (tvalues_stops F (n - 1) hv hro (by omega) Bs w.heap.size cap A zs hle w0 _ hT (hw.trans (hB0.mono hsz)) hsz (by simp; omega) (by simp) ((hB0.cell (p := ⟨Bs, 0, none⟩) hBs).trans hc)) belowK_t (belowK_b (by simp)) (Below.refl _ _) (fun _ => rfl)
    (fun pre W => (∃ v, Boxed W w.heap.size 62 v ∧ W.ownsRow w.heap.size 68 3 v pre.length (qcs pre) ∧ True) ∧ Below w.heap.size w W)
    (fun _ _ _ => False)
    (OwnFrom.and (Own.from (holdsRow_own w.heap.size w.heap.size 62 68 3 (fun pre => pre.length) (fun pre => qcs pre) (fun _ _ => True)) _) (ownFrom_below (Nat.le_refl _) (by simp)))
    (fun _ _ _ _ _ hs _ _ => hs)
    ⟨⟨_, bO, World.ownsRow_nil _ _ _ _, trivial⟩, hB0⟩
    (fun x a' W => ∃ Bx, w.heap.size < Bx ∧ Blk W Bx 68 #[.int .i64 x.per, .int .i64 x.work, .int .i64 x.due] ∧ a' = { tmps := #[.slice none 0 0, .func (.func 86) #[] #[.pointer (some ⟨Bs, 0, none⟩)], .pointer (some ⟨w.heap.size, 0, none⟩), undef, .slice none 0 0, .pointer (some ⟨Bx, 0, none⟩), .func (.func 86) #[] #[.pointer (some ⟨Bs, 0, none⟩)], .agg #[.int .i64 x.per, .int .i64 x.work, .int .i64 x.due], undef, undef, undef, undef, undef], defers := [] })
    (fun x a' _ X Y row hs hg hr => by obtain ⟨Bx, h1, h2, h3⟩ := hs; exact ⟨Bx, h1, blk_own Bx _ _ () X Y row h2 hg (fun r e => (hr r e).2), h3⟩)
    ?assign ?body ?done ?stop
  case assign =>
    rintro l pre x W K ⟨⟨v, bv, hrow, _⟩, hB1⟩ hK
    unfold tenc
    gi_wp2
    exact hK _ _ ((KeepsOthers.alloc _ _).from _) ((Below.refl _ W).alloc hB1.size _) ⟨⟨v, bv.alloc _, hrow.alloc _, trivial⟩, hB1.alloc hB1.size _⟩ ⟨W.heap.size, bv.lt, Blk.new W _ _, rfl⟩
  case body =>
    rintro l pre x a' W _ _ ⟨⟨v, hv, hrow, _⟩, hB⟩ ⟨Bx, hBx, bX, rfl⟩ hlt
    have hc := hv.cell
    obtain ⟨x0, x1, x2⟩ := three_read bX
    have hB1 := hB.size
    gi_wp2_with (gi_at_builtin; refine wpListIn_append_own _ rfl _ _ 62 rfl w.heap.size 68 i0 (.agg #[.int .i64 0, .int .i64 0, .int .i64 0]) 3 24 Try.underlying62 hi hz0 hz1 hz2 rfl (by decide) _ _ _ rfl (hrow.alloc _) ⟨W.heap.size, 0, none⟩ 1 1 [.int .i64 x.per, .int .i64 x.work, .int .i64 x.due] rfl rfl (new_threeT _ _ _ _ _) (three_oneT _ _ _) (by unfold maxLen; omega) (by omega) (by have := hB.size; simp; omega) ?_; intro v' w1 hown' hgrow _; obtain ⟨g', cap', rfl⟩ := ownsRow_succ hown'; obtain ⟨hv1, hv2, hr2, hk2, hb2⟩ := hv.appended (by decide) hrow hB.size (Nat.le_refl _) hown' hgrow; have hc1 := hv1.cell; have hf1 := hv1.frozen)
    exact ⟨hk2.from _, hb2, ⟨_, hv2, by rw [qcs_snoc]; simpa using hr2, trivial⟩, hB.trans hb2⟩
  case done =>
    rintro D ys W hD rfl ⟨⟨v, hv, hrow, _⟩, hB⟩ hK
    have hc := hv.cell
    gi_wp2
    refine ⟨by simp, .inl ⟨_, _, rfl, run_takeDeferred hK, ?_⟩⟩
    exact ⟨_, results_tmp rfl _ _ _, v, rfl, ownsRow_putObj hrow _ hK rfl, hB.trans (belowK_b (w := w) (Nat.le_refl _) W D _ _ (by simp at hD; omega) hK rfl rfl)⟩
  case stop =>
    rintro D c pre W _ _ h _
    exact h.elim

set_option maxHeartbeats 1000000 in
theorem tcollect_in (F : Fence) (n : Nat) (hg : F.fn 84) (hf : F.fn 95) (hv : F.fn 86) (hro : F.round = none) (hn : 4 ≤ n) (Bs cap : Nat) (A : Option Addr) (zs : List Tk) (hle : zs.length ≤ 1000) (w0 w : World) (hT : Tas w0 A zs) (hw : Below w0.heap.size w0 w) (hBs : Bs < w.heap.size)
    (hc : w.cell? ⟨Bs, 0, none⟩ = some (.slice A zs.length cap)) :
    CallsIn F n Try.prog 84 #[.func (.func 86) #[] #[.pointer (some ⟨Bs, 0, none⟩)]] w fun e w' => ∃ v, e = .returned v ∧ w'.ownsRow w.heap.size 68 3 v zs.length (qcs zs) ∧ Below w.heap.size w w' := by
  have h1 : 1 ≤ n := by omega
  refine callsIn_of_wp Try.func84 rfl hg ?_ hro
  simp only [Try.ntmps84, List.size_toArray, List.length_cons, List.length_nil, Nat.reduceAdd, Nat.reduceSub, Array.replicate_succ, Array.replicate_zero, List.push_toArray, List.append_toArray, List.nil_append, List.cons_append]
  gi_wp2_with (gi_at_call 95; refine (tappend_in F (n - 1) hf hv hro (by omega) Bs cap A zs hle w0 _ hT hw hBs hc).mono ?_; rintro e w' ⟨v, rfl, hrow, hb⟩)
  go_ret
  exact ⟨v, rfl, hrow, hb⟩
/-- The same, as plain calls. -/
theorem tcollect_any (Bs cap : Nat) (A : Option Addr) (zs : List Tk) (hle : zs.length ≤ 1000) (w0 w : World) (hT : Tas w0 A zs) (hw : Below w0.heap.size w0 w) (hBs : Bs < w.heap.size) (hc : w.cell? ⟨Bs, 0, none⟩ = some (.slice A zs.length cap)) :
    Calls Try.prog 84 #[.func (.func 86) #[] #[.pointer (some ⟨Bs, 0, none⟩)]] w fun e w' => ∃ v, e = .returned v ∧ w'.ownsRow w.heap.size 68 3 v zs.length (qcs zs) ∧ Below w.heap.size w w' :=
  callsIn_wide.1 (tcollect_in Fence.wide 4 trivial trivial trivial rfl (Nat.le_refl _) Bs cap A zs hle w0 w hT hw hBs hc)
theorem tvalues_any (a : Option Addr) (len cap : Nat) (w : World) :
    Calls Try.prog 68 #[.slice a len cap] w fun e w' => e = .returned (.func (.func 86) #[] #[.pointer (some ⟨w.heap.size, 0, none⟩)]) ∧ w' = w.alloc (.cells #[.slice a len cap] 62) :=
  callsIn_wide.1 (tvalues_in Fence.wide 1 trivial rfl a len cap w)

end Go.Proofs.Ytnpdcllfdoobeaa
