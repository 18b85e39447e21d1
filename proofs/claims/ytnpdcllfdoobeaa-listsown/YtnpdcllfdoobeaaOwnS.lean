
/-
  Walks: roomy, marked, spoil over leases, tasks, booleans.
-/
import Derived.Test.YtnpdcllfdoobeaaOwnA
import Derived.Test.YtnpdcllfdoobeaaLeaA
import Derived.Test.YtnpdcllfdoobeaaTaskA
import Derived.Test.YtnpdcllfdoobeaaBucketA
import Derived.OwnWalk
namespace Go.Proofs.Ytnpdcllfdoobeaa
set_option linter.all false
open Go.RowKit Go.Shelf Go.Lib

theorem grown_reflS (w : World) (g : Nat) : w.grownBy w (some g) := ⟨rfl, rfl, rfl, Nat.le_refl _, fun _ _ _ => rfl⟩
theorem grown_setS {w a : World} {g : Nat} (h1 : w.grownBy a (some g)) (i : Nat) (u : Value) : w.grownBy (a.setCell ⟨g, i, none⟩ u) (some g) := by
  have b : Below g a (a.setCell ⟨g, i, none⟩ u) := (Below.refl g a).setCell (p := ⟨g, i, none⟩) (Nat.le_refl _) u
  exact ⟨b.os.trans h1.os, b.tape.trans h1.tape, b.output.trans h1.output, Nat.le_trans h1.size b.size, fun k hk hne => by
    rw [Below.heap_setCell a ⟨g, i, none⟩ u k (fun e => hne (by rw [e])), h1.block k hk hne]⟩
theorem grown_belowS {w a b : World} {g : Nat} (h1 : w.grownBy a (some g)) (h2 : Below a.heap.size a b) : w.grownBy b (some g) :=
  ⟨h2.os.trans h1.os, h2.tape.trans h1.tape, h2.output.trans h1.output, Nat.le_trans h1.size h2.size, fun k hk hne => by
    rw [h2.block k (Nat.lt_of_lt_of_le hk h1.size), h1.block k hk hne]⟩
theorem ta_infoS : (Try.prog.info? 68).map (fun i => (i.zero, i.size, i.bytes)) = some (some (.agg #[.int .i64 0, .int .i64 0, .int .i64 0]), 3, 24) := by kernel_rfl
/-- Cells that hold a list of packets, and k marks behind it, of room for three. -/
structure RopS (l : List Pk) (x : Pk) (k : Nat) (cs : Array Value) : Prop where
  size : cs.size = (l.length + 3) * 3
  at_ : ∀ (j : Nat) (u : Value), (pcs (l ++ List.replicate k x))[j]? = some u → cs[j]? = some u
theorem set3S {cs : Array Value} {n k : Nat} (hs : cs.size = n * 3) (hk : k < n) (a b c : Value) :
    (((cs.setIfInBounds (k * 3) a).setIfInBounds (k * 3 + 1) b).setIfInBounds (k * 3 + 2) c).size = n * 3 ∧
    (∀ i, (i < k * 3 ∨ k * 3 + 2 < i) → (((cs.setIfInBounds (k * 3) a).setIfInBounds (k * 3 + 1) b).setIfInBounds (k * 3 + 2) c)[i]? = cs[i]?) ∧
    (((cs.setIfInBounds (k * 3) a).setIfInBounds (k * 3 + 1) b).setIfInBounds (k * 3 + 2) c)[k * 3]? = some a ∧
    (((cs.setIfInBounds (k * 3) a).setIfInBounds (k * 3 + 1) b).setIfInBounds (k * 3 + 2) c)[k * 3 + 1]? = some b ∧
    (((cs.setIfInBounds (k * 3) a).setIfInBounds (k * 3 + 1) b).setIfInBounds (k * 3 + 2) c)[k * 3 + 2]? = some c := by
  have h0 : k * 3 < cs.size := by omega
  have h1 : k * 3 + 1 < cs.size := by omega
  have h2 : k * 3 + 2 < cs.size := by omega
  refine ⟨by simp [hs], fun i hi => ?_, ?_, ?_, ?_⟩
  · rw [Array.getElem?_setIfInBounds_ne (by omega), Array.getElem?_setIfInBounds_ne (by omega), Array.getElem?_setIfInBounds_ne (by omega)]
  · rw [Array.getElem?_setIfInBounds_ne (by omega), Array.getElem?_setIfInBounds_ne (by omega), Array.getElem?_setIfInBounds_self_of_lt (by simpa using h0)]
  · rw [Array.getElem?_setIfInBounds_ne (by omega), Array.getElem?_setIfInBounds_self_of_lt (by simpa using h1)]
  · rw [Array.getElem?_setIfInBounds_self_of_lt (by simpa using h2)]
theorem RopS.next {l : List Pk} {x : Pk} {k : Nat} {cs : Array Value} (h : RopS l x k cs) (hk : k < 3) : RopS l x (k + 1) (((cs.setIfInBounds ((l.length + k) * 3) (.int .i64 x.at_)).setIfInBounds ((l.length + k) * 3 + 1) (.int .i64 x.size)).setIfInBounds ((l.length + k) * 3 + 2) (.int .i64 x.flow)) := by
  obtain ⟨s0, s1, s2, s3, s4⟩ := set3S h.size (show l.length + k < l.length + 3 by omega) (.int .i64 x.at_) (.int .i64 x.size) (.int .i64 x.flow)
  refine ⟨s0, fun j u hu => ?_⟩
  rw [List.replicate_succ', ← List.append_assoc, pcs_append] at hu
  have e : (pcs (l ++ List.replicate k x)).length = (l.length + k) * 3 := by rw [length_pcs]; simp
  by_cases c : j < (l.length + k) * 3
  · rw [List.getElem?_append_left (by omega)] at hu
    rw [s1 j (.inl c)]
    exact h.at_ j u hu
  · rw [List.getElem?_append_right (by omega), e] at hu
    have hj : j - (l.length + k) * 3 < 3 := by have := (List.getElem?_eq_some_iff.1 hu).1; simpa [pcs] using this
    rcases (show j = (l.length + k) * 3 ∨ j = (l.length + k) * 3 + 1 ∨ j = (l.length + k) * 3 + 2 by omega) with d | d | d
    · subst d; rw [s2]; simpa [pcs] using hu
    · subst d; rw [s3]; simpa [pcs, Nat.add_sub_cancel_left] using hu
    · subst d; rw [s4]; simpa [pcs, Nat.add_sub_cancel_left] using hu
theorem RopS.all {l : List Pk} {x : Pk} {cs : Array Value} (h : RopS l x 3 cs) : cs = (pcs (l ++ [x, x, x])).toArray := by
  have hs := h.size
  apply Array.ext_getElem?
  intro j
  by_cases hj : j < (l.length + 3) * 3
  · have hl : j < (pcs (l ++ [x, x, x])).length := by rw [length_pcs]; simpa using hj
    rw [h.at_ j _ (List.getElem?_eq_getElem hl), List.getElem?_toArray, List.getElem?_eq_getElem hl]
  · rw [Array.getElem?_eq_none (by omega), Array.getElem?_eq_none (by simp [length_pcs]; omega)]

theorem mark_getS {l : List Pk} {x : Pk} {k : Nat} (hk : k < 3) : (l ++ [x, x, x])[l.length + k]? = some x := by
  rw [List.getElem?_append_right (by omega), Nat.add_sub_cancel_left]
  match k, hk with
  | 0, _ => rfl
  | 1, _ => rfl
  | 2, _ => rfl

set_option maxHeartbeats 1600000 in
theorem roomyl_any (A : Option Addr) (l : List Pk) (c : Nat) (x : Pk) (w : World) (h : Pks w A l) (hA : A = none → c = 0) (hsz : 24 * (l.length + 3) ≤ 281474976710656) :
    Calls Try.prog 38 #[.slice A l.length c, .agg #[.int .i64 x.at_, .int .i64 x.size, .int .i64 x.flow]] w fun e w' => ∃ g, e = .returned (.slice (some ⟨g, 0, none⟩) l.length (l.length + 3)) ∧ w.heap.size ≤ g ∧ Blk w' g 35 (pcs (l ++ [x, x, x])).toArray ∧ Below w.heap.size w w' := by
  obtain ⟨i0, hi0, hz0, hz1, hz2⟩ := info_parts le_info
  have z1 : IntKind.i64.wrap ((l.length : Int) + 3) = (l.length : Int) + 3 := IntWalk.i64_in _ ⟨by omega, by omega⟩
  obtain ⟨W, hW⟩ : ∃ W, W = w.alloc (.cells #[.int .i64 x.at_, .int .i64 x.size, .int .i64 x.flow] 35) := ⟨_, rfl⟩
  have hWb : Below w.heap.size w W := by rw [hW]; exact (Below.refl _ _).alloc (Nat.le_refl _) _
  have Bx : Blk W w.heap.size 35 #[.int .i64 x.at_, .int .i64 x.size, .int .i64 x.flow] := by rw [hW]; exact Blk.new _ _ _
  have HWs : Hid (W.heap.size = w.heap.size + 1) := Lib.hid (by rw [hW]; simp)
  have HW := Lib.hid hW
  clear hW
  go_enter Try.func38, Try.ntmps38
  go_wp2_with (at_make; rw [← HW.out]; refine wpList_make_own _ rfl _ _ 33 rfl W.heap.size 35 i0 (.agg #[.int .i64 0, .int .i64 0, .int .i64 0]) 3 Try.underlying33 hi0 hz0 hz1 .i64 .i64 _ (l.length + 3) rfl rfl (by omega) (by rw [hz2]; exact hsz) (by unfold maxLen; omega) (Nat.le_refl _) ?_)
  intro w1 o1 g1
  have hb1 : Below W.heap.size W w1 := (Below.refl _ W).grown g1 (Nat.le_refl _) (by intro k hk; cases hk)
  have hl1 := (h.below hWb).below hb1
  go_wp2_with (at_builtin; refine wpList_append_fits_any _ rfl _ _ 33 rfl W.heap.size 35 i0 3 Try.underlying33 hi0 hz1 W.heap.size 0 (l.length + 3) [] rfl o1 A l.length c (pcs l) rfl ?r1 ?r2 ?r3 ?r4 ?r5 ?_)
  case r1 => exact length_pcs l
  case r2 =>
    intro hn
    refine ⟨?_, hA hn⟩
    rcases Nat.eq_zero_or_pos l.length with q | q
    · exact q
    · obtain ⟨b, off, e, _⟩ := h.2 q; rw [hn] at e; cases e
  case r3 =>
    intro ad hn j u hu
    have hj : j < l.length * 3 := by have := (List.getElem?_eq_some_iff.1 hu).1; rwa [length_pcs] at this
    obtain ⟨b, off, e, hc⟩ := hl1.2 (by omega)
    rw [hn] at e
    obtain rfl := Option.some.inj e
    subst hn
    rw [Addr.add_lit]
    exact hl1.cells j u hu
  case r4 => exact pcs_one l
  case r5 => omega
  intro w2 o2 g2
  have hb2 : Below W.heap.size W w2 := hb1.grown g2 hb1.size (by intro k hk; cases hk; exact Nat.le_refl _)
  obtain ⟨cs, B0, R0⟩ : ∃ cs, Blk w2 W.heap.size 35 cs ∧ RopS l x 0 cs := by
    rcases o2.2 with ⟨hv, _⟩ | ⟨g, cap, cur, hv, _, hh, hn, hm, hs, ht⟩
    · cases hv
    · injection hv with e1 e2 e3
      injection e1 with e1
      injection e1 with e1
      subst e1 e3
      refine ⟨cur, hh, by simpa using hs, fun j u hu => ?_⟩
      rw [List.replicate_zero, List.append_nil] at hu
      have hj : j < l.length * 3 := by have := (List.getElem?_eq_some_iff.1 hu).1; rwa [length_pcs] at this
      have ht' : cur.toList.take ((0 + l.length) * 3) = [] ++ pcs l := by simpa using ht
      have e : (cur.toList.take ((0 + l.length) * 3))[j]? = some u := by rw [ht']; simpa using hu
      rw [List.getElem?_take_of_lt (by omega)] at e
      simpa using e
  obtain ⟨g, hg⟩ : ∃ g, g = W.heap.size := ⟨_, rfl⟩
  have G := Lib.hid hg
  obtain ⟨gx, hgx⟩ : ∃ g, g = w.heap.size := ⟨_, rfl⟩
  have GX := Lib.hid hgx
  have ht0 : w.heap.size ≤ g := by have := HWs.out; omega
  have ht1 : gx < g := by have := HWs.out; omega
  have B2 : Blk w2 gx 35 #[.int .i64 x.at_, .int .i64 x.size, .int .i64 x.flow] := by rw [hgx]; exact Bx.below hb2
  have hbw : Below w.heap.size w w2 := below_trans hWb hb2
  rw [← hg] at B0
  clear o1 o2 g1 g2 hb1 hl1 hg hgx hWb Bx hb2
  go_wp2
  rw [← G.out, ← GX.out]
  go_loopw [13] (fun i wr => ∃ k : Nat, k ≤ 3 ∧ i = .int .i64 k ∧ (∃ cs, Blk wr g 35 cs ∧ RopS l x k cs) ∧ Blk wr gx 35 #[.int .i64 x.at_, .int .i64 x.size, .int .i64 x.flow] ∧ Below w.heap.size w wr) (fun i _ => 3 - (intOf i).toNat)
  case atStart => exact ⟨0, by omega, rfl, ⟨cs, B0, R0⟩, B2, hbw⟩
  case round =>
    clear B0 R0 hbw B2
    obtain ⟨k, hk, rfl, ⟨cs, B0, R0⟩, B2, hb⟩ := hrel
    by_cases hlt : k < 3
    · have i1 : (k : Int) < 3 := by omega
      have hs := R0.size
      obtain ⟨t0, t1, t2⟩ := three_read B2
      obtain ⟨u0, v0⟩ : ∃ u, wr.cell? ⟨g, (l.length + k) * 3, none⟩ = some u := ⟨_, (B0.cell _).trans (Array.getElem?_eq_getElem (by omega))⟩
      obtain ⟨u1, v1⟩ : ∃ u, wr.cell? ⟨g, (l.length + k) * 3 + 1, none⟩ = some u := ⟨_, (B0.cell _).trans (Array.getElem?_eq_getElem (by omega))⟩
      obtain ⟨u2, v2⟩ : ∃ u, wr.cell? ⟨g, (l.length + k) * 3 + 2, none⟩ = some u := ⟨_, (B0.cell _).trans (Array.getElem?_eq_getElem (by omega))⟩
      have f0 := B0.frozen ((l.length + k) * 3)
      have f1 := B0.frozen ((l.length + k) * 3 + 1)
      have f2 := B0.frozen ((l.length + k) * 3 + 2)
      have s0 : ∀ a, (wr.setCell ⟨g, (l.length + k) * 3, none⟩ a).cell? ⟨g, (l.length + k) * 3, none⟩ = some a := fun a => by rw [(B0.set_ _ a).cell, Array.getElem?_setIfInBounds_self_of_lt (by omega)]
      have s1 : ∀ a b, ((wr.setCell ⟨g, (l.length + k) * 3, none⟩ a).setCell ⟨g, (l.length + k) * 3 + 1, none⟩ b).cell? ⟨g, (l.length + k) * 3 + 1, none⟩ = some b := fun a b => by rw [((B0.set_ _ a).set_ _ b).cell, Array.getElem?_setIfInBounds_self_of_lt (by simp; omega)]
      have ne1 : ¬ gx = g := by omega
      have ne2 : ¬ g = gx := by omega
      have M : Hid (Blk ((((wr.setCell ⟨g, (l.length + k) * 3, none⟩ (.int .i64 x.at_)).setCell ⟨g, (l.length + k) * 3 + 1, none⟩ (.int .i64 x.size)).setCell ⟨g, (l.length + k) * 3 + 2, none⟩ (.int .i64 x.flow)).drew) g 35 _) := Lib.hid (show Blk _ g 35 _ from ((B0.set_ ((l.length + k) * 3) (.int .i64 x.at_)).set_ ((l.length + k) * 3 + 1) (.int .i64 x.size)).set_ ((l.length + k) * 3 + 2) (.int .i64 x.flow))
      have M2 : Hid (Blk ((((wr.setCell ⟨g, (l.length + k) * 3, none⟩ (.int .i64 x.at_)).setCell ⟨g, (l.length + k) * 3 + 1, none⟩ (.int .i64 x.size)).setCell ⟨g, (l.length + k) * 3 + 2, none⟩ (.int .i64 x.flow)).drew) gx 35 #[.int .i64 x.at_, .int .i64 x.size, .int .i64 x.flow]) := Lib.hid (show Blk _ gx 35 _ from ((B2.past (a := ⟨g, (l.length + k) * 3, none⟩) ne1 _).past (a := ⟨g, (l.length + k) * 3 + 1, none⟩) ne1 _).past (a := ⟨g, (l.length + k) * 3 + 2, none⟩) ne1 _)
      have M3 : Hid (Below w.heap.size w ((((wr.setCell ⟨g, (l.length + k) * 3, none⟩ (.int .i64 x.at_)).setCell ⟨g, (l.length + k) * 3 + 1, none⟩ (.int .i64 x.size)).setCell ⟨g, (l.length + k) * 3 + 2, none⟩ (.int .i64 x.flow)).drew)) := Lib.hid (by
        have q := ((hb.setCell (p := ⟨g, (l.length + k) * 3, none⟩) ht0 (.int .i64 x.at_)).setCell (p := ⟨g, (l.length + k) * 3 + 1, none⟩) ht0 (.int .i64 x.size)).setCell (p := ⟨g, (l.length + k) * 3 + 2, none⟩) ht0 (.int .i64 x.flow)
        exact ⟨q.os, q.tape, q.output, q.size, q.block⟩)
      have z2 : IntKind.i64.wrap ((l.length : Int) + (k : Int)) = (l.length : Int) + (k : Int) := IntWalk.i64_in _ ⟨by omega, by omega⟩
      have z3 : ((l.length : Int) + (k : Int)).toNat = l.length + k := by omega
      have z4 : ((l.length : Int) + 3).toNat = l.length + 3 := by omega
      have z5 : (l.length : Int) + (k : Int) < (l.length : Int) + 3 := by omega
      clear hs
      go_wp2
      go_region
      go_wp2
      go_roundw
      case rel => exact ⟨k + 1, by omega, by go_num, ⟨_, M.out, R0.next hlt⟩, M2.out, M3.out⟩
      case measure => simp [intOf]; omega
    · obtain rfl : k = 3 := by omega
      go_wp2
      go_ret
      exact ⟨g, rfl, ht0, by rw [← R0.all]; exact B0, hb⟩

set_option maxHeartbeats 1600000 in
theorem markedl_any (g : Nat) (l : List Pk) (x : Pk) (w : World) (h : Blk w g 35 (pcs (l ++ [x, x, x])).toArray) (hl : 24 * (l.length + 3) ≤ 281474976710656) :
    Calls Try.prog 43 #[.slice (some ⟨g, 0, none⟩) l.length (l.length + 3), .agg #[.int .i64 x.at_, .int .i64 x.size, .int .i64 x.flow]] w fun e w' => e = .returned (.bool true) ∧ Below w.heap.size w w' := by
  have hc : ∀ k, k < 3 → w.cell? ⟨g, l.length * 3 + k * 3, none⟩ = some (.int .i64 x.at_) ∧ w.cell? ⟨g, l.length * 3 + k * 3 + 1, none⟩ = some (.int .i64 x.size) ∧ w.cell? ⟨g, l.length * 3 + k * 3 + 2, none⟩ = some (.int .i64 x.flow) := fun k hk => by
    obtain ⟨g0, g1, g2⟩ := pcs_get (mark_getS (l := l) (x := x) hk)
    rw [Nat.add_mul] at g0 g1 g2
    exact ⟨by rw [h.cell, List.getElem?_toArray]; exact g0, by rw [h.cell, List.getElem?_toArray]; exact g1, by rw [h.cell, List.getElem?_toArray]; exact g2⟩
  have HC := Lib.hid hc
  have hlt := h.lt
  clear hc h
  have z1 : ((l.length + 3 : Nat) : Int) = (l.length : Int) + 3 := by omega
  have z2 : l.length + 3 - l.length = 3 := by omega
  obtain ⟨gx, hgx⟩ : ∃ gx, gx = w.heap.size := ⟨_, rfl⟩
  have GX := Lib.hid hgx
  clear hgx
  go_enter Try.func43, Try.ntmps43
  go_wp2
  rw [← GX.out]
  go_loopw [14] (fun i wr => ∃ k : Nat, k ≤ 3 ∧ i = .int .i64 k ∧ Blk wr gx 35 #[.int .i64 x.at_, .int .i64 x.size, .int .i64 x.flow] ∧ Below w.heap.size w wr) (fun i _ => 3 - (intOf i).toNat)
  case atStart => exact ⟨0, by omega, rfl, by rw [GX.out]; exact Blk.new _ _ _, (Below.refl _ _).alloc (Nat.le_refl _) _⟩
  case round =>
    obtain ⟨k, hk, rfl, Bx, hb⟩ := hrel
    by_cases hk3 : k < 3
    · have i1 : (k : Int) < 3 := by omega
      obtain ⟨c0, c1, c2⟩ := HC.out k hk3
      have c0' := (hb.cell (p := ⟨g, l.length * 3 + k * 3, none⟩) hlt).trans c0
      have c1' := (hb.cell (p := ⟨g, l.length * 3 + k * 3 + 1, none⟩) hlt).trans c1
      have c2' := (hb.cell (p := ⟨g, l.length * 3 + k * 3 + 2, none⟩) hlt).trans c2
      obtain ⟨t0, t1, t2⟩ := three_read Bx
      have lx := Bx.lt
      clear c0 c1 c2
      go_wp2
      go_roundw
      case rel => exact ⟨k + 1, by omega, by go_num, Bx.alloc _, hb.alloc hb.size _⟩
      case measure => simp [intOf]; omega
    · have i1 : ¬ (k : Int) < 3 := by omega
      go_wp2
      go_ret
      exact ⟨rfl, hb⟩

set_option maxHeartbeats 1600000 in
theorem spoill_any (g n c : Nat) (x : Pk) (cs : Array Value) (w : World) (h : Blk w g 35 cs) (hc : cs.size = c * 3) (hn : n ≤ c) (hm : c ≤ 9223372036854775807) :
    Calls Try.prog 49 #[.slice (some ⟨g, 0, none⟩) n c, .agg #[.int .i64 x.at_, .int .i64 x.size, .int .i64 x.flow]] w fun e w' => e = .returned (.tuple #[]) ∧ w.grownBy w' (some g) := by
  have hlt := h.lt
  obtain ⟨gx, hgx⟩ : ∃ gx, gx = w.heap.size := ⟨_, rfl⟩
  have ne1 : ¬ gx = g := by omega
  have ne2 : ¬ g = gx := by omega
  have GX := Lib.hid hgx
  clear hgx
  go_enter Try.func49, Try.ntmps49
  go_wp2
  rw [← GX.out]
  go_loopw [11] (fun i wr => ∃ k : Nat, k ≤ c ∧ i = .int .i64 k ∧ (∃ cs, Blk wr g 35 cs ∧ cs.size = c * 3) ∧ Blk wr gx 35 #[.int .i64 x.at_, .int .i64 x.size, .int .i64 x.flow] ∧ w.grownBy wr (some g)) (fun i _ => c - (intOf i).toNat)
  case atStart => exact ⟨0, Nat.zero_le _, rfl, ⟨cs, h.alloc _, hc⟩, by rw [GX.out]; exact Blk.new _ _ _, grown_belowS (grown_reflS _ _) ((Below.refl _ _).alloc (Nat.le_refl _) _)⟩
  case round =>
    clear h hc
    obtain ⟨k, hk, rfl, ⟨cs, B0, hc⟩, B2, hgr⟩ := hrel
    by_cases hkc : k < c
    · have i1 : (k : Int) < (c : Int) := by omega
      obtain ⟨t0, t1, t2⟩ := three_read B2
      obtain ⟨u0, v0⟩ : ∃ u, wr.cell? ⟨g, k * 3, none⟩ = some u := ⟨_, (B0.cell _).trans (Array.getElem?_eq_getElem (by omega))⟩
      obtain ⟨u1, v1⟩ : ∃ u, wr.cell? ⟨g, k * 3 + 1, none⟩ = some u := ⟨_, (B0.cell _).trans (Array.getElem?_eq_getElem (by omega))⟩
      obtain ⟨u2, v2⟩ : ∃ u, wr.cell? ⟨g, k * 3 + 2, none⟩ = some u := ⟨_, (B0.cell _).trans (Array.getElem?_eq_getElem (by omega))⟩
      have f0 := B0.frozen (k * 3)
      have f1 := B0.frozen (k * 3 + 1)
      have f2 := B0.frozen (k * 3 + 2)
      have s0 : ∀ a, (wr.setCell ⟨g, k * 3, none⟩ a).cell? ⟨g, k * 3, none⟩ = some a := fun a => by rw [(B0.set_ _ a).cell, Array.getElem?_setIfInBounds_self_of_lt (by omega)]
      have s1 : ∀ a b, ((wr.setCell ⟨g, k * 3, none⟩ a).setCell ⟨g, k * 3 + 1, none⟩ b).cell? ⟨g, k * 3 + 1, none⟩ = some b := fun a b => by rw [((B0.set_ _ a).set_ _ b).cell, Array.getElem?_setIfInBounds_self_of_lt (by simp; omega)]
      have M := Lib.hid (((B0.set_ (k * 3) (.int .i64 x.at_)).set_ (k * 3 + 1) (.int .i64 x.size)).set_ (k * 3 + 2) (.int .i64 x.flow))
      have M2 := Lib.hid (((B2.past (a := ⟨g, k * 3, none⟩) ne1 (.int .i64 x.at_)).past (a := ⟨g, k * 3 + 1, none⟩) ne1 (.int .i64 x.size)).past (a := ⟨g, k * 3 + 2, none⟩) ne1 (.int .i64 x.flow))
      have M3 := Lib.hid (grown_setS (grown_setS (grown_setS hgr (k * 3) (.int .i64 x.at_)) (k * 3 + 1) (.int .i64 x.size)) (k * 3 + 2) (.int .i64 x.flow))
      have HM : Hid ((((cs.setIfInBounds (k * 3) (.int .i64 x.at_)).setIfInBounds (k * 3 + 1) (.int .i64 x.size)).setIfInBounds (k * 3 + 2) (.int .i64 x.flow)).size = c * 3) := Lib.hid (by simpa using hc)
      clear hc
      go_wp2
      go_roundw
      case rel => exact ⟨k + 1, by omega, by go_num, ⟨_, M.out, HM.out⟩, M2.out, M3.out⟩
      case measure => simp [intOf]; omega
    · go_wp2
      exact ⟨rfl, .tuple #[], by simp [results, Try.results49, go_sem], rfl, hgr⟩

set_option maxHeartbeats 1600000 in
theorem roomyt_any (A : Option Addr) (l : List Pk) (c : Nat) (x : Pk) (w : World) (h : Pks w A l) (hA : A = none → c = 0) (hsz : 24 * (l.length + 3) ≤ 281474976710656) :
    Calls Try.prog 39 #[.slice A l.length c, .agg #[.int .i64 x.at_, .int .i64 x.size, .int .i64 x.flow]] w fun e w' => ∃ g, e = .returned (.slice (some ⟨g, 0, none⟩) l.length (l.length + 3)) ∧ w.heap.size ≤ g ∧ Blk w' g 68 (pcs (l ++ [x, x, x])).toArray ∧ Below w.heap.size w w' := by
  obtain ⟨i0, hi0, hz0, hz1, hz2⟩ := info_parts ta_infoS
  have z1 : IntKind.i64.wrap ((l.length : Int) + 3) = (l.length : Int) + 3 := IntWalk.i64_in _ ⟨by omega, by omega⟩
  obtain ⟨W, hW⟩ : ∃ W, W = w.alloc (.cells #[.int .i64 x.at_, .int .i64 x.size, .int .i64 x.flow] 68) := ⟨_, rfl⟩
  have hWb : Below w.heap.size w W := by rw [hW]; exact (Below.refl _ _).alloc (Nat.le_refl _) _
  have Bx : Blk W w.heap.size 68 #[.int .i64 x.at_, .int .i64 x.size, .int .i64 x.flow] := by rw [hW]; exact Blk.new _ _ _
  have HWs : Hid (W.heap.size = w.heap.size + 1) := Lib.hid (by rw [hW]; simp)
  have HW := Lib.hid hW
  clear hW
  go_enter Try.func39, Try.ntmps39
  go_wp2_with (at_make; rw [← HW.out]; refine wpList_make_own _ rfl _ _ 62 rfl W.heap.size 68 i0 (.agg #[.int .i64 0, .int .i64 0, .int .i64 0]) 3 Try.underlying62 hi0 hz0 hz1 .i64 .i64 _ (l.length + 3) rfl rfl (by omega) (by rw [hz2]; exact hsz) (by unfold maxLen; omega) (Nat.le_refl _) ?_)
  intro w1 o1 g1
  have hb1 : Below W.heap.size W w1 := (Below.refl _ W).grown g1 (Nat.le_refl _) (by intro k hk; cases hk)
  have hl1 := (h.below hWb).below hb1
  go_wp2_with (at_builtin; refine wpList_append_fits_any _ rfl _ _ 62 rfl W.heap.size 68 i0 3 Try.underlying62 hi0 hz1 W.heap.size 0 (l.length + 3) [] rfl o1 A l.length c (pcs l) rfl ?r1 ?r2 ?r3 ?r4 ?r5 ?_)
  case r1 => exact length_pcs l
  case r2 =>
    intro hn
    refine ⟨?_, hA hn⟩
    rcases Nat.eq_zero_or_pos l.length with q | q
    · exact q
    · obtain ⟨b, off, e, _⟩ := h.2 q; rw [hn] at e; cases e
  case r3 =>
    intro ad hn j u hu
    have hj : j < l.length * 3 := by have := (List.getElem?_eq_some_iff.1 hu).1; rwa [length_pcs] at this
    obtain ⟨b, off, e, hc⟩ := hl1.2 (by omega)
    rw [hn] at e
    obtain rfl := Option.some.inj e
    subst hn
    rw [Addr.add_lit]
    exact hl1.cells j u hu
  case r4 => exact pcs_one l
  case r5 => omega
  intro w2 o2 g2
  have hb2 : Below W.heap.size W w2 := hb1.grown g2 hb1.size (by intro k hk; cases hk; exact Nat.le_refl _)
  obtain ⟨cs, B0, R0⟩ : ∃ cs, Blk w2 W.heap.size 68 cs ∧ RopS l x 0 cs := by
    rcases o2.2 with ⟨hv, _⟩ | ⟨g, cap, cur, hv, _, hh, hn, hm, hs, ht⟩
    · cases hv
    · injection hv with e1 e2 e3
      injection e1 with e1
      injection e1 with e1
      subst e1 e3
      refine ⟨cur, hh, by simpa using hs, fun j u hu => ?_⟩
      rw [List.replicate_zero, List.append_nil] at hu
      have hj : j < l.length * 3 := by have := (List.getElem?_eq_some_iff.1 hu).1; rwa [length_pcs] at this
      have ht' : cur.toList.take ((0 + l.length) * 3) = [] ++ pcs l := by simpa using ht
      have e : (cur.toList.take ((0 + l.length) * 3))[j]? = some u := by rw [ht']; simpa using hu
      rw [List.getElem?_take_of_lt (by omega)] at e
      simpa using e
  obtain ⟨g, hg⟩ : ∃ g, g = W.heap.size := ⟨_, rfl⟩
  have G := Lib.hid hg
  obtain ⟨gx, hgx⟩ : ∃ g, g = w.heap.size := ⟨_, rfl⟩
  have GX := Lib.hid hgx
  have ht0 : w.heap.size ≤ g := by have := HWs.out; omega
  have ht1 : gx < g := by have := HWs.out; omega
  have B2 : Blk w2 gx 68 #[.int .i64 x.at_, .int .i64 x.size, .int .i64 x.flow] := by rw [hgx]; exact Bx.below hb2
  have hbw : Below w.heap.size w w2 := below_trans hWb hb2
  rw [← hg] at B0
  clear o1 o2 g1 g2 hb1 hl1 hg hgx hWb Bx hb2
  go_wp2
  rw [← G.out, ← GX.out]
  go_loopw [13] (fun i wr => ∃ k : Nat, k ≤ 3 ∧ i = .int .i64 k ∧ (∃ cs, Blk wr g 68 cs ∧ RopS l x k cs) ∧ Blk wr gx 68 #[.int .i64 x.at_, .int .i64 x.size, .int .i64 x.flow] ∧ Below w.heap.size w wr) (fun i _ => 3 - (intOf i).toNat)
  case atStart => exact ⟨0, by omega, rfl, ⟨cs, B0, R0⟩, B2, hbw⟩
  case round =>
    clear B0 R0 hbw B2
    obtain ⟨k, hk, rfl, ⟨cs, B0, R0⟩, B2, hb⟩ := hrel
    by_cases hlt : k < 3
    · have i1 : (k : Int) < 3 := by omega
      have hs := R0.size
      obtain ⟨t0, t1, t2⟩ := three_read B2
      obtain ⟨u0, v0⟩ : ∃ u, wr.cell? ⟨g, (l.length + k) * 3, none⟩ = some u := ⟨_, (B0.cell _).trans (Array.getElem?_eq_getElem (by omega))⟩
      obtain ⟨u1, v1⟩ : ∃ u, wr.cell? ⟨g, (l.length + k) * 3 + 1, none⟩ = some u := ⟨_, (B0.cell _).trans (Array.getElem?_eq_getElem (by omega))⟩
      obtain ⟨u2, v2⟩ : ∃ u, wr.cell? ⟨g, (l.length + k) * 3 + 2, none⟩ = some u := ⟨_, (B0.cell _).trans (Array.getElem?_eq_getElem (by omega))⟩
      have f0 := B0.frozen ((l.length + k) * 3)
      have f1 := B0.frozen ((l.length + k) * 3 + 1)
      have f2 := B0.frozen ((l.length + k) * 3 + 2)
      have s0 : ∀ a, (wr.setCell ⟨g, (l.length + k) * 3, none⟩ a).cell? ⟨g, (l.length + k) * 3, none⟩ = some a := fun a => by rw [(B0.set_ _ a).cell, Array.getElem?_setIfInBounds_self_of_lt (by omega)]
      have s1 : ∀ a b, ((wr.setCell ⟨g, (l.length + k) * 3, none⟩ a).setCell ⟨g, (l.length + k) * 3 + 1, none⟩ b).cell? ⟨g, (l.length + k) * 3 + 1, none⟩ = some b := fun a b => by rw [((B0.set_ _ a).set_ _ b).cell, Array.getElem?_setIfInBounds_self_of_lt (by simp; omega)]
      have ne1 : ¬ gx = g := by omega
      have ne2 : ¬ g = gx := by omega
      have M : Hid (Blk ((((wr.setCell ⟨g, (l.length + k) * 3, none⟩ (.int .i64 x.at_)).setCell ⟨g, (l.length + k) * 3 + 1, none⟩ (.int .i64 x.size)).setCell ⟨g, (l.length + k) * 3 + 2, none⟩ (.int .i64 x.flow)).drew) g 68 _) := Lib.hid (show Blk _ g 68 _ from ((B0.set_ ((l.length + k) * 3) (.int .i64 x.at_)).set_ ((l.length + k) * 3 + 1) (.int .i64 x.size)).set_ ((l.length + k) * 3 + 2) (.int .i64 x.flow))
      have M2 : Hid (Blk ((((wr.setCell ⟨g, (l.length + k) * 3, none⟩ (.int .i64 x.at_)).setCell ⟨g, (l.length + k) * 3 + 1, none⟩ (.int .i64 x.size)).setCell ⟨g, (l.length + k) * 3 + 2, none⟩ (.int .i64 x.flow)).drew) gx 68 #[.int .i64 x.at_, .int .i64 x.size, .int .i64 x.flow]) := Lib.hid (show Blk _ gx 68 _ from ((B2.past (a := ⟨g, (l.length + k) * 3, none⟩) ne1 _).past (a := ⟨g, (l.length + k) * 3 + 1, none⟩) ne1 _).past (a := ⟨g, (l.length + k) * 3 + 2, none⟩) ne1 _)
      have M3 : Hid (Below w.heap.size w ((((wr.setCell ⟨g, (l.length + k) * 3, none⟩ (.int .i64 x.at_)).setCell ⟨g, (l.length + k) * 3 + 1, none⟩ (.int .i64 x.size)).setCell ⟨g, (l.length + k) * 3 + 2, none⟩ (.int .i64 x.flow)).drew)) := Lib.hid (by
        have q := ((hb.setCell (p := ⟨g, (l.length + k) * 3, none⟩) ht0 (.int .i64 x.at_)).setCell (p := ⟨g, (l.length + k) * 3 + 1, none⟩) ht0 (.int .i64 x.size)).setCell (p := ⟨g, (l.length + k) * 3 + 2, none⟩) ht0 (.int .i64 x.flow)
        exact ⟨q.os, q.tape, q.output, q.size, q.block⟩)
      have z2 : IntKind.i64.wrap ((l.length : Int) + (k : Int)) = (l.length : Int) + (k : Int) := IntWalk.i64_in _ ⟨by omega, by omega⟩
      have z3 : ((l.length : Int) + (k : Int)).toNat = l.length + k := by omega
      have z4 : ((l.length : Int) + 3).toNat = l.length + 3 := by omega
      have z5 : (l.length : Int) + (k : Int) < (l.length : Int) + 3 := by omega
      clear hs
      go_wp2
      go_region
      go_wp2
      go_roundw
      case rel => exact ⟨k + 1, by omega, by go_num, ⟨_, M.out, R0.next hlt⟩, M2.out, M3.out⟩
      case measure => simp [intOf]; omega
    · obtain rfl : k = 3 := by omega
      go_wp2
      go_ret
      exact ⟨g, rfl, ht0, by rw [← R0.all]; exact B0, hb⟩

set_option maxHeartbeats 1600000 in
theorem markedt_any (g : Nat) (l : List Pk) (x : Pk) (w : World) (h : Blk w g 68 (pcs (l ++ [x, x, x])).toArray) (hl : 24 * (l.length + 3) ≤ 281474976710656) :
    Calls Try.prog 45 #[.slice (some ⟨g, 0, none⟩) l.length (l.length + 3), .agg #[.int .i64 x.at_, .int .i64 x.size, .int .i64 x.flow]] w fun e w' => e = .returned (.bool true) ∧ Below w.heap.size w w' := by
  have hc : ∀ k, k < 3 → w.cell? ⟨g, l.length * 3 + k * 3, none⟩ = some (.int .i64 x.at_) ∧ w.cell? ⟨g, l.length * 3 + k * 3 + 1, none⟩ = some (.int .i64 x.size) ∧ w.cell? ⟨g, l.length * 3 + k * 3 + 2, none⟩ = some (.int .i64 x.flow) := fun k hk => by
    obtain ⟨g0, g1, g2⟩ := pcs_get (mark_getS (l := l) (x := x) hk)
    rw [Nat.add_mul] at g0 g1 g2
    exact ⟨by rw [h.cell, List.getElem?_toArray]; exact g0, by rw [h.cell, List.getElem?_toArray]; exact g1, by rw [h.cell, List.getElem?_toArray]; exact g2⟩
  have HC := Lib.hid hc
  have hlt := h.lt
  clear hc h
  have z1 : ((l.length + 3 : Nat) : Int) = (l.length : Int) + 3 := by omega
  have z2 : l.length + 3 - l.length = 3 := by omega
  obtain ⟨gx, hgx⟩ : ∃ gx, gx = w.heap.size := ⟨_, rfl⟩
  have GX := Lib.hid hgx
  clear hgx
  go_enter Try.func45, Try.ntmps45
  go_wp2
  rw [← GX.out]
  go_loopw [14] (fun i wr => ∃ k : Nat, k ≤ 3 ∧ i = .int .i64 k ∧ Blk wr gx 68 #[.int .i64 x.at_, .int .i64 x.size, .int .i64 x.flow] ∧ Below w.heap.size w wr) (fun i _ => 3 - (intOf i).toNat)
  case atStart => exact ⟨0, by omega, rfl, by rw [GX.out]; exact Blk.new _ _ _, (Below.refl _ _).alloc (Nat.le_refl _) _⟩
  case round =>
    obtain ⟨k, hk, rfl, Bx, hb⟩ := hrel
    by_cases hk3 : k < 3
    · have i1 : (k : Int) < 3 := by omega
      obtain ⟨c0, c1, c2⟩ := HC.out k hk3
      have c0' := (hb.cell (p := ⟨g, l.length * 3 + k * 3, none⟩) hlt).trans c0
      have c1' := (hb.cell (p := ⟨g, l.length * 3 + k * 3 + 1, none⟩) hlt).trans c1
      have c2' := (hb.cell (p := ⟨g, l.length * 3 + k * 3 + 2, none⟩) hlt).trans c2
      obtain ⟨t0, t1, t2⟩ := three_read Bx
      have lx := Bx.lt
      clear c0 c1 c2
      go_wp2
      go_roundw
      case rel => exact ⟨k + 1, by omega, by go_num, Bx.alloc _, hb.alloc hb.size _⟩
      case measure => simp [intOf]; omega
    · have i1 : ¬ (k : Int) < 3 := by omega
      go_wp2
      go_ret
      exact ⟨rfl, hb⟩

set_option maxHeartbeats 1600000 in
theorem spoilt_any (g n c : Nat) (x : Pk) (cs : Array Value) (w : World) (h : Blk w g 68 cs) (hc : cs.size = c * 3) (hn : n ≤ c) (hm : c ≤ 9223372036854775807) :
    Calls Try.prog 50 #[.slice (some ⟨g, 0, none⟩) n c, .agg #[.int .i64 x.at_, .int .i64 x.size, .int .i64 x.flow]] w fun e w' => e = .returned (.tuple #[]) ∧ w.grownBy w' (some g) := by
  have hlt := h.lt
  obtain ⟨gx, hgx⟩ : ∃ gx, gx = w.heap.size := ⟨_, rfl⟩
  have ne1 : ¬ gx = g := by omega
  have ne2 : ¬ g = gx := by omega
  have GX := Lib.hid hgx
  clear hgx
  go_enter Try.func50, Try.ntmps50
  go_wp2
  rw [← GX.out]
  go_loopw [11] (fun i wr => ∃ k : Nat, k ≤ c ∧ i = .int .i64 k ∧ (∃ cs, Blk wr g 68 cs ∧ cs.size = c * 3) ∧ Blk wr gx 68 #[.int .i64 x.at_, .int .i64 x.size, .int .i64 x.flow] ∧ w.grownBy wr (some g)) (fun i _ => c - (intOf i).toNat)
  case atStart => exact ⟨0, Nat.zero_le _, rfl, ⟨cs, h.alloc _, hc⟩, by rw [GX.out]; exact Blk.new _ _ _, grown_belowS (grown_reflS _ _) ((Below.refl _ _).alloc (Nat.le_refl _) _)⟩
  case round =>
    clear h hc
    obtain ⟨k, hk, rfl, ⟨cs, B0, hc⟩, B2, hgr⟩ := hrel
    by_cases hkc : k < c
    · have i1 : (k : Int) < (c : Int) := by omega
      obtain ⟨t0, t1, t2⟩ := three_read B2
      obtain ⟨u0, v0⟩ : ∃ u, wr.cell? ⟨g, k * 3, none⟩ = some u := ⟨_, (B0.cell _).trans (Array.getElem?_eq_getElem (by omega))⟩
      obtain ⟨u1, v1⟩ : ∃ u, wr.cell? ⟨g, k * 3 + 1, none⟩ = some u := ⟨_, (B0.cell _).trans (Array.getElem?_eq_getElem (by omega))⟩
      obtain ⟨u2, v2⟩ : ∃ u, wr.cell? ⟨g, k * 3 + 2, none⟩ = some u := ⟨_, (B0.cell _).trans (Array.getElem?_eq_getElem (by omega))⟩
      have f0 := B0.frozen (k * 3)
      have f1 := B0.frozen (k * 3 + 1)
      have f2 := B0.frozen (k * 3 + 2)
      have s0 : ∀ a, (wr.setCell ⟨g, k * 3, none⟩ a).cell? ⟨g, k * 3, none⟩ = some a := fun a => by rw [(B0.set_ _ a).cell, Array.getElem?_setIfInBounds_self_of_lt (by omega)]
      have s1 : ∀ a b, ((wr.setCell ⟨g, k * 3, none⟩ a).setCell ⟨g, k * 3 + 1, none⟩ b).cell? ⟨g, k * 3 + 1, none⟩ = some b := fun a b => by rw [((B0.set_ _ a).set_ _ b).cell, Array.getElem?_setIfInBounds_self_of_lt (by simp; omega)]
      have M := Lib.hid (((B0.set_ (k * 3) (.int .i64 x.at_)).set_ (k * 3 + 1) (.int .i64 x.size)).set_ (k * 3 + 2) (.int .i64 x.flow))
      have M2 := Lib.hid (((B2.past (a := ⟨g, k * 3, none⟩) ne1 (.int .i64 x.at_)).past (a := ⟨g, k * 3 + 1, none⟩) ne1 (.int .i64 x.size)).past (a := ⟨g, k * 3 + 2, none⟩) ne1 (.int .i64 x.flow))
      have M3 := Lib.hid (grown_setS (grown_setS (grown_setS hgr (k * 3) (.int .i64 x.at_)) (k * 3 + 1) (.int .i64 x.size)) (k * 3 + 2) (.int .i64 x.flow))
      have HM : Hid ((((cs.setIfInBounds (k * 3) (.int .i64 x.at_)).setIfInBounds (k * 3 + 1) (.int .i64 x.size)).setIfInBounds (k * 3 + 2) (.int .i64 x.flow)).size = c * 3) := Lib.hid (by simpa using hc)
      clear hc
      go_wp2
      go_roundw
      case rel => exact ⟨k + 1, by omega, by go_num, ⟨_, M.out, HM.out⟩, M2.out, M3.out⟩
      case measure => simp [intOf]; omega
    · go_wp2
      exact ⟨rfl, .tuple #[], by simp [results, Try.results50, go_sem], rfl, hgr⟩


end Go.Proofs.Ytnpdcllfdoobeaa
