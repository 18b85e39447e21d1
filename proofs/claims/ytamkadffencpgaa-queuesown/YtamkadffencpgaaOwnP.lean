
/-
  Walks: roomy, marked, spoil over packets.
-/
import Derived.Test.YtamkadffencpgaaOwnA
import Derived.Test.YtamkadffencpgaaPkRow
import Derived.Test.YtamkadffencpgaaTurnsC
namespace Go.Proofs.Ytamkadffencpgaa
set_option linter.all false
open Go.RowKit Go.Shelf Go.Lib

/-- Cells that hold a list of packets, and k marks behind it, of room for three. -/
structure Rop (l : List Pk) (x : Pk) (k : Nat) (cs : Array Value) : Prop where
  size : cs.size = (l.length + 3) * 3
  at_ : ∀ (j : Nat) (u : Value), (pcs (l ++ List.replicate k x))[j]? = some u → cs[j]? = some u
theorem set3 {cs : Array Value} {n k : Nat} (hs : cs.size = n * 3) (hk : k < n) (a b c : Value) :
    (((cs.setIfInBounds (k * 3) a).setIfInBounds (k * 3 + 1) b).setIfInBounds (k * 3 + 2) c).size = n * 3 ∧
    (∀ i, (i < k * 3 ∨ k * 3 + 2 < i) → (((cs.setIfInBounds (k * 3) a).setIfInBounds (k * 3 + 1) b).setIfInBounds (k * 3 + 2) c)[i]? = cs[i]?) ∧
    (((cs.setIfInBounds (k * 3) a).setIfInBounds (k * 3 + 1) b).setIfInBounds (k * 3 + 2) c)[k * 3]? = some a ∧
    (((cs.setIfInBounds (k * 3) a).setIfInBounds (k * 3 + 1) b).setIfInBounds (k * 3 + 2) c)[k * 3 + 1]? = some b ∧
    (((cs.setIfInBounds (k * 3) a).setIfInBounds (k * 3 + 1) b).setIfInBounds (k * 3 + 2) c)[k * 3 + 2]? = some c := by
  have h0 : k * 3 < cs.size := by omega
  have h1 : k * 3 + 1 < cs.size := by omega
  have h2 : k * 3 + 2 < cs.size := by omega
  refine ⟨by simp [hs], fun i hi => ?_, ?_, ?_, ?_⟩
  · rw [Array.getElem?_setIfInBounds_ne (by omega), Array.getElem?_setIfInBounds_ne (by omega), Array.getElem?_setIfInBounds_ne (by omega)]
  · rw [Array.getElem?_setIfInBounds_ne (by omega), Array.getElem?_setIfInBounds_ne (by omega), Array.getElem?_setIfInBounds_self_of_lt (by simpa using h0)]
  · rw [Array.getElem?_setIfInBounds_ne (by omega), Array.getElem?_setIfInBounds_self_of_lt (by simpa using h1)]
  · rw [Array.getElem?_setIfInBounds_self_of_lt (by simpa using h2)]
theorem Rop.next {l : List Pk} {x : Pk} {k : Nat} {cs : Array Value} (h : Rop l x k cs) (hk : k < 3) : Rop l x (k + 1) (((cs.setIfInBounds ((l.length + k) * 3) (.int .i64 x.at_)).setIfInBounds ((l.length + k) * 3 + 1) (.int .i64 x.size)).setIfInBounds ((l.length + k) * 3 + 2) (.int .i64 x.flow)) := by
  obtain ⟨s0, s1, s2, s3, s4⟩ := set3 h.size (show l.length + k < l.length + 3 by omega) (.int .i64 x.at_) (.int .i64 x.size) (.int .i64 x.flow)
  refine ⟨s0, fun j u hu => ?_⟩
  rw [List.replicate_succ', ← List.append_assoc, pcs_append] at hu
  have e : (pcs (l ++ List.replicate k x)).length = (l.length + k) * 3 := by rw [length_pcs]; simp
  by_cases c : j < (l.length + k) * 3
  · rw [List.getElem?_append_left (by omega)] at hu
    rw [s1 j (.inl c)]
    exact h.at_ j u hu
  · rw [List.getElem?_append_right (by omega), e] at hu
    have hj : j - (l.length + k) * 3 < 3 := by have := (List.getElem?_eq_some_iff.1 hu).1; simpa [pcs] using this
    rcases (show j = (l.length + k) * 3 ∨ j = (l.length + k) * 3 + 1 ∨ j = (l.length + k) * 3 + 2 by omega) with d | d | d
    · subst d; rw [s2]; simpa [pcs] using hu
    · subst d; rw [s3]; simpa [pcs, Nat.add_sub_cancel_left] using hu
    · subst d; rw [s4]; simpa [pcs, Nat.add_sub_cancel_left] using hu
theorem Rop.all {l : List Pk} {x : Pk} {cs : Array Value} (h : Rop l x 3 cs) : cs = (pcs (l ++ [x, x, x])).toArray := by
  have hs := h.size
  apply Array.ext_getElem?
  intro j
  by_cases hj : j < (l.length + 3) * 3
  · have hl : j < (pcs (l ++ [x, x, x])).length := by rw [length_pcs]; simpa using hj
    rw [h.at_ j _ (List.getElem?_eq_getElem hl), List.getElem?_toArray, List.getElem?_eq_getElem hl]
  · rw [Array.getElem?_eq_none (by omega), Array.getElem?_eq_none (by simp [length_pcs]; omega)]

set_option maxHeartbeats 1600000 in
theorem roomyp_any (A : Option Addr) (l : List Pk) (c : Nat) (x : Pk) (w : World) (h : Pks w A l) (hA : A = none → c = 0) (hsz : 24 * (l.length + 3) ≤ 281474976710656) :
    Calls Try.prog 19 #[.slice A l.length c, .agg #[.int .i64 x.at_, .int .i64 x.size, .int .i64 x.flow]] w fun e w' => ∃ g, e = .returned (.slice (some ⟨g, 0, none⟩) l.length (l.length + 3)) ∧ w.heap.size ≤ g ∧ Blk w' g 32 (pcs (l ++ [x, x, x])).toArray ∧ Below w.heap.size w w' := by
  obtain ⟨i0, hi0, hz0, hz1, hz2⟩ := info_parts pk_info
  have z1 : IntKind.i64.wrap ((l.length : Int) + 3) = (l.length : Int) + 3 := IntWalk.i64_in _ ⟨by omega, by omega⟩
  obtain ⟨W, hW⟩ : ∃ W, W = w.alloc (.cells #[.int .i64 x.at_, .int .i64 x.size, .int .i64 x.flow] 32) := ⟨_, rfl⟩
  have hWb : Below w.heap.size w W := by rw [hW]; exact (Below.refl _ _).alloc (Nat.le_refl _) _
  have Bx : Blk W w.heap.size 32 #[.int .i64 x.at_, .int .i64 x.size, .int .i64 x.flow] := by rw [hW]; exact Blk.new _ _ _
  have HWs : Hid (W.heap.size = w.heap.size + 1) := Lib.hid (by rw [hW]; simp)
  have HW := Lib.hid hW
  clear hW
  go_enter Try.func19, Try.ntmps19
  go_wp2_with (at_make; rw [← HW.out]; refine wpList_make_own _ rfl _ _ 23 rfl W.heap.size 32 i0 (.agg #[.int .i64 0, .int .i64 0, .int .i64 0]) 3 Try.underlying23 hi0 hz0 hz1 .i64 .i64 _ (l.length + 3) rfl rfl (by omega) (by rw [hz2]; exact hsz) (by unfold maxLen; omega) (Nat.le_refl _) ?_)
  intro w1 o1 g1
  have hb1 : Below W.heap.size W w1 := (Below.refl _ W).grown g1 (Nat.le_refl _) (by intro k hk; cases hk)
  have hl1 := (h.below hWb).below hb1
  go_wp2_with (at_builtin; refine wpList_append_fits_any _ rfl _ _ 23 rfl W.heap.size 32 i0 3 Try.underlying23 hi0 hz1 W.heap.size 0 (l.length + 3) [] rfl o1 A l.length c (pcs l) rfl ?r1 ?r2 ?r3 ?r4 ?r5 ?_)
  case r1 => exact length_pcs l
  case r2 =>
    intro hn
    refine ⟨?_, hA hn⟩
    rcases Nat.eq_zero_or_pos l.length with q | q
    · exact q
    · obtain ⟨b, off, e, _⟩ := h.2 q; rw [hn] at e; cases e
  case r3 =>
    intro ad hn j u hu
    have hj : j < l.length * 3 := by have := (List.getElem?_eq_some_iff.1 hu).1; rwa [length_pcs] at this
    obtain ⟨b, off, e, hc⟩ := hl1.2 (by omega)
    rw [hn] at e
    obtain rfl := Option.some.inj e
    subst hn
    rw [Addr.add_lit]
    exact hl1.cells j u hu
  case r4 => exact pcs_one l
  case r5 => omega
  intro w2 o2 g2
  have hb2 : Below W.heap.size W w2 := hb1.grown g2 hb1.size (by intro k hk; cases hk; exact Nat.le_refl _)
  obtain ⟨cs, B0, R0⟩ : ∃ cs, Blk w2 W.heap.size 32 cs ∧ Rop l x 0 cs := by
    rcases o2.2 with ⟨hv, _⟩ | ⟨g, cap, cur, hv, _, hh, hn, hm, hs, ht⟩
    · cases hv
    · injection hv with e1 e2 e3
      injection e1 with e1
      injection e1 with e1
      subst e1 e3
      refine ⟨cur, hh, by simpa using hs, fun j u hu => ?_⟩
      rw [List.replicate_zero, List.append_nil] at hu
      have hj : j < l.length * 3 := by have := (List.getElem?_eq_some_iff.1 hu).1; rwa [length_pcs] at this
      have ht' : cur.toList.take ((0 + l.length) * 3) = [] ++ pcs l := by simpa using ht
      have e : (cur.toList.take ((0 + l.length) * 3))[j]? = some u := by rw [ht']; simpa using hu
      rw [List.getElem?_take_of_lt (by omega)] at e
      simpa using e
  obtain ⟨g, hg⟩ : ∃ g, g = W.heap.size := ⟨_, rfl⟩
  have G := Lib.hid hg
  obtain ⟨gx, hgx⟩ : ∃ g, g = w.heap.size := ⟨_, rfl⟩
  have GX := Lib.hid hgx
  have ht0 : w.heap.size ≤ g := by have := HWs.out; omega
  have ht1 : gx < g := by have := HWs.out; omega
  have B2 : Blk w2 gx 32 #[.int .i64 x.at_, .int .i64 x.size, .int .i64 x.flow] := by rw [hgx]; exact Bx.below hb2
  have hbw : Below w.heap.size w w2 := below_trans hWb hb2
  rw [← hg] at B0
  clear o1 o2 g1 g2 hb1 hl1 hg hgx hWb Bx hb2
  go_wp2
  rw [← G.out, ← GX.out]
  go_loopw [13] (fun i wr => ∃ k : Nat, k ≤ 3 ∧ i = .int .i64 k ∧ (∃ cs, Blk wr g 32 cs ∧ Rop l x k cs) ∧ Blk wr gx 32 #[.int .i64 x.at_, .int .i64 x.size, .int .i64 x.flow] ∧ Below w.heap.size w wr) (fun i _ => 3 - (intOf i).toNat)
  case atStart => exact ⟨0, by omega, rfl, ⟨cs, B0, R0⟩, B2, hbw⟩
  case round =>
    clear B0 R0 hbw B2
    obtain ⟨k, hk, rfl, ⟨cs, B0, R0⟩, B2, hb⟩ := hrel
    by_cases hlt : k < 3
    · have i1 : (k : Int) < 3 := by omega
      have hs := R0.size
      obtain ⟨t0, t1, t2⟩ := three_read B2
      obtain ⟨u0, v0⟩ : ∃ u, wr.cell? ⟨g, (l.length + k) * 3, none⟩ = some u := ⟨_, (B0.cell _).trans (Array.getElem?_eq_getElem (by omega))⟩
      obtain ⟨u1, v1⟩ : ∃ u, wr.cell? ⟨g, (l.length + k) * 3 + 1, none⟩ = some u := ⟨_, (B0.cell _).trans (Array.getElem?_eq_getElem (by omega))⟩
      obtain ⟨u2, v2⟩ : ∃ u, wr.cell? ⟨g, (l.length + k) * 3 + 2, none⟩ = some u := ⟨_, (B0.cell _).trans (Array.getElem?_eq_getElem (by omega))⟩
      have f0 := B0.frozen ((l.length + k) * 3)
      have f1 := B0.frozen ((l.length + k) * 3 + 1)
      have f2 := B0.frozen ((l.length + k) * 3 + 2)
      have s0 : ∀ a, (wr.setCell ⟨g, (l.length + k) * 3, none⟩ a).cell? ⟨g, (l.length + k) * 3, none⟩ = some a := fun a => by rw [(B0.set_ _ a).cell, Array.getElem?_setIfInBounds_self_of_lt (by omega)]
      have s1 : ∀ a b, ((wr.setCell ⟨g, (l.length + k) * 3, none⟩ a).setCell ⟨g, (l.length + k) * 3 + 1, none⟩ b).cell? ⟨g, (l.length + k) * 3 + 1, none⟩ = some b := fun a b => by rw [((B0.set_ _ a).set_ _ b).cell, Array.getElem?_setIfInBounds_self_of_lt (by simp; omega)]
      have ne1 : ¬ gx = g := by omega
      have ne2 : ¬ g = gx := by omega
      have M : Hid (Blk ((((wr.setCell ⟨g, (l.length + k) * 3, none⟩ (.int .i64 x.at_)).setCell ⟨g, (l.length + k) * 3 + 1, none⟩ (.int .i64 x.size)).setCell ⟨g, (l.length + k) * 3 + 2, none⟩ (.int .i64 x.flow)).drew) g 32 _) := Lib.hid (show Blk _ g 32 _ from ((B0.set_ ((l.length + k) * 3) (.int .i64 x.at_)).set_ ((l.length + k) * 3 + 1) (.int .i64 x.size)).set_ ((l.length + k) * 3 + 2) (.int .i64 x.flow))
      have M2 : Hid (Blk ((((wr.setCell ⟨g, (l.length + k) * 3, none⟩ (.int .i64 x.at_)).setCell ⟨g, (l.length + k) * 3 + 1, none⟩ (.int .i64 x.size)).setCell ⟨g, (l.length + k) * 3 + 2, none⟩ (.int .i64 x.flow)).drew) gx 32 #[.int .i64 x.at_, .int .i64 x.size, .int .i64 x.flow]) := Lib.hid (show Blk _ gx 32 _ from ((B2.past (a := ⟨g, (l.length + k) * 3, none⟩) ne1 _).past (a := ⟨g, (l.length + k) * 3 + 1, none⟩) ne1 _).past (a := ⟨g, (l.length + k) * 3 + 2, none⟩) ne1 _)
      have M3 : Hid (Below w.heap.size w ((((wr.setCell ⟨g, (l.length + k) * 3, none⟩ (.int .i64 x.at_)).setCell ⟨g, (l.length + k) * 3 + 1, none⟩ (.int .i64 x.size)).setCell ⟨g, (l.length + k) * 3 + 2, none⟩ (.int .i64 x.flow)).drew)) := Lib.hid (by
        have q := ((hb.setCell (p := ⟨g, (l.length + k) * 3, none⟩) ht0 (.int .i64 x.at_)).setCell (p := ⟨g, (l.length + k) * 3 + 1, none⟩) ht0 (.int .i64 x.size)).setCell (p := ⟨g, (l.length + k) * 3 + 2, none⟩) ht0 (.int .i64 x.flow)
        exact ⟨q.os, q.tape, q.output, q.size, q.block⟩)
      have z2 : IntKind.i64.wrap ((l.length : Int) + (k : Int)) = (l.length : Int) + (k : Int) := IntWalk.i64_in _ ⟨by omega, by omega⟩
      have z3 : ((l.length : Int) + (k : Int)).toNat = l.length + k := by omega
      have z4 : ((l.length : Int) + 3).toNat = l.length + 3 := by omega
      have z5 : (l.length : Int) + (k : Int) < (l.length : Int) + 3 := by omega
      clear hs
      go_wp2
      go_region
      go_wp2
      go_roundw
      case rel => exact ⟨k + 1, by omega, by go_num, ⟨_, M.out, R0.next hlt⟩, M2.out, M3.out⟩
      case measure => simp [intOf]; omega
    · obtain rfl : k = 3 := by omega
      go_wp2
      go_ret
      exact ⟨g, rfl, ht0, by rw [← R0.all]; exact B0, hb⟩

end Go.Proofs.Ytamkadffencpgaa
