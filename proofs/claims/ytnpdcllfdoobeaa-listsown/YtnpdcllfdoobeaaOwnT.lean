
/-
  Walks: roomy, marked, spoil over booleans.
-/
import Derived.Test.YtnpdcllfdoobeaaOwnS
import Derived.Test.YtnpdcllfdoobeaaBlsN
namespace Go.Proofs.Ytnpdcllfdoobeaa
set_option linter.all false
open Go.RowKit Go.Shelf Go.Lib

/-- Cells that hold a list, and k marks behind it, of room for three. -/
structure RoB (l : List Bool) (x : Bool) (k : Nat) (cs : Array Value) : Prop where
  size : cs.size = l.length + 3
  at_ : ∀ j, j < l.length + k → cs[j]? = ((l ++ [x, x, x]).map Value.bool)[j]?
theorem mark_getB {l : List Bool} {x : Bool} {k : Nat} (hk : k < 3) : ((l ++ [x, x, x]).map Value.bool)[l.length + k]? = some (.bool x) := by
  rw [List.getElem?_map, List.getElem?_append_right (by omega), Nat.add_sub_cancel_left]
  match k, hk with
  | 0, _ => rfl
  | 1, _ => rfl
  | 2, _ => rfl
theorem RoB.next {l : List Bool} {x : Bool} {k : Nat} {cs : Array Value} (h : RoB l x k cs) (hk : k < 3) : RoB l x (k + 1) (cs.setIfInBounds (l.length + k) (.bool x)) := by
  refine ⟨by simpa using h.size, fun j hj => ?_⟩
  have hs := h.size
  rw [Array.getElem?_setIfInBounds]
  by_cases e : l.length + k = j
  · subst e
    rw [if_pos rfl, if_pos (by omega), mark_getB hk]
  · rw [if_neg e]; exact h.at_ j (by omega)
theorem RoB.all {l : List Bool} {x : Bool} {cs : Array Value} (h : RoB l x 3 cs) : cs = ((l ++ [x, x, x]).map Value.bool).toArray := by
  have hs := h.size
  apply Array.ext_getElem?
  intro j
  by_cases hj : j < l.length + 3
  · rw [h.at_ j hj, List.getElem?_toArray]
  · rw [Array.getElem?_eq_none (by omega), Array.getElem?_eq_none (by simp; omega)]

set_option maxHeartbeats 800000 in
theorem roomyb_any (A : Option Addr) (l : List Bool) (c : Nat) (x : Bool) (w : World) (h : Bls w A l) (hA : A = none → c = 0) (hsz : l.length + 3 ≤ 281474976710656) :
    Calls Try.prog 40 #[.slice A l.length c, .bool x] w fun e w' => ∃ g, e = .returned (.slice (some ⟨g, 0, none⟩) l.length (l.length + 3)) ∧ w.heap.size ≤ g ∧ Blk w' g 4 ((l ++ [x, x, x]).map Value.bool).toArray ∧ Below w.heap.size w w' := by
  obtain ⟨i0, hi0, hz0, hz1, hz2⟩ := info_parts bool_info
  have z1 : IntKind.i64.wrap ((l.length : Int) + 3) = (l.length : Int) + 3 := IntWalk.i64_in _ ⟨by omega, by omega⟩
  go_enter Try.func40, Try.ntmps40
  go_wp2_with (at_make; refine wpList_make_own _ rfl _ _ 22 rfl w.heap.size 4 i0 (.bool false) 1 Try.underlying22 hi0 hz0 hz1 .i64 .i64 _ (l.length + 3) rfl rfl (by omega) (by rw [hz2, Nat.one_mul]; exact hsz) (by unfold maxLen; omega) (Nat.le_refl _) ?_)
  intro w1 o1 g1
  have hb1 : Below w.heap.size w w1 := (Below.refl _ w).grown g1 (Nat.le_refl _) (by intro k hk; cases hk)
  have hl1 := h.below hb1
  go_wp2_with (at_builtin; refine wpList_append_fits_any _ rfl _ _ 22 rfl w.heap.size 4 i0 1 Try.underlying22 hi0 hz1 w.heap.size 0 (l.length + 3) [] rfl o1 A l.length c (l.map Value.bool) rfl ?r1 ?r2 ?r3 ?r4 ?r5 ?_)
  case r1 => simp
  case r2 =>
    intro hn
    refine ⟨?_, hA hn⟩
    rcases Nat.eq_zero_or_pos l.length with q | q
    · exact q
    · obtain ⟨b, off, e, _⟩ := h.2 q; rw [hn] at e; cases e
  case r3 =>
    intro ad hn j u hu
    subst hn
    exact hl1.cellsB j u hu
  case r4 => exact bool_oneB l
  case r5 => omega
  intro w2 o2 g2
  have hb2 : Below w.heap.size w w2 := hb1.grown g2 hb1.size (by intro k hk; cases hk; exact Nat.le_refl _)
  obtain ⟨cs, B0, R0⟩ : ∃ cs, Blk w2 w.heap.size 4 cs ∧ RoB l x 0 cs := by
    rcases o2.2 with ⟨hv, _⟩ | ⟨g, cap, cur, hv, _, hh, hn, hm, hs, ht⟩
    · cases hv
    · injection hv with e1 e2 e3
      injection e1 with e1
      injection e1 with e1
      subst e1 e3
      refine ⟨cur, hh, by simpa using hs, fun j hj => ?_⟩
      have hj' : j < l.length := by omega
      have ht' : cur.toList.take (0 + l.length) = [] ++ l.map Value.bool := by simpa using ht
      have e : (cur.toList.take (0 + l.length))[j]? = (l.map Value.bool)[j]? := by rw [ht']; simp
      rw [List.getElem?_take_of_lt (by omega)] at e
      rw [List.map_append, List.getElem?_append_left (by simpa using hj')]
      simpa using e
  obtain ⟨g, hg⟩ : ∃ g, g = w.heap.size := ⟨_, rfl⟩
  have G := Lib.hid hg
  have ht0 : w.heap.size ≤ g := by omega
  rw [← hg] at B0
  clear o1 o2 g1 g2 hb1 hl1 hg
  go_wp2
  rw [← G.out]
  clear G
  go_loopw [13] (fun i wr => ∃ k : Nat, k ≤ 3 ∧ i = .int .i64 k ∧ (∃ cs, Blk wr g 4 cs ∧ RoB l x k cs) ∧ Below w.heap.size w wr) (fun i _ => 3 - (intOf i).toNat)
  case atStart => exact ⟨0, by omega, rfl, ⟨cs, B0, R0⟩, hb2⟩
  case round =>
    clear B0 R0 hb2
    obtain ⟨k, hk, rfl, ⟨cs, B0, R0⟩, hb⟩ := hrel
    by_cases hlt : k < 3
    · have i1 : (k : Int) < 3 := by omega
      obtain ⟨u, hu⟩ : ∃ u, cs[l.length + k]? = some u := ⟨_, Array.getElem?_eq_getElem (show l.length + k < cs.size by have := R0.size; omega)⟩
      have cl := (B0.cell (l.length + k)).trans hu
      have fl := B0.frozen (l.length + k)
      have M := (B0.set_ (l.length + k) (.bool x))
      have z2 : IntKind.i64.wrap ((l.length : Int) + (k : Int)) = (l.length : Int) + (k : Int) := IntWalk.i64_in _ ⟨by omega, by omega⟩
      have z3 : ((l.length : Int) + (k : Int)).toNat = l.length + k := by omega
      have z4 : ((l.length : Int) + 3).toNat = l.length + 3 := by omega
      have z5 : (l.length : Int) + (k : Int) < (l.length : Int) + 3 := by omega
      clear hu
      go_wp2
      go_roundw
      case rel => exact ⟨k + 1, by omega, by go_num, ⟨_, M, R0.next hlt⟩, hb.setCell (p := ⟨g, l.length + k, none⟩) ht0 _⟩
      case measure => simp [intOf]; omega
    · obtain rfl : k = 3 := by omega
      go_wp2
      go_ret
      exact ⟨g, rfl, ht0, by rw [← R0.all]; exact B0, hb⟩
theorem Bls.of_room {w : World} {g : Nat} {l m : List Bool} (h : Blk w g 4 ((l ++ m).map Value.bool).toArray) (hl : l.length ≤ 9223372036854775807) : Bls w (some ⟨g, 0, none⟩) l :=
  ⟨hl, fun _ => ⟨g, 0, rfl, fun j hj => by rw [h.cell, List.getElem?_toArray, List.getElem?_map, Nat.zero_add, List.getElem?_append_left hj]; simp [List.getD, List.getElem?_eq_getElem hj]⟩⟩

set_option maxHeartbeats 800000 in
theorem markedb_any (g : Nat) (l : List Bool) (w : World) (h : Blk w g 4 ((l ++ [true, true, true]).map Value.bool).toArray) (hl : l.length + 3 ≤ 281474976710656) :
    Calls Try.prog 47 #[.slice (some ⟨g, 0, none⟩) l.length (l.length + 3), .bool true] w fun e w' => e = .returned (.bool true) ∧ w = w' := by
  have hc : ∀ k, k < 3 → w.cell? ⟨g, l.length + k, none⟩ = some (.bool true) := fun k hk => by
    rw [h.cell, List.getElem?_toArray]; exact mark_getB hk
  have HC := Lib.hid hc
  clear hc
  have z1 : ((l.length + 3 : Nat) : Int) = (l.length : Int) + 3 := by omega
  have z2 : l.length + 3 - l.length = 3 := by omega
  go_enter Try.func47, Try.ntmps47
  go_wp2
  go_loop [14] (fun i => ∃ k : Nat, k ≤ 3 ∧ i = .int .i64 k) (fun i => 3 - (intOf i).toNat)
  case atStart => exact ⟨0, by omega, rfl⟩
  case round =>
    obtain ⟨k, hk, rfl⟩ := hrel
    by_cases hlt : k < 3
    · have i1 : (k : Int) < 3 := by omega
      have c1 := HC.out k hlt
      go_wp2
      go_round
      case rel => exact ⟨k + 1, by omega, by go_num⟩
      case measure => simp [intOf]; omega
    · have i1 : ¬ (k : Int) < 3 := by omega
      go_wp2
      go_ret
      exact ⟨rfl, rfl⟩
theorem Turned.grownT {g : Nat} {w w' : World} (h : Turned g w w') : w.grownBy w' (some g) := ⟨h.os, h.tape, h.output, Nat.le_of_eq h.size.symm, fun k _ hne => h.block k (fun e => hne (by rw [e]))⟩
set_option maxHeartbeats 800000 in
theorem spoilb_any (g n c : Nat) (x : Bool) (cs : Array Value) (w : World) (h : Blk w g 4 cs) (hc : cs.size = c) (hn : n ≤ c) (hm : c ≤ 9223372036854775807) :
    Calls Try.prog 51 #[.slice (some ⟨g, 0, none⟩) n c, .bool x] w fun e w' => e = .returned (.tuple #[]) ∧ w.grownBy w' (some g) := by
  go_enter Try.func51, Try.ntmps51
  go_wp2
  go_loopw [11] (fun i wr => ∃ k : Nat, k ≤ c ∧ i = .int .i64 k ∧ (∃ cs, Blk wr g 4 cs ∧ cs.size = c) ∧ Turned g w wr) (fun i _ => c - (intOf i).toNat)
  case atStart => exact ⟨0, Nat.zero_le _, rfl, ⟨cs, h, hc⟩, Turned.refl _ _⟩
  case round =>
    clear h hc
    obtain ⟨k, hk, rfl, ⟨cs, B0, hc⟩, ht⟩ := hrel
    by_cases hlt : k < c
    · have i1 : (k : Int) < (c : Int) := by omega
      obtain ⟨u, hu⟩ : ∃ u, cs[k]? = some u := ⟨_, Array.getElem?_eq_getElem (show k < cs.size by omega)⟩
      have cl := (B0.cell k).trans hu
      have fl := B0.frozen k
      have M := (B0.set_ k (.bool x))
      have HM : Hid ((cs.setIfInBounds k (.bool x)).size = c) := Lib.hid (by simpa using hc)
      clear hu hc
      go_wp2
      go_roundw
      case rel => exact ⟨k + 1, by omega, by go_num, ⟨_, M, HM.out⟩, ht.set k _⟩
      case measure => simp [intOf]; omega
    · go_wp2
      exact ⟨rfl, .tuple #[], by simp [results, Try.results51, go_sem], rfl, ht.grownT⟩

end Go.Proofs.Ytnpdcllfdoobeaa
