
/-
  Walks: marked, spoil, equal over packets; clones of what a call has handed back.
-/
import Derived.Test.YtamkadffencpgaaOwnP
import Derived.Test.YtamkadffencpgaaBucketD
import Derived.Test.YtamkadffencpgaaTurnsD
namespace Go.Proofs.Ytamkadffencpgaa
set_option linter.all false
open Go.RowKit Go.Shelf Go.Lib

set_option maxHeartbeats 800000 in
theorem clone_sent (A : Option Addr) (n c base : Nat) (xs : List Value) (w : World) (h : w.ownsRow base 60 2 (.slice A n c) n xs) (hn : n ≤ 1000) (h1 : ∀ u ∈ xs, u.oneCell' = true) :
    Calls Try.prog 28 #[.slice A n c] w fun e w' => ∃ A' c', e = .returned (.slice A' n c') ∧ w'.ownsRow w.heap.size 60 2 (.slice A' n c') n xs ∧ Below w.heap.size w w' := by
  obtain ⟨i0, hi0, hz0, hz1, hz2⟩ := info_parts sent_info
  have q : ∀ (w : World) (a : Option Addr) (n c n' c' : Nat), (binOp .eql 50 (.slice a n c) (.slice none n' c')).run Try.prog w = .ok (.bool a.isNone) w := fun w a n c n' c' => Lib.run_eql_slice_nil w _ _ a n c n' c' Try.underlying50
  have hl := h.1
  rcases h.2 with ⟨hv, h0⟩ | ⟨g, cap, cur, hv, hg, hh, hr⟩
  · injection hv with e1 e2 e3
    subst e1 e3
    subst h0
    obtain rfl : xs = [] := List.eq_nil_of_length_eq_zero (by simpa using hl)
    clear h hl
    go_enter Try.func28, Try.ntmps28
    go_wp2
    go_ret
    exact ⟨none, 0, rfl, World.ownsRow_nil _ _ _ _, Below.refl _ _⟩
  · injection hv with e1 e2 e3
    subst e1 e3
    have hlt : g < w.heap.size := (h.lt g rfl).2
    have HC := Lib.hid (fun j u hu => h.cells (g := g) rfl j u hu)
    have HL := Lib.hid hl
    clear h hl hr hh
    go_enter Try.func28, Try.ntmps28
    go_wp2_with (at_builtin; refine wpList_append_own _ rfl _ _ 50 rfl w.heap.size 60 i0 (.agg #[.int .i64 0, .int .i64 0]) 2 16 Try.underlying50 hi0 hz0 hz1 hz2 rfl (by decide) _ _ _ rfl (World.ownsRow_made w #[] 0 (Nat.le_refl _) (Nat.zero_le _) rfl) ⟨g, 0, none⟩ n c xs rfl ?qc1 ?qc2 ?qc3 ?qc4 ?qc5 ?qc6 ?_)
    case qc1 => simpa using HL.out
    case qc2 =>
      intro j u hj
      have := HC.out j u hj
      rw [Addr.add_lit, Nat.zero_add] at this
      exact this
    case qc3 => exact h1
    case qc4 => unfold maxLen; omega
    case qc5 => omega
    intro v' w1 hown hgrow hnil
    have hown' : w1.ownsRow w.heap.size 60 2 v' n xs := by simpa using hown
    obtain ⟨A', c', rfl⟩ := own_form hown'
    have hb : Below w.heap.size w w1 := ((Below.refl _ w).alloc (Nat.le_refl _) _).grown hgrow (by simp) (by intro k hk; simp [Value.ownBlock] at hk; omega)
    clear hown hgrow hnil
    go_wp2
    go_ret
    exact ⟨A', c', rfl, hown', hb⟩
set_option maxHeartbeats 800000 in
theorem clone_bool (A : Option Addr) (n c base : Nat) (xs : List Value) (w : World) (h : w.ownsRow base 4 1 (.slice A n c) n xs) (hn : n ≤ 1000) (h1 : ∀ u ∈ xs, u.oneCell' = true) :
    Calls Try.prog 26 #[.slice A n c] w fun e w' => ∃ A' c', e = .returned (.slice A' n c') ∧ w'.ownsRow w.heap.size 4 1 (.slice A' n c') n xs ∧ Below w.heap.size w w' := by
  obtain ⟨i0, hi0, hz0, hz1, hz2⟩ := info_parts bool_info
  have q : ∀ (w : World) (a : Option Addr) (n c n' c' : Nat), (binOp .eql 34 (.slice a n c) (.slice none n' c')).run Try.prog w = .ok (.bool a.isNone) w := fun w a n c n' c' => Lib.run_eql_slice_nil w _ _ a n c n' c' Try.underlying34
  have hl := h.1
  rcases h.2 with ⟨hv, h0⟩ | ⟨g, cap, cur, hv, hg, hh, hr⟩
  · injection hv with e1 e2 e3
    subst e1 e3
    subst h0
    obtain rfl : xs = [] := List.eq_nil_of_length_eq_zero (by simpa using hl)
    clear h hl
    go_enter Try.func26, Try.ntmps26
    go_wp2
    go_ret
    exact ⟨none, 0, rfl, World.ownsRow_nil _ _ _ _, Below.refl _ _⟩
  · injection hv with e1 e2 e3
    subst e1 e3
    have hlt : g < w.heap.size := (h.lt g rfl).2
    have HC := Lib.hid (fun j u hu => h.cells (g := g) rfl j u hu)
    have HL := Lib.hid hl
    clear h hl hr hh
    go_enter Try.func26, Try.ntmps26
    go_wp2_with (at_builtin; refine wpList_append_own _ rfl _ _ 34 rfl w.heap.size 4 i0 (.bool false) 1 1 Try.underlying34 hi0 hz0 hz1 hz2 rfl (by decide) _ _ _ rfl (World.ownsRow_made w #[] 0 (Nat.le_refl _) (Nat.zero_le _) rfl) ⟨g, 0, none⟩ n c xs rfl ?qc1 ?qc2 ?qc3 ?qc4 ?qc5 ?qc6 ?_)
    case qc1 => simpa using HL.out
    case qc2 =>
      intro j u hj
      have := HC.out j u hj
      rw [Addr.add_lit, Nat.zero_add] at this
      exact this
    case qc3 => exact h1
    case qc4 => unfold maxLen; omega
    case qc5 => omega
    intro v' w1 hown hgrow hnil
    have hown' : w1.ownsRow w.heap.size 4 1 v' n xs := by simpa using hown
    obtain ⟨A', c', rfl⟩ := own_form hown'
    have hb : Below w.heap.size w w1 := ((Below.refl _ w).alloc (Nat.le_refl _) _).grown hgrow (by simp) (by intro k hk; simp [Value.ownBlock] at hk; omega)
    clear hown hgrow hnil
    go_wp2
    go_ret
    exact ⟨A', c', rfl, hown', hb⟩
set_option maxHeartbeats 800000 in
theorem clone_int (A : Option Addr) (n c base : Nat) (xs : List Value) (w : World) (h : w.ownsRow base 3 1 (.slice A n c) n xs) (hn : n ≤ 1000) (h1 : ∀ u ∈ xs, u.oneCell' = true) :
    Calls Try.prog 27 #[.slice A n c] w fun e w' => ∃ A' c', e = .returned (.slice A' n c') ∧ w'.ownsRow w.heap.size 3 1 (.slice A' n c') n xs ∧ Below w.heap.size w w' := by
  obtain ⟨i0, hi0, hz0, hz1, hz2⟩ := info_parts int_info
  have q : ∀ (w : World) (a : Option Addr) (n c n' c' : Nat), (binOp .eql 22 (.slice a n c) (.slice none n' c')).run Try.prog w = .ok (.bool a.isNone) w := fun w a n c n' c' => Lib.run_eql_slice_nil w _ _ a n c n' c' Try.underlying22
  have hl := h.1
  rcases h.2 with ⟨hv, h0⟩ | ⟨g, cap, cur, hv, hg, hh, hr⟩
  · injection hv with e1 e2 e3
    subst e1 e3
    subst h0
    obtain rfl : xs = [] := List.eq_nil_of_length_eq_zero (by simpa using hl)
    clear h hl
    go_enter Try.func27, Try.ntmps27
    go_wp2
    go_ret
    exact ⟨none, 0, rfl, World.ownsRow_nil _ _ _ _, Below.refl _ _⟩
  · injection hv with e1 e2 e3
    subst e1 e3
    have hlt : g < w.heap.size := (h.lt g rfl).2
    have HC := Lib.hid (fun j u hu => h.cells (g := g) rfl j u hu)
    have HL := Lib.hid hl
    clear h hl hr hh
    go_enter Try.func27, Try.ntmps27
    go_wp2_with (at_builtin; refine wpList_append_own _ rfl _ _ 22 rfl w.heap.size 3 i0 (.int .i64 0) 1 8 Try.underlying22 hi0 hz0 hz1 hz2 rfl (by decide) _ _ _ rfl (World.ownsRow_made w #[] 0 (Nat.le_refl _) (Nat.zero_le _) rfl) ⟨g, 0, none⟩ n c xs rfl ?qc1 ?qc2 ?qc3 ?qc4 ?qc5 ?qc6 ?_)
    case qc1 => simpa using HL.out
    case qc2 =>
      intro j u hj
      have := HC.out j u hj
      rw [Addr.add_lit, Nat.zero_add] at this
      exact this
    case qc3 => exact h1
    case qc4 => unfold maxLen; omega
    case qc5 => omega
    intro v' w1 hown hgrow hnil
    have hown' : w1.ownsRow w.heap.size 3 1 v' n xs := by simpa using hown
    obtain ⟨A', c', rfl⟩ := own_form hown'
    have hb : Below w.heap.size w w1 := ((Below.refl _ w).alloc (Nat.le_refl _) _).grown hgrow (by simp) (by intro k hk; simp [Value.ownBlock] at hk; omega)
    clear hown hgrow hnil
    go_wp2
    go_ret
    exact ⟨A', c', rfl, hown', hb⟩

theorem mark_get {l : List Pk} {x : Pk} {k : Nat} (hk : k < 3) : (l ++ [x, x, x])[l.length + k]? = some x := by
  rw [List.getElem?_append_right (by omega), Nat.add_sub_cancel_left]
  match k, hk with
  | 0, _ => rfl
  | 1, _ => rfl
  | 2, _ => rfl

set_option maxHeartbeats 1600000 in
theorem markedp_any (g : Nat) (l : List Pk) (x : Pk) (w : World) (h : Blk w g 32 (pcs (l ++ [x, x, x])).toArray) (hl : 24 * (l.length + 3) ≤ 281474976710656) :
    Calls Try.prog 24 #[.slice (some ⟨g, 0, none⟩) l.length (l.length + 3), .agg #[.int .i64 x.at_, .int .i64 x.size, .int .i64 x.flow]] w fun e w' => e = .returned (.bool true) ∧ Below w.heap.size w w' := by
  have hc : ∀ k, k < 3 → w.cell? ⟨g, l.length * 3 + k * 3, none⟩ = some (.int .i64 x.at_) ∧ w.cell? ⟨g, l.length * 3 + k * 3 + 1, none⟩ = some (.int .i64 x.size) ∧ w.cell? ⟨g, l.length * 3 + k * 3 + 2, none⟩ = some (.int .i64 x.flow) := fun k hk => by
    obtain ⟨g0, g1, g2⟩ := pcs_get (mark_get (l := l) (x := x) hk)
    rw [Nat.add_mul] at g0 g1 g2
    exact ⟨by rw [h.cell, List.getElem?_toArray]; exact g0, by rw [h.cell, List.getElem?_toArray]; exact g1, by rw [h.cell, List.getElem?_toArray]; exact g2⟩
  have HC := Lib.hid hc
  have hlt := h.lt
  clear hc h
  have z1 : ((l.length + 3 : Nat) : Int) = (l.length : Int) + 3 := by omega
  have z2 : l.length + 3 - l.length = 3 := by omega
  obtain ⟨gx, hgx⟩ : ∃ gx, gx = w.heap.size := ⟨_, rfl⟩
  have GX := Lib.hid hgx
  clear hgx
  go_enter Try.func24, Try.ntmps24
  go_wp2
  rw [← GX.out]
  go_loopw [14] (fun i wr => ∃ k : Nat, k ≤ 3 ∧ i = .int .i64 k ∧ Blk wr gx 32 #[.int .i64 x.at_, .int .i64 x.size, .int .i64 x.flow] ∧ Below w.heap.size w wr) (fun i _ => 3 - (intOf i).toNat)
  case atStart => exact ⟨0, by omega, rfl, by rw [GX.out]; exact Blk.new _ _ _, (Below.refl _ _).alloc (Nat.le_refl _) _⟩
  case round =>
    obtain ⟨k, hk, rfl, Bx, hb⟩ := hrel
    by_cases hk3 : k < 3
    · have i1 : (k : Int) < 3 := by omega
      obtain ⟨c0, c1, c2⟩ := HC.out k hk3
      have c0' := (hb.cell (p := ⟨g, l.length * 3 + k * 3, none⟩) hlt).trans c0
      have c1' := (hb.cell (p := ⟨g, l.length * 3 + k * 3 + 1, none⟩) hlt).trans c1
      have c2' := (hb.cell (p := ⟨g, l.length * 3 + k * 3 + 2, none⟩) hlt).trans c2
      obtain ⟨t0, t1, t2⟩ := three_read Bx
      have lx := Bx.lt
      clear c0 c1 c2
      go_wp2
      go_roundw
      case rel => exact ⟨k + 1, by omega, by go_num, Bx.alloc _, hb.alloc hb.size _⟩
      case measure => simp [intOf]; omega
    · have i1 : ¬ (k : Int) < 3 := by omega
      go_wp2
      go_ret
      exact ⟨rfl, hb⟩

set_option maxHeartbeats 1600000 in
theorem spoilp_any (g n c : Nat) (x : Pk) (cs : Array Value) (w : World) (h : Blk w g 32 cs) (hc : cs.size = c * 3) (hn : n ≤ c) (hm : c * 3 ≤ 9223372036854775807) :
    Calls Try.prog 29 #[.slice (some ⟨g, 0, none⟩) n c, .agg #[.int .i64 x.at_, .int .i64 x.size, .int .i64 x.flow]] w fun e w' => e = .returned (.tuple #[]) ∧ w.grownBy w' (some g) := by
  have hlt := h.lt
  obtain ⟨gx, hgx⟩ : ∃ gx, gx = w.heap.size := ⟨_, rfl⟩
  have ne1 : ¬ gx = g := by omega
  have ne2 : ¬ g = gx := by omega
  have GX := Lib.hid hgx
  clear hgx
  go_enter Try.func29, Try.ntmps29
  go_wp2
  rw [← GX.out]
  go_loopw [11] (fun i wr => ∃ k : Nat, k ≤ c ∧ i = .int .i64 k ∧ (∃ cs, Blk wr g 32 cs ∧ cs.size = c * 3) ∧ Blk wr gx 32 #[.int .i64 x.at_, .int .i64 x.size, .int .i64 x.flow] ∧ w.grownBy wr (some g)) (fun i _ => c - (intOf i).toNat)
  case atStart => exact ⟨0, Nat.zero_le _, rfl, ⟨cs, h.alloc _, hc⟩, by rw [GX.out]; exact Blk.new _ _ _, grown_below (grown_refl _ _) ((Below.refl _ _).alloc (Nat.le_refl _) _)⟩
  case round =>
    clear h hc
    obtain ⟨k, hk, rfl, ⟨cs, B0, hc⟩, B2, hgr⟩ := hrel
    by_cases hkc : k < c
    · have i1 : (k : Int) < (c : Int) := by omega
      obtain ⟨t0, t1, t2⟩ := three_read B2
      obtain ⟨u0, v0⟩ : ∃ u, wr.cell? ⟨g, k * 3, none⟩ = some u := ⟨_, (B0.cell _).trans (Array.getElem?_eq_getElem (by omega))⟩
      obtain ⟨u1, v1⟩ : ∃ u, wr.cell? ⟨g, k * 3 + 1, none⟩ = some u := ⟨_, (B0.cell _).trans (Array.getElem?_eq_getElem (by omega))⟩
      obtain ⟨u2, v2⟩ : ∃ u, wr.cell? ⟨g, k * 3 + 2, none⟩ = some u := ⟨_, (B0.cell _).trans (Array.getElem?_eq_getElem (by omega))⟩
      have f0 := B0.frozen (k * 3)
      have f1 := B0.frozen (k * 3 + 1)
      have f2 := B0.frozen (k * 3 + 2)
      have s0 : ∀ a, (wr.setCell ⟨g, k * 3, none⟩ a).cell? ⟨g, k * 3, none⟩ = some a := fun a => by rw [(B0.set_ _ a).cell, Array.getElem?_setIfInBounds_self_of_lt (by omega)]
      have s1 : ∀ a b, ((wr.setCell ⟨g, k * 3, none⟩ a).setCell ⟨g, k * 3 + 1, none⟩ b).cell? ⟨g, k * 3 + 1, none⟩ = some b := fun a b => by rw [((B0.set_ _ a).set_ _ b).cell, Array.getElem?_setIfInBounds_self_of_lt (by simp; omega)]
      have M := Lib.hid (((B0.set_ (k * 3) (.int .i64 x.at_)).set_ (k * 3 + 1) (.int .i64 x.size)).set_ (k * 3 + 2) (.int .i64 x.flow))
      have M2 := Lib.hid (((B2.past (a := ⟨g, k * 3, none⟩) ne1 (.int .i64 x.at_)).past (a := ⟨g, k * 3 + 1, none⟩) ne1 (.int .i64 x.size)).past (a := ⟨g, k * 3 + 2, none⟩) ne1 (.int .i64 x.flow))
      have M3 := Lib.hid (grown_set (grown_set (grown_set hgr (k * 3) (.int .i64 x.at_)) (k * 3 + 1) (.int .i64 x.size)) (k * 3 + 2) (.int .i64 x.flow))
      have HM : Hid ((((cs.setIfInBounds (k * 3) (.int .i64 x.at_)).setIfInBounds (k * 3 + 1) (.int .i64 x.size)).setIfInBounds (k * 3 + 2) (.int .i64 x.flow)).size = c * 3) := Lib.hid (by simpa using hc)
      clear hc
      go_wp2
      go_roundw
      case rel => exact ⟨k + 1, by omega, by go_num, ⟨_, M.out, HM.out⟩, M2.out, M3.out⟩
      case measure => simp [intOf]; omega
    · go_wp2
      exact ⟨rfl, .tuple #[], by simp [results, Try.results29, go_sem], rfl, hgr⟩

set_option maxHeartbeats 800000 in
theorem packSame (A B : Option Addr) (l : List Pk) (n m c d : Nat) (w : World) (h : Pks w A l) (h' : Pks w B l) (hn : n = l.length) (hm : m = l.length) :
    Calls Try.prog 23 #[.slice A n c, .slice B m d] w fun e w' => e = .returned (.bool true) ∧ ∃ n, w' = w.drewN n := by
  subst hn hm
  have hl := h.1
  go_enter Try.func23, Try.ntmps23
  go_wp2
  go_loopw [13] (fun i wr => ∃ k nd : Nat, k ≤ l.length ∧ i = .int .i64 k ∧ wr = w.drewN nd) (fun i _ => l.length - (intOf i).toNat)
  case atStart => exact ⟨0, 0, Nat.zero_le _, rfl, rfl⟩
  case round =>
    obtain ⟨k, nd, hk, rfl, rfl⟩ := hrel
    by_cases hlt : k < l.length
    · obtain ⟨b1, o1, s, hA, _, c0, c1, c2, HS⟩ := h.get hlt
      obtain ⟨b2, o2, s', hB, _, d0, d1, d2, HS'⟩ := h'.get hlt
      subst hA hB
      obtain rfl : s' = s := Option.some.inj (HS'.out.symm.trans HS.out)
      have i1 : (k : Int) < (l.length : Int) := by omega
      go_wp2
      go_quiet (fail)
      go_wp2
      go_roundw
      case rel => exact ⟨k + 1, nd + nq, by omega, by go_num, by simp [World.drewN, Nat.add_assoc]⟩
      case measure => simp [intOf]; omega
    · go_wp2
      go_ret
      exact ⟨rfl, nd, rfl⟩

end Go.Proofs.Ytamkadffencpgaa
