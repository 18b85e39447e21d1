
/-
  Walks of package lease: outside, Check, Live; the document's own look at leases.
-/
import Derived.Test.YtnpdcllfdoobeaaLeaA
import Derived.Test.YtnpdcllfdoobeaaBucketA
import Derived.OwnWalk
import Derived.Laws.OwnMore
namespace Go.Proofs.Ytnpdcllfdoobeaa
set_option linter.all false
open Go.RowKit Go.Shelf Go.Lib

theorem own_belL {w w' : World} {base n size : Nat} {e : TypeId} {v : Value} {xs : List Value} (h : w.ownsRow base e size v n xs) (hb : Below w.heap.size w w') : w'.ownsRow base e size v n xs :=
  h.kept (row := none) ⟨hb.os, hb.tape, hb.output, hb.size, fun k hk _ => hb.block k hk⟩ (by cases v.ownBlock <;> simp)
theorem row_formL {w : World} {base n size : Nat} {e : TypeId} {v : Value} {xs : List Value} (h : w.ownsRow base e size v n xs) : ∃ A c, v = .slice A n c := by
  rcases h.2 with ⟨rfl, h0⟩ | ⟨g, cap, cur, rfl, _⟩
  · exact ⟨none, 0, by rw [h0]⟩
  · exact ⟨_, _, rfl⟩
theorem new_threeL (w : World) (x y z : Value) (t : TypeId) : ∀ (j : Nat) (v : Value), [x, y, z][j]? = some v → (w.alloc (.cells #[x, y, z] t)).cell? ((⟨w.heap.size, 0, none⟩ : Addr).add j) = some v := by
  intro j v hj
  have b := Blk.new w t #[x, y, z]
  match j, hj with
  | 0, hj => simp at hj; subst hj; simpa [Addr.add] using b.cell 0
  | 1, hj => simp at hj; subst hj; simpa [Addr.add] using b.cell 1
  | 2, hj => simp at hj; subst hj; simpa [Addr.add] using b.cell 2
theorem three_oneL (x y z : Int) : ∀ u ∈ [Value.int .i64 x, .int .i64 y, .int .i64 z], u.oneCell' = true := by
  intro u hu
  simp at hu
  rcases hu with rfl | rfl | rfl <;> rfl
theorem yesL {x lo hi : Int} (h : x < lo ∨ hi < x) : Hid (decide (x < lo ∨ hi < x) = true) := Lib.hid (decide_eq_true h)
theorem noL {x lo hi : Int} (h : ¬ (x < lo ∨ hi < x)) : Hid (decide (x < lo ∨ hi < x) = false) := Lib.hid (decide_eq_false h)
theorem yesW {x lo hi : Int} (h : x < lo ∨ hi < x) : Hid (decide (x < lo ∨ hi < x) = !false) := Lib.hid (decide_eq_true h)
theorem noW {x lo hi : Int} (h : ¬ (x < lo ∨ hi < x)) : Hid (decide (x < lo ∨ hi < x) = !true) := Lib.hid (decide_eq_false h)

set_option maxHeartbeats 800000 in
theorem lout_any (x : Lz) (s : Bool) (w : World) (hs : Hid (lzBad x = s)) : Calls Try.prog 53 #[.agg #[.int .i64 x.who, .int .i64 x.till, .int .i64 x.pin]] w fun e w' => e = .returned (.bool s) ∧ Below w.heap.size w w' := by
  obtain ⟨p, m, d⟩ := x
  by_cases h1 : p < 0 ∨ 7 < p
  · have q1 := yesL h1
    have HS : Hid (s = true) := Lib.hid (by rw [← hs.out]; exact decide_eq_true (by simp only; omega))
    clear hs h1
    go_enter Try.func53, Try.ntmps53
    go_wp2_with fail
    refine (lim_any p 0 7 true _ q1).mono ?_
    rintro e w' ⟨rfl, rfl⟩
    go_wp2
    go_ret
    exact ⟨ret_bool HS.out.symm, (Below.refl _ w).alloc (Nat.le_refl _) _⟩
  · have q1 := noL h1
    by_cases h2 : m < 0 ∨ 1000000 < m
    · have q2 := yesL h2
      have HS : Hid (s = true) := Lib.hid (by rw [← hs.out]; exact decide_eq_true (by simp only; omega))
      clear hs h1 h2
      go_enter Try.func53, Try.ntmps53
      go_wp2_with fail
      refine (lim_any p 0 7 false _ q1).mono ?_
      rintro e w' ⟨rfl, rfl⟩
      go_wp2_with fail
      refine (lim_any m 0 1000000 true _ q2).mono ?_
      rintro e w' ⟨rfl, rfl⟩
      go_wp2
      go_ret
      exact ⟨ret_bool HS.out.symm, (Below.refl _ w).alloc (Nat.le_refl _) _⟩
    · have q2 := noL h2
      have q3 : Hid (decide (d < 0 ∨ 1000000 < d) = s) := Lib.hid (by
        rw [← hs.out]; unfold lzBad; simp only
        by_cases c : d < 0 ∨ 1000000 < d
        · rw [decide_eq_true c, decide_eq_true (by omega)]
        · rw [decide_eq_false c, decide_eq_false (by omega)])
      clear hs h1 h2
      go_enter Try.func53, Try.ntmps53
      go_wp2_with fail
      refine (lim_any p 0 7 false _ q1).mono ?_
      rintro e w' ⟨rfl, rfl⟩
      go_wp2_with fail
      refine (lim_any m 0 1000000 false _ q2).mono ?_
      rintro e w' ⟨rfl, rfl⟩
      go_wp2_with fail
      refine (lim_any d 0 1000000 s _ q3).mono ?_
      rintro e w' ⟨rfl, rfl⟩
      go_wp2
      go_ret
      exact ⟨rfl, (Below.refl _ w).alloc (Nat.le_refl _) _⟩
def lzC (x : Lz) : Int := if lzBad x = true then 1 else 0
set_option maxHeartbeats 800000 in
theorem refLease_any (x : Lz) (w : World) : Calls Try.prog 21 #[.agg #[.int .i64 x.who, .int .i64 x.till, .int .i64 x.pin]] w fun e w' => e = .returned (.int .i64 (lzC x)) ∧ Below w.heap.size w w' := by
  obtain ⟨p, m, d⟩ := x
  by_cases h1 : p < 0 ∨ 7 < p
  · have q1 := yesW h1
    have HS : Hid (lzC ⟨p, m, d⟩ = 1) := Lib.hid (if_pos (decide_eq_true (by simp only; omega)))
    clear h1
    go_enter Try.func21, Try.ntmps21
    go_wp2_with fail
    refine (wit_any p 0 7 false _ q1).mono ?_
    rintro e w' ⟨rfl, rfl⟩
    go_wp2
    go_ret
    exact ⟨ret_int HS.out.symm, (Below.refl _ w).alloc (Nat.le_refl _) _⟩
  · have q1 := noW h1
    by_cases h2 : m < 0 ∨ 1000000 < m
    · have q2 := yesW h2
      have HS : Hid (lzC ⟨p, m, d⟩ = 1) := Lib.hid (if_pos (decide_eq_true (by simp only; omega)))
      clear h1 h2
      go_enter Try.func21, Try.ntmps21
      go_wp2_with fail
      refine (wit_any p 0 7 true _ q1).mono ?_
      rintro e w' ⟨rfl, rfl⟩
      go_wp2_with fail
      refine (wit_any m 0 1000000 false _ q2).mono ?_
      rintro e w' ⟨rfl, rfl⟩
      go_wp2
      go_ret
      exact ⟨ret_int HS.out.symm, (Below.refl _ w).alloc (Nat.le_refl _) _⟩
    · have q2 := noW h2
      by_cases h3 : d < 0 ∨ 1000000 < d
      · have q3 := yesW h3
        have HS : Hid (lzC ⟨p, m, d⟩ = 1) := Lib.hid (if_pos (decide_eq_true (by simp only; omega)))
        clear h1 h2 h3
        go_enter Try.func21, Try.ntmps21
        go_wp2_with fail
        refine (wit_any p 0 7 true _ q1).mono ?_
        rintro e w' ⟨rfl, rfl⟩
        go_wp2_with fail
        refine (wit_any m 0 1000000 true _ q2).mono ?_
        rintro e w' ⟨rfl, rfl⟩
        go_wp2_with fail
        refine (wit_any d 0 1000000 false _ q3).mono ?_
        rintro e w' ⟨rfl, rfl⟩
        go_wp2
        go_ret
        exact ⟨ret_int HS.out.symm, (Below.refl _ w).alloc (Nat.le_refl _) _⟩
      · have q3 := noW h3
        have HS : Hid (lzC ⟨p, m, d⟩ = 0) := Lib.hid (if_neg (by rw [lzBad, decide_eq_false (by simp only; omega)]; decide))
        clear h1 h2 h3
        go_enter Try.func21, Try.ntmps21
        go_wp2_with fail
        refine (wit_any p 0 7 true _ q1).mono ?_
        rintro e w' ⟨rfl, rfl⟩
        go_wp2_with fail
        refine (wit_any m 0 1000000 true _ q2).mono ?_
        rintro e w' ⟨rfl, rfl⟩
        go_wp2_with fail
        refine (wit_any d 0 1000000 true _ q3).mono ?_
        rintro e w' ⟨rfl, rfl⟩
        go_wp2
        go_ret
        exact ⟨ret_int HS.out.symm, (Below.refl _ w).alloc (Nat.le_refl _) _⟩

theorem lzF_drop {l : List Lz} {k : Nat} {x : Lz} (b : Int) (h : l[k]? = some x) : lzF b (l.drop k) = if lzBad x = true then 1 else if x.who ≤ b then 3 else lzF x.who (l.drop (k + 1)) := by
  have hk := (List.getElem?_eq_some_iff.1 h).1
  rw [List.drop_eq_getElem_cons hk, lzF]
  have : l[k] = x := by rw [List.getElem?_eq_getElem hk] at h; exact Option.some.inj h
  rw [this]
set_option maxHeartbeats 1600000 in
theorem lcheck_any (A : Option Addr) (l : List Lz) (n c : Nat) (w : World) (h : Les w A l) (hn : n = l.length) :
    Calls Try.prog 20 #[.slice A n c] w fun e w' => e = .returned (.int .i64 (lzE l)) ∧ Below w.heap.size w w' := by
  subst hn
  have hl := h.le
  go_enter Try.func20, Try.ntmps20
  go_wp2
  go_loopw [3, 8] (fun p i wr => ∃ (k : Nat) (b : Int), k ≤ l.length ∧ i = .int .i64 k ∧ p = .int .i64 b ∧ Hid (lzE l = lzF b (l.drop k)) ∧ Below w.heap.size w wr) (fun _ i _ => l.length - (intOf i).toNat)
  case atStart => exact ⟨0, -1, Nat.zero_le _, rfl, rfl, Lib.hid rfl, Below.refl _ _⟩
  obtain ⟨k, b, hk, rfl, rfl, HG, hbel⟩ := hrel
  by_cases hlt : k < l.length
  rotate_left
  · have HQ : Hid (lzE l = 0) := Lib.hid (by rw [HG.out, List.drop_of_length_le (by omega)]; rfl)
    go_wp2
    go_ret
    exact ⟨ret_int HQ.out.symm, hbel⟩
  obtain ⟨bb, off, x, rfl, hbl, c0, c1, c2, HJ⟩ := (h.below hbel).get hlt
  have i2 : (k : Int) < (l.length : Int) := by omega
  have HS : Hid (lzE l = if lzBad x = true then 1 else if x.who ≤ b then 3 else lzF x.who (l.drop (k + 1))) := Lib.hid (by rw [HG.out, lzF_drop b HJ.out])
  clear HG HJ
  obtain ⟨W, hW⟩ : ∃ W, W = wr.alloc (.cells #[.int .i64 x.who, .int .i64 x.till, .int .i64 x.pin] 35) := ⟨_, rfl⟩
  have bW : Below wr.heap.size wr W := by rw [hW]; exact (Below.refl _ _).alloc (Nat.le_refl _) _
  have BW : Blk W wr.heap.size 35 #[.int .i64 x.who, .int .i64 x.till, .int .i64 x.pin] := by rw [hW]; exact Blk.new _ _ _
  have HW := Lib.hid hW
  have HWs : Hid (W.heap.size = wr.heap.size + 1) := Lib.hid (by rw [hW]; simp)
  have sW := BW.lt
  obtain ⟨t0, t1, t2⟩ := three_read BW
  clear hW
  go_wp2_with fail
  rw [← HW.out]
  obtain ⟨s, hs⟩ : ∃ s, lzBad x = s := ⟨_, rfl⟩
  refine (lout_any x s _ (Lib.hid hs)).mono ?_
  rintro e w1 ⟨rfl, b1⟩
  have B1 := BW.below b1
  have hb1 := below_trans hbel (below_trans bW b1)
  clear t0 t1 t2 BW
  obtain ⟨t0, t1, t2⟩ := three_read B1
  cases s with
  | true =>
    have HQ : Hid (lzE l = 1) := Lib.hid (by rw [HS.out, if_pos hs])
    clear hs HS
    go_wp2
    go_ret
    exact ⟨ret_int HQ.out.symm, hb1⟩
  | false =>
    by_cases hb : x.who ≤ b
    · have HQ : Hid (lzE l = 3) := Lib.hid (by rw [HS.out, hs, if_neg (by decide), if_pos hb])
      clear hs HS
      go_wp2
      go_ret
      exact ⟨ret_int HQ.out.symm, hb1⟩
    · have HQ : Hid (lzE l = lzF x.who (l.drop (k + 1))) := Lib.hid (by rw [HS.out, hs, if_neg (by decide), if_neg hb])
      clear hs HS
      go_wp2
      go_roundw
      case rel => exact ⟨k + 1, x.who, by omega, by go_num, rfl, HQ, hb1⟩
      case measure => simp [intOf]; omega
set_option maxHeartbeats 1600000 in
theorem refLeases_any (A : Option Addr) (l : List Lz) (n c : Nat) (w : World) (h : Les w A l) (hn : n = l.length) :
    Calls Try.prog 19 #[.slice A n c] w fun e w' => e = .returned (.int .i64 (lzE l)) ∧ Below w.heap.size w w' := by
  subst hn
  have hl := h.le
  go_enter Try.func19, Try.ntmps19
  go_wp2
  go_loopw [3, 9] (fun p i wr => ∃ (k : Nat) (b : Int), k ≤ l.length ∧ i = .int .i64 k ∧ p = .int .i64 b ∧ Hid (lzE l = lzF b (l.drop k)) ∧ Below w.heap.size w wr) (fun _ i _ => l.length - (intOf i).toNat)
  case atStart => exact ⟨0, -1, Nat.zero_le _, rfl, rfl, Lib.hid rfl, Below.refl _ _⟩
  obtain ⟨k, b, hk, rfl, rfl, HG, hbel⟩ := hrel
  by_cases hlt : k < l.length
  rotate_left
  · have HQ : Hid (lzE l = 0) := Lib.hid (by rw [HG.out, List.drop_of_length_le (by omega)]; rfl)
    go_wp2
    go_ret
    exact ⟨ret_int HQ.out.symm, hbel⟩
  obtain ⟨bb, off, x, rfl, hbl, c0, c1, c2, HJ⟩ := (h.below hbel).get hlt
  have i2 : (k : Int) < (l.length : Int) := by omega
  have HS : Hid (lzE l = if lzBad x = true then 1 else if x.who ≤ b then 3 else lzF x.who (l.drop (k + 1))) := Lib.hid (by rw [HG.out, lzF_drop b HJ.out])
  clear HG HJ
  obtain ⟨W, hW⟩ : ∃ W, W = wr.alloc (.cells #[.int .i64 x.who, .int .i64 x.till, .int .i64 x.pin] 35) := ⟨_, rfl⟩
  have bW : Below wr.heap.size wr W := by rw [hW]; exact (Below.refl _ _).alloc (Nat.le_refl _) _
  have BW : Blk W wr.heap.size 35 #[.int .i64 x.who, .int .i64 x.till, .int .i64 x.pin] := by rw [hW]; exact Blk.new _ _ _
  have HW := Lib.hid hW
  have HWs : Hid (W.heap.size = wr.heap.size + 1) := Lib.hid (by rw [hW]; simp)
  have sW := BW.lt
  obtain ⟨t0, t1, t2⟩ := three_read BW
  clear hW
  go_wp2_with fail
  rw [← HW.out]
  refine (refLease_any x _).mono ?_
  rintro e w1 ⟨rfl, b1⟩
  have B1 := BW.below b1
  have hb1 := below_trans hbel (below_trans bW b1)
  clear t0 t1 t2 BW
  obtain ⟨t0, t1, t2⟩ := three_read B1
  by_cases hs : lzBad x = true
  · have HQ : Hid (lzE l = 1) := Lib.hid (by rw [HS.out, if_pos hs])
    have HC : Hid (lzC x = 1) := Lib.hid (if_pos hs)
    clear hs HS
    rw [HC.out]
    go_wp2
    go_ret
    exact ⟨ret_int HQ.out.symm, hb1⟩
  · have HC : Hid (lzC x = 0) := Lib.hid (if_neg hs)
    rw [HC.out]
    by_cases hb : x.who ≤ b
    · have HQ : Hid (lzE l = 3) := Lib.hid (by rw [HS.out, if_neg hs, if_pos hb])
      clear hs HS
      go_wp2
      go_ret
      exact ⟨ret_int HQ.out.symm, hb1⟩
    · have HQ : Hid (lzE l = lzF x.who (l.drop (k + 1))) := Lib.hid (by rw [HS.out, if_neg hs, if_neg hb])
      clear hs HS
      go_wp2
      go_roundw
      case rel => exact ⟨k + 1, x.who, by omega, by go_num, rfl, HQ, hb1⟩
      case measure => simp [intOf]; omega

/-- A list of leases in new memory, and an error. -/
def AnsZ (L : List Lz) (E : Int) (w : World) (e : Ending) (w' : World) : Prop :=
  ∃ A c, e = .returned (.tuple #[.slice A L.length c, .int .i64 E]) ∧ w'.ownsRow w.heap.size 35 3 (.slice A L.length c) L.length (lcs L) ∧ Below w.heap.size w w'
theorem live_snoc (now : Int) {l : List Lz} {k : Nat} {x : Lz} (h : l[k]? = some x) : liveL now (l.take (k + 1)) = liveL now (l.take k) ++ if now < x.till then [x] else [] := by
  have hk := (List.getElem?_eq_some_iff.1 h).1
  rw [List.take_succ_eq_append_getElem hk]
  have : l[k] = x := by rw [List.getElem?_eq_getElem hk] at h; exact Option.some.inj h
  rw [this]
  unfold liveL
  rw [List.filter_append]
  congr 1
  by_cases c : now < x.till <;> simp [c]
set_option maxHeartbeats 800000 in
theorem live_no (A : Option Addr) (l : List Lz) (n c : Nat) (now : Int) (w : World) (h : Les w A l) (hn : n = l.length) (hE : ¬ lzE l = 0) :
    Calls Try.prog 28 #[.slice A n c, .int .i64 now] w fun e w' => e = .returned (.tuple #[.slice none 0 0, .int .i64 (lzE l)]) ∧ Below w.heap.size w w' := by
  subst hn
  have e1 : (lzE l != 0) = true := by simp [hE]
  go_enter Try.func28, Try.ntmps28
  go_wp2_with fail
  refine (lcheck_any A l _ c w h rfl).mono ?_
  rintro e w1 ⟨rfl, b1⟩
  clear hE
  go_wp2
  go_ret2
  exact ⟨rfl, b1⟩
set_option maxRecDepth 100000 in
set_option maxHeartbeats 1600000 in
theorem live_yes (A : Option Addr) (l : List Lz) (n c : Nat) (now : Int) (w : World) (h : Les w A l) (hn : n = l.length) (hE : Hid (lzE l = 0)) :
    Calls Try.prog 28 #[.slice A n c, .int .i64 now] w (AnsZ (liveL now l) 0 w) := by
  subst hn
  have hl := (lzE_iff.mp hE.out).len
  obtain ⟨i0, hi0, hz0, hz1, hz2⟩ := info_parts le_info
  obtain ⟨B0, hB0⟩ : ∃ B0, B0 = w.heap.size := ⟨_, rfl⟩
  have HB0 := Lib.hid hB0
  clear hB0
  go_enter Try.func28, Try.ntmps28
  go_wp2_with fail
  refine (lcheck_any A l _ c w h rfl).mono ?_
  rintro e w1 ⟨rfl, b1⟩
  rw [hE.out]
  go_wp2
  go_loopw [7, 17] (fun u i wr => ∃ k : Nat, k ≤ l.length ∧ i = .int .i64 k ∧ wr.ownsRow B0 35 3 u (liveL now (l.take k)).length (lcs (liveL now (l.take k))) ∧ Below w.heap.size w wr) (fun _ i _ => l.length - (intOf i).toNat)
  case atStart => exact ⟨0, Nat.zero_le _, rfl, World.ownsRow_nil _ _ _ _, b1⟩
  case round =>
    obtain ⟨k, hk, rfl, own, hbel⟩ := hrel
    have szB : B0 ≤ wr.heap.size := by rw [HB0.out]; exact hbel.size
    by_cases hlt : k < l.length
    · obtain ⟨bb, off, x, rfl, hbl, c0, c1, c2, HJ⟩ := (h.below hbel).get hlt
      have i2 : (k : Int) < (l.length : Int) := by omega
      have HS := Lib.hid (live_snoc now HJ.out)
      have hlen : (liveL now (l.take k)).length ≤ 8 := Nat.le_trans (live_len _ _) (by rw [List.length_take]; omega)
      obtain ⟨K, hK⟩ : ∃ K, K = liveL now (l.take k) := ⟨_, rfl⟩
      rw [← hK] at own HS hlen
      obtain ⟨m, hm⟩ : ∃ m, m = K.length := ⟨_, rfl⟩
      rw [← hm] at own hlen
      have HM := Lib.hid hm
      clear hK HJ hm
      obtain ⟨W, hW⟩ : ∃ W, W = wr.alloc (.cells #[.int .i64 x.who, .int .i64 x.till, .int .i64 x.pin] 35) := ⟨_, rfl⟩
      have bW : Below wr.heap.size wr W := by rw [hW]; exact (Below.refl _ _).alloc (Nat.le_refl _) _
      have BW : Blk W wr.heap.size 35 #[.int .i64 x.who, .int .i64 x.till, .int .i64 x.pin] := by rw [hW]; exact Blk.new _ _ _
      have HW := Lib.hid hW
      have HWs : Hid (W.heap.size = wr.heap.size + 1) := Lib.hid (by rw [hW]; simp)
      have sW := BW.lt
      obtain ⟨t0, t1, t2⟩ := three_read BW
      clear hW
      have ownW := own_belL own bW
      have hbW := below_trans hbel bW
      by_cases ht : now < x.till
      · go_wp2_with (at_builtin; rw [← HW.out]; refine wpList_append_own _ rfl _ _ 33 rfl B0 35 i0 (.agg #[.int .i64 0, .int .i64 0, .int .i64 0]) 3 24 Try.underlying33 hi0 hz0 hz1 hz2 rfl (by decide) _ _ _ rfl (World.ownsRow.alloc ownW _) ⟨wr.heap.size + 1, 0, none⟩ 1 1 [.int .i64 x.who, .int .i64 x.till, .int .i64 x.pin] rfl rfl ?c1 ?c2 ?c3 ?c4 ?c5 ?_)
        case c1 => rw [← HWs.out]; exact new_threeL _ _ _ _ _
        case c2 => exact three_oneL _ _ _
        case c3 => unfold maxLen; omega
        case c4 => omega
        case c5 => have := bW.size; simp; omega
        intro v' w6 hown' hgrow _
        have hb6 : Below w.heap.size w w6 := (hbW.alloc hbW.size _).grown hgrow (by have := hbW.size; simp; omega) (fun k hk => by have := (ownW.lt k hk).1; have := HB0.out; omega)
        have o6 : w6.ownsRow B0 35 3 v' (liveL now (l.take (k + 1))).length (lcs (liveL now (l.take (k + 1)))) := by
          rw [HS.out, if_pos ht, lcs_append, List.length_append, ← HM.out]
          exact hown'
        clear hown' hgrow ownW hbW own hbel HS BW bW t0 t1 t2 c0 c1 c2
        go_wp2
        go_roundw
        case rel => exact ⟨k + 1, by omega, by go_num, o6, hb6⟩
        case measure => simp [intOf]; omega
      · have o6 : W.ownsRow B0 35 3 u7 (liveL now (l.take (k + 1))).length (lcs (liveL now (l.take (k + 1)))) := by
          rw [HS.out, if_neg ht, List.append_nil, ← HM.out]
          exact ownW
        have O6 := Lib.hid o6
        have HB6 := Lib.hid hbW
        clear ownW hbW own hbel HS BW bW o6
        go_wp2
        rw [← HW.out]
        go_roundw
        case rel => exact ⟨k + 1, by omega, by go_num, O6.out, HB6.out⟩
        case measure => simp [intOf]; omega
    · have i2 : ¬ (k : Int) < (l.length : Int) := by omega
      rw [List.take_of_length_le (by omega)] at own
      obtain ⟨A', c', rfl⟩ := row_formL own
      rw [HB0.out] at own
      go_wp2
      go_ret2
      exact ⟨A', c', rfl, own, hbel⟩

end Go.Proofs.Ytnpdcllfdoobeaa
