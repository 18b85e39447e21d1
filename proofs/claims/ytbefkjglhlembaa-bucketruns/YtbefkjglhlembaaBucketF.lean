
/-
  The walk of the document's Taken: a bucket, time by time.
-/
import Derived.Test.YtbefkjglhlembaaBucketE
namespace Go.Proofs.Ytbefkjglhlembaa
set_option linter.all false
open Go.RowKit Go.Shelf

theorem Bls.of_own {w : World} {base : Nat} {e : TypeId} {A : Option Addr} {c : Nat} {l : List Bool} (h : w.ownsRow base e 1 (.slice A l.length c) l.length (l.map Value.bool)) : Bls w A l := by
  rcases h.2 with ⟨hv, h0⟩ | ⟨g, cap, cur, hv, _, hh, hn, hm, hs, ht⟩
  · rw [List.eq_nil_of_length_eq_zero h0]
    exact Bls.nil_ _ _
  · refine ⟨by unfold maxLen at hm; omega, fun hl => ?_⟩
    have hA : A = some ⟨g, 0, none⟩ := by injection hv
    subst hA
    refine ⟨g, 0, rfl, fun j hj => ?_⟩
    have hc := h.cells (g := g) rfl j (.bool (l.getD j false)) (by simp [List.getD, List.getElem?_eq_getElem hj])
    by_cases h0 : j = 0
    · subst h0; simpa [Addr.add] using hc
    · simpa [Addr.add, h0] using hc
theorem form_own {w : World} {base n : Nat} {e : TypeId} {v : Value} {xs : List Value} (h : w.ownsRow base e 1 v n xs) : ∃ A c, v = .slice A n c := by
  rcases h.2 with ⟨rfl, h0⟩ | ⟨g, cap, cur, rfl, _⟩
  · exact ⟨none, 0, by rw [h0]⟩
  · exact ⟨_, _, rfl⟩
theorem one_bool (x : Bool) : ∀ u ∈ [Value.bool x], u.oneCell' = true := by
  intro u hu
  simp at hu
  subst hu
  rfl
theorem new_bool (w : World) (u : Value) (t : TypeId) : ∀ (j : Nat) (v : Value), [u][j]? = some v → (w.alloc (.cells #[u] t)).cell? ((⟨w.heap.size, 0, none⟩ : Addr).add j) = some v := by
  intro j v hj
  match j, hj with
  | 0, hj =>
    simp at hj
    subst hj
    rw [Addr.add_lit]
    exact (Blk.new w t #[u]).cell 0
/-- The first k answers. -/
def fstB (F : Nat → Bool) (k : Nat) : List Value := ((List.range k).map F).map Value.bool
theorem fstB_succ (F : Nat → Bool) (k : Nat) : fstB F (k + 1) = fstB F k ++ [.bool (F k)] := by simp [fstB, List.range_succ]
theorem Blk.grown {w w' : World} {g : Nat} {t : TypeId} {cs : Array Value} {row : Option Nat} (h : Blk w g t cs) (hg : w.grownBy w' row) (hr : ∀ k, row = some k → g + 1 ≤ k) : Blk w' g t cs := by
  have := (Below.refl (g + 1) w).grown hg (by have := h.lt; omega) hr
  exact h.same (this.block g (by omega))

set_option maxHeartbeats 3200000 in
theorem taken_any (A : Option Addr) (l : List Pk) (r b f : Int) (c : Nat) (w : World) (h : Bk r b f) (hp : Pks w A l) (q : Qu l) :
    Calls Try.prog 25 #[.agg #[.int .i64 r, .int .i64 b, .int .i64 f], .slice A l.length c] w fun e w' => ∃ A c, e = .returned (.slice A l.length c) ∧ Bls w' A (runL r b f l) ∧ Below w.heap.size w w' := by
  obtain ⟨i0, hi0, hz0, hz1, hz2⟩ := info_parts bool_info
  have hle := q.le
  have HF0 := Lib.hid (ft_zero (l := l) h)
  obtain ⟨g0, hg0⟩ : ∃ g, g = w.heap.size := ⟨_, rfl⟩
  have G0 := Lib.hid hg0
  have B0 : Blk (w.alloc (.cells #[.int .i64 r, .int .i64 b, .int .i64 f] 32)) g0 32 #[.int .i64 r, .int .i64 b, .int .i64 f] := by rw [hg0]; exact Blk.new _ _ _
  have hb := alloc_below w (.cells #[.int .i64 r, .int .i64 b, .int .i64 f] 32)
  go_enter Try.func25, Try.ntmps25
  go_wp2
  rw [← G0.out]
  have ht0 : w.heap.size ≤ g0 := by omega
  clear hg0 G0
  go_loopw [5, 6] (fun o v wr => ∃ k t : Nat, t ≤ 201 ∧ v = .int .i64 t ∧ Hid (Came l k t 0) ∧ wr.ownsRow (g0 + 1) 4 1 o k (fstB (okV r b f l) k) ∧ Blk wr g0 32 #[.int .i64 r, .int .i64 b, .int .i64 (ftV r b f l k ((t - 1 : Nat) : Int))] ∧ Below w.heap.size w wr) (fun _ v _ => 201 - (intOf v).toNat)
  case atStart => exact ⟨0, 0, by omega, rfl, Lib.hid (Came.init q), World.ownsRow_nil _ _ _ _, by rw [show (((0 - 1 : Nat)) : Int) = 0 from rfl, HF0.out]; exact B0, hb⟩
  case round =>
    clear B0 hb
    obtain ⟨k, t, ht, rfl, HC, ho, B0, hb⟩ := hrel
    by_cases hlt : t ≤ 200
    · have t1 : (t : Int) ≤ 200 := by omega
      by_cases t0 : t = 0
      · have B1 : Blk wr g0 32 #[.int .i64 r, .int .i64 b, .int .i64 (ftV r b f l k (t : Int))] := by rw [show (t : Int) = ((t - 1 : Nat) : Int) by omega]; exact B0
        have t0' : ¬ (0 : Int) < (t : Int) := by omega
        clear t0
        go_wp2
        go_loopw [5, 27] (fun o v wi => ∃ k j : Nat, j ≤ l.length ∧ v = .int .i64 j ∧ Hid (Came l k t j) ∧ wi.ownsRow (g0 + 1) 4 1 o k (fstB (okV r b f l) k) ∧ Blk wi g0 32 #[.int .i64 r, .int .i64 b, .int .i64 (ftV r b f l k t)] ∧ Below w.heap.size w wi) (fun _ v _ => l.length - (intOf v).toNat)
        case atStart => exact ⟨k, 0, by omega, rfl, HC, ho, B1, hb⟩
        case round =>
          clear HC ho B0 hb
          clear B1
          obtain ⟨k, j, hj, rfl, HC, ho, B0, hb⟩ := hrel
          by_cases hjt : j < l.length
          · obtain ⟨bb, off, p, rfl, hbl, c0, c1, c2, HP⟩ := (hp.below hb).get hjt
            have HK := Lib.hid (pk_of HP.out)
            have i1 : (j : Int) < (l.length : Int) := by omega
            obtain ⟨u0, u1, u2⟩ := three_read B0
            have ul := B0.lt
            by_cases ha : p.at_ = t
            · obtain rfl : k = j := HC.out.at_ q hjt (by rw [HK.out]; exact ha)
              have HA := Lib.hid ha
              have e1 : (p.at_ != (t : Int)) = false := by simp [ha]
              obtain ⟨x, hx⟩ : ∃ x, x = ftV r b f l k t := ⟨_, rfl⟩
              have BX : Bk r b x := by rw [hx]; exact bk_ft h q hj (HC.out.now (by omega))
              have HX : Hid (x = bef r b f l k) := Lib.hid (by rw [hx, ← ha, ← HK.out]; rfl)
              have HT : Hid (ftV r b f l (k + 1) t = fil r b f l (k + 1)) := Lib.hid (by rw [← ha, ← HK.out]; exact ft_next h q hjt)
              have HC' : Hid (Came l (k + 1) t (k + 1)) := Lib.hid (HC.out.take hjt (by rw [HK.out]; exact ha))
              rw [← hx] at u2
              have x0 := BX.f0
              have x1 := BX.f1
              have x2 := BX.b1
              have sz0 := (q.ok k hjt).s0
              have sz1 := (q.ok k hjt).s1
              rw [HK.out] at sz0 sz1
              clear hx ha
              have z2 := B0.frozen 2
              have hsz := hb.size
              by_cases hs : p.size ≤ x
              · have HO : Hid (okV r b f l k = true) := Lib.hid (by rw [okV, HK.out, ← HX.out]; exact decide_eq_true hs)
                have HF : Hid (fil r b f l (k + 1) = x - p.size) := Lib.hid (by rw [HX.out, ← HK.out]; exact fil_yes (by rw [HK.out, ← HX.out]; exact hs))
                have o2 := ownsRow_setCell_below ho (a := ⟨g0, 2, none⟩) (by simp) (.int .i64 (x - p.size))
                go_wp2_with (at_builtin; refine wpList_append_own _ rfl _ _ 38 rfl (g0 + 1) 4 i0 (.bool false) 1 1 Try.underlying38 hi0 hz0 hz1 hz2 rfl (by decide) _ _ _ rfl (World.ownsRow.alloc (World.ownsRow.alloc o2 _) _) ⟨wr.heap.size + 1, 0, none⟩ 1 1 [.bool true] rfl rfl ?y1p ?y2p ?y3p ?y4p ?y5p ?_)
                case y1p => simpa using new_bool ((wr.setCell ⟨g0, 2, none⟩ (.int .i64 (x - p.size))).alloc (.cells #[.int .i64 p.at_, .int .i64 p.size, .int .i64 p.flow] 45)) (.bool true) 4
                case y2p => first | exact one_bool _ | rfl
                case y3p => unfold maxLen; omega
                case y4p => omega
                case y5p => first | (simp; omega) | omega
                intro v' w1 hown' hgrow _
                have B2 := ((((B0.set_ 2 (.int .i64 (x - p.size))).alloc (.cells #[.int .i64 p.at_, .int .i64 p.size, .int .i64 p.flow] 45)).alloc (.cells #[.bool true] 4)).grown hgrow (fun m hm => (ho.lt m hm).1))
                have hb2 := ((((hb.setCell (p := ⟨g0, 2, none⟩) ht0 (.int .i64 (x - p.size))).alloc (by simp; omega) (.cells #[.int .i64 p.at_, .int .i64 p.size, .int .i64 p.flow] 45)).alloc (by simp; omega) (.cells #[.bool true] 4)).grown hgrow (by simp; omega) (fun m hm => by have := (ho.lt m hm).1; omega))
                have ho2 : w1.ownsRow (g0 + 1) 4 1 v' (k + 1) (fstB (okV r b f l) (k + 1)) := by rw [fstB_succ, HO.out]; exact hown'
                have B3 : Blk w1 g0 32 #[.int .i64 r, .int .i64 b, .int .i64 (ftV r b f l (k + 1) t)] := by rw [HT.out, HF.out]; simpa using B2
                clear hown' hgrow ho hb B0 B2 u0 u1 u2 c0 c1 c2
                go_wp2
                go_roundw
                case rel => exact ⟨k + 1, k + 1, by omega, by go_num, HC', ho2, B3, hb2⟩
                case measure => simp [intOf]; omega
              · have HO : Hid (okV r b f l k = false) := Lib.hid (by rw [okV, HK.out, ← HX.out]; exact decide_eq_false hs)
                have HF : Hid (fil r b f l (k + 1) = x) := Lib.hid (by rw [HX.out]; exact fil_no (by rw [HK.out, ← HX.out]; exact hs))
                go_wp2_with (at_builtin; refine wpList_append_own _ rfl _ _ 38 rfl (g0 + 1) 4 i0 (.bool false) 1 1 Try.underlying38 hi0 hz0 hz1 hz2 rfl (by decide) _ _ _ rfl (World.ownsRow.alloc (World.ownsRow.alloc ho _) _) ⟨wr.heap.size + 1, 0, none⟩ 1 1 [.bool false] rfl rfl ?n1p ?n2p ?n3p ?n4p ?n5p ?_)
                case n2p => first | exact one_bool _ | rfl
                case n3p => unfold maxLen; omega
                case n4p => omega
                case n5p => first | (simp; omega) | omega
                intro v' w1 hown' hgrow _
                have B2 := (((B0.alloc (.cells #[.int .i64 p.at_, .int .i64 p.size, .int .i64 p.flow] 45)).alloc (.cells #[.bool false] 4)).grown hgrow (fun m hm => (ho.lt m hm).1))
                have hb2 := (((hb.alloc hb.size (.cells #[.int .i64 p.at_, .int .i64 p.size, .int .i64 p.flow] 45)).alloc (by simp; omega) (.cells #[.bool false] 4)).grown hgrow (by simp; omega) (fun m hm => by have := (ho.lt m hm).1; omega))
                have ho2 : w1.ownsRow (g0 + 1) 4 1 v' (k + 1) (fstB (okV r b f l) (k + 1)) := by rw [fstB_succ, HO.out]; exact hown'
                have HX' : Hid (x = ftV r b f l k t) := Lib.hid (by rw [HX.out, ← HA.out, ← HK.out]; rfl)
                have B3 : Blk w1 g0 32 #[.int .i64 r, .int .i64 b, .int .i64 (ftV r b f l (k + 1) t)] := by rw [HT.out, HF.out, HX'.out]; exact B2
                clear hown' hgrow ho hb B0 B2 u0 u1 u2 c0 c1 c2
                go_wp2
                go_roundw
                case rel => exact ⟨k + 1, k + 1, by omega, by go_num, HC', ho2, B3, hb2⟩
                case measure => simp [intOf]; omega
            · have HC' := Lib.hid (HC.out.skip (by rw [HK.out]; exact ha))
              have e1 : (p.at_ != (t : Int)) = true := by simp [ha]
              clear ha
              go_wp2
              go_roundw
              case rel => exact ⟨k, j + 1, by omega, by go_num, HC', World.ownsRow.alloc ho _, B0.alloc _, hb.alloc hb.size _⟩
              case measure => simp [intOf]; omega
          · obtain rfl : j = l.length := by omega
            have HC' : Hid (Came l k ((t + 1 : Nat) : Int) 0) := Lib.hid (by have := HC.out.next; rw [show ((t + 1 : Nat) : Int) = (t : Int) + 1 by omega]; exact this)
            go_wp2
            go_roundw
            case rel => exact ⟨k, t + 1, by omega, by go_num, HC', ho, B0, hb⟩
            case measure => simp [intOf]; omega
      · obtain ⟨x, hx⟩ : ∃ x, x = ftV r b f l k ((t - 1 : Nat) : Int) := ⟨_, rfl⟩
        have hnw : nowV l k ≤ ((t - 1 : Nat) : Int) := by
          cases k with
          | zero => show (0 : Int) ≤ _; omega
          | succ k => have := (HC.out.2 k (by have := HC.out.1; omega)).1 (by omega); show (pk l k).at_ ≤ _; omega
        have hkl := HC.out.1
        have BX : Bk r b x := by rw [hx]; exact bk_ft h q hkl hnw
        have HS : Hid (ftV r b f l k (t : Int) = min b (x + r)) := Lib.hid (by rw [hx, ← ft_step h q hkl hnw]; congr 1; omega)
        rw [← hx] at B0
        have x0 := BX.f0
        have x1 := BX.f1
        have x2 := BX.b1
        have x3 := BX.r0
        have x4 := BX.r1
        have t0' : (0 : Int) < (t : Int) := by omega
        have td : decide (0 < t) = true := decide_eq_true (by omega)
        obtain ⟨u0, u1, u2⟩ := three_read B0
        have z2 := B0.frozen 2
        clear hx hnw hkl BX t0
        by_cases q1 : b < x + r
        · have B1 : Blk (wr.setCell ⟨g0, 2, none⟩ (.int .i64 b)) g0 32 #[.int .i64 r, .int .i64 b, .int .i64 (ftV r b f l k t)] := by rw [HS.out, show min b (x + r) = b by omega]; simpa using B0.set_ 2 (.int .i64 b)
          have ho1 := ownsRow_setCell_below ho (a := ⟨g0, 2, none⟩) (by simp) (.int .i64 b)
          have hb1 := hb.setCell (p := ⟨g0, 2, none⟩) ht0 (.int .i64 b)
          go_wp2
          go_loopw [5, 27] (fun o v wi => ∃ k j : Nat, j ≤ l.length ∧ v = .int .i64 j ∧ Hid (Came l k t j) ∧ wi.ownsRow (g0 + 1) 4 1 o k (fstB (okV r b f l) k) ∧ Blk wi g0 32 #[.int .i64 r, .int .i64 b, .int .i64 (ftV r b f l k t)] ∧ Below w.heap.size w wi) (fun _ v _ => l.length - (intOf v).toNat)
          case atStart => exact ⟨k, 0, by omega, rfl, HC, ho1, B1, hb1⟩
          case round =>
            clear HC ho B0 hb
            clear B1 ho1 hb1 u0 u1 u2 z2 x0 x1 x2 x3 x4 q1 HS
            obtain ⟨k, j, hj, rfl, HC, ho, B0, hb⟩ := hrel
            by_cases hjt : j < l.length
            · obtain ⟨bb, off, p, rfl, hbl, c0, c1, c2, HP⟩ := (hp.below hb).get hjt
              have HK := Lib.hid (pk_of HP.out)
              have i1 : (j : Int) < (l.length : Int) := by omega
              obtain ⟨u0, u1, u2⟩ := three_read B0
              have ul := B0.lt
              by_cases ha : p.at_ = t
              · obtain rfl : k = j := HC.out.at_ q hjt (by rw [HK.out]; exact ha)
                have HA := Lib.hid ha
                have e1 : (p.at_ != (t : Int)) = false := by simp [ha]
                obtain ⟨x, hx⟩ : ∃ x, x = ftV r b f l k t := ⟨_, rfl⟩
                have BX : Bk r b x := by rw [hx]; exact bk_ft h q hj (HC.out.now (by omega))
                have HX : Hid (x = bef r b f l k) := Lib.hid (by rw [hx, ← ha, ← HK.out]; rfl)
                have HT : Hid (ftV r b f l (k + 1) t = fil r b f l (k + 1)) := Lib.hid (by rw [← ha, ← HK.out]; exact ft_next h q hjt)
                have HC' : Hid (Came l (k + 1) t (k + 1)) := Lib.hid (HC.out.take hjt (by rw [HK.out]; exact ha))
                rw [← hx] at u2
                have x0 := BX.f0
                have x1 := BX.f1
                have x2 := BX.b1
                have sz0 := (q.ok k hjt).s0
                have sz1 := (q.ok k hjt).s1
                rw [HK.out] at sz0 sz1
                clear hx ha
                have z2 := B0.frozen 2
                have hsz := hb.size
                by_cases hs : p.size ≤ x
                · have HO : Hid (okV r b f l k = true) := Lib.hid (by rw [okV, HK.out, ← HX.out]; exact decide_eq_true hs)
                  have HF : Hid (fil r b f l (k + 1) = x - p.size) := Lib.hid (by rw [HX.out, ← HK.out]; exact fil_yes (by rw [HK.out, ← HX.out]; exact hs))
                  have o2 := ownsRow_setCell_below ho (a := ⟨g0, 2, none⟩) (by simp) (.int .i64 (x - p.size))
                  go_wp2_with (at_builtin; refine wpList_append_own _ rfl _ _ 38 rfl (g0 + 1) 4 i0 (.bool false) 1 1 Try.underlying38 hi0 hz0 hz1 hz2 rfl (by decide) _ _ _ rfl (World.ownsRow.alloc (World.ownsRow.alloc o2 _) _) ⟨wr.heap.size + 1, 0, none⟩ 1 1 [.bool true] rfl rfl ?y1q ?y2q ?y3q ?y4q ?y5q ?_)
                  case y1q => simpa using new_bool ((wr.setCell ⟨g0, 2, none⟩ (.int .i64 (x - p.size))).alloc (.cells #[.int .i64 p.at_, .int .i64 p.size, .int .i64 p.flow] 45)) (.bool true) 4
                  case y2q => first | exact one_bool _ | rfl
                  case y3q => unfold maxLen; omega
                  case y4q => omega
                  case y5q => first | (simp; omega) | omega
                  intro v' w1 hown' hgrow _
                  have B2 := ((((B0.set_ 2 (.int .i64 (x - p.size))).alloc (.cells #[.int .i64 p.at_, .int .i64 p.size, .int .i64 p.flow] 45)).alloc (.cells #[.bool true] 4)).grown hgrow (fun m hm => (ho.lt m hm).1))
                  have hb2 := ((((hb.setCell (p := ⟨g0, 2, none⟩) ht0 (.int .i64 (x - p.size))).alloc (by simp; omega) (.cells #[.int .i64 p.at_, .int .i64 p.size, .int .i64 p.flow] 45)).alloc (by simp; omega) (.cells #[.bool true] 4)).grown hgrow (by simp; omega) (fun m hm => by have := (ho.lt m hm).1; omega))
                  have ho2 : w1.ownsRow (g0 + 1) 4 1 v' (k + 1) (fstB (okV r b f l) (k + 1)) := by rw [fstB_succ, HO.out]; exact hown'
                  have B3 : Blk w1 g0 32 #[.int .i64 r, .int .i64 b, .int .i64 (ftV r b f l (k + 1) t)] := by rw [HT.out, HF.out]; simpa using B2
                  clear hown' hgrow ho hb B0 B2 u0 u1 u2 c0 c1 c2
                  go_wp2
                  go_roundw
                  case rel => exact ⟨k + 1, k + 1, by omega, by go_num, HC', ho2, B3, hb2⟩
                  case measure => simp [intOf]; omega
                · have HO : Hid (okV r b f l k = false) := Lib.hid (by rw [okV, HK.out, ← HX.out]; exact decide_eq_false hs)
                  have HF : Hid (fil r b f l (k + 1) = x) := Lib.hid (by rw [HX.out]; exact fil_no (by rw [HK.out, ← HX.out]; exact hs))
                  go_wp2_with (at_builtin; refine wpList_append_own _ rfl _ _ 38 rfl (g0 + 1) 4 i0 (.bool false) 1 1 Try.underlying38 hi0 hz0 hz1 hz2 rfl (by decide) _ _ _ rfl (World.ownsRow.alloc (World.ownsRow.alloc ho _) _) ⟨wr.heap.size + 1, 0, none⟩ 1 1 [.bool false] rfl rfl ?n1q ?n2q ?n3q ?n4q ?n5q ?_)
                  case n2q => first | exact one_bool _ | rfl
                  case n3q => unfold maxLen; omega
                  case n4q => omega
                  case n5q => first | (simp; omega) | omega
                  intro v' w1 hown' hgrow _
                  have B2 := (((B0.alloc (.cells #[.int .i64 p.at_, .int .i64 p.size, .int .i64 p.flow] 45)).alloc (.cells #[.bool false] 4)).grown hgrow (fun m hm => (ho.lt m hm).1))
                  have hb2 := (((hb.alloc hb.size (.cells #[.int .i64 p.at_, .int .i64 p.size, .int .i64 p.flow] 45)).alloc (by simp; omega) (.cells #[.bool false] 4)).grown hgrow (by simp; omega) (fun m hm => by have := (ho.lt m hm).1; omega))
                  have ho2 : w1.ownsRow (g0 + 1) 4 1 v' (k + 1) (fstB (okV r b f l) (k + 1)) := by rw [fstB_succ, HO.out]; exact hown'
                  have HX' : Hid (x = ftV r b f l k t) := Lib.hid (by rw [HX.out, ← HA.out, ← HK.out]; rfl)
                  have B3 : Blk w1 g0 32 #[.int .i64 r, .int .i64 b, .int .i64 (ftV r b f l (k + 1) t)] := by rw [HT.out, HF.out, HX'.out]; exact B2
                  clear hown' hgrow ho hb B0 B2 u0 u1 u2 c0 c1 c2
                  go_wp2
                  go_roundw
                  case rel => exact ⟨k + 1, k + 1, by omega, by go_num, HC', ho2, B3, hb2⟩
                  case measure => simp [intOf]; omega
              · have HC' := Lib.hid (HC.out.skip (by rw [HK.out]; exact ha))
                have e1 : (p.at_ != (t : Int)) = true := by simp [ha]
                clear ha
                go_wp2
                go_roundw
                case rel => exact ⟨k, j + 1, by omega, by go_num, HC', World.ownsRow.alloc ho _, B0.alloc _, hb.alloc hb.size _⟩
                case measure => simp [intOf]; omega
            · obtain rfl : j = l.length := by omega
              have HC' : Hid (Came l k ((t + 1 : Nat) : Int) 0) := Lib.hid (by have := HC.out.next; rw [show ((t + 1 : Nat) : Int) = (t : Int) + 1 by omega]; exact this)
              go_wp2
              go_roundw
              case rel => exact ⟨k, t + 1, by omega, by go_num, HC', ho, B0, hb⟩
              case measure => simp [intOf]; omega
        by_cases q2 : x + r < b
        · have B1 : Blk (wr.setCell ⟨g0, 2, none⟩ (.int .i64 (x + r))) g0 32 #[.int .i64 r, .int .i64 b, .int .i64 (ftV r b f l k t)] := by rw [HS.out, show min b (x + r) = x + r by omega]; simpa using B0.set_ 2 (.int .i64 (x + r))
          have ho1 := ownsRow_setCell_below ho (a := ⟨g0, 2, none⟩) (by simp) (.int .i64 (x + r))
          have hb1 := hb.setCell (p := ⟨g0, 2, none⟩) ht0 (.int .i64 (x + r))
          clear q1
          go_wp2
          go_loopw [5, 27] (fun o v wi => ∃ k j : Nat, j ≤ l.length ∧ v = .int .i64 j ∧ Hid (Came l k t j) ∧ wi.ownsRow (g0 + 1) 4 1 o k (fstB (okV r b f l) k) ∧ Blk wi g0 32 #[.int .i64 r, .int .i64 b, .int .i64 (ftV r b f l k t)] ∧ Below w.heap.size w wi) (fun _ v _ => l.length - (intOf v).toNat)
          case atStart => exact ⟨k, 0, by omega, rfl, HC, ho1, B1, hb1⟩
          case round =>
            clear HC ho B0 hb
            clear B1 ho1 hb1 u0 u1 u2 z2 x0 x1 x2 x3 x4 q2 HS
            obtain ⟨k, j, hj, rfl, HC, ho, B0, hb⟩ := hrel
            by_cases hjt : j < l.length
            · obtain ⟨bb, off, p, rfl, hbl, c0, c1, c2, HP⟩ := (hp.below hb).get hjt
              have HK := Lib.hid (pk_of HP.out)
              have i1 : (j : Int) < (l.length : Int) := by omega
              obtain ⟨u0, u1, u2⟩ := three_read B0
              have ul := B0.lt
              by_cases ha : p.at_ = t
              · obtain rfl : k = j := HC.out.at_ q hjt (by rw [HK.out]; exact ha)
                have HA := Lib.hid ha
                have e1 : (p.at_ != (t : Int)) = false := by simp [ha]
                obtain ⟨x, hx⟩ : ∃ x, x = ftV r b f l k t := ⟨_, rfl⟩
                have BX : Bk r b x := by rw [hx]; exact bk_ft h q hj (HC.out.now (by omega))
                have HX : Hid (x = bef r b f l k) := Lib.hid (by rw [hx, ← ha, ← HK.out]; rfl)
                have HT : Hid (ftV r b f l (k + 1) t = fil r b f l (k + 1)) := Lib.hid (by rw [← ha, ← HK.out]; exact ft_next h q hjt)
                have HC' : Hid (Came l (k + 1) t (k + 1)) := Lib.hid (HC.out.take hjt (by rw [HK.out]; exact ha))
                rw [← hx] at u2
                have x0 := BX.f0
                have x1 := BX.f1
                have x2 := BX.b1
                have sz0 := (q.ok k hjt).s0
                have sz1 := (q.ok k hjt).s1
                rw [HK.out] at sz0 sz1
                clear hx ha
                have z2 := B0.frozen 2
                have hsz := hb.size
                by_cases hs : p.size ≤ x
                · have HO : Hid (okV r b f l k = true) := Lib.hid (by rw [okV, HK.out, ← HX.out]; exact decide_eq_true hs)
                  have HF : Hid (fil r b f l (k + 1) = x - p.size) := Lib.hid (by rw [HX.out, ← HK.out]; exact fil_yes (by rw [HK.out, ← HX.out]; exact hs))
                  have o2 := ownsRow_setCell_below ho (a := ⟨g0, 2, none⟩) (by simp) (.int .i64 (x - p.size))
                  go_wp2_with (at_builtin; refine wpList_append_own _ rfl _ _ 38 rfl (g0 + 1) 4 i0 (.bool false) 1 1 Try.underlying38 hi0 hz0 hz1 hz2 rfl (by decide) _ _ _ rfl (World.ownsRow.alloc (World.ownsRow.alloc o2 _) _) ⟨wr.heap.size + 1, 0, none⟩ 1 1 [.bool true] rfl rfl ?y1r ?y2r ?y3r ?y4r ?y5r ?_)
                  case y1r => simpa using new_bool ((wr.setCell ⟨g0, 2, none⟩ (.int .i64 (x - p.size))).alloc (.cells #[.int .i64 p.at_, .int .i64 p.size, .int .i64 p.flow] 45)) (.bool true) 4
                  case y2r => first | exact one_bool _ | rfl
                  case y3r => unfold maxLen; omega
                  case y4r => omega
                  case y5r => first | (simp; omega) | omega
                  intro v' w1 hown' hgrow _
                  have B2 := ((((B0.set_ 2 (.int .i64 (x - p.size))).alloc (.cells #[.int .i64 p.at_, .int .i64 p.size, .int .i64 p.flow] 45)).alloc (.cells #[.bool true] 4)).grown hgrow (fun m hm => (ho.lt m hm).1))
                  have hb2 := ((((hb.setCell (p := ⟨g0, 2, none⟩) ht0 (.int .i64 (x - p.size))).alloc (by simp; omega) (.cells #[.int .i64 p.at_, .int .i64 p.size, .int .i64 p.flow] 45)).alloc (by simp; omega) (.cells #[.bool true] 4)).grown hgrow (by simp; omega) (fun m hm => by have := (ho.lt m hm).1; omega))
                  have ho2 : w1.ownsRow (g0 + 1) 4 1 v' (k + 1) (fstB (okV r b f l) (k + 1)) := by rw [fstB_succ, HO.out]; exact hown'
                  have B3 : Blk w1 g0 32 #[.int .i64 r, .int .i64 b, .int .i64 (ftV r b f l (k + 1) t)] := by rw [HT.out, HF.out]; simpa using B2
                  clear hown' hgrow ho hb B0 B2 u0 u1 u2 c0 c1 c2
                  go_wp2
                  go_roundw
                  case rel => exact ⟨k + 1, k + 1, by omega, by go_num, HC', ho2, B3, hb2⟩
                  case measure => simp [intOf]; omega
                · have HO : Hid (okV r b f l k = false) := Lib.hid (by rw [okV, HK.out, ← HX.out]; exact decide_eq_false hs)
                  have HF : Hid (fil r b f l (k + 1) = x) := Lib.hid (by rw [HX.out]; exact fil_no (by rw [HK.out, ← HX.out]; exact hs))
                  go_wp2_with (at_builtin; refine wpList_append_own _ rfl _ _ 38 rfl (g0 + 1) 4 i0 (.bool false) 1 1 Try.underlying38 hi0 hz0 hz1 hz2 rfl (by decide) _ _ _ rfl (World.ownsRow.alloc (World.ownsRow.alloc ho _) _) ⟨wr.heap.size + 1, 0, none⟩ 1 1 [.bool false] rfl rfl ?n1r ?n2r ?n3r ?n4r ?n5r ?_)
                  case n2r => first | exact one_bool _ | rfl
                  case n3r => unfold maxLen; omega
                  case n4r => omega
                  case n5r => first | (simp; omega) | omega
                  intro v' w1 hown' hgrow _
                  have B2 := (((B0.alloc (.cells #[.int .i64 p.at_, .int .i64 p.size, .int .i64 p.flow] 45)).alloc (.cells #[.bool false] 4)).grown hgrow (fun m hm => (ho.lt m hm).1))
                  have hb2 := (((hb.alloc hb.size (.cells #[.int .i64 p.at_, .int .i64 p.size, .int .i64 p.flow] 45)).alloc (by simp; omega) (.cells #[.bool false] 4)).grown hgrow (by simp; omega) (fun m hm => by have := (ho.lt m hm).1; omega))
                  have ho2 : w1.ownsRow (g0 + 1) 4 1 v' (k + 1) (fstB (okV r b f l) (k + 1)) := by rw [fstB_succ, HO.out]; exact hown'
                  have HX' : Hid (x = ftV r b f l k t) := Lib.hid (by rw [HX.out, ← HA.out, ← HK.out]; rfl)
                  have B3 : Blk w1 g0 32 #[.int .i64 r, .int .i64 b, .int .i64 (ftV r b f l (k + 1) t)] := by rw [HT.out, HF.out, HX'.out]; exact B2
                  clear hown' hgrow ho hb B0 B2 u0 u1 u2 c0 c1 c2
                  go_wp2
                  go_roundw
                  case rel => exact ⟨k + 1, k + 1, by omega, by go_num, HC', ho2, B3, hb2⟩
                  case measure => simp [intOf]; omega
              · have HC' := Lib.hid (HC.out.skip (by rw [HK.out]; exact ha))
                have e1 : (p.at_ != (t : Int)) = true := by simp [ha]
                clear ha
                go_wp2
                go_roundw
                case rel => exact ⟨k, j + 1, by omega, by go_num, HC', World.ownsRow.alloc ho _, B0.alloc _, hb.alloc hb.size _⟩
                case measure => simp [intOf]; omega
            · obtain rfl : j = l.length := by omega
              have HC' : Hid (Came l k ((t + 1 : Nat) : Int) 0) := Lib.hid (by have := HC.out.next; rw [show ((t + 1 : Nat) : Int) = (t : Int) + 1 by omega]; exact this)
              go_wp2
              go_roundw
              case rel => exact ⟨k, t + 1, by omega, by go_num, HC', ho, B0, hb⟩
              case measure => simp [intOf]; omega
        · have B1 : Blk (wr.setCell ⟨g0, 2, none⟩ (.int .i64 b)) g0 32 #[.int .i64 r, .int .i64 b, .int .i64 (ftV r b f l k t)] := by rw [HS.out, show min b (x + r) = b by omega]; simpa using B0.set_ 2 (.int .i64 b)
          have ho1 := ownsRow_setCell_below ho (a := ⟨g0, 2, none⟩) (by simp) (.int .i64 b)
          have hb1 := hb.setCell (p := ⟨g0, 2, none⟩) ht0 (.int .i64 b)
          have s2 : IntKind.i64.wrap (x + r) = b := by rw [show x + r = b by omega]; exact IntWalk.i64_in _ ⟨by omega, by omega⟩
          clear q1 q2 x0 x1 x2 x3 x4
          go_wp2
          go_loopw [5, 27] (fun o v wi => ∃ k j : Nat, j ≤ l.length ∧ v = .int .i64 j ∧ Hid (Came l k t j) ∧ wi.ownsRow (g0 + 1) 4 1 o k (fstB (okV r b f l) k) ∧ Blk wi g0 32 #[.int .i64 r, .int .i64 b, .int .i64 (ftV r b f l k t)] ∧ Below w.heap.size w wi) (fun _ v _ => l.length - (intOf v).toNat)
          case atStart => exact ⟨k, 0, by omega, rfl, HC, ho1, B1, hb1⟩
          case round =>
            clear HC ho B0 hb
            clear B1 ho1 hb1 u0 u1 u2 z2 s2 HS
            obtain ⟨k, j, hj, rfl, HC, ho, B0, hb⟩ := hrel
            by_cases hjt : j < l.length
            · obtain ⟨bb, off, p, rfl, hbl, c0, c1, c2, HP⟩ := (hp.below hb).get hjt
              have HK := Lib.hid (pk_of HP.out)
              have i1 : (j : Int) < (l.length : Int) := by omega
              obtain ⟨u0, u1, u2⟩ := three_read B0
              have ul := B0.lt
              by_cases ha : p.at_ = t
              · obtain rfl : k = j := HC.out.at_ q hjt (by rw [HK.out]; exact ha)
                have HA := Lib.hid ha
                have e1 : (p.at_ != (t : Int)) = false := by simp [ha]
                obtain ⟨x, hx⟩ : ∃ x, x = ftV r b f l k t := ⟨_, rfl⟩
                have BX : Bk r b x := by rw [hx]; exact bk_ft h q hj (HC.out.now (by omega))
                have HX : Hid (x = bef r b f l k) := Lib.hid (by rw [hx, ← ha, ← HK.out]; rfl)
                have HT : Hid (ftV r b f l (k + 1) t = fil r b f l (k + 1)) := Lib.hid (by rw [← ha, ← HK.out]; exact ft_next h q hjt)
                have HC' : Hid (Came l (k + 1) t (k + 1)) := Lib.hid (HC.out.take hjt (by rw [HK.out]; exact ha))
                rw [← hx] at u2
                have x0 := BX.f0
                have x1 := BX.f1
                have x2 := BX.b1
                have sz0 := (q.ok k hjt).s0
                have sz1 := (q.ok k hjt).s1
                rw [HK.out] at sz0 sz1
                clear hx ha
                have z2 := B0.frozen 2
                have hsz := hb.size
                by_cases hs : p.size ≤ x
                · have HO : Hid (okV r b f l k = true) := Lib.hid (by rw [okV, HK.out, ← HX.out]; exact decide_eq_true hs)
                  have HF : Hid (fil r b f l (k + 1) = x - p.size) := Lib.hid (by rw [HX.out, ← HK.out]; exact fil_yes (by rw [HK.out, ← HX.out]; exact hs))
                  have o2 := ownsRow_setCell_below ho (a := ⟨g0, 2, none⟩) (by simp) (.int .i64 (x - p.size))
                  go_wp2_with (at_builtin; refine wpList_append_own _ rfl _ _ 38 rfl (g0 + 1) 4 i0 (.bool false) 1 1 Try.underlying38 hi0 hz0 hz1 hz2 rfl (by decide) _ _ _ rfl (World.ownsRow.alloc (World.ownsRow.alloc o2 _) _) ⟨wr.heap.size + 1, 0, none⟩ 1 1 [.bool true] rfl rfl ?y1s ?y2s ?y3s ?y4s ?y5s ?_)
                  case y1s => simpa using new_bool ((wr.setCell ⟨g0, 2, none⟩ (.int .i64 (x - p.size))).alloc (.cells #[.int .i64 p.at_, .int .i64 p.size, .int .i64 p.flow] 45)) (.bool true) 4
                  case y2s => first | exact one_bool _ | rfl
                  case y3s => unfold maxLen; omega
                  case y4s => omega
                  case y5s => first | (simp; omega) | omega
                  intro v' w1 hown' hgrow _
                  have B2 := ((((B0.set_ 2 (.int .i64 (x - p.size))).alloc (.cells #[.int .i64 p.at_, .int .i64 p.size, .int .i64 p.flow] 45)).alloc (.cells #[.bool true] 4)).grown hgrow (fun m hm => (ho.lt m hm).1))
                  have hb2 := ((((hb.setCell (p := ⟨g0, 2, none⟩) ht0 (.int .i64 (x - p.size))).alloc (by simp; omega) (.cells #[.int .i64 p.at_, .int .i64 p.size, .int .i64 p.flow] 45)).alloc (by simp; omega) (.cells #[.bool true] 4)).grown hgrow (by simp; omega) (fun m hm => by have := (ho.lt m hm).1; omega))
                  have ho2 : w1.ownsRow (g0 + 1) 4 1 v' (k + 1) (fstB (okV r b f l) (k + 1)) := by rw [fstB_succ, HO.out]; exact hown'
                  have B3 : Blk w1 g0 32 #[.int .i64 r, .int .i64 b, .int .i64 (ftV r b f l (k + 1) t)] := by rw [HT.out, HF.out]; simpa using B2
                  clear hown' hgrow ho hb B0 B2 u0 u1 u2 c0 c1 c2
                  go_wp2
                  go_roundw
                  case rel => exact ⟨k + 1, k + 1, by omega, by go_num, HC', ho2, B3, hb2⟩
                  case measure => simp [intOf]; omega
                · have HO : Hid (okV r b f l k = false) := Lib.hid (by rw [okV, HK.out, ← HX.out]; exact decide_eq_false hs)
                  have HF : Hid (fil r b f l (k + 1) = x) := Lib.hid (by rw [HX.out]; exact fil_no (by rw [HK.out, ← HX.out]; exact hs))
                  go_wp2_with (at_builtin; refine wpList_append_own _ rfl _ _ 38 rfl (g0 + 1) 4 i0 (.bool false) 1 1 Try.underlying38 hi0 hz0 hz1 hz2 rfl (by decide) _ _ _ rfl (World.ownsRow.alloc (World.ownsRow.alloc ho _) _) ⟨wr.heap.size + 1, 0, none⟩ 1 1 [.bool false] rfl rfl ?n1s ?n2s ?n3s ?n4s ?n5s ?_)
                  case n2s => first | exact one_bool _ | rfl
                  case n3s => unfold maxLen; omega
                  case n4s => omega
                  case n5s => first | (simp; omega) | omega
                  intro v' w1 hown' hgrow _
                  have B2 := (((B0.alloc (.cells #[.int .i64 p.at_, .int .i64 p.size, .int .i64 p.flow] 45)).alloc (.cells #[.bool false] 4)).grown hgrow (fun m hm => (ho.lt m hm).1))
                  have hb2 := (((hb.alloc hb.size (.cells #[.int .i64 p.at_, .int .i64 p.size, .int .i64 p.flow] 45)).alloc (by simp; omega) (.cells #[.bool false] 4)).grown hgrow (by simp; omega) (fun m hm => by have := (ho.lt m hm).1; omega))
                  have ho2 : w1.ownsRow (g0 + 1) 4 1 v' (k + 1) (fstB (okV r b f l) (k + 1)) := by rw [fstB_succ, HO.out]; exact hown'
                  have HX' : Hid (x = ftV r b f l k t) := Lib.hid (by rw [HX.out, ← HA.out, ← HK.out]; rfl)
                  have B3 : Blk w1 g0 32 #[.int .i64 r, .int .i64 b, .int .i64 (ftV r b f l (k + 1) t)] := by rw [HT.out, HF.out, HX'.out]; exact B2
                  clear hown' hgrow ho hb B0 B2 u0 u1 u2 c0 c1 c2
                  go_wp2
                  go_roundw
                  case rel => exact ⟨k + 1, k + 1, by omega, by go_num, HC', ho2, B3, hb2⟩
                  case measure => simp [intOf]; omega
              · have HC' := Lib.hid (HC.out.skip (by rw [HK.out]; exact ha))
                have e1 : (p.at_ != (t : Int)) = true := by simp [ha]
                clear ha
                go_wp2
                go_roundw
                case rel => exact ⟨k, j + 1, by omega, by go_num, HC', World.ownsRow.alloc ho _, B0.alloc _, hb.alloc hb.size _⟩
                case measure => simp [intOf]; omega
            · obtain rfl : j = l.length := by omega
              have HC' : Hid (Came l k ((t + 1 : Nat) : Int) 0) := Lib.hid (by have := HC.out.next; rw [show ((t + 1 : Nat) : Int) = (t : Int) + 1 by omega]; exact this)
              go_wp2
              go_roundw
              case rel => exact ⟨k, t + 1, by omega, by go_num, HC', ho, B0, hb⟩
              case measure => simp [intOf]; omega
    · obtain rfl : t = 201 := by omega
      have HN := HC.out.all q
      subst HN
      obtain ⟨A', c', rfl⟩ := form_own ho
      go_wp2
      go_ret
      have e : (runL r b f l).length = l.length := length_runL ..
      refine ⟨A', c', rfl, Bls.of_own (base := g0 + 1) (e := 4) (c := c') ?_, hb⟩
      rw [e]
      exact ho

end Go.Proofs.Ytbefkjglhlembaa
