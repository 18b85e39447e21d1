
/-
  The walk of bucket.Run, packet by packet.
-/
import Derived.Test.YtamkadffencpgaaBucketD
namespace Go.Proofs.Ytamkadffencpgaa
set_option linter.all false
open Go.RowKit Go.Shelf

theorem three_frozen {W : World} {g : Nat} {t : TypeId} {cs : Array Value} (h : Blk W g t cs) : W.frozen? ⟨g, 0, none⟩ = false ∧ W.frozen? ⟨g, 1, none⟩ = false ∧ W.frozen? ⟨g, 2, none⟩ = false :=
  ⟨h.frozen 0, h.frozen 1, h.frozen 2⟩
theorem three_stage {W : World} {g : Nat} {t : TypeId} {x y z : Value} (h : Blk W g t #[x, y, z]) :
    (∀ a, (W.setCell ⟨g, 0, none⟩ a).cell? ⟨g, 0, none⟩ = some a) ∧ (∀ a b, ((W.setCell ⟨g, 0, none⟩ a).setCell ⟨g, 1, none⟩ b).cell? ⟨g, 1, none⟩ = some b) ∧ (∀ a b c, (((W.setCell ⟨g, 0, none⟩ a).setCell ⟨g, 1, none⟩ b).setCell ⟨g, 2, none⟩ c).cell? ⟨g, 2, none⟩ = some c) := by
  refine ⟨fun a => ?_, fun a b => ?_, fun a b c => ?_⟩
  · simpa using (h.set_ 0 a).cell 0
  · simpa using ((h.set_ 0 a).set_ 1 b).cell 1
  · simpa using (((h.set_ 0 a).set_ 1 b).set_ 2 c).cell 2

set_option maxHeartbeats 3200000 in
theorem run_yes' (A : Option Addr) (l : List Pk) (r b f : Int) (c : Nat) (w : World) (h : Bk r b f) (hp : Pks w A l) (hq : pksE l = 0) :
    Calls Try.prog 21 #[.agg #[.int .i64 r, .int .i64 b, .int .i64 f], .slice A l.length c] w (AnsBw (runL r b f l) 0 w) := by
  have HE := Lib.hid h.ok
  have hp0 := hp
  have q := qu_of hq
  have HQ := Lib.hid hq
  have hle := q.le
  have hmk := fun W => run_make_row' (P := Try.prog) 34 4 (.bool false) 1 Try.underlying34 bool_info rfl .i64 .i64 l.length (by omega) (by omega) W
  clear hq
  go_enter Try.func21, Try.ntmps21
  go_wp2_with fail
  refine (bcheck_any r b f _).mono ?_
  rintro e w1 ⟨rfl, b1⟩
  have hb := below_of1 b1
  replace hp := (hp.alloc _).below b1
  have B0 := (Blk.new w 42 #[.int .i64 r, .int .i64 b, .int .i64 f]).below b1
  clear b1
  rw [HE.out]
  go_wp2_with fail
  refine (packets_any A l c _ hp).mono ?_
  rintro e w2 ⟨rfl, b2⟩
  replace hb := below_trans hb b2
  replace hp := hp.below b2
  replace B0 := B0.below b2
  clear b2
  rw [HQ.out]
  have hg0 : w.heap.size < w2.heap.size := B0.lt
  obtain ⟨g0, hg0'⟩ : ∃ g, g = w.heap.size := ⟨_, rfl⟩
  obtain ⟨g1, hg1'⟩ : ∃ g, g = w2.heap.size := ⟨_, rfl⟩
  have G0 := Lib.hid hg0'
  have G1 := Lib.hid hg1'
  have B1 : Blk (w2.alloc (.cells (madeCells #[Value.bool false] l.length) 4)) g1 4 ((rowB l.length 0 (okV r b f l)).map Value.bool).toArray := by rw [rowB_zero, hg1']; exact Blk.new _ _ _
  go_wp2
  rw [← G0.out, ← G1.out]
  have h01 : g0 < g1 := by rw [hg0', hg1']; exact hg0
  have ht0 : w.heap.size ≤ g0 := by omega
  replace B0 : Blk w2 g0 42 #[.int .i64 r, .int .i64 b, .int .i64 f] := by rw [hg0']; exact B0
  clear hg0' hg1' G0 G1 hg0
  go_loopw [9, 29] (fun v i wr => ∃ k : Nat, k ≤ l.length ∧ i = .int .i64 k ∧ v = .int .i64 (nowV l k) ∧ Blk wr g0 42 #[.int .i64 r, .int .i64 b, .int .i64 (fil r b f l k)] ∧ Blk wr g1 4 ((rowB l.length k (okV r b f l)).map Value.bool).toArray ∧ Below w.heap.size w wr) (fun _ i _ => l.length - (intOf i).toNat)
  case atStart => exact ⟨0, Nat.zero_le _, rfl, rfl, B0.alloc _, B1, hb.alloc hb.size _⟩
  case round =>
    clear hb hp B0 B1
    obtain ⟨k, hk, rfl, rfl, B0, B1, hb⟩ := hrel
    have hp := hp0.below hb
    by_cases hlt : k < l.length
    · obtain ⟨bb, off, p, rfl, hbl, c0, c1, c2, HP⟩ := hp.get hlt
      have HK := Lib.hid (pk_of HP.out)
      have i1 : (k : Int) < (l.length : Int) := by omega
      have nw := q.now hlt
      have ok := q.ok k hlt
      rw [HK.out] at nw ok
      obtain ⟨x, hx⟩ : ∃ x, x = nowV l k := ⟨_, rfl⟩
      obtain ⟨F, hF⟩ : ∃ F, F = fil r b f l k := ⟨_, rfl⟩
      obtain ⟨G, hG⟩ : ∃ G, G = bef r b f l k := ⟨_, rfl⟩
      have BF := bk_fil h q k hk
      have BG := bk_bef h q hlt
      rw [← hF] at BF B0
      rw [← hG] at BG
      rw [← hx] at nw ⊢
      obtain ⟨nw0, nw1⟩ := nw
      have a1 := ok.a1
      have sz0 := ok.s0
      have HG : Hid (G = min b (F + (p.at_ - x) * r)) := Lib.hid (by rw [hG, hF, hx, ← HK.out]; rfl)
      have HS : Hid (okV r b f l k = decide (p.size ≤ G)) := Lib.hid (by rw [okV, HK.out, hG])
      have HY : Hid (p.size ≤ G → fil r b f l (k + 1) = G - p.size) := Lib.hid (fun e => by rw [hG] at e ⊢; rw [← HK.out] at e ⊢; exact fil_yes e)
      have HN : Hid (¬ p.size ≤ G → fil r b f l (k + 1) = G) := Lib.hid (fun e => by rw [hG] at e ⊢; rw [← HK.out] at e; exact fil_no e)
      have HA : Hid (nowV l (k + 1) = p.at_) := Lib.hid (by rw [nowV, HK.out])
      clear hx hF hG ok
      have hkl := hp.2
      obtain ⟨u0, u1, u2⟩ := three_read B0
      have ul := B0.lt
      have hwz := hb.size
      obtain ⟨gp, hgp⟩ : ∃ g, g = wr.heap.size := ⟨_, rfl⟩
      have GP := Lib.hid hgp
      clear hkl
      go_wp2_with fail
      refine (tick_yes r b F (p.at_ - x) G _ BF (by omega) (by omega) HG.out).mono ?_
      rintro e w3 ⟨rfl, b3⟩
      have Bp := (Blk.new wr 32 #[.int .i64 p.at_, .int .i64 p.size, .int .i64 p.flow]).below b3
      replace B0 := (B0.alloc _).below b3
      replace B1 := (B1.alloc _).below b3
      replace hb := below_trans hb (below_of1 b3)
      rw [← GP.out]
      have hn0 : g0 < gp := by rw [hgp]; exact ul
      rw [← hgp] at Bp
      clear b3 u0 u1 u2 c0 c1 c2 hgp GP ul hbl hwz
      obtain ⟨u0, u1, u2⟩ := three_read B0
      obtain ⟨z0, z1, z2⟩ := three_frozen B0
      obtain ⟨s0, s1, s2⟩ := three_stage B0
      obtain ⟨p0, p1, p2⟩ := three_read Bp
      have ne1 : ¬ gp = g0 := by omega
      have ne2 : ¬ g0 = gp := by omega
      have T0 := three_sets B0 (.int .i64 r) (.int .i64 b) (.int .i64 G)
      have T1 : Blk (((w3.setCell ⟨g0, 0, none⟩ (.int .i64 r)).setCell ⟨g0, 1, none⟩ (.int .i64 b)).setCell ⟨g0, 2, none⟩ (.int .i64 G)) g1 4 _ := ((B1.past (a := ⟨g0, 0, none⟩) (by simp; omega) _).past (a := ⟨g0, 1, none⟩) (by simp; omega) _).past (a := ⟨g0, 2, none⟩) (by simp; omega) _
      have T2 := below_three hb ht0 (.int .i64 r) (.int .i64 b) (.int .i64 G)
      clear hp
      by_cases hs : p.size ≤ G
      · have HF : Hid (fil r b f l (k + 1) = G - p.size) := Lib.hid (HY.out hs)
        have HO : Hid (okV r b f l k = true) := Lib.hid (by rw [HS.out]; exact decide_eq_true hs)
        go_wp2_with fail
        refine (take_yes r b G p.size (G - p.size) _ BG (by omega) hs rfl).mono ?_
        rintro e w5 ⟨rfl, b5⟩
        replace B0 := T0.below b5
        replace B1 := T1.below b5
        replace hb := below_trans T2 b5
        clear b5 T0 T1 T2 u0 u1 u2 z0 z1 z2 s0 s1 s2 p0 p1 p2
        obtain ⟨u0, u1, u2⟩ := three_read B0
        obtain ⟨z0, z1, z2⟩ := three_frozen B0
        obtain ⟨s0, s1, s2⟩ := three_stage B0
        have ul := B0.lt
        have vl := B1.lt
        have o1 := (B1.cell k).trans (rowB_at hlt)
        have o2 := B1.frozen k
        have ne3 : ¬ g1 = g0 := by omega
        have ne4 : ¬ g0 = g1 := by omega
        go_wp2
        go_roundw
        case rel =>
          have M0 := (three_sets B0 (.int .i64 r) (.int .i64 b) (.int .i64 (G - p.size))).past (a := ⟨g1, k, none⟩) (by simp; omega) (.bool true)
          have M1 := (((B1.past (a := ⟨g0, 0, none⟩) (by simp; omega) (.int .i64 r)).past (a := ⟨g0, 1, none⟩) (by simp; omega) (.int .i64 b)).past (a := ⟨g0, 2, none⟩) (by simp; omega) (.int .i64 (G - p.size))).set_ k (.bool true)
          have M2 := (below_three hb ht0 (.int .i64 r) (.int .i64 b) (.int .i64 (G - p.size))).setCell (p := ⟨g1, k, none⟩) (by simp; omega) (.bool true)
          rw [rowB_set hlt HO.out] at M1
          exact ⟨k + 1, by omega, by go_num, by rw [HA.out], by rw [HF.out]; exact M0.alloc _, M1.alloc _, M2.alloc M2.size _⟩
        case measure => simp [intOf]; omega
      · have HF : Hid (fil r b f l (k + 1) = G) := Lib.hid (HN.out (by omega))
        have HO : Hid (okV r b f l k = false) := Lib.hid (by rw [HS.out]; exact decide_eq_false hs)
        go_wp2_with fail
        refine (take_full r b G p.size _ BG (by omega)).mono ?_
        rintro e w5 ⟨rfl, b5⟩
        replace B0 := T0.below b5
        replace B1 := T1.below b5
        replace hb := below_trans T2 b5
        clear b5 T0 T1 T2 u0 u1 u2 z0 z1 z2 s0 s1 s2 p0 p1 p2
        go_wp2
        go_roundw
        case rel => exact ⟨k + 1, by omega, by go_num, by rw [HA.out], by rw [HF.out]; exact B0.alloc _, by rw [rowB_skip HO.out]; exact B1.alloc _, hb.alloc hb.size _⟩
        case measure => simp [intOf]; omega
    · obtain rfl : k = l.length := by omega
      have HR : Hid (runL r b f l = rowB l.length l.length (okV r b f l)) := Lib.hid (by rw [rowB_all]; rfl)
      go_wp2
      go_ret2
      exact ⟨some ⟨g1, 0, none⟩, l.length, by rw [length_runL]; rfl, by rw [HR.out]; exact Bls.of_blk B1 (by rw [rowB_length]; omega), by rw [HR.out, rowB_length]; exact ⟨by simp [rowB_length], .inr ⟨g1, l.length, _, rfl, (by omega), B1, Nat.le_refl _, by unfold maxLen; omega, by simp [rowB_length], by simp [rowB_length, List.take_of_length_le]⟩⟩, hb⟩

theorem run_yes (A : Option Addr) (l : List Pk) (r b f : Int) (c : Nat) (w : World) (h : Bk r b f) (hp : Pks w A l) (hq : pksE l = 0) :
    Calls Try.prog 21 #[.agg #[.int .i64 r, .int .i64 b, .int .i64 f], .slice A l.length c] w (AnsBo (runL r b f l) 0 w) := (run_yes' A l r b f c w h hp hq).mono fun _ _ q => q.bo

/-- A queue of packets that are written out. -/
theorem Pks.lit (w : World) (l : List Pk) (cs : Array Value) (t : TypeId) (h : cs = (l.flatMap (fun q => [Value.int .i64 q.at_, .int .i64 q.size, .int .i64 q.flow])).toArray) (hl : l.length ≤ 3) : Pks (w.alloc (.cells cs t)) (some ⟨w.heap.size, 0, none⟩) l := by
  refine ⟨by omega, fun h0 => ⟨w.heap.size, 0, rfl, fun j p hj => ?_⟩⟩
  have hc : ∀ i, (w.alloc (.cells cs t)).cell? ⟨w.heap.size, i, none⟩ = cs[i]? := fun i => cell_of_row (w.alloc (.cells cs t)) w.heap.size i cs t (0, 0) (heap_alloc_new w _)
  rw [hc, hc, hc, h]
  match l, hl with
  | [], _ => simp at hj
  | [a], _ =>
    match j, hj with
    | 0, hj => simp at hj; subst hj; simp
    | j + 1, hj => simp at hj
  | [a, b], _ =>
    match j, hj with
    | 0, hj => simp at hj; subst hj; simp
    | 1, hj => simp at hj; subst hj; simp
    | j + 2, hj => simp at hj
  | [a, b, c], _ =>
    match j, hj with
    | 0, hj => simp at hj; subst hj; simp
    | 1, hj => simp at hj; subst hj; simp
    | 2, hj => simp at hj; subst hj; simp
    | j + 3, hj => simp at hj

theorem Pks.litB (w : World) (l : List Pk) (cs : Array Value) (t : TypeId) (o : Obj) (h : cs = (l.flatMap (fun q => [Value.int .i64 q.at_, .int .i64 q.size, .int .i64 q.flow])).toArray) (hl : l.length ≤ 3) : Pks ((w.alloc o).alloc (.cells cs t)) (some ⟨w.heap.size + 1, 0, none⟩) l := by
  simpa using Pks.lit (w.alloc o) l cs t h hl
theorem run_at (A : Option Addr) (l : List Pk) (L : List Bool) (r b f : Int) (n c : Nat) (w : World) (h : Bk r b f) (hp : Pks w A l) (hq : pksE l = 0) (hn : n = l.length) (hL : runL r b f l = L) :
    Calls Try.prog 21 #[.agg #[.int .i64 r, .int .i64 b, .int .i64 f], .slice A n c] w fun e w' => ∃ A c, e = .returned (.tuple #[.slice A n c, .int .i64 0]) ∧ Bls w' A L ∧ Below w.heap.size w w' := by
  subst hn hL
  have := run_yes A l r b f c w h hp hq
  unfold AnsBo at this
  rw [length_runL] at this
  exact this

theorem run_ok (A : Option Addr) (l : List Pk) (r b f : Int) (c : Nat) (w : World) (h : Bk r b f) (hp : Pks w A l) (hq : pksE l = 0) :
    Calls Try.prog 21 #[.agg #[.int .i64 r, .int .i64 b, .int .i64 f], .slice A l.length c] w fun e w' => ∃ A c, e = .returned (.tuple #[.slice A l.length c, .int .i64 0]) ∧ Bls w' A (runL r b f l) ∧ Below w.heap.size w w' :=
  run_at A l _ r b f _ c w h hp hq rfl rfl
theorem tkn_bd {r b f : Int} {l : List Pk} (q : Qu l) {j : Nat} (hj : j < l.length) : 0 ≤ tkn r b f l j ∧ tkn r b f l j ≤ 1000 := by
  have k := q.ok j hj
  have := k.s0
  have := k.s1
  unfold tkn
  split <;> omega

end Go.Proofs.Ytamkadffencpgaa
