
/-
  The law PieceOnce over what package piece owes.
-/
import Derived.Test.YtmefekgbljhclaaPieF
import Derived.Test.YtmefekgbljhclaaKeepA
import Derived.Test.YtmefekgbljhclaaWinB
import Derived.Test.YtmefekgbljhclaaBucketA
namespace Go.Proofs.Ytmefekgbljhclaa
set_option linter.all false
open Go.RowKit Go.Shelf Go.Lib

theorem three_frozenP {W : World} {g : Nat} {t : TypeId} {cs : Array Value} (h : Blk W g t cs) : W.frozen? ⟨g, 0, none⟩ = false ∧ W.frozen? ⟨g, 1, none⟩ = false ∧ W.frozen? ⟨g, 2, none⟩ = false :=
  ⟨h.frozen 0, h.frozen 1, h.frozen 2⟩
theorem three_stageP {W : World} {g : Nat} {t : TypeId} {x y z : Value} (h : Blk W g t #[x, y, z]) :
    (∀ a, (W.setCell ⟨g, 0, none⟩ a).cell? ⟨g, 0, none⟩ = some a) ∧ (∀ a b, ((W.setCell ⟨g, 0, none⟩ a).setCell ⟨g, 1, none⟩ b).cell? ⟨g, 1, none⟩ = some b) ∧ (∀ a b c, (((W.setCell ⟨g, 0, none⟩ a).setCell ⟨g, 1, none⟩ b).setCell ⟨g, 2, none⟩ c).cell? ⟨g, 2, none⟩ = some c) := by
  refine ⟨fun a => ?_, fun a b => ?_, fun a b c => ?_⟩
  · simpa using (h.set_ 0 a).cell 0
  · simpa using ((h.set_ 0 a).set_ 1 b).cell 1
  · simpa using (((h.set_ 0 a).set_ 1 b).set_ 2 c).cell 2

theorem within_q (k n : Int) (I : Nat) (w : World) (h1 : 1 ≤ n) (h2 : n ≤ 2000000) (h : wi k n = (I : Int)) : Calls Try.prog 27 #[.int .i64 k, .int .i64 n] w fun e w' => e = .returned (.int .i64 I) ∧ ∃ m, w' = w.drewN m := by
  refine (within_any k n w h1 h2).mono ?_
  rintro e w' ⟨rfl, rfl⟩
  exact ⟨by rw [h], 0, rfl⟩
theorem PieceC.put_at (E : PieceC) (s u : Int) (A : Option Addr) (c n : Nat) (z : List Bool) (I : Nat) (w : World) (h : Bls w A z) (hn : z.length = n) (hc : n ≤ c) (h0 : stE s u n = 0) (hi : I < n) : Calls Try.prog 22 #[.agg #[.int .i64 s, .int .i64 u, .slice A n c], .int .i64 I] w fun e w' => ∃ (B : Option Addr) (d : Nat), e = .returned (.tuple #[.agg #[.int .i64 s, .int .i64 u, .slice B n d], .int .i64 0]) ∧ Bls w' B (z.set I true) ∧ n ≤ d ∧ Below w.heap.size w w' := by
  subst hn
  refine (E.put s u A c z I w h hc h0 hi).mono ?_
  rintro e w' ⟨B, d, he, o, b⟩
  refine ⟨B, d, he, Bls.of_ownP (by rw [List.length_set]; exact o), ?_, b⟩
  rcases o.2 with ⟨_, h0⟩ | ⟨g, cap, cur, hv, _, _, hn, _⟩
  · omega
  · injection hv with _ _ e
    subst e
    exact hn
theorem PieceC.got_at (E : PieceC) (s u : Int) (A : Option Addr) (c n : Nat) (z : List Bool) (w : World) (R : Int) (h : Bls w A z) (hn : z.length = n) (h0 : stE s u n = 0) (HR : Hid (gotS s u (hv z) n = R)) : Calls Try.prog 24 #[.agg #[.int .i64 s, .int .i64 u, .slice A n c]] w fun e w' => e = .returned (.tuple #[.int .i64 R, .int .i64 0]) ∧ Below w.heap.size w w' := by
  subst hn
  refine (E.got s u A c z w h h0).mono ?_
  rintro e w' ⟨he, b⟩
  exact ⟨by rw [he, HR.out], b⟩
theorem PieceC.next_at (E : PieceC) (s u : Int) (A : Option Addr) (c n : Nat) (z : List Bool) (w : World) (h : Bls w A z) (hn : z.length = n) (h0 : stE s u n = 0) : Calls Try.prog 23 #[.agg #[.int .i64 s, .int .i64 u, .slice A n c]] w fun e w' => (∃ V T : Int, e = .returned (.tuple #[.int .i64 V, .int .i64 T]) ∧ Hid (NxIs z V T)) ∧ Below w.heap.size w w' := by
  subst hn
  exact E.next_any s u A c z w h h0
theorem got_lit1 : stE 7 3 3 = 0 := by decide
theorem got_lit2 : gotS 7 3 (hv [true, false, true]) 3 = 4 := by decide
theorem hv_set {z : List Bool} {I i : Nat} : hv z i = true → hv (z.set I true) i = true := by
  unfold hv
  rw [List.getD, List.getD, List.getElem?_set]
  intro h
  by_cases c : I = i
  · subst c
    by_cases l : I < z.length
    · simp [l]
    · rw [List.getElem?_eq_none (by omega)] at h; simp at h
  · rw [if_neg c]; exact h
theorem set_swap (z : List Bool) (I J : Nat) : (z.set I true).set J true = (z.set J true).set I true := by
  by_cases c : I = J
  · subst c; rfl
  · exact List.set_comm _ _ c
theorem Bls.stage {W : World} {g : Nat} {t : TypeId} {a b : Int} {s1 : Option Addr} {n1 c1 : Nat} {A : Option Addr} {l : List Bool} (h : Bls W A l) (K : Blk W g t #[.int .i64 a, .int .i64 b, .slice s1 n1 c1]) (v0 v1 v2 : Value) : Bls (((W.setCell ⟨g, 0, none⟩ v0).setCell ⟨g, 1, none⟩ v1).setCell ⟨g, 2, none⟩ v2) A l := by
  refine ⟨h.1, fun hl => ?_⟩
  obtain ⟨b', off, rfl, hc⟩ := h.2 hl
  have ne : g ≠ b' := by
    rintro rfl
    have := hc 0 hl
    rw [K.cell] at this
    match off, this with
    | 0, this => simp at this
    | 1, this => simp at this
    | 2, this => simp at this
    | k + 3, this => simp at this
  refine ⟨b', off, rfl, fun j hj => ?_⟩
  rw [World.cell?_setCell_far _ _ _ _ ne, World.cell?_setCell_far _ _ _ _ ne, World.cell?_setCell_far _ _ _ _ ne]
  exact hc j hj
theorem Blk.stage {W : World} {g h : Nat} {t : TypeId} {cs : Array Value} (H : Blk W h t cs) (ne : h ≠ g) (v0 v1 v2 : Value) : Blk (((W.setCell ⟨g, 0, none⟩ v0).setCell ⟨g, 1, none⟩ v1).setCell ⟨g, 2, none⟩ v2) h t cs :=
  ((H.past (a := ⟨g, 0, none⟩) ne v0).past (a := ⟨g, 1, none⟩) ne v1).past (a := ⟨g, 2, none⟩) ne v2
set_option maxRecDepth 100000 in
set_option maxHeartbeats 6400000 in
theorem v_PieceOnce (E : PieceC) (x y : Int) (A : Option Addr) (c : Nat) (z : List Bool) (n1 n2 : Int) (w : World) (_h1 : (Lit.int .i64 x).wf = true) (_h2 : (Lit.int .i64 y).wf = true) (_h3 : (Lit.int .i64 n1).wf = true) (_h4 : (Lit.int .i64 n2).wf = true) (hz : Bls w A z) (hzc : z.length ≤ c) :
    Calls Try.prog 6 #[.agg #[.int .i64 x, .int .i64 y, .slice A z.length c], .int .i64 n1, .int .i64 n2] w fun e w' => e = .returned (.bool true) ∧ Below w.heap.size w w' := by
  have hzl := hz.1
  obtain ⟨N, hN⟩ : ∃ N, z.length = N := ⟨_, rfl⟩
  rw [hN] at hzc hzl ⊢
  have HN := Lib.hid hN
  go_enter Try.func6, Try.ntmps6
  go_wp2_with fail
  have K0 : Blk ((w.alloc (.cells #[.int .i64 x, .int .i64 y, .slice A N c] 24)).alloc (.cells #[.bool true, .bool false, .bool true] 4)) w.heap.size 24 #[.int .i64 x, .int .i64 y, .slice A N c] := (Blk.new _ _ _).alloc _
  have hz0 := (hz.alloc (.cells #[.int .i64 x, .int .i64 y, .slice A N c] 24)).alloc (.cells #[.bool true, .bool false, .bool true] 4)
  have hL : Bls ((w.alloc (.cells #[.int .i64 x, .int .i64 y, .slice A N c] 24)).alloc (.cells #[.bool true, .bool false, .bool true] 4)) (some ⟨w.heap.size + 1, 0, none⟩) [true, false, true] := by
    have := Bls.lit (w.alloc (.cells #[.int .i64 x, .int .i64 y, .slice A N c] 24)) [true, false, true] #[.bool true, .bool false, .bool true] 4 rfl (by decide)
    simpa using this
  refine (E.got_at 7 3 (some ⟨w.heap.size + 1, 0, none⟩) 3 3 [true, false, true] _ 4 hL rfl got_lit1 (Lib.hid got_lit2)).mono ?_
  rintro e w1 ⟨rfl, b1⟩
  replace K0 := K0.below b1
  replace hz := hz0.below b1
  have hb : Below w.heap.size w w1 := below_of1 (below_of1 b1)
  clear b1 hz0
  by_cases hS : stE x y N = 0
  · obtain ⟨v, hNp⟩ := st_iff.mp hS
    have n200 := pcn_max v
    rw [← hNp] at n200
    have HP := Lib.hid hNp.symm
    have HS := Lib.hid hS
    obtain ⟨X, hX⟩ : ∃ X, gotS x y (hv z) N = X := ⟨_, rfl⟩
    have HX := Lib.hid hX
    by_cases h0 : N = 0
    · have HX0 : Hid (gotS x y (hv z) N = 0) := Lib.hid (by rw [h0]; rfl)
      have e0' : ((N : Int) == 0) = true := by rw [h0]; rfl
      have e1' : (N : Int) = 0 := by omega
      have HE1 := Lib.hid e1'
      clear hX hNp hS hN h0 e1'
      obtain ⟨c0, c1, c2⟩ := three_read K0
      have lt0 := Blk.lt K0
      go_wp2_with fail
      clear c0 c1 c2 lt0
      refine (E.got_at x y A c N z _ 0 hz HN.out HS.out HX0).mono ?_
      rintro e w2 ⟨rfl, b2⟩
      try replace K0 := K0.below b2
      try replace Ka := Ka.below b2
      try replace Kb := Kb.below b2
      try replace Kc := Kc.below b2
      try replace Kd := Kd.below b2
      try replace hz := hz.below b2
      try replace ia := ia.below b2
      try replace ib := ib.below b2
      try replace ic := ic.below b2
      try replace iD := iD.below b2
      replace hb := below_trans hb b2
      clear b2
      have e1' := HE1.out
      obtain ⟨c0, c1, c2⟩ := three_read K0
      have lt0 := Blk.lt K0
      go_wp2
      go_ret
      exact ⟨rfl, hb⟩
    · have e0 : (N == 0) = false := by simp [h0]
      have e0' : ((N : Int) == 0) = false := by simp; omega
      obtain ⟨I, hI, I1⟩ := wiW n1 (N : Int) (by omega)
      obtain ⟨J, hJ, J1⟩ := wiW n2 (N : Int) (by omega)
      have I2 : I < N := by omega
      have J2 : J < N := by omega
      have HI := Lib.hid hI
      have HJ := Lib.hid hJ
      clear hX hNp hS hN hI hJ I1 J1
      obtain ⟨c0, c1, c2⟩ := three_read K0
      have lt0 := Blk.lt K0
      go_wp2_with fail
      clear c0 c1 c2 lt0
      refine (E.got_at x y A c N z _ X hz HN.out HS.out HX).mono ?_
      rintro e w2 ⟨rfl, b2⟩
      try replace K0 := K0.below b2
      try replace Ka := Ka.below b2
      try replace Kb := Kb.below b2
      try replace Kc := Kc.below b2
      try replace Kd := Kd.below b2
      try replace hz := hz.below b2
      try replace ia := ia.below b2
      try replace ib := ib.below b2
      try replace ic := ic.below b2
      try replace iD := iD.below b2
      replace hb := below_trans hb b2
      clear b2
      obtain ⟨c0, c1, c2⟩ := three_read K0
      have lt0 := Blk.lt K0
      go_wp2_with fail
      go_region_held3 (fun w' => w'.cell? ⟨w.heap.size, 2, none⟩ = some (.slice A N c))
        (first | go_keep)
        (first
          | ((with_reducible refine (within_any n1 (N : Int) _ (by omega) (by omega)).mono ?_); rintro e w' ⟨rfl, rfl⟩; rw [HI.out])
          | ((with_reducible refine (within_any n2 (N : Int) _ (by omega) (by omega)).mono ?_); rintro e w' ⟨rfl, rfl⟩; rw [HJ.out]))
      have HNa : (z.set I true).length = N := by rw [List.length_set]; exact HN.out
      have HNc : ((z.set I true).set J true).length = N := by rw [List.length_set]; exact HNa
      have HNd : (z.set J true).length = N := by rw [List.length_set]; exact HN.out
      have QA := Lib.hid HNa
      have QC := Lib.hid HNc
      have QD := Lib.hid HNd
      clear HNa HNc HNd
      clear c0 c1 c2 lt0
      have b3 : Below w2.heap.size w2 w2.drew := below_of_drewN (n := 1) rfl
      try replace K0 := K0.below b3
      try replace Ka := Ka.below b3
      try replace Kb := Kb.below b3
      try replace Kc := Kc.below b3
      try replace Kd := Kd.below b3
      try replace hz := hz.below b3
      try replace ia := ia.below b3
      try replace ib := ib.below b3
      try replace ic := ic.below b3
      try replace iD := iD.below b3
      replace hb := below_trans hb b3
      clear b3
      obtain ⟨c0, c1, c2⟩ := three_read K0
      have lt0 := Blk.lt K0
      go_wp2_with fail
      clear c0 c1 c2 lt0
      refine (E.put_at x y A c N z I _ hz HN.out hzc HS.out I2).mono ?_
      rintro e w4 ⟨Aa, ca, rfl, ia, la, b4⟩
      try replace K0 := K0.below b4
      try replace Ka := Ka.below b4
      try replace Kb := Kb.below b4
      try replace Kc := Kc.below b4
      try replace Kd := Kd.below b4
      try replace hz := hz.below b4
      try replace ia := ia.below b4
      try replace ib := ib.below b4
      try replace ic := ic.below b4
      try replace iD := iD.below b4
      replace hb := below_trans hb b4
      clear b4
      obtain ⟨Wa, hW⟩ : ∃ W, W = w4.alloc (.cells #[.int .i64 x, .int .i64 y, .slice Aa N ca] 24) := ⟨_, rfl⟩
      obtain ⟨Ga, hG⟩ : ∃ G, G = w4.heap.size := ⟨_, rfl⟩
      have b0 : Below w4.heap.size w4 Wa := by rw [hW]; exact alloc_below _ _
      try replace K0 := K0.below b0
      try replace Ka := Ka.below b0
      try replace Kb := Kb.below b0
      try replace Kc := Kc.below b0
      try replace Kd := Kd.below b0
      try replace hz := hz.below b0
      try replace ia := ia.below b0
      try replace ib := ib.below b0
      try replace ic := ic.below b0
      try replace iD := iD.below b0
      replace hb := below_trans hb b0
      clear b0
      have Ka : Blk Wa Ga 24 #[.int .i64 x, .int .i64 y, .slice Aa N ca] := by rw [hW, hG]; exact Blk.new _ _ _
      have HWa := Lib.hid hW
      have HGa := Lib.hid hG
      clear hW hG
      go_wp2_with fail
      rw [← HWa.out, ← HGa.out]
      refine (E.put_at x y Aa ca N (z.set I true) I _ ia QA.out la HS.out I2).mono ?_
      rintro e w5 ⟨Ab, cb, rfl, ib, lb, b5⟩
      try replace K0 := K0.below b5
      try replace Ka := Ka.below b5
      try replace Kb := Kb.below b5
      try replace Kc := Kc.below b5
      try replace Kd := Kd.below b5
      try replace hz := hz.below b5
      try replace ia := ia.below b5
      try replace ib := ib.below b5
      try replace ic := ic.below b5
      try replace iD := iD.below b5
      replace hb := below_trans hb b5
      clear b5
      obtain ⟨c0, c1, c2⟩ := three_read Ka
      have lt0 := Blk.lt Ka
      obtain ⟨Wb, hW⟩ : ∃ W, W = w5.alloc (.cells #[.int .i64 x, .int .i64 y, .slice Ab N cb] 24) := ⟨_, rfl⟩
      obtain ⟨Gb, hG⟩ : ∃ G, G = w5.heap.size := ⟨_, rfl⟩
      have b0 : Below w5.heap.size w5 Wb := by rw [hW]; exact alloc_below _ _
      try replace K0 := K0.below b0
      try replace Ka := Ka.below b0
      try replace Kb := Kb.below b0
      try replace Kc := Kc.below b0
      try replace Kd := Kd.below b0
      try replace hz := hz.below b0
      try replace ia := ia.below b0
      try replace ib := ib.below b0
      try replace ic := ic.below b0
      try replace iD := iD.below b0
      replace hb := below_trans hb b0
      clear b0
      have Kb : Blk Wb Gb 24 #[.int .i64 x, .int .i64 y, .slice Ab N cb] := by rw [hW, hG]; exact Blk.new _ _ _
      have HWb := Lib.hid hW
      have HGb := Lib.hid hG
      clear hW hG
      go_wp2_with fail
      rw [← HWb.out, ← HGb.out]
      clear c0 c1 c2 lt0
      refine (E.put_at x y Aa ca N (z.set I true) J _ ia QA.out la HS.out J2).mono ?_
      rintro e w6 ⟨Ac, cc, rfl, ic, lc, b6⟩
      try replace K0 := K0.below b6
      try replace Ka := Ka.below b6
      try replace Kb := Kb.below b6
      try replace Kc := Kc.below b6
      try replace Kd := Kd.below b6
      try replace hz := hz.below b6
      try replace ia := ia.below b6
      try replace ib := ib.below b6
      try replace ic := ic.below b6
      try replace iD := iD.below b6
      replace hb := below_trans hb b6
      clear b6
      obtain ⟨c0, c1, c2⟩ := three_read K0
      have lt0 := Blk.lt K0
      obtain ⟨Wc, hW⟩ : ∃ W, W = w6.alloc (.cells #[.int .i64 x, .int .i64 y, .slice Ac N cc] 24) := ⟨_, rfl⟩
      obtain ⟨Gc, hG⟩ : ∃ G, G = w6.heap.size := ⟨_, rfl⟩
      have b0 : Below w6.heap.size w6 Wc := by rw [hW]; exact alloc_below _ _
      try replace K0 := K0.below b0
      try replace Ka := Ka.below b0
      try replace Kb := Kb.below b0
      try replace Kc := Kc.below b0
      try replace Kd := Kd.below b0
      try replace hz := hz.below b0
      try replace ia := ia.below b0
      try replace ib := ib.below b0
      try replace ic := ic.below b0
      try replace iD := iD.below b0
      replace hb := below_trans hb b0
      clear b0
      have Kc : Blk Wc Gc 24 #[.int .i64 x, .int .i64 y, .slice Ac N cc] := by rw [hW, hG]; exact Blk.new _ _ _
      have HWc := Lib.hid hW
      have HGc := Lib.hid hG
      clear hW hG
      go_wp2_with fail
      rw [← HWc.out, ← HGc.out]
      clear c0 c1 c2 lt0
      refine (E.put_at x y A c N z J _ hz HN.out hzc HS.out J2).mono ?_
      rintro e w7 ⟨Ad, cd, rfl, iD, ld, b7⟩
      try replace K0 := K0.below b7
      try replace Ka := Ka.below b7
      try replace Kb := Kb.below b7
      try replace Kc := Kc.below b7
      try replace Kd := Kd.below b7
      try replace hz := hz.below b7
      try replace ia := ia.below b7
      try replace ib := ib.below b7
      try replace ic := ic.below b7
      try replace iD := iD.below b7
      replace hb := below_trans hb b7
      clear b7
      have l0 := K0.lt
      have l1 := Ka.lt
      have l2 := Kb.lt
      have l3 := Kc.lt
      have l4 := hb.size
      obtain ⟨Wd, hW⟩ : ∃ W, W = w7.alloc (.cells #[.int .i64 x, .int .i64 y, .slice Ad N cd] 24) := ⟨_, rfl⟩
      obtain ⟨Gd, hG⟩ : ∃ G, G = w7.heap.size := ⟨_, rfl⟩
      have b0 : Below w7.heap.size w7 Wd := by rw [hW]; exact alloc_below _ _
      try replace K0 := K0.below b0
      try replace Ka := Ka.below b0
      try replace Kb := Kb.below b0
      try replace Kc := Kc.below b0
      try replace Kd := Kd.below b0
      try replace hz := hz.below b0
      try replace ia := ia.below b0
      try replace ib := ib.below b0
      try replace ic := ic.below b0
      try replace iD := iD.below b0
      replace hb := below_trans hb b0
      clear b0
      have Kd : Blk Wd Gd 24 #[.int .i64 x, .int .i64 y, .slice Ad N cd] := by rw [hW, hG]; exact Blk.new _ _ _
      have HWd := Lib.hid hW
      have HGd := Lib.hid hG
      clear hW hG
      replace l0 : w.heap.size < Gd := by rw [HGd.out]; exact l0
      replace l1 : Ga < Gd := by rw [HGd.out]; exact l1
      replace l2 : Gb < Gd := by rw [HGd.out]; exact l2
      replace l3 : Gc < Gd := by rw [HGd.out]; exact l3
      have L0 := Lib.hid l0
      have L1 := Lib.hid l1
      have L2 := Lib.hid l2
      have L3 := Lib.hid l3
      clear l0 l1 l2 l3 l4
      go_wp2_with fail
      rw [← HWd.out, ← HGd.out]
      refine (E.put_at x y Ad cd N (z.set J true) I _ iD QD.out ld HS.out I2).mono ?_
      rintro e w8 ⟨Ae, ce, rfl, ie, le', b8⟩
      try replace K0 := K0.below b8
      try replace Ka := Ka.below b8
      try replace Kb := Kb.below b8
      try replace Kc := Kc.below b8
      try replace Kd := Kd.below b8
      try replace hz := hz.below b8
      try replace ia := ia.below b8
      try replace ib := ib.below b8
      try replace ic := ic.below b8
      try replace iD := iD.below b8
      replace hb := below_trans hb b8
      clear b8
      obtain ⟨s0, s1, s2⟩ := three_stageP Kd
      obtain ⟨f0, f1, f2⟩ := three_frozenP Kd
      obtain ⟨d0, d1, d2⟩ := three_read Kd
      have lt1 := Kd.lt
      have K0' := K0.stage (g := Gd) (by have := L0.out; omega) (.int .i64 x) (.int .i64 y) (.slice Ae N ce)
      have Ka' := Ka.stage (g := Gd) (by have := L1.out; omega) (.int .i64 x) (.int .i64 y) (.slice Ae N ce)
      have Kb' := Kb.stage (g := Gd) (by have := L2.out; omega) (.int .i64 x) (.int .i64 y) (.slice Ae N ce)
      have Kc' := Kc.stage (g := Gd) (by have := L3.out; omega) (.int .i64 x) (.int .i64 y) (.slice Ae N ce)
      have Kd' := three_sets Kd (.int .i64 x) (.int .i64 y) (.slice Ae N ce)
      have hz' := hz.stage Kd (.int .i64 x) (.int .i64 y) (.slice Ae N ce)
      have ia' := ia.stage Kd (.int .i64 x) (.int .i64 y) (.slice Ae N ce)
      have ib' := ib.stage Kd (.int .i64 x) (.int .i64 y) (.slice Ae N ce)
      have ic' := ic.stage Kd (.int .i64 x) (.int .i64 y) (.slice Ae N ce)
      have ie' := ie.stage Kd (.int .i64 x) (.int .i64 y) (.slice Ae N ce)
      have hb' := below_three (g := Gd) hb (by have := L0.out; omega) (.int .i64 x) (.int .i64 y) (.slice Ae N ce)
      clear K0 Ka Kb Kc Kd hz ia ib ic iD ie hb
      obtain ⟨c0, c1, c2⟩ := three_read Kc'
      have lt0 := Blk.lt Kc'
      obtain ⟨Wz, hWz⟩ : ∃ W, W = (((w8.setCell ⟨Gd, 0, none⟩ (.int .i64 x)).setCell ⟨Gd, 1, none⟩ (.int .i64 y)).setCell ⟨Gd, 2, none⟩ (.slice Ae N ce)) := ⟨_, rfl⟩
      have HWz := Lib.hid hWz
      rw [← hWz] at K0' Ka' Kb' Kc' Kd' hz' ia' ib' ic' ie' hb'
      clear hWz
      obtain ⟨U, hU⟩ : ∃ U, gotS x y (hv ((z.set I true).set J true)) N = U := ⟨_, rfl⟩
      have HU := Lib.hid hU
      clear hU
      go_wp2_with fail
      rw [← HWz.out]
      clear c0 c1 c2 lt0 s0 s1 s2 f0 f1 f2 d0 d1 d2 lt1
      refine (E.got_at x y Ac cc N ((z.set I true).set J true) _ U ic' QC.out HS.out HU).mono ?_
      rintro e w9 ⟨rfl, b9⟩
      have HUX : X ≤ U := by
        rw [← HX.out, ← HU.out]
        exact got_up v.s0 v.u0 (fun i h => hv_set (hv_set h)) N (by rw [HP.out]; exact Nat.le_refl _)
      have eUX : decide (X ≤ U) = true := decide_eq_true HUX
      rw [List.set_set] at ib'
      rw [← set_swap] at ie'
      have K0 := K0'.below b9
      have Ka := Ka'.below b9
      have Kb := Kb'.below b9
      have Kc := Kc'.below b9
      have Kd := Kd'.below b9
      have hz := hz'.below b9
      have ia := ia'.below b9
      have ib := ib'.below b9
      have ic := ic'.below b9
      have ie := ie'.below b9
      have hb := below_trans hb' b9
      clear K0' Ka' Kb' Kc' Kd' hz' ia' ib' ic' ie' hb' b9 HWa HWb HWc HWd HWz HGa HGb HGc HGd
      obtain ⟨c0, c1, c2⟩ := three_read K0
      have lt0 := Blk.lt K0
      go_wp2_with fail
      clear c0 c1 c2 lt0
      refine (E.next_at x y A c N z _ hz HN.out HS.out).mono ?_
      rintro e w10 ⟨⟨V, T, rfl, HV⟩, b10⟩
      replace ie := ie.below b10
      try replace K0 := K0.below b10
      try replace Ka := Ka.below b10
      try replace Kb := Kb.below b10
      try replace Kc := Kc.below b10
      try replace Kd := Kd.below b10
      try replace hz := hz.below b10
      try replace ia := ia.below b10
      try replace ib := ib.below b10
      try replace ic := ic.below b10
      try replace iD := iD.below b10
      replace hb := below_trans hb b10
      clear b10
      obtain ⟨c0, c1, c2⟩ := three_read K0
      have lt0 := Blk.lt K0
      obtain ⟨a0, a1, a2⟩ := three_read Ka
      obtain ⟨p0, p1, p2⟩ := three_read Kb
      go_wp2_with fail
      clear c0 c1 c2 lt0 a0 a1 a2 p0 p1 p2
      refine (bequal_same Aa Ab (z.set I true) N N _ _ _ ia ib QA.out.symm QA.out.symm).mono ?_
      rintro e w11 ⟨rfl, m11, hw11⟩
      have b11 := below_of_drewN hw11
      replace ie := ie.below b11
      try replace K0 := K0.below b11
      try replace Ka := Ka.below b11
      try replace Kb := Kb.below b11
      try replace Kc := Kc.below b11
      try replace Kd := Kd.below b11
      try replace hz := hz.below b11
      try replace ia := ia.below b11
      try replace ib := ib.below b11
      try replace ic := ic.below b11
      try replace iD := iD.below b11
      replace hb := below_trans hb b11
      clear b11
      clear hw11
      obtain ⟨a0, a1, a2⟩ := three_read Kc
      obtain ⟨p0, p1, p2⟩ := three_read Kd
      go_wp2_with fail
      clear a0 a1 a2 p0 p1 p2
      refine (bequal_same Ac Ae ((z.set I true).set J true) N N _ _ _ ic ie QC.out.symm QC.out.symm).mono ?_
      rintro e w12 ⟨rfl, m12, hw12⟩
      have b12 := below_of_drewN hw12
      try replace K0 := K0.below b12
      try replace Ka := Ka.below b12
      try replace Kb := Kb.below b12
      try replace Kc := Kc.below b12
      try replace Kd := Kd.below b12
      try replace hz := hz.below b12
      try replace ia := ia.below b12
      try replace ib := ib.below b12
      try replace ic := ic.below b12
      try replace iD := iD.below b12
      replace hb := below_trans hb b12
      clear b12
      clear hw12 ie ia ib ic Ka Kb Kc Kd
      rcases HV.out with ⟨k, lt, rfl, rfl, no, all⟩ | ⟨rfl, rfl, all⟩
      · clear HV all
        obtain ⟨b2', o2', m, rfl, cm, HM⟩ := hz.get lt
        have hm : m = false := by have := HM.out; rw [← no]; unfold hv; rw [List.getD, this]; rfl
        subst hm
        rw [HN.out] at lt
        have k1 : (k : Int) < (N : Int) := by omega
        have k2 : decide ((k : Int) < (N : Int)) = true := decide_eq_true k1
        have k3 : (0 : Int) ≤ (k : Int) := by omega
        have k4 : decide ((0 : Int) ≤ (k : Int)) = true := decide_eq_true k3
        clear no
        obtain ⟨c0, c1, c2⟩ := three_read K0
        have lt0 := Blk.lt K0
        go_wp2
        go_ret
        exact ⟨rfl, hb⟩
      · have hUx : U = x := by
          rw [← HU.out, got_all N (fun i hi => hv_set (hv_set (all i (by rw [HN.out]; exact hi))))]
          rw [← HP.out]
          exact pc_all v.s0 v.u0
        have u0 : (U == x) = true := by rw [hUx]; simp
        have HUx := Lib.hid hUx
        clear all HV hUx
        rw [HUx.out] at u0 HUX eUX ⊢
        obtain ⟨c0, c1, c2⟩ := three_read K0
        have lt0 := Blk.lt K0
        go_wp2
        go_ret
        exact ⟨rfl, hb⟩
  · obtain ⟨X, hX⟩ : ∃ X, X = stE x y N := ⟨_, rfl⟩
    have HX := Lib.hid hX
    have n0 : (X != 0) = true := by rw [hX]; simp [hS]
    have n0' : ¬ X = 0 := by rw [hX]; exact hS
    have HS := Lib.hid hS
    clear hX hS
    subst hN
    obtain ⟨c0, c1, c2⟩ := three_read K0
    have lt0 := Blk.lt K0
    go_wp2_with fail
    clear c0 c1 c2 lt0
    refine (E.got_no x y A c z _ hz HS.out).mono ?_
    rintro e w2 ⟨rfl, b2⟩
    rw [← HX.out]
    try replace K0 := K0.below b2
    try replace Ka := Ka.below b2
    try replace Kb := Kb.below b2
    try replace Kc := Kc.below b2
    try replace Kd := Kd.below b2
    try replace hz := hz.below b2
    try replace ia := ia.below b2
    try replace ib := ib.below b2
    try replace ic := ic.below b2
    try replace iD := iD.below b2
    replace hb := below_trans hb b2
    clear b2
    clear HX HS
    obtain ⟨c0, c1, c2⟩ := three_read K0
    have lt0 := Blk.lt K0
    go_wp2
    go_ret
    exact ⟨rfl, hb⟩

end Go.Proofs.Ytmefekgbljhclaa
