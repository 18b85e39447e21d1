
/-
  The law PieceMoves over what package piece owes.
-/
import Derived.Test.YtmefekgbljhclaaPieE
namespace Go.Proofs.Ytmefekgbljhclaa
set_option linter.all false
open Go.RowKit Go.Shelf Go.Lib

theorem bls_put {w : World} {base : Nat} {e : TypeId} {Q : Option Addr} {r : Nat} {z : List Bool} {I : Nat} (h : w.ownsRow base e 1 (.slice Q z.length r) z.length (z.map Value.bool)) (hI : I < z.length) :
    ∃ g, Q = some ⟨g, 0, none⟩ ∧ base ≤ g ∧ g < w.heap.size ∧ w.cell? ⟨g, I, none⟩ = some (.bool (hv z I)) ∧ w.frozen? ⟨g, I, none⟩ = false ∧ Bls (w.setCell ⟨g, I, none⟩ (.bool true)) (some ⟨g, 0, none⟩) (z.set I true) := by
  rcases h.2 with ⟨hv0, h0⟩ | ⟨g, cap, cur, hv0, hg, hh, hn, hm, hs, ht⟩
  · omega
  · have hA : Q = some ⟨g, 0, none⟩ := by injection hv0
    subst hA
    have K : Blk w g e cur := hh
    have hc : ∀ j, j < z.length → cur[j]? = some (.bool (z.getD j false)) := fun j hj => by
      have hc := h.cells (g := g) rfl j (.bool (z.getD j false)) (by simp [List.getD, List.getElem?_eq_getElem hj])
      rw [← K.cell j]
      by_cases h0 : j = 0
      · subst h0; simpa [Addr.add] using hc
      · simpa [Addr.add, h0] using hc
    refine ⟨g, rfl, hg, K.lt, by rw [K.cell, hc I hI]; rfl, K.frozen I, by simp; unfold maxLen at hm; omega, fun _ => ⟨g, 0, rfl, fun j hj => ?_⟩⟩
    rw [List.length_set] at hj
    rw [Nat.zero_add, (K.set_ I (.bool true)).cell j, Array.getElem?_setIfInBounds]
    have hs' : j < cur.size := by have := hc j hj; exact (Array.getElem?_eq_some_iff.1 this).1
    by_cases c : I = j
    · subst c
      rw [if_pos rfl, if_pos hs']
      simp [List.getD, hj]
    · rw [if_neg c, hc j hj]
      simp [List.getD, List.getElem?_set, c]

/-- What Next answers. -/
def NxIs (z : List Bool) (V T : Int) : Prop := (∃ k : Nat, k < z.length ∧ V = k ∧ T = 0 ∧ hv z k = false ∧ ∀ j, j < k → hv z j = true) ∨ (V = 0 ∧ T = 5 ∧ ∀ j, j < z.length → hv z j = true)
theorem PieceC.next_any (E : PieceC) (s u : Int) (A : Option Addr) (c : Nat) (z : List Bool) (w : World) (h : Bls w A z) (h0 : stE s u z.length = 0) : Calls Try.prog 23 #[.agg #[.int .i64 s, .int .i64 u, .slice A z.length c]] w fun e w' => (∃ V T : Int, e = .returned (.tuple #[.int .i64 V, .int .i64 T]) ∧ Hid (NxIs z V T)) ∧ Below w.heap.size w w' := by
  refine (E.next s u A c z w h h0).mono ?_
  rintro e w' ⟨⟨i, hi, no, all, he⟩ | ⟨all, he⟩, b⟩
  · exact ⟨⟨_, _, he, Lib.hid (Or.inl ⟨i, hi, rfl, rfl, no, all⟩)⟩, b⟩
  · exact ⟨⟨_, _, he, Lib.hid (Or.inr ⟨rfl, rfl, all⟩)⟩, b⟩
theorem hv_get {z : List Bool} {k : Nat} (hk : k < z.length) (h : hv z k = true) : z[k]? = some true := by
  unfold hv at h
  rw [List.getD, List.getElem?_eq_getElem hk] at h
  rw [List.getElem?_eq_getElem hk]
  simpa using h
theorem got_max {s u : Int} (v : WhOk s u) {h : Nat → Bool} {n : Nat} (hn : n ≤ pcN s u) : 0 ≤ gotS s u h n ∧ gotS s u h n ≤ 1000000 := by
  have := got_bd v.s0 v.u0 (h := h) hn
  have := v.s1
  omega
set_option maxRecDepth 100000 in
set_option maxHeartbeats 6400000 in
theorem v_PieceMoves (E : PieceC) (x y : Int) (A : Option Addr) (c : Nat) (z : List Bool) (i : Int) (w : World) (_h1 : (Lit.int .i64 x).wf = true) (_h2 : (Lit.int .i64 y).wf = true) (_h3 : (Lit.int .i64 i).wf = true) (hz : Bls w A z) (hzc : z.length ≤ c) :
    Calls Try.prog 4 #[.agg #[.int .i64 x, .int .i64 y, .slice A z.length c], .int .i64 i] w fun e w' => e = .returned (.bool true) ∧ Below w.heap.size w w' := by
  have hzl := hz.1
  go_enter Try.func4, Try.ntmps4
  by_cases hS : stE x y z.length = 0
  · have HS0 := Lib.hid hS
    obtain ⟨v, hN⟩ := st_iff.mp hS
    have n200 := pcn_max v
    rw [← hN] at n200
    have HN := Lib.hid hN.symm
    clear hN
    by_cases hi : 0 ≤ i ∧ i < z.length
    · obtain ⟨I, rfl⟩ : ∃ I : Nat, i = I := ⟨i.toNat, by omega⟩
      have hI : I < z.length := by omega
      clear hi
      go_wp2_with fail
      refine (E.put x y A c z I _ (hz.alloc _) hzc hS hI).mono ?_
      rintro e w1 ⟨B, d, rfl, o1, b1⟩
      have iB : Bls w1 B (z.set I true) := Bls.of_ownP (by rw [List.length_set]; exact o1)
      have hb : Below w.heap.size w w1 := below_of1 b1
      have K0 : Blk w1 w.heap.size 24 #[.int .i64 x, .int .i64 y, .slice A z.length c] := (Blk.new _ _ _).below b1
      have hz1 := (hz.alloc (.cells #[.int .i64 x, .int .i64 y, .slice A z.length c] 24)).below b1
      clear b1 o1 hz
      obtain ⟨c0, c1, c2⟩ := three_read K0
      have lt0 := K0.lt
      obtain ⟨W, hW⟩ : ∃ W, W = w1.alloc (.cells #[.int .i64 x, .int .i64 y, .slice B z.length d] 24) := ⟨_, rfl⟩
      obtain ⟨G, hG⟩ : ∃ G, G = w1.heap.size := ⟨_, rfl⟩
      have K1 : Blk W G 24 #[.int .i64 x, .int .i64 y, .slice B z.length d] := by rw [hW, hG]; exact Blk.new _ _ _
      replace K0 : Blk W w.heap.size 24 #[.int .i64 x, .int .i64 y, .slice A z.length c] := by rw [hW]; exact K0.alloc _
      replace hz1 : Bls W A z := by rw [hW]; exact hz1.alloc _
      replace iB : Bls W B (z.set I true) := by rw [hW]; exact iB.alloc _
      replace hb : Below w.heap.size w W := by rw [hW]; exact hb.alloc hb.size _
      have HW := Lib.hid hW
      have HG := Lib.hid hG
      clear hW hG
      go_wp2_with fail
      rw [← HW.out, ← HG.out]
      clear c0 c1 c2 lt0
      refine (E.next_any x y A c z _ hz1 hS).mono ?_
      rintro e w2 ⟨⟨V, T, rfl, HV⟩, b2⟩
      replace iB := iB.below b2
      replace K0 := K0.below b2
      replace K1 := K1.below b2
      replace hz1 := hz1.below b2
      replace hb := below_trans hb b2
      clear b2
      obtain ⟨Gt, hGt⟩ : ∃ Gt, Gt = gotS x y (hv z) z.length := ⟨_, rfl⟩
      have HGt := Lib.hid hGt
      clear hGt
      obtain ⟨c0, c1, c2⟩ := three_read K0
      have lt0 := K0.lt
      go_wp2_with fail
      clear c0 c1 c2 lt0
      refine (E.got x y A c z _ hz1 hS).mono ?_
      rintro e w3 ⟨rfl, b3⟩
      rw [← HGt.out]
      replace iB := iB.below b3
      replace K0 := K0.below b3
      replace K1 := K1.below b3
      replace hz1 := hz1.below b3
      replace hb := below_trans hb b3
      clear b3
      obtain ⟨c0, c1, c2⟩ := three_read K0
      have lt0 := K0.lt
      go_wp2_with fail
      clear c0 c1 c2 lt0
      refine (refStage_any x y A c z.length 0 _ hzl HS0).mono ?_
      rintro e w4 ⟨rfl, b4⟩
      replace iB := iB.below b4
      replace K0 := K0.below b4
      replace K1 := K1.below b4
      replace hz1 := hz1.below b4
      replace hb := below_trans hb b4
      clear b4
      obtain ⟨c0, c1, c2⟩ := three_read K0
      have lt0 := K0.lt
      go_wp2_with fail
      clear c0 c1 c2 lt0
      refine (refPieces_any x y z.length _ v HN).mono ?_
      rintro e w5 ⟨P, q, rfl, o5, b5⟩
      have iP : Ints w5 P (tab z.length (pcV x y)) := Ints.of_own (by rw [length_tab]; exact o5)
      replace iB := iB.below b5
      clear o5
      replace K0 := K0.below b5
      replace K1 := K1.below b5
      replace hz1 := hz1.below b5
      replace hb := below_trans hb b5
      clear b5
      obtain ⟨c0, c1, c2⟩ := three_read K0
      have lt0 := K0.lt
      go_wp2
      go_loop [12, 69] (fun s t => ∃ k : Nat, k ≤ z.length ∧ t = .int .i64 k ∧ s = .int .i64 (gotS x y (hv z) k)) (fun _ t => z.length - (intOf t).toNat)
      case atStart => exact ⟨0, Nat.zero_le _, rfl, rfl⟩
      case round =>
        obtain ⟨k, hk, rfl, rfl⟩ := hrel
        by_cases hlt : k < z.length
        · have gm := got_max v (h := hv z) (n := k) (by rw [HN.out]; exact hk)
          obtain ⟨b1', o1', p, rfl, cp, HP⟩ := iP.at_ (k := k) (by rw [length_tab]; exact hlt)
          have hp : p = pcV x y k := by have := HP.out; rw [get_tab _ hlt] at this; exact (Option.some.inj this).symm
          have pb := pc_bd v.s0 v.u0 (i := k) (by rw [HN.out]; exact hlt)
          rw [← hp] at pb
          obtain ⟨p0, p1, _⟩ := pb
          have p2 := v.u1
          obtain ⟨b2', o2', m, rfl, cm, HM⟩ := hz1.get hlt
          have hm : hv z k = m := by have := HM.out; unfold hv; rw [List.getD, this]; rfl
          have HS2 : Hid (gotS x y (hv z) (k + 1) = gotS x y (hv z) k + if m = true then p else 0) := Lib.hid (by rw [gotS, hm, hp])
          obtain ⟨S, hS3⟩ : ∃ S, S = gotS x y (hv z) k := ⟨_, rfl⟩
          rw [← hS3] at gm HS2 ⊢
          clear hS3 hp hm
          obtain ⟨gm0, gm1⟩ := gm
          have i1 : (k : Int) < (z.length : Int) := by omega
          cases m with
          | true =>
            have HS4 : Hid (S + p = gotS x y (hv z) (k + 1)) := Lib.hid (by rw [HS2.out, if_pos rfl])
            clear HS2
            go_wp2
            go_round
            case rel => exact ⟨k + 1, by omega, by go_num, by rw [← HS4.out]⟩
            case measure => simp [intOf]; omega
          | false =>
            have HS4 : Hid (S = gotS x y (hv z) (k + 1)) := Lib.hid (by rw [HS2.out, if_neg (by decide)]; omega)
            clear HS2
            go_wp2
            go_round
            case rel => exact ⟨k + 1, by omega, by go_num, by rw [← HS4.out]⟩
            case measure => simp [intOf]; omega
        · obtain rfl : k = z.length := by omega
          rw [← HGt.out]
          clear iP
          rcases HV.out with ⟨k0, lt, rfl, rfl, no, all⟩ | ⟨rfl, rfl, all⟩
          · clear HV
            go_wp2_with fail
            refine (bindex_at A z _ c k0 _ hz1 rfl lt no all).mono ?_
            rintro e w' ⟨rfl, rfl⟩
            clear no all
            have i4 : ¬ (k0 : Int) < 0 := by omega
            have i1 : ¬ (I : Int) < 0 := by omega
            have i2 : ¬ (z.length : Int) ≤ (I : Int) := by omega
            have i3 : (I : Int) < (z.length : Int) := by omega
            have d1 : decide ((z.length : Int) ≤ (I : Int)) = false := decide_eq_false i2
            go_wp2_with fail
            refine (clone_bls A _ z c _ hz1 rfl (by omega) n200).mono ?_
            rintro e w6 ⟨Q, r, rfl, o6, b6⟩
            obtain ⟨g, rfl, gb, glt, gc, gf, gB⟩ := bls_put o6 hI
            have bS : Below w5.heap.size w5 (w6.setCell ⟨g, I, none⟩ (.bool true)) := b6.setCell (p := ⟨g, I, none⟩) gb _
            replace iB := iB.below bS
            clear c0 c1 c2 b6 o6
            replace K0 := K0.below bS
            replace K1 := K1.below bS
            replace hz1 := hz1.below bS
            replace hb := below_trans hb bS
            clear bS
            obtain ⟨c0, c1, c2⟩ := three_read K0
            have lt0 := K0.lt
            obtain ⟨e0, e1, e2⟩ := three_read K1
            have lt1 := K1.lt
            go_wp2_with fail
            refine (refSame_yes x y B (some ⟨g, 0, none⟩) _ _ d r (z.set I true) _ iB gB List.length_set.symm List.length_set.symm).mono ?_
            rintro e w8 ⟨rfl, b8⟩
            replace hb := below_trans hb b8
            clear b8 c0 c1 c2 e0 e1 e2 iB gB K0 K1 gc gf
            go_wp2
            go_ret
            exact ⟨rfl, hb⟩
          · clear HV
            go_wp2_with fail
            refine (bindex_all A z c _ hz1 (fun j hj => hv_get hj (all j hj))).mono ?_
            rintro e w' ⟨rfl, rfl⟩
            clear all
            have i1 : ¬ (I : Int) < 0 := by omega
            have i2 : ¬ (z.length : Int) ≤ (I : Int) := by omega
            have i3 : (I : Int) < (z.length : Int) := by omega
            have d1 : decide ((z.length : Int) ≤ (I : Int)) = false := decide_eq_false i2
            go_wp2_with fail
            refine (clone_bls A _ z c _ hz1 rfl (by omega) n200).mono ?_
            rintro e w6 ⟨Q, r, rfl, o6, b6⟩
            obtain ⟨g, rfl, gb, glt, gc, gf, gB⟩ := bls_put o6 hI
            have bS : Below w5.heap.size w5 (w6.setCell ⟨g, I, none⟩ (.bool true)) := b6.setCell (p := ⟨g, I, none⟩) gb _
            replace iB := iB.below bS
            clear c0 c1 c2 b6 o6
            replace K0 := K0.below bS
            replace K1 := K1.below bS
            replace hz1 := hz1.below bS
            replace hb := below_trans hb bS
            clear bS
            obtain ⟨c0, c1, c2⟩ := three_read K0
            have lt0 := K0.lt
            obtain ⟨e0, e1, e2⟩ := three_read K1
            have lt1 := K1.lt
            go_wp2_with fail
            refine (refSame_yes x y B (some ⟨g, 0, none⟩) _ _ d r (z.set I true) _ iB gB List.length_set.symm List.length_set.symm).mono ?_
            rintro e w8 ⟨rfl, b8⟩
            replace hb := below_trans hb b8
            clear b8 c0 c1 c2 e0 e1 e2 iB gB K0 K1 gc gf
            go_wp2
            go_ret
            exact ⟨rfl, hb⟩
    · go_wp2_with fail
      refine (E.put_arg x y A c z i _ (hz.alloc _) hS hi).mono ?_
      rintro e w1 ⟨⟨B, d, rfl⟩, b1⟩
      have hb : Below w.heap.size w w1 := below_of1 b1
      have K0 : Blk w1 w.heap.size 24 #[.int .i64 x, .int .i64 y, .slice A z.length c] := (Blk.new _ _ _).below b1
      have hz1 := (hz.alloc (.cells #[.int .i64 x, .int .i64 y, .slice A z.length c] 24)).below b1
      clear b1 hz
      obtain ⟨c0, c1, c2⟩ := three_read K0
      have lt0 := K0.lt
      obtain ⟨W, hW⟩ : ∃ W, W = w1.alloc (.cells #[.int .i64 0, .int .i64 0, .slice B 0 d] 24) := ⟨_, rfl⟩
      obtain ⟨G, hG⟩ : ∃ G, G = w1.heap.size := ⟨_, rfl⟩
      have K1 : Blk W G 24 #[.int .i64 0, .int .i64 0, .slice B 0 d] := by rw [hW, hG]; exact Blk.new _ _ _
      replace K0 : Blk W w.heap.size 24 #[.int .i64 x, .int .i64 y, .slice A z.length c] := by rw [hW]; exact K0.alloc _
      replace hz1 : Bls W A z := by rw [hW]; exact hz1.alloc _
      have iB : Bls W B [] := Bls.nil_ _ _
      replace hb : Below w.heap.size w W := by rw [hW]; exact hb.alloc hb.size _
      have HW := Lib.hid hW
      have HG := Lib.hid hG
      have HI := Lib.hid hi
      clear hW hG hi
      go_wp2_with fail
      rw [← HW.out, ← HG.out]
      clear c0 c1 c2 lt0
      refine (E.next_any x y A c z _ hz1 hS).mono ?_
      rintro e w2 ⟨⟨V, T, rfl, HV⟩, b2⟩
      replace iB := iB.below b2
      replace K0 := K0.below b2
      replace K1 := K1.below b2
      replace hz1 := hz1.below b2
      replace hb := below_trans hb b2
      clear b2
      obtain ⟨Gt, hGt⟩ : ∃ Gt, Gt = gotS x y (hv z) z.length := ⟨_, rfl⟩
      have HGt := Lib.hid hGt
      clear hGt
      obtain ⟨c0, c1, c2⟩ := three_read K0
      have lt0 := K0.lt
      go_wp2_with fail
      clear c0 c1 c2 lt0
      refine (E.got x y A c z _ hz1 hS).mono ?_
      rintro e w3 ⟨rfl, b3⟩
      rw [← HGt.out]
      replace iB := iB.below b3
      replace K0 := K0.below b3
      replace K1 := K1.below b3
      replace hz1 := hz1.below b3
      replace hb := below_trans hb b3
      clear b3
      obtain ⟨c0, c1, c2⟩ := three_read K0
      have lt0 := K0.lt
      go_wp2_with fail
      clear c0 c1 c2 lt0
      refine (refStage_any x y A c z.length 0 _ hzl HS0).mono ?_
      rintro e w4 ⟨rfl, b4⟩
      replace iB := iB.below b4
      replace K0 := K0.below b4
      replace K1 := K1.below b4
      replace hz1 := hz1.below b4
      replace hb := below_trans hb b4
      clear b4
      obtain ⟨c0, c1, c2⟩ := three_read K0
      have lt0 := K0.lt
      go_wp2_with fail
      clear c0 c1 c2 lt0
      refine (refPieces_any x y z.length _ v HN).mono ?_
      rintro e w5 ⟨P, q, rfl, o5, b5⟩
      have iP : Ints w5 P (tab z.length (pcV x y)) := Ints.of_own (by rw [length_tab]; exact o5)
      replace iB := iB.below b5
      clear o5
      replace K0 := K0.below b5
      replace K1 := K1.below b5
      replace hz1 := hz1.below b5
      replace hb := below_trans hb b5
      clear b5
      obtain ⟨c0, c1, c2⟩ := three_read K0
      have lt0 := K0.lt
      go_wp2
      go_loop [12, 69] (fun s t => ∃ k : Nat, k ≤ z.length ∧ t = .int .i64 k ∧ s = .int .i64 (gotS x y (hv z) k)) (fun _ t => z.length - (intOf t).toNat)
      case atStart => exact ⟨0, Nat.zero_le _, rfl, rfl⟩
      case round =>
        obtain ⟨k, hk, rfl, rfl⟩ := hrel
        by_cases hlt : k < z.length
        · have gm := got_max v (h := hv z) (n := k) (by rw [HN.out]; exact hk)
          obtain ⟨b1', o1', p, rfl, cp, HP⟩ := iP.at_ (k := k) (by rw [length_tab]; exact hlt)
          have hp : p = pcV x y k := by have := HP.out; rw [get_tab _ hlt] at this; exact (Option.some.inj this).symm
          have pb := pc_bd v.s0 v.u0 (i := k) (by rw [HN.out]; exact hlt)
          rw [← hp] at pb
          obtain ⟨p0, p1, _⟩ := pb
          have p2 := v.u1
          obtain ⟨b2', o2', m, rfl, cm, HM⟩ := hz1.get hlt
          have hm : hv z k = m := by have := HM.out; unfold hv; rw [List.getD, this]; rfl
          have HS2 : Hid (gotS x y (hv z) (k + 1) = gotS x y (hv z) k + if m = true then p else 0) := Lib.hid (by rw [gotS, hm, hp])
          obtain ⟨S, hS3⟩ : ∃ S, S = gotS x y (hv z) k := ⟨_, rfl⟩
          rw [← hS3] at gm HS2 ⊢
          clear hS3 hp hm
          obtain ⟨gm0, gm1⟩ := gm
          have i1 : (k : Int) < (z.length : Int) := by omega
          cases m with
          | true =>
            have HS4 : Hid (S + p = gotS x y (hv z) (k + 1)) := Lib.hid (by rw [HS2.out, if_pos rfl])
            clear HS2
            go_wp2
            go_round
            case rel => exact ⟨k + 1, by omega, by go_num, by rw [← HS4.out]⟩
            case measure => simp [intOf]; omega
          | false =>
            have HS4 : Hid (S = gotS x y (hv z) (k + 1)) := Lib.hid (by rw [HS2.out, if_neg (by decide)]; omega)
            clear HS2
            go_wp2
            go_round
            case rel => exact ⟨k + 1, by omega, by go_num, by rw [← HS4.out]⟩
            case measure => simp [intOf]; omega
        · obtain rfl : k = z.length := by omega
          rw [← HGt.out]
          clear iP
          rcases HV.out with ⟨k0, lt, rfl, rfl, no, all⟩ | ⟨rfl, rfl, all⟩
          · clear HV
            go_wp2_with fail
            refine (bindex_at A z _ c k0 _ hz1 rfl lt no all).mono ?_
            rintro e w' ⟨rfl, rfl⟩
            clear no all
            have i4 : ¬ (k0 : Int) < 0 := by omega
            by_cases h : i < 0
            · have d1 : decide (i < 0) = true := decide_eq_true h
              obtain ⟨e0, e1, e2⟩ := three_read K1
              have lt1 := K1.lt
              go_wp2_with fail
              refine (refSame_yes 0 0 B none 0 0 d 0 [] _ (Bls.nil_ _ _) (Bls.nil_ _ _) rfl rfl).mono ?_
              rintro e w8 ⟨rfl, b8⟩
              replace hb := below_trans hb b8
              clear b8 c0 c1 c2 e0 e1 e2 K0 K1
              go_wp2
              go_ret
              exact ⟨rfl, hb⟩
            · have i2 : (z.length : Int) ≤ i := by have := HI.out; omega
              have d1 : decide (i < 0) = false := decide_eq_false h
              have d2 : decide ((z.length : Int) ≤ i) = true := decide_eq_true i2
              obtain ⟨e0, e1, e2⟩ := three_read K1
              have lt1 := K1.lt
              go_wp2_with fail
              refine (refSame_yes 0 0 B none 0 0 d 0 [] _ (Bls.nil_ _ _) (Bls.nil_ _ _) rfl rfl).mono ?_
              rintro e w8 ⟨rfl, b8⟩
              replace hb := below_trans hb b8
              clear b8 c0 c1 c2 e0 e1 e2 K0 K1
              go_wp2
              go_ret
              exact ⟨rfl, hb⟩
          · clear HV
            go_wp2_with fail
            refine (bindex_all A z c _ hz1 (fun j hj => hv_get hj (all j hj))).mono ?_
            rintro e w' ⟨rfl, rfl⟩
            clear all
            by_cases h : i < 0
            · have d1 : decide (i < 0) = true := decide_eq_true h
              obtain ⟨e0, e1, e2⟩ := three_read K1
              have lt1 := K1.lt
              go_wp2_with fail
              refine (refSame_yes 0 0 B none 0 0 d 0 [] _ (Bls.nil_ _ _) (Bls.nil_ _ _) rfl rfl).mono ?_
              rintro e w8 ⟨rfl, b8⟩
              replace hb := below_trans hb b8
              clear b8 c0 c1 c2 e0 e1 e2 K0 K1
              go_wp2
              go_ret
              exact ⟨rfl, hb⟩
            · have i2 : (z.length : Int) ≤ i := by have := HI.out; omega
              have d1 : decide (i < 0) = false := decide_eq_false h
              have d2 : decide ((z.length : Int) ≤ i) = true := decide_eq_true i2
              obtain ⟨e0, e1, e2⟩ := three_read K1
              have lt1 := K1.lt
              go_wp2_with fail
              refine (refSame_yes 0 0 B none 0 0 d 0 [] _ (Bls.nil_ _ _) (Bls.nil_ _ _) rfl rfl).mono ?_
              rintro e w8 ⟨rfl, b8⟩
              replace hb := below_trans hb b8
              clear b8 c0 c1 c2 e0 e1 e2 K0 K1
              go_wp2
              go_ret
              exact ⟨rfl, hb⟩
  · obtain ⟨X, hX⟩ : ∃ X, X = stE x y z.length := ⟨_, rfl⟩
    have HX := Lib.hid hX
    have HX' := Lib.hid hX.symm
    have n0 : (X != 0) = true := by rw [hX]; simp [hS]
    have n0' : ¬ X = 0 := by rw [hX]; exact hS
    have HS := Lib.hid hS
    clear hX hS
    go_wp2_with fail
    refine (E.put_no x y A c z i _ (hz.alloc _) HS.out).mono ?_
    rintro e w1 ⟨⟨B, d, rfl⟩, b1⟩
    rw [← HX.out]
    have hb : Below w.heap.size w w1 := below_of1 b1
    have K0 : Blk w1 w.heap.size 24 #[.int .i64 x, .int .i64 y, .slice A z.length c] := (Blk.new _ _ _).below b1
    have hz1 := (hz.alloc (.cells #[.int .i64 x, .int .i64 y, .slice A z.length c] 24)).below b1
    clear b1 hz
    obtain ⟨c0, c1, c2⟩ := three_read K0
    have lt0 := K0.lt
    obtain ⟨W, hW⟩ : ∃ W, W = w1.alloc (.cells #[.int .i64 0, .int .i64 0, .slice B 0 d] 24) := ⟨_, rfl⟩
    obtain ⟨G, hG⟩ : ∃ G, G = w1.heap.size := ⟨_, rfl⟩
    have K1 : Blk W G 24 #[.int .i64 0, .int .i64 0, .slice B 0 d] := by rw [hW, hG]; exact Blk.new _ _ _
    replace K0 : Blk W w.heap.size 24 #[.int .i64 x, .int .i64 y, .slice A z.length c] := by rw [hW]; exact K0.alloc _
    replace hz1 : Bls W A z := by rw [hW]; exact hz1.alloc _
    replace hb : Below w.heap.size w W := by rw [hW]; exact hb.alloc hb.size _
    have HW := Lib.hid hW
    have HG := Lib.hid hG
    clear hW hG
    go_wp2_with fail
    rw [← HW.out, ← HG.out]
    clear c0 c1 c2 lt0
    refine (E.next_no x y A c z _ hz1 HS.out).mono ?_
    rintro e w2 ⟨rfl, b2⟩
    rw [← HX.out]
    replace K0 := K0.below b2
    replace K1 := K1.below b2
    replace hz1 := hz1.below b2
    replace hb := below_trans hb b2
    clear b2
    obtain ⟨c0, c1, c2⟩ := three_read K0
    have lt0 := K0.lt
    go_wp2_with fail
    clear c0 c1 c2 lt0
    refine (E.got_no x y A c z _ hz1 HS.out).mono ?_
    rintro e w3 ⟨rfl, b3⟩
    rw [← HX.out]
    replace K0 := K0.below b3
    replace K1 := K1.below b3
    replace hz1 := hz1.below b3
    replace hb := below_trans hb b3
    clear b3
    obtain ⟨c0, c1, c2⟩ := three_read K0
    have lt0 := K0.lt
    go_wp2_with fail
    clear c0 c1 c2 lt0
    refine (refStage_any x y A c z.length X _ hzl HX').mono ?_
    rintro e w4 ⟨rfl, b4⟩
    replace K0 := K0.below b4
    replace K1 := K1.below b4
    replace hz1 := hz1.below b4
    replace hb := below_trans hb b4
    clear b4
    clear HX HX' HS HW HG
    obtain ⟨c0, c1, c2⟩ := three_read K0
    have lt0 := K0.lt
    obtain ⟨e0, e1, e2⟩ := three_read K1
    have lt1 := K1.lt
    go_wp2_with fail
    refine (refSame_yes 0 0 B none 0 0 d 0 [] _ (Bls.nil_ _ _) (Bls.nil_ _ _) rfl rfl).mono ?_
    rintro e w8 ⟨rfl, b8⟩
    replace hb := below_trans hb b8
    clear b8 c0 c1 c2 e0 e1 e2 K0 K1
    go_wp2
    go_ret
    exact ⟨rfl, hb⟩

end Go.Proofs.Ytmefekgbljhclaa
