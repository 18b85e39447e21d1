
/-
  The walk of the law ListsOwn.
-/
import Derived.Test.YtnpdcllfdoobeaaOwnV
namespace Go.Proofs.Ytnpdcllfdoobeaa
set_option linter.all false
open Go.RowKit Go.Shelf Go.Lib

set_option maxRecDepth 100000 in
set_option maxHeartbeats 8000000 in
theorem walk_ListsOwn (a1 : Option Addr) (c1 : Nat) (t : List Tk) (sx sy : Int) (a2 : Option Addr) (c2 : Nat) (z : List Bool) (i : Int) (a3 : Option Addr) (c3 : Nat) (l : List Lz) (x1 x2 x3 : Int) (now : Int) (w : World)
    (h1 : Tas w a1 t) (_k1 : t.length ≤ c1) (n1 : a1 = none → c1 = 0) (s1 : 24 * t.length ≤ 140737488351232)
    (_wx : (Lit.int .i64 sx).wf = true) (_wy : (Lit.int .i64 sy).wf = true) (h2 : Bls w a2 z) (_k2 : z.length ≤ c2) (n2 : a2 = none → c2 = 0) (s2 : z.length ≤ 140737488351232)
    (_wi : (Lit.int .i64 i).wf = true)
    (h3 : Les w a3 l) (_k3 : l.length ≤ c3) (n3 : a3 = none → c3 = 0) (s3 : 24 * l.length ≤ 140737488351232)
    (_wx1 : (Lit.int .i64 x1).wf = true) (_wx2 : (Lit.int .i64 x2).wf = true) (_wx3 : (Lit.int .i64 x3).wf = true) (_wn : (Lit.int .i64 now).wf = true) :
    Calls Try.prog 12 #[.slice a1 t.length c1, .agg #[.int .i64 sx, .int .i64 sy, .slice a2 z.length c2], .int .i64 i, .slice a3 l.length c3, .agg #[.int .i64 x1, .int .i64 x2, .int .i64 x3], .int .i64 now] w fun e w' => e = .returned (.bool true) ∧ Below w.heap.size w w' := by
  obtain ⟨x, hX⟩ : ∃ X : Lz, X = ⟨x1, x2, x3⟩ := ⟨_, rfl⟩
  obtain ⟨rfl, rfl, rfl⟩ : x1 = x.who ∧ x2 = x.till ∧ x3 = x.pin := by subst hX; exact ⟨rfl, rfl, rfl⟩
  clear hX
  have E0 : Hid (tkE ⟨0, 0, 0⟩ [] = 0) := Lib.hid (by decide)
  have L0 : Hid (takeL ⟨0, 0, 0⟩ [] = [⟨0, 0, 0⟩]) := Lib.hid (by rfl)
  obtain ⟨bs, hbs⟩ : ∃ bs, bs = w.heap.size := ⟨_, rfl⟩
  have HBS := Lib.hid hbs
  obtain ⟨W, hW⟩ : ∃ W, W = (w.alloc (.cells #[.int .i64 sx, .int .i64 sy, .slice a2 z.length c2] 64)).alloc (.cells #[.int .i64 x.who, .int .i64 x.till, .int .i64 x.pin] 35) := ⟨_, rfl⟩
  have hb : Below w.heap.size w W := by rw [hW]; exact ((Below.refl _ _).alloc (Nat.le_refl _) _).alloc (by simp) _
  have Bs : Blk W bs 64 #[.int .i64 sx, .int .i64 sy, .slice a2 z.length c2] := by rw [hW, hbs]; exact (Blk.new _ _ _).alloc _
  have Bx : Blk W (bs + 1) 35 #[.int .i64 x.who, .int .i64 x.till, .int .i64 x.pin] := by
    have q := Blk.new (w.alloc (.cells #[.int .i64 sx, .int .i64 sy, .slice a2 z.length c2] 64)) 35 #[.int .i64 x.who, .int .i64 x.till, .int .i64 x.pin]
    rw [hW, hbs]; simpa using q
  have lo : w.heap.size ≤ bs := by omega
  have HW := Lib.hid hW
  clear hbs hW
  go_enter Try.func12, Try.ntmps12
  go_wp2_with fail
  rw [← HW.out, ← HBS.out]
  refine (take_yes none [] ⟨0, 0, 0⟩ 0 0 _ (Les.nil_ _ _) rfl E0).mono ?_
  rintro e w1 ⟨A1, d1, rfl, o1, b1⟩
  rw [L0.out]
  replace Bs := Bs.below b1
  replace Bx := Bx.below b1
  replace hb := below_trans hb b1
  clear o1 b1 E0 L0
  obtain ⟨bm, hbm⟩ : ∃ bm, bm = w1.heap.size := ⟨_, rfl⟩
  obtain ⟨W2, hW2⟩ : ∃ W, W = w1.alloc (.cells #[.int .i64 99, .int .i64 0, .int .i64 0] 35) := ⟨_, rfl⟩
  have bW2 : Below w1.heap.size w1 W2 := by rw [hW2]; exact (Below.refl _ _).alloc (Nat.le_refl _) _
  have Bm : Blk W2 bm 35 #[.int .i64 99, .int .i64 0, .int .i64 0] := by rw [hW2, hbm]; exact Blk.new _ _ _
  replace Bs := Bs.below bW2
  replace Bx := Bx.below bW2
  replace hb := below_trans hb bW2
  have hl2 := h3.below hb
  have HBM := Lib.hid hbm
  have HW2 := Lib.hid hW2
  clear hbm hW2 bW2
  go_wp2_with fail
  rw [← HW2.out, ← HBM.out]
  refine (roomyl_at a3 l _ c3 ⟨99, 0, 0⟩ _ hl2 rfl n3 (by omega)).mono ?_
  rintro e w3 ⟨gi, rfl, hgi, Bi, b3⟩
  replace Bs := Bs.below b3
  replace Bx := Bx.below b3
  replace Bm := Bm.below b3
  have gi0 : w.heap.size ≤ gi := Nat.le_trans hb.size hgi
  replace hb := below_trans hb b3
  have ht3 := h1.below hb
  clear b3 hl2 hgi
  go_wp2_with fail
  refine (roomyt_at a1 t _ c1 ⟨0, 99, 0⟩ _ ht3 rfl n1 (by omega)).mono ?_
  rintro e w4 ⟨gt, rfl, hgt, Bt, b4⟩
  replace Bs := Bs.below b4
  replace Bx := Bx.below b4
  replace Bm := Bm.below b4
  replace Bi := Bi.below b4
  have gt0 : w.heap.size ≤ gt := Nat.le_trans hb.size hgt
  replace hb := below_trans hb b4
  clear b4 ht3 hgt
  obtain ⟨r0, r1, r2⟩ := three_read Bs
  obtain ⟨bst, hbst⟩ : ∃ bst, bst = w4.heap.size := ⟨_, rfl⟩
  obtain ⟨W5, hW5⟩ : ∃ W, W = w4.alloc (.cells #[.int .i64 sx, .int .i64 sy, .slice a2 z.length c2] 64) := ⟨_, rfl⟩
  have bW5 : Below w4.heap.size w4 W5 := by rw [hW5]; exact (Below.refl _ _).alloc (Nat.le_refl _) _
  have Bst : Blk W5 bst 64 #[.int .i64 sx, .int .i64 sy, .slice a2 z.length c2] := by rw [hW5, hbst]; exact Blk.new _ _ _
  have bst0 : w.heap.size ≤ bst := by have := hb.size; omega
  have ltS := Bs.lt
  have ltX := Bx.lt
  have ltM := Bm.lt
  have ltI := Bi.lt
  have ltT := Bt.lt
  have neS : bs ≠ bst := by omega
  have neX : bs + 1 ≠ bst := by omega
  have neM : bm ≠ bst := by omega
  have neI : gi ≠ bst := by omega
  have neT : gt ≠ bst := by omega
  replace Bs := Bs.below bW5
  replace Bx := Bx.below bW5
  replace Bm := Bm.below bW5
  replace Bi := Bi.below bW5
  replace Bt := Bt.below bW5
  replace hb := below_trans hb bW5
  have hz5 := h2.below hb
  have HST := Lib.hid hbst
  have HW5 := Lib.hid hW5
  clear hbst hW5 bW5 ltX ltM ltI ltT
  obtain ⟨p0, p1, p2⟩ := three_read Bs
  go_wp2_with fail
  rw [← HW5.out, ← HST.out]
  refine (roomyb_any a2 z c2 true _ hz5 n2 (by omega)).mono ?_
  rintro e w6 ⟨gh, rfl, hgh, Bh, b6⟩
  have ltst := Bst.lt
  have neH : gh ≠ bst := by omega
  replace Bst := Bst.below b6
  have gh0 : w.heap.size ≤ gh := Nat.le_trans hb.size hgh
  replace Bs := Bs.below b6
  replace Bx := Bx.below b6
  replace Bm := Bm.below b6
  replace Bi := Bi.below b6
  replace Bt := Bt.below b6
  replace hb := below_trans hb b6
  clear b6 hz5 hgh p0 p1 p2 r0 r1 r2 ltst ltS
  obtain ⟨p0, p1, p2⟩ := three_read Bst
  have f2 := Bst.frozen 2
  obtain ⟨V, hV⟩ : ∃ V : Value, V = .slice (some ⟨gh, 0, none⟩) z.length (z.length + 3) := ⟨_, rfl⟩
  have st3 := three_set Bst
  obtain ⟨W7, hW7⟩ : ∃ W, W = w6.setCell ⟨bst, 2, none⟩ V := ⟨_, rfl⟩
  have Bst7 : Blk W7 bst 64 #[.int .i64 sx, .int .i64 sy, V] := by
    have := Bst.set_ 2 V
    rw [hW7]; simpa using this
  have Bs7 : Blk W7 bs 64 #[.int .i64 sx, .int .i64 sy, .slice a2 z.length c2] := by rw [hW7]; exact Bs.past (a := ⟨bst, 2, none⟩) neS V
  have Bx7 : Blk W7 (bs + 1) 35 #[.int .i64 x.who, .int .i64 x.till, .int .i64 x.pin] := by rw [hW7]; exact Bx.past (a := ⟨bst, 2, none⟩) neX V
  have Bm7 : Blk W7 bm 35 #[.int .i64 99, .int .i64 0, .int .i64 0] := by rw [hW7]; exact Bm.past (a := ⟨bst, 2, none⟩) neM V
  have Bi7 : Blk W7 gi 35 (lcs (l ++ [⟨99, 0, 0⟩, ⟨99, 0, 0⟩, ⟨99, 0, 0⟩])).toArray := by rw [hW7]; exact Bi.past (a := ⟨bst, 2, none⟩) neI V
  have Bt7 : Blk W7 gt 68 (qcs (t ++ [⟨0, 99, 0⟩, ⟨0, 99, 0⟩, ⟨0, 99, 0⟩])).toArray := by rw [hW7]; exact Bt.past (a := ⟨bst, 2, none⟩) neT V
  have Bh7 : Blk W7 gh 4 ((z ++ [true, true, true]).map Value.bool).toArray := by rw [hW7]; exact Bh.past (a := ⟨bst, 2, none⟩) neH V
  have hb7 : Below w.heap.size w W7 := by rw [hW7]; exact hb.setCell (p := ⟨bst, 2, none⟩) bst0 V
  rw [hV] at Bst7
  have HV := Lib.hid hV
  have HW7 := Lib.hid hW7
  have lz := h2.1
  have ll := h3.le
  have lt' := h1.le
  obtain ⟨y0, y1, y2⟩ := three_read Bx
  have neX' : ¬ bs + 1 = bst := neX
  clear hV hW7 Bst Bs Bx Bm Bi Bt Bh hb neS neX neM neI neT neH
  have Bst := Bst7
  have Bs := Bs7
  have Bx := Bx7
  have Bm := Bm7
  have Bi := Bi7
  have Bt := Bt7
  have Bh := Bh7
  have hb := hb7
  clear Bst7 Bs7 Bx7 Bm7 Bi7 Bt7 Bh7 hb7
  have q1 := Bi.lt
  have q2 := Bt.lt
  have q3 := Bh.lt
  have bl := hb.size
  have ii := lRoom Bi h3.le
  go_wp2_with fail
  rw [← HV.out, ← HW7.out]
  refine (take_own (some ⟨gi, 0, none⟩) l x _ _ _ ii rfl).mono ?_
  rintro e w8 ⟨Aa, ca, Ea, La, rfl, oa, la, b8⟩
  have aa : ∀ g, (Value.slice Aa La.length ca).ownBlock = some g → g < w8.heap.size := fun g e => (oa.lt g e).2
  have AA := Lib.hid aa
  have z8 := b8.size
  replace Bs := Bs.below b8
  replace Bx := Bx.below b8
  replace Bm := Bm.below b8
  replace Bi := Bi.below b8
  replace Bt := Bt.below b8
  replace hb := below_trans hb b8
  replace Bh := Bh.below b8
  replace Bst := Bst.below b8
  clear b8 ii y0 y1 y2 p0 p1 p2 f2 st3 neX' aa
  have ii := lRoom Bi h3.le
  go_wp2_with fail
  refine (live_own (some ⟨gi, 0, none⟩) l _ _ now _ ii rfl).mono ?_
  rintro e w9 ⟨Ab, cb, Eb, Lb, rfl, ob, lb, b9⟩
  have bb : ∀ g, (Value.slice Ab Lb.length cb).ownBlock = some g → g < w9.heap.size := fun g e => (ob.lt g e).2
  have BB := Lib.hid bb
  have z9 := b9.size
  replace Bs := Bs.below b9
  replace Bx := Bx.below b9
  replace Bm := Bm.below b9
  replace Bi := Bi.below b9
  replace Bt := Bt.below b9
  replace hb := below_trans hb b9
  replace Bh := Bh.below b9
  replace Bst := Bst.below b9
  replace oa := own_belL oa b9
  clear b9 ii bb
  have ii := lRoom Bi h3.le
  go_wp2_with fail
  refine (cut_own (some ⟨gi, 0, none⟩) l _ _ now 0 _ ii rfl).mono ?_
  rintro e w10 ⟨Ac, cc, Ec, Lc, rfl, oc, lc, b10⟩
  have z10 := b10.size
  replace Bs := Bs.below b10
  replace Bx := Bx.below b10
  replace Bm := Bm.below b10
  replace Bi := Bi.below b10
  replace Bt := Bt.below b10
  replace hb := below_trans hb b10
  replace Bh := Bh.below b10
  replace Bst := Bst.below b10
  replace oa := own_belL oa b10
  replace ob := own_belL ob b10
  clear b10 ii
  have it := tRoom Bt h1.le
  go_wp2_with fail
  refine (order_own (some ⟨gt, 0, none⟩) t _ _ _ it rfl).mono ?_
  rintro e w11 ⟨Ad, cd, Ed, Ld, rfl, od, ld, b11⟩
  have z11 := b11.size
  replace Bs := Bs.below b11
  replace Bx := Bx.below b11
  replace Bm := Bm.below b11
  replace Bi := Bi.below b11
  replace Bt := Bt.below b11
  replace hb := below_trans hb b11
  replace Bh := Bh.below b11
  replace Bst := Bst.below b11
  replace oa := own_belL oa b11
  replace ob := own_belL ob b11
  replace oc := own_belL oc b11
  clear b11 it
  obtain ⟨p0, p1, p2⟩ := three_read Bst
  have ih := Bls.of_room Bh lz
  go_wp2_with fail
  refine (put_own sx sy (some ⟨gh, 0, none⟩) _ (z.length + 3) z i _ ih rfl (by omega)).mono ?_
  rintro e w12 ⟨es, eu, Ae, ce, Le', Ee, rfl, oe, le', b12⟩
  have z12 := b12.size
  replace Bs := Bs.below b12
  replace Bx := Bx.below b12
  replace Bm := Bm.below b12
  replace Bi := Bi.below b12
  replace Bt := Bt.below b12
  replace hb := below_trans hb b12
  replace Bh := Bh.below b12
  replace Bst := Bst.below b12
  replace oa := own_belL oa b12
  replace ob := own_belL ob b12
  replace oc := own_belL oc b12
  replace od := own_belL od b12
  clear b12 ih p0 p1 p2
  obtain ⟨be, hbe⟩ : ∃ be, be = w12.heap.size := ⟨_, rfl⟩
  obtain ⟨W13, hW13⟩ : ∃ W, W = w12.alloc (.cells #[.int .i64 es, .int .i64 eu, .slice Ae Le'.length ce] 64) := ⟨_, rfl⟩
  have bW13 : Below w12.heap.size w12 W13 := by rw [hW13]; exact (Below.refl _ _).alloc (Nat.le_refl _) _
  have Be : Blk W13 be 64 #[.int .i64 es, .int .i64 eu, .slice Ae Le'.length ce] := by rw [hW13, hbe]; exact Blk.new _ _ _
  have z13 := bW13.size
  replace Bs := Bs.below bW13
  replace Bx := Bx.below bW13
  replace Bm := Bm.below bW13
  replace Bi := Bi.below bW13
  replace Bt := Bt.below bW13
  replace hb := below_trans hb bW13
  replace Bh := Bh.below bW13
  replace Bst := Bst.below bW13
  replace oa := own_belL oa bW13
  replace ob := own_belL ob bW13
  replace oc := own_belL oc bW13
  replace od := own_belL od bW13
  replace oe := own_belL oe bW13
  have HBE := Lib.hid hbe
  have HW13 := Lib.hid hW13
  have i3 := h3.below hb
  have ii := lRoom Bi h3.le
  clear hbe hW13 bW13
  go_wp2_with fail
  rw [← HW13.out, ← HBE.out]
  refine (leSame (some ⟨gi, 0, none⟩) a3 l _ _ _ _ _ ii i3 rfl rfl).mono ?_
  rintro e w14 ⟨rfl, m14, hw14⟩
  have b14 := below_of_drewN hw14
  have z14 := b14.size
  replace Bs := Bs.below b14
  replace Bx := Bx.below b14
  replace Bm := Bm.below b14
  replace Bi := Bi.below b14
  replace Bt := Bt.below b14
  replace hb := below_trans hb b14
  replace Bh := Bh.below b14
  replace Bst := Bst.below b14
  replace oa := own_belL oa b14
  replace ob := own_belL ob b14
  replace oc := own_belL oc b14
  replace od := own_belL od b14
  replace oe := own_belL oe b14
  replace Be := Be.below b14
  clear b14 hw14 ii i3
  obtain ⟨p0, p1, p2⟩ := three_read Bm
  go_wp2_with fail
  refine (markedl_at gi l _ _ ⟨99, 0, 0⟩ _ Bi rfl rfl (by omega)).mono ?_
  rintro e w15 ⟨rfl, b15⟩
  have z15 := b15.size
  replace Bs := Bs.below b15
  replace Bx := Bx.below b15
  replace Bm := Bm.below b15
  replace Bi := Bi.below b15
  replace Bt := Bt.below b15
  replace hb := below_trans hb b15
  replace Bh := Bh.below b15
  replace Bst := Bst.below b15
  replace oa := own_belL oa b15
  replace ob := own_belL ob b15
  replace oc := own_belL oc b15
  replace od := own_belL od b15
  replace oe := own_belL oe b15
  replace Be := Be.below b15
  clear b15 p0 p1 p2
  have it := tRoom Bt h1.le
  have i1 := h1.below hb
  go_wp2_with fail
  refine (taSame (some ⟨gt, 0, none⟩) a1 t _ _ _ _ _ it i1 rfl rfl).mono ?_
  rintro e w16 ⟨rfl, m16, hw16⟩
  have b16 := below_of_drewN hw16
  have z16 := b16.size
  replace Bs := Bs.below b16
  replace Bx := Bx.below b16
  replace Bm := Bm.below b16
  replace Bi := Bi.below b16
  replace Bt := Bt.below b16
  replace hb := below_trans hb b16
  replace Bh := Bh.below b16
  replace Bst := Bst.below b16
  replace oa := own_belL oa b16
  replace ob := own_belL ob b16
  replace oc := own_belL oc b16
  replace od := own_belL od b16
  replace oe := own_belL oe b16
  replace Be := Be.below b16
  clear b16 hw16 it i1
  go_wp2_with fail
  refine (markedt_at gt t _ _ ⟨0, 99, 0⟩ _ Bt rfl rfl (by omega)).mono ?_
  rintro e w17 ⟨rfl, b17⟩
  have z17 := b17.size
  replace Bs := Bs.below b17
  replace Bx := Bx.below b17
  replace Bm := Bm.below b17
  replace Bi := Bi.below b17
  replace Bt := Bt.below b17
  replace hb := below_trans hb b17
  replace Bh := Bh.below b17
  replace Bst := Bst.below b17
  replace oa := own_belL oa b17
  replace ob := own_belL ob b17
  replace oc := own_belL oc b17
  replace od := own_belL od b17
  replace oe := own_belL oe b17
  replace Be := Be.below b17
  clear b17
  obtain ⟨p0, p1, p2⟩ := three_read Bst
  obtain ⟨r0, r1, r2⟩ := three_read Bs
  have ih := Bls.of_room Bh lz
  have i2 := h2.below hb
  go_wp2_with fail
  refine (bequal_same (some ⟨gh, 0, none⟩) a2 z _ _ _ _ _ ih i2 rfl rfl).mono ?_
  rintro e w18 ⟨rfl, m18, hw18⟩
  have b18 := below_of_drewN hw18
  have z18 := b18.size
  replace Bs := Bs.below b18
  replace Bx := Bx.below b18
  replace Bm := Bm.below b18
  replace Bi := Bi.below b18
  replace Bt := Bt.below b18
  replace hb := below_trans hb b18
  replace Bh := Bh.below b18
  replace Bst := Bst.below b18
  replace oa := own_belL oa b18
  replace ob := own_belL ob b18
  replace oc := own_belL oc b18
  replace od := own_belL od b18
  replace oe := own_belL oe b18
  replace Be := Be.below b18
  clear b18 hw18 ih i2 p0 p1 p2 r0 r1 r2
  obtain ⟨p0, p1, p2⟩ := three_read Bst
  go_wp2_with fail
  refine (markedb_any gh z _ Bh (by omega)).mono ?_
  rintro e w19 ⟨rfl, rfl⟩
  clear p0 p1 p2 Bs Bx Bm
  obtain ⟨e0, e1, e2⟩ := three_read Be
  have ltE := Be.lt
  go_wp2
  have oad := show w18.drew.ownsRow _ 35 3 (.slice Aa La.length ca) La.length (lcs La) from oa
  have obd := show w18.drew.ownsRow _ 35 3 (.slice Ab Lb.length cb) Lb.length (lcs Lb) from ob
  have ocd := show w18.drew.ownsRow _ 35 3 (.slice Ac Lc.length cc) Lc.length (lcs Lc) from oc
  have odd := show w18.drew.ownsRow _ 68 3 (.slice Ad Ld.length cd) Ld.length (qcs Ld) from od
  have oed := show w18.drew.ownsRow _ 4 1 (.slice Ae Le'.length ce) Le'.length (bcsS Le') from oe
  have HQO : Hid (∀ u ∈ qcs Ld, u.oneCell' = true) := Lib.hid (pcs_one _)
  have HBO : Hid (∀ u ∈ bcsS Le', u.oneCell' = true) := Lib.hid (bool_oneB _)
  go_region_held3 (fun w' => w'.cell? ⟨be, 2, none⟩ = some (.slice Ae Le'.length ce))
    (first | go_keep | exact (bv.cell (cell_lt (by assumption))).trans (by assumption) | exact (bu.cell (cell_lt (by assumption))).trans (by assumption) | exact (br.cell (cell_lt (by assumption))).trans (by assumption) | exact (bq.cell (cell_lt (by assumption))).trans (by assumption) | exact (bp.cell (cell_lt (by assumption))).trans (by assumption) | fail)
    (first
      | ((with_reducible refine (rclone_le Aa La.length ca _ (lcs La) _ oad la (lcs_one La)).mono ?_); rintro e wa ⟨Ap, cp, rfl, op, bp⟩)
      | ((with_reducible refine (rclone_le Ab Lb.length cb _ (lcs Lb) _ (own_belL obd bp) lb (lcs_one Lb)).mono ?_); rintro e wb ⟨Aq, cq, rfl, oq, bq⟩)
      | ((with_reducible refine (rclone_le Ac Lc.length cc _ (lcs Lc) _ (own_belL (own_belL ocd bp) bq) lc (lcs_one Lc)).mono ?_); rintro e wc ⟨Ar, cr, rfl, or, br⟩)
      | ((with_reducible refine (rclone_ta Ad Ld.length cd _ (qcs Ld) _ (own_belL (own_belL (own_belL odd bp) bq) br) ld HQO.out).mono ?_); rintro e wd ⟨Au, cu, rfl, ou, bu⟩)
      | ((with_reducible refine (rclone_bo Ae Le'.length ce _ (bcsS Le') _ (own_belL (own_belL (own_belL (own_belL oed bp) bq) br) bu) le' HBO.out).mono ?_); rintro e we ⟨Av, cv, rfl, ov, bv⟩)
      | fail)
  have zd : w18.heap.size ≤ w18.drew.heap.size := Nat.le_refl _
  have zp := bp.size
  have zq := bq.size
  have zr := br.size
  have zu := bu.size
  have zv := bv.size
  have bc := below_trans (below_trans (below_trans (below_trans (below_trans (below_of_drewN (w := w18) (n := 1) rfl) bp) bq) br) bu) bv
  replace op := own_belL (own_belL (own_belL (own_belL op bq) br) bu) bv
  replace oq := own_belL (own_belL (own_belL oq br) bu) bv
  replace or := own_belL (own_belL or bu) bv
  replace ou := own_belL ou bv
  replace oa := own_belL oa bc
  replace ob := own_belL ob bc
  replace oc := own_belL oc bc
  replace od := own_belL od bc
  replace oe := own_belL oe bc
  replace Be := Be.below bc
  replace Bst := Bst.below bc
  replace Bi := Bi.below bc
  replace Bt := Bt.below bc
  replace Bh := Bh.below bc
  replace hb := below_trans hb bc
  clear oad obd ocd odd oed bp bq br bu bv bc e0 e1 e2 ltE
  go_wp2_with fail
  refine (spoill_at gi l _ _ ⟨99, 0, 0⟩ ⟨0, 0, 5⟩ _ Bi rfl rfl (by omega)).mono ?_
  rintro e wf ⟨rfl, gf⟩
  have ne1 := blk_neS Bt Bi (by decide)
  have ne2 := blk_neS Bh Bi (by decide)
  have ne3 := blk_neS Bst Bi (by decide)
  have ne4 := blk_neS Be Bi (by decide)
  replace Bt := Bt.spoilS gf ne1
  replace Bh := Bh.spoilS gf ne2
  replace Bst := Bst.spoilS gf ne3
  replace Be := Be.spoilS gf ne4
  replace oa := own_spoil oa gf (fun g e => by injection e with e; subst e; omega)
  replace ob := own_spoil ob gf (fun g e => by injection e with e; subst e; omega)
  replace oc := own_spoil oc gf (fun g e => by injection e with e; subst e; omega)
  replace od := own_spoil od gf (fun g e => by injection e with e; subst e; omega)
  replace oe := own_spoil oe gf (fun g e => by injection e with e; subst e; omega)
  replace op := own_spoil op gf (fun g e => by injection e with e; subst e; omega)
  replace oq := own_spoil oq gf (fun g e => by injection e with e; subst e; omega)
  replace or := own_spoil or gf (fun g e => by injection e with e; subst e; omega)
  replace ou := own_spoil ou gf (fun g e => by injection e with e; subst e; omega)
  replace ov := own_spoil ov gf (fun g e => by injection e with e; subst e; omega)
  replace hb := below_spoil hb gf (fun g e => by injection e with e; subst e; exact gi0) hb.size
  have zf := gf.size
  clear gf Bi ne1 ne2 ne3 ne4
  go_wp2_with fail
  refine (spoilt_at gt t _ _ ⟨0, 99, 0⟩ ⟨0, 0, 0⟩ _ Bt rfl rfl (by omega)).mono ?_
  rintro e wg ⟨rfl, gg⟩
  have ne2 := blk_neS Bh Bt (by decide)
  have ne3 := blk_neS Bst Bt (by decide)
  have ne4 := blk_neS Be Bt (by decide)
  replace Bh := Bh.spoilS gg ne2
  replace Bst := Bst.spoilS gg ne3
  replace Be := Be.spoilS gg ne4
  replace oa := own_spoil oa gg (fun g e => by injection e with e; subst e; omega)
  replace ob := own_spoil ob gg (fun g e => by injection e with e; subst e; omega)
  replace oc := own_spoil oc gg (fun g e => by injection e with e; subst e; omega)
  replace od := own_spoil od gg (fun g e => by injection e with e; subst e; omega)
  replace oe := own_spoil oe gg (fun g e => by injection e with e; subst e; omega)
  replace op := own_spoil op gg (fun g e => by injection e with e; subst e; omega)
  replace oq := own_spoil oq gg (fun g e => by injection e with e; subst e; omega)
  replace or := own_spoil or gg (fun g e => by injection e with e; subst e; omega)
  replace ou := own_spoil ou gg (fun g e => by injection e with e; subst e; omega)
  replace ov := own_spoil ov gg (fun g e => by injection e with e; subst e; omega)
  replace hb := below_spoil hb gg (fun g e => by injection e with e; subst e; exact gt0) hb.size
  have zg := gg.size
  clear gg Bt ne2 ne3 ne4
  obtain ⟨p0, p1, p2⟩ := three_read Bst
  go_wp2_with fail
  refine (spoilb_any gh z.length (z.length + 3) false _ _ Bh (by simp) (by omega) (by omega)).mono ?_
  rintro e wh ⟨rfl, gk⟩
  have ne4 := blk_neS Be Bh (by decide)
  replace Be := Be.spoilS gk ne4
  replace oa := own_spoil oa gk (fun g e => by injection e with e; subst e; omega)
  replace ob := own_spoil ob gk (fun g e => by injection e with e; subst e; omega)
  replace oc := own_spoil oc gk (fun g e => by injection e with e; subst e; omega)
  replace od := own_spoil od gk (fun g e => by injection e with e; subst e; omega)
  replace oe := own_spoil oe gk (fun g e => by injection e with e; subst e; omega)
  replace op := own_spoil op gk (fun g e => by injection e with e; subst e; omega)
  replace oq := own_spoil oq gk (fun g e => by injection e with e; subst e; omega)
  replace or := own_spoil or gk (fun g e => by injection e with e; subst e; omega)
  replace ou := own_spoil ou gk (fun g e => by injection e with e; subst e; omega)
  replace ov := own_spoil ov gk (fun g e => by injection e with e; subst e; omega)
  replace hb := below_spoil hb gk (fun g e => by injection e with e; subst e; exact gh0) hb.size
  have zh := gk.size
  clear gk Bh Bst ne4 p0 p1 p2
  go_wp2_with fail
  refine (leSame Aa Ap La _ _ _ _ _ (Les.of_row oa) (Les.of_row op) rfl rfl).mono ?_
  rintro e wi ⟨rfl, mi, hwi⟩
  have bi := below_of_drewN hwi
  replace oa := own_belL oa bi
  replace ob := own_belL ob bi
  replace oc := own_belL oc bi
  replace od := own_belL od bi
  replace oe := own_belL oe bi
  replace oq := own_belL oq bi
  replace or := own_belL or bi
  replace ou := own_belL ou bi
  replace ov := own_belL ov bi
  replace Be := Be.below bi
  replace hb := below_trans hb bi
  have zi := bi.size
  clear bi hwi op
  go_wp2_with fail
  refine (taSame Ad Au Ld _ _ _ _ _ (Tas.of_row od) (Tas.of_row ou) rfl rfl).mono ?_
  rintro e wj ⟨rfl, mj, hwj⟩
  have bj := below_of_drewN hwj
  replace oa := own_belL oa bj
  replace ob := own_belL ob bj
  replace oc := own_belL oc bj
  replace oe := own_belL oe bj
  replace oq := own_belL oq bj
  replace or := own_belL or bj
  replace ov := own_belL ov bj
  replace Be := Be.below bj
  replace hb := below_trans hb bj
  have zj := bj.size
  clear bj hwj od ou
  obtain ⟨e0, e1, e2⟩ := three_read Be
  go_wp2_with fail
  refine (bequal_same Ae Av Le' _ _ _ _ _ (Bls.rowS oe) (Bls.rowS ov) rfl rfl).mono ?_
  rintro e wk ⟨rfl, mk, hwk⟩
  have bk := below_of_drewN hwk
  replace oa := own_belL oa bk
  replace ob := own_belL ob bk
  replace oc := own_belL oc bk
  replace oq := own_belL oq bk
  replace or := own_belL or bk
  replace hb := below_trans hb bk
  have zk := bk.size
  clear bk hwk oe ov e0 e1 e2 Be
  go_wp2_with fail
  refine (spoill_row Aa _ ca _ _ _ oa).mono ?_
  rintro e wl ⟨rfl, ga⟩
  replace ob := own_spoil ob ga (fun g e => AA.out g e)
  replace oc := own_spoil oc ga (fun g e => by have := AA.out g e; omega)
  replace oq := own_spoil oq ga (fun g e => by have := AA.out g e; omega)
  replace or := own_spoil or ga (fun g e => by have := AA.out g e; omega)
  replace hb := below_spoil hb ga (fun g e => Nat.le_trans bl (oa.lt g e).1) hb.size
  have zl := ga.size
  clear ga oa AA
  go_wp2_with fail
  refine (leSame Ab Aq Lb _ _ _ _ _ (Les.of_row ob) (Les.of_row oq) rfl rfl).mono ?_
  rintro e wm ⟨rfl, mm, hwm⟩
  have bm' := below_of_drewN hwm
  replace ob := own_belL ob bm'
  replace oc := own_belL oc bm'
  replace or := own_belL or bm'
  replace hb := below_trans hb bm'
  clear bm' hwm oq
  go_wp2_with fail
  refine (spoill_row Ab _ cb _ _ _ ob).mono ?_
  rintro e wn ⟨rfl, gb⟩
  replace oc := own_spoil oc gb (fun g e => BB.out g e)
  replace or := own_spoil or gb (fun g e => by have := BB.out g e; omega)
  replace hb := below_spoil hb gb (fun g e => by have := (ob.lt g e).1; omega) hb.size
  clear gb ob BB
  go_wp2_with fail
  refine (leSame Ac Ar Lc _ _ _ _ _ (Les.of_row oc) (Les.of_row or) rfl rfl).mono ?_
  rintro e wo ⟨rfl, mo, hwo⟩
  replace hb := below_trans hb (below_of_drewN hwo)
  clear hwo oc or
  go_wp2
  go_ret
  exact ⟨rfl, hb⟩

end Go.Proofs.Ytnpdcllfdoobeaa
