
/-
  The walk of the law QueuesOwn.
-/
import Derived.Test.YtamkadffencpgaaOwnR
import Derived.Test.YtamkadffencpgaaFairO
import Derived.Test.YtamkadffencpgaaSentB
import Derived.Test.YtamkadffencpgaaFlowB
namespace Go.Proofs.Ytamkadffencpgaa
set_option linter.all false
open Go.RowKit Go.Shelf Go.Lib

set_option maxRecDepth 100000 in
set_option maxHeartbeats 6400000 in
theorem walk_QueuesOwn (x y z : Int) (a1 : Option Addr) (c1 : Nat) (l1 : List Int) (a2 : Option Addr) (c2 : Nat) (l2 : List Pk) (a3 : Option Addr) (c3 : Nat) (l3 : List Fw) (w : World)
    (_ : (Lit.int .i64 x).wf = true) (_ : (Lit.int .i64 y).wf = true) (_ : (Lit.int .i64 z).wf = true)
    (h1 : Ints w a1 l1) (k1 : l1.length ≤ c1) (n1 : a1 = none → c1 = 0) (s1 : 8 * (l1.length + 3) ≤ 281474976710656)
    (h2 : Pks w a2 l2) (k2 : l2.length ≤ c2) (n2 : a2 = none → c2 = 0) (s2 : 24 * l2.length ≤ 140737488351232)
    (h3 : Fls w a3 l3) (k3 : l3.length ≤ c3) (n3 : ∀ f ∈ l3, f.a = none → f.c = 0) (s3 : 32 * l3.length ≤ 140737488351232) (z3 : ∀ f ∈ l3, 8 * f.z.length ≤ 140737488351232) :
    Calls Try.prog 7 #[.agg #[.int .i64 x, .int .i64 y, .int .i64 z], .slice a1 l1.length c1, .slice a2 l2.length c2, .slice a3 l3.length c3] w fun e w' => e = .returned (.bool true) ∧ Below w.heap.size w w' := by
  have N3 := Lib.hid n3
  have Z3 := Lib.hid z3
  obtain ⟨gb, hgb⟩ : ∃ g, g = w.heap.size := ⟨_, rfl⟩
  obtain ⟨W, hW⟩ : ∃ W, W = w.alloc (.cells #[.int .i64 x, .int .i64 y, .int .i64 z] 42) := ⟨_, rfl⟩
  have hWb : Below w.heap.size w W := by rw [hW]; exact (Below.refl _ _).alloc (Nat.le_refl _) _
  have hb := hWb
  have Bb : Blk W gb 42 #[.int .i64 x, .int .i64 y, .int .i64 z] := by rw [hW, hgb]; exact Blk.new _ _ _
  replace h1 := h1.below hWb
  replace h2 := h2.below hWb
  replace h3 := h3.below hWb
  have HWs : Hid (W.heap.size = gb + 1) := Lib.hid (by rw [hW, hgb]; simp)
  have HW := Lib.hid hW
  have GB := Lib.hid hgb
  clear hW hgb hWb n3 z3
  go_enter Try.func7, Try.ntmps7
  go_wp2_with fail
  rw [← HW.out, ← GB.out]
  refine (frun_yes _ [⟨0, 1, 0⟩] [1] _ 1 _ _ (Lib.hid (by decide)) (Lib.hid (by decide)) (by have q := Pks.lit W [⟨0, 1, 0⟩] _ 32 rfl (by decide); rw [HWs.out] at q; exact q) rfl rfl).mono ?_
  rintro e w1 ⟨Ax, cx, rfl, hx, _, b1⟩
  replace b1 := below_of1 b1
  replace Bb := Bb.below b1
  replace h1 := h1.below b1
  replace h2 := h2.below b1
  replace h3 := h3.below b1
  replace hb := below_trans hb b1
  go_wp2_with fail
  refine (equal_at Ax _ [1] [1] _ _ _ _ _ (by exact Ints.alloc hx _) (by exact Ints.lit _ [1] _ _ rfl (by decide)) rfl rfl).mono ?_
  rintro e w2 ⟨rfl, nn2, hw2⟩
  rw [eqB_true rfl]
  have b2 := below_of1 (below_of_drewN hw2)
  replace Bb := Bb.below b2
  replace h1 := h1.below b2
  replace h2 := h2.below b2
  replace h3 := h3.below b2
  replace hb := below_trans hb b2
  clear b1 b2 hx hw2
  obtain ⟨gm, hgm⟩ : ∃ g, g = w2.heap.size := ⟨_, rfl⟩
  obtain ⟨W2, hW2⟩ : ∃ W, W = w2.alloc (.cells #[.int .i64 (-5), .int .i64 0, .int .i64 0] 32) := ⟨_, rfl⟩
  have bm : Below w2.heap.size w2 W2 := by rw [hW2]; exact (Below.refl _ _).alloc (Nat.le_refl _) _
  have Bm : Blk W2 gm 32 #[.int .i64 (-5), .int .i64 0, .int .i64 0] := by rw [hW2, hgm]; exact Blk.new _ _ _
  replace Bb := Bb.below bm
  replace h1 := h1.below bm
  replace h2 := h2.below bm
  replace h3 := h3.below bm
  replace hb := below_trans hb bm
  have HW2 := Lib.hid hW2
  have GM := Lib.hid hgm
  clear hW2 hgm bm
  go_wp2_with fail
  rw [← HW2.out, ← GM.out]
  refine (roomyp_any a2 l2 c2 ⟨-5, 0, 0⟩ _ h2 n2 (by omega)).mono ?_
  rintro e w3 ⟨gq, rfl, hgq, Bq, b3⟩
  have QL : w.heap.size ≤ gq := Nat.le_trans hb.size hgq
  replace Bb := Bb.below b3
  replace h1 := h1.below b3
  replace h2 := h2.below b3
  replace h3 := h3.below b3
  replace hb := below_trans hb b3
  replace Bm := Bm.below b3
  go_wp2_with fail
  refine (roomy_any a1 l1 c1 (-7) _ h1 n1 s1).mono ?_
  rintro e w4 ⟨gv, rfl, hgv, Bv, b4⟩
  have VL : w.heap.size ≤ gv := Nat.le_trans hb.size hgv
  replace Bb := Bb.below b4
  replace h1 := h1.below b4
  replace h2 := h2.below b4
  replace h3 := h3.below b4
  replace hb := below_trans hb b4
  replace Bm := Bm.below b4
  replace Bq := Bq.below b4
  have QW := Bq.lt
  have VW := Bv.lt
  have W4L := hb.size
  clear b3 b4 hgq hgv
  obtain ⟨i0, hi0, hz0, hz1, hz2⟩ := info_parts flow_info
  go_wp2
  go_loopw [14, 55] (fun s i wr => ∃ (k : Nat) (l' : List Fw), k ≤ l3.length ∧ i = .int .i64 k ∧ l'.length = k ∧ Mks wr w4.heap.size l3 l' ∧ wr.ownsRow w4.heap.size 47 2 s k (fcs l') ∧ Below w4.heap.size w4 wr) (fun _ i _ => l3.length - (intOf i).toNat)
  case atStart => exact ⟨0, [], Nat.zero_le _, rfl, rfl, Mks.nil _ _ _, World.ownsRow_nil _ _ _ _, Below.refl _ _⟩
  case round =>
    obtain ⟨k, l', hk, rfl, hlen, hM, hown, hbel⟩ := hrel
    by_cases hlt : k < l3.length
    · obtain ⟨bb, off, f, hA, hbl, d0, d1, iz, kz, HP⟩ := (h3.below hbel).get hlt
      subst hA
      have i1 : (k : Int) < (l3.length : Int) := by omega
      have hmem : f ∈ l3 := List.mem_of_getElem? HP.out
      have fz : 8 * (f.z.length + 3) ≤ 281474976710656 := by have := Z3.out f hmem; omega
      have fn := N3.out f hmem
      obtain ⟨W5, hW5⟩ : ∃ W, W = wr.alloc (.cells #[.int .i64 f.q, .slice f.a f.z.length f.c] 47) := ⟨_, rfl⟩
      have b5 : Below wr.heap.size wr W5 := by rw [hW5]; exact (Below.refl _ _).alloc (Nat.le_refl _) _
      have iz5 := iz.below b5
      have t0 : W5.cell? ⟨wr.heap.size, 0, none⟩ = some (.int .i64 f.q) := by rw [hW5]; exact (two_read (Blk.new _ _ _)).1
      have t1 : W5.cell? ⟨wr.heap.size, 1, none⟩ = some (.slice f.a f.z.length f.c) := by rw [hW5]; exact (two_read (Blk.new _ _ _)).2
      have nb : u14.ownBlock ≠ some wr.heap.size := fun e => by have := (hown.lt _ e).2; omega
      have hM5 := hM.below b5
      have hown5 := own_bel hown b5
      have hbel5 := below_trans hbel b5
      have HW5 := Lib.hid hW5
      clear hW5 b5 iz hM hown hbel
      go_wp2
      rw [← HW5.out]
      have w5s := hbel5.size
      have w5l := cell_lt t0
      go_region_held3 (fun w' => w'.cell? ⟨wr.heap.size, 0, none⟩ = some (.int .i64 f.q) ∧ w'.cell? ⟨wr.heap.size, 1, none⟩ = some (.slice f.a f.z.length f.c))
        (first | go_keep | (go_split_ands; refine ⟨?_, ?_⟩ <;> exact (b9.cell (cell_lt (by assumption))).trans (by assumption)) | (go_split_ands; refine ⟨?_, ?_⟩ <;> (rw [hgrow.cell_far _ (by have := b9.size; simp at this ⊢; omega) (Ne.symm nb)]; assumption)))
        (first
          | ((with_reducible refine (roomy_any f.a f.z f.c (-9) _ iz5.drew fn fz).mono ?_); rintro e w9 ⟨g9, rfl, hg9, B9, b9⟩)
          | (refine step_append_lies _ (by rfl) _ _ _ (by rfl) w4.heap.size 47 i0 _ 2 32 Try.underlying43 hi0 hz0 hz1 hz2 rfl (by omega) u14 k (fcs l') (by rfl) (World.ownsRow.alloc (own_bel hown5.drew b9) _)
              ⟨w9.heap.size, 0, none⟩ 1 1 [.int .i64 f.q, .slice (some ⟨g9, 0, none⟩) f.z.length (f.z.length + 3)] (by rfl) (by rfl) (World.news_of_block (cs := #[.int .i64 f.q, .slice (some ⟨g9, 0, none⟩) f.z.length (f.z.length + 3)]) (t := 47) (fr := (0, 0)) (heap_alloc_new w9 _)) (by simp [Value.oneCell'])
              (by omega) (by unfold maxLen; omega) (by omega) (by have := b9.size; simp at this ⊢; omega) (w9.heap.size + 1) (by simp) ?_; intro gg cap w10 hown1 hgrow hat hlt'))
      have b9' : Below W5.heap.size W5 w9 := below_trans (below_of_drewN (n := 1) rfl) b9
      have hown9 := own_bel hown5 b9'
      have hM9 := hM5.below b9'
      have hb9 := below_trans hbel5 b9'
      have keep : ∀ g cs, Blk w9 g 3 cs → Blk w10 g 3 cs := fun g cs hB => by
        have ne := own_apart hown9 hB (by decide)
        exact (hB.alloc _).same (hgrow.block g (by have := hB.lt; simp; omega) (fun e => ne e.symm))
      have hM10 := hM9.keep keep
      have B10 := keep _ _ B9
      have hb10 : Below w4.heap.size w4 w10 := (hb9.alloc hb9.size _).grown hgrow (by have := hb9.size; simp; omega) (fun k hk => (hown9.lt k hk).1)
      have hM' : Mks w10 w4.heap.size l3 (l' ++ [⟨f.q, some ⟨g9, 0, none⟩, f.z.length + 3, f.z⟩]) := hM10.snoc (f := f) (g := g9) (by rw [hlen]; exact HP.out) ⟨rfl, rfl, rfl, rfl, by have := b9.size; have : W5.drew.heap.size = W5.heap.size := rfl; omega, B10⟩
      have hown' : w10.ownsRow w4.heap.size 47 2 (.slice (some ⟨gg, 0, none⟩) (k + 1) cap) (k + 1) (fcs (l' ++ [⟨f.q, some ⟨g9, 0, none⟩, f.z.length + 3, f.z⟩])) := by rw [fcs_app]; exact hown1
      have hlen' : Hid ((l' ++ [(⟨f.q, some ⟨g9, 0, none⟩, f.z.length + 3, f.z⟩ : Fw)]).length = k + 1) := Lib.hid (by rw [List.length_append, hlen]; rfl)
      clear keep hown1 hgrow hat hown9 hM9 hb9 hM10 B10 B9 b9 b9' hM5 hown5 hbel5 iz5 t0 t1 d0 d1 hlt'
      go_wp2
      go_roundw
      case rel => exact ⟨k + 1, _, by omega, by go_num, hlen'.out, hM', hown', hb10⟩
      case measure => simp [intOf]; omega
    · obtain rfl : k = l3.length := by omega
      obtain ⟨Af, cf, hs⟩ := own_form hown
      subst hs
      have LL := Lib.hid hlen
      have hfl : Fls wr Af l' := hM.fls (A := Af) (c := cf) (by rw [hlen]; exact hown) (fun f hf => by have := Z3.out f hf; omega)
      have FG : Hid (∀ (j : Nat) (f' : Fw), l'[j]? = some f' → ∃ f g, l3[j]? = some f ∧ Mk1 wr w4.heap.size f f' g) := Lib.hid hM
      replace Bb := Bb.below hbel
      replace Bm := Bm.below hbel
      replace Bq := Bq.below hbel
      replace Bv := Bv.below hbel
      replace h1 := h1.below hbel
      replace h2 := h2.below hbel
      replace h3 := h3.below hbel
      replace hb := below_trans hb hbel
      have l1b := h1.1
      have l2b := h2.1
      obtain ⟨R, hR⟩ : ∃ R, R = wr.heap.size := ⟨_, rfl⟩
      have RS : R ≤ wr.heap.size := Nat.le_of_eq hR
      have R4 : w4.heap.size ≤ R := by rw [hR]; exact hbel.size
      have hSp : Sp wr w4.heap.size R l' := hM.sp (Nat.le_of_eq hR.symm) Z3.out
      clear hbel hlt hlen FG hR
      obtain ⟨t0, t1, t2⟩ := three_read Bb
      go_wp2_with fail
      refine (brun_own (some ⟨gq, 0, none⟩) l2 x y z _ _ _ (Pks.of_room Bq l2b) rfl).mono ?_
      rintro e wA ⟨A6, c6, E6, x6, rfl, o6, q6, b6⟩
      replace o6 := own_lower o6 RS
      replace Bb := Bb.below b6
      replace Bm := Bm.below b6
      replace Bq := Bq.below b6
      replace Bv := Bv.below b6
      replace h1 := h1.below b6
      replace h2 := h2.below b6
      replace h3 := h3.below b6
      replace hM := hM.below b6
      replace hown := own_bel hown b6
      replace hfl := hfl.below b6
      replace hSp := hSp.below b6
      replace hb := below_trans hb b6
      replace RS := Nat.le_trans RS b6.size
      clear t0 t1 t2
      go_wp2_with fail
      refine (frun_own (some ⟨gq, 0, none⟩) l2 _ _ _ (Pks.of_room Bq l2b) rfl).mono ?_
      rintro e wB ⟨A7, c7, E7, x7, rfl, o7, q7, b7⟩
      replace o7 := own_lower o7 RS
      replace Bb := Bb.below b7
      replace Bm := Bm.below b7
      replace Bq := Bq.below b7
      replace Bv := Bv.below b7
      replace h1 := h1.below b7
      replace h2 := h2.below b7
      replace h3 := h3.below b7
      replace hM := hM.below b7
      replace hown := own_bel hown b7
      replace hfl := hfl.below b7
      replace hSp := hSp.below b7
      replace hb := below_trans hb b7
      replace RS := Nat.le_trans RS b7.size
      replace o6 := own_bel o6 b7
      go_wp2_with fail
      refine (fair_own (some ⟨gv, 0, none⟩) (some ⟨gq, 0, none⟩) l1 l2 _ _ _ _ _ (Ints.of_room Bv l1b) (Pks.of_room Bq l2b) rfl rfl).mono ?_
      rintro e wC ⟨A8, c8, E8, x8, rfl, o8, q8, b8⟩
      replace o8 := own_lower o8 RS
      replace Bb := Bb.below b8
      replace Bm := Bm.below b8
      replace Bq := Bq.below b8
      replace Bv := Bv.below b8
      replace h1 := h1.below b8
      replace h2 := h2.below b8
      replace h3 := h3.below b8
      replace hM := hM.below b8
      replace hown := own_bel hown b8
      replace hfl := hfl.below b8
      replace hSp := hSp.below b8
      replace hb := below_trans hb b8
      replace RS := Nat.le_trans RS b8.size
      replace o6 := own_bel o6 b8
      replace o7 := own_bel o7 b8
      go_wp2_with fail
      refine (trun_own Af l' _ _ _ hfl LL.out.symm).mono ?_
      rintro e wD ⟨A9, c9, E9, x9, rfl, o9, q9, b9⟩
      replace o9 := own_lower o9 RS
      replace Bb := Bb.below b9
      replace Bm := Bm.below b9
      replace Bq := Bq.below b9
      replace Bv := Bv.below b9
      replace h1 := h1.below b9
      replace h2 := h2.below b9
      replace h3 := h3.below b9
      replace hM := hM.below b9
      replace hown := own_bel hown b9
      replace hfl := hfl.below b9
      replace hSp := hSp.below b9
      replace hb := below_trans hb b9
      replace RS := Nat.le_trans RS b9.size
      replace o6 := own_bel o6 b9
      replace o7 := own_bel o7 b9
      replace o8 := own_bel o8 b9
      clear b6 b7 b8 b9
      go_wp2_with fail
      refine (packSame (some ⟨gq, 0, none⟩) a2 l2 _ _ _ _ _ (Pks.of_room Bq l2b) h2 rfl rfl).mono ?_
      rintro e wE ⟨rfl, nE, hwE⟩
      have bE := below_of_drewN hwE
      clear hwE
      replace Bb := Bb.below bE
      replace Bm := Bm.below bE
      replace Bq := Bq.below bE
      replace Bv := Bv.below bE
      replace h1 := h1.below bE
      replace h2 := h2.below bE
      replace h3 := h3.below bE
      replace hM := hM.below bE
      replace hown := own_bel hown bE
      replace hfl := hfl.below bE
      replace hSp := hSp.below bE
      replace hb := below_trans hb bE
      replace o6 := own_bel o6 bE
      replace o7 := own_bel o7 bE
      replace o8 := own_bel o8 bE
      replace o9 := own_bel o9 bE
      replace RS := Nat.le_trans RS bE.size
      go_wp2_with fail
      refine (equal_yes (some ⟨gv, 0, none⟩) a1 l1 _ _ _ _ _ (Ints.of_room Bv l1b) h1 rfl rfl).mono ?_
      rintro e wF ⟨rfl, nF, hwF⟩
      have bF := below_of_drewN hwF
      clear hwF
      replace Bb := Bb.below bF
      replace Bm := Bm.below bF
      replace Bq := Bq.below bF
      replace Bv := Bv.below bF
      replace h1 := h1.below bF
      replace h2 := h2.below bF
      replace h3 := h3.below bF
      replace hM := hM.below bF
      replace hown := own_bel hown bF
      replace hfl := hfl.below bF
      replace hSp := hSp.below bF
      replace hb := below_trans hb bF
      replace o6 := own_bel o6 bF
      replace o7 := own_bel o7 bF
      replace o8 := own_bel o8 bF
      replace o9 := own_bel o9 bF
      replace RS := Nat.le_trans RS bF.size
      obtain ⟨t0, t1, t2⟩ := three_read Bm
      go_wp2_with fail
      refine (markedp_any gq l2 ⟨-5, 0, 0⟩ _ Bq (by omega)).mono ?_
      rintro e wG ⟨rfl, bG⟩
      replace Bb := Bb.below bG
      replace Bm := Bm.below bG
      replace Bq := Bq.below bG
      replace Bv := Bv.below bG
      replace h1 := h1.below bG
      replace h2 := h2.below bG
      replace h3 := h3.below bG
      replace hM := hM.below bG
      replace hown := own_bel hown bG
      replace hfl := hfl.below bG
      replace hSp := hSp.below bG
      replace hb := below_trans hb bG
      replace o6 := own_bel o6 bG
      replace o7 := own_bel o7 bG
      replace o8 := own_bel o8 bG
      replace o9 := own_bel o9 bG
      replace RS := Nat.le_trans RS bG.size
      clear t0 t1 t2
      go_wp2_with fail
      refine (marked_yes gv l1 (-7) _ _ _ Bv s1 rfl rfl).mono ?_
      rintro e wH ⟨rfl, hwH⟩
      subst hwH
      clear bE bF bG
      go_wp2
      go_loopw [114] (fun i wi => ∃ k : Nat, k ≤ l3.length ∧ i = .int .i64 k ∧ Below wH.heap.size wH wi) (fun i _ => l3.length - (intOf i).toNat)
      case atStart => exact ⟨0, Nat.zero_le _, rfl, Below.refl _ _⟩
      case round =>
        obtain ⟨k, hk, rfl, hbel⟩ := hrel
        by_cases hlt : k < l3.length
        · have i1 : (k : Int) < (l3.length : Int) := by omega
          obtain ⟨b1, o1, f', hA1, hb1, d0, d1, iz', kz', HP'⟩ := (hfl.below hbel).get (k := k) (by rw [LL.out]; exact hlt)
          subst hA1
          obtain ⟨f, g, hf, m⟩ := (hM.below hbel) k f' HP'.out
          obtain ⟨b2, o2, f2, hA2, hb2, e0, e1, iz, kz, HP⟩ := (h3.below hbel).get hlt
          subst hA2
          obtain rfl : f2 = f := Option.some.inj (HP.out.symm.trans hf)
          obtain ⟨mq, mz, ma, mc, mlo, mblk⟩ := m
          rw [mq] at d0
          rw [ma, mz, mc] at d1
          rw [ma, mz] at iz'
          have fz : 8 * (f2.z.length + 3) ≤ 281474976710656 := by have := Z3.out f2 (List.mem_of_getElem? HP.out); omega
          obtain ⟨W6, hW6⟩ : ∃ W, W = wr.alloc (.cells #[.int .i64 f2.q, .slice (some ⟨g, 0, none⟩) f2.z.length (f2.z.length + 3)] 47) := ⟨_, rfl⟩
          have b6 : Below wr.heap.size wr W6 := by rw [hW6]; exact (Below.refl _ _).alloc (Nat.le_refl _) _
          have j0 := iz'.below b6
          have j1 := iz.below b6
          have B6 := mblk.below b6
          have t0 : W6.cell? ⟨wr.heap.size, 0, none⟩ = some (.int .i64 f2.q) := by rw [hW6]; exact (two_read (Blk.new _ _ _)).1
          have t1 : W6.cell? ⟨wr.heap.size, 1, none⟩ = some (.slice (some ⟨g, 0, none⟩) f2.z.length (f2.z.length + 3)) := by rw [hW6]; exact (two_read (Blk.new _ _ _)).2
          have e0' := (b6.cell (p := ⟨b2, o2 + k * 2, none⟩) hb2).trans e0
          have e1' := (b6.cell (p := ⟨b2, o2 + k * 2 + 1, none⟩) hb2).trans e1
          have hb6 := below_trans hbel b6
          have u1 : (f2.q != f2.q) = false := by simp
          have HW6 := Lib.hid hW6
          clear hW6 b6 iz iz' mblk e0 e1 hf mq mz ma mc mlo HP HP' kz kz' hbel
          go_wp2
          rw [← HW6.out]
          go_quiet ((first | (go_at_call 11; exact Calls.quiet_of (equal_yes (some ⟨g, 0, none⟩) f2.a f2.z _ _ _ _ _ (j0.drewN _) (j1.drewN _) rfl rfl)) | (go_at_call 25; exact Calls.quiet_of_same (marked_yes g f2.z (-9) _ _ _ B6 fz rfl rfl))))
          go_wp2
          go_roundw
          case rel => exact ⟨k + 1, by omega, by go_num, below_trans hb6 (below_of_drewN rfl)⟩
          case measure => simp [intOf]; omega
        · replace Bb := Bb.below hbel
          replace Bm := Bm.below hbel
          replace Bq := Bq.below hbel
          replace Bv := Bv.below hbel
          replace h1 := h1.below hbel
          replace h2 := h2.below hbel
          replace h3 := h3.below hbel
          replace hM := hM.below hbel
          replace hown := own_bel hown hbel
          replace hfl := hfl.below hbel
          replace hSp := hSp.below hbel
          replace hb := below_trans hb hbel
          replace o6 := own_bel o6 hbel
          replace o7 := own_bel o7 hbel
          replace o8 := own_bel o8 hbel
          replace o9 := own_bel o9 hbel
          replace RS := Nat.le_trans RS hbel.size
          have i9 : ¬ (k : Int) < (l3.length : Int) := by omega
          clear hbel h1 h2 h3 hM hfl Bb Bm
          go_wp2_with fail
          refine (clone_bool A6 x6.length c6 _ (bcs x6) _ o6 q6 (bool_one x6)).mono ?_
          rintro e wI ⟨P6, d6, rfl, r6, bI⟩
          replace r6 := own_lower r6 RS
          replace Bq := Bq.below bI
          replace Bv := Bv.below bI
          replace hown := own_bel hown bI
          replace hSp := hSp.below bI
          replace o6 := own_bel o6 bI
          replace o7 := own_bel o7 bI
          replace o8 := own_bel o8 bI
          replace o9 := own_bel o9 bI
          replace hb := below_trans hb bI
          replace RS := Nat.le_trans RS bI.size
          go_wp2_with fail
          refine (clone_int A7 x7.length c7 _ (ics x7) _ o7 q7 (int_one x7)).mono ?_
          rintro e wJ ⟨P7, d7, rfl, r7, bJ⟩
          replace r7 := own_lower r7 RS
          replace Bq := Bq.below bJ
          replace Bv := Bv.below bJ
          replace hown := own_bel hown bJ
          replace hSp := hSp.below bJ
          replace o6 := own_bel o6 bJ
          replace o7 := own_bel o7 bJ
          replace o8 := own_bel o8 bJ
          replace o9 := own_bel o9 bJ
          replace hb := below_trans hb bJ
          replace RS := Nat.le_trans RS bJ.size
          replace r6 := own_bel r6 bJ
          go_wp2_with fail
          refine (clone_int A8 x8.length c8 _ (ics x8) _ o8 q8 (int_one x8)).mono ?_
          rintro e wK ⟨P8, d8, rfl, r8, bK⟩
          replace r8 := own_lower r8 RS
          replace Bq := Bq.below bK
          replace Bv := Bv.below bK
          replace hown := own_bel hown bK
          replace hSp := hSp.below bK
          replace o6 := own_bel o6 bK
          replace o7 := own_bel o7 bK
          replace o8 := own_bel o8 bK
          replace o9 := own_bel o9 bK
          replace hb := below_trans hb bK
          replace RS := Nat.le_trans RS bK.size
          replace r6 := own_bel r6 bK
          replace r7 := own_bel r7 bK
          go_wp2_with fail
          refine (clone_sent A9 x9.length c9 _ (scs x9) _ o9 q9 (scs_one x9)).mono ?_
          rintro e wL ⟨P9, d9, rfl, r9, bL⟩
          replace r9 := own_lower r9 RS
          replace Bq := Bq.below bL
          replace Bv := Bv.below bL
          replace hown := own_bel hown bL
          replace hSp := hSp.below bL
          replace o6 := own_bel o6 bL
          replace o7 := own_bel o7 bL
          replace o8 := own_bel o8 bL
          replace o9 := own_bel o9 bL
          replace hb := below_trans hb bL
          replace RS := Nat.le_trans RS bL.size
          replace r6 := own_bel r6 bL
          replace r7 := own_bel r7 bL
          replace r8 := own_bel r8 bL
          clear bI bJ bK bL
          go_wp2_with fail
          refine (spoilp_any gq l2.length (l2.length + 3) ⟨0, 0, 0⟩ _ _ Bq (by simp [length_pcs]) (by omega) (by omega)).mono ?_
          rintro e wM ⟨rfl, gM⟩
          have nqv := blk_ne Bv Bq (by decide)
          replace o6 := own_grown o6 gM (by omega)
          replace o7 := own_grown o7 gM (by omega)
          replace o8 := own_grown o8 gM (by omega)
          replace o9 := own_grown o9 gM (by omega)
          replace r6 := own_grown r6 gM (by omega)
          replace r7 := own_grown r7 gM (by omega)
          replace r8 := own_grown r8 gM (by omega)
          replace r9 := own_grown r9 gM (by omega)
          replace hown := own_grown hown gM QW
          replace hb := hb.grown gM hb.size (fun k e => by injection e with e; subst e; exact QL)
          replace Bv := Bv.grown gM nqv
          replace hSp := hSp.grown gM QW
          have gM' := gM.size
          clear gM Bq nqv
          go_wp2_with fail
          refine (spoil_keep gv l1.length (l1.length + 3) 0 _ _ Bv (by simp) (by omega) (by omega)).mono ?_
          rintro e wN ⟨rfl, _, gN⟩
          replace o6 := own_grown o6 gN (by omega)
          replace o7 := own_grown o7 gN (by omega)
          replace o8 := own_grown o8 gN (by omega)
          replace o9 := own_grown o9 gN (by omega)
          replace r6 := own_grown r6 gN (by omega)
          replace r7 := own_grown r7 gN (by omega)
          replace r8 := own_grown r8 gN (by omega)
          replace r9 := own_grown r9 gN (by omega)
          replace hown := own_grown hown gN VW
          replace hb := hb.grown gN hb.size (fun k e => by injection e with e; subst e; exact VL)
          replace hSp := hSp.grown gN VW
          have gN' := gN.size
          clear gN Bv hk hlt i9
          rw [← LL.out] at hown
          go_wp2
          go_loopw [160] (fun i wi => ∃ k : Nat, k ≤ l3.length ∧ i = .int .i64 k ∧ Sp wi w4.heap.size R l' ∧ wi.ownsRow w4.heap.size 47 2 (.slice Af l'.length cf) l'.length (fcs l') ∧ wi.ownsRow R 4 1 (.slice A6 x6.length c6) x6.length (bcs x6) ∧ wi.ownsRow R 3 1 (.slice A7 x7.length c7) x7.length (ics x7) ∧ wi.ownsRow R 3 1 (.slice A8 x8.length c8) x8.length (ics x8) ∧ wi.ownsRow R 60 2 (.slice A9 x9.length c9) x9.length (scs x9) ∧ wi.ownsRow R 4 1 (.slice P6 x6.length d6) x6.length (bcs x6) ∧ wi.ownsRow R 3 1 (.slice P7 x7.length d7) x7.length (ics x7) ∧ wi.ownsRow R 3 1 (.slice P8 x8.length d8) x8.length (ics x8) ∧ wi.ownsRow R 60 2 (.slice P9 x9.length d9) x9.length (scs x9) ∧ R ≤ wi.heap.size ∧ Below w.heap.size w wi) (fun i _ => l3.length - (intOf i).toNat)
          case atStart => exact ⟨0, Nat.zero_le _, rfl, hSp, hown, o6, o7, o8, o9, r6, r7, r8, r9, by have := gN'; have := gM'; omega, hb⟩
          case round =>
            clear hSp hown o6 o7 o8 o9 r6 r7 r8 r9 hb RS gN' gM'
            obtain ⟨k, hk, rfl, hSp, hown, o6, o7, o8, o9, r6, r7, r8, r9, RS, hb⟩ := hrel
            by_cases hlt : k < l3.length
            · have i1 : (k : Int) < (l3.length : Int) := by omega
              obtain ⟨f', hf'⟩ : ∃ f', l'[k]? = some f' := ⟨_, List.getElem?_eq_getElem (by rw [LL.out]; exact hlt)⟩
              obtain ⟨g, cs, ha, hB, hcs, hz, hc, hlo, hgR⟩ := hSp k f' hf'
              obtain ⟨y0, y1⟩ := fcs_get hf'
              rw [ha] at y1
              obtain ⟨gf, hgf, hcap⟩ : ∃ gf, Af = some ⟨gf, 0, none⟩ ∧ gf < wr.heap.size := by
                obtain ⟨gf, cap, hv, q1, q2⟩ := hown.form (by rw [LL.out]; omega)
                injection hv with e1
                exact ⟨gf, e1, q2⟩
              subst hgf
              have c0 := hown.cells (g := gf) rfl _ _ y0
              have c1 := hown.cells (g := gf) rfl _ _ y1
              rw [Addr.add_lit, Nat.zero_add] at c0 c1
              obtain ⟨W7, hW7⟩ : ∃ W, W = wr.alloc (.cells #[.int .i64 f'.q, .slice (some ⟨g, 0, none⟩) f'.z.length f'.c] 47) := ⟨_, rfl⟩
              have b7 : Below wr.heap.size wr W7 := by rw [hW7]; exact (Below.refl _ _).alloc (Nat.le_refl _) _
              have t0 : W7.cell? ⟨wr.heap.size, 0, none⟩ = some (.int .i64 f'.q) := by rw [hW7]; exact (two_read (Blk.new _ _ _)).1
              have t1 : W7.cell? ⟨wr.heap.size, 1, none⟩ = some (.slice (some ⟨g, 0, none⟩) f'.z.length f'.c) := by rw [hW7]; exact (two_read (Blk.new _ _ _)).2
              replace hSp := hSp.below b7
              replace hB := hB.below b7
              replace hown := own_bel hown b7
              replace o6 := own_bel o6 b7
              replace o7 := own_bel o7 b7
              replace o8 := own_bel o8 b7
              replace o9 := own_bel o9 b7
              replace r6 := own_bel r6 b7
              replace r7 := own_bel r7 b7
              replace r8 := own_bel r8 b7
              replace r9 := own_bel r9 b7
              replace hb := below_trans hb b7
              have HW7 := Lib.hid hW7
              have RS7 := Nat.le_trans RS b7.size
              clear hW7 b7 RS
              go_wp2_with fail
              rw [← HW7.out]
              refine (spoil_keep g f'.z.length f'.c 0 cs _ hB hcs hz hc).mono ?_
              rintro e wO ⟨rfl, ⟨cs', hB', hcs'⟩, gO⟩
              have ngf : (Value.slice (some ⟨gf, 0, none⟩) l'.length cf).ownBlock ≠ some g := own_apart hown hB (by decide)
              have hown' := hown.kept gO (.inr ngf)
              have hSp' := hSp.spoilt gO cs' hB' hcs' ⟨cs, hB, hcs⟩
              replace o6 := own_grown o6 gO hgR
              replace o7 := own_grown o7 gO hgR
              replace o8 := own_grown o8 gO hgR
              replace o9 := own_grown o9 gO hgR
              replace r6 := own_grown r6 gO hgR
              replace r7 := own_grown r7 gO hgR
              replace r8 := own_grown r8 gO hgR
              replace r9 := own_grown r9 gO hgR
              have hb' := hb.grown gO hb.size (fun k e => by injection e with e; omega)
              have RS' := Nat.le_trans RS7 gO.size
              clear gO hB hB' hSp hown hb c0 c1 t0 t1 RS7 y0 y1
              go_wp2
              go_roundw
              case rel => exact ⟨k + 1, by omega, by go_num, hSp', hown', o6, o7, o8, o9, r6, r7, r8, r9, RS', hb'⟩
              case measure => simp [intOf]; omega
            · have i9 : ¬ (k : Int) < (l3.length : Int) := by omega
              clear hSp hown
              go_wp2_with fail
              refine (bequal_same A6 P6 x6 _ _ _ _ _ (Bls.of_own o6) (Bls.of_own r6) rfl rfl).mono ?_
              rintro e wP ⟨rfl, nP, hwP⟩
              have bP := below_of_drewN hwP
              clear hwP
              go_wp2_with fail
              refine (equal_yes A7 P7 x7 _ _ _ _ _ ((Ints.of_own o7).below bP) ((Ints.of_own r7).below bP) rfl rfl).mono ?_
              rintro e wQ ⟨rfl, nQ, hwQ⟩
              have bQ := below_trans bP (below_of_drewN hwQ)
              clear hwQ
              go_wp2_with fail
              refine (equal_yes A8 P8 x8 _ _ _ _ _ ((Ints.of_own o8).below bQ) ((Ints.of_own r8).below bQ) rfl rfl).mono ?_
              rintro e wR ⟨rfl, nR, hwR⟩
              have bR := below_trans bQ (below_of_drewN hwR)
              clear hwR
              go_wp2_with fail
              refine (sentSame A9 P9 x9 _ _ _ _ _ ((Sns.of_own o9).below bR) ((Sns.of_own r9).below bR) rfl rfl).mono ?_
              rintro e wS ⟨rfl, nS, hwS⟩
              have bS := below_trans bR (below_of_drewN hwS)
              clear hwS
              go_wp2
              go_ret
              exact ⟨rfl, below_trans hb bS⟩

end Go.Proofs.Ytamkadffencpgaa
