
/-
  The walk of the law FairShares.
-/
import Derived.Test.YtamkadffencpgaaFairL
import Derived.Test.YtamkadffencpgaaKeepA
namespace Go.Proofs.Ytamkadffencpgaa
set_option linter.all false
open Go.RowKit Go.Shelf Go.Lib

abbrev shareP : List Pk := [⟨0, 1, 0⟩, ⟨0, 1, 1⟩, ⟨0, 1, 0⟩]
theorem share_min : MinAt shareP ones [0, 1, 2] := by unfold MinAt; decide
theorem share_z : ∀ i, i < shareP.length → (pk shareP i).at_ ≤ 0 := by decide
theorem wi8 (n : Int) : ∃ k : Nat, wi n 8 = (k : Int) ∧ k < 8 := ⟨(wi n 8).toNat, by unfold wi; omega, by unfold wi; omega⟩
theorem ff_bd {F : Nat → Nat} {f : Nat} {g : Nat → Int} {B : Int} (h : ∀ i, 0 ≤ g i ∧ g i ≤ B) : ∀ n : Nat, 0 ≤ ff F f g n ∧ ff F f g n ≤ B * n
  | 0 => by simp [ff]
  | n + 1 => by
    have ih := ff_bd (F := F) (f := f) h n
    have := h n
    have e : B * ((n + 1 : Nat) : Int) = B * n + B := by rw [show ((n + 1 : Nat) : Int) = (n : Int) + 1 by omega, Int.mul_add, Int.mul_one]
    rw [ff, e]
    split <;> omega
theorem mul_bd {x y X : Int} (x0 : 0 ≤ x) (x1 : x ≤ X) (y0 : 1 ≤ y) (y1 : y ≤ 8) : 0 ≤ x * y ∧ x * y ≤ X * 8 :=
  ⟨Int.mul_nonneg x0 (by omega), Int.mul_le_mul x1 y1 (by omega) (by omega)⟩
theorem three_new (w : World) (o0 o1 o2 : Obj) {W : World} (hW : W = ((w.alloc o0).alloc o1).alloc o2) :
    W.heap[w.heap.size]? = some o0 ∧ W.heap[w.heap.size + 1]? = some o1 ∧ W.heap[w.heap.size + 2]? = some o2 ∧ Below w.heap.size w W := by
  have e : W.heap = w.heap ++ #[o0, o1, o2] := by
    have e : W.heap = ((w.heap.push o0).push o1).push o2 := by rw [hW]; rfl
    rw [e]
    apply Array.ext'
    simp
  have g : ∀ i, i < 3 → W.heap[w.heap.size + i]? = #[o0, o1, o2][i]? := fun i _ => by
    rw [e, Array.getElem?_append_right (by omega)]
    congr 1
    omega
  refine ⟨g 0 (by omega), g 1 (by omega), g 2 (by omega), ?_⟩
  rw [hW]
  exact (((Below.refl _ w).alloc (Nat.le_refl _) _).alloc (by simp) _).alloc (by simp; omega) _
abbrev arr : TypeId := 37
/-- How many of each flow are left; the greatest. -/
structure Cnt (l : List Pk) (k : Nat) (Lf Mf : Nat → Int) : Prop where
  cnt : ∀ f, Lf f = ff (fl l) f (fun _ => 1) k
  at_ : ∀ i, i < k → (pk l i).at_ ≤ 0
  size : ∀ i, i < k → (pk l i).size ≤ Mf (fl l i)
  m0 : ∀ f, 0 ≤ Mf f
  m1 : ∀ f, Mf f ≤ 1000
theorem Cnt.next {l : List Pk} {k : Nat} {Lf Mf : Nat → Int} (q : Qu l) (h : Cnt l k Lf Mf) (hk : k < l.length) (ha : (pk l k).at_ ≤ 0) : Cnt l (k + 1) (fup Lf (fl l k) (Lf (fl l k) + 1)) (fup Mf (fl l k) (max (Mf (fl l k)) (pk l k).size)) := by
  have s0 := (q.ok k hk).s0
  have s1 := (q.ok k hk).s1
  refine ⟨fun f => ?_, fun i hi => ?_, fun i hi => ?_, fun f => ?_, fun f => ?_⟩
  · rw [ff]
    by_cases c : f = fl l k
    · subst c; rw [fup_at, if_pos rfl, h.cnt]
    · rw [fup_ne _ _ c, if_neg (fun e => c e.symm), h.cnt, Int.add_zero]
  · by_cases c : i = k
    · subst c; exact ha
    · exact h.at_ i (by omega)
  · by_cases c : fl l i = fl l k
    · rw [c, fup_at]
      by_cases d : i = k
      · subst d; omega
      · have := h.size i (by omega); rw [c] at this; omega
    · rw [fup_ne _ _ c]
      by_cases d : i = k
      · subst d; exact absurd rfl c
      · exact h.size i (by omega)
  · by_cases c : f = fl l k
    · subst c; rw [fup_at]; have := h.m0 (fl l k); omega
    · rw [fup_ne _ _ c]; exact h.m0 f
  · by_cases c : f = fl l k
    · subst c; rw [fup_at]; have := h.m1 (fl l k); omega
    · rw [fup_ne _ _ c]; exact h.m1 f
/-- What was served behind k packets. -/
structure Got (l : List Pk) (x : List Nat) (a b k : Nat) (Lf Gf : Nat → Int) : Prop where
  cnt : ∀ f, Lf f = ff (fl l) f (fun _ => 1) l.length - cntV l x f k
  got : ∀ f, Gf f = gotV l x f k
  left : ∀ p, p < k → cntV l x a p ≠ ff (fl l) a (fun _ => 1) l.length ∧ cntV l x b p ≠ ff (fl l) b (fun _ => 1) l.length
theorem Got.next {l : List Pk} {x : List Nat} {a b k : Nat} {Lf Gf : Nat → Int} (h : Got l x a b k Lf Gf) (ha : Lf a ≠ 0) (hb : Lf b ≠ 0) : Got l x a b (k + 1) (fup Lf (fl l (nth x k)) (Lf (fl l (nth x k)) - 1)) (fup Gf (fl l (nth x k)) (Gf (fl l (nth x k)) + (pk l (nth x k)).size)) := by
  refine ⟨fun f => ?_, fun f => ?_, fun p hp => ?_⟩
  · by_cases c : f = fl l (nth x k)
    · subst c; rw [fup_at, h.cnt]; simp only [cntV, ff, if_true]; omega
    · rw [fup_ne _ _ c, h.cnt]; simp only [cntV, ff]; rw [if_neg (fun e => c e.symm)]; omega
  · by_cases c : f = fl l (nth x k)
    · subst c; rw [fup_at, h.got]; simp only [gotV, ff, if_true]; rfl
    · rw [fup_ne _ _ c, h.got]; simp only [gotV, ff]; rw [if_neg (fun e => c e.symm), Int.add_zero]
  · by_cases c : p = k
    · subst c
      rw [h.cnt] at ha hb
      exact ⟨fun e => ha (by rw [e]; omega), fun e => hb (by rw [e]; omega)⟩
    · exact h.left p (by omega)
theorem Got.bd {l : List Pk} {x : List Nat} {a b k : Nat} {Lf Gf : Nat → Int} (h : Got l x a b k Lf Gf) (q : Qu l) (hx : ∀ p, p < x.length → nth x p < l.length) (hk : k ≤ x.length) (hl : l.length ≤ 60) (x60 : x.length ≤ 60) (f : Nat) : -100 ≤ Lf f ∧ Lf f ≤ 100 ∧ 0 ≤ Gf f ∧ Gf f ≤ 1000 * k := by
  have c1 := ff_bd (F := fl l) (f := f) (g := fun _ => 1) (B := 1) (fun _ => by omega) l.length
  have c2 := ff_bd (F := fun p => fl l (nth x p)) (f := f) (g := fun _ => 1) (B := 1) (fun _ => by omega) k
  have c3 : ∀ n, n ≤ x.length → 0 ≤ gotV l x f n ∧ gotV l x f n ≤ 1000 * n := by
    intro n
    induction n with
    | zero => intro _; simp [gotV, ff]
    | succ n ih =>
      intro hn
      have := ih (by omega)
      have o := q.ok _ (hx n (by omega))
      have o0 := o.s0
      have o1 := o.s1
      simp only [gotV, ff] at this ⊢
      split
      · unfold sz at *; omega
      · omega
  have c4 := c3 k hk
  rw [h.cnt, h.got]
  unfold cntV
  omega

set_option maxRecDepth 100000 in
set_option maxHeartbeats 12800000 in
theorem walk_FairShares (a0 : Option Addr) (c0 : Nat) (l0 : List Int) (a1 : Option Addr) (c1 : Nat) (l1 : List Pk) (na nb : Int) (w : World)
    (h0 : Ints w a0 l0) (_k0 : l0.length ≤ c0) (h1 : Pks w a1 l1) (_k1 : l1.length ≤ c1) (_wa : (Lit.int .i64 na).wf = true) (_wb : (Lit.int .i64 nb).wf = true) :
    Calls Try.prog 5 #[.slice a0 l0.length c0, .slice a1 l1.length c1, .int .i64 na, .int .i64 nb] w fun e w' => e = .returned (.bool true) ∧ Below w.heap.size w w' := by
  have hb : Below w.heap.size w w := Below.refl _ _
  clear _k0 _k1 _wa _wb
  go_enter Try.func5, Try.ntmps5
  go_wp2_with fail
  refine (weights_any _).mono ?_
  rintro e w1 ⟨A1, rfl, i1, b1⟩
  replace h0 := h0.below b1
  replace h1 := h1.below b1
  replace hb := below_trans hb b1
  clear b1
  go_wp2_with fail
  refine (frun_lit A1 _ shareP [0, 1, 2] _ 3 _ _ _ (by exact i1.alloc _) (by exact Pks.lit _ shareP _ _ rfl (by decide)) (by decide) share_z share_min (by decide) rfl (by decide) rfl rfl).mono ?_
  rintro e w2 ⟨C2, k2, rfl, x2, b2⟩
  replace b2 := below_of1 b2
  replace h0 := h0.below b2
  replace h1 := h1.below b2
  replace hb := below_trans hb b2
  clear b2 i1
  go_wp2_with fail
  refine (equal_at C2 _ (nts [0, 1, 2]) [0, 1, 2] _ _ _ _ _ (by exact Ints.alloc x2 _) (by exact Ints.lit _ [0, 1, 2] _ _ rfl (by decide)) rfl rfl).mono ?_
  rintro e w3 ⟨rfl, n3, hw3⟩
  have b3 := below_of1 (below_of_drewN hw3)
  rw [eqB_true (l := nts [0, 1, 2]) (m := [0, 1, 2]) rfl]
  replace h0 := h0.below b3
  replace h1 := h1.below b3
  replace hb := below_trans hb b3
  clear b3 hw3 x2
  by_cases hE : fwE l0 l1 = 0
  · obtain ⟨hv, hpe⟩ := fwE_ok hE
    have q := qu_of hpe
    have HE := Lib.hid hE
    have hle := q.le
    clear hE hpe
    go_wp2_with fail
    refine (frun_fair a0 a1 l0 l1 _ _ c0 c1 _ h0 h1 HE rfl rfl).mono ?_
    rintro e w4 ⟨x, C, k, hx, rfl, ox, b4⟩
    have xl := hx.1
    have HX := Lib.hid hx
    have XL := Lib.hid xl
    have hX : Ints w4 C (nts x) := by
      have := ox
      rw [← length_nts x] at this
      exact Ints.of_own this
    replace h0 := h0.below b4
    replace h1 := h1.below b4
    replace hb := below_trans hb b4
    have e2 : ((x.length : Int) != (l1.length : Int)) = false := by rw [xl]; simp
    have x60 : x.length ≤ 60 := by omega
    clear ox hx xl b4
    obtain ⟨a, ha, a8⟩ := wi8 na
    obtain ⟨b, hb8, b8⟩ := wi8 nb
    have HA := Lib.hid ha
    have HB := Lib.hid hb8
    clear ha hb8
    go_wp2_with fail
    refine (within_any na 8 _ (by omega) (by omega)).mono ?_
    rintro e w' ⟨rfl, rfl⟩
    go_wp2_with fail
    refine (within_any nb 8 _ (by omega) (by omega)).mono ?_
    rintro e w' ⟨rfl, rfl⟩
    rw [HA.out, HB.out]
    obtain ⟨W, hW⟩ : ∃ W, W = ((w4.alloc (.cells (eit (fun _ => 0)) arr)).alloc (.cells (eit (fun _ => 0)) arr)).alloc (.cells (eit (fun _ => 0)) arr) := ⟨_, rfl⟩
    obtain ⟨K1, K2, K3, bW⟩ := three_new w4 _ _ _ hW
    have HW : Hid (W = ((w4.alloc (.cells #[.int .i64 0, .int .i64 0, .int .i64 0, .int .i64 0, .int .i64 0, .int .i64 0, .int .i64 0, .int .i64 0] arr)).alloc (.cells #[.int .i64 0, .int .i64 0, .int .i64 0, .int .i64 0, .int .i64 0, .int .i64 0, .int .i64 0, .int .i64 0] arr)).alloc (.cells #[.int .i64 0, .int .i64 0, .int .i64 0, .int .i64 0, .int .i64 0, .int .i64 0, .int .i64 0, .int .i64 0] arr)) := Lib.hid hW
    obtain ⟨G, hG⟩ : ∃ G, G = w4.heap.size := ⟨_, rfl⟩
    rw [← hG] at K1 K2 K3
    have HG := Lib.hid hG
    have G4 : w4.heap.size ≤ G := by omega
    clear hW hG
    go_wp2
    simp only [Nat.add_assoc, Nat.reduceAdd]
    rw [← HW.out, ← HG.out]
    have hxl : Hid (∀ p, p < x.length → nth x p < l1.length) := Lib.hid (fun p hp => HX.out.lt q hv (nth_mem hp))
    clear HW HG
    go_loopw [68] (fun t wr => ∃ (k : Nat) (Lf Mf : Nat → Int), k ≤ l1.length ∧ t = .int .i64 k ∧ Blk wr G arr (eit Lf) ∧ Blk wr (G + 1) arr (eit (fun _ => 0)) ∧ Blk wr (G + 2) arr (eit Mf) ∧ Hid (Cnt l1 k Lf Mf) ∧ Below w4.heap.size w4 wr) (fun t _ => l1.length - (intOf t).toNat)
    case atStart => exact ⟨0, fun _ => 0, fun _ => 0, Nat.zero_le _, rfl, K1, K2, K3, Lib.hid ⟨fun f => rfl, fun i hi => by omega, fun i hi => by omega, fun f => Int.le_refl _, fun f => by decide⟩, bW⟩
    case round =>
      clear K1 K2 K3 bW
      obtain ⟨k', Lf, Mf, hk, rfl, K1, K2, K3, HC, hbel⟩ := hrel
      by_cases hlt : k' < l1.length
      · obtain ⟨bb, off, p, hB, hbl, p0, p1, p2, HP⟩ := (h1.below hbel).get hlt
        subst hB
        have hK := pk_of HP.out
        obtain ⟨f, hf⟩ : ∃ f, f = fl l1 k' := ⟨_, rfl⟩
        have f8 : f < 8 := by rw [hf]; exact fl_lt q hlt
        rw [pk_flow q hlt hK, ← hf] at p2
        have i1 : (k' : Int) < (l1.length : Int) := by omega
        by_cases hat : 0 < p.at_
        · clear K1 K2 K3 hK hf
          go_wp2
          go_ret
          exact ⟨rfl, below_trans hb (hbel.alloc hbel.size _)⟩
        · have ok := q.ok k' hlt
          rw [hK] at ok
          have z0 := ok.s0
          have z1 := ok.s1
          obtain ⟨Lv, hLv⟩ : ∃ Lv, Lv = Lf f := ⟨_, rfl⟩
          obtain ⟨Mv, hMv⟩ : ∃ Mv, Mv = Mf f := ⟨_, rfl⟩
          have cb := ff_bd (F := fl l1) (f := f) (g := fun _ => 1) (B := 1) (fun _ => by omega) k'
          rw [← HC.out.cnt, ← hLv] at cb
          obtain ⟨L0, L1⟩ := cb
          have M0 : 0 ≤ Mv := by rw [hMv]; exact HC.out.m0 f
          have M1 : Mv ≤ 1000 := by rw [hMv]; exact HC.out.m1 f
          have cL : wr.cell? ⟨G, f, none⟩ = some (.int .i64 Lv) := by rw [eit_cell K1 f8, hLv]
          have fL := K1.frozen f
          have l2 := K3.lt
          have l1' : G < wr.heap.size := by omega
          have j4 : (f : Int) < 8 := by omega
          have ne0 : ¬ G = wr.heap.size := by omega
          have ne1 : ¬ wr.heap.size = G := by omega
          have ne2 : ¬ G + 2 = wr.heap.size := by omega
          have ne3 : ¬ wr.heap.size = G + 2 := by omega
          obtain ⟨WA, hWA⟩ : ∃ WA, WA = (wr.setCell ⟨G, f, none⟩ (.int .i64 (Lv + 1))).alloc (.cells #[.int .i64 p.at_, .int .i64 p.size, .int .i64 f] 32) := ⟨_, rfl⟩
          have sA : (wr.setCell ⟨G, f, none⟩ (.int .i64 (Lv + 1))).heap.size = wr.heap.size := by simp [World.setCell]
          have KP : Blk WA wr.heap.size 32 #[.int .i64 p.at_, .int .i64 p.size, .int .i64 f] := by
            have := Blk.new (wr.setCell ⟨G, f, none⟩ (.int .i64 (Lv + 1))) 32 #[.int .i64 p.at_, .int .i64 p.size, .int .i64 f]
            rw [sA] at this
            rw [hWA]; exact this
          have KA : Blk WA G arr (eit (fup Lf f (Lv + 1))) := by rw [hWA]; exact (eit_put K1 f8 _).alloc _
          have KA2 : Blk WA (G + 1) arr (eit (fun _ => 0)) := by rw [hWA]; exact (K2.past (a := ⟨G, f, none⟩) (by simp) _).alloc _
          have KA3 : Blk WA (G + 2) arr (eit Mf) := by rw [hWA]; exact (K3.past (a := ⟨G, f, none⟩) (by simp) _).alloc _
          have bA : Below w4.heap.size w4 WA := by rw [hWA]; exact (hbel.setCell (p := ⟨G, f, none⟩) G4 _).alloc (by rw [sA]; exact hbel.size) _
          have HWA := Lib.hid hWA
          have HN := Lib.hid (HC.out.next q hlt (by rw [hK]; omega))
          rw [← hf, ← hLv, ← hMv, hK] at HN
          obtain ⟨X, hX'⟩ : ∃ X, X = max Mv p.size := ⟨_, rfl⟩
          rw [← hX'] at HN
          have HXX := Lib.hid hX'
          have HMV := Lib.hid hMv
          clear hWA K1 K2 K3 hbel hK hf ok hLv hMv hX' sA
          go_upto_region 15 with fail
          rw [← HWA.out]
          obtain ⟨r0, r1, r2⟩ := three_read KP
          have cM : WA.cell? ⟨G + 2, f, none⟩ = some (.int .i64 Mv) := by rw [eit_cell KA3 f8, HMV.out]
          have fM := KA3.frozen f
          clear p0 p1 p2 cL fL
          have M1' : ∀ V : Int, Blk ((WA.setCell ⟨G + 2, f, none⟩ (.int .i64 V)).drew) G arr (eit (fup Lf f (Lv + 1))) := fun V => KA.past (a := ⟨G + 2, f, none⟩) (by simp) _
          have M2' : ∀ V : Int, Blk ((WA.setCell ⟨G + 2, f, none⟩ (.int .i64 V)).drew) (G + 1) arr (eit (fun _ => 0)) := fun V => KA2.past (a := ⟨G + 2, f, none⟩) (by simp) _
          have M3' : ∀ V : Int, Blk ((WA.setCell ⟨G + 2, f, none⟩ (.int .i64 V)).drew) (G + 2) arr (eit (fup Mf f V)) := fun V => eit_put KA3 f8 _
          have bB : ∀ V : Int, Below w4.heap.size w4 ((WA.setCell ⟨G + 2, f, none⟩ (.int .i64 V)).drew) := fun V => (bA.setCell (p := ⟨G + 2, f, none⟩) (by show _ ≤ G + 2; omega) _).drew
          clear KA KA2 KA3 bA KP HWA
          rcases Int.lt_trichotomy Mv p.size with c | c | c
          all_goals
            go_region
            all_goals
              go_wp2
              go_roundw
              case rel =>
                first
                  | (have e : X = p.size := by rw [HXX.out]; omega
                     rw [e] at HN
                     exact ⟨k' + 1, _, _, by omega, by go_num, M1' _, M2' _, M3' _, HN, bB _⟩)
                  | (have e : X = Mv := by rw [HXX.out]; omega
                     rw [e] at HN
                     exact ⟨k' + 1, _, _, by omega, by go_num, M1' _, M2' _, M3' _, HN, bB _⟩)
              case measure => simp [intOf]; omega
      · obtain rfl : k' = l1.length := by omega
        have i1 : ¬ (l1.length : Int) < (l1.length : Int) := by omega
        clear hlt
        go_wp2
        go_loopw [94] (fun t wr => ∃ (k : Nat) (Lf Gf : Nat → Int), k ≤ x.length ∧ t = .int .i64 k ∧ Blk wr G arr (eit Lf) ∧ Blk wr (G + 1) arr (eit Gf) ∧ Blk wr (G + 2) arr (eit Mf) ∧ Hid (Got l1 x a b k Lf Gf) ∧ Below w4.heap.size w4 wr) (fun t _ => x.length - (intOf t).toNat)
        case atStart => exact ⟨0, Lf, fun _ => 0, Nat.zero_le _, rfl, K1, K2, K3, Lib.hid ⟨fun f => by rw [HC.out.cnt]; simp [cntV, ff], fun f => by simp [gotV, ff], fun p hp => by omega⟩, hbel⟩
        case round =>
          clear K1 K2 K3 hbel i1 hk
          obtain ⟨k', Lf, Gf, hk, rfl, K1, K2, K3, HGt, hbel⟩ := hrel
          by_cases hlt : k' < x.length
          · have j1 : (k' : Int) < (x.length : Int) := by omega
            obtain ⟨b1, o1, y, hC, hc1, HY⟩ := (hX.below hbel).at_ (k := k') (by rw [length_nts]; exact hlt)
            subst hC
            obtain ⟨_, hy⟩ := nts_at HY.out
            obtain ⟨i, hi⟩ : ∃ i, i = nth x k' := ⟨_, rfl⟩
            rw [← hi] at hy
            subst hy
            have il : i < l1.length := by rw [hi]; exact hxl.out k' hlt
            have ja : (a : Int) < 8 := by omega
            have jb : (b : Int) < 8 := by omega
            by_cases za : Lf a = 0
            · have cA : wr.cell? ⟨G, a, none⟩ = some (.int .i64 0) := by rw [eit_cell K1 a8, za]
              clear K1 K2 K3 hi za
              go_wp2
              go_ret
              exact ⟨rfl, below_trans hb hbel⟩
            by_cases zb : Lf b = 0
            · have cB : wr.cell? ⟨G, b, none⟩ = some (.int .i64 0) := by rw [eit_cell K1 b8, zb]
              have cA : wr.cell? ⟨G, a, none⟩ = some (.int .i64 (Lf a)) := eit_cell K1 a8
              have ea : (Lf a == 0) = false := by rw [beq_eq_false_iff_ne]; exact za
              clear K1 K2 K3 hi za zb
              go_wp2
              go_ret
              exact ⟨rfl, below_trans hb hbel⟩
            have cB : wr.cell? ⟨G, b, none⟩ = some (.int .i64 (Lf b)) := eit_cell K1 b8
            have cA : wr.cell? ⟨G, a, none⟩ = some (.int .i64 (Lf a)) := eit_cell K1 a8
            have ea : (Lf a == 0) = false := by rw [beq_eq_false_iff_ne]; exact za
            have eb : (Lf b == 0) = false := by rw [beq_eq_false_iff_ne]; exact zb
            obtain ⟨bb, off, p, hB, hbl, p0, p1, p2, HP⟩ := (h1.below hbel).get il
            subst hB
            have hK := pk_of HP.out
            obtain ⟨f, hf⟩ : ∃ f, f = fl l1 i := ⟨_, rfl⟩
            have f8 : f < 8 := by rw [hf]; exact fl_lt q il
            rw [pk_flow q il hK, ← hf] at p2
            have ok := q.ok i il
            rw [hK] at ok
            have z0 := ok.s0
            have z1 := ok.s1
            have i5 : (i : Int) < (l1.length : Int) := by omega
            have jf : (f : Int) < 8 := by omega
            obtain ⟨Lv, hLv⟩ : ∃ Lv, Lv = Lf f := ⟨_, rfl⟩
            obtain ⟨Gv, hGv⟩ : ∃ Gv, Gv = Gf f := ⟨_, rfl⟩
            have bd := HGt.out.bd q hxl.out hk hle x60 f
            rw [← hLv, ← hGv] at bd
            obtain ⟨L0, L1, G0, G1⟩ := bd
            have hnext := HGt.out.next za zb
            rw [← hi, ← hf, ← hLv, ← hGv, hK] at hnext
            obtain ⟨Lf', hLf'⟩ : ∃ F, F = fup Lf f (Lv - 1) := ⟨_, rfl⟩
            obtain ⟨Gf', hGf'⟩ : ∃ F, F = fup Gf f (Gv + p.size) := ⟨_, rfl⟩
            rw [← hLf', ← hGf'] at hnext
            have HN := Lib.hid hnext
            have bda := hnext.bd q hxl.out (by omega) hle x60 a
            have bdb := hnext.bd q hxl.out (by omega) hle x60 b
            obtain ⟨ga, hga⟩ : ∃ ga, ga = Gf' a := ⟨_, rfl⟩
            obtain ⟨gb, hgb⟩ : ∃ gb, gb = Gf' b := ⟨_, rfl⟩
            obtain ⟨ma, hma⟩ : ∃ ma, ma = Mf a := ⟨_, rfl⟩
            obtain ⟨mb, hmb⟩ : ∃ mb, mb = Mf b := ⟨_, rfl⟩
            have zz : ∀ i, i < l1.length → (pk l1 i).at_ ≤ 0 := HC.out.at_
            have gapa := fair_gap q hv zz HX.out a8 b8 (HC.out.m0 a) (fun i hi e => by have := HC.out.size i hi; rw [e] at this; exact this) (k' + 1) (by omega) (fun p hp => (hnext.left p hp).2)
            have gapb := fair_gap q hv zz HX.out b8 a8 (HC.out.m0 b) (fun i hi e => by have := HC.out.size i hi; rw [e] at this; exact this) (k' + 1) (by omega) (fun p hp => (hnext.left p hp).1)
            rw [← hnext.got, ← hnext.got, ← hga, ← hgb, ← hma] at gapa
            rw [← hnext.got, ← hnext.got, ← hga, ← hgb, ← hmb] at gapb
            rw [← hga] at bda
            rw [← hgb] at bdb
            have ma0 : 0 ≤ ma := by rw [hma]; exact HC.out.m0 a
            have ma1 : ma ≤ 1000 := by rw [hma]; exact HC.out.m1 a
            have mb0 : 0 ≤ mb := by rw [hmb]; exact HC.out.m0 b
            have mb1 : mb ≤ 1000 := by rw [hmb]; exact HC.out.m1 b
            have va0 := hv.lo a a8
            have va1 := hv.hi a a8
            have vb0 := hv.lo b b8
            have vb1 := hv.hi b b8
            obtain ⟨va, hva⟩ : ∃ va, va = gt l0 a := ⟨_, rfl⟩
            obtain ⟨vb, hvb⟩ : ∃ vb, vb = gt l0 b := ⟨_, rfl⟩
            rw [← hva] at va0 va1 gapa gapb
            rw [← hvb] at vb0 vb1 gapa gapb
            have q1 := mul_bd (X := 60000) bda.2.2.1 (by omega) vb0 vb1
            have q2 := mul_bd (X := 60000) bdb.2.2.1 (by omega) va0 va1
            have q3 := mul_bd ma0 ma1 vb0 vb1
            have q4 := mul_bd mb0 mb1 va0 va1
            obtain ⟨P1, hP1⟩ : ∃ P, P = ga * vb := ⟨_, rfl⟩
            obtain ⟨P2, hP2⟩ : ∃ P, P = gb * va := ⟨_, rfl⟩
            obtain ⟨P3, hP3⟩ : ∃ P, P = ma * vb := ⟨_, rfl⟩
            obtain ⟨P4, hP4⟩ : ∃ P, P = mb * va := ⟨_, rfl⟩
            rw [← hP1] at q1 gapa gapb
            rw [← hP2] at q2 gapa gapb
            rw [← hP3] at q3 gapa
            rw [← hP4] at q4 gapb
            obtain ⟨D, hD⟩ : ∃ D, D = P1 - P2 := ⟨_, rfl⟩
            obtain ⟨M, hM⟩ : ∃ M, M = P3 + P4 := ⟨_, rfl⟩
            have D0 : ¬ M < D := by omega
            have D1 : ¬ M < -D := by omega
            have D2 : -1000000 ≤ D ∧ D ≤ 1000000 := by omega
            obtain ⟨D2, D3⟩ := D2
            have HM1 : Hid (IntKind.i64.wrap (ga * vb) = P1) := Lib.hid (by rw [← hP1]; exact IntWalk.i64_in _ ⟨by omega, by omega⟩)
            have HM2 : Hid (IntKind.i64.wrap (gb * va) = P2) := Lib.hid (by rw [← hP2]; exact IntWalk.i64_in _ ⟨by omega, by omega⟩)
            have HM3 : Hid (IntKind.i64.wrap (ma * vb) = P3) := Lib.hid (by rw [← hP3]; exact IntWalk.i64_in _ ⟨by omega, by omega⟩)
            have HM4 : Hid (IntKind.i64.wrap (mb * va) = P4) := Lib.hid (by rw [← hP4]; exact IntWalk.i64_in _ ⟨by omega, by omega⟩)
            have HM5 : Hid (IntKind.i64.wrap (P1 - P2) = D) := Lib.hid (by rw [hD]; exact IntWalk.i64_in _ ⟨by omega, by omega⟩)
            have HM6 : Hid (IntKind.i64.wrap (P3 + P4) = M) := Lib.hid (by rw [hM]; exact IntWalk.i64_in _ ⟨by omega, by omega⟩)
            obtain ⟨W1, hW1⟩ : ∃ W1, W1 = wr.alloc (.cells #[.int .i64 p.at_, .int .i64 p.size, .int .i64 f] 32) := ⟨_, rfl⟩
            have KP : Blk W1 wr.heap.size 32 #[.int .i64 p.at_, .int .i64 p.size, .int .i64 f] := by rw [hW1]; exact Blk.new _ _ _
            have R1 : Blk W1 G arr (eit Lf) := by rw [hW1]; exact K1.alloc _
            have R2 : Blk W1 (G + 1) arr (eit Gf) := by rw [hW1]; exact K2.alloc _
            have R3 : Blk W1 (G + 2) arr (eit Mf) := by rw [hW1]; exact K3.alloc _
            have bR : Below w4.heap.size w4 W1 := by rw [hW1]; exact hbel.alloc hbel.size _
            have HW1 := Lib.hid hW1
            obtain ⟨W2, hW2⟩ : ∃ W2, W2 = ((W1.setCell ⟨G + 1, f, none⟩ (.int .i64 (Gv + p.size))).setCell ⟨G, f, none⟩ (.int .i64 (Lv - 1))).drew := ⟨_, rfl⟩
            have S1 : Blk W2 G arr (eit Lf') := by
              rw [hW2, hLf']
              exact eit_put (R1.past (a := ⟨G + 1, f, none⟩) (by simp) _) f8 _
            have S2 : Blk W2 (G + 1) arr (eit Gf') := by
              rw [hW2, hGf']
              exact (eit_put R2 f8 _).past (a := ⟨G, f, none⟩) (by simp) _
            have S3 : Blk W2 (G + 2) arr (eit Mf) := by
              rw [hW2]
              exact (R3.past (a := ⟨G + 1, f, none⟩) (by simp) _).past (a := ⟨G, f, none⟩) (by simp) _
            have bS : Below w4.heap.size w4 W2 := by rw [hW2]; exact ((bR.setCell (p := ⟨G + 1, f, none⟩) (by show _ ≤ G + 1; omega) _).setCell (p := ⟨G, f, none⟩) G4 _).drew
            have HW2 := Lib.hid hW2
            have lw := K3.lt
            obtain ⟨c0', c1', c2'⟩ := three_read KP
            have cG : W1.cell? ⟨G + 1, f, none⟩ = some (.int .i64 Gv) := by rw [eit_cell R2 f8, hGv]
            have fG := R2.frozen f
            have cL : W1.cell? ⟨G, f, none⟩ = some (.int .i64 Lv) := by rw [eit_cell R1 f8, hLv]
            have fL := R1.frozen f
            have dga : W2.cell? ⟨G + 1, a, none⟩ = some (.int .i64 ga) := by rw [eit_cell S2 a8, hga]
            have dgb : W2.cell? ⟨G + 1, b, none⟩ = some (.int .i64 gb) := by rw [eit_cell S2 b8, hgb]
            have dma : W2.cell? ⟨G + 2, a, none⟩ = some (.int .i64 ma) := by rw [eit_cell S3 a8, hma]
            have dmb : W2.cell? ⟨G + 2, b, none⟩ = some (.int .i64 mb) := by rw [eit_cell S3 b8, hmb]
            obtain ⟨bw, ow, ya, hA0, dwa, HYa⟩ := (h0.below bS).at_ (k := a) (by rw [hv.len]; exact a8)
            subst hA0
            obtain ⟨bw2, ow2, yb, hA0, dwb, HYb⟩ := (h0.below bS).at_ (k := b) (by rw [hv.len]; exact b8)
            obtain ⟨rfl, rfl⟩ : bw2 = bw ∧ ow2 = ow := by injection hA0 with hA0; injection hA0 with e1 e2; exact ⟨e1.symm, e2.symm⟩
            rw [← gt_of_get HYa.out, ← hva] at dwa
            rw [← gt_of_get HYb.out, ← hvb] at dwb
            have l8 : Hid ((l0.length : Int) = 8) := Lib.hid (by rw [hv.len]; rfl)
            have ja' : (a : Int) < (l0.length : Int) := by rw [l8.out]; omega
            have jb' : (b : Int) < (l0.length : Int) := by rw [l8.out]; omega
            clear hA0 HYa HYb hva hvb hga hgb hma hmb hP1 hP2 hP3 hP4 hD hM q1 q2 q3 q4 gapa gapb hnext hW1 hW2 hLf' hGf' hLv hGv hf hi ok hK bda bdb zz za zb K1 K2 K3 R1 R2 R3 bR HY
            go_upto_region 23 with fail
            rw [← HW1.out]
            go_still_tail 8, (by kernel_rfl)
            change wpList _ _ _ _ _ W1.drew
            go_upto_region 25 with fail
            rw [← HW2.out]
            clear c0' c1' c2' cG fG cL fL KP HW1 HW2 p0 p1 p2 cA cB
            have m1 := HM1.out
            have m2 := HM2.out
            have m5 := HM5.out
            go_quiet (fail)
            clear m1 m2 m5
            obtain ⟨W3, hW3⟩ : ∃ W3, W3 = W2.drewN nq := ⟨_, rfl⟩
            have dma' : W3.cell? ⟨G + 2, a, none⟩ = some (.int .i64 ma) := by rw [hW3]; exact dma
            have dmb' : W3.cell? ⟨G + 2, b, none⟩ = some (.int .i64 mb) := by rw [hW3]; exact dmb
            have dwa' : W3.cell? ⟨bw2, ow2 + a, none⟩ = some (.int .i64 va) := by rw [hW3]; exact dwa
            have dwb' : W3.cell? ⟨bw2, ow2 + b, none⟩ = some (.int .i64 vb) := by rw [hW3]; exact dwb
            have S1' : Blk W3 G arr (eit Lf') := by rw [hW3]; exact S1
            have S2' : Blk W3 (G + 1) arr (eit Gf') := by rw [hW3]; exact S2
            have S3' : Blk W3 (G + 2) arr (eit Mf) := by rw [hW3]; exact S3
            have bS' : Below w4.heap.size w4 W3 := by rw [hW3]; exact ⟨bS.os, bS.tape, bS.output, bS.size, bS.block⟩
            rw [← hW3]
            clear hW3 dma dmb dwa dwb dga dgb S1 S2 S3 bS
            have m3 := HM3.out
            have m4 := HM4.out
            have m6 := HM6.out
            go_wp2
            go_quiet (fail)
            clear m3 m4 m6
            have S1 : Blk (W3.drewN nq) G arr (eit Lf') := S1'
            have S2 : Blk (W3.drewN nq) (G + 1) arr (eit Gf') := S2'
            have S3 : Blk (W3.drewN nq) (G + 2) arr (eit Mf) := S3'
            have bS : Below w4.heap.size w4 (W3.drewN nq) := ⟨bS'.os, bS'.tape, bS'.output, bS'.size, bS'.block⟩
            clear S1' S2' S3' bS' dma' dmb' dwa' dwb'
            have e1 : decide (M < D) = false := decide_eq_false (by omega)
            have e2 : decide (M < -D) = false := decide_eq_false (by omega)
            go_wp2
            go_roundw
            case rel => exact ⟨k' + 1, Lf', Gf', by omega, by go_num, S1, S2, S3, HN, bS⟩
            case measure => simp [intOf]; omega
          · have j1 : ¬ (k' : Int) < (x.length : Int) := by omega
            clear K1 K2 K3
            go_wp2
            go_ret
            exact ⟨rfl, below_trans hb hbel⟩
  · have e1 : (fwE l0 l1 != 0) = true := by simp [hE]
    go_wp2_with fail
    refine (frun_fair_no a0 a1 l0 l1 _ _ c0 c1 _ h0 h1 hE rfl rfl).mono ?_
    rintro e w4 ⟨rfl, b4⟩
    replace h0 := h0.below b4
    replace h1 := h1.below b4
    replace hb := below_trans hb b4
    clear b4
    go_wp2
    go_ret
    exact ⟨rfl, hb⟩

end Go.Proofs.Ytamkadffencpgaa
