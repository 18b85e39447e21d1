
/-
  The walk of the law TurnsAll.
-/
import Derived.Test.YthjeokdabdjhfaaTurnsF
namespace Go.Proofs.Ythjeokdabdjhfaa
set_option linter.all false
open Go.RowKit Go.Shelf


theorem ad_inj' {b o b' o' : Nat} (h : (some ⟨b, o, none⟩ : Option Addr) = some ⟨b', o', none⟩) : b' = b ∧ o' = o := by
  injection h with e; injection e with e1 e2; exact ⟨e1.symm, e2.symm⟩
theorem ord_lit : ordF [⟨2, [3, 1]⟩, ⟨5, [4]⟩] = [(1, 0), (0, 0), (0, 1)] := by
  have v : Flws [⟨2, [3, 1]⟩, ⟨5, [4]⟩] := flE_iff.1 (by decide)
  have a : AllSent [⟨2, [3, 1]⟩, ⟨5, [4]⟩] 2 := fun k hk => by
    match k, hk with
    | 0, _ => decide
    | 1, _ => decide
    | k + 2, hk => simp at hk; omega
  rw [← ordF_of v a]
  decide
theorem trun_at (A : Option Addr) (l : List Fw) (L : List Snd) (n c : Nat) (w : World) (h : Fls w A l) (hE : Hid (flE (fls l) = 0)) (hL : Hid (ordF (fls l) = L)) (hn : n = l.length) :
    Calls Try.prog 9 #[.slice A n c] w (AnsR L 0 w) := by
  have q := trun_yes A l n c w h hE hn
  rw [hL.out] at q
  exact q
theorem Sns.lit (w : World) (l : List Snd) (cs : Array Value) (t : TypeId) (h : cs = (scs l).toArray) (hl : l.length ≤ 1000) : Sns (w.alloc (.cells cs t)) (some ⟨w.heap.size, 0, none⟩) l := by
  subst h
  have B := Blk.new w t (scs l).toArray
  refine ⟨by omega, fun _ => ⟨w.heap.size, 0, rfl, fun j s hj => ?_⟩⟩
  obtain ⟨g0, g1⟩ := scs_get hj
  exact ⟨by rw [Nat.zero_add, B.cell]; simpa using g0, by rw [Nat.zero_add, B.cell]; simpa using g1⟩
def cnt' (L : List Snd) (p i : Nat) : Int := (cntL (L.take p) i : Nat)
theorem cnt_set {L : List Snd} {n p : Nat} {s : Snd} (h : L[p]? = some s) (hs : s.1 < n) : (tab n (cnt' L p)).set s.1 (cnt' L p s.1 + 1) = tab n (cnt' L (p + 1)) := by
  have next : ∀ i, cnt' L (p + 1) i = cnt' L p i + if s.1 = i then 1 else 0 := fun i => by
    rw [cnt', cnt', take_next h, cnt_app, show [s] = [(s.1, s.2)] from rfl, cnt_one]
    split <;> simp
  refine list_ext (by rw [List.length_set, length_tab, length_tab]) (fun i hi => ?_)
  rw [List.length_set, length_tab] at hi
  rw [gt_tab _ hi, next]
  by_cases e : i = s.1
  · subst e
    rw [if_pos rfl]
    exact gt_of_get (by rw [List.getElem?_set_self (by rw [length_tab]; exact hi)])
  · rw [if_neg (by omega), Int.add_zero, show gt ((tab n (cnt' L p)).set s.1 (cnt' L p s.1 + 1)) i = gt (tab n (cnt' L p)) i by simp only [gt, List.getD]; rw [List.getElem?_set_ne (by omega)], gt_tab _ hi]
theorem cnt_zero (L : List Snd) (n : Nat) : ((tab n (cnt' L 0)).map (Value.int .i64)).toArray = madeCells #[Value.int .i64 0] n := by
  rw [← rowAt_zero n (fun _ => 0)]
  congr 1
  have : ∀ n : Nat, (tab n (cnt' L 0)).map (Value.int .i64) = List.replicate n (.int .i64 0) := fun n => by
    induction n with
    | zero => rfl
    | succ n ih => rw [tab_succ, List.map_append, ih, List.replicate_succ']; rfl
  rw [this, rowAt, tab_zero]; rfl
theorem cnt_bd (L : List Snd) (p i : Nat) : 0 ≤ cnt' L p i ∧ cnt' L p i ≤ L.length := by
  have h1 : cntL (L.take p) i ≤ (L.take p).length := List.countP_le_length
  have h2 : (L.take p).length ≤ L.length := by rw [List.length_take]; omega
  unfold cnt'
  omega

set_option maxRecDepth 100000 in
set_option maxHeartbeats 6400000 in
theorem walk_TurnsAll (a0 : Option Addr) (c0 : Nat) (l0 : List Fw) (w : World)
    (h0 : Fls w a0 l0) (k0 : l0.length ≤ c0) :
    Calls Try.prog 4 #[.slice a0 l0.length c0] w fun e w' => e = .returned (.bool true) ∧ Below w.heap.size w w' := by
  have hb : Below w.heap.size w w := Below.refl _ _
  have LF := Lib.hid (length_fls l0)
  go_enter Try.func4, Try.ntmps4
  go_wp2_with fail
  refine (flow_any 2 _ _ _ _).mono ?_
  rintro e w1 ⟨rfl, bw1⟩
  have zw1 := Ints.below (l := [3,1]) (Ints.lit _ [3,1] _ _ rfl (by decide)) bw1
  replace bw1 := below_of1 bw1
  replace h0 := h0.below bw1
  replace hb := below_trans hb bw1
  go_wp2_with fail
  refine (flow_any 5 _ _ _ _).mono ?_
  rintro e w2 ⟨rfl, bw2⟩
  have zw2 := Ints.below (l := [4]) (Ints.lit _ [4] _ _ rfl (by decide)) bw2
  replace bw2 := below_of1 bw2
  replace h0 := h0.below bw2
  replace hb := below_trans hb bw2
  replace zw1 := zw1.below bw2
  go_wp2_with fail
  refine (trun_at _ [⟨2, _, _, [3, 1]⟩, ⟨5, _, _, [4]⟩] [(1, 0), (0, 0), (0, 1)] _ _ _ (by exact Fls.lit2 _ _ _ _ _ _ _ _ _ [3, 1] [4] _ zw1 rfl (by decide) zw2 rfl (by decide)) (Lib.hid (by show flE [⟨2, [3, 1]⟩, ⟨5, [4]⟩] = 0; decide)) (Lib.hid (by show ordF [⟨2, [3, 1]⟩, ⟨5, [4]⟩] = _; exact ord_lit)) rfl).mono ?_
  rintro e w3 ⟨Ax, cx, rfl, ox, b3⟩
  have hx := Sns.of_own ox
  replace b3 := below_of1 b3
  replace h0 := h0.below b3
  replace hb := below_trans hb b3
  clear ox b3 zw1 zw2 bw1 bw2
  go_wp2_with fail
  refine (sentSame Ax _ [(1, 0), (0, 0), (0, 1)] _ _ _ _ _ (by exact hx.alloc _) (by exact Sns.lit _ [(1, 0), (0, 0), (0, 1)] _ _ rfl (by decide)) rfl rfl).mono ?_
  rintro e w4 ⟨rfl, n4, hw4⟩
  have b4 := below_of1 (below_of_drewN hw4)
  replace h0 := h0.below b4
  replace hb := below_trans hb b4
  clear hw4 b4 hx
  by_cases hE : flE (fls l0) = 0
  · have v := flE_iff.1 hE
    have HE := Lib.hid hE
    have h8 : l0.length ≤ 8 := by have := v.le; rwa [length_fls] at this
    obtain ⟨L, hL⟩ : ∃ L, L = ordF (fls l0) := ⟨_, rfl⟩
    obtain ⟨ko, kc⟩ := ord_keep v 60000
    have ho : InOrd L := by rw [hL]; exact ko
    have hc : ∀ k, k < l0.length → cntL L k = (flw (fls l0) k).z.length := fun k hk => by
      rw [hL, ordF, kc k (by rw [LF.out]; exact hk), cn_end (v.ok k (by rw [LF.out]; exact hk)) (Nat.le_refl _)]
    have hf : ∀ s ∈ L, s.1 < l0.length ∧ s.2 < (flw (fls l0) s.1).z.length := fun s hs => by
      rw [hL, ordF] at hs
      have := ord_flow _ hs
      rwa [LF.out] at this
    have lb : L.length ≤ 480 := by rw [hL]; exact ord_bd v _
    have HL : Hid (ordF (fls l0) = L) := Lib.hid hL.symm
    have HO := Lib.hid ho
    have HC := Lib.hid hc
    have HF := Lib.hid hf
    clear hE hL ko kc ho hc hf
    have hmk := fun W => run_make_row' (P := Try.prog) 27 3 (.int .i64 0) 8 Try.underlying27 int_info rfl .i64 .i64 l0.length (by omega) (by omega) W
    go_wp2_with fail
    refine (trun_at a0 l0 L _ c0 _ h0 HE HL rfl).mono ?_
    rintro e w5 ⟨Ax, cx, rfl, ox, b5⟩
    have hx := Sns.of_own ox
    replace h0 := h0.below b5
    replace hb := below_trans hb b5
    clear ox b5
    go_wp2
    go_loopw [53] (fun i wr => ∃ p : Nat, p ≤ L.length ∧ i = .int .i64 p ∧ Blk wr w5.heap.size 3 ((tab l0.length (cnt' L p)).map (Value.int .i64)).toArray ∧ Below w5.heap.size w5 wr) (fun i _ => L.length - (intOf i).toNat)
    case atStart => exact ⟨0, Nat.zero_le _, rfl, by rw [cnt_zero]; exact Blk.new _ _ _, (Below.refl _ _).alloc (Nat.le_refl _) _⟩
    case round =>
      obtain ⟨p, hp, rfl, B, hbel⟩ := hrel
      by_cases hpl : p < L.length
      · obtain ⟨b1, o1, s, hA1, hb1, c1, c2, HS⟩ := (hx.below hbel).get hpl
        subst hA1
        obtain ⟨n1, n3⟩ := HF.out s (List.mem_of_getElem? HS.out)
        have n2 : s.2 = cntL (L.take p) s.1 := HO.out p s HS.out
        obtain ⟨bb, off, f, hA2, hbb, d0, d1, iz, kz, HP⟩ := (h0.below hbel).get n1
        subst hA2
        rw [flw_of HP.out] at n3
        have ok := v.ok s.1 (by rw [LF.out]; exact n1)
        rw [flw_of HP.out] at ok
        have zl : f.z.length ≤ 60 := ok.sz.le
        have hcy : wr.cell? ⟨w5.heap.size, s.1, none⟩ = some (.int .i64 (s.2 : Nat)) := by
          rw [B.cell]
          simp only [List.getElem?_toArray, List.getElem?_map]
          rw [get_tab _ n1, cnt', ← n2]; rfl
        have fz := B.frozen s.1
        have HZ2 : Hid ((tab l0.length (cnt' L p)).set s.1 ((s.2 : Int) + 1) = tab l0.length (cnt' L (p + 1))) := Lib.hid (by
          rw [← cnt_set HS.out n1, show cnt' L p s.1 = (s.2 : Int) by rw [cnt', ← n2]])
        obtain ⟨si, hsi⟩ : ∃ x, x = s.1 := ⟨_, rfl⟩
        obtain ⟨sj, hsj⟩ : ∃ x, x = s.2 := ⟨_, rfl⟩
        rw [← hsi] at c1 d0 d1 hcy fz HZ2 n1
        rw [← hsj] at c2 hcy HZ2 n3
        have n3' : sj < f.z.length := n3
        obtain ⟨W, hW⟩ : ∃ W, W = wr.alloc (.cells #[.int .i64 si, .int .i64 sj] 33) := ⟨_, rfl⟩
        have hWb : Below wr.heap.size wr W := by rw [hW]; exact (Below.refl _ _).alloc (Nat.le_refl _) _
        have BW := B.below hWb
        have hbW := below_trans hbel hWb
        have t0 : W.cell? ⟨wr.heap.size, 0, none⟩ = some (.int .i64 si) := by rw [hW]; exact (two_read (Blk.new _ _ _)).1
        have t1 : W.cell? ⟨wr.heap.size, 1, none⟩ = some (.int .i64 sj) := by rw [hW]; exact (two_read (Blk.new _ _ _)).2
        have d1' := (hWb.cell (p := ⟨bb, off + si * 2 + 1, none⟩) hbb).trans d1
        have hcy' := (hWb.cell (p := ⟨w5.heap.size, si, none⟩) B.lt).trans hcy
        have HW := Lib.hid hW
        have i1 : (p : Int) < (L.length : Int) := by omega
        have j1 : (si : Int) < (l0.length : Int) := by omega
        have j2 : (sj : Int) < (f.z.length : Int) := by omega
        have u1 : decide ((si : Int) < 0) = false := decide_eq_false (by omega)
        have u2 : decide (l0.length ≤ si) = false := decide_eq_false (by omega)
        have u3 : ((sj : Int) != (sj : Int)) = false := by simp
        have u4 : decide (f.z.length ≤ sj) = false := decide_eq_false (by omega)
        clear n2 hsi hsj HS HP B hWb hW d0 d1 hcy fz iz kz ok hbel n3
        go_wp2
        rw [← HW.out]
        go_quiet (fail)
        obtain ⟨W2, hW2⟩ : ∃ W2, W2 = W.drewN nq := ⟨_, rfl⟩
        have B2 : Blk W2 w5.heap.size 3 ((tab l0.length (cnt' L p)).map (Value.int .i64)).toArray := by rw [hW2]; exact BW
        have hb2 := below_trans hbW (below_of_drewN hW2)
        replace t0 : W2.cell? ⟨wr.heap.size, 0, none⟩ = some (.int .i64 si) := by rw [hW2]; exact t0
        replace hcy' : W2.cell? ⟨w5.heap.size, si, none⟩ = some (.int .i64 sj) := by rw [hW2]; exact hcy'
        have s9 : IntKind.i64.wrap ((sj : Int) + 1) = (sj : Int) + 1 := IntWalk.i64_in _ ⟨by omega, by omega⟩
        have fz := B2.frozen si
        have HBn : Hid (Blk (W2.setCell ⟨w5.heap.size, si, none⟩ (.int .i64 ((sj : Int) + 1))) w5.heap.size 3 ((tab l0.length (cnt' L (p + 1))).map (Value.int .i64)).toArray) := Lib.hid (by
          have := B2.set_ si (.int .i64 ((sj : Int) + 1))
          rw [← HZ2.out, List.map_set]
          simp at this
          exact this)
        have HBB := Lib.hid (hb2.setCell (p := ⟨w5.heap.size, si, none⟩) (Nat.le_refl _) (.int .i64 ((sj : Int) + 1)))
        rw [← hW2]
        clear hW2 BW hbW B2 hb2 t1 d1' u1 u2 u3 u4 hx h0 hb
        go_wp2
        go_roundw
        case rel => exact ⟨p + 1, by omega, by go_num, HBn.out, HBB.out⟩
        case measure => simp [intOf]; omega
      · obtain rfl : p = L.length := by omega
        have hB : Ints wr (some ⟨w5.heap.size, 0, none⟩) (tab l0.length (cnt' L L.length)) := Ints.of_own (c := l0.length) (base := w5.heap.size) (by
          have := own_of_blk (n := l0.length) B (Nat.le_refl w5.heap.size) (length_tab _ _).symm (by omega)
          rw [length_tab] at this ⊢
          exact this)
        replace h0 := h0.below hbel
        replace hb := below_trans hb hbel
        clear B hbel hx hpl
        go_wp2
        go_loopw [99] (fun i wi => ∃ k : Nat, k ≤ l0.length ∧ i = .int .i64 k ∧ Below wr.heap.size wr wi) (fun i _ => l0.length - (intOf i).toNat)
        case atStart => exact ⟨0, Nat.zero_le _, rfl, Below.refl _ _⟩
        case round =>
          obtain ⟨k, hk, rfl, hbel⟩ := hrel
          by_cases hlt : k < l0.length
          · obtain ⟨bb, off, f, hA2, hbb, d0, d1, iz, kz, HP⟩ := (h0.below hbel).get hlt
            subst hA2
            obtain ⟨b2, o2, y, e2, hc2, HY⟩ := (hB.below hbel).at_ (k := k) (by rw [length_tab]; exact hlt)
            obtain ⟨rfl, rfl⟩ := ad_inj' e2
            have hy := gt_of_get HY.out
            rw [gt_tab _ hlt, cnt', List.take_length, HC.out k hlt, flw_of HP.out] at hy
            have hy' : y = (f.z.length : Int) := hy.symm
            have zi := iz.1
            obtain ⟨W, hW⟩ : ∃ W, W = wr.alloc (.cells #[.int .i64 f.q, .slice f.a f.z.length f.c] 36) := ⟨_, rfl⟩
            have hWb : Below wr.heap.size wr W := by rw [hW]; exact (Below.refl _ _).alloc (Nat.le_refl _) _
            have t1 : W.cell? ⟨wr.heap.size, 1, none⟩ = some (.slice f.a f.z.length f.c) := by rw [hW]; exact (two_read (Blk.new _ _ _)).2
            have hcW := (hWb.cell (p := ⟨w5.heap.size, 0 + k, none⟩) (cell_lt hc2)).trans hc2
            rw [Nat.zero_add] at hcW
            have hbW := below_trans hbel hWb
            have HW := Lib.hid hW
            have i1 : (k : Int) < (l0.length : Int) := by omega
            have u1 : (y != (f.z.length : Int)) = false := by simp [hy']
            clear hy hy' hWb hW iz hc2 HY HP hbel e2
            go_wp2
            rw [← HW.out]
            go_quiet (fail)
            go_wp2
            go_roundw
            case rel => exact ⟨k + 1, by omega, by go_num, below_trans hbW (below_of_drewN rfl)⟩
            case measure => simp [intOf]; omega
          · go_wp2
            go_ret
            exact ⟨rfl, below_trans hb hbel⟩
  · have e1 : (flE (fls l0) != 0) = true := by simp [hE]
    have e2 : (flE (fls l0) == flE (fls l0)) = true := by simp
    go_wp2_with fail
    refine (trun_no a0 l0 c0 _ h0 hE).mono ?_
    rintro e w5 ⟨Ax, cx, rfl, ox, b5⟩
    replace h0 := h0.below b5
    replace hb := below_trans hb b5
    go_wp2_with fail
    refine (tcheck_any a0 l0 c0 _ h0).mono ?_
    rintro e w6 ⟨rfl, b6⟩
    replace hb := below_trans hb b6
    clear b5 b6
    go_wp2
    go_ret
    exact ⟨rfl, hb⟩

end Go.Proofs.Ythjeokdabdjhfaa
