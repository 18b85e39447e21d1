
/-
  The walk of the law FairOne.
-/
import Derived.Test.YtamkadffencpgaaFairL
import Derived.Test.YtamkadffencpgaaPkRow
namespace Go.Proofs.Ytamkadffencpgaa
set_option linter.all false
open Go.RowKit Go.Shelf Go.Lib

abbrev oneP : List Pk := [⟨0, 9, 0⟩, ⟨0, 1, 0⟩]
theorem one_min : MinAt oneP ones [0, 1] := by unfold MinAt; decide
theorem one_z : ∀ i, i < oneP.length → (pk oneP i).at_ ≤ 0 := by decide

set_option maxHeartbeats 800000 in
theorem clone_pks (A : Option Addr) (l : List Pk) (c : Nat) (w : World) (h : Pks w A l) (hs : 24 * l.length ≤ 140737488351232) :
    Calls Try.prog 16 #[.slice A l.length c] w (AnsP l w) := by
  obtain ⟨i0, hi0, hz0, hz1, hz2⟩ := info_parts pk_info
  have q : ∀ (w : World) (a : Option Addr) (n c n' c' : Nat), (binOp .eql 23 (.slice a n c) (.slice none n' c')).run Try.prog w = .ok (.bool a.isNone) w := fun w a n c n' c' => Lib.run_eql_slice_nil w _ _ a n c n' c' Try.underlying23
  rcases Nat.eq_zero_or_pos l.length with h0 | hp
  · obtain rfl : l = [] := List.eq_nil_of_length_eq_zero h0
    clear h0 h hs
    show Calls Try.prog 16 #[.slice A 0 c] w (AnsP [] w)
    cases A with
    | none =>
      go_enter Try.func16, Try.ntmps16
      go_wp2
      go_ret
      exact ⟨none, 0, rfl, World.ownsRow_nil _ _ _ _, Below.refl _ _⟩
    | some ad =>
      go_enter Try.func16, Try.ntmps16
      go_wp2_with (at_builtin; refine wpList_append_own _ rfl _ _ 23 rfl w.heap.size 32 i0 (.agg #[.int .i64 0, .int .i64 0, .int .i64 0]) 3 24 Try.underlying23 hi0 hz0 hz1 hz2 rfl (by decide) _ _ _ rfl (World.ownsRow_made w #[] 0 (Nat.le_refl _) (Nat.zero_le _) rfl) ad 0 c [] rfl ?rc1 ?rc2 ?rc3 ?rc4 ?rc5 ?rc6 ?_)
      case rc1 => simp
      case rc2 => intro j u hj; simp at hj
      case rc3 => intro u hu; simp at hu
      case rc4 => unfold maxLen; omega
      case rc5 => omega
      case rc6 => simp
      intro v' w1 hown hgrow hnil
      go_wp2
      go_ret
      exact AnsP.of (by simpa [pcs] using hown) (((Below.refl _ w).alloc (Nat.le_refl _) _).grown hgrow (by simp) (by intro k hk; simp [Value.ownBlock] at hk; omega))
  · obtain ⟨b, off, rfl, hc⟩ := h.2 hp
    have HC := Lib.hid h.cells
    have hlt : b < w.heap.size := cell_lt (hc 0 _ (pk_get hp)).1
    have hl := h.1
    clear hc
    go_enter Try.func16, Try.ntmps16
    go_wp2_with (at_builtin; refine wpList_append_own _ rfl _ _ 23 rfl w.heap.size 32 i0 (.agg #[.int .i64 0, .int .i64 0, .int .i64 0]) 3 24 Try.underlying23 hi0 hz0 hz1 hz2 rfl (by decide) _ _ _ rfl (World.ownsRow_made w #[] 0 (Nat.le_refl _) (Nat.zero_le _) rfl) ⟨b, off, none⟩ l.length c (pcs l) rfl ?qc1 ?qc2 ?qc3 ?qc4 ?qc5 ?qc6 ?_)
    case qc1 => exact length_pcs l
    case qc2 =>
      intro j u hj
      rw [Addr.add_lit]
      exact (Below.cell ((Below.refl w.heap.size w).alloc (Nat.le_refl _) _) (p := ⟨b, off + j, none⟩) hlt).trans (HC.out j u hj)
    case qc3 => exact pcs_one l
    case qc4 => unfold maxLen; omega
    case qc5 => omega
    case qc6 => simp
    intro v' w1 hown hgrow hnil
    go_wp2
    go_ret
    exact AnsP.of (by simpa using hown) (((Below.refl _ w).alloc (Nat.le_refl _) _).grown hgrow (by simp) (by intro k hk; simp [Value.ownBlock] at hk; omega))

/-- The first k packets of one flow. -/
def zfV (l : List Pk) (k i : Nat) : Pk := if i < k then ⟨(pk l i).at_, (pk l i).size, 0⟩ else pk l i
def zfL (l : List Pk) (k : Nat) : List Pk := (List.range l.length).map (zfV l k)
theorem length_zfL (l : List Pk) (k : Nat) : (zfL l k).length = l.length := by simp [zfL]
theorem get_zfL {l : List Pk} {k i : Nat} (h : i < l.length) : (zfL l k)[i]? = some (zfV l k i) := by simp [zfL, h]
theorem zfL_zero (l : List Pk) : zfL l 0 = l := by
  apply List.ext_getElem?
  intro i
  by_cases h : i < l.length
  · rw [get_zfL h, pk_get h, zfV, if_neg (by omega)]
  · rw [List.getElem?_eq_none (by rw [length_zfL]; omega), List.getElem?_eq_none (by omega)]
theorem zfL_set {l : List Pk} {k : Nat} (hk : k < l.length) : (zfL l k).set k ⟨(pk l k).at_, (pk l k).size, 0⟩ = zfL l (k + 1) := by
  apply List.ext_getElem?
  intro i
  by_cases h : i < l.length
  · rw [get_zfL h]
    by_cases e : i = k
    · subst e
      rw [List.getElem?_set_self (by rw [length_zfL]; exact h), zfV, if_pos (by omega)]
    · rw [List.getElem?_set_ne (by omega), get_zfL h]
      unfold zfV
      by_cases c : i < k
      · rw [if_pos c, if_pos (by omega)]
      · rw [if_neg c, if_neg (by omega)]
  · rw [List.getElem?_eq_none (by rw [List.length_set, length_zfL]; omega), List.getElem?_eq_none (by rw [length_zfL]; omega)]
theorem pcs_flow : ∀ {l : List Pk} {k : Nat} {p : Pk} (v : Int), l[k]? = some p → (pcs l).set (k * 3 + 2) (.int .i64 v) = pcs (l.set k ⟨p.at_, p.size, v⟩)
  | [], k, p, v, h => by simp at h
  | q :: l, 0, p, v, h => by simp at h; subst h; simp [pcs_cons]
  | q :: l, k + 1, p, v, h => by
    have ih := pcs_flow (l := l) (k := k) (p := p) v (by simpa using h)
    rw [pcs_cons, List.set_append_right _ _ (by simp; omega), List.set_cons_succ, pcs_cons, ← ih]
    simp [show (k + 1) * 3 + 2 - 3 = k * 3 + 2 by omega]
theorem fl_zfL {l : List Pk} {i : Nat} (h : i < l.length) : fl (zfL l l.length) i = 0 := by
  unfold fl
  rw [pk_of (get_zfL h), zfV, if_pos h]
  rfl
set_option maxHeartbeats 400000 in
theorem cless_any (x y : Int) (w : World) : Calls Try.prog 47 #[.int .i64 x, .int .i64 y] w fun e w' => e = .returned (.bool (decide (x < y))) ∧ w' = w := by
  go_enter Try.func47, Try.ntmps47
  go_wp2
  go_ret
  exact ⟨rfl, rfl⟩
set_option maxHeartbeats 800000 in
theorem sorted_yes (A : Option Addr) (x : List Nat) (c : Nat) (w : World) (h : Ints w A (nts x)) (h60 : x.length ≤ 60) (ho : Hid (∀ a, a + 1 < x.length → nth x a < nth x (a + 1))) :
    Calls Try.prog 17 #[.slice A x.length c] w fun e w' => e = .returned (.bool true) ∧ Below w.heap.size w w' := by
  by_cases h0 : x.length = 0
  · have e0 : IntKind.i64.wrap ((x.length : Int) - 1) = -1 := by rw [h0]; rfl
    rw [h0]
    go_enter Try.func17, Try.ntmps17
    go_wp2
    refine wp_loop_rounds 1 ?_
    rw [rounds_succ]
    go_wp2
    go_ret
    exact ⟨rfl, Below.refl _ _⟩
  · obtain ⟨n, hn⟩ : ∃ n, n = x.length := ⟨_, rfl⟩
    have n0 : 0 < n := by omega
    have n60 : n ≤ 60 := by omega
    rw [← hn]
    have HN := Lib.hid hn
    clear h0 hn h60
    go_enter Try.func17, Try.ntmps17
    go_wp2
    go_loopw [3] (fun t wr => ∃ k nd : Nat, k < n ∧ t = .int .i64 k ∧ wr = w.drewN nd) (fun t _ => (intOf t).toNat)
    case atStart => exact ⟨n - 1, 0, by omega, by congr 1; omega, rfl⟩
    case round =>
      obtain ⟨k, nd, hk, rfl, rfl⟩ := hrel
      by_cases h0 : k = 0
      · subst h0
        go_wp2
        go_ret
        exact ⟨rfl, below_of_drewN rfl⟩
      · obtain ⟨j, hj⟩ : ∃ j, j = k - 1 := ⟨_, rfl⟩
        obtain ⟨b1, o1, y, hA, hc1, HY⟩ := h.at_ (k := k) (by rw [length_nts, ← HN.out]; omega)
        subst hA
        obtain ⟨b2, o2, z, hA, hc2, HZ⟩ := h.at_ (k := j) (by rw [length_nts, ← HN.out]; omega)
        obtain ⟨rfl, rfl⟩ : b2 = b1 ∧ o2 = o1 := by injection hA with hA; injection hA with e1 e2; exact ⟨e1.symm, e2.symm⟩
        obtain ⟨_, hy⟩ := nts_at HY.out
        obtain ⟨_, hz⟩ := nts_at HZ.out
        have hyz : ¬ y < z := by
          have := ho.out j (by rw [← HN.out]; omega)
          rw [show j + 1 = k by omega] at this
          omega
        have HD : Hid (decide (y < z) = false) := Lib.hid (decide_eq_false hyz)
        have j1 : (k : Int) < (n : Int) := by omega
        have j2 : (j : Int) < (n : Int) := by omega
        have j3 : (0 : Int) < (k : Int) := by omega
        have HJ : Hid ((k : Int) - 1 = (j : Int)) := Lib.hid (by omega)
        have HJN : Hid (j < n ∧ j < k) := Lib.hid (by omega)
        clear hA hy hz h0 hj
        have j4 : IntKind.i64.wrap ((k : Int) - 1) = (j : Int) := by rw [HJ.out]; exact IntWalk.i64_in _ ⟨by omega, by omega⟩
        have hless : ∀ W : World, Calls Try.prog 47 #[.int .i64 y, .int .i64 z] W fun e w' => e = .returned (.bool false) ∧ w' = W := fun W => by
          have := cless_any y z W
          rw [HD.out] at this
          exact this
        obtain ⟨W, hW⟩ : ∃ W, W = w.drewN nd := ⟨_, rfl⟩
        have d1 : W.cell? ⟨b2, o2 + k, none⟩ = some (.int .i64 y) := by rw [hW]; exact hc1
        have d2 : W.cell? ⟨b2, o2 + j, none⟩ = some (.int .i64 z) := by rw [hW]; exact hc2
        rw [← hW]
        have HW := Lib.hid hW
        clear hW hc1 hc2
        go_wp2
        go_quiet ((go_at_call 47; exact Calls.quiet_of_same (hless _)))
        clear j4
        go_wp2
        go_roundw
        case rel => exact ⟨j, nd + nq, HJN.out.1, by rw [HJ.out], by rw [HW.out]; simp [World.drewN, Nat.add_assoc]⟩
        case measure => have := HJ.out; have := HJN.out; simp [intOf]; omega

set_option maxRecDepth 100000 in
set_option maxHeartbeats 6400000 in
theorem walk_FairOne (a0 : Option Addr) (c0 : Nat) (l0 : List Int) (a1 : Option Addr) (c1 : Nat) (l1 : List Pk) (w : World)
    (h0 : Ints w a0 l0) (_k0 : l0.length ≤ c0) (_n0 : a0 = none → c0 = 0) (_s0 : 8 * l0.length ≤ 140737488351232) (h1 : Pks w a1 l1) (_k1 : l1.length ≤ c1) (_n1 : a1 = none → c1 = 0) (s1 : 24 * l1.length ≤ 140737488351232) :
    Calls Try.prog 6 #[.slice a0 l0.length c0, .slice a1 l1.length c1] w fun e w' => e = .returned (.bool true) ∧ Below w.heap.size w w' := by
  have hb : Below w.heap.size w w := Below.refl _ _
  clear _k0 _k1 _n0 _n1 _s0
  have ll := h1.1
  go_enter Try.func6, Try.ntmps6
  go_wp2_with fail
  refine (weights_any _).mono ?_
  rintro e w1 ⟨A1, rfl, i1, b1⟩
  replace h0 := h0.below b1
  replace h1 := h1.below b1
  replace hb := below_trans hb b1
  clear b1
  go_wp2_with fail
  refine (frun_lit A1 _ oneP [0, 1] _ 2 _ _ _ (by exact i1.alloc _) (by exact Pks.lit _ oneP _ _ rfl (by decide)) (by decide) one_z one_min (by decide) rfl (by decide) rfl rfl).mono ?_
  rintro e w2 ⟨C2, k2, rfl, x2, b2⟩
  replace b2 := below_of1 b2
  replace h0 := h0.below b2
  replace h1 := h1.below b2
  replace hb := below_trans hb b2
  clear b2 i1
  go_wp2_with fail
  refine (equal_at C2 _ (nts [0, 1]) [0, 1] _ _ _ _ _ (by exact Ints.alloc x2 _) (by exact Ints.lit _ [0, 1] _ _ rfl (by decide)) rfl rfl).mono ?_
  rintro e w3 ⟨rfl, n3, hw3⟩
  have b3 := below_of1 (below_of_drewN hw3)
  rw [eqB_true (l := nts [0, 1]) (m := [0, 1]) rfl]
  replace h0 := h0.below b3
  replace h1 := h1.below b3
  replace hb := below_trans hb b3
  clear b3 hw3 x2
  go_wp2_with fail
  refine (clone_pks a1 l1 c1 _ h1 s1).mono ?_
  rintro e w4 ⟨A4, c4, rfl, o4, b4⟩
  clear h1
  go_wp2
  go_loopw [31] (fun t wr => ∃ k : Nat, k ≤ l1.length ∧ t = .int .i64 k ∧ wr.ownsRow w3.heap.size 32 3 (.slice A4 l1.length c4) l1.length (pcs (zfL l1 k)) ∧ Below w3.heap.size w3 wr) (fun t _ => l1.length - (intOf t).toNat)
  case atStart => exact ⟨0, Nat.zero_le _, rfl, by rw [zfL_zero]; exact o4, b4⟩
  case round =>
    clear o4 b4
    obtain ⟨k, hk, rfl, o, hbel⟩ := hrel
    by_cases hlt : k < l1.length
    · obtain ⟨g, hA⟩ : ∃ g, A4 = some ⟨g, 0, none⟩ := by
        rcases o.2 with ⟨_, z⟩ | ⟨g, cap, cur, e, _⟩
        · omega
        · injection e with e _ _; exact ⟨g, e⟩
      subst hA
      have hgb := (o.lt g rfl).1
      have fz := o.frozenAt (k * 3 + 2)
      obtain ⟨u, hu⟩ : ∃ u, wr.cell? ⟨g, k * 3 + 2, none⟩ = some u := by
        refine ⟨_, (o.cellAt _ (by omega)).trans (List.getElem?_eq_getElem (by rw [length_pcs, length_zfL]; omega))⟩
      have s2 := (o.stored (k * 3 + 2) (.int .i64 0)).1
      have e : (pcs (zfL l1 k)).set (k * 3 + 2) (.int .i64 0) = pcs (zfL l1 (k + 1)) := by
        rw [pcs_flow 0 (get_zfL hlt), zfV, if_neg (by omega), zfL_set hlt]
      rw [e] at s2
      have HO := Lib.hid s2
      have HBB : Hid (Below w3.heap.size w3 (wr.setCell ⟨g, k * 3 + 2, none⟩ (.int .i64 0))) := Lib.hid (hbel.setCell (p := ⟨g, k * 3 + 2, none⟩) hgb _)
      have j1 : (k : Int) < (l1.length : Int) := by omega
      clear s2 e o hbel
      go_wp2
      go_roundw
      case rel => exact ⟨k + 1, by omega, by go_num, HO.out, HBB.out⟩
      case measure => simp [intOf]; omega
    · obtain rfl : k = l1.length := by omega
      obtain ⟨L, hL⟩ : ∃ L, L = zfL l1 l1.length := ⟨_, rfl⟩
      have LL : l1.length = L.length := by rw [hL, length_zfL]
      rw [← hL] at o
      have hP : Pks wr A4 L := by rw [LL] at o; exact Pks.of_own o
      replace h0 := h0.below hbel
      replace hb := below_trans hb hbel
      have HLL := Lib.hid LL
      have HL := Lib.hid hL
      have j1 : ¬ (l1.length : Int) < (l1.length : Int) := by omega
      clear o hbel hL LL
      by_cases hE : fwE l0 L = 0
      · obtain ⟨hv, hpe⟩ := fwE_ok hE
        have q := qu_of hpe
        have HE := Lib.hid hE
        have hle := q.le
        clear hE hpe
        go_wp2_with fail
        refine (frun_fair a0 A4 l0 L _ _ c0 c4 _ h0 hP HE rfl HLL.out).mono ?_
        rintro e w5 ⟨x, C, m, hx, rfl, ox, b5⟩
        have xl := hx.1
        have x60 : x.length ≤ 60 := by omega
        have hX : Ints w5 C (nts x) := by
          have := ox
          rw [← length_nts x] at this
          exact Ints.of_own this
        have hord : Hid (∀ a, a + 1 < x.length → nth x a < nth x (a + 1)) := Lib.hid (fun a ha => fair_one q hv hx (fun i hi => by rw [HL.out] at hi ⊢; rw [length_zfL] at hi; exact fl_zfL hi) (by omega) ha)
        have j2 : ((x.length : Int) == (l1.length : Int)) = true := by rw [xl, HLL.out]; simp
        replace hb := below_trans hb b5
        clear ox hx xl b5 hle
        go_wp2_with fail
        refine (sorted_yes C x m _ hX x60 hord).mono ?_
        rintro e w6 ⟨rfl, b6⟩
        replace hb := below_trans hb b6
        clear b6
        go_wp2
        go_ret
        exact ⟨rfl, hb⟩
      · have e1 : (fwE l0 L != 0) = true := by simp [hE]
        go_wp2_with fail
        refine (frun_fair_no a0 A4 l0 L _ _ c0 c4 _ h0 hP hE rfl HLL.out).mono ?_
        rintro e w5 ⟨rfl, b5⟩
        replace h0 := h0.below b5
        replace hP := hP.below b5
        replace hb := below_trans hb b5
        have hch := fcheck_any a0 A4 l0 L c0 c4 w5 h0 hP
        rw [← HLL.out] at hch
        clear b5
        go_wp2_with fail
        refine hch.mono ?_
        rintro e w6 ⟨rfl, b6⟩
        replace hb := below_trans hb b6
        clear b6 hch
        go_wp2
        go_ret
        exact ⟨rfl, hb⟩

end Go.Proofs.Ytamkadffencpgaa
