
/-
  The walk of the law BoundSays.
-/
import Derived.Test.YtaopeofcmnckfaaBoundA
namespace Go.Proofs.Ytaopeofcmnckfaa
set_option linter.all false
open Go.RowKit Go.Shelf

theorem max_back (l m : List Int) : maxTo (tab l.length (fun t => gt l t - gt m t) ++ [0]) l.length = backV l m := by
  obtain ⟨L, hL⟩ : ∃ L, L = tab l.length (fun t => gt l t - gt m t) ++ [0] := ⟨_, rfl⟩
  rw [← hL]
  have g1 : ∀ i, i < l.length → gt L i = gt l i - gt m i := fun i hi => by
    rw [hL]
    exact gt_of_get (by rw [List.getElem?_append_left (by rw [length_tab]; exact hi)]; exact get_tab _ hi)
  have g2 : gt L l.length = 0 := by
    rw [hL]
    exact gt_of_get (by rw [List.getElem?_append_right (by rw [length_tab]; exact Nat.le_refl _), length_tab]; simp)
  have up : ∀ i, i ≤ l.length → gt L i ≤ maxTo L l.length := fun i hi => by
    by_cases q : maxTo L l.length < gt L i
    · have := (maxTo_iff L l.length (maxTo L l.length)).2 ⟨i, hi, q⟩; omega
    · omega
  have m0 : 0 ≤ maxTo L l.length := by have := up _ (Nat.le_refl _); omega
  have h1 : backV l m ≤ maxTo L l.length := (back_iff m0).2 (fun t ht => by have := up t (by omega); rw [g1 t ht] at this; omega)
  have h2 : maxTo L l.length ≤ backV l m := by
    by_cases q : backV l m < maxTo L l.length
    · obtain ⟨i, hi, hb⟩ := (maxTo_iff L l.length (backV l m)).1 q
      have := back0 l m
      by_cases e : i = l.length
      · subst e; omega
      · have := back_ge (a := l) (b := m) (t := i) (by omega); rw [g1 i (by omega)] at hb; omega
    · omega
  omega

theorem sub1_any (a b : Int) (w : World) (h1 : 0 ≤ a) (h2 : a ≤ 1000000) (h3 : 0 ≤ b) (h4 : b ≤ 1000000) :
    Calls Try.prog 33 #[.int .i64 a, .int .i64 b] w fun e w' => e = .returned (.int .i64 (a - b)) ∧ w = w' := by
  go_enter Try.func33, Try.ntmps33
  go_wp2
  go_ret
  exact ⟨rfl, rfl⟩

theorem bnew_one (w : World) (u : Value) (t : TypeId) : ∀ (j : Nat) (v : Value), [u][j]? = some v → (w.alloc (.cells #[u] t)).cell? ((⟨w.heap.size, 0, none⟩ : Addr).add j) = some v := new_one2 w u t

theorem slicesMax_at (A : Option Addr) (l : List Int) (nl c k : Nat) (M : Int) (w : World) (h : Ints w A l) (hl : l.length = k + 1) (hM : maxTo l k = M) (hn : nl = l.length) :
    Calls Try.prog 31 #[.slice A nl c] w fun e w' => e = .returned (.int .i64 M) ∧ w = w' := by
  subst hn
  have := slicesMax_any A l c w h (by omega)
  rw [show l.length - 1 = k by omega, hM] at this
  exact this

set_option maxHeartbeats 3200000 in
theorem walk_BoundSays (a0 : Option Addr) (c0 : Nat) (l0 : List Int) (a1 : Option Addr) (c1 : Nat) (l1 : List Int) (w : World)
    (h0 : Ints w a0 l0) (k0 : l0.length ≤ c0) (h1 : Ints w a1 l1) (k1 : l1.length ≤ c1) :
    Calls Try.prog 5 #[.slice a0 l0.length c0, .slice a1 l1.length c1] w fun e w' => e = .returned (.bool true) ∧ Below w.heap.size w w' := by
  have hb : Below w.heap.size w w := Below.refl _ _
  obtain ⟨i0, hi0, hz0, hz1, hz2⟩ := info_parts int_info
  by_cases g : chk2 l0 l1 = 0
  · have G := Lib.hid g
    obtain ⟨v0, v1, e01⟩ := chk2_iff.1 g
    have hp := v0.pos
    have hle := v0.le
    have hlm : l0.length ≤ l1.length := by omega
    have E := Lib.hid e01
    obtain ⟨D, X, hD⟩ := ex_delIs l0 l1
    have HK : ∃ k, DelRef D X k := by
      rcases hD with ⟨d, _, q1, q2⟩ | ⟨_, q1, q2⟩
      · exact ⟨d, .inl ⟨by omega, q1, q2⟩⟩
      · exact ⟨-1, .inr ⟨rfl, q1, q2⟩⟩
    obtain ⟨K, hK⟩ := HK
    have HD := Lib.hid hD
    have HKK := Lib.hid hK
    have HO : Hid (∀ (t : Nat) (w : World), t < l0.length → Calls Try.prog 33 #[.int .i64 (gt l0 t), .int .i64 (gt l1 t)] w fun e w' => e = .returned (.int .i64 ((fun t => gt l0 t - gt l1 t) t)) ∧ w = w') := Lib.hid (fun t w ht =>
      sub1_any (gt l0 t) (gt l1 t) w (v0.lo t ht) (v0.hi t ht) (v1.lo t (by omega)) (v1.hi t (by omega)))
    obtain ⟨F, hF⟩ : ∃ F : Nat → Int, F = fun t => gt l0 t - gt l1 t := ⟨_, rfl⟩
    rw [← hF] at HO
    obtain ⟨M, hM⟩ : ∃ M, M = backV l0 l1 := ⟨_, rfl⟩
    have HM : Hid (maxTo (tab l0.length F ++ [0]) l0.length = M) := Lib.hid (by rw [hF, hM]; exact max_back l0 l1)
    have HMM := Lib.hid hM
    obtain ⟨L, hL⟩ : ∃ L, L = tab l0.length F ++ [0] := ⟨_, rfl⟩
    rw [← hL] at HM
    have LC : Hid (L.map (Value.int .i64) = (tab l0.length F).map (Value.int .i64) ++ [.int .i64 0]) := Lib.hid (by rw [hL, List.map_append]; rfl)
    have LL : Hid (L.length = l0.length + 1) := Lib.hid (by rw [hL]; simp [length_tab])
    have t1 : (M != M) = false := by simp
    have ent : ∀ args w, (callFunc 33 args).run Try.prog w = .ok (.enter 33 args) w := enters_of Try.func33 (by kernel_rfl) rfl
    have ENT := Lib.hid ent
    clear g e01 hD hK hF hM hL ent
    go_enter Try.func5, Try.ntmps5
    go_wp2_with fail
    refine (back_yes a0 a1 l0 l1 _ _ c0 c1 _ v0 v1 E.out h0 h1 rfl rfl).mono ?_
    rintro e w1 ⟨rfl, bw1⟩
    replace h0 := h0.below bw1
    replace h1 := h1.below bw1
    replace hb := below_trans hb bw1
    clear bw1
    rw [← HMM.out]
    go_wp2_with fail
    refine (delay_yes a0 a1 l0 l1 _ _ c0 c1 D X _ HD.out v0 v1 E.out h0 h1 k0 k1 rfl rfl).mono ?_
    rintro e w2 ⟨rfl, nw2, hww2⟩
    have bw2 := below_of_drewN hww2
    clear hww2
    replace h0 := h0.below bw2
    replace h1 := h1.below bw2
    replace hb := below_trans hb bw2
    clear bw2
    go_wp2_with fail
    refine (refCurves_any a0 a1 l0 l1 c0 c1 _ h0 h1).mono ?_
    rintro e w' ⟨rfl, rfl⟩
    rw [G.out]
    go_wp2_with fail
    refine (zip_any _ a0 a1 l0 l1 c0 c1 F _ h0 h1 hle hlm ENT.out HO.out).mono ?_
    rintro e w3 ⟨Az, cz, rfl, oz, bw3⟩
    rw [length_tab] at oz
    have hsz := bw3.size
    simp only [length_tab]
    go_wp2_with (at_builtin; refine wpList_append_own _ rfl _ _ 22 rfl w2.heap.size 3 i0 (.int .i64 0) 1 8 Try.underlying22 hi0 hz0 hz1 hz2 rfl (by decide) _ _ _ rfl (World.ownsRow.alloc oz _) ⟨w3.heap.size, 0, none⟩ 1 1 [.int .i64 0] rfl rfl ?c1 ?c2 ?c3 ?c4 ?c5 ?_)
    case c1 => exact bnew_one _ _ _
    case c2 => exact one_cell2 _
    case c3 => unfold maxLen; omega
    case c4 => omega
    case c5 => simp; omega
    intro v' w4 hown' hgrow _
    have hbel' : Below w2.heap.size w2 w4 := ((bw3.alloc bw3.size _).grown hgrow (by simp; omega) (fun k hk => (oz.lt k hk).1))
    have hown'' : w4.ownsRow w2.heap.size 3 1 v' (l0.length + 1) (L.map (Value.int .i64)) := by rw [LC.out]; exact hown'
    obtain ⟨Av, cv, rfl, hv⟩ : ∃ Av cv, v' = .slice Av (l0.length + 1) cv ∧ Ints w4 Av L := by
      rcases AnsL.of (w := w2) (L := L) (by rw [LL.out]; exact hown'') hbel' with ⟨Av, cv, e, ho, _⟩
      injection e with e
      rw [LL.out] at e
      exact ⟨Av, cv, e, Ints.of_own ho⟩
    replace h0 := h0.below hbel'
    replace h1 := h1.below hbel'
    replace hb := below_trans hb hbel'
    clear hown' hown'' hgrow oz bw3 hbel'
    go_wp2_with fail
    refine (slicesMax_at Av L _ cv l0.length M _ hv LL.out HM.out LL.out.symm).mono ?_
    rintro e w' ⟨rfl, rfl⟩
    have hD := HD.out
    have hK := HKK.out
    go_wp2_with fail
    refine (refDelay_any a0 a1 l0 l1 c0 c1 D X K _ hD hK hle hp E.out h0 h1 k0 k1).mono ?_
    rintro e w5 ⟨rfl, nw5, hww5⟩
    have bw5 := below_of_drewN hww5
    clear hww5
    replace hb := below_trans hb bw5
    clear bw5
    rcases hK with ⟨q1, rfl, rfl⟩ | ⟨rfl, rfl, rfl⟩
    · clear hD
      have t2 : (D == D) = true := by simp
      go_wp2
      go_ret
      exact ⟨rfl, hb⟩
    · clear hD
      go_wp2
      go_ret
      exact ⟨rfl, hb⟩
  · have G := Lib.hid g
    have t1 : (chk2 l0 l1 != 0) = true := by simp [g]
    have t2 : (chk2 l0 l1 == chk2 l0 l1) = true := by simp
    clear g
    go_enter Try.func5, Try.ntmps5
    go_wp2_with fail
    refine (back_no a0 a1 l0 l1 c0 c1 _ G.out h0 h1).mono ?_
    rintro e w1 ⟨rfl, bw1⟩
    replace h0 := h0.below bw1
    replace h1 := h1.below bw1
    replace hb := below_trans hb bw1
    clear bw1
    go_wp2_with fail
    refine (delay_no a0 a1 l0 l1 c0 c1 _ G.out h0 h1).mono ?_
    rintro e w2 ⟨rfl, nw2, hww2⟩
    have bw2 := below_of_drewN hww2
    clear hww2
    replace h0 := h0.below bw2
    replace h1 := h1.below bw2
    replace hb := below_trans hb bw2
    clear bw2
    go_wp2_with fail
    refine (refCurves_any a0 a1 l0 l1 c0 c1 _ h0 h1).mono ?_
    rintro e w' ⟨rfl, rfl⟩
    go_wp2
    go_ret
    exact ⟨rfl, hb⟩

end Go.Proofs.Ytaopeofcmnckfaa
