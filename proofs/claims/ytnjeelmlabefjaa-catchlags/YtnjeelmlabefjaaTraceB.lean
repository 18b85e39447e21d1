
/-
  Walks: trace.Env, trace.Fits; the document's own sum and conformance.
-/
import Derived.Test.YtnjeelmlabefjaaTraceA
namespace Go.Proofs.Ytnjeelmlabefjaa
set_option linter.all false
open Go.RowKit Go.Shelf

theorem new_one2 (w : World) (u : Value) (t : TypeId) : ∀ (j : Nat) (v : Value), [u][j]? = some v → (w.alloc (.cells #[u] t)).cell? ((⟨w.heap.size, 0, none⟩ : Addr).add j) = some v := by
  intro j v hj
  match j, hj with
  | 0, hj =>
    simp at hj
    subst hj
    rw [Addr.add_lit]
    exact (Blk.new w t #[u]).cell 0
theorem one_cell2 (x : Int) : ∀ u ∈ [Value.int .i64 x], u.oneCell' = true := by
  intro u hu
  simp at hu
  subst hu
  rfl

set_option maxHeartbeats 1600000 in
theorem refAdded_any (A : Option Addr) (l : List Int) (c : Nat) (w : World) (h : Ints w A l) (v : Tr l) :
    Calls Try.prog 39 #[.slice A l.length c] w (AnsL (adL l) w) := by
  obtain ⟨i0, hi0, hz0, hz1, hz2⟩ := info_parts int_info
  have hle := v.le
  obtain ⟨F, hF⟩ : ∃ F, F = sumV l := ⟨_, rfl⟩
  have HL : Hid (adL l = tab (l.length + 1) F) := Lib.hid (by rw [hF]; rfl)
  have BF : Hid (∀ i, i ≤ l.length → 0 ≤ F i ∧ F i ≤ 10000000) := Lib.hid (fun i hi => by have := sum_lo v i hi; rw [hF]; omega)
  have HS : Hid (∀ u, F (u + 1) = F u + gt l u) := Lib.hid (fun u => by rw [hF]; rfl)
  have H0 : Hid (F 0 = 0) := Lib.hid (by rw [hF]; rfl)
  clear hF
  go_enter Try.func39, Try.ntmps39
  go_wp2
  go_loopw [3, 9] (fun v i wr => ∃ k : Nat, k ≤ l.length ∧ i = .int .i64 k ∧ wr.ownsRow w.heap.size 3 1 v (k + 1) ((tab (k + 1) F).map (Value.int .i64)) ∧ Below w.heap.size w wr) (fun _ i _ => l.length - (intOf i).toNat)
  case atStart =>
    refine ⟨0, Nat.zero_le _, rfl, ?_, (Below.refl _ _).alloc (Nat.le_refl _) _⟩
    rw [show (tab (0 + 1) F).map (Value.int .i64) = (#[Value.int .i64 0] : Array Value).toList by rw [tab_succ, tab_zero, H0.out]; rfl]
    exact World.ownsRow_lit w #[.int .i64 0] 1 (Nat.le_refl _) (by decide) rfl
  case round =>
    obtain ⟨t, ht, rfl, hown, hbel⟩ := hrel
    by_cases hlt : t < l.length
    · obtain ⟨b1, o1, x, rfl, hc1, HX⟩ := (h.below hbel).at_ hlt
      obtain ⟨g, cap, rfl, hg, hgl⟩ := hown.form (by omega)
      have r1 : Ints wr (some ⟨g, 0, none⟩) (tab (t + 1) F) := Ints.of_own (c := cap) (by rw [length_tab]; exact hown)
      obtain ⟨b2, o2, y, e2, hc2, HY⟩ := r1.at_ (k := t) (by rw [length_tab]; omega)
      obtain ⟨rfl, rfl⟩ : b2 = g ∧ o2 = 0 := by injection e2 with e1; injection e1 with e1 e2; exact ⟨e1.symm, e2.symm⟩
      clear e2
      have hx := gt_of_get HX.out
      have hy := gt_of_get HY.out
      rw [gt_tab _ (by omega)] at hy
      have x0 : 0 ≤ x := by rw [← hx]; exact v.lo t hlt
      have x1 : x ≤ 10000 := by rw [← hx]; exact v.hi t hlt
      have y0 : 0 ≤ y := by rw [← hy]; exact (BF.out t ht).1
      have y1 : y ≤ 10000000 := by rw [← hy]; exact (BF.out t ht).2
      have HN : Hid (F (t + 1) = y + x) := Lib.hid (by rw [HS.out, hy, hx])
      simp only [Nat.zero_add] at hc2
      clear hx hy r1
      have hsz := hbel.size
      go_wp2_with (at_builtin; refine wpList_append_own _ rfl _ _ 22 rfl w.heap.size 3 i0 (.int .i64 0) 1 8 Try.underlying22 hi0 hz0 hz1 hz2 rfl (by decide) _ _ _ rfl (World.ownsRow.alloc hown _) ⟨wr.heap.size, 0, none⟩ 1 1 [.int .i64 (y + x)] rfl rfl ?c1 ?c2 ?c3 ?c4 ?c5 ?_)
      case c1 => exact new_one2 _ _ _
      case c2 => exact one_cell2 _
      case c3 => unfold maxLen; omega
      case c4 => omega
      case c5 => simp; omega
      intro v' w1 hown' hgrow _
      have hbel' : Below w.heap.size w w1 := ((hbel.alloc hbel.size _).grown hgrow (by simp; omega) (fun k hk => (hown.lt k hk).1))
      have hown'' : w1.ownsRow w.heap.size 3 1 v' (t + 1 + 1) ((tab (t + 1 + 1) F).map (Value.int .i64)) := by rw [tab_succ, List.map_append, HN.out]; exact hown'
      clear hown' hgrow hown hbel
      go_wp2
      go_roundw
      case rel => exact ⟨t + 1, by omega, by go_num, hown'', hbel'⟩
      case measure => simp [intOf]; omega
    · obtain rfl : t = l.length := by omega
      go_wp2
      go_ret
      rw [HL.out]
      exact AnsL.of (by rw [length_tab]; exact hown) hbel

set_option maxHeartbeats 400000 in
theorem env_any (A : Option Addr) (l : List Int) (c : Nat) (w : World) (h : Ints w A l) (hc : l.length ≤ c) :
    Calls Try.prog 47 #[.slice A l.length c] w (Ans (resL (chk l) (dcL l l)) (resE (chk l) (dcL l l)) w) := by
  have HP := Lib.hid (deconv_any A A l l c c w h h hc)
  rw [chk2_self] at HP
  obtain ⟨L, hL⟩ : ∃ L, L = resL (chk l) (dcL l l) := ⟨_, rfl⟩
  obtain ⟨E, hE⟩ : ∃ E, E = resE (chk l) (dcL l l) := ⟨_, rfl⟩
  rw [← hL, ← hE] at HP ⊢
  clear hL hE
  go_enter Try.func47, Try.ntmps47
  go_wp2_with fail
  refine HP.out.mono ?_
  rintro e w1 ⟨A1, c1, rfl, o1, b1⟩
  go_wp2
  go_ret2
  exact ⟨A1, c1, rfl, o1, b1⟩

theorem env_ok (A : Option Addr) (l S : List Int) (nl c : Nat) (w : World) (z : Decs l l S) (h : Ints w A l) (hc : l.length ≤ c) (hl : nl = l.length) :
    Calls Try.prog 47 #[.slice A nl c] w (Ans S 0 w) := by
  subst hl
  have := env_any A l c w h hc
  rw [← z.is, chk_iff.2 z.one] at this
  have e := res_ok (bigB_no.2 z.r.hi)
  rw [e.1, e.2] at this
  exact this

set_option maxHeartbeats 400000 in
theorem fits_any (A A' : Option Addr) (l m : List Int) (c d : Nat) (w : World) (h : Ints w A l) (h' : Ints w A' m) (hc : l.length ≤ c) :
    Calls Try.prog 29 #[.slice A l.length c, .slice A' m.length d] w fun e w' => e = .returned (.tuple #[.bool (decide (chk2 l m = 0) && fitB l m), .int .i64 (chk2 l m)]) ∧ Below w.heap.size w w' := by
  have hb : Below w.heap.size w w := Below.refl _ _
  by_cases h1 : chk l = 0
  · have v := cv_of h1
    obtain ⟨x, z⟩ := ex_dec v v rfl
    have HX : Hid (chk2 x m = chk2 l m) := Lib.hid (chk2_like z.r v z.rlen)
    have HF : Hid (leB x m = fitB l m) := Lib.hid (by rw [fitB, ← z.is])
    clear h1 v
    go_enter Try.func29, Try.ntmps29
    go_wp2_with fail
    refine (env_ok A l x _ c _ z h hc rfl).mono ?_
    rintro e w1 ⟨Ax, cx, rfl, ox, bw1⟩
    replace h' := h'.below bw1
    replace hb := below_trans hb bw1
    have hx := Ints.of_own ox
    clear bw1 ox
    go_wp2_with fail
    refine (le_any Ax A' x m cx d _ hx h').mono ?_
    rintro e w2 ⟨rfl, n, hw⟩
    have b2 := below_trans hb (below_of_drewN hw)
    rw [HX.out, HF.out]
    clear hw
    go_wp2
    go_ret2
    exact ⟨rfl, b2⟩
  · have HE : Hid (resE (chk l) (dcL l l) = chk l) := Lib.hid (res_err h1).1
    have H2 : Hid (chk2 l m = chk l) := Lib.hid (by simp [chk2, h1])
    have e1 : (chk l != 0) = true := by simp [h1]
    have HD : Hid (decide (chk2 l m = 0) = false) := Lib.hid (decide_eq_false (by rw [H2.out]; exact h1))
    clear h1
    go_enter Try.func29, Try.ntmps29
    go_wp2_with fail
    refine (env_any A l c _ h hc).mono ?_
    rintro e w1 ⟨Ax, cx, rfl, ox, bw1⟩
    replace h' := h'.below bw1
    replace hb := below_trans hb bw1
    have hx := Ints.of_own ox
    clear bw1 ox
    rw [HE.out]
    go_wp2
    go_ret2
    exact ⟨by rw [HD.out, H2.out]; rfl, hb⟩

theorem fits_yes (A A' : Option Addr) (l m : List Int) (nl nm c d : Nat) (s : Bool) (w : World) (vl : Cv l) (vm : Cv m) (e : l.length = m.length) (hs : Hid (fitB l m = s)) (h : Ints w A l) (h' : Ints w A' m) (hc : l.length ≤ c) (hl : nl = l.length) (hm : nm = m.length) :
    Calls Try.prog 29 #[.slice A nl c, .slice A' nm d] w fun e w' => e = .returned (.tuple #[.bool s, .int .i64 0]) ∧ Below w.heap.size w w' := by
  subst hl hm
  have := fits_any A A' l m c d w h h' hc
  rw [hs.out, chk2_iff.2 ⟨vl, vm, e⟩] at this
  exact this

/-- What Smooth has seen: all pairs before (s, d). -/
def SmTo (f g : List Int) (s d : Nat) : Prop := ∀ i j, i + j < f.length → j < g.length → (i < s ∨ i = s ∧ j < d) → gt f (i + j) ≤ gt f i + gt g j
theorem SmTo.init (f g : List Int) : SmTo f g 0 0 := fun i j _ _ h => by rcases h with h | ⟨_, h⟩ <;> omega
theorem SmTo.next {f g : List Int} {s d : Nat} (h : SmTo f g s d) (hk : s + d < f.length → gt f (s + d) ≤ gt f s + gt g d) : SmTo f g s (d + 1) := fun i j hi hj h' => by
  by_cases e : i = s ∧ j = d
  · obtain ⟨rfl, rfl⟩ := e; exact hk hi
  · exact h i j hi hj (by omega)
theorem SmTo.row {f g : List Int} {s : Nat} (h : SmTo f g s g.length) : SmTo f g (s + 1) 0 := fun i j hi hj h' => h i j hi hj (by omega)

end Go.Proofs.Ytnjeelmlabefjaa
