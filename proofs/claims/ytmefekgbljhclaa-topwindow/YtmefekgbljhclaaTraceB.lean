
/-
  Walks: trace.Env, trace.Fits; the document's own sum and conformance.
-/
import Derived.Test.YtmefekgbljhclaaTraceA
namespace Go.Proofs.Ytmefekgbljhclaa
set_option linter.all false
open Go.RowKit Go.Shelf

theorem new_one2 (w : World) (u : Value) (t : TypeId) : ∀ (j : Nat) (v : Value), [u][j]? = some v → (w.alloc (.cells #[u] t)).cell? ((⟨w.heap.size, 0, none⟩ : Addr).add j) = some v := by
  intro j v hj
  match j, hj with
  | 0, hj =>
    simp at hj
    subst hj
    rw [Addr.add_lit]
    exact (Blk.new w t #[u]).cell 0
theorem one_cell2 (x : Int) : ∀ u ∈ [Value.int .i64 x], u.oneCell' = true := by
  intro u hu
  simp at hu
  subst hu
  rfl

set_option maxHeartbeats 400000 in
theorem env_any (A : Option Addr) (l : List Int) (c : Nat) (w : World) (h : Ints w A l) (hc : l.length ≤ c) :
    Calls Try.prog 46 #[.slice A l.length c] w (Ans (resL (chk l) (dcL l l)) (resE (chk l) (dcL l l)) w) := by
  have HP := Lib.hid (deconv_any A A l l c c w h h hc)
  rw [chk2_self] at HP
  obtain ⟨L, hL⟩ : ∃ L, L = resL (chk l) (dcL l l) := ⟨_, rfl⟩
  obtain ⟨E, hE⟩ : ∃ E, E = resE (chk l) (dcL l l) := ⟨_, rfl⟩
  rw [← hL, ← hE] at HP ⊢
  clear hL hE
  go_enter Try.func46, Try.ntmps46
  go_wp2_with fail
  refine HP.out.mono ?_
  rintro e w1 ⟨A1, c1, rfl, o1, b1⟩
  go_wp2
  go_ret2
  exact ⟨A1, c1, rfl, o1, b1⟩

theorem env_ok (A : Option Addr) (l S : List Int) (nl c : Nat) (w : World) (z : Decs l l S) (h : Ints w A l) (hc : l.length ≤ c) (hl : nl = l.length) :
    Calls Try.prog 46 #[.slice A nl c] w (Ans S 0 w) := by
  subst hl
  have := env_any A l c w h hc
  rw [← z.is, chk_iff.2 z.one] at this
  have e := res_ok (bigB_no.2 z.r.hi)
  rw [e.1, e.2] at this
  exact this

set_option maxHeartbeats 400000 in
theorem fits_any (A A' : Option Addr) (l m : List Int) (c d : Nat) (w : World) (h : Ints w A l) (h' : Ints w A' m) (hc : l.length ≤ c) :
    Calls Try.prog 36 #[.slice A l.length c, .slice A' m.length d] w fun e w' => e = .returned (.tuple #[.bool (decide (chk2 l m = 0) && fitB l m), .int .i64 (chk2 l m)]) ∧ Below w.heap.size w w' := by
  have hb : Below w.heap.size w w := Below.refl _ _
  by_cases h1 : chk l = 0
  · have v := cv_of h1
    obtain ⟨x, z⟩ := ex_dec v v rfl
    have HX : Hid (chk2 x m = chk2 l m) := Lib.hid (chk2_like z.r v z.rlen)
    have HF : Hid (leB x m = fitB l m) := Lib.hid (by rw [fitB, ← z.is])
    clear h1 v
    go_enter Try.func36, Try.ntmps36
    go_wp2_with fail
    refine (env_ok A l x _ c _ z h hc rfl).mono ?_
    rintro e w1 ⟨Ax, cx, rfl, ox, bw1⟩
    replace h' := h'.below bw1
    replace hb := below_trans hb bw1
    have hx := Ints.of_own ox
    clear bw1 ox
    go_wp2_with fail
    refine (le_any Ax A' x m cx d _ hx h').mono ?_
    rintro e w2 ⟨rfl, n, hw⟩
    have b2 := below_trans hb (below_of_drewN hw)
    rw [HX.out, HF.out]
    clear hw
    go_wp2
    go_ret2
    exact ⟨rfl, b2⟩
  · have HE : Hid (resE (chk l) (dcL l l) = chk l) := Lib.hid (res_err h1).1
    have H2 : Hid (chk2 l m = chk l) := Lib.hid (by simp [chk2, h1])
    have e1 : (chk l != 0) = true := by simp [h1]
    have HD : Hid (decide (chk2 l m = 0) = false) := Lib.hid (decide_eq_false (by rw [H2.out]; exact h1))
    clear h1
    go_enter Try.func36, Try.ntmps36
    go_wp2_with fail
    refine (env_any A l c _ h hc).mono ?_
    rintro e w1 ⟨Ax, cx, rfl, ox, bw1⟩
    replace h' := h'.below bw1
    replace hb := below_trans hb bw1
    have hx := Ints.of_own ox
    clear bw1 ox
    rw [HE.out]
    go_wp2
    go_ret2
    exact ⟨by rw [HD.out, H2.out]; rfl, hb⟩

theorem fits_yes (A A' : Option Addr) (l m : List Int) (nl nm c d : Nat) (s : Bool) (w : World) (vl : Cv l) (vm : Cv m) (e : l.length = m.length) (hs : Hid (fitB l m = s)) (h : Ints w A l) (h' : Ints w A' m) (hc : l.length ≤ c) (hl : nl = l.length) (hm : nm = m.length) :
    Calls Try.prog 36 #[.slice A nl c, .slice A' nm d] w fun e w' => e = .returned (.tuple #[.bool s, .int .i64 0]) ∧ Below w.heap.size w w' := by
  subst hl hm
  have := fits_any A A' l m c d w h h' hc
  rw [hs.out, chk2_iff.2 ⟨vl, vm, e⟩] at this
  exact this

/-- What Smooth has seen: all pairs before (s, d). -/
def SmTo (f g : List Int) (s d : Nat) : Prop := ∀ i j, i + j < f.length → j < g.length → (i < s ∨ i = s ∧ j < d) → gt f (i + j) ≤ gt f i + gt g j
theorem SmTo.init (f g : List Int) : SmTo f g 0 0 := fun i j _ _ h => by rcases h with h | ⟨_, h⟩ <;> omega
theorem SmTo.next {f g : List Int} {s d : Nat} (h : SmTo f g s d) (hk : s + d < f.length → gt f (s + d) ≤ gt f s + gt g d) : SmTo f g s (d + 1) := fun i j hi hj h' => by
  by_cases e : i = s ∧ j = d
  · obtain ⟨rfl, rfl⟩ := e; exact hk hi
  · exact h i j hi hj (by omega)
theorem SmTo.row {f g : List Int} {s : Nat} (h : SmTo f g s g.length) : SmTo f g (s + 1) 0 := fun i j hi hj h' => h i j hi hj (by omega)

end Go.Proofs.Ytmefekgbljhclaa
