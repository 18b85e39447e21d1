
/-
  Walks: what the document's own functions answer: slices.Max, Fits, told, Zip.
-/
import Derived.Test.YthngolnflogdnaaPointA
import Derived.Shelf.Abstract
import Derived.StillTailTactics
import Derived.Deep.RegionHeld3
import Derived.Deep.AppendLies
namespace Go.Proofs.Ythngolnflogdnaa
set_option linter.all false
open Go.RowKit Go.Shelf

/-- The greatest of the values 0 to k. -/
def maxTo (l : List Int) : Nat → Int
  | 0 => gt l 0
  | k + 1 => max (maxTo l k) (gt l (k + 1))

theorem maxTo_iff (l : List Int) (k : Nat) (B : Int) : B < maxTo l k ↔ ∃ i, i ≤ k ∧ B < gt l i := by
  induction k with
  | zero =>
    refine ⟨fun h => ⟨0, Nat.le_refl _, h⟩, ?_⟩
    rintro ⟨i, hi, h⟩
    obtain rfl : i = 0 := by omega
    exact h
  | succ k ih =>
    constructor
    · intro h
      by_cases h' : B < gt l (k + 1)
      · exact ⟨k + 1, Nat.le_refl _, h'⟩
      · obtain ⟨i, hi, hb⟩ := ih.1 (by simp only [maxTo] at h; omega)
        exact ⟨i, by omega, hb⟩
    · rintro ⟨i, hi, h⟩
      simp only [maxTo]
      by_cases e : i = k + 1
      · subst e; omega
      · have := ih.2 ⟨i, by omega, h⟩; omega

theorem big_maxTo {l : List Int} (h : 0 < l.length) : 1000000 < maxTo l (l.length - 1) ↔ bigB l = true := by
  rw [maxTo_iff, bigB_iff]
  exact ⟨fun ⟨i, hi, h⟩ => ⟨i, by omega, h⟩, fun ⟨i, hi, h⟩ => ⟨i, by omega, h⟩⟩

set_option maxHeartbeats 400000 in
theorem slicesMax_any (A : Option Addr) (l : List Int) (c : Nat) (w : World) (h : Ints w A l) (hp : 0 < l.length) :
    Calls Try.prog 54 #[.slice A l.length c] w fun e w' => e = .returned (.int .i64 (maxTo l (l.length - 1))) ∧ w = w' := by
  have hl := h.1
  obtain ⟨bb, off, x, rfl, hcell, HX⟩ := h.at_ (k := 0) hp
  have e0 : ¬ (l.length : Int) < 1 := by omega
  have hp' : (0 : Int) < (l.length : Int) := by omega
  simp only [Nat.add_zero] at hcell
  go_enter Try.func54, Try.ntmps54
  go_wp2
  go_loop [3, 4] (fun m i => ∃ k : Nat, 1 ≤ k ∧ k ≤ l.length ∧ i = .int .i64 k ∧ m = .int .i64 (maxTo l (k - 1))) (fun _ i => l.length - (intOf i).toNat)
  case atStart => exact ⟨1, Nat.le_refl _, by omega, rfl, by simp [maxTo, gt_of_get HX.out]⟩
  case round =>
    obtain ⟨k, h1, hk, rfl, rfl⟩ := hrel
    by_cases hlt : k < l.length
    · obtain ⟨bb', off', y, e, hcell', HY⟩ := h.at_ hlt
      obtain ⟨rfl, rfl⟩ : bb' = bb ∧ off' = off := by injection e with e; injection e with e1 e2; exact ⟨e1.symm, e2.symm⟩
      clear e
      obtain ⟨M, hM⟩ : ∃ M, M = maxTo l (k - 1) := ⟨_, rfl⟩
      rw [← hM]
      have HM := Lib.hid hM
      have HS : Hid (maxTo l (k + 1 - 1) = max M y) := Lib.hid (by
        obtain ⟨j, rfl⟩ : ∃ j, k = j + 1 := ⟨k - 1, by omega⟩
        rw [hM]; simp only [Nat.add_sub_cancel, maxTo]; rw [gt_of_get HY.out])
      clear hM
      go_wp2
      all_goals
        go_round
        case rel => exact ⟨k + 1, by omega, by omega, by go_num, by rw [HS.out]; congr 1; omega⟩
        case measure => simp [intOf]; omega
    · obtain rfl : k = l.length := by omega
      go_wp2
      go_ret
      exact ⟨rfl, rfl⟩

set_option maxHeartbeats 400000 in
theorem fits_ok (A : Option Addr) (l : List Int) (c : Nat) (w : World) (h : Ints w A l) (hb : bigB l = false) :
    Calls Try.prog 40 #[.slice A l.length c] w fun e w' => e = .returned (.tuple #[.slice A l.length c, .int .i64 0]) ∧ w = w' := by
  by_cases hp : 0 < l.length
  · have e0 : decide ((0 : Int) < (l.length : Int)) = true := decide_eq_true (by omega)
    have e1 : ¬ 1000000 < maxTo l (l.length - 1) := by rw [big_maxTo hp, hb]; simp
    have e2 : decide (1000000 < maxTo l (l.length - 1)) = false := decide_eq_false e1
    have e3 : maxTo l (l.length - 1) ≤ 1000000 := by omega
    clear e1 hb
    go_enter Try.func40, Try.ntmps40
    go_wp2_with fail
    refine (slicesMax_any A l c _ h hp).mono ?_
    rintro e w' ⟨rfl, rfl⟩
    go_wp2
    go_ret2
    exact ⟨rfl, rfl⟩
  · have e0 : decide ((0 : Int) < (l.length : Int)) = false := decide_eq_false (by omega)
    have e1 : (l.length : Int) ≤ 0 := by omega
    clear hb
    go_enter Try.func40, Try.ntmps40
    go_wp2
    go_ret2
    exact ⟨rfl, rfl⟩

set_option maxHeartbeats 400000 in
theorem fits_big (A : Option Addr) (l : List Int) (c : Nat) (w : World) (h : Ints w A l) (hb : bigB l = true) :
    Calls Try.prog 40 #[.slice A l.length c] w fun e w' => e = .returned (.tuple #[.slice none 0 0, .int .i64 2]) ∧ w = w' := by
  have hp : 0 < l.length := by obtain ⟨i, hi, _⟩ := bigB_iff.1 hb; omega
  have e0 : decide ((0 : Int) < (l.length : Int)) = true := decide_eq_true (by omega)
  have e1 : 1000000 < maxTo l (l.length - 1) := by rw [big_maxTo hp, hb]
  have e2 : decide (1000000 < maxTo l (l.length - 1)) = true := decide_eq_true e1
  clear hb
  go_enter Try.func40, Try.ntmps40
  go_wp2_with fail
  refine (slicesMax_any A l c _ h hp).mono ?_
  rintro e w' ⟨rfl, rfl⟩
  go_wp2
  go_ret2
  exact ⟨rfl, rfl⟩

set_option maxHeartbeats 400000 in
/-- told: what was answered is what must be. -/
theorem told_any (A A' : Option Addr) (L Y : List Int) (c d : Nat) (W : Int) (w : World) (h : Ints w A (resL W L)) (h' : Ints w A' Y) (hY : W = 0 → Y = L) :
    Calls Try.prog 19 #[.slice A (resL W L).length c, .int .i64 (resE W L), .slice A' Y.length d, .int .i64 W] w fun e w' => e = .returned (.bool true) ∧ ∃ n, w' = w.drewN n := by
  by_cases h0 : W = 0
  · subst h0
    obtain rfl := hY rfl
    clear hY
    cases hb : bigB Y
    · obtain ⟨e1, e2⟩ := res_ok hb
      rw [e2] at h ⊢
      rw [e1]
      have HB := Lib.hid hb
      clear hb e1 e2
      go_enter Try.func19, Try.ntmps19
      go_wp2_with fail
      refine (fits_ok A' Y d _ h' HB.out).mono ?_
      rintro e w' ⟨rfl, rfl⟩
      go_wp2_with fail
      refine (equal_any A A' Y Y c d _ h h').mono ?_
      rintro e w' ⟨rfl, n, rfl⟩
      rw [eqB_true rfl]
      go_wp2
      go_ret
      exact ⟨rfl, n, rfl⟩
    · obtain ⟨e1, e2⟩ := res_big hb
      rw [e2] at h ⊢
      rw [e1]
      have HB := Lib.hid hb
      clear hb e1 e2
      go_enter Try.func19, Try.ntmps19
      go_wp2_with fail
      refine (fits_big A' Y d _ h' HB.out).mono ?_
      rintro e w' ⟨rfl, rfl⟩
      go_wp2
      go_ret
      exact ⟨rfl, 0, rfl⟩
  · obtain ⟨e1, e2⟩ := res_err (L := L) h0
    rw [e2] at h ⊢
    rw [e1]
    have e3 : (W == 0) = false := by simp [h0]
    have e4 : (W != 0) = true := by simp [h0]
    have e5 : (W == W) = true := by simp
    clear e1 e2 hY h0
    go_enter Try.func19, Try.ntmps19
    go_wp2
    go_ret
    exact ⟨rfl, 0, rfl⟩

theorem told_at (A A' : Option Addr) (L Y : List Int) (nx ny c d : Nat) (W E : Int) (w : World) (h : Ints w A (resL W L)) (h' : Ints w A' Y) (hY : W = 0 → Y = L) (hx : nx = (resL W L).length) (hy : ny = Y.length) (hE : E = resE W L) :
    Calls Try.prog 19 #[.slice A nx c, .int .i64 E, .slice A' ny d, .int .i64 W] w fun e w' => e = .returned (.bool true) ∧ ∃ n, w' = w.drewN n := by
  subst hx hy hE; exact told_any A A' L Y c d W w h h' hY

/-- What a call leaves that hands back a list in new memory. -/
def AnsL (L : List Int) (w : World) (e : Ending) (w' : World) : Prop :=
  ∃ A c, e = .returned (.slice A L.length c) ∧ w'.ownsRow w.heap.size 3 1 (.slice A L.length c) L.length (L.map (Value.int .i64)) ∧ Below w.heap.size w w'

theorem AnsL.of {L : List Int} {w : World} {v : Value} {w' : World} (h : w'.ownsRow w.heap.size 3 1 v L.length (L.map (Value.int .i64))) (hb : Below w.heap.size w w') : AnsL L w (.returned v) w' := by
  rcases h.2 with ⟨rfl, h0⟩ | ⟨g, cap, cur, rfl, h1⟩
  · have : L = [] := List.eq_nil_of_length_eq_zero h0
    subst this
    exact ⟨none, 0, rfl, h, hb⟩
  · exact ⟨some ⟨g, 0, none⟩, cap, rfl, h, hb⟩

set_option maxHeartbeats 800000 in
theorem zip_any (k : FuncId) (A A' : Option Addr) (l m : List Int) (c d : Nat) (F : Nat → Int) (w : World) (h : Ints w A l) (h' : Ints w A' m) (hn : l.length ≤ 61) (hlm : l.length ≤ m.length)
    (hent : ∀ args w, (callFunc k args).run Try.prog w = .ok (.enter k args) w)
    (hop : ∀ (t : Nat) (w : World), t < l.length → Calls Try.prog k #[.int .i64 (gt l t), .int .i64 (gt m t)] w fun e w' => e = .returned (.int .i64 (F t)) ∧ w = w') :
    Calls Try.prog 13 #[.slice A l.length c, .slice A' m.length d, .func (.func k) #[] #[]] w (AnsL (tab l.length F) w) := by
  obtain ⟨i0, hi0, hz0, hz1, hz2⟩ := info_parts int_info
  have HOP := Lib.hid hop
  clear hop
  go_enter Try.func13, Try.ntmps13
  go_wp2
  go_loopw [7, 11] (fun v i wr => ∃ k : Nat, k ≤ l.length ∧ i = .int .i64 k ∧ wr.ownsRow w.heap.size 3 1 v k ((tab k F).map (Value.int .i64)) ∧ Below w.heap.size w wr) (fun _ i _ => l.length - (intOf i).toNat)
  case atStart => exact ⟨0, Nat.zero_le _, rfl, by rw [tab_zero]; exact World.ownsRow_nil _ _ _ _, Below.refl _ _⟩
  case round =>
    obtain ⟨t, ht, rfl, hown, hbel⟩ := hrel
    by_cases hlt : t < l.length
    · obtain ⟨b1, o1, x, rfl, hc1, HX⟩ := (h.below hbel).at_ hlt
      obtain ⟨b2, o2, y, rfl, hc2, HY⟩ := (h'.below hbel).at_ (k := t) (by omega)
      have i1 : (t : Int) < (l.length : Int) := by omega
      have i2 : (t : Int) < (m.length : Int) := by omega
      obtain rfl := (gt_of_get HX.out).symm
      obtain rfl := (gt_of_get HY.out).symm
      have z0 : (0 : Int) ≤ (t : Int) := by omega
      have hsz := hbel.size
      have lb1 : b1 < w.heap.size := by obtain ⟨_, _, e, hc⟩ := h.2 (by omega); injection e with e; injection e with e1 e2; subst e1; exact cell_lt (hc 0 (by omega))
      have lb2 : b2 < w.heap.size := by obtain ⟨_, _, e, hc⟩ := h'.2 (by omega); injection e with e; injection e with e1 e2; subst e1; exact cell_lt (hc 0 (by omega))
      have n1 : u7.ownBlock ≠ some b1 := fun e => by have := (hown.lt _ e).1; omega
      have n2 : u7.ownBlock ≠ some b2 := fun e => by have := (hown.lt _ e).1; omega
      go_wp2
      go_region_held3 (fun w' => w'.cell? ⟨b1, o1 + t, none⟩ = some (.int .i64 (gt l t)) ∧ w'.cell? ⟨b2, o2 + t, none⟩ = some (.int .i64 (gt m t))) (first | go_keep | (go_split_ands; refine ⟨?_, ?_⟩; (rw [hgrow.cell_far _ (by simp; omega) (Ne.symm n1)]; assumption); (rw [hgrow.cell_far _ (by simp; omega) (Ne.symm n2)]; assumption)))
        (first
          | ((with_reducible refine (HOP.out t _ hlt).mono ?_); rintro e w' ⟨rfl, rfl⟩)
          | (refine step_append_lies _ (by rfl) _ _ _ (by rfl) w.heap.size 3 i0 _ 1 8 Try.underlying22 hi0 hz0 hz1 hz2 rfl (by omega) u7 t ((tab t F).map (Value.int .i64)) (by rfl) ((World.ownsRow.alloc hown _).drew)
              ⟨wr.heap.size, 0, none⟩ 1 1 [.int .i64 (F t)] (by rfl) (by rfl) (World.news_of_block (cs := #[.int .i64 (F t)]) (t := 3) (fr := (0, 0)) (heap_alloc_new wr _)) (by simp [Value.oneCell'])
              (by omega) (by unfold maxLen; omega) (by omega) (by simp; omega) (wr.heap.size + 1) (by simp) ?_; intro gg cap w1 hown1 hgrow hat hlt'))
      have hbel' : Below w.heap.size w w1 := (((hbel.alloc hbel.size _).drew).grown hgrow (by simp; omega) (fun k hk => (hown.lt k hk).1))
      have hown'' : w1.ownsRow w.heap.size 3 1 (.slice (some ⟨gg, 0, none⟩) (t + 1) cap) (t + 1) ((tab (t + 1) F).map (Value.int .i64)) := by rw [tab_succ, List.map_append]; exact hown1
      clear hown1 hgrow hown hbel hat
      go_wp2
      go_roundw
      case rel => exact ⟨t + 1, by omega, by go_num, hown'', hbel'⟩
      case measure => simp [intOf]; omega
    · obtain rfl : t = l.length := by omega
      go_wp2
      go_ret
      exact AnsL.of (by rw [length_tab]; exact hown) hbel

end Go.Proofs.Ythngolnflogdnaa
