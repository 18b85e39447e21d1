
/-
  The landed world: made; more for all; a slot; package world's contracts, all.
-/
import Derived.Test.YtlaandbaaepamaaWldX
import Derived.Deep.DeepCutAuto
namespace Go.Proofs.Ytlaandbaaepamaa
set_option linter.all false
open Go.RowKit Go.Shelf Go.Lib

theorem WAt.lagged {w : World} {g i : Nat} {r u t : Int} {l : List Per} {n : Nat} (h : WAt w g r u t l n) (hi : i < 8) (x : Int) : WAt (w.setCell ⟨g, 3 + i * 3, none⟩ (.int .i64 x)) g r u t (l.set i ⟨x, (pr l i).part, (pr l i).done⟩) n := by
  have hl := h.len
  have k := h.blk.setl (i := 3 + i * 3) (.int .i64 x)
  rw [wcv_set _ (by rw [length_pecs]; omega), pecs_lag (by omega)] at k
  exact ⟨k, by rw [List.length_set]; exact hl⟩
theorem WAt.marked {w : World} {g i : Nat} {r u t : Int} {l : List Per} {n : Nat} (h : WAt w g r u t l n) (hi : i < 8) (x : Bool) : WAt (w.setCell ⟨g, 3 + i * 3 + 2, none⟩ (.bool x)) g r u t (l.set i ⟨(pr l i).lag, (pr l i).part, x⟩) n := by
  have hl := h.len
  have k := h.blk.setl (i := 3 + i * 3 + 2) (.bool x)
  rw [Nat.add_assoc, wcv_set _ (by rw [length_pecs]; omega), pecs_done (by omega)] at k
  exact ⟨by rw [Nat.add_assoc]; exact k, by rw [List.length_set]; exact hl⟩
theorem WAt.turned {w : World} {g : Nat} {r u t : Int} {l : List Per} {n : Nat} (h : WAt w g r u t l n) (x : Int) : WAt (w.setCell ⟨g, 2, none⟩ (.int .i64 x)) g r u x l n := ⟨h.blk.setl (i := 2) (.int .i64 x), h.len⟩

theorem Mv1.step {w w' w2 : World} {g : Nat} (k : Mv1 w w' g) (b : Below w'.heap.size w' w2) : Mv1 w w2 g :=
  ⟨b.os.trans k.os, b.tape.trans k.tape, b.output.trans k.output, Nat.le_trans k.size b.size, fun i hi ne => (b.block i (Nat.lt_of_lt_of_le hi k.size)).trans (k.block i hi ne), fun _ h => .inl h⟩
theorem Mv1.of_below {w w' : World} {g : Nat} (b : Below w.heap.size w w') : Mv1 w w' g := (Mv1.refl w g).step b
theorem Mv1.set_ {w w' : World} {g : Nat} (k : Mv1 w w' g) (i : Nat) (v : Value) : Mv1 w (w'.setCell ⟨g, i, none⟩ v) g :=
  ⟨k.os, k.tape, k.output, by simpa using k.size, fun j hj ne => (Below.heap_setCell w' ⟨g, i, none⟩ v j ne).trans (k.block j hj ne), fun _ h => .inl h⟩
theorem Mv1.drew {w w' : World} {g : Nat} (k : Mv1 w w' g) : Mv1 w w'.drew g := ⟨k.os, k.tape, k.output, k.size, k.block, k.new⟩
theorem Mv1.trans {w w' w2 : World} {g : Nat} (k : Mv1 w w' g) (m : Mv1 w' w2 g) : Mv1 w w2 g :=
  ⟨m.os.trans k.os, m.tape.trans k.tape, m.output.trans k.output, Nat.le_trans k.size m.size, fun i hi ne => (m.block i (Nat.lt_of_lt_of_le hi k.size) ne).trans (k.block i hi ne), fun _ h => .inl h⟩

/-- j peers that are there, the other places. -/
def startL (j : Nat) : List Per := List.replicate j ⟨0, 0, true⟩ ++ List.replicate (8 - j) ⟨0, 0, false⟩
theorem startL_len {j : Nat} (h : j ≤ 8) : (startL j).length = 8 := by simp [startL]; omega
theorem startL_at {j : Nat} (h : j < 8) : pr (startL j) j = ⟨0, 0, false⟩ := by
  simp only [pr, startL, List.getD]
  rw [List.getElem?_append_right (by simp), List.getElem?_replicate, if_pos (by simp; omega)]
  rfl
theorem startL_set {j : Nat} (h : j < 8) : (startL j).set j ⟨0, 0, true⟩ = startL (j + 1) := by
  apply List.ext_getElem?
  intro i
  rw [List.getElem?_set, startL_len (by omega)]
  simp only [startL, List.getElem?_append, List.length_replicate, List.getElem?_replicate]
  by_cases c : j = i
  · subst c; simp [h]
  · by_cases d : i < j
    · simp [c, d, show i < j + 1 by omega]
    · by_cases e : i < 8
      · simp [c, d, show ¬ i < j + 1 by omega, show i - j < 8 - j by omega, show i - (j + 1) < 8 - (j + 1) by omega]; omega
      · simp [c, d, show ¬ i < j + 1 by omega, show ¬ i - j < 8 - j by omega, show ¬ i - (j + 1) < 8 - (j + 1) by omega]; omega
theorem startL_pad (n : Nat) : startL n = padL (List.replicate n ⟨0, 0, true⟩) := by simp [startL, padL]

set_option maxHeartbeats 800000 in
theorem new_not (n r u : Int) (w : World) (h : ¬ NewOk n r u) :
    Calls Try.prog 10 #[.int .i64 n, .int .i64 r, .int .i64 u] w fun e w' => e = .returned (.tuple #[.pointer none, .int .i64 1]) ∧ Below w.heap.size w w' := by
  by_cases hn : n < 1 ∨ 8 < n
  · have q1 := lim_yes hn
    clear h hn
    go_enter Try.func10, Try.ntmps10
    go_wp2_with fail
    refine (lim_any n 1 8 true _ q1).mono ?_
    rintro e w' ⟨rfl, rfl⟩
    go_wp2
    go_ret2
    exact ⟨rfl, Below.refl _ _⟩
  have q1 : Hid _ := lim_no (x := n) (lo := 1) (hi := 8) (by omega) (by omega)
  by_cases hr : r < 0 ∨ 1000 < r
  · have q2 := lim_yes hr
    clear h hn hr
    go_enter Try.func10, Try.ntmps10
    go_wp2_with fail
    refine (lim_any n 1 8 false _ q1).mono ?_
    rintro e w' ⟨rfl, rfl⟩
    go_wp2_with fail
    refine (lim_any r 0 1000 true _ q2).mono ?_
    rintro e w' ⟨rfl, rfl⟩
    go_wp2
    go_ret2
    exact ⟨rfl, Below.refl _ _⟩
  have q2 : Hid _ := lim_no (x := r) (lo := 0) (hi := 1000) (by omega) (by omega)
  by_cases hu : u < 1 ∨ 1000 < u
  · have q3 := lim_yes hu
    clear h hn hr hu
    go_enter Try.func10, Try.ntmps10
    go_wp2_with fail
    refine (lim_any n 1 8 false _ q1).mono ?_
    rintro e w' ⟨rfl, rfl⟩
    go_wp2_with fail
    refine (lim_any r 0 1000 false _ q2).mono ?_
    rintro e w' ⟨rfl, rfl⟩
    go_wp2_with fail
    refine (lim_any u 1 1000 true _ q3).mono ?_
    rintro e w' ⟨rfl, rfl⟩
    go_wp2
    go_ret2
    exact ⟨rfl, Below.refl _ _⟩
  · exact absurd ⟨by omega, by omega, by omega, by omega, by omega, by omega⟩ h
set_option maxHeartbeats 1600000 in
theorem new_yes (n : Nat) (r u : Int) (w : World) (h : NewOk n r u) :
    Calls Try.prog 10 #[.int .i64 n, .int .i64 r, .int .i64 u] w fun e w' => ∃ p S, e = .returned (.tuple #[p, .int .i64 0]) ∧ RepW w' p S (newW n r u) ∧ (∀ b, S b → w.heap.size ≤ b) ∧ Below w.heap.size w w' := by
  have HO := Lib.hid (new_ok h)
  obtain ⟨n0, n1, r0, r1, u0, u1⟩ := h
  have q1 : Hid _ := lim_no n0 n1
  have q2 : Hid _ := lim_no r0 r1
  have q3 : Hid _ := lim_no u0 u1
  obtain ⟨W1, hW1⟩ : ∃ W1, W1 = w.alloc (.cells #[.int .i64 r, .int .i64 u, .int .i64 0, .int .i64 0, .int .i64 0, .bool false, .int .i64 0, .int .i64 0, .bool false, .int .i64 0, .int .i64 0, .bool false, .int .i64 0, .int .i64 0, .bool false, .int .i64 0, .int .i64 0, .bool false, .int .i64 0, .int .i64 0, .bool false, .int .i64 0, .int .i64 0, .bool false, .int .i64 0, .int .i64 0, .bool false, .int .i64 (n : Int)] 55) := ⟨_, rfl⟩
  obtain ⟨g, hg⟩ : ∃ g, g = w.heap.size := ⟨_, rfl⟩
  have HA : WAt W1 g r u 0 (startL 0) n := ⟨by rw [hW1, hg]; exact Blk.new w 55 #[.int .i64 r, .int .i64 u, .int .i64 0, .int .i64 0, .int .i64 0, .bool false, .int .i64 0, .int .i64 0, .bool false, .int .i64 0, .int .i64 0, .bool false, .int .i64 0, .int .i64 0, .bool false, .int .i64 0, .int .i64 0, .bool false, .int .i64 0, .int .i64 0, .bool false, .int .i64 0, .int .i64 0, .bool false, .int .i64 0, .int .i64 0, .bool false, .int .i64 (n : Int)], rfl⟩
  have HB : Below w.heap.size w W1 := by rw [hW1]; exact (Below.refl _ _).alloc (Nat.le_refl _) _
  have x3 := HA.head.2.2.2
  have gl := HA.lt
  have gw : w.heap.size ≤ g := by omega
  have HW1 := Lib.hid hW1
  have HG := Lib.hid hg
  clear hW1 hg
  go_enter Try.func10, Try.ntmps10
  go_wp2_with fail
  refine (lim_any n 1 8 false _ q1).mono ?_
  rintro e w' ⟨rfl, rfl⟩
  go_wp2_with fail
  refine (lim_any r 0 1000 false _ q2).mono ?_
  rintro e w' ⟨rfl, rfl⟩
  go_wp2_with fail
  refine (lim_any u 1 1000 false _ q3).mono ?_
  rintro e w' ⟨rfl, rfl⟩
  go_wp2_with fail
  rw [← HW1.out, ← HG.out]
  go_wp2
  go_loopw [29] (fun i wr => ∃ j : Nat, j ≤ n ∧ i = .int .i64 j ∧ WAt wr g r u 0 (startL j) n ∧ Below w.heap.size w wr) (fun i _ => n - (intOf i).toNat)
  case atStart => exact ⟨0, by omega, rfl, HA, HB⟩
  case round =>
    obtain ⟨j, hj, rfl, hA, hB⟩ := hrel
    have x3 := hA.head.2.2.2
    have gl := hA.lt
    by_cases hlt : j < n
    · obtain ⟨c0, c1, c2⟩ := hA.peer (i := j) (by omega)
      have f2 := hA.blk.frozen (3 + j * 3 + 2)
      have M := Lib.hid (hA.marked (i := j) (by omega) true)
      rw [startL_at (by omega), startL_set (by omega)] at M
      have MB := Lib.hid (hB.setCell (p := ⟨g, 3 + j * 3 + 2, none⟩) gw (.bool true))
      have i1 : (j : Int) < 8 := by omega
      clear hA hB
      go_wp2
      go_roundw
      case rel => exact ⟨j + 1, by omega, by go_num, M.out, MB.out⟩
      case measure => simp [intOf]; omega
    · obtain rfl : j = n := by omega
      have HR : Hid (RepW wr (.pointer (some ⟨g, 0, none⟩)) (fun b => b = g) (newW j r u)) := Lib.hid ⟨g, rfl, rfl, by
        simp only [newW, List.length_replicate]
        rw [← startL_pad]; exact hA, HO.out⟩
      clear hA
      go_wp2
      go_ret2
      exact ⟨_, _, rfl, HR.out, fun b hb => by rw [hb]; exact gw, hB⟩

/-- More for the first j. -/
def morT (k : Int) (l : List Per) : Nat → List Per
  | 0 => l
  | j + 1 => (morT k l j).set j ((pr l j).more k)
theorem length_morT (k : Int) (l : List Per) : ∀ j, (morT k l j).length = l.length
  | 0 => rfl
  | j + 1 => by rw [morT, List.length_set, length_morT k l j]
theorem pr_morT (k : Int) (l : List Per) : ∀ j i, i < l.length → pr (morT k l j) i = if i < j then (pr l i).more k else pr l i
  | 0, i, _ => by simp [morT]
  | j + 1, i, hi => by
    rw [morT]
    by_cases c : j = i
    · subst c; rw [pr_set (by rw [length_morT]; exact hi), if_pos (by omega)]
    · rw [pr_other c, pr_morT k l j i hi]
      by_cases d : i < j
      · rw [if_pos d, if_pos (by omega)]
      · rw [if_neg d, if_neg (by omega)]
theorem morT_all (k : Int) (l : List Per) : morT k l l.length = l.map (Per.more k) :=
  pr_ext (by rw [length_morT, List.length_map]) (fun i hi => by
    rw [length_morT] at hi
    rw [pr_morT k l _ i hi, if_pos hi, pr_map hi])
set_option maxHeartbeats 3200000 in
theorem append_any (k : Int) (w : World) (p : Value) (S : Nat → Prop) (s : WSt) (h : RepW w p S s) :
    Calls Try.prog 13 #[p, .int .i64 k] w fun e w' => e = .returned (.int .i64 (apE k s)) ∧ ∃ S', RepW w' p S' (apW k s) ∧ Mv w w' S S' := by
  have H0 := Lib.hid h
  obtain ⟨g, rfl, rfl, hA, ok⟩ := h
  by_cases hk : k < 0
  · have hE : apE k s = 1 := by rw [apE, if_pos hk]
    have hW : apW k s = s := by rw [apW, hE]; rfl
    rw [hE, hW]
    clear hE hW hA ok
    go_enter Try.func13, Try.ntmps13
    go_wp2
    go_ret
    exact ⟨rfl, _, H0.out, Mv1.refl w g⟩
  obtain ⟨N, hN⟩ : ∃ N, s.d.l.length = N := ⟨_, rfl⟩
  have hN1 := ok.n0
  have hN8 := ok.n1
  rw [hN] at hN1 hN8 hA
  have gl := hA.lt
  have HN := Lib.hid hN
  have HOK := Lib.hid ok
  have HA := Lib.hid hA
  clear hN ok
  go_enter Try.func13, Try.ntmps13
  go_wp2_with fail
  refine (all_any g _ _ _ _ _ _ hA hN8).mono ?_
  rintro e w1 ⟨rfl, m, hw1⟩
  have hb1 : Below w.heap.size w w1 := by rw [hw1]; exact below_of_drewN rfl
  clear hw1 hA
  go_wp2
  go_loopw [13] (fun i wr => ∃ j : Nat, j ≤ N ∧ i = .int .i64 j ∧ Hid (∀ i, i < j → (pr s.d.l i).lag + k ≤ 1000000) ∧ Below w.heap.size w wr) (fun i _ => N - (intOf i).toNat)
  case atStart => exact ⟨0, Nat.zero_le _, rfl, Lib.hid (fun i hi => by omega), hb1⟩
  case round =>
    obtain ⟨j, hj, rfl, HJ, hbel⟩ := hrel
    have hA := HA.out.below hbel
    have gl1 := hA.lt
    by_cases hlt : j < N
    · obtain ⟨c0, c1, c2⟩ := hA.peer (i := j) (by omega)
      rw [pr_padL (by rw [HN.out]; exact hlt)] at c0 c1 c2
      have x0 := (HOK.out.ok.ok j (by rw [HN.out]; exact hlt)).lag0
      have x1 := HOK.out.lag j (by rw [HN.out]; exact hlt)
      obtain ⟨x, hx⟩ : ∃ x, x = (pr s.d.l j).lag := ⟨_, rfl⟩
      obtain ⟨y, hy⟩ : ∃ y, y = (pr s.d.l j).part := ⟨_, rfl⟩
      obtain ⟨z, hz⟩ : ∃ z, z = (pr s.d.l j).done := ⟨_, rfl⟩
      rw [← hx] at c0 x0 x1
      rw [← hy] at c1
      rw [← hz] at c2
      have HX := Lib.hid hx
      have i1 : (j : Int) < (N : Int) := by omega
      have hb2 := hbel.alloc hbel.size (.cells #[.int .i64 x, .int .i64 y, .bool z] 34)
      have s1 : IntKind.i64.wrap (1000000 - x) = 1000000 - x := IntWalk.i64_in _ ⟨by omega, by omega⟩
      clear hx hy hz hbel hA
      by_cases c : 1000000 - x < k
      · have hE : Hid (apE k s = 2) := Lib.hid (by
          have : overB k s.d.l = true := by
            cases o : overB k s.d.l with
            | true => rfl
            | false => have := over_iff.1 o j (by rw [HN.out]; exact hlt); rw [← HX.out] at this; omega
          rw [apE, if_neg (by omega), this]; rfl)
        have hW : Hid (apW k s = s) := Lib.hid (by rw [apW, hE.out]; rfl)
        go_wp2
        go_ret
        rw [hE.out, hW.out]
        exact ⟨rfl, _, ⟨g, rfl, rfl, by rw [HN.out]; exact HA.out.below hb2, HOK.out⟩, Mv1.of_below hb2⟩
      · have HY : Hid (∀ i, i < j + 1 → (pr s.d.l i).lag + k ≤ 1000000) := Lib.hid (fun i hi => by
          by_cases e : i = j
          · subst e; rw [← HX.out]; omega
          · exact HJ.out i (by omega))
        go_wp2
        go_roundw
        case rel => exact ⟨j + 1, by omega, by go_num, HY, hb2⟩
        case measure => simp [intOf]; omega
    · obtain rfl : j = N := by omega
      have HE : Hid (apE k s = 0) := Lib.hid (by
        have : overB k s.d.l = false := over_iff.2 (fun i hi => HJ.out i (by rw [HN.out] at hi; exact hi))
        rw [apE, if_neg (by omega), this]; rfl)
      have HL : Hid (∀ i, i < j → 0 ≤ (pr s.d.l i).lag ∧ (pr s.d.l i).lag + k ≤ 1000000) := Lib.hid (fun i hi => ⟨(HOK.out.ok.ok i (by rw [HN.out]; exact hi)).lag0, HJ.out i hi⟩)
      have hm : Mv1 w wr g := Mv1.of_below hbel
      have x3 := hA.head.2.2.2
      clear HJ hbel
      go_wp2
      go_loopw [27] (fun i wq => ∃ t : Nat, t ≤ j ∧ i = .int .i64 t ∧ WAt wq g s.rate s.unit s.d.turn (padL (morT k s.d.l t)) j ∧ Mv1 w wq g) (fun i _ => j - (intOf i).toNat)
      case atStart => exact ⟨0, Nat.zero_le _, rfl, hA, hm⟩
      case round =>
        clear hA hm x3 gl1
        obtain ⟨t, ht, rfl, hA, hm⟩ := hrel
        have x3 := hA.head.2.2.2
        have gl1 := hA.lt
        by_cases hlt2 : t < j
        · have hl : t < (morT k s.d.l t).length := by rw [length_morT, HN.out]; exact hlt2
          have hpr := pr_morT k s.d.l t t (by rw [HN.out]; exact hlt2)
          rw [if_neg (by omega)] at hpr
          obtain ⟨c0, c1, c2⟩ := hA.peer (i := t) (by omega)
          obtain ⟨x0, x1⟩ := HL.out t hlt2
          obtain ⟨x, hx⟩ : ∃ x, x = (pr s.d.l t).lag := ⟨_, rfl⟩
          rw [pr_padL hl, hpr, ← hx] at c0
          rw [← hx] at x0 x1
          have HX := Lib.hid hx
          have HP := Lib.hid hpr
          have i1 : (t : Int) < (j : Int) := by omega
          have i2 : (t : Int) < 8 := by omega
          have s1 : IntKind.i64.wrap (x + k) = x + k := IntWalk.i64_in _ ⟨by omega, by omega⟩
          have f0 := hA.blk.frozen (3 + t * 3)
          obtain ⟨W6, hW6⟩ : ∃ W6, W6 = (wr.setCell ⟨g, 3 + t * 3, none⟩ (.int .i64 (x + k))).drew := ⟨_, rfl⟩
          have A6 : WAt W6 g s.rate s.unit s.d.turn ((padL (morT k s.d.l t)).set t ⟨x + k, (pr s.d.l t).part, (pr s.d.l t).done⟩) j := by
            have q := hA.lagged (i := t) (by omega) (x + k)
            rw [pr_padL hl, hpr] at q
            rw [hW6]; exact q.same rfl
          have M6 : Mv1 w W6 g := by rw [hW6]; exact (hm.set_ (3 + t * 3) (.int .i64 (x + k))).drew
          have HW6 := Lib.hid hW6
          clear hW6 hA hm c1 c2 hx hpr
          go_wp2
          go_region
          rw [← HW6.out]
          clear c0 f0 x3 gl1
          obtain ⟨d0, _, d2⟩ := A6.peer (i := t) (by omega)
          rw [pr_set (by rw [length_padL (by rw [length_morT, HN.out]; exact hN8)]; omega)] at d0
          have f2 := A6.blk.frozen (3 + t * 3 + 2)
          have gl1 := A6.lt
          have M : Hid (WAt (W6.setCell ⟨g, 3 + t * 3 + 2, none⟩ (.bool (x + k == 0))) g s.rate s.unit s.d.turn (padL (morT k s.d.l (t + 1))) j) := Lib.hid (by
            have q := A6.marked (i := t) (by omega) (x + k == 0)
            rw [pr_set (by rw [length_padL (by rw [length_morT, HN.out]; exact hN8)]; omega), List.set_set, padL_set hl] at q
            rw [morT, Per.more, ← HX.out]
            exact q)
          have MM := Lib.hid ((M6.set_ (3 + t * 3 + 2) (.bool (x + k == 0))).drew)
          clear A6 M6 hl
          go_wp2
          go_region
          go_wp2
          go_roundw
          case rel => exact ⟨t + 1, by omega, by go_num, M.out.same rfl, MM.out⟩
          case measure => simp [intOf]; omega
        · obtain rfl : t = j := by omega
          have HW : Hid (RepW wr (.pointer (some ⟨g, 0, none⟩)) (fun b => b = g) (apW k s)) := Lib.hid (by
            have e : apW k s = moreW k s := by rw [apW, if_pos HE.out]
            have l : (s.d.l.map (Per.more k)).length = t := by rw [List.length_map, HN.out]
            rw [e]
            refine ⟨g, rfl, rfl, ?_, more_st HOK.out HE.out⟩
            show WAt wr g s.rate s.unit s.d.turn (padL (s.d.l.map (Per.more k))) (s.d.l.map (Per.more k)).length
            rw [l, ← morT_all, HN.out]; exact hA)
          clear hA
          go_wp2
          go_ret
          rw [HE.out]
          exact ⟨rfl, _, HW.out, hm⟩

theorem WAt.put {w : World} {g i : Nat} {r u t : Int} {l : List Per} {n : Nat} (h : WAt w g r u t l n) (hi : i < 8) (p : Per) : WAt (((w.setCell ⟨g, 3 + i * 3, none⟩ (.int .i64 p.lag)).setCell ⟨g, 3 + i * 3 + 1, none⟩ (.int .i64 p.part)).setCell ⟨g, 3 + i * 3 + 2, none⟩ (.bool p.done)) g r u t (l.set i p) n := by
  have hl := h.len
  have lp := length_pecs l
  have k := ((h.blk.setl (i := 3 + i * 3) (.int .i64 p.lag)).setl (i := 3 + i * 3 + 1) (.int .i64 p.part)).setl (i := 3 + i * 3 + 2) (.bool p.done)
  rw [Nat.add_assoc, Nat.add_assoc, wcv_set _ (by omega), wcv_set _ (by rw [List.length_set]; omega), wcv_set _ (by rw [List.length_set, List.length_set]; omega), pecs_set _ (by omega)] at k
  exact ⟨by rw [Nat.add_assoc, Nat.add_assoc]; exact k, by rw [List.length_set]; exact hl⟩
theorem fst_bel {w : World} (W : World) (h : W = w ∨ W = w.drew) : Below w.heap.size w W := by
  rcases h with rfl | rfl
  · exact Below.refl _ _
  · exact (Below.refl _ _).drew
theorem rem_aft {s : Wd} {i N : Nat} (hN : s.l.length = N) (hi : i < N) : Int.tmod ((i : Int) + 1) (N : Int) = (s.after i : Int) := by
  subst hN
  unfold Wd.after
  by_cases c : i + 1 = s.l.length
  · rw [if_pos c, show ((i : Int) + 1) = (s.l.length : Int) by omega]; simp
  · rw [if_neg c, Int.tmod_eq_emod_of_nonneg (by omega), Int.emod_eq_of_lt (by omega) (by omega)]; omega
set_option maxHeartbeats 3200000 in
theorem tick_any (w : World) (p : Value) (S : Nat → Prop) (s : WSt) (t : Wd) (m : Nat) (h : RepW w p S s) (ht : Tick s.unit s.rate s.d t m) :
    Calls Try.prog 15 #[p] w fun e w' => e = .returned (.int .i64 m) ∧ ∃ S', RepW w' p S' (tickW t s) ∧ Mv w w' S S' := by
  obtain ⟨g, rfl, rfl, hA, ok⟩ := h
  obtain ⟨N, hN⟩ : ∃ N, s.d.l.length = N := ⟨_, rfl⟩
  have hN1 := ok.n0
  have hN8 := ok.n1
  rw [hN] at hN1 hN8 hA
  obtain ⟨rt, hrt⟩ : ∃ x, x = s.rate := ⟨_, rfl⟩
  obtain ⟨ut, hut⟩ : ∃ x, x = s.unit := ⟨_, rfl⟩
  have rt0 := ok.r0
  have rt1 := ok.r1
  have ut0 := ok.u0
  have ut1 := ok.u1
  rw [← hrt] at rt0 rt1 hA
  rw [← hut] at ut0 ut1 hA
  have x0 := hA.head.1
  have gl := hA.lt
  have HN := Lib.hid hN
  have HOK := Lib.hid ok
  have HUT := Lib.hid hut
  have HFIN : Hid (∀ (W : World) (d : Wd) (n : Nat), WAt W g rt ut d.turn (padL d.l) N → d.l.length = N → Tick ut rt s.d d n → n = m ∧ RepW W (.pointer (some ⟨g, 0, none⟩)) (fun b => b = g) (tickW t s)) := Lib.hid (fun W d n q1 q3 q4 => by
    rw [hut, hrt] at q4
    obtain ⟨e1, e2⟩ := ht.uniq ok.u0 ok.ok q4
    subst e1 e2
    refine ⟨rfl, g, rfl, rfl, ?_, (tick_st ok ht).1⟩
    show WAt W g s.rate s.unit t.turn (padL t.l) t.l.length
    rw [q3, ← hrt, ← hut]; exact q1)
  clear hN ok ht hrt hut
  go_enter Try.func15, Try.ntmps15
  go_wp2
  go_loopw [10] (fun i wr => ∃ (n : Nat) (d : Wd), (n : Int) ≤ rt ∧ i = .int .i64 n ∧ WAt wr g rt ut d.turn (padL d.l) N ∧ Mv1 w wr g ∧ Hid (d.l.length = N) ∧ Hid (WdOk ut d) ∧ Hid (Bys ut n s.d d) ∧ Hid (∀ i, i < d.l.length → (pr d.l i).lag ≤ 1000000)) (fun i _ => (rt - intOf i).toNat)
  case atStart => exact ⟨0, s.d, rt0, rfl, hA, Mv1.refl w g, HN, Lib.hid (by rw [HUT.out]; exact HOK.out.ok), Lib.hid (.none _), Lib.hid HOK.out.lag⟩
  case round =>
    clear hA x0 gl
    obtain ⟨n, d, hn, rfl, hA, hm, HL, HW, HY, HG⟩ := hrel
    have x0 := hA.head.1
    have gl := hA.lt
    by_cases hlt : (n : Int) < rt
    · have ht := HW.out.turn
      by_cases hall : ∃ i, i < d.l.length ∧ (pr d.l i).done = false
      · obtain ⟨i, hp⟩ := Wd.pick hall
        have hi := hp.lt
        rw [HL.out] at hi ht
        have hal : d.after i < N := by unfold Wd.after; rw [HL.out]; split <;> omega
        have hr := rem_aft HL.out hi
        have HLb : Hid ((d.byte ut i).l.length = N) := Lib.hid (by rw [Wd.length_byte]; exact HL.out)
        have HWb : Hid (WdOk ut (d.byte ut i)) := Lib.hid (Wd.byte_ok ut0 HW.out hp)
        have HYb : Hid (Bys ut (n + 1) s.d (d.byte ut i)) := Lib.hid (.byte i HY.out hp)
        have HGb : Hid (∀ k, k < (d.byte ut i).l.length → (pr (d.byte ut i).l k).lag ≤ 1000000) := Lib.hid (fun k hk => by
          rw [Wd.length_byte] at hk
          simp only [Wd.byte]
          by_cases e : i = k
          · subst e
            rw [pr_set hk]
            have := byte_lag ut0 (HW.out.ok i hk); have := HG.out i hk; omega
          · rw [pr_other e]; exact HG.out k hk)
        obtain ⟨T2, hT2⟩ : ∃ T, T = d.after i := ⟨_, rfl⟩
        rw [← hT2] at hr hal
        have HT2 := Lib.hid hT2
        obtain ⟨x, hx⟩ : ∃ x, x = (pr d.l i).lag := ⟨_, rfl⟩
        obtain ⟨y, hy⟩ : ∃ y, y = (pr d.l i).part := ⟨_, rfl⟩
        obtain ⟨q, hq⟩ : ∃ q, q = (pr d.l i).byte ut := ⟨_, rfl⟩
        have HQ := Lib.hid hq
        have HFED : Hid (∀ W, Calls Try.prog 35 #[.agg #[.int .i64 x, .int .i64 y, .bool false], .int .i64 ut] W fun e w' => e = .returned (.agg #[.int .i64 q.lag, .int .i64 q.part, .bool q.done]) ∧ Below W.heap.size W w') := Lib.hid (fun W => by
          have := fed_any (pr d.l i) q ut W (HW.out.ok i (by rw [HL.out]; exact hi)) hp.wait (HG.out i (by rw [HL.out]; exact hi)) hq
          rw [hp.wait, ← hx, ← hy] at this
          exact this)
        have HC : Hid (x = (pr d.l i).lag ∧ y = (pr d.l i).part ∧ false = (pr d.l i).done) := Lib.hid ⟨hx, hy, hp.wait.symm⟩
        have HP := Lib.hid hp
        have i1 : (i : Int) < 8 := by omega
        have i2 : (i : Int) < (N : Int) := by omega
        clear hx hy hq hT2 hp hall
        go_wp2_with fail
        refine (next_yes g rt ut d i _ (by rw [HL.out]; exact hA) (by rw [HL.out]; exact hN8) (by rw [HL.out]; exact ht) HP.out).mono ?_
        rintro e w1 ⟨rfl, k, rfl⟩
        obtain ⟨W1, hW1⟩ : ∃ W1, W1 = wr.drewN k := ⟨_, rfl⟩
        have A1 : WAt W1 g rt ut d.turn (padL d.l) N := by rw [hW1]; exact hA.same rfl
        have M1 : Mv1 w W1 g := by rw [hW1]; exact hm.step (below_of_drewN rfl)
        rw [← hW1]
        clear hW1 hA hm x0 gl
        have gl := A1.lt
        have x1 := A1.head.2.1
        obtain ⟨c0, c1, c2⟩ := A1.peer (i := i) (by omega)
        rw [pr_padL (by rw [HL.out]; exact hi), ← HC.out.1] at c0
        rw [pr_padL (by rw [HL.out]; exact hi), ← HC.out.2.1] at c1
        rw [pr_padL (by rw [HL.out]; exact hi), ← HC.out.2.2] at c2
        have HF2 : Hid (∀ W', Below W1.heap.size W1 W' → Calls Try.prog 35 #[.agg #[.int .i64 x, .int .i64 y, .bool false], .int .i64 ut] W' fun e w' => e = .returned (.agg #[.int .i64 q.lag, .int .i64 q.part, .bool q.done]) ∧ Below W1.heap.size W1 w' ∧ w'.cell? ⟨g, 3 + i * 3, none⟩ = some (.int .i64 x) ∧ w'.cell? ⟨g, 3 + i * 3 + 1, none⟩ = some (.int .i64 y) ∧ w'.cell? ⟨g, 3 + i * 3 + 2, none⟩ = some (.bool false) ∧ w'.frozen? ⟨g, 3 + i * 3, none⟩ = false ∧ w'.frozen? ⟨g, 3 + i * 3 + 1, none⟩ = false ∧ w'.frozen? ⟨g, 3 + i * 3 + 2, none⟩ = false ∧ g < w'.heap.size ∧ Hid (WAt (((w'.setCell ⟨g, 3 + i * 3, none⟩ (.int .i64 q.lag)).setCell ⟨g, 3 + i * 3 + 1, none⟩ (.int .i64 q.part)).setCell ⟨g, 3 + i * 3 + 2, none⟩ (.bool q.done)) g rt ut d.turn (padL (d.l.set i q)) N ∧ Mv1 w (((w'.setCell ⟨g, 3 + i * 3, none⟩ (.int .i64 q.lag)).setCell ⟨g, 3 + i * 3 + 1, none⟩ (.int .i64 q.part)).setCell ⟨g, 3 + i * 3 + 2, none⟩ (.bool q.done)) g)) := Lib.hid (fun W' hW' => by
          refine (HFED.out W').mono ?_
          rintro e w' ⟨rfl, b⟩
          have b2 : Below W1.heap.size W1 w' := below_trans hW' b
          have A2 := A1.below b2
          refine ⟨rfl, b2, (b2.cell (cell_lt c0)).trans c0, (b2.cell (cell_lt c1)).trans c1, (b2.cell (cell_lt c2)).trans c2, A2.blk.frozen _, A2.blk.frozen _, A2.blk.frozen _, A2.lt, Lib.hid ⟨?_, (((M1.step b2).set_ _ _).set_ _ _).set_ _ _⟩⟩
          rw [← padL_set (by rw [HL.out]; exact hi)]
          exact A2.put (by omega) q)
        clear HFED M1 A1
        go_upto_region 7 with fail
        go_cut [4, 10] (fun x4 x10 wx => x4 = .int .i64 i ∧ x10 = .int .i64 n ∧ Hid (WAt wx g rt ut d.turn (padL (d.l.set i q)) N ∧ Mv1 w wx g))
        case first =>
          go_region_with (go_at_call 35; refine (HF2.out _ (fst_bel _ (by first | exact .inl rfl | exact .inr rfl))).mono ?_; rintro e w2 ⟨rfl, b1, v0, v1, v2, f0, f1, f2, gl2, HS⟩)
          all_goals
            go_wp2_with fail
            go_meet
            exact ⟨rfl, rfl, HS⟩
        case rest =>
        obtain ⟨rfl, rfl, HS⟩ := hcut
        obtain ⟨A9, M9⟩ := HS.out
        clear HS HF2 c0 c1 c2 x1 gl
        have gl := A9.lt
        have x2 := A9.head.2.2.1
        have x3 := A9.head.2.2.2
        have f2 := A9.blk.frozen 2
        have e5 : ¬ (N : Int) = 0 := by omega
        have e6 : ¬ N = 0 := by omega
        have s7 : IntKind.i64.wrap ((i : Int) + 1) = (i : Int) + 1 := IntWalk.i64_in _ ⟨by omega, by omega⟩
        have s8 : IntKind.i64.wrap (T2 : Int) = (T2 : Int) := IntWalk.i64_in _ ⟨by omega, by omega⟩
        have MA : Hid (WAt (wc.setCell ⟨g, 2, none⟩ (.int .i64 (T2 : Int))) g rt ut (d.byte ut i).turn (padL (d.byte ut i).l) N) := Lib.hid (by
          have q := A9.turned (T2 : Int)
          rw [HT2.out, HQ.out] at q
          rw [HT2.out]
          exact q)
        have MM := Lib.hid (M9.set_ 2 (.int .i64 (T2 : Int)))
        clear A9 M9
        go_wp2
        refine ⟨⟨n + 1, d.byte ut i, by omega, by go_num, MA.out, MM.out, HLb, HWb, HYb, HGb⟩, ?_⟩
        simp [intOf]; omega
      · have hdn : ∀ i, i < d.l.length → (pr d.l i).done = true := fun i hi => by
          cases c : (pr d.l i).done with
          | true => rfl
          | false => exact absurd ⟨i, hi, c⟩ hall
        have HD : Hid (∀ W, WAt W g rt ut d.turn (padL d.l) N → n = m ∧ RepW W (.pointer (some ⟨g, 0, none⟩)) (fun b => b = g) (tickW t s)) := Lib.hid (fun W q => HFIN.out W d n q HL.out ⟨HY.out, hn, .inr hdn⟩)
        go_wp2_with fail
        refine (next_no g rt ut d _ (by rw [HL.out]; exact hA) (by rw [HL.out]; exact hN8) (by rw [HL.out]; rw [HL.out] at ht; exact ht) hdn).mono ?_
        rintro e w1 ⟨rfl, k, rfl⟩
        obtain ⟨e1, R1⟩ := HD.out _ (hA.same (w' := wr.drewN k) rfl)
        subst e1
        have HR := Lib.hid R1
        have HM := Lib.hid (hm.step (below_of_drewN (n := k) rfl))
        clear R1 hA hm hall hdn
        go_wp2
        go_ret
        exact ⟨rfl, _, HR.out, HM.out⟩
    · have e : (n : Int) = rt := by omega
      obtain ⟨e1, R1⟩ := HFIN.out wr d n hA HL.out ⟨HY.out, hn, .inl e⟩
      subst e1
      have HR := Lib.hid R1
      subst e
      clear R1 hA
      go_wp2
      go_ret
      exact ⟨rfl, _, HR.out, hm⟩

/-- What package world owes, shown of the landed code. -/
theorem wldC : WldC RepW where
  keep := fun w w' p S s h k => by
    obtain ⟨g, rfl, rfl, hA, ok⟩ := h
    exact ⟨g, rfl, rfl, hA.same (k g rfl), ok⟩
  lt := fun w p S s h b hb => by
    obtain ⟨g, rfl, rfl, hA, ok⟩ := h
    subst hb
    exact hA.lt
  ptr := fun w p S s h => by
    obtain ⟨g, rfl, rfl, hA, ok⟩ := h
    exact ⟨_, rfl⟩
  ok := fun w p S s h => by
    obtain ⟨g, rfl, rfl, hA, ok⟩ := h
    exact ok
  new := fun n r u w h => new_yes n r u w h
  new_no := fun n r u w h => new_not n r u w h
  append := fun k w p S s h => append_any k w p S s h
  tick := fun w p S s t m h k => tick_any w p S s t m h k
  crash := fun i w p S s h k => crash_yes i w p S s h k
  crash_no := fun i w p S s h k => crash_not i w p S s h k
  peers := fun w p S s h => peers_any w p S s h

end Go.Proofs.Ytlaandbaaepamaa
