
/-
  The walk of the document's own schedule by deadline (headref.Done): job by job, each in the first slots that are free.
-/
import Derived.Test.YtoapgdandpcboaaJobI
import Derived.Test.YtoapgdandpcboaaDoneP
import Derived.Test.YtoapgdandpcboaaConvB
import Derived.OwnWalk
namespace Go.Proofs.Ytoapgdandpcboaa
set_option linter.all false
open Go.RowKit Go.Shelf Go.Lib

theorem tab_updJ {n k : Nat} {F G : Nat → Int} (h : k < n) (h1 : ∀ j, j < n → j ≠ k → G j = F j) : (((tab n F).map (Value.int .i64)).toArray).setIfInBounds k (.int .i64 (G k)) = ((tab n G).map (Value.int .i64)).toArray := by
  apply Array.ext'
  simp only [Array.toList_setIfInBounds]
  apply List.ext_getElem?
  intro j
  by_cases c : j < n
  · have e : ∀ (F : Nat → Int), ((tab n F).map (Value.int .i64))[j]? = some (.int .i64 (F j)) := fun F => by simp [tab, c]
    rw [e]
    by_cases d : j = k
    · subst d; rw [List.getElem?_set_self (by simp [length_tab]; exact c)]
    · rw [List.getElem?_set_ne (fun e => d e.symm), e, h1 j c d]
  · rw [List.getElem?_eq_none (by simp [length_tab]; omega), List.getElem?_eq_none (by simp [length_tab]; omega)]
def numsJ (n : Nat) (F : Nat → Int) : Array Value := ((tab n F).map (Value.int .i64)).toArray
theorem numsJ_same {n : Nat} {F G : Nat → Int} (h : ∀ j, j < n → F j = G j) : numsJ n F = numsJ n G := by
  unfold numsJ
  rw [eq_tab (l := tab n F) (f := G) (by rw [length_tab]) (fun i hi => by rw [gt_tab F hi]; exact h i hi)]
theorem numsJ_cell {n k : Nat} (F : Nat → Int) (h : k < n) : (numsJ n F)[k]? = some (.int .i64 (F k)) := by simp [numsJ, tab, h]
theorem numsJ_set {w : World} {g n k : Nat} {F G : Nat → Int} {v : Int} (B : Blk w g 3 (numsJ n F)) (h : k < n) (h1 : ∀ j, j < n → j ≠ k → G j = F j) (hv : G k = v) : Blk (w.setCell ⟨g, k, none⟩ (.int .i64 v)) g 3 (numsJ n G) := by
  have := B.set_ k (.int .i64 (G k))
  unfold numsJ at this ⊢
  rw [tab_updJ h h1, hv] at this
  exact this
theorem numsJ_ints {w : World} {g n : Nat} {F : Nat → Int} (B : Blk w g 3 (numsJ n F)) (m : Nat) (hm : m ≤ n) (hn : n ≤ 1000) : Ints w (some ⟨g, 0, none⟩) (tab m F) := by
  refine ⟨by rw [length_tab]; omega, fun _ => ⟨g, 0, rfl, fun j hj => ?_⟩⟩
  rw [length_tab] at hj
  rw [Nat.zero_add, B.cell j, numsJ_cell F (by omega)]
  simp [tab, List.getD, hj]
theorem numsJ_zero (n : Nat) : numsJ n (fun _ => 0) = madeCells #[Value.int .i64 0] n := by
  have := rowAt_zero n (fun _ => 0)
  rw [← this]
  unfold numsJ rowAt
  congr 1
  apply List.ext_getElem?
  intro i
  by_cases c : i < n
  · simp [tab, c]
  · rw [List.getElem?_eq_none (by simp [length_tab]; omega), List.getElem?_eq_none (by simp [length_tab]; omega)]
theorem numsJ_rep (n : Nat) (v : Int) : ((List.replicate n v).map (Value.int .i64)).toArray = numsJ n (fun _ => v) := by
  unfold numsJ
  congr 2
  refine List.ext_getElem? (fun i => ?_)
  by_cases q : i < n
  · simp [tab, q]
  · rw [List.getElem?_eq_none (by simp; omega), List.getElem?_eq_none (by rw [length_tab]; omega)]
theorem new_oneD (w : World) (u : Value) (t : TypeId) : ∀ (j : Nat) (v : Value), [u][j]? = some v → (w.alloc (.cells #[u] t)).cell? ((⟨w.heap.size, 0, none⟩ : Addr).add j) = some v := by
  intro j v hj
  match j, hj with
  | 0, hj =>
    simp at hj
    subst hj
    rw [Addr.add_lit]
    exact (Blk.new w t #[u]).cell 0
theorem fvs_snoc (n : Nat) (f : Nat → Nat) : fvs (n + 1) f = fvs n f ++ [.int .i64 ((f n : Nat) : Int)] := by simp [fvs, List.range_succ]

set_option maxRecDepth 100000 in
set_option maxHeartbeats 1600000 in
theorem isort_nil (b : Nat) (w : World) :
    Calls Try.prog 31 #[.slice none 0 0, .func (.func fByDue) #[] #[.pointer (some ⟨b, 0, none⟩)]] w fun e w' => e = .returned (.tuple #[]) ∧ w' = w := by
  have ins : ∀ w : World, Calls Try.prog 40 #[.slice none 0 0, .int .i64 0, .int .i64 0, .func (.func fByDue) #[] #[.pointer (some ⟨b, 0, none⟩)]] w fun e w' => e = .returned (.tuple #[]) ∧ w' = w := fun w => by
    go_enter Try.func40, Try.ntmps40
    go_wp2
    refine wp_loop_rounds 1 ?_
    rw [rounds_succ]
    go_wp2
    exact ⟨rfl, .tuple #[], by simp [results, Try.results40, go_sem], rfl, rfl⟩
  have stb : Calls Try.prog 37 #[.slice none 0 0, .int .i64 0, .func (.func fByDue) #[] #[.pointer (some ⟨b, 0, none⟩)]] w fun e w' => e = .returned (.tuple #[]) ∧ w' = w := by
    go_enter Try.func37, Try.ntmps37
    go_wp2
    refine wp_loop_rounds 1 ?_
    rw [rounds_succ]
    go_wp2_with fail
    refine (ins _).mono ?_
    rintro e w1 ⟨rfl, rfl⟩
    go_wp2
    refine wp_loop_rounds 1 ?_
    rw [rounds_succ]
    go_wp2
    exact ⟨rfl, .tuple #[], by simp [results, Try.results37, go_sem], rfl, rfl⟩
  clear ins
  go_enter Try.func31, Try.ntmps31
  go_wp2_with fail
  refine stb.mono ?_
  rintro e w1 ⟨rfl, rfl⟩
  go_wp2
  exact ⟨rfl, .tuple #[], by simp [results, Try.results31, go_sem], rfl, rfl⟩

/-- What Done leaves: the slots to the last that is used, and when each job is done. -/
def DoneAt (l : List Jb) (w : World) (e : Ending) (w' : World) : Prop := ∃ (g g' m : Nat) (D : Nat → Int), e = .returned (.tuple #[.slice (some ⟨g, 0, none⟩) m 200, .slice (some ⟨g', 0, none⟩) l.length l.length]) ∧ IsEnd (edR l) 200 m ∧ (∀ i, i < l.length → IsDone l 200 i (D i)) ∧ Ints w' (some ⟨g, 0, none⟩) (tab m (edR l)) ∧ Ints w' (some ⟨g', 0, none⟩) (tab l.length D) ∧ Below w.heap.size w w'

/-- The loops of Done stand on these blocks: the box that holds the slice of jobs, the slots, the times, the order. -/
structure DoW (w : World) (A : Option Addr) (n d : Nat) (b g g' gO : Nat) (cur : Array Value) (S D : Nat → Int) (wr : World) : Prop where
  box : Blk wr b 22 #[.slice A n d]
  slot : Blk wr g 3 (numsJ 200 S)
  time : Blk wr g' 3 (numsJ n D)
  ord : Blk wr gO 3 cur
  bel : Below w.heap.size w wr
theorem DoW.put {w : World} {A : Option Addr} {n d b g g' gO : Nat} {cur : Array Value} {S D S' : Nat → Int} {wr : World} (h : DoW w A n d b g g' gO cur S D wr) (hw : w.heap.size ≤ b) (h1 : b < g) (h2 : g < g') (h3 : g' < gO) {t : Nat} (ht : t < 200) {v : Int} (hs : ∀ s, s ≠ t → S' s = S s) (hv : S' t = v) : DoW w A n d b g g' gO cur S' D (wr.setCell ⟨g, t, none⟩ (.int .i64 v)) :=
  ⟨h.box.past (a := ⟨g, t, none⟩) (by simp only; omega) _, numsJ_set h.slot ht (fun j _ hne => hs j hne) hv, h.time.past (a := ⟨g, t, none⟩) (by simp only; omega) _, h.ord.past (a := ⟨g, t, none⟩) (by simp only; omega) _, h.bel.setCell (p := ⟨g, t, none⟩) (by simp only; omega) _⟩
theorem DoW.tell {w : World} {A : Option Addr} {n d b g g' gO : Nat} {cur : Array Value} {S D D' : Nat → Int} {wr : World} (h : DoW w A n d b g g' gO cur S D wr) (hw : w.heap.size ≤ b) (h1 : b < g) (h2 : g < g') (h3 : g' < gO) {i : Nat} (hi : i < n) {v : Int} (hs : ∀ s, s ≠ i → D' s = D s) (hv : D' i = v) : DoW w A n d b g g' gO cur S D' (wr.setCell ⟨g', i, none⟩ (.int .i64 v)) :=
  ⟨h.box.past (a := ⟨g', i, none⟩) (by simp only; omega) _, h.slot.past (a := ⟨g', i, none⟩) (by simp only; omega) _, numsJ_set h.time hi (fun j _ hne => hs j hne) hv, h.ord.past (a := ⟨g', i, none⟩) (by simp only; omega) _, h.bel.setCell (p := ⟨g', i, none⟩) (by simp only; omega) _⟩
theorem DoW.same {w : World} {A : Option Addr} {n d b g g' gO : Nat} {cur : Array Value} {S D S' : Nat → Int} {wr : World} (h : DoW w A n d b g g' gO cur S D wr) (hs : ∀ s, s < 200 → S' s = S s) : DoW w A n d b g g' gO cur S' D wr :=
  ⟨h.box, by rw [numsJ_same hs]; exact h.slot, h.time, h.ord, h.bel⟩

set_option maxRecDepth 100000 in
set_option maxHeartbeats 6400000 in
theorem refDone_any (A : Option Addr) (l : List Jb) (n d : Nat) (w : World) (h : Jbs w A l) (hn : n = l.length) (j : JobsB l) :
    Calls Try.prog 14 #[.slice A n d] w (DoneAt l w) := by
  obtain ⟨i0, hi0, hz0, hz1, hz2⟩ := info_parts int_info
  have hle := j.le
  have HN := Lib.hid hn
  have n12 : n ≤ 12 := by omega
  have hmk := fun W => run_make_row' (P := Try.prog) 23 3 (.int .i64 0) 8 Try.underlying23 int_info rfl .i64 .i64 n (by omega) (by omega) W
  clear hn
  go_enter Try.func14, Try.ntmps14
  go_wp2_with fail
  refine (repeat_one _ (-1) 200 1 _ (Ints.litB _ [-1] _ _ _ rfl (by simp)) (by omega) (by omega)).mono ?_
  rintro e w2 ⟨g, rfl, hg, B, b2⟩
  rw [numsJ_rep] at B
  obtain ⟨b, hb⟩ : ∃ b, b = w.heap.size := ⟨_, rfl⟩
  have hbx : Blk w2 b 22 #[.slice A n d] := by rw [hb]; exact ((Blk.new w _ _).alloc _).below b2
  have hbg : b < g := by simp at hg; omega
  have hwb : w.heap.size ≤ b := by omega
  have hw2 : Below w.heap.size w w2 := below_of2 b2
  have hg2 : g < w2.heap.size := B.lt
  have cb2 : w2.cell? ⟨b, 0, none⟩ = some (.slice A n d) := hbx.cell 0
  have b2lt : b < w2.heap.size := hbx.lt
  obtain ⟨W3, hW3⟩ : ∃ W, W = w2.alloc (.cells (madeCells #[Value.int .i64 0] n) 3) := ⟨_, rfl⟩
  obtain ⟨g', hg'⟩ : ∃ g', g' = w2.heap.size := ⟨_, rfl⟩
  have B3 : Blk W3 g' 3 (numsJ n (fun _ => 0)) := by rw [numsJ_zero, hW3, hg']; exact Blk.new _ _ _
  have S3 : Blk W3 g 3 (numsJ 200 (fun _ => -1)) := by rw [hW3]; exact B.alloc _
  have X3 : Blk W3 b 22 #[.slice A n d] := by rw [hW3]; exact hbx.alloc _
  have hw3 : Below w.heap.size w W3 := by rw [hW3]; exact hw2.alloc hw2.size _
  have hgg : g < g' := by omega
  have HW3 := Lib.hid hW3
  have HG' := Lib.hid hg'
  have HBW := Lib.hid hb
  rw [← hb]
  clear b2 hg hW3 hb B hbx hw2 hg2 hg'
  go_wp2
  rw [← HW3.out, ← HG'.out]
  clear cb2 b2lt HW3 HG' hmk
  have cb3 : W3.cell? ⟨b, 0, none⟩ = some (.slice A n d) := X3.cell 0
  obtain ⟨base, hbase⟩ : ∃ x, x = W3.heap.size := ⟨_, rfl⟩
  have g'b : g' < base := by rw [hbase]; exact B3.lt
  have HBS := Lib.hid hbase
  clear hbase
  go_wp2
  go_loopw [6, 20] (fun v s wr => ∃ k : Nat, k ≤ n ∧ s = .int .i64 k ∧ wr.ownsRow base 3 1 v k (fvs k (fun p => p)) ∧ Below base W3 wr) (fun _ s _ => n - (intOf s).toNat)
  case atStart => exact ⟨0, Nat.zero_le _, rfl, World.ownsRow_nil _ _ _ _, by rw [HBS.out]; exact Below.refl _ _⟩
  case round =>
    obtain ⟨k, hk, rfl, own, hbB⟩ := hrel
    have szB : base ≤ wr.heap.size := by rw [HBS.out]; exact hbB.size
    have bsW : w.heap.size ≤ base := by rw [HBS.out]; exact hw3.size
    by_cases hlt : k < n
    · have i1 : (k : Int) < (n : Int) := by omega
      go_wp2_with (at_builtin; refine wpList_append_own _ rfl _ _ 23 rfl base 3 i0 (.int .i64 0) 1 8 Try.underlying23 hi0 hz0 hz1 hz2 rfl (by decide) _ _ _ rfl (World.ownsRow.alloc own _) ⟨wr.heap.size, 0, none⟩ 1 1 [.int .i64 (k : Int)] rfl rfl ?c1 ?c2 ?c3 ?c4 ?c5 ?_)
      case c1 => exact new_oneD _ _ _
      case c2 => intro u hu; simp at hu; subst hu; rfl
      case c3 => unfold maxLen; omega
      case c4 => omega
      case c5 => simp; omega
      intro v' w6 hown' hgrow _
      have hb6 : Below base W3 w6 := (hbB.alloc szB _).grown hgrow (by simp; omega) (fun k hk => (own.lt k hk).1)
      have o6 : w6.ownsRow base 3 1 v' (k + 1) (fvs (k + 1) (fun p => p)) := by rw [fvs_snoc]; exact hown'
      clear hown' hgrow own hbB
      go_wp2
      go_roundw
      case rel => exact ⟨k + 1, by omega, by go_num, o6, hb6⟩
      case measure => simp [intOf]; omega
    · obtain rfl : k = n := by omega
      have hw4 : Below w.heap.size w wr := hw3.trans (hbB.mono bsW)
      have X4 : Blk wr b 22 #[.slice A k d] := X3.same (hbB.block b (by omega))
      have S4 : Blk wr g 3 (numsJ 200 (fun _ => -1)) := S3.same (hbB.block g (by omega))
      have B4 : Blk wr g' 3 (numsJ k (fun _ => 0)) := B3.same (hbB.block g' g'b)
      rcases own.2 with ⟨rfl, h0⟩ | ⟨gO, cap, cur0, rfl, _⟩
      · subst h0
        have hl0 : l = [] := List.eq_nil_of_length_eq_zero HN.out.symm
        have HL0 := Lib.hid hl0
        clear hl0 own
        go_wp2_with fail
        refine (isort_nil b _).mono ?_
        rintro e w5 ⟨rfl, rfl⟩
        have IN : InsA l (fun p => p) l.length := by rw [HL0.out]; exact InsA.none _
        have ST : ∀ s, (-1 : Int) = edR l s := fun s => by
          rcases edR_range l s with e | ⟨k, _, hk⟩
          · exact e.symm
          · rw [HL0.out] at hk; simp at hk
        have HEnd : Hid (IsEnd (edR l) 200 0) := Lib.hid ⟨by omega, fun t _ _ => by have := ST t; omega, .inl rfl⟩
        have S5 : Blk w5 g 3 (numsJ 200 (edR l)) := by rw [← numsJ_same (F := fun _ => -1) (fun s _ => ST s)]; exact S4
        have HE := Lib.hid (fun s => (ST s).symm)
        have HZ : Hid (l.length = 0) := HN.out ▸ Lib.hid rfl
        clear IN ST S4
        have SL := S5
        have TM := B4
        have BL := hw4
        have HDD : Hid (∀ i, i < l.length → IsDone l 200 i ((fun _ => (0 : Int)) i)) := Lib.hid (fun i hi => by rw [HZ.out] at hi; omega)
        obtain ⟨D, hD⟩ : ∃ D : Nat → Int, D = fun _ => 0 := ⟨_, rfl⟩
        rw [← hD] at TM HDD
        clear hD S5 B4 X4 hbB X3 S3 B3 cb3 hw3 HE HEnd
        go_wp2
        refine wp_loop_rounds 1 ?_
        rw [rounds_succ]
        go_wp2
        obtain ⟨wr, hwr⟩ : ∃ wr, wr = w5 := ⟨_, rfl⟩
        subst hwr
        go_loopw [12] (fun s wx => ∃ m : Nat, m ≤ 200 ∧ s = .int .i64 m ∧ Hid (∀ s, m ≤ s → s < 200 → edR l s < 0) ∧ wx = wr) (fun s _ => (intOf s).toNat)
        case atStart => exact ⟨200, Nat.le_refl _, rfl, Lib.hid (fun s h1 h2 => by omega), rfl⟩
        obtain ⟨m, hm, rfl, HM, rfl⟩ := hrel
        by_cases hm0 : m = 0
        case pos =>
          subst hm0
          have HEnd : Hid (IsEnd (edR l) 200 0) := Lib.hid ⟨by omega, HM.out, .inl rfl⟩
          have X1 := Lib.hid (numsJ_ints SL 0 (by omega) (by omega))
          have X2 := Lib.hid (numsJ_ints TM 0 (Nat.le_refl _) (by have := HN.out; omega))
          have X3 := BL
          go_wp2
          go_ret2
          refine ⟨g, g', 0, D, by rw [← HN.out]; rfl, HEnd.out, HDD.out, X1.out, by rw [← HN.out]; exact X2.out, X3⟩
        obtain ⟨k, hk⟩ : ∃ k, m = k + 1 := ⟨m - 1, by omega⟩
        subst hk
        have e1 : decide ((0 : Int) < ((k + 1 : Nat) : Int)) = true := decide_eq_true (by omega)
        have m1 : IntKind.i64.wrap ((((k + 1 : Nat) : Int)) - 1) = (k : Int) := by rw [IntWalk.i64_in _ ⟨by omega, by omega⟩]; omega
        have m2 : IntKind.i64.wrap (((k : Int) + 1) - 1) = (k : Int) := by rw [IntWalk.i64_in _ ⟨by omega, by omega⟩]; omega
        obtain ⟨Y, hY⟩ : ∃ Y, Y = edR l k := ⟨_, rfl⟩
        have cY := (SL.cell k).trans (numsJ_cell _ (show k < 200 by omega))
        rw [← hY] at cY
        have HY := Lib.hid hY
        have i3 : (k : Int) < 200 := by omega
        clear hY hm0
        by_cases y : Y < 0
        case pos =>
          have e2 : decide (Y < 0) = true := decide_eq_true y
          have HM' : Hid (∀ s, k ≤ s → s < 200 → edR l s < 0) := Lib.hid (fun s h1 h2 => by
            by_cases c : s = k
            · subst c; rw [← HY.out]; exact y
            · exact HM.out s (by omega) h2)
          go_wp2
          go_roundw
          case rel => exact ⟨k, by omega, by first | rfl | go_num, HM', by first | trivial | rfl⟩
          case measure => first | (simp [intOf]; done) | (simp [intOf]; omega)
        have e2 : decide (Y < 0) = false := decide_eq_false y
        have HEnd : Hid (IsEnd (edR l) 200 (k + 1)) := Lib.hid ⟨by omega, HM.out, .inr (by rw [Nat.add_sub_cancel, ← HY.out]; omega)⟩
        have X1 := Lib.hid (numsJ_ints SL (k + 1) (by omega) (by omega))
        have X2 := Lib.hid (numsJ_ints TM 0 (Nat.le_refl _) (by have := HN.out; omega))
        have X3 := BL
        have i4 : ((k : Int) + 1) ≤ 200 := by omega
        go_wp2
        go_ret2
        refine ⟨g, g', k + 1, D, by rw [← HN.out]; rfl, HEnd.out, HDD.out, X1.out, by rw [← HN.out]; exact X2.out, X3⟩
      · have gOb := (own.lt gO rfl).1
        have cb4 : wr.cell? ⟨b, 0, none⟩ = some (.slice A l.length d) := by rw [← HN.out]; exact X4.cell 0
        have HCB := Lib.hid cb4
        clear cb4
        go_wp2_with fail
        refine (sortStable_any b d gO k cap base A l w _ h j hw4 bsW (by omega) HCB.out HN.out own).mono ?_
        rintro e w5 ⟨rfl, f, hf, o5, b5⟩
        have HI := Lib.hid (show InsA l f l.length by rw [← HN.out]; exact hf)
        have HLI := HI
        rcases o5.2 with ⟨hv, _⟩ | ⟨gO', cap', cur, hv, _, hh, _, _, _, ht⟩
        · cases hv
        · have hgO' : gO = gO' := by injection hv with hv; injection hv with hv; injection hv with hv
          subst hgO'
          have CO : Hid (∀ p, p < k → cur[p]? = some (.int .i64 ((f p : Nat) : Int))) := Lib.hid (fun p hp => by
            have e := fvs_get (n := k) f hp
            rw [← ht, List.getElem?_take_of_lt (by omega)] at e
            simpa using e)
          have hw0 : DoW w A k d b g g' gO cur (doV l f 0) (fun _ => 0) w5 := ⟨X4.same (b5.block b (by omega)), S4.same (b5.block g (by omega)), B4.same (b5.block g' g'b), hh, hw4.trans (b5.mono bsW)⟩
          have hgO : g' < gO := by omega
          obtain ⟨n, hnk⟩ : ∃ n, n = k := ⟨_, rfl⟩
          subst hnk
          clear hv ht hh o5 b5 own hf X4 S4 B4 hw4 hbB X3 S3 B3 hw3 cb3 HCB bsW
          go_wp2
          go_loopw [33] (fun s wr => ∃ p : Nat, p ≤ n ∧ s = .int .i64 p ∧ ∃ D : Nat → Int, Hid (DnA l f p D) ∧ DoW w A n d b g g' gO cur (doV l f p) D wr) (fun s _ => n - (intOf s).toNat)
          case atStart => exact ⟨0, Nat.zero_le _, rfl, fun _ => 0, Lib.hid (dn_zero l f), hw0⟩
          clear hw0
          obtain ⟨p, hp, rfl, D, HD, hW⟩ := hrel
          by_cases hlt : p < n
          case pos =>
            have i1 : (p : Int) < (n : Int) := by omega
            obtain ⟨I, hI⟩ : ∃ I, f p = I := ⟨_, rfl⟩
            have cO : wr.cell? ⟨gO, p, none⟩ = some (.int .i64 (I : Int)) := by rw [hW.ord.cell p, CO.out p hlt, hI]
            have hIl : I < l.length := by rw [← hI]; exact HI.out.lt p (by have := HN.out; omega)
            have HIp : Hid (f p = I) := Lib.hid hI
            have cb : wr.cell? ⟨b, 0, none⟩ = some (.slice A n d) := hW.box.cell 0
            obtain ⟨bb, off, q, hA', hbl, c0, c1, c2, HJ⟩ := (h.below hW.bel).get hIl
            subst hA'
            have hq := jb_of HJ.out
            have qa := j.a0 I hIl
            have qd := j.ad I hIl
            have qd1 := j.d1 I hIl
            have qw := j.w0 I hIl
            have qw1 := j.w1 I hIl
            rw [hq] at qa qd qd1 qw qw1
            obtain ⟨T, hT⟩ := Int.eq_ofNat_of_zero_le qa
            have i2 : (I : Int) < (n : Int) := by have := HN.out; omega
            have HX0 : Hid (q.work = edL l T I) := Lib.hid (by rw [ed_before T (by rw [hq]; omega), hq])
            have HQa : Hid ((jb l (f p)).at_ = (T : Int)) := Lib.hid (by rw [hI, hq]; exact hT)
            have hW' : DoW w (some ⟨bb, off, none⟩) n d b g g' gO cur (doW l f p T) D wr := hW.same (fun s _ => doW_start (by rw [HQa.out]; omega) s)
            have HB0 : Hid (DnB l f p T D) := Lib.hid (.inl ⟨by rw [hI, ← HX0.out]; omega, HD.out⟩)
            have T200 : T ≤ 200 := by omega
            rw [hT] at c0
            clear hI hq hW hT HJ
            go_wp2
            go_loopw [10, 11] (fun u s wr => ∃ t : Nat, t ≤ 200 ∧ T ≤ t ∧ s = .int .i64 t ∧ (∃ X : Int, u = .int .i64 X ∧ 0 ≤ X ∧ X ≤ 200 ∧ Hid (X = edL l t I)) ∧ ∃ D : Nat → Int, Hid (DnB l f p t D) ∧ DoW w (some ⟨bb, off, none⟩) n d b g g' gO cur (doW l f p t) D wr) (fun _ s _ => 200 - (intOf s).toNat)
            case atStart => exact ⟨T, T200, Nat.le_refl _, rfl, ⟨q.work, rfl, by omega, by omega, HX0⟩, D, HB0, hW'⟩
            clear hW' HB0 HD cO cb c0 c1 c2 hbl
            obtain ⟨t, ht, htT, rfl, ⟨X, rfl, X0, X1, HX⟩, D, HB, hW⟩ := hrel
            by_cases stop : t < 200 ∧ 0 < X
            case pos =>
              obtain ⟨t2, Xp⟩ := stop
              have e1 : decide ((t : Int) < 200) = true := decide_eq_true (by omega)
              have e2 : decide (0 < X) = true := decide_eq_true Xp
              have i3 : (t : Int) < 200 := by omega
              obtain ⟨Y, hY⟩ : ∃ Y, Y = doV l f p t := ⟨_, rfl⟩
              have cY : wr.cell? ⟨g, t, none⟩ = some (.int .i64 Y) := by rw [hW.slot.cell t, numsJ_cell _ t2, doW_at, hY]
              have fY := hW.slot.frozen t
              have HY := Lib.hid hY
              have HDN : Hid (DnA l f p D) := Lib.hid (by
                rcases HB.out with ⟨_, x⟩ | ⟨x, _⟩
                · exact x
                · rw [HIp.out, ← HX.out] at x; omega)
              have m1 : IntKind.i64.wrap ((t : Int) + 1) = (t : Int) + 1 := IntWalk.i64_in _ ⟨by omega, by omega⟩
              clear hY HB
              by_cases y : 0 ≤ Y
              case pos =>
                have e3 : decide (0 ≤ Y) = true := decide_eq_true y
                have HS := Lib.hid (doW_skip (HLI.out) (p := p) (t := t) (by have := HN.out; omega) (by rw [← HY.out]; exact y))
                have HXN : Hid (X = edL l (t + 1) I) := Lib.hid (by rw [← HIp.out, HS.out.2, HIp.out]; exact HX.out)
                have HBN : Hid (DnB l f p (t + 1) D) := Lib.hid (.inl ⟨by rw [HIp.out, ← HXN.out]; exact Xp, HDN.out⟩)
                have hWN := hW.same (S' := doW l f p (t + 1)) (fun s _ => HS.out.1 s)
                clear hW
                go_wp2
                go_roundw
                case rel => exact ⟨t + 1, by omega, by omega, by go_num, ⟨X, rfl, X0, X1, HXN⟩, D, HBN, hWN⟩
                case measure => simp [intOf]; omega
              have e3 : decide (0 ≤ Y) = false := decide_eq_false y
              have HE : Hid (edR l t = ((f p : Nat) : Int)) := Lib.hid (do_pick HLI.out (by have := HN.out; omega) (by rw [HQa.out]; omega) (by rw [HIp.out, ← HX.out]; exact Xp) (by rw [← HY.out]; omega))
              have HS := Lib.hid (doW_take HE.out)
              have HXN : Hid (X - 1 = edL l (t + 1) I) := Lib.hid (by rw [← HIp.out, HS.out.2.2, HIp.out, ← HX.out])
              have hWN := hW.put (S' := doW l f p (t + 1)) (v := (I : Int)) hwb hbg hgg hgO t2 (fun s hs => HS.out.1 s hs) (by rw [HS.out.2.1, HIp.out])
              have m2 : IntKind.i64.wrap (X - 1) = X - 1 := IntWalk.i64_in _ ⟨by omega, by omega⟩
              by_cases z : X - 1 = 0
              case pos =>
                have e4 : (X - 1 == 0) = true := by simp [z]
                have HBN : Hid (DnB l f p (t + 1) (fun i => if i = f p then (t : Int) + 1 else D i)) := Lib.hid (.inr ⟨by rw [HIp.out, ← HXN.out]; exact z, dn_fin HLI.out (by have := HN.out; omega) t2 HDN.out (by rw [HIp.out, ← HXN.out]; exact z) (by rw [HIp.out, ← HX.out]; exact Xp)⟩)
                have hWM := hWN.tell (D' := fun i => if i = f p then (t : Int) + 1 else D i) (i := I) (v := (t : Int) + 1) hwb hbg hgg hgO (by omega) (fun s hs => by show (if s = f p then _ else _) = _; rw [if_neg (by rw [HIp.out]; exact hs)]) (by show (if I = f p then _ else _) = _; rw [if_pos HIp.out.symm])
                have cD : ∃ u, wr.cell? ⟨g', I, none⟩ = some u := ⟨_, (hW.time.cell I).trans (numsJ_cell _ (by omega))⟩
                obtain ⟨uD, cD⟩ := cD
                have fD := hW.time.frozen I
                have ng : ¬ g' = g := by omega
                have XN0 : 0 ≤ X - 1 := by omega
                have XN1 : X - 1 ≤ 200 := by omega
                have HWM := Lib.hid hWM
                clear hW hWN hWM z y
                go_wp2
                go_roundw
                case rel => exact ⟨t + 1, by omega, by omega, by go_num, ⟨X - 1, rfl, XN0, XN1, HXN⟩, _, HBN, HWM.out⟩
                case measure => simp [intOf]; omega
              have e4 : (X - 1 == 0) = false := by simp [z]
              have HBN : Hid (DnB l f p (t + 1) D) := Lib.hid (.inl ⟨by rw [HIp.out, ← HXN.out]; omega, HDN.out⟩)
              have XN0 : 0 ≤ X - 1 := by omega
              have XN1 : X - 1 ≤ 200 := by omega
              have HWM := Lib.hid hWN
              clear hW hWN z y
              go_wp2
              go_roundw
              case rel => exact ⟨t + 1, by omega, by omega, by go_num, ⟨X - 1, rfl, XN0, XN1, HXN⟩, _, HBN, HWM.out⟩
              case measure => simp [intOf]; omega
            have HDN : Hid (DnA l f (p + 1) D) := Lib.hid (by
              rcases HB.out with ⟨x, y⟩ | ⟨_, y⟩
              · rw [HIp.out, ← HX.out] at x
                obtain rfl : t = 200 := by omega
                exact dn_end (by have := HN.out; omega) y (by rw [HIp.out, ← HX.out]; exact x)
              · exact y)
            have hWN : DoW w (some ⟨bb, off, none⟩) n d b g g' gO cur (doV l f (p + 1)) D wr := by
              by_cases c : t < 200
              · exact hW.same (fun s _ => (doW_end j.toJobs (by rw [HIp.out]; exact hIl) (by rw [HIp.out, ← HX.out]; omega) s).symm)
              · obtain rfl : t = 200 := by omega
                exact hW.same (fun s hs => (doW_full hs).symm)
            clear hW
            by_cases c : t < 200
            case pos =>
              have e1 : decide ((t : Int) < 200) = true := decide_eq_true (by omega)
              have e2 : decide (0 < X) = false := decide_eq_false (by omega)
              have i3 : (t : Int) < 200 := by omega
              clear stop
              go_wp2
              go_roundw
              case rel => exact ⟨p + 1, by omega, by go_num, D, HDN, hWN⟩
              case measure => simp [intOf]; omega
            have e1 : decide ((t : Int) < 200) = false := decide_eq_false (by omega)
            have i3 : ¬ (t : Int) < 200 := by omega
            clear stop
            go_wp2
            go_roundw
            case rel => exact ⟨p + 1, by omega, by go_num, D, HDN, hWN⟩
            case measure => simp [intOf]; omega
          obtain rfl : p = n := by omega
          have hWN : DoW w A p d b g g' gO cur (edR l) D wr := hW.same (fun s _ => by have := doV_all HLI.out s; rw [← HN.out] at this; exact this.symm)
          have HDD : Hid (∀ i, i < l.length → IsDone l 200 i (D i)) := Lib.hid (fun i hi => dn_all HLI.out (by have := HD.out; rw [HN.out] at this; exact this) hi)
          have SL := hWN.slot
          have TM := hWN.time
          have BL := hWN.bel
          clear hW HD hWN
          go_wp2
          go_loopw [12] (fun s wx => ∃ m : Nat, m ≤ 200 ∧ s = .int .i64 m ∧ Hid (∀ s, m ≤ s → s < 200 → edR l s < 0) ∧ wx = wr) (fun s _ => (intOf s).toNat)
          case atStart => exact ⟨200, Nat.le_refl _, rfl, Lib.hid (fun s h1 h2 => by omega), rfl⟩
          obtain ⟨m, hm, rfl, HM, rfl⟩ := hrel
          by_cases hm0 : m = 0
          case pos =>
            subst hm0
            have HEnd : Hid (IsEnd (edR l) 200 0) := Lib.hid ⟨by omega, HM.out, .inl rfl⟩
            have X1 := Lib.hid (numsJ_ints SL 0 (by omega) (by omega))
            have X2 := Lib.hid (numsJ_ints TM p (Nat.le_refl _) (by have := HN.out; omega))
            have X3 := BL
            go_wp2
            go_ret2
            refine ⟨g, g', 0, D, by rw [← HN.out]; rfl, HEnd.out, HDD.out, X1.out, by rw [← HN.out]; exact X2.out, X3⟩
          obtain ⟨k, hk⟩ : ∃ k, m = k + 1 := ⟨m - 1, by omega⟩
          subst hk
          have e1 : decide ((0 : Int) < ((k + 1 : Nat) : Int)) = true := decide_eq_true (by omega)
          have m1 : IntKind.i64.wrap ((((k + 1 : Nat) : Int)) - 1) = (k : Int) := by rw [IntWalk.i64_in _ ⟨by omega, by omega⟩]; omega
          have m2 : IntKind.i64.wrap (((k : Int) + 1) - 1) = (k : Int) := by rw [IntWalk.i64_in _ ⟨by omega, by omega⟩]; omega
          obtain ⟨Y, hY⟩ : ∃ Y, Y = edR l k := ⟨_, rfl⟩
          have cY := (SL.cell k).trans (numsJ_cell _ (show k < 200 by omega))
          rw [← hY] at cY
          have HY := Lib.hid hY
          have i3 : (k : Int) < 200 := by omega
          clear hY hm0
          by_cases y : Y < 0
          case pos =>
            have e2 : decide (Y < 0) = true := decide_eq_true y
            have HM' : Hid (∀ s, k ≤ s → s < 200 → edR l s < 0) := Lib.hid (fun s h1 h2 => by
              by_cases c : s = k
              · subst c; rw [← HY.out]; exact y
              · exact HM.out s (by omega) h2)
            go_wp2
            go_roundw
            case rel => exact ⟨k, by omega, by first | rfl | go_num, HM', by first | trivial | rfl⟩
            case measure => first | (simp [intOf]; done) | (simp [intOf]; omega)
          have e2 : decide (Y < 0) = false := decide_eq_false y
          have HEnd : Hid (IsEnd (edR l) 200 (k + 1)) := Lib.hid ⟨by omega, HM.out, .inr (by rw [Nat.add_sub_cancel, ← HY.out]; omega)⟩
          have X1 := Lib.hid (numsJ_ints SL (k + 1) (by omega) (by omega))
          have X2 := Lib.hid (numsJ_ints TM p (Nat.le_refl _) (by have := HN.out; omega))
          have X3 := BL
          have i4 : ((k : Int) + 1) ≤ 200 := by omega
          go_wp2
          go_ret2
          refine ⟨g, g', k + 1, D, by rw [← HN.out]; rfl, HEnd.out, HDD.out, X1.out, by rw [← HN.out]; exact X2.out, X3⟩

end Go.Proofs.Ytoapgdandpcboaa
