
/-
  Walks: the tasks put in the order of their dues (slices' insertion sort over structs); package ranks' Order.
-/
import Derived.Test.YtnpdcllfdoobeaaRankI
import Derived.Test.YtnpdcllfdoobeaaRankS
import Derived.Test.YtnpdcllfdoobeaaRankA
import Derived.StillTailTactics
import Derived.Laws.OwnMore
namespace Go.Proofs.Ytnpdcllfdoobeaa
set_option linter.all false
open Go.RowKit Go.Shelf Go.Lib

def cmT (x y : Int) : Int := if x < y then -1 else if y < x then 1 else 0
theorem cmT_lt {x y : Int} : cmT x y < 0 ↔ x < y := by unfold cmT; split; omega; split <;> omega
theorem cmpT_any (x y c : Int) (w : World) (hc : Hid (cmT x y = c)) : Calls Try.prog 71 #[.int .i64 x, .int .i64 y] w fun e w' => e = .returned (.int .i64 c) ∧ w' = w := by
  by_cases h1 : x < y
  · have HC : Hid (c = -1) := Lib.hid (by rw [← hc.out, cmT, if_pos h1])
    clear hc
    go_enter Try.func71, Try.ntmps71
    go_wp2
    go_ret
    exact ⟨ret_int HC.out.symm, rfl⟩
  · by_cases h2 : y < x
    · have HC : Hid (c = 1) := Lib.hid (by rw [← hc.out, cmT, if_neg h1, if_pos h2])
      clear hc
      go_enter Try.func71, Try.ntmps71
      go_wp2
      go_ret
      exact ⟨ret_int HC.out.symm, rfl⟩
    · have HC : Hid (c = 0) := Lib.hid (by rw [← hc.out, cmT, if_neg h1, if_neg h2])
      clear hc
      go_enter Try.func71, Try.ntmps71
      go_wp2
      go_ret
      exact ⟨ret_int HC.out.symm, rfl⟩
set_option maxHeartbeats 800000 in
theorem tbyDue_any (a b : Tk) (v : Int) (w : World) (hv : Hid (cmT a.due b.due = v)) : Calls Try.prog 69 #[.agg #[.int .i64 a.per, .int .i64 a.work, .int .i64 a.due], .agg #[.int .i64 b.per, .int .i64 b.work, .int .i64 b.due]] w fun e w' => e = .returned (.int .i64 v) ∧ Below w.heap.size w w' := by
  obtain ⟨a1, a2, a3⟩ := a
  obtain ⟨b1, b2, b3⟩ := b
  simp only at hv ⊢
  go_enter Try.func69, Try.ntmps69
  go_wp2_with fail
  refine (cmpT_any a3 b3 v _ hv).mono ?_
  rintro e w' ⟨rfl, rfl⟩
  go_wp2
  go_ret
  exact ⟨rfl, ((Below.refl _ w).alloc (Nat.le_refl _) _).alloc (by simp) _⟩

theorem pcs3T : ∀ {l : List Pk} {k : Nat} (p : Pk), k < l.length → (((pcs l).set (k * 3) (.int .i64 p.at_)).set (k * 3 + 1) (.int .i64 p.size)).set (k * 3 + 2) (.int .i64 p.flow) = pcs (l.set k p)
  | [], k, p, h => by simp at h
  | q :: l, 0, p, h => by simp [pcs_cons]
  | q :: l, k + 1, p, h => by
    have ih := pcs3T (l := l) (k := k) p (by simpa using h)
    rw [pcs_cons, List.set_append_right _ _ (by simp; omega), List.set_append_right _ _ (by simp; omega), List.set_append_right _ _ (by simp; omega), List.set_cons_succ, pcs_cons, ← ih]
    simp [show (k + 1) * 3 - 3 = k * 3 by omega, show (k + 1) * 3 + 1 - 3 = k * 3 + 1 by omega, show (k + 1) * 3 + 2 - 3 = k * 3 + 2 by omega]
theorem qcs_three {l : List Tk} {k : Nat} (j : Tk) (h : k < l.length) : (((qcs l).set (k * 3) (.int .i64 j.per)).set (k * 3 + 1) (.int .i64 j.work)).set (k * 3 + 2) (.int .i64 j.due) = qcs (l.set k j) := by
  have := pcs3T (l := l.map tp) (k := k) (tp j) (by simpa using h)
  unfold qcs
  rw [List.map_set]
  exact this
theorem srt_get {l : List Tk} {f : Nat → Nat} {p : Nat} (h : p < l.length) : (srtT l f)[p]? = some (tk l (f p)) := by simp [srtT, h]
theorem qcs_get {l : List Tk} {k : Nat} {j : Tk} (h : l[k]? = some j) : (qcs l)[k * 3]? = some (.int .i64 j.per) ∧ (qcs l)[k * 3 + 1]? = some (.int .i64 j.work) ∧ (qcs l)[k * 3 + 2]? = some (.int .i64 j.due) :=
  pcs_get (l := l.map tp) (k := k) (p := tp j) (by rw [List.getElem?_map, h]; rfl)
theorem srt_swap {l : List Tk} (f : Nat → Nat) {j : Nat} (h : j + 1 < l.length) : ((srtT l f).set (j + 1) (tk l (f j))).set j (tk l (f (j + 1))) = srtT l (swF f j) := by
  apply List.ext_getElem?
  intro p
  by_cases c : p < l.length
  · rw [srt_get c]
    by_cases c1 : p = j
    · subst c1; rw [List.getElem?_set_self (by rw [List.length_set, length_srt]; exact c), swF_lo]
    · rw [List.getElem?_set_ne (fun e => c1 e.symm)]
      by_cases c2 : p = j + 1
      · subst c2; rw [List.getElem?_set_self (by rw [length_srt]; exact c), swF_hi]
      · rw [List.getElem?_set_ne (fun e => c2 e.symm), srt_get c, swF_ne f c1 c2]
  · rw [List.getElem?_eq_none (by rw [List.length_set, List.length_set, length_srt]; omega), List.getElem?_eq_none (by rw [length_srt]; omega)]
theorem srt_id (l : List Tk) : srtT l (fun p => p) = l := by
  apply List.ext_getElem?
  intro p
  by_cases c : p < l.length
  · rw [srt_get c]; simp [tk, List.getD, c]
  · rw [List.getElem?_eq_none (by rw [length_srt]; omega), List.getElem?_eq_none (by omega)]
theorem own_belT {w w' : World} {base n size : Nat} {e : TypeId} {v : Value} {xs : List Value} (h : w.ownsRow base e size v n xs) (hb : Below w.heap.size w w') : w'.ownsRow base e size v n xs :=
  h.kept (row := none) ⟨hb.os, hb.tape, hb.output, hb.size, fun k hk _ => hb.block k hk⟩ (by cases v.ownBlock <;> simp)
theorem own_lowT {W : World} {base base' : Nat} {e : TypeId} {size : Nat} {v : Value} {k : Nat} {xs : List Value} (h : W.ownsRow base e size v k xs) (hb : base' ≤ base) : W.ownsRow base' e size v k xs := by
  refine ⟨h.1, ?_⟩
  rcases h.2 with hn | ⟨g, cap, cur, hv, hbg, rest⟩
  · exact .inl hn
  · exact .inr ⟨g, cap, cur, hv, Nat.le_trans hb hbg, rest⟩
theorem own_drewT {w : World} {base n size : Nat} {e : TypeId} {v : Value} {xs : List Value} (h : w.ownsRow base e size v n xs) : w.drew.ownsRow base e size v n xs := h

set_option maxRecDepth 100000 in
set_option maxHeartbeats 3200000 in
theorem tinsert_any (g n cap base : Nat) (l : List Tk) (w : World) (v5 : l.length ≤ 5) (hn : n = l.length) (o : w.ownsRow base 68 3 (.slice (some ⟨g, 0, none⟩) n cap) n (qcs (srtT l (fun p => p)))) (hbs : base ≤ w.heap.size) :
    Calls Try.prog 99 #[.slice (some ⟨g, 0, none⟩) n cap, .int .i64 0, .int .i64 n, .func (.func 69) #[] #[]] w fun e w' => e = .returned (.tuple #[]) ∧ ∃ f, InsA (tjs l) f n ∧ w'.ownsRow base 68 3 (.slice (some ⟨g, 0, none⟩) n cap) n (qcs (srtT l f)) ∧ Below base w w' := by
  have hent := enters_of Try.func69 (by kernel_rfl) rfl
  have HN := Lib.hid hn
  have n5 : n ≤ 5 := by omega
  have gb := (o.lt g rfl).1
  have HL : Hid (∀ i, i < n → jb (tjs l) i = tj (tk l i)) := Lib.hid (fun i hi => jb_tj (by omega))
  clear hn v5
  by_cases hn0 : n = 0
  · subst hn0
    go_enter Try.func99, Try.ntmps99
    go_wp2
    refine wp_loop_rounds 1 ?_
    rw [rounds_succ]
    go_wp2
    exact ⟨rfl, .tuple #[], by simp [results, Try.results99, go_sem], rfl, fun p => p, InsA.none _, o, Below.refl _ _⟩
  go_enter Try.func99, Try.ntmps99
  go_wp2
  go_loopw [8] (fun s wr => ∃ (i : Nat) (f : Nat → Nat), 1 ≤ i ∧ i ≤ n ∧ s = .int .i64 i ∧ Hid (InsA (tjs l) f i) ∧ wr.ownsRow base 68 3 (.slice (some ⟨g, 0, none⟩) n cap) n (qcs (srtT l f)) ∧ Below base w wr) (fun s _ => n - (intOf s).toNat)
  case atStart => exact ⟨1, fun p => p, Nat.le_refl _, by omega, rfl, Lib.hid (InsA.zero _), o, Below.refl _ _⟩
  case round =>
    clear o
    obtain ⟨i, f, hi0, hi, rfl, HI, o, hbel⟩ := hrel
    by_cases hlt : i < n
    · have i1 : (i : Int) < (n : Int) := by omega
      go_wp2
      go_loopw [9] (fun s wr => ∃ (k : Nat) (f : Nat → Nat), s = .int .i64 k ∧ Hid (InsB (tjs l) f i k) ∧ wr.ownsRow base 68 3 (.slice (some ⟨g, 0, none⟩) n cap) n (qcs (srtT l f)) ∧ Below base w wr) (fun s _ => (intOf s).toNat)
      case atStart => exact ⟨i, f, rfl, Lib.hid HI.out.start, o, hbel⟩
      case round =>
        clear o hbel HI
        obtain ⟨k, f, rfl, HB, o, hbel⟩ := hrel
        have kle := HB.out.le
        by_cases hk0 : k = 0
        · subst hk0
          have HS := HB.out.stop (.inl rfl)
          have HH := Lib.hid HS
          clear HS
          go_wp2
          go_quiet (fail)
          go_wp2
          go_roundw
          case rel => exact ⟨i + 1, f, by omega, by omega, by go_num, HH, o, ⟨hbel.os, hbel.tape, hbel.output, hbel.size, hbel.block⟩⟩
          case measure => simp [intOf]; omega
        · obtain ⟨m, hm⟩ : ∃ m, m = k - 1 := ⟨_, rfl⟩
          have ek : k = m + 1 := by omega
          have EK := Lib.hid ek
          have nl := HN.out
          have gk := srt_get (l := l) (f := f) (p := k) (by omega)
          have gm := srt_get (l := l) (f := f) (p := m) (by omega)
          obtain ⟨a, ha⟩ : ∃ a, a = tk l (f k) := ⟨_, rfl⟩
          obtain ⟨b, hb⟩ : ∃ b, b = tk l (f m) := ⟨_, rfl⟩
          rw [← ha] at gk
          rw [← hb] at gm
          obtain ⟨a0, a1, a2⟩ := qcs_get gk
          obtain ⟨b0, b1, b2⟩ := qcs_get gm
          have lq : (qcs (srtT l f)).length = n * 3 := by rw [length_qcs, length_srt, nl]
          have c10 := (o.cellAt (k * 3) (by omega)).trans a0
          have c11 := (o.cellAt (k * 3 + 1) (by omega)).trans a1
          have c12 := (o.cellAt (k * 3 + 2) (by omega)).trans a2
          have c20 := (o.cellAt (m * 3) (by omega)).trans b0
          have c21 := (o.cellAt (m * 3 + 1) (by omega)).trans b1
          have c22 := (o.cellAt (m * 3 + 2) (by omega)).trans b2
          obtain ⟨v, hv⟩ : ∃ v, cmT a.due b.due = v := ⟨_, rfl⟩
          have HV := Lib.hid hv
          have HA : Hid (a = tk l i) := Lib.hid (by rw [ha, HB.out.at_])
          have HBB : Hid (b = tk l (f m)) := Lib.hid hb
          have i2 : (k : Int) < (n : Int) := by omega
          have i3 : (m : Int) < (n : Int) := by omega
          have i4 : (0 : Int) < (k : Int) := by omega
          have i4n : 0 < k := by omega
          have i4d : decide (0 < k) = true := decide_eq_true i4n
          have m1 : IntKind.i64.wrap ((k : Int) - 1) = (m : Int) := by rw [IntWalk.i64_in _ ⟨by omega, by omega⟩]; omega
          have HM : Hid ((k : Int) - 1 = (m : Int)) := Lib.hid (by omega)
          have HMK : Hid (m < k) := Lib.hid (by omega)
          have fm : f m < i := HB.out.lt m (by omega) (by omega)
          have jm := HL.out (f m) (by omega)
          have ji := HL.out i (by omega)
          have HJ : Hid ((jb (tjs l) i).due < (jb (tjs l) (f m)).due ↔ v < 0) := Lib.hid (by rw [jm, ji, ← hv, cmT_lt, HA.out, HBB.out]; rfl)
          clear ha hb hv hm ek nl gk gm a0 a1 a2 b0 b1 b2 jm ji fm
          go_wp2
          by_cases v0 : v < 0
          · have e1 : decide (v < 0) = true := decide_eq_true v0
            have HD : Hid (InsB (tjs l) (swF f m) i m) := Lib.hid (by
              have x := HB.out
              rw [EK.out] at x
              exact x.down (HJ.out.mpr v0))
            have HQ : Hid ((qcs (((srtT l f).set k b).set m a)) = qcs (srtT l (swF f m))) := Lib.hid (by
              have e := srt_swap (l := l) f (j := m) (by have := HN.out; have := EK.out; omega)
              rw [← e, ← EK.out, ← HBB.out, HB.out.at_, ← HA.out])
            clear HB HJ
            go_region_held3 (fun w' => w'.cell? ⟨g, k * 3, none⟩ = some (.int .i64 a.per) ∧ w'.cell? ⟨g, k * 3 + 1, none⟩ = some (.int .i64 a.work) ∧ w'.cell? ⟨g, k * 3 + 2, none⟩ = some (.int .i64 a.due) ∧ w'.cell? ⟨g, m * 3, none⟩ = some (.int .i64 b.per) ∧ w'.cell? ⟨g, m * 3 + 1, none⟩ = some (.int .i64 b.work) ∧ w'.cell? ⟨g, m * 3 + 2, none⟩ = some (.int .i64 b.due))
              (first | go_keep | (go_split_ands; refine ⟨?_, ?_, ?_, ?_, ?_, ?_⟩ <;> exact (b9.cell (cell_lt (by assumption))).trans (by assumption)))
              (first
                | ((with_reducible refine (tbyDue_any a b v _ HV).mono ?_); rintro e w9 ⟨rfl, b9⟩))
            have bW : Below wr.heap.size wr w9 := below_trans (below_of_drewN (n := 1) rfl) b9
            have gl := (o.lt g rfl).2
            have o9 := own_belT o bW
            have hb9 : Below base w w9 := hbel.trans (bW.mono (Nat.le_trans hbs hbel.size))
            have d10 := (bW.cell (p := ⟨g, k * 3, none⟩) gl).trans c10
            have d11 := (bW.cell (p := ⟨g, k * 3 + 1, none⟩) gl).trans c11
            have d12 := (bW.cell (p := ⟨g, k * 3 + 2, none⟩) gl).trans c12
            have d20 := (bW.cell (p := ⟨g, m * 3, none⟩) gl).trans c20
            have d21 := (bW.cell (p := ⟨g, m * 3 + 1, none⟩) gl).trans c21
            have d22 := (bW.cell (p := ⟨g, m * 3 + 2, none⟩) gl).trans c22
            have f10 := o9.frozenAt (k * 3)
            have f11 := o9.frozenAt (k * 3 + 1)
            have f12 := o9.frozenAt (k * 3 + 2)
            have f20 := o9.frozenAt (m * 3)
            have f21 := o9.frozenAt (m * 3 + 1)
            have f22 := o9.frozenAt (m * 3 + 2)
            have s1 := (o9.stored (k * 3) (.int .i64 b.per)).1
            have s2 := (s1.stored (k * 3 + 1) (.int .i64 b.work)).1
            have s3 := (s2.stored (k * 3 + 2) (.int .i64 b.due)).1
            rw [qcs_three (l := srtT l f) (k := k) b (by rw [length_srt]; have := HN.out; omega)] at s3
            have s4 := (s3.stored (m * 3) (.int .i64 a.per)).1
            have s5 := (s4.stored (m * 3 + 1) (.int .i64 a.work)).1
            have s6 := (s5.stored (m * 3 + 2) (.int .i64 a.due)).1
            rw [qcs_three (l := (srtT l f).set k b) (k := m) a (by rw [List.length_set, length_srt]; have := HN.out; omega), HQ.out] at s6
            have bs := (((((hb9.setCell (p := ⟨g, k * 3, none⟩) gb (.int .i64 b.per)).setCell (p := ⟨g, k * 3 + 1, none⟩) gb (.int .i64 b.work)).setCell (p := ⟨g, k * 3 + 2, none⟩) gb (.int .i64 b.due)).setCell (p := ⟨g, m * 3, none⟩) gb (.int .i64 a.per)).setCell (p := ⟨g, m * 3 + 1, none⟩) gb (.int .i64 a.work)).setCell (p := ⟨g, m * 3 + 2, none⟩) gb (.int .i64 a.due)
            have S6 := Lib.hid (own_drewT s6)
            have BS := Lib.hid bs.drew
            have nkm : ¬ k = m := by have := HMK.out; omega
            have nmk : ¬ m = k := by have := HMK.out; omega
            clear s1 s2 s3 s4 s5 s6 bs o9 o hb9 hbel bW c10 c11 c12 c20 c21 c22 b9
            go_wp2
            go_region
            all_goals
              go_wp2
              go_roundw
              case rel =>
                exact ⟨m, swF f m, rfl, HD, S6.out, BS.out⟩
              case measure => have := HMK.out; have := HM.out; simp [intOf]; omega
          · have e1 : decide (v < 0) = false := decide_eq_false v0
            have HH : Hid (InsA (tjs l) f (i + 1)) := Lib.hid (HB.out.stop (.inr (by rw [show k - 1 = m by have := EK.out; omega]; exact fun c => v0 (HJ.out.mp c))))
            clear HB HJ
            go_region_held3 (fun w' => w'.cell? ⟨g, k * 3, none⟩ = some (.int .i64 a.per) ∧ w'.cell? ⟨g, k * 3 + 1, none⟩ = some (.int .i64 a.work) ∧ w'.cell? ⟨g, k * 3 + 2, none⟩ = some (.int .i64 a.due) ∧ w'.cell? ⟨g, m * 3, none⟩ = some (.int .i64 b.per) ∧ w'.cell? ⟨g, m * 3 + 1, none⟩ = some (.int .i64 b.work) ∧ w'.cell? ⟨g, m * 3 + 2, none⟩ = some (.int .i64 b.due))
              (first | go_keep | (go_split_ands; refine ⟨?_, ?_, ?_, ?_, ?_, ?_⟩ <;> exact (b9.cell (cell_lt (by assumption))).trans (by assumption)))
              (first
                | ((with_reducible refine (tbyDue_any a b v _ HV).mono ?_); rintro e w9 ⟨rfl, b9⟩))
            have bW : Below wr.heap.size wr w9 := below_trans (below_of_drewN (n := 1) rfl) b9
            have o9 := own_belT o bW
            have hb9 : Below base w w9 := hbel.trans (bW.mono (Nat.le_trans hbs hbel.size))
            clear c10 c11 c12 c20 c21 c22 b9 bW o hbel
            go_wp2
            go_roundw
            case rel => exact ⟨i + 1, f, by omega, by omega, by go_num, HH, o9, hb9⟩
            case measure => simp [intOf]; omega
    · obtain rfl : i = n := by omega
      have i1 : ¬ (i : Int) < (i : Int) := by omega
      go_wp2
      exact ⟨rfl, .tuple #[], by simp [results, Try.results99, go_sem], rfl, f, HI.out, o, hbel⟩

/-- What the sort leaves. -/
def SortedT (l : List Tk) (g n cap base : Nat) (w : World) (e : Ending) (w' : World) : Prop := e = .returned (.tuple #[]) ∧ ∃ f, InsA (tjs l) f n ∧ w'.ownsRow base 68 3 (.slice (some ⟨g, 0, none⟩) n cap) n (qcs (srtT l f)) ∧ Below base w w'
set_option maxRecDepth 100000 in
set_option maxHeartbeats 1600000 in
theorem tstable_any (g n cap base : Nat) (l : List Tk) (w : World) (v5 : l.length ≤ 5) (hn : n = l.length) (o : w.ownsRow base 68 3 (.slice (some ⟨g, 0, none⟩) n cap) n (qcs (srtT l (fun p => p)))) (hbs : base ≤ w.heap.size) :
    Calls Try.prog 96 #[.slice (some ⟨g, 0, none⟩) n cap, .int .i64 n, .func (.func 69) #[] #[]] w (SortedT l g n cap base w) := by
  have hins := tinsert_any g n cap base l w v5 hn o hbs
  have i1 : ¬ (20 : Int) ≤ (n : Int) := by omega
  have i2 : ¬ (20 : Int) < (n : Int) := by omega
  clear hn o
  go_enter Try.func96, Try.ntmps96
  go_wp2
  refine wp_loop_rounds 1 ?_
  rw [rounds_succ]
  go_wp2_with fail
  refine hins.mono ?_
  rintro e w1 ⟨rfl, f, hf, o1, b1⟩
  have HF := Lib.hid hf
  clear hins hf
  go_wp2
  refine wp_loop_rounds 1 ?_
  rw [rounds_succ]
  go_wp2
  exact ⟨rfl, .tuple #[], by simp [results, Try.results96, go_sem], rfl, f, HF.out, o1, b1⟩
set_option maxHeartbeats 800000 in
theorem tsort_any (g n cap base : Nat) (l : List Tk) (w : World) (v5 : l.length ≤ 5) (hn : n = l.length) (o : w.ownsRow base 68 3 (.slice (some ⟨g, 0, none⟩) n cap) n (qcs (srtT l (fun p => p)))) (hbs : base ≤ w.heap.size) :
    Calls Try.prog 85 #[.slice (some ⟨g, 0, none⟩) n cap, .func (.func 69) #[] #[]] w (SortedT l g n cap base w) := by
  have hst := tstable_any g n cap base l w v5 hn o hbs
  clear hn o
  go_enter Try.func85, Try.ntmps85
  go_wp2_with fail
  refine hst.mono ?_
  rintro e w1 ⟨rfl, f, hf, o1, b1⟩
  have HF := Lib.hid hf
  clear hst hf
  go_wp2
  exact ⟨rfl, .tuple #[], by simp [results, Try.results85, go_sem], rfl, f, HF.out, o1, b1⟩
set_option maxRecDepth 100000 in
set_option maxHeartbeats 1600000 in
/-- The sort of a nil slice. -/
theorem tsort_nil (w : World) :
    Calls Try.prog 85 #[.slice none 0 0, .func (.func 69) #[] #[]] w fun e w' => e = .returned (.tuple #[]) ∧ w' = w := by
  have ins : ∀ w : World, Calls Try.prog 99 #[.slice none 0 0, .int .i64 0, .int .i64 0, .func (.func 69) #[] #[]] w fun e w' => e = .returned (.tuple #[]) ∧ w' = w := fun w => by
    go_enter Try.func99, Try.ntmps99
    go_wp2
    refine wp_loop_rounds 1 ?_
    rw [rounds_succ]
    go_wp2
    exact ⟨rfl, .tuple #[], by simp [results, Try.results99, go_sem], rfl, rfl⟩
  have stb : Calls Try.prog 96 #[.slice none 0 0, .int .i64 0, .func (.func 69) #[] #[]] w fun e w' => e = .returned (.tuple #[]) ∧ w' = w := by
    go_enter Try.func96, Try.ntmps96
    go_wp2
    refine wp_loop_rounds 1 ?_
    rw [rounds_succ]
    go_wp2_with fail
    refine (ins _).mono ?_
    rintro e w1 ⟨rfl, rfl⟩
    go_wp2
    refine wp_loop_rounds 1 ?_
    rw [rounds_succ]
    go_wp2
    exact ⟨rfl, .tuple #[], by simp [results, Try.results96, go_sem], rfl, rfl⟩
  clear ins
  go_enter Try.func85, Try.ntmps85
  go_wp2_with fail
  refine stb.mono ?_
  rintro e w1 ⟨rfl, rfl⟩
  go_wp2
  exact ⟨rfl, .tuple #[], by simp [results, Try.results85, go_sem], rfl, rfl⟩

/-- The tasks in the order of their dues: what a call leaves that hands them back. -/
def OrdT (l : List Tk) (w : World) (v : Value) (w' : World) : Prop := ∃ (f : Nat → Nat) (B : Option Addr) (c : Nat), InsA (tjs l) f l.length ∧ v = .slice B l.length c ∧ w'.ownsRow w.heap.size 68 3 (.slice B l.length c) l.length (qcs (srtT l f)) ∧ Below w.heap.size w w'
set_option maxHeartbeats 1600000 in
theorem tsorted_any (Bs cap : Nat) (A : Option Addr) (l : List Tk) (v5 : l.length ≤ 5) (w0 w : World) (hT : Tas w0 A l) (hw : Below w0.heap.size w0 w) (hBs : Bs < w.heap.size) (hc : w.cell? ⟨Bs, 0, none⟩ = some (.slice A l.length cap)) :
    Calls Try.prog 67 #[.func (.func 86) #[] #[.pointer (some ⟨Bs, 0, none⟩)], .func (.func 69) #[] #[]] w fun e w' => ∃ v, e = .returned v ∧ OrdT l w v w' := by
  have hcol := tcollect_any Bs cap A l (by omega) w0 w hT hw hBs hc
  clear hc
  go_enter Try.func67, Try.ntmps67
  go_wp2_with fail
  refine hcol.mono ?_
  rintro e w1 ⟨v, rfl, o1, b1⟩
  clear hcol
  rcases o1.2 with ⟨rfl, h0⟩ | ⟨g, c, cur, rfl, _⟩
  · have hl := List.eq_nil_of_length_eq_zero h0
    have HL := Lib.hid hl
    clear hl
    go_wp2_with fail
    refine (tsort_nil _).mono ?_
    rintro e w2 ⟨rfl, rfl⟩
    go_wp2
    go_ret
    refine ⟨_, rfl, fun p => p, none, 0, ?_, by rw [h0]; rfl, ?_, b1⟩
    · rw [h0]; exact InsA.none _
    · rw [srt_id]; rw [h0] at o1 ⊢; exact o1
  · rw [← srt_id l] at o1
    rw [length_srt] at o1
    go_wp2_with fail
    refine (tsort_any g l.length c w.heap.size l _ v5 rfl o1 b1.size).mono ?_
    rintro e w2 ⟨rfl, f, hf, o2, b2⟩
    have HF := Lib.hid hf
    clear hf o1
    go_wp2
    go_ret
    exact ⟨_, rfl, f, some ⟨g, 0, none⟩, c, HF.out, rfl, o2, b1.trans b2⟩

set_option maxHeartbeats 1600000 in
theorem order_yes (A : Option Addr) (l : List Tk) (c : Nat) (w : World) (h : Tas w A l) (hE : tasE l = 0) :
    Calls Try.prog 41 #[.slice A l.length c] w fun e w' => ∃ v, e = .returned (.tuple #[v, .int .i64 0]) ∧ OrdT l w v w' := by
  have v := tas_iff.1 hE
  have hle := v.le
  have HE := Lib.hid hE
  clear hE
  go_enter Try.func41, Try.ntmps41
  go_wp2_with fail
  refine (rcheck_any A l c w h).mono ?_
  rintro e w1 ⟨rfl, b1⟩
  rw [HE.out]
  go_wp2_with fail
  refine (tvalues_any A l.length c _).mono ?_
  rintro e w2 ⟨rfl, hw2⟩
  have b2 : Below w.heap.size w w2 := by rw [hw2]; exact b1.alloc b1.size _
  have cx : w2.cell? ⟨w1.heap.size, 0, none⟩ = some (.slice A l.length c) := by rw [hw2]; exact (Blk.new w1 _ _).cell 0
  have sx : w1.heap.size < w2.heap.size := by rw [hw2]; simp
  clear hw2 b1
  go_wp2_with fail
  refine (tsorted_any w1.heap.size c A l hle w w2 h b2 sx cx).mono ?_
  rintro e w3 ⟨u, rfl, f, B, k, hf, rfl, o3, b3⟩
  have HF := Lib.hid hf
  clear hf cx
  go_wp2
  go_ret2
  exact ⟨_, rfl, f, B, k, HF.out, rfl, own_lowT o3 b2.size, b2.trans (b3.mono b2.size)⟩
set_option maxHeartbeats 800000 in
theorem order_no (A : Option Addr) (l : List Tk) (c : Nat) (w : World) (h : Tas w A l) (hE : ¬ tasE l = 0) :
    Calls Try.prog 41 #[.slice A l.length c] w fun e w' => e = .returned (.tuple #[.slice none 0 0, .int .i64 (tasE l)]) ∧ Below w.heap.size w w' := by
  have e1 : (tasE l != 0) = true := by simp [hE]
  go_enter Try.func41, Try.ntmps41
  go_wp2_with fail
  refine (rcheck_any A l c w h).mono ?_
  rintro e w1 ⟨rfl, b1⟩
  go_wp2
  go_ret2
  exact ⟨rfl, b1⟩

end Go.Proofs.Ytnpdcllfdoobeaa
