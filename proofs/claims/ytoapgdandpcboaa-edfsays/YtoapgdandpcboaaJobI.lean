
/-
  Walks: the indices put in the order of the deadlines (slices' insertion sort).
-/
import Derived.Test.YtoapgdandpcboaaJobC
import Derived.Test.YtoapgdandpcboaaEdfS
import Derived.StillTailTactics
import Derived.Laws.OwnMore
namespace Go.Proofs.Ytoapgdandpcboaa
set_option linter.all false
open Go.RowKit Go.Shelf Go.Lib

abbrev fByDue : FuncId := 32
set_option maxHeartbeats 800000 in
theorem byDue_any (b a c d : Nat) (A : Option Addr) (l : List Jb) (w : World) (h : Jbs w A l) (j : JobsB l) (hb : w.cell? ⟨b, 0, none⟩ = some (.slice A l.length d)) (ha : a < l.length) (hc : c < l.length) :
    Calls Try.prog 32 #[.int .i64 a, .int .i64 c, .pointer (some ⟨b, 0, none⟩)] w fun e w' => e = .returned (.int .i64 ((jb l a).due - (jb l c).due)) ∧ ∃ n, w' = w.drewN n := by
  obtain ⟨bb, off, q, rfl, hbl, p0, p1, p2, HJ⟩ := h.get ha
  obtain ⟨bb2, off2, r, hA, hbl2, d0, d1, d2, HK⟩ := h.get hc
  obtain ⟨rfl, rfl⟩ : bb2 = bb ∧ off2 = off := by injection hA with hA; injection hA with e1 e2; exact ⟨e1.symm, e2.symm⟩
  have hle := j.le
  have q1 := j.a0 a ha
  have q2 := j.ad a ha
  have q3 := j.d1 a ha
  have r1 := j.a0 c hc
  have r2 := j.ad c hc
  have r3 := j.d1 c hc
  rw [jb_of HJ.out] at q1 q2 q3 ⊢
  rw [jb_of HK.out] at r1 r2 r3 ⊢
  have i1 : (a : Int) < (l.length : Int) := by omega
  have i2 : (c : Int) < (l.length : Int) := by omega
  have m1 : IntKind.i64.wrap (q.due - r.due) = q.due - r.due := IntWalk.i64_in _ ⟨by omega, by omega⟩
  clear hA p0 p1 d0 d1
  go_enter Try.func32, Try.ntmps32
  go_wp2
  go_quiet (fail)
  go_wp2
  go_ret
  exact ⟨rfl, nq, rfl⟩

def fvs (n : Nat) (f : Nat → Nat) : List Value := (List.range n).map (fun p => Value.int .i64 ((f p : Nat) : Int))
theorem length_fvs (n : Nat) (f : Nat → Nat) : (fvs n f).length = n := by simp [fvs]
theorem fvs_get {n p : Nat} (f : Nat → Nat) (h : p < n) : (fvs n f)[p]? = some (.int .i64 ((f p : Nat) : Int)) := by simp [fvs, h]
theorem fvs_swap {n j : Nat} (f : Nat → Nat) (h : j + 1 < n) : ((fvs n f).set (j + 1) (.int .i64 ((f j : Nat) : Int))).set j (.int .i64 ((f (j + 1) : Nat) : Int)) = fvs n (swF f j) := by
  apply List.ext_getElem?
  intro p
  by_cases c : p < n
  · rw [fvs_get _ c]
    by_cases c1 : p = j
    · subst c1; rw [List.getElem?_set_self (by rw [List.length_set, length_fvs]; exact c), swF_lo]
    · rw [List.getElem?_set_ne (fun e => c1 e.symm)]
      by_cases c2 : p = j + 1
      · subst c2; rw [List.getElem?_set_self (by rw [length_fvs]; exact c), swF_hi]
      · rw [List.getElem?_set_ne (fun e => c2 e.symm), fvs_get _ c, swF_ne f c1 c2]
  · rw [List.getElem?_eq_none (by rw [List.length_set, List.length_set, length_fvs]; omega), List.getElem?_eq_none (by rw [length_fvs]; omega)]

set_option maxRecDepth 100000 in
set_option maxHeartbeats 3200000 in
theorem insert_any (b d g n cap base : Nat) (A : Option Addr) (l : List Jb) (w0 w : World) (h : Jbs w0 A l) (j : JobsB l) (hb0 : Below w0.heap.size w0 w) (hB : w0.heap.size ≤ base) (hbb : b < base) (hbd : w.cell? ⟨b, 0, none⟩ = some (.slice A l.length d)) (hn : n = l.length)
    (o : w.ownsRow base 3 1 (.slice (some ⟨g, 0, none⟩) n cap) n (fvs n (fun p => p))) :
    Calls Try.prog 40 #[.slice (some ⟨g, 0, none⟩) n cap, .int .i64 0, .int .i64 n, .func (.func fByDue) #[] #[.pointer (some ⟨b, 0, none⟩)]] w fun e w' => e = .returned (.tuple #[]) ∧ ∃ f, InsA l f n ∧ w'.ownsRow base 3 1 (.slice (some ⟨g, 0, none⟩) n cap) n (fvs n f) ∧ Below base w w' := by
  have hent := enters_of Try.func32 (by kernel_rfl) rfl
  have hle := j.le
  have n12 : n ≤ 12 := by omega
  have HN := Lib.hid hn
  have gb := (o.lt g rfl).1
  clear hn
  by_cases hn0 : n = 0
  · subst hn0
    go_enter Try.func40, Try.ntmps40
    go_wp2
    refine wp_loop_rounds 1 ?_
    rw [rounds_succ]
    go_wp2
    exact ⟨rfl, .tuple #[], by simp [results, Try.results40, go_sem], rfl, fun p => p, InsA.none l, o, Below.refl _ _⟩
  go_enter Try.func40, Try.ntmps40
  go_wp2
  go_loopw [8] (fun s wr => ∃ (i : Nat) (f : Nat → Nat), 1 ≤ i ∧ i ≤ n ∧ s = .int .i64 i ∧ Hid (InsA l f i) ∧ wr.ownsRow base 3 1 (.slice (some ⟨g, 0, none⟩) n cap) n (fvs n f) ∧ Below base w wr) (fun s _ => n - (intOf s).toNat)
  case atStart => exact ⟨1, fun p => p, Nat.le_refl _, by omega, rfl, Lib.hid (InsA.zero l), o, Below.refl _ _⟩
  case round =>
    clear o
    obtain ⟨i, f, hi0, hi, rfl, HI, o, hbel⟩ := hrel
    by_cases hlt : i < n
    · have i1 : (i : Int) < (n : Int) := by omega
      go_wp2
      go_loopw [9] (fun s wr => ∃ (k : Nat) (f : Nat → Nat), s = .int .i64 k ∧ Hid (InsB l f i k) ∧ wr.ownsRow base 3 1 (.slice (some ⟨g, 0, none⟩) n cap) n (fvs n f) ∧ Below base w wr) (fun s _ => (intOf s).toNat)
      case atStart => exact ⟨i, f, rfl, Lib.hid HI.out.start, o, hbel⟩
      case round =>
        clear o hbel HI
        obtain ⟨k, f, rfl, HB, o, hbel⟩ := hrel
        have kle := HB.out.le
        by_cases hk0 : k = 0
        · subst hk0
          have HS := HB.out.stop (.inl rfl)
          have HH := Lib.hid HS
          clear HS
          go_wp2
          go_quiet (fail)
          go_wp2
          go_roundw
          case rel => exact ⟨i + 1, f, by omega, by omega, by go_num, HH, o, ⟨hbel.os, hbel.tape, hbel.output, hbel.size, hbel.block⟩⟩
          case measure => simp [intOf]; omega
        · obtain ⟨m, hm⟩ : ∃ m, m = k - 1 := ⟨_, rfl⟩
          have ek : k = m + 1 := by omega
          have EK := Lib.hid ek
          have c1 : wr.cell? ⟨g, k, none⟩ = some (.int .i64 ((i : Nat) : Int)) := by rw [o.cellAt _ (by omega), fvs_get _ (by omega), HB.out.at_]
          obtain ⟨u, hu⟩ : ∃ u, u = f m := ⟨_, rfl⟩
          have c2 : wr.cell? ⟨g, m, none⟩ = some (.int .i64 ((u : Nat) : Int)) := by rw [o.cellAt _ (by omega), fvs_get _ (by omega), hu]
          have ul : u < i := by rw [hu]; exact HB.out.lt m (by omega) (by omega)
          have jW : Jbs wr A l := h.below (hb0.trans (hbel.mono hB))
          have cb : wr.cell? ⟨b, 0, none⟩ = some (.slice A l.length d) := (hbel.cell (p := ⟨b, 0, none⟩) hbb).trans hbd
          obtain ⟨v, hv⟩ : ∃ v, v = (jb l i).due - (jb l u).due := ⟨_, rfl⟩
          have nl := HN.out
          have hcmp : Hid (∀ n, Calls Try.prog 32 #[.int .i64 i, .int .i64 u, .pointer (some ⟨b, 0, none⟩)] (wr.drewN n) fun e w' => e = .returned (.int .i64 v) ∧ ∃ m, w' = (wr.drewN n).drewN m) := Lib.hid (fun n => by
            rw [hv]
            exact byDue_any b i u d A l (wr.drewN n) (jW.drewN n) j cb (by omega) (by omega))
          have i2 : (k : Int) < (n : Int) := by omega
          have i3 : (m : Int) < (n : Int) := by omega
          have i4 : (0 : Int) < (k : Int) := by omega
          have i4n : 0 < k := by omega
          have i4d : decide (0 < k) = true := decide_eq_true i4n
          have m1 : IntKind.i64.wrap ((k : Int) - 1) = (m : Int) := by rw [IntWalk.i64_in _ ⟨by omega, by omega⟩]; omega
          have HM : Hid ((k : Int) - 1 = (m : Int)) := Lib.hid (by omega)
          have HMK : Hid (m < k) := Lib.hid (by omega)
          have HU := Lib.hid hu
          have HV := Lib.hid hv
          by_cases hd : (jb l i).due < (jb l u).due
          · have v0 : v < 0 := by omega
            have e1 : decide (v < 0) = true := decide_eq_true v0
            have HD : Hid (InsB l (swF f m) i m) := Lib.hid (by
              have x := HB.out
              rw [EK.out] at x
              exact x.down (by rw [← HU.out]; exact hd))
            have s1 := (o.stored k (.int .i64 ((u : Nat) : Int))).1
            have s2 := (s1.stored m (.int .i64 ((i : Nat) : Int))).1
            have s3 : ((wr.setCell ⟨g, k, none⟩ (.int .i64 ((u : Nat) : Int))).setCell ⟨g, m, none⟩ (.int .i64 ((i : Nat) : Int))).ownsRow base 3 1 (.slice (some ⟨g, 0, none⟩) n cap) n (fvs n (swF f m)) := by
              have e := fvs_swap (n := n) (j := m) f (by omega)
              rw [← HU.out, ← EK.out, HB.out.at_] at e
              rw [e] at s2
              exact s2
            have bs : Below base w ((wr.setCell ⟨g, k, none⟩ (.int .i64 ((u : Nat) : Int))).setCell ⟨g, m, none⟩ (.int .i64 ((i : Nat) : Int))) := (hbel.setCell (p := ⟨g, k, none⟩) gb _).setCell (p := ⟨g, m, none⟩) gb _
            have f1 := o.frozenAt k
            have f2 := o.frozenAt m
            have hkm : ¬ k = m := by omega
            have hmk : ¬ m = k := by omega
            clear s1 s2 hu hv hm ek hd HB nl
            go_wp2
            go_quiet ((go_at_call 32; exact Calls.quiet_of (hcmp.out _)))
            obtain ⟨W, hW⟩ : ∃ W, W = wr.drewN nq := ⟨_, rfl⟩
            have d1 : W.cell? ⟨g, k, none⟩ = some (.int .i64 ((i : Nat) : Int)) := by rw [hW]; exact c1
            have d2 : W.cell? ⟨g, m, none⟩ = some (.int .i64 ((u : Nat) : Int)) := by rw [hW]; exact c2
            have g1 : W.frozen? ⟨g, k, none⟩ = false := by rw [hW]; exact f1
            have g2 : W.frozen? ⟨g, m, none⟩ = false := by rw [hW]; exact f2
            have t3 : ((W.setCell ⟨g, k, none⟩ (.int .i64 ((u : Nat) : Int))).setCell ⟨g, m, none⟩ (.int .i64 ((i : Nat) : Int))).drew.ownsRow base 3 1 (.slice (some ⟨g, 0, none⟩) n cap) n (fvs n (swF f m)) := by rw [hW]; exact s3
            have bt : Below base w ((W.setCell ⟨g, k, none⟩ (.int .i64 ((u : Nat) : Int))).setCell ⟨g, m, none⟩ (.int .i64 ((i : Nat) : Int))).drew := by rw [hW]; exact ⟨bs.os, bs.tape, bs.output, bs.size, bs.block⟩
            have T3 := Lib.hid t3
            have BT := Lib.hid bt
            rw [← hW]
            clear hW c1 c2 f1 f2 s3 bs t3 bt o hbel jW cb
            go_wp2
            go_region
            all_goals
              go_wp2
              go_roundw
              case rel => exact ⟨m, swF f m, rfl, HD, T3.out, BT.out⟩
              case measure => have := HMK.out; have := HM.out; simp [intOf]; omega
          · have v0 : ¬ v < 0 := by omega
            have e1 : decide (v < 0) = false := decide_eq_false v0
            have HH : Hid (InsA l f (i + 1)) := Lib.hid (HB.out.stop (.inr (by rw [← hm, ← hu]; exact hd)))
            clear hu hv hm ek hd HB nl
            go_wp2
            go_quiet ((go_at_call 32; exact Calls.quiet_of (hcmp.out _)))
            go_wp2
            go_roundw
            case rel => exact ⟨i + 1, f, by omega, by omega, by go_num, HH, o, ⟨hbel.os, hbel.tape, hbel.output, hbel.size, hbel.block⟩⟩
            case measure => simp [intOf]; omega
    · obtain rfl : i = n := by omega
      have i1 : ¬ (i : Int) < (i : Int) := by omega
      go_wp2
      exact ⟨rfl, .tuple #[], by simp [results, Try.results40, go_sem], rfl, f, HI.out, o, hbel⟩

/-- What the sort leaves. -/
def Sorted_ (l : List Jb) (g n cap base : Nat) (w : World) (e : Ending) (w' : World) : Prop := e = .returned (.tuple #[]) ∧ ∃ f, InsA l f n ∧ w'.ownsRow base 3 1 (.slice (some ⟨g, 0, none⟩) n cap) n (fvs n f) ∧ Below base w w'
set_option maxRecDepth 100000 in
set_option maxHeartbeats 1600000 in
theorem stable_any (b d g n cap base : Nat) (A : Option Addr) (l : List Jb) (w0 w : World) (h : Jbs w0 A l) (j : JobsB l) (hb0 : Below w0.heap.size w0 w) (hB : w0.heap.size ≤ base) (hbb : b < base) (hbd : w.cell? ⟨b, 0, none⟩ = some (.slice A l.length d)) (hn : n = l.length)
    (o : w.ownsRow base 3 1 (.slice (some ⟨g, 0, none⟩) n cap) n (fvs n (fun p => p))) :
    Calls Try.prog 37 #[.slice (some ⟨g, 0, none⟩) n cap, .int .i64 n, .func (.func fByDue) #[] #[.pointer (some ⟨b, 0, none⟩)]] w (Sorted_ l g n cap base w) := by
  have hle := j.le
  have hins := insert_any b d g n cap base A l w0 w h j hb0 hB hbb hbd hn o
  have i1 : ¬ (20 : Int) ≤ (n : Int) := by omega
  have i2 : ¬ (20 : Int) < (n : Int) := by omega
  clear hn o hbd
  go_enter Try.func37, Try.ntmps37
  go_wp2
  refine wp_loop_rounds 1 ?_
  rw [rounds_succ]
  go_wp2_with fail
  refine hins.mono ?_
  rintro e w1 ⟨rfl, f, hf, o1, b1⟩
  have HF := Lib.hid hf
  clear hins hf
  go_wp2
  refine wp_loop_rounds 1 ?_
  rw [rounds_succ]
  go_wp2
  exact ⟨rfl, .tuple #[], by simp [results, Try.results37, go_sem], rfl, f, HF.out, o1, b1⟩
set_option maxHeartbeats 800000 in
theorem sortStable_any (b d g n cap base : Nat) (A : Option Addr) (l : List Jb) (w0 w : World) (h : Jbs w0 A l) (j : JobsB l) (hb0 : Below w0.heap.size w0 w) (hB : w0.heap.size ≤ base) (hbb : b < base) (hbd : w.cell? ⟨b, 0, none⟩ = some (.slice A l.length d)) (hn : n = l.length)
    (o : w.ownsRow base 3 1 (.slice (some ⟨g, 0, none⟩) n cap) n (fvs n (fun p => p))) :
    Calls Try.prog 31 #[.slice (some ⟨g, 0, none⟩) n cap, .func (.func fByDue) #[] #[.pointer (some ⟨b, 0, none⟩)]] w (Sorted_ l g n cap base w) := by
  have hst := stable_any b d g n cap base A l w0 w h j hb0 hB hbb hbd hn o
  clear hn o hbd
  go_enter Try.func31, Try.ntmps31
  go_wp2_with fail
  refine hst.mono ?_
  rintro e w1 ⟨rfl, f, hf, o1, b1⟩
  have HF := Lib.hid hf
  clear hst hf
  go_wp2
  exact ⟨rfl, .tuple #[], by simp [results, Try.results31, go_sem], rfl, f, HF.out, o1, b1⟩

end Go.Proofs.Ytoapgdandpcboaa
