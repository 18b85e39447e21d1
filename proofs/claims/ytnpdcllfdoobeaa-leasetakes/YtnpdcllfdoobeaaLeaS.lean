
/-
  Walks: leases put in the order of their holders (slices.SortFunc, short lists: its insertion sort).
-/
import Derived.Test.YtnpdcllfdoobeaaLeaD
import Derived.Test.YtnpdcllfdoobeaaEdfS
namespace Go.Proofs.Ytnpdcllfdoobeaa
set_option linter.all false
open Go.RowKit Go.Shelf Go.Lib

def lzd (l : List Lz) (i : Nat) : Lz := l.getD i ⟨0, 0, 0⟩
def lj (x : Lz) : Jb := ⟨0, 0, x.who⟩
def ljs (l : List Lz) : List Jb := l.map lj
theorem jb_lj {l : List Lz} {i : Nat} (hi : i < l.length) : jb (ljs l) i = lj (lzd l i) := by simp [jb, ljs, lzd, List.getD, hi]
def srtZ (l : List Lz) (f : Nat → Nat) : List Lz := (List.range l.length).map (fun p => lzd l (f p))
theorem length_srtZ (l : List Lz) (f : Nat → Nat) : (srtZ l f).length = l.length := by simp [srtZ]
theorem srtZ_get {l : List Lz} {f : Nat → Nat} {p : Nat} (h : p < l.length) : (srtZ l f)[p]? = some (lzd l (f p)) := by simp [srtZ, h]
theorem srtZ_swap {l : List Lz} (f : Nat → Nat) {j : Nat} (h : j + 1 < l.length) : ((srtZ l f).set (j + 1) (lzd l (f j))).set j (lzd l (f (j + 1))) = srtZ l (swF f j) := by
  apply List.ext_getElem?
  intro p
  by_cases c : p < l.length
  · rw [srtZ_get c]
    by_cases c1 : p = j
    · subst c1; rw [List.getElem?_set_self (by rw [List.length_set, length_srtZ]; exact c), swF_lo]
    · rw [List.getElem?_set_ne (fun e => c1 e.symm)]
      by_cases c2 : p = j + 1
      · subst c2; rw [List.getElem?_set_self (by rw [length_srtZ]; exact c), swF_hi]
      · rw [List.getElem?_set_ne (fun e => c2 e.symm), srtZ_get c, swF_ne f c1 c2]
  · rw [List.getElem?_eq_none (by rw [List.length_set, List.length_set, length_srtZ]; omega), List.getElem?_eq_none (by rw [length_srtZ]; omega)]
theorem srtZ_id (l : List Lz) : srtZ l (fun p => p) = l := by
  apply List.ext_getElem?
  intro p
  by_cases c : p < l.length
  · rw [srtZ_get c]; simp [lzd, List.getD, c]
  · rw [List.getElem?_eq_none (by rw [length_srtZ]; omega), List.getElem?_eq_none (by omega)]
theorem own_drewZ {w : World} {base n size : Nat} {e : TypeId} {v : Value} {xs : List Value} (h : w.ownsRow base e size v n xs) : w.drew.ownsRow base e size v n xs := h
abbrev fWho : FuncId := 26
set_option maxHeartbeats 800000 in
theorem byWho_any (a b : Lz) (v : Int) (w : World) (ha : 0 ≤ a.who ∧ a.who ≤ 7) (hb : 0 ≤ b.who ∧ b.who ≤ 7) (hv : Hid (a.who - b.who = v)) : Calls Try.prog 26 #[.agg #[.int .i64 a.who, .int .i64 a.till, .int .i64 a.pin], .agg #[.int .i64 b.who, .int .i64 b.till, .int .i64 b.pin]] w fun e w' => e = .returned (.int .i64 v) ∧ Below w.heap.size w w' := by
  obtain ⟨a1, a2, a3⟩ := a
  obtain ⟨b1, b2, b3⟩ := b
  simp only at hv ha hb ⊢
  obtain ⟨p1, p2⟩ := ha
  obtain ⟨q1, q2⟩ := hb
  go_enter Try.func26, Try.ntmps26
  go_wp2
  go_ret
  exact ⟨ret_int hv.out, ((Below.refl _ w).alloc (Nat.le_refl _) _).alloc (by simp) _⟩

set_option maxRecDepth 100000 in
set_option maxHeartbeats 3200000 in
theorem linsert_any (g n cap base : Nat) (l : List Lz) (w : World) (v5 : l.length ≤ 9) (hg : Hid (∀ i, i < l.length → 0 ≤ (lzd l i).who ∧ (lzd l i).who ≤ 7)) (hn : n = l.length) (o : w.ownsRow base 35 3 (.slice (some ⟨g, 0, none⟩) n cap) n (lcs (srtZ l (fun p => p)))) (hbs : base ≤ w.heap.size) :
    Calls Try.prog 74 #[.slice (some ⟨g, 0, none⟩) n cap, .int .i64 0, .int .i64 n, .func (.func 26) #[] #[]] w fun e w' => e = .returned (.tuple #[]) ∧ ∃ f, InsA (ljs l) f n ∧ w'.ownsRow base 35 3 (.slice (some ⟨g, 0, none⟩) n cap) n (lcs (srtZ l f)) ∧ Below base w w' := by
  have hent := enters_of Try.func26 (by kernel_rfl) rfl
  have HN := Lib.hid hn
  have n5 : n ≤ 9 := by omega
  have gb := (o.lt g rfl).1
  have HL : Hid (∀ i, i < n → jb (ljs l) i = lj (lzd l i)) := Lib.hid (fun i hi => jb_lj (by omega))
  clear hn v5
  by_cases hn0 : n = 0
  · subst hn0
    go_enter Try.func74, Try.ntmps74
    go_wp2
    refine wp_loop_rounds 1 ?_
    rw [rounds_succ]
    go_wp2
    exact ⟨rfl, .tuple #[], by simp [results, Try.results74, go_sem], rfl, fun p => p, InsA.none _, o, Below.refl _ _⟩
  go_enter Try.func74, Try.ntmps74
  go_wp2
  go_loopw [8] (fun s wr => ∃ (i : Nat) (f : Nat → Nat), 1 ≤ i ∧ i ≤ n ∧ s = .int .i64 i ∧ Hid (InsA (ljs l) f i) ∧ wr.ownsRow base 35 3 (.slice (some ⟨g, 0, none⟩) n cap) n (lcs (srtZ l f)) ∧ Below base w wr) (fun s _ => n - (intOf s).toNat)
  case atStart => exact ⟨1, fun p => p, Nat.le_refl _, by omega, rfl, Lib.hid (InsA.zero _), o, Below.refl _ _⟩
  case round =>
    clear o
    obtain ⟨i, f, hi0, hi, rfl, HI, o, hbel⟩ := hrel
    by_cases hlt : i < n
    · have i1 : (i : Int) < (n : Int) := by omega
      go_wp2
      go_loopw [9] (fun s wr => ∃ (k : Nat) (f : Nat → Nat), s = .int .i64 k ∧ Hid (InsB (ljs l) f i k) ∧ wr.ownsRow base 35 3 (.slice (some ⟨g, 0, none⟩) n cap) n (lcs (srtZ l f)) ∧ Below base w wr) (fun s _ => (intOf s).toNat)
      case atStart => exact ⟨i, f, rfl, Lib.hid HI.out.start, o, hbel⟩
      case round =>
        clear o hbel HI
        obtain ⟨k, f, rfl, HB, o, hbel⟩ := hrel
        have kle := HB.out.le
        by_cases hk0 : k = 0
        · subst hk0
          have HS := HB.out.stop (.inl rfl)
          have HH := Lib.hid HS
          clear HS
          go_wp2
          go_quiet (fail)
          go_wp2
          go_roundw
          case rel => exact ⟨i + 1, f, by omega, by omega, by go_num, HH, o, ⟨hbel.os, hbel.tape, hbel.output, hbel.size, hbel.block⟩⟩
          case measure => simp [intOf]; omega
        · obtain ⟨m, hm⟩ : ∃ m, m = k - 1 := ⟨_, rfl⟩
          have ek : k = m + 1 := by omega
          have EK := Lib.hid ek
          have nl := HN.out
          have gk := srtZ_get (l := l) (f := f) (p := k) (by omega)
          have gm := srtZ_get (l := l) (f := f) (p := m) (by omega)
          obtain ⟨a, ha⟩ : ∃ a, a = lzd l (f k) := ⟨_, rfl⟩
          obtain ⟨b, hb⟩ : ∃ b, b = lzd l (f m) := ⟨_, rfl⟩
          rw [← ha] at gk
          rw [← hb] at gm
          obtain ⟨a0, a1, a2⟩ := lcs_get gk
          obtain ⟨b0, b1, b2⟩ := lcs_get gm
          have lq : (lcs (srtZ l f)).length = n * 3 := by rw [length_lcs, length_srtZ, nl]
          have c10 := (o.cellAt (k * 3) (by omega)).trans a0
          have c11 := (o.cellAt (k * 3 + 1) (by omega)).trans a1
          have c12 := (o.cellAt (k * 3 + 2) (by omega)).trans a2
          have c20 := (o.cellAt (m * 3) (by omega)).trans b0
          have c21 := (o.cellAt (m * 3 + 1) (by omega)).trans b1
          have c22 := (o.cellAt (m * 3 + 2) (by omega)).trans b2
          obtain ⟨v, hv⟩ : ∃ v, a.who - b.who = v := ⟨_, rfl⟩
          have HV := Lib.hid hv
          have HA : Hid (a = lzd l i) := Lib.hid (by rw [ha, HB.out.at_])
          have HBB : Hid (b = lzd l (f m)) := Lib.hid hb
          have i2 : (k : Int) < (n : Int) := by omega
          have i3 : (m : Int) < (n : Int) := by omega
          have i4 : (0 : Int) < (k : Int) := by omega
          have i4n : 0 < k := by omega
          have i4d : decide (0 < k) = true := decide_eq_true i4n
          have m1 : IntKind.i64.wrap ((k : Int) - 1) = (m : Int) := by rw [IntWalk.i64_in _ ⟨by omega, by omega⟩]; omega
          have HM : Hid ((k : Int) - 1 = (m : Int)) := Lib.hid (by omega)
          have HMK : Hid (m < k) := Lib.hid (by omega)
          have fm : f m < i := HB.out.lt m (by omega) (by omega)
          have WA : Hid (0 ≤ a.who ∧ a.who ≤ 7) := Lib.hid (by rw [HA.out]; exact hg.out i (by omega))
          have WB : Hid (0 ≤ b.who ∧ b.who ≤ 7) := Lib.hid (by rw [HBB.out]; exact hg.out (f m) (by omega))
          have jm := HL.out (f m) (by omega)
          have ji := HL.out i (by omega)
          have HJ : Hid ((jb (ljs l) i).due < (jb (ljs l) (f m)).due ↔ v < 0) := Lib.hid (by rw [jm, ji, ← hv, HA.out, HBB.out]; show (lzd l i).who < (lzd l (f m)).who ↔ _; omega)
          clear ha hb hv hm ek nl gk gm a0 a1 a2 b0 b1 b2 jm ji fm
          go_wp2
          by_cases v0 : v < 0
          · have e1 : decide (v < 0) = true := decide_eq_true v0
            have HD : Hid (InsB (ljs l) (swF f m) i m) := Lib.hid (by
              have x := HB.out
              rw [EK.out] at x
              exact x.down (HJ.out.mpr v0))
            have HQ : Hid ((lcs (((srtZ l f).set k b).set m a)) = lcs (srtZ l (swF f m))) := Lib.hid (by
              have e := srtZ_swap (l := l) f (j := m) (by have := HN.out; have := EK.out; omega)
              rw [← e, ← EK.out, ← HBB.out, HB.out.at_, ← HA.out])
            clear HB HJ
            go_region_held3 (fun w' => w'.cell? ⟨g, k * 3, none⟩ = some (.int .i64 a.who) ∧ w'.cell? ⟨g, k * 3 + 1, none⟩ = some (.int .i64 a.till) ∧ w'.cell? ⟨g, k * 3 + 2, none⟩ = some (.int .i64 a.pin) ∧ w'.cell? ⟨g, m * 3, none⟩ = some (.int .i64 b.who) ∧ w'.cell? ⟨g, m * 3 + 1, none⟩ = some (.int .i64 b.till) ∧ w'.cell? ⟨g, m * 3 + 2, none⟩ = some (.int .i64 b.pin))
              (first | go_keep | (go_split_ands; refine ⟨?_, ?_, ?_, ?_, ?_, ?_⟩ <;> exact (b9.cell (cell_lt (by assumption))).trans (by assumption)))
              (first
                | ((with_reducible refine (byWho_any a b v _ WA.out WB.out HV).mono ?_); rintro e w9 ⟨rfl, b9⟩))
            have bW : Below wr.heap.size wr w9 := below_trans (below_of_drewN (n := 1) rfl) b9
            have gl := (o.lt g rfl).2
            have o9 := own_belL o bW
            have hb9 : Below base w w9 := hbel.trans (bW.mono (Nat.le_trans hbs hbel.size))
            have d10 := (bW.cell (p := ⟨g, k * 3, none⟩) gl).trans c10
            have d11 := (bW.cell (p := ⟨g, k * 3 + 1, none⟩) gl).trans c11
            have d12 := (bW.cell (p := ⟨g, k * 3 + 2, none⟩) gl).trans c12
            have d20 := (bW.cell (p := ⟨g, m * 3, none⟩) gl).trans c20
            have d21 := (bW.cell (p := ⟨g, m * 3 + 1, none⟩) gl).trans c21
            have d22 := (bW.cell (p := ⟨g, m * 3 + 2, none⟩) gl).trans c22
            have f10 := o9.frozenAt (k * 3)
            have f11 := o9.frozenAt (k * 3 + 1)
            have f12 := o9.frozenAt (k * 3 + 2)
            have f20 := o9.frozenAt (m * 3)
            have f21 := o9.frozenAt (m * 3 + 1)
            have f22 := o9.frozenAt (m * 3 + 2)
            have s1 := (o9.stored (k * 3) (.int .i64 b.who)).1
            have s2 := (s1.stored (k * 3 + 1) (.int .i64 b.till)).1
            have s3 := (s2.stored (k * 3 + 2) (.int .i64 b.pin)).1
            rw [lcs_three (l := srtZ l f) (k := k) b (by rw [length_srtZ]; have := HN.out; omega)] at s3
            have s4 := (s3.stored (m * 3) (.int .i64 a.who)).1
            have s5 := (s4.stored (m * 3 + 1) (.int .i64 a.till)).1
            have s6 := (s5.stored (m * 3 + 2) (.int .i64 a.pin)).1
            rw [lcs_three (l := (srtZ l f).set k b) (k := m) a (by rw [List.length_set, length_srtZ]; have := HN.out; omega), HQ.out] at s6
            have bs := (((((hb9.setCell (p := ⟨g, k * 3, none⟩) gb (.int .i64 b.who)).setCell (p := ⟨g, k * 3 + 1, none⟩) gb (.int .i64 b.till)).setCell (p := ⟨g, k * 3 + 2, none⟩) gb (.int .i64 b.pin)).setCell (p := ⟨g, m * 3, none⟩) gb (.int .i64 a.who)).setCell (p := ⟨g, m * 3 + 1, none⟩) gb (.int .i64 a.till)).setCell (p := ⟨g, m * 3 + 2, none⟩) gb (.int .i64 a.pin)
            have S6 := Lib.hid (own_drewZ s6)
            have BS := Lib.hid bs.drew
            have nkm : ¬ k = m := by have := HMK.out; omega
            have nmk : ¬ m = k := by have := HMK.out; omega
            clear s1 s2 s3 s4 s5 s6 bs o9 o hb9 hbel bW c10 c11 c12 c20 c21 c22 b9
            go_wp2
            go_region
            all_goals
              go_wp2
              go_roundw
              case rel =>
                exact ⟨m, swF f m, rfl, HD, S6.out, BS.out⟩
              case measure => have := HMK.out; have := HM.out; simp [intOf]; omega
          · have e1 : decide (v < 0) = false := decide_eq_false v0
            have HH : Hid (InsA (ljs l) f (i + 1)) := Lib.hid (HB.out.stop (.inr (by rw [show k - 1 = m by have := EK.out; omega]; exact fun c => v0 (HJ.out.mp c))))
            clear HB HJ
            go_region_held3 (fun w' => w'.cell? ⟨g, k * 3, none⟩ = some (.int .i64 a.who) ∧ w'.cell? ⟨g, k * 3 + 1, none⟩ = some (.int .i64 a.till) ∧ w'.cell? ⟨g, k * 3 + 2, none⟩ = some (.int .i64 a.pin) ∧ w'.cell? ⟨g, m * 3, none⟩ = some (.int .i64 b.who) ∧ w'.cell? ⟨g, m * 3 + 1, none⟩ = some (.int .i64 b.till) ∧ w'.cell? ⟨g, m * 3 + 2, none⟩ = some (.int .i64 b.pin))
              (first | go_keep | (go_split_ands; refine ⟨?_, ?_, ?_, ?_, ?_, ?_⟩ <;> exact (b9.cell (cell_lt (by assumption))).trans (by assumption)))
              (first
                | ((with_reducible refine (byWho_any a b v _ WA.out WB.out HV).mono ?_); rintro e w9 ⟨rfl, b9⟩))
            have bW : Below wr.heap.size wr w9 := below_trans (below_of_drewN (n := 1) rfl) b9
            have o9 := own_belL o bW
            have hb9 : Below base w w9 := hbel.trans (bW.mono (Nat.le_trans hbs hbel.size))
            clear c10 c11 c12 c20 c21 c22 b9 bW o hbel
            go_wp2
            go_roundw
            case rel => exact ⟨i + 1, f, by omega, by omega, by go_num, HH, o9, hb9⟩
            case measure => simp [intOf]; omega
    · obtain rfl : i = n := by omega
      have i1 : ¬ (i : Int) < (i : Int) := by omega
      go_wp2
      exact ⟨rfl, .tuple #[], by simp [results, Try.results74, go_sem], rfl, f, HI.out, o, hbel⟩


/-- What the sort leaves. -/
def SortedZ (l : List Lz) (g n cap base : Nat) (w : World) (e : Ending) (w' : World) : Prop := e = .returned (.tuple #[]) ∧ ∃ f, InsA (ljs l) f n ∧ w'.ownsRow base 35 3 (.slice (some ⟨g, 0, none⟩) n cap) n (lcs (srtZ l f)) ∧ Below base w w'
set_option maxRecDepth 100000 in
set_option maxHeartbeats 1600000 in
theorem lpdq_any (g n cap base : Nat) (lim : Int) (l : List Lz) (w : World) (v5 : l.length ≤ 9) (hg : Hid (∀ i, i < l.length → 0 ≤ (lzd l i).who ∧ (lzd l i).who ≤ 7)) (hn : n = l.length) (o : w.ownsRow base 35 3 (.slice (some ⟨g, 0, none⟩) n cap) n (lcs (srtZ l (fun p => p)))) (hbs : base ≤ w.heap.size) :
    Calls Try.prog 59 #[.slice (some ⟨g, 0, none⟩) n cap, .int .i64 0, .int .i64 n, .int .i64 lim, .func (.func 26) #[] #[]] w (SortedZ l g n cap base w) := by
  have hins := linsert_any g n cap base l w v5 hg hn o hbs
  have i1 : (n : Int) ≤ 12 := by omega
  clear hn o
  go_enter Try.func59, Try.ntmps59
  go_wp2
  refine wp_loop_rounds 1 ?_
  rw [rounds_succ]
  go_wp2_with fail
  refine hins.mono ?_
  rintro e w1 ⟨rfl, f, hf, o1, b1⟩
  have HF := Lib.hid hf
  clear hins hf
  go_wp2
  exact ⟨rfl, .tuple #[], by simp [results, Try.results59, go_sem], rfl, f, HF.out, o1, b1⟩
/-- Some number. -/
def SomeI (e : Ending) : Prop := ∃ v : Int, e = .returned (.int .i64 v)
set_option maxRecDepth 100000 in
set_option maxHeartbeats 3200000 in
theorem blen_any (n : Nat) (w : World) (h : n ≤ 9) : Calls Try.prog 60 #[.int .u64 n] w fun e w' => SomeI e ∧ w' = w := by
  rcases (show n = 0 ∨ n = 1 ∨ n = 2 ∨ n = 3 ∨ n = 4 ∨ n = 5 ∨ n = 6 ∨ n = 7 ∨ n = 8 ∨ n = 9 by omega) with rfl | rfl | rfl | rfl | rfl | rfl | rfl | rfl | rfl | rfl
  all_goals
    go_enter Try.func60, Try.ntmps60
    go_wp2
    go_ret
    exact ⟨⟨_, rfl⟩, rfl⟩
set_option maxHeartbeats 800000 in
theorem lsort_any (g n cap base : Nat) (l : List Lz) (w : World) (v5 : l.length ≤ 9) (hg : Hid (∀ i, i < l.length → 0 ≤ (lzd l i).who ∧ (lzd l i).who ≤ 7)) (hn : n = l.length) (o : w.ownsRow base 35 3 (.slice (some ⟨g, 0, none⟩) n cap) n (lcs l)) (hbs : base ≤ w.heap.size) :
    Calls Try.prog 25 #[.slice (some ⟨g, 0, none⟩) n cap, .func (.func 26) #[] #[]] w (SortedZ l g n cap base w) := by
  have hst := fun lim => lpdq_any g n cap base lim l w v5 hg hn (by rw [srtZ_id]; exact o) hbs
  have n9 : n ≤ 9 := by omega
  have HST := Lib.hid hst
  clear hn o hst
  go_enter Try.func25, Try.ntmps25
  go_wp2_with fail
  refine (blen_any n _ n9).mono ?_
  rintro e w1 ⟨⟨lim, rfl⟩, rfl⟩
  go_wp2_with fail
  refine (HST.out lim).mono ?_
  rintro e w1 ⟨rfl, f, hf, o1, b1⟩
  have HF := Lib.hid hf
  clear hf HST
  go_wp2
  exact ⟨rfl, .tuple #[], by simp [results, Try.results25, go_sem], rfl, f, HF.out, o1, b1⟩

/-- Sorted by the insertion sort, with no holder twice: in the order of holders, the same leases. -/
theorem srtZ_who {l : List Lz} {f : Nat → Nat} (h : InsA (ljs l) f l.length) (hd : ∀ i j, i < l.length → j < l.length → i ≠ j → (lzd l i).who ≠ (lzd l j).who) : Lzs (srtZ l f) ∧ ∀ a, a ∈ srtZ l f ↔ a ∈ l := by
  have inj : ∀ p q, p < q → q < l.length → f p ≠ f q := fun p q hpq hq e => by
    have := h.ord p q hpq hq
    rw [e] at this
    unfold DLt at this
    omega
  refine ⟨?_, fun a => ?_⟩
  · unfold Lzs
    rw [List.pairwise_iff_getElem]
    intro p q hp hq hpq
    rw [length_srtZ] at hp hq
    have e1 : (srtZ l f)[p] = lzd l (f p) := by simp [srtZ]
    have e2 : (srtZ l f)[q] = lzd l (f q) := by simp [srtZ]
    rw [e1, e2]
    have fp := h.lt p hp
    have fq := h.lt q hq
    have o := h.ord p q hpq hq
    have ne := hd (f p) (f q) fp fq (inj p q hpq hq)
    unfold DLt at o
    rw [jb_lj fp, jb_lj fq] at o
    rcases o with o | o
    · exact o
    · exact absurd o.1 ne
  · unfold srtZ
    rw [List.mem_map]
    constructor
    · rintro ⟨p, hp, rfl⟩
      rw [List.mem_range] at hp
      have := h.lt p hp
      have e : lzd l (f p) = l[f p] := by simp [lzd, List.getD, this]
      rw [e]
      exact List.getElem_mem _
    · intro ha
      obtain ⟨v, hv, rfl⟩ := List.getElem_of_mem ha
      obtain ⟨p, hp, e⟩ := h.mem v hv
      exact ⟨p, List.mem_range.mpr hp, by rw [e]; simp [lzd, List.getD, hv]⟩

end Go.Proofs.Ytnpdcllfdoobeaa
