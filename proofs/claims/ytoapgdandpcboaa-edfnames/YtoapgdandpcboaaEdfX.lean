
/-
  Walks of package edf: Check, Fits, which job is next, how many slots a job has.
-/
import Derived.Test.YtoapgdandpcboaaJobC
import Derived.Deep.RegionHeld3
namespace Go.Proofs.Ytoapgdandpcboaa
set_option linter.all false
open Go.RowKit Go.Shelf Go.Lib

theorem lim_yesJ {x lo hi : Int} (h : x < lo ∨ hi < x) : Hid (decide (x < lo ∨ hi < x) = true) := Lib.hid (decide_eq_true h)
set_option maxHeartbeats 1600000 in
theorem echeck_any (A : Option Addr) (l : List Jb) (c : Nat) (w : World) (h : Jbs w A l) :
    Calls Try.prog 13 #[.slice A l.length c] w fun e w' => e = .returned (.int .i64 (jbsE l)) ∧ Below w.heap.size w w' := by
  have hl := h.le
  by_cases h12 : 12 < l.length
  · have HE : Hid (jbsE l = 2) := Lib.hid (if_pos h12)
    have i1 : (12 : Int) < (l.length : Int) := by omega
    go_enter Try.func13, Try.ntmps13
    go_wp2
    go_ret
    exact ⟨ret_int HE.out.symm, Below.refl _ _⟩
  · have HE : Hid (jbsE l = if l.any jbBad = true then 1 else 0) := Lib.hid (if_neg h12)
    have i1 : ¬ (12 : Int) < (l.length : Int) := by omega
    go_enter Try.func13, Try.ntmps13
    go_wp2
    go_loopw [10] (fun i wr => ∃ k : Nat, k ≤ l.length ∧ i = .int .i64 k ∧ Hid (l.any jbBad = (l.drop k).any jbBad) ∧ Below w.heap.size w wr) (fun i _ => l.length - (intOf i).toNat)
    case atStart => exact ⟨0, Nat.zero_le _, rfl, Lib.hid rfl, Below.refl _ _⟩
    case round =>
      obtain ⟨k, hk, rfl, HG, hbel⟩ := hrel
      by_cases hlt : k < l.length
      · obtain ⟨bb, off, j, rfl, hbl, c0, c1, c2, HJ⟩ := (h.below hbel).get hlt
        have i2 : (k : Int) < (l.length : Int) := by omega
        have HS : Hid (l.any jbBad = (jbBad j || (l.drop (k + 1)).any jbBad)) := Lib.hid (by rw [HG.out, any_drop HJ.out])
        obtain ⟨a, m, d⟩ := j
        simp only at c0 c1 c2
        by_cases h1 : a < 0 ∨ d ≤ a ∨ 200 < d
        · have HQ : Hid (jbsE l = 1) := Lib.hid (by
            rw [HE.out, HS.out, show jbBad ⟨a, m, d⟩ = true from decide_eq_true (by simp only; omega)]; rfl)
          by_cases g1 : a < 0
          · have e1 : decide (a < 0) = true := decide_eq_true g1
            go_wp2
            go_ret
            exact ⟨ret_int HQ.out.symm, hbel.alloc hbel.size _⟩
          · have e1 : decide (a < 0) = false := decide_eq_false g1
            by_cases g2 : d ≤ a
            · have e2 : decide (d ≤ a) = true := decide_eq_true g2
              go_wp2
              go_ret
              exact ⟨ret_int HQ.out.symm, hbel.alloc hbel.size _⟩
            · have e2 : decide (d ≤ a) = false := decide_eq_false g2
              have e3 : decide (200 < d) = true := decide_eq_true (by omega)
              go_wp2
              go_ret
              exact ⟨ret_int HQ.out.symm, hbel.alloc hbel.size _⟩
        · have e1 : decide (a < 0) = false := decide_eq_false (by omega)
          have e2 : decide (d ≤ a) = false := decide_eq_false (by omega)
          have e3 : decide (200 < d) = false := decide_eq_false (by omega)
          by_cases h4 : m < 1 ∨ 200 < m
          · have HQ : Hid (jbsE l = 1) := Lib.hid (by
              rw [HE.out, HS.out, show jbBad ⟨a, m, d⟩ = true from decide_eq_true (by simp only; omega)]; rfl)
            have q2 := lim_yesJ h4
            clear h4 h1
            go_wp2_with fail
            refine (lim_any m 1 200 true _ q2).mono ?_
            rintro e w' ⟨rfl, rfl⟩
            go_wp2
            go_ret
            exact ⟨ret_int HQ.out.symm, hbel.alloc hbel.size _⟩
          · have HN : Hid (l.any jbBad = (l.drop (k + 1)).any jbBad) := Lib.hid (by
              rw [HS.out, show jbBad ⟨a, m, d⟩ = false from decide_eq_false (by simp only; omega)]; rfl)
            have q2 : Hid (decide (m < 1 ∨ 200 < m) = false) := Lib.hid (decide_eq_false h4)
            clear h4 h1
            go_wp2_with fail
            refine (lim_any m 1 200 false _ q2).mono ?_
            rintro e w' ⟨rfl, rfl⟩
            go_wp2
            go_roundw
            case rel => exact ⟨k + 1, by omega, by go_num, HN, hbel.alloc hbel.size _⟩
            case measure => simp [intOf]; omega
      · have HQ : Hid (jbsE l = 0) := Lib.hid (by rw [HE.out, HG.out, List.drop_of_length_le (by omega)]; rfl)
        go_wp2
        go_ret
        exact ⟨ret_int HQ.out.symm, hbel⟩

set_option maxHeartbeats 1600000 in
theorem edemand_any (A : Option Addr) (l : List Jb) (c : Nat) (s t D : Int) (w : World) (h : Jbs w A l) (j : JobsB l) (HD : Hid (demV l s t = D)) :
    Calls Try.prog 33 #[.slice A l.length c, .int .i64 s, .int .i64 t] w fun e w' => e = .returned (.int .i64 D) ∧ Below w.heap.size w w' := by
  have hle := j.le
  go_enter Try.func33, Try.ntmps33
  go_wp2
  go_loopw [7, 12] (fun m i wr => ∃ k : Nat, k ≤ l.length ∧ i = .int .i64 k ∧ m = .int .i64 (tot (dmT l s t) k) ∧ Below w.heap.size w wr) (fun _ i _ => l.length - (intOf i).toNat)
  case atStart => exact ⟨0, Nat.zero_le _, rfl, rfl, Below.refl _ _⟩
  case round =>
    obtain ⟨k, hk, rfl, rfl, hbel⟩ := hrel
    obtain ⟨m, hm⟩ : ∃ m, m = tot (dmT l s t) k := ⟨_, rfl⟩
    have mb := dmT_bd j s t k hk
    rw [← hm] at mb ⊢
    obtain ⟨m0, m1⟩ := mb
    by_cases hlk : k < l.length
    · obtain ⟨bb, off, q, hA', hbl, c0, c1, c2, HJ⟩ := (h.below hbel).get hlk
      subst hA'
      have hq := jb_of HJ.out
      have w0 := j.w0 k hlk
      have w1 := j.w1 k hlk
      rw [hq] at w0 w1
      have HN : Hid (tot (dmT l s t) (k + 1) = m + if s ≤ q.at_ ∧ q.due ≤ t then q.work else 0) := Lib.hid (by simp only [tot]; rw [← hm]; unfold dmT; rw [hq])
      have i3 : (k : Int) < (l.length : Int) := by omega
      clear hm hq
      by_cases g1 : s ≤ q.at_
      · have e1 : decide (s ≤ q.at_) = true := decide_eq_true g1
        by_cases g2 : q.due ≤ t
        · have e2 : decide (q.due ≤ t) = true := decide_eq_true g2
          go_wp2
          go_roundw
          case rel => exact ⟨k + 1, by omega, by go_num, by rw [HN.out, if_pos ⟨g1, g2⟩], hbel.alloc hbel.size _⟩
          case measure => simp [intOf]; omega
        · have e2 : decide (q.due ≤ t) = false := decide_eq_false g2
          go_wp2
          go_roundw
          case rel => exact ⟨k + 1, by omega, by go_num, by rw [HN.out, if_neg (fun e => g2 e.2)]; congr 1; omega, hbel.alloc hbel.size _⟩
          case measure => simp [intOf]; omega
      · have e1 : decide (s ≤ q.at_) = false := decide_eq_false g1
        go_wp2
        go_roundw
        case rel => exact ⟨k + 1, by omega, by go_num, by rw [HN.out, if_neg (fun e => g1 e.1)]; congr 1; omega, hbel.alloc hbel.size _⟩
        case measure => simp [intOf]; omega
    · obtain rfl : k = l.length := by omega
      have HM : Hid (m = D) := Lib.hid (by rw [← HD.out, dem_tot, hm])
      have i3 : ¬ (l.length : Int) < (l.length : Int) := by omega
      clear hm
      go_wp2
      go_ret
      exact ⟨ret_int HM.out, hbel⟩

/-- The demand between the releases and the deadlines tells all. -/
theorem dem_pairs {l : List Jb} (j : JobsB l) (h : ∀ i k, i < l.length → k < l.length → ¬ (0 < demV l (jb l i).at_ (jb l k).due ∧ (jb l k).due - (jb l i).at_ < demV l (jb l i).at_ (jb l k).due)) : Dem l :=
  dem_marks j.toJobs (fun i k hi hk hik => by
    have := h i k hi hk
    have := j.ad i hi
    omega)
theorem dem_back {l : List Jb} (j : JobsB l) {s t : Int} (h : t < s) : demV l s t = 0 := by
  rw [dem_tot]
  refine tot_zero _ (fun i hi => ?_)
  have := j.ad i hi
  unfold dmT
  rw [if_neg (by omega)]
theorem dem_no {l : List Jb} (j : JobsB l) {s t D : Int} (hD : demV l s t = D) (h0 : 0 < D) (h1 : t - s < D) : ¬ Dem l := fun d => by
  by_cases c : s ≤ t
  · have := d s t c; omega
  · have := dem_back j (s := s) (t := t) (by omega); omega

set_option maxHeartbeats 3200000 in
theorem efits_yes (A : Option Addr) (l : List Jb) (c : Nat) (w : World) (h : Jbs w A l) (hE : jbsE l = 0) :
    Calls Try.prog 16 #[.slice A l.length c] w fun e w' => e = .returned (.tuple #[.bool (demB l), .int .i64 0]) ∧ Below w.heap.size w w' := by
  have j := jbs_iff.1 hE
  have hle := j.le
  have HE := Lib.hid hE
  clear hE
  go_enter Try.func16, Try.ntmps16
  go_wp2_with fail
  refine (echeck_any A l c w h).mono ?_
  rintro e w1 ⟨rfl, b1⟩
  rw [HE.out]
  go_wp2
  go_loopw [17] (fun s wr => ∃ a : Nat, a ≤ l.length ∧ s = .int .i64 a ∧ Hid (∀ i k, i < a → k < l.length → ¬ (0 < demV l (jb l i).at_ (jb l k).due ∧ (jb l k).due - (jb l i).at_ < demV l (jb l i).at_ (jb l k).due)) ∧ Below w.heap.size w wr) (fun s _ => l.length - (intOf s).toNat)
  case atStart => exact ⟨0, by omega, rfl, Lib.hid (fun i k hi => by omega), b1⟩
  case round =>
    clear b1
    obtain ⟨a, ha, rfl, HA, hbel⟩ := hrel
    by_cases hlt : a < l.length
    · obtain ⟨bb, off, q, hA', hbl, c0, c1, c2, HJ⟩ := (h.below hbel).get hlt
      have HAd := Lib.hid hA'
      have hq := jb_of HJ.out
      have qa := j.a0 a hlt
      have qd := j.ad a hlt
      have qd1 := j.d1 a hlt
      rw [hq] at qa qd qd1
      have HQ := Lib.hid hq
      clear hq
      have i1 : (a : Int) < (l.length : Int) := by omega
      obtain ⟨g1, hg1⟩ : ∃ g, g = wr.heap.size := ⟨_, rfl⟩
      obtain ⟨W1, hW1⟩ : ∃ W, W = wr.alloc (.cells #[.int .i64 q.at_, .int .i64 q.work, .int .i64 q.due] 31) := ⟨_, rfl⟩
      have B0 : Blk W1 g1 31 #[.int .i64 q.at_, .int .i64 q.work, .int .i64 q.due] := by rw [hW1, hg1]; exact Blk.new _ _ _
      have hb1 : Below w.heap.size w W1 := by rw [hW1]; exact hbel.alloc hbel.size _
      have HW1 := Lib.hid hW1
      have HG1 := Lib.hid hg1
      clear hW1 hg1
      subst hA'
      go_wp2
      rw [← HG1.out, ← HW1.out]
      clear c0 c1 c2 HW1 HG1
      go_loopw [23] (fun s wr => ∃ b : Nat, b ≤ l.length ∧ s = .int .i64 b ∧ Hid (∀ k, k < b → ¬ (0 < demV l (jb l a).at_ (jb l k).due ∧ (jb l k).due - (jb l a).at_ < demV l (jb l a).at_ (jb l k).due)) ∧ Blk wr g1 31 #[.int .i64 q.at_, .int .i64 q.work, .int .i64 q.due] ∧ Below w.heap.size w wr) (fun s _ => l.length - (intOf s).toNat)
      case atStart => exact ⟨0, by omega, rfl, Lib.hid (fun k hk => by omega), B0, hb1⟩
      case round =>
        clear hbel hb1 B0 hbl
        obtain ⟨b, hb, rfl, HB, B0, hbel⟩ := hrel
        by_cases hlb : b < l.length
        · obtain ⟨bb', off', p, hA2, hbl, c0, c1, c2, HJ2⟩ := (h.below hbel).get hlb
          obtain ⟨rfl, rfl⟩ : bb' = bb ∧ off' = off := by simpa using hA2.symm
          clear hA2
          have hp := jb_of HJ2.out
          have pd1 := j.d1 b hlb
          have pd := j.ad b hlb
          have pa := j.a0 b hlb
          rw [hp] at pd1 pd pa
          obtain ⟨D, hD⟩ : ∃ D, demV l q.at_ p.due = D := ⟨_, rfl⟩
          have Db : 0 ≤ D ∧ D ≤ 2400 := by
            have := dmT_bd j q.at_ p.due l.length (Nat.le_refl _)
            rw [← dem_tot, hD] at this
            omega
          have HD := Lib.hid hD
          have HP := Lib.hid hp
          clear hp hD
          have i2 : (b : Int) < (l.length : Int) := by omega
          obtain ⟨D0, D1⟩ := Db
          obtain ⟨x0, x1, x2⟩ := three_read B0
          have L0 := B0.lt
          obtain ⟨g2, hg2⟩ : ∃ g, g = wr.heap.size := ⟨_, rfl⟩
          obtain ⟨W2, hW2⟩ : ∃ W, W = wr.alloc (.cells #[.int .i64 p.at_, .int .i64 p.work, .int .i64 p.due] 31) := ⟨_, rfl⟩
          have B2 : Blk W2 g2 31 #[.int .i64 p.at_, .int .i64 p.work, .int .i64 p.due] := by rw [hW2, hg2]; exact Blk.new _ _ _
          have B1 : Blk W2 g1 31 #[.int .i64 q.at_, .int .i64 q.work, .int .i64 q.due] := by rw [hW2]; exact B0.alloc _
          have hb2 : Below w.heap.size w W2 := by rw [hW2]; exact hbel.alloc hbel.size _
          have HW2 := Lib.hid hW2
          have HG2 := Lib.hid hg2
          clear hW2 hg2
          go_wp2_with fail
          rw [← HG2.out, ← HW2.out]
          clear HW2 HG2 x0 x1 x2 c0 c1 c2 L0
          refine (edemand_any _ l c q.at_ p.due D _ (h.below hb2) j HD).mono ?_
          rintro e w5 ⟨rfl, b5⟩
          have hb5 := below_trans hb2 b5
          have K1 := B1.below b5
          have K2 := B2.below b5
          obtain ⟨x0, x1, x2⟩ := three_read K1
          obtain ⟨y0, y1, y2⟩ := three_read K2
          have L1 := K1.lt
          have L2 := K2.lt
          clear b5 hb2 B0 B1 B2 hbel
          by_cases d0 : 0 < D
          · have e0 : decide (0 < D) = true := decide_eq_true d0
            by_cases d1 : p.due - q.at_ < D
            · have e1 : decide (p.due - q.at_ < D) = true := decide_eq_true d1
              have HR : Hid (demB l = false) := Lib.hid (demB_false (dem_no j HD.out d0 d1))
              go_wp2
              go_ret2
              exact ⟨by rw [HR.out]; rfl, hb5⟩
            · have e1 : decide (p.due - q.at_ < D) = false := decide_eq_false d1
              have HB' : Hid (∀ k, k < b + 1 → ¬ (0 < demV l (jb l a).at_ (jb l k).due ∧ (jb l k).due - (jb l a).at_ < demV l (jb l a).at_ (jb l k).due)) := Lib.hid (fun k hk => by
                by_cases x : k = b
                · subst x; rw [HQ.out, HP.out, HD.out]; omega
                · exact HB.out k (by omega))
              go_wp2
              go_roundw
              case rel => exact ⟨b + 1, by omega, by go_num, HB', K1, hb5⟩
              case measure => simp [intOf]; omega
          · have e0 : decide (0 < D) = false := decide_eq_false d0
            have HB' : Hid (∀ k, k < b + 1 → ¬ (0 < demV l (jb l a).at_ (jb l k).due ∧ (jb l k).due - (jb l a).at_ < demV l (jb l a).at_ (jb l k).due)) := Lib.hid (fun k hk => by
              by_cases x : k = b
              · subst x; rw [HQ.out, HP.out, HD.out]; omega
              · exact HB.out k (by omega))
            go_wp2
            go_roundw
            case rel => exact ⟨b + 1, by omega, by go_num, HB', K1, hb5⟩
            case measure => simp [intOf]; omega
        · obtain rfl : b = l.length := by omega
          have HA' : Hid (∀ i k, i < a + 1 → k < l.length → ¬ (0 < demV l (jb l i).at_ (jb l k).due ∧ (jb l k).due - (jb l i).at_ < demV l (jb l i).at_ (jb l k).due)) := Lib.hid (fun i k hi hk => by
            by_cases x : i = a
            · subst x; exact HB.out k hk
            · exact HA.out i k (by omega) hk)
          have i3 : ¬ (l.length : Int) < (l.length : Int) := by omega
          go_wp2
          go_roundw
          case rel => exact ⟨a + 1, by omega, by go_num, HA', hbel⟩
          case measure => simp [intOf]; omega
    · obtain rfl : a = l.length := by omega
      have HR : Hid (demB l = true) := Lib.hid (demB_true (dem_pairs j HA.out))
      go_wp2
      go_ret2
      exact ⟨by rw [HR.out]; rfl, hbel⟩

set_option maxHeartbeats 1600000 in
theorem waits_any (j : Jb) (s : Bool) (w : World) (hs : Hid (decide (0 < j.work) = s)) : Calls Try.prog 24 #[.agg #[.int .i64 j.at_, .int .i64 j.work, .int .i64 j.due]] w fun e w' => e = .returned (.bool s) ∧ Below w.heap.size w w' := by
  obtain ⟨a, k, d⟩ := j
  simp only at hs ⊢
  go_enter Try.func24, Try.ntmps24
  go_wp2
  go_ret
  exact ⟨ret_bool hs.out, (Below.refl _ _).alloc (Nat.le_refl _) _⟩

set_option maxHeartbeats 800000 in
theorem efits_no (A : Option Addr) (l : List Jb) (c : Nat) (w : World) (h : Jbs w A l) (hE : ¬ jbsE l = 0) :
    Calls Try.prog 16 #[.slice A l.length c] w fun e w' => e = .returned (.tuple #[.bool false, .int .i64 (jbsE l)]) ∧ Below w.heap.size w w' := by
  have e1 : (jbsE l != 0) = true := by simp [hE]
  go_enter Try.func16, Try.ntmps16
  go_wp2_with fail
  refine (echeck_any A l c w h).mono ?_
  rintro e w1 ⟨rfl, b1⟩
  go_wp2
  go_ret2
  exact ⟨rfl, b1⟩

abbrev fWaits : FuncId := 24
def wkB (j : Jb) : Bool := decide (0 < j.work)
theorem any_dropW {l : List Jb} {k : Nat} {j : Jb} (h : l[k]? = some j) : (l.drop k).any wkB = (wkB j || (l.drop (k + 1)).any wkB) := by
  have hk := (List.getElem?_eq_some_iff.1 h).1
  rw [List.drop_eq_getElem_cons hk, List.any_cons]
  have : l[k] = j := by rw [List.getElem?_eq_getElem hk] at h; exact Option.some.inj h
  rw [this]
set_option maxHeartbeats 800000 in
theorem indexW_any (A : Option Addr) (l : List Jb) (n c : Nat) (w : World) (h : Jbs w A l) (hn : l.length = n) :
    Calls Try.prog 35 #[.slice A n c, .func (.func fWaits) #[] #[]] w fun e w' => ∃ r : Int, e = .returned (.int .i64 r) ∧ decide (0 ≤ r) = l.any wkB ∧ Below w.heap.size w w' := by
  have hent := enters_of Try.func24 (by kernel_rfl) rfl
  have hl := h.le
  subst hn
  go_enter Try.func35, Try.ntmps35
  go_wp2
  go_loopw [8] (fun i wr => ∃ k : Nat, k ≤ l.length ∧ i = .int .i64 k ∧ Hid (l.any wkB = (l.drop k).any wkB) ∧ Below w.heap.size w wr) (fun i _ => l.length - (intOf i).toNat)
  case atStart => exact ⟨0, Nat.zero_le _, rfl, Lib.hid rfl, Below.refl _ _⟩
  case round =>
    obtain ⟨k, hk, rfl, HG, hbel⟩ := hrel
    by_cases hlt : k < l.length
    · obtain ⟨bb, off, j, rfl, hbl, c0, c1, c2, HJ⟩ := (h.below hbel).get hlt
      have i1 : (k : Int) < (l.length : Int) := by omega
      have HS : Hid (l.any wkB = (wkB j || (l.drop (k + 1)).any wkB)) := Lib.hid (by rw [HG.out, any_dropW HJ.out])
      cases q : wkB j
      all_goals
        have hq := Lib.hid q
        rw [q] at HS
        clear q
      · go_wp2_with fail
        refine (waits_any j false _ hq).mono ?_
        rintro e w1 ⟨rfl, b1⟩
        have hb1 := below_trans hbel b1
        clear b1 c0 c1 c2
        have HN : Hid (l.any wkB = (l.drop (k + 1)).any wkB) := Lib.hid (by rw [HS.out]; rfl)
        clear HS
        go_wp2
        go_roundw
        case rel => exact ⟨k + 1, by omega, by go_num, HN, hb1⟩
        case measure => simp [intOf]; omega
      · go_wp2_with fail
        refine (waits_any j true _ hq).mono ?_
        rintro e w1 ⟨rfl, b1⟩
        have hb1 := below_trans hbel b1
        clear b1 c0 c1 c2
        have HN : Hid (l.any wkB = true) := Lib.hid (by rw [HS.out]; rfl)
        clear HS
        go_wp2
        go_ret
        exact ⟨k, rfl, by rw [HN.out]; exact decide_eq_true (by omega), hb1⟩
    · have HN : Hid (l.any wkB = false) := Lib.hid (by rw [HG.out, List.drop_of_length_le (by omega)]; rfl)
      go_wp2
      go_ret
      exact ⟨-1, rfl, by rw [HN.out]; rfl, hbel⟩
set_option maxHeartbeats 800000 in
theorem containsW_any (A : Option Addr) (l : List Jb) (n c : Nat) (s : Bool) (w : World) (h : Jbs w A l) (hn : l.length = n) (hs : Hid (l.any wkB = s)) :
    Calls Try.prog 23 #[.slice A n c, .func (.func fWaits) #[] #[]] w fun e w' => e = .returned (.bool s) ∧ Below w.heap.size w w' := by
  go_enter Try.func23, Try.ntmps23
  go_wp2_with fail
  refine (indexW_any A l n c _ h hn).mono ?_
  rintro e w1 ⟨r, rfl, hr, b1⟩
  have HR := Lib.hid (hr.trans hs.out)
  clear hr
  go_wp2
  go_ret
  exact ⟨ret_bool HR.out, b1⟩

set_option maxHeartbeats 1600000 in
theorem ecount_any (A : Option Addr) (x : List Int) (n c : Nat) (i m : Int) (w : World) (h : Ints w A x) (hn : x.length = n) (h2 : n ≤ 200) (hm : Hid (((x.filter (fun y => y == i)).length : Int) = m)) :
    Calls Try.prog 26 #[.slice A n c, .int .i64 i] w fun e w' => e = .returned (.int .i64 m) ∧ w' = w := by
  subst hn
  go_enter Try.func26, Try.ntmps26
  go_wp2
  go_loop [5, 10] (fun s t => ∃ k : Nat, k ≤ x.length ∧ t = .int .i64 k ∧ ∃ u : Nat, u ≤ k ∧ s = .int .i64 u ∧ Hid (m = u + (((x.drop k).filter (fun y => y == i)).length : Int))) (fun _ t => x.length - (intOf t).toNat)
  case atStart => exact ⟨0, Nat.zero_le _, rfl, 0, Nat.zero_le _, rfl, Lib.hid (by rw [← hm.out]; simp)⟩
  case round =>
    obtain ⟨k, hk, rfl, u, hu, rfl, HU⟩ := hrel
    by_cases hlt : k < x.length
    · obtain ⟨b1, o1, y, rfl, hc1, HY⟩ := h.at_ hlt
      have hy : x[k] = y := by have := HY.out; rw [List.getElem?_eq_getElem hlt] at this; exact Option.some.inj this
      have i2 : (k : Int) < (x.length : Int) := by omega
      by_cases g : y = i
      · have HN : Hid (m = ((u + 1 : Nat) : Int) + (((x.drop (k + 1)).filter (fun y => y == i)).length : Int)) := Lib.hid (by
          rw [HU.out, List.drop_eq_getElem_cons hlt, hy, List.filter_cons, if_pos (by simp [g]), List.length_cons]; omega)
        have e1 : (y == i) = true := by simp [g]
        clear g hy
        go_wp2
        go_round
        case rel => exact ⟨k + 1, by omega, by go_num, u + 1, by omega, by go_num, HN⟩
        case measure => simp [intOf]; omega
      · have HN : Hid (m = (u : Int) + (((x.drop (k + 1)).filter (fun y => y == i)).length : Int)) := Lib.hid (by
          rw [HU.out, List.drop_eq_getElem_cons hlt, hy, List.filter_cons, if_neg (by simp [g])])
        have e1 : (y == i) = false := by simp [g]
        clear g hy
        go_wp2
        go_round
        case rel => exact ⟨k + 1, by omega, by go_num, u, by omega, rfl, HN⟩
        case measure => simp [intOf]; omega
    · have HN : Hid ((u : Int) = m) := Lib.hid (by rw [HU.out, List.drop_of_length_le (by omega)]; simp)
      go_wp2
      go_ret
      exact ⟨ret_int HN.out, rfl⟩

end Go.Proofs.Ytoapgdandpcboaa
