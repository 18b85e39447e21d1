
/-
  The law LeaseTells.
-/
import Derived.Test.YtnpdcllfdoobeaaLeaR
namespace Go.Proofs.Ytnpdcllfdoobeaa
set_option linter.all false
open Go.RowKit Go.Shelf Go.Lib

/-- The least pin of the first k; far off where there is none. -/
structure MinTo (L : List Lz) (k : Nat) (m : Int) : Prop where
  lo : ∀ j a, j < k → L[j]? = some a → m ≤ a.pin
  hit : (k = 0 ∧ m = 1099511627776) ∨ ∃ j a, j < k ∧ L[j]? = some a ∧ a.pin = m
  m0 : 0 ≤ m
  m1 : m ≤ 1099511627776
theorem MinTo.zero (L : List Lz) : MinTo L 0 1099511627776 := ⟨fun j a h => by omega, .inl ⟨rfl, rfl⟩, by decide, by decide⟩
theorem MinTo.next {L : List Lz} {k : Nat} {m : Int} {a : Lz} (h : MinTo L k m) (ha : L[k]? = some a) (p0 : 0 ≤ a.pin) (p1 : a.pin ≤ 1000000) {v : Int} (hv : v = min m a.pin) : MinTo L (k + 1) v := by
  have := h.m0; have := h.m1
  refine ⟨fun j b hj hb => ?_, ?_, by omega, by omega⟩
  · by_cases c : j = k
    · subst c
      obtain rfl : b = a := Option.some.inj (hb.symm.trans ha)
      omega
    · have := h.lo j b (by omega) hb; omega
  · by_cases c : m ≤ a.pin
    · rcases h.hit with ⟨_, e⟩ | ⟨j, b, hj, hb, e⟩
      · omega
      · exact .inr ⟨j, b, by omega, hb, by omega⟩
    · exact .inr ⟨k, a, by omega, ha, by omega⟩
theorem MinTo.none {L : List Lz} {k : Nat} {m : Int} (h : MinTo L k m) (hk : k = 0) : m = 1099511627776 := by
  rcases h.hit with ⟨_, e⟩ | ⟨j, b, hj, _⟩
  · exact e
  · omega
theorem MinTo.pin {l : List Lz} {now n m : Int} {k : Nat} (h : MinTo (liveL now l) k m) (hk : k = (liveL now l).length) (hp : IsPin now l n) : m = n := by
  obtain ⟨a, ha, ht, e⟩ := hp.hit
  obtain ⟨j, hj, ej⟩ := List.getElem_of_mem (mem_live.mpr ⟨ha, ht⟩)
  have h1 := h.lo j a (by omega) (by rw [List.getElem?_eq_getElem hj, ej])
  rcases h.hit with ⟨z, _⟩ | ⟨j', b, hj', hb, eb⟩
  · omega
  · have q := mem_live.mp (List.mem_of_getElem? hb)
    have := hp.low b q.1 q.2
    omega

set_option maxRecDepth 100000 in
set_option maxHeartbeats 6400000 in
theorem walk_LeaseTells (A : Option Addr) (c : Nat) (l : List Lz) (now to : Int) (w : World) (h : Les w A l) (_k : l.length ≤ c) (_h1 : (Lit.int .i64 now).wf = true) (_h2 : (Lit.int .i64 to).wf = true) :
    Calls Try.prog 5 #[.slice A l.length c, .int .i64 now, .int .i64 to] w fun e w' => e = .returned (.bool true) ∧ Below w.heap.size w w' := by
  have hl := h.le
  have hb := Below.refl w.heap.size w
  go_enter Try.func5, Try.ntmps5
  by_cases hE : lzE l = 0
  rotate_left
  · have HC : Hid (¬ cuE now to l = 0) := Lib.hid (by rw [cuE, if_pos hE]; exact hE)
    have HQ : Hid (cuE now to l = lzE l) := Lib.hid (by rw [cuE, if_pos hE])
    have e1 : (lzE l != 0) = true := by simp [hE]
    go_wp2_with fail
    refine (live_no A l _ c now _ h rfl hE).mono ?_
    rintro e w2 ⟨rfl, b2⟩
    replace h := h.below b2
    replace hb := below_trans hb b2
    go_wp2_with fail
    refine (pin_no A l _ c now _ h rfl hE).mono ?_
    rintro e w3 ⟨rfl, b3⟩
    replace h := h.below b3
    replace hb := below_trans hb b3
    go_wp2_with fail
    refine (cut_no A l _ c now to _ h rfl HC).mono ?_
    rintro e w4 ⟨rfl, b4⟩
    rw [HQ.out]
    replace h := h.below b4
    replace hb := below_trans hb b4
    go_wp2_with fail
    refine (refLeases_any A l _ c _ h rfl).mono ?_
    rintro e w5 ⟨rfl, b5⟩
    replace h := h.below b5
    replace hb := below_trans hb b5
    obtain ⟨E, hEE⟩ : ∃ E, E = lzE l := ⟨_, rfl⟩
    rw [← hEE] at e1 ⊢
    clear hEE hE HC HQ
    go_wp2
    go_ret
    exact ⟨rfl, hb⟩
  have HE := Lib.hid hE
  have v := lzE_iff.mp hE
  have V := Lib.hid v
  have h8 := v.len
  clear hE
  by_cases hL : liveL now l = []
  · have HL := Lib.hid hL
    have CT : Hid (CutOk now to l) := Lib.hid (fun a ha ht => by
      have := mem_live.mpr ⟨ha, ht⟩
      rw [hL] at this
      simp at this)
    clear hL
    by_cases d : to < 0 ∨ 1000000 < to
    · have HQ : Hid (cuE now to l = 1) := Lib.hid (by rw [cuE, if_neg (by simpa using HE.out), if_pos d])
      have HC : Hid (¬ cuE now to l = 0) := Lib.hid (by rw [HQ.out]; decide)
      clear v CT
      rcases d with d | d
      · go_wp2_with fail
        refine (live_yes A l _ c now _ h rfl HE).mono ?_
        rintro e w2 ⟨A2, c2, rfl, o2, b2⟩
        have ix := Les.of_row o2
        replace h := h.below b2
        replace hb := below_trans hb b2
        clear b2 o2
        go_wp2_with fail
        refine (pin_none A l _ c now _ h rfl HE HL).mono ?_
        rintro e w3 ⟨rfl, b3⟩
        replace h := h.below b3
        replace hb := below_trans hb b3
        replace ix := ix.below b3
        clear b3
        go_wp2_with fail
        refine (cut_no A l _ c now to _ h rfl HC).mono ?_
        rintro e w4 ⟨rfl, b4⟩
        rw [HQ.out]
        replace h := h.below b4
        replace hb := below_trans hb b4
        replace ix := ix.below b4
        clear b4
        go_wp2_with fail
        refine (refLeases_any A l _ c _ h rfl).mono ?_
        rintro e w5 ⟨rfl, b5⟩
        rw [HE.out]
        replace h := h.below b5
        replace hb := below_trans hb b5
        replace ix := ix.below b5
        skip
        go_wp2_with fail
        refine (alive_any A l _ c now _ h rfl (by omega)).mono ?_
        rintro e w6 ⟨A6, c6, rfl, o6, b6⟩
        have il := Les.of_row o6
        replace h := h.below b6
        replace hb := below_trans hb b6
        replace ix := ix.below b6
        skip
        go_wp2_with fail
        refine (leSame A2 A6 (liveL now l) _ _ _ _ _ ix il rfl rfl).mono ?_
        rintro e w7 ⟨rfl, n7, hw7⟩
        have b7 := below_of_drewN hw7
        replace il := il.below b7
        replace hb := below_trans hb b7
        skip
        clear hw7 b5 b6 b7 o6 ix h
        obtain ⟨L, hL'⟩ : ∃ L, L = liveL now l := ⟨_, rfl⟩
        have HLL := Lib.hid hL'
        have GD : Hid (∀ a, a ∈ L → 0 ≤ a.pin ∧ a.pin ≤ 1000000) := Lib.hid (fun a ha => by
          rw [hL'] at ha
          have := lzBad_iff.mp (V.out.good a (mem_live.mp ha).1)
          omega)
        rw [← hL'] at il ⊢
        obtain ⟨m6, hm6⟩ : ∃ m, m = L.length := ⟨_, rfl⟩
        rw [← hm6]
        have HM := Lib.hid hm6
        have hm8 : m6 ≤ 8 := by rw [hm6, hL']; exact (V.out.live now).len
        clear hL' hm6
        go_wp2
        go_loopw [15, 81] (fun u s wr => ∃ (k : Nat) (m : Int), k ≤ m6 ∧ s = .int .i64 k ∧ u = .int .i64 m ∧ Hid (MinTo L k m) ∧ Below w7.heap.size w7 wr) (fun _ s _ => m6 - (intOf s).toNat)
        case atStart => exact ⟨0, _, Nat.zero_le _, rfl, rfl, Lib.hid (MinTo.zero L), Below.refl _ _⟩
        obtain ⟨k, m, hk, rfl, rfl, HT, hbel⟩ := hrel
        by_cases hlt : k < m6
        · obtain ⟨bb, off, a, hA, hbl, c0, c1, c2, HA⟩ := (il.below hbel).get (k := k) (by rw [← HM.out]; exact hlt)
          have i1 : (k : Int) < (m6 : Int) := by omega
          obtain ⟨p0, p1⟩ := GD.out a (List.mem_of_getElem? HA.out)
          have m0 := HT.out.m0
          have m1 := HT.out.m1
          subst hA
          rcases Int.lt_trichotomy m a.pin with q | q | q
          · have HN : Hid (MinTo L (k + 1) m) := Lib.hid (HT.out.next HA.out p0 p1 (by omega))
            clear HT HA
            go_wp2
            go_roundw
            case rel => exact ⟨k + 1, m, by omega, by go_num, rfl, HN, hbel.alloc hbel.size _⟩
            case measure => simp [intOf]; omega
          · have HN : Hid (MinTo L (k + 1) m) := Lib.hid (HT.out.next HA.out p0 p1 (by omega))
            have q' : a.pin = m := q.symm
            rw [q'] at c2
            clear HT HA q q' p0 p1
            go_wp2
            go_roundw
            case rel => exact ⟨k + 1, m, by omega, by go_num, rfl, HN, hbel.alloc hbel.size _⟩
            case measure => simp [intOf]; omega
          · have HN : Hid (MinTo L (k + 1) a.pin) := Lib.hid (HT.out.next HA.out p0 p1 (by omega))
            clear HT HA
            go_wp2
            go_roundw
            case rel => exact ⟨k + 1, a.pin, by omega, by go_num, rfl, HN, hbel.alloc hbel.size _⟩
            case measure => simp [intOf]; omega
        have i1 : ¬ (k : Int) < (m6 : Int) := by omega
        obtain rfl : k = m6 := by omega
        replace hb := below_trans hb hbel
        have hk0 : k = 0 := by rw [HM.out, HLL.out, HL.out]; rfl
        subst hk0
        go_wp2
        go_ret
        exact ⟨rfl, hb⟩
      · have d' : ¬ to < 0 := by omega
        go_wp2_with fail
        refine (live_yes A l _ c now _ h rfl HE).mono ?_
        rintro e w2 ⟨A2, c2, rfl, o2, b2⟩
        have ix := Les.of_row o2
        replace h := h.below b2
        replace hb := below_trans hb b2
        clear b2 o2
        go_wp2_with fail
        refine (pin_none A l _ c now _ h rfl HE HL).mono ?_
        rintro e w3 ⟨rfl, b3⟩
        replace h := h.below b3
        replace hb := below_trans hb b3
        replace ix := ix.below b3
        clear b3
        go_wp2_with fail
        refine (cut_no A l _ c now to _ h rfl HC).mono ?_
        rintro e w4 ⟨rfl, b4⟩
        rw [HQ.out]
        replace h := h.below b4
        replace hb := below_trans hb b4
        replace ix := ix.below b4
        clear b4
        go_wp2_with fail
        refine (refLeases_any A l _ c _ h rfl).mono ?_
        rintro e w5 ⟨rfl, b5⟩
        rw [HE.out]
        replace h := h.below b5
        replace hb := below_trans hb b5
        replace ix := ix.below b5
        skip
        go_wp2_with fail
        refine (alive_any A l _ c now _ h rfl (by omega)).mono ?_
        rintro e w6 ⟨A6, c6, rfl, o6, b6⟩
        have il := Les.of_row o6
        replace h := h.below b6
        replace hb := below_trans hb b6
        replace ix := ix.below b6
        skip
        go_wp2_with fail
        refine (leSame A2 A6 (liveL now l) _ _ _ _ _ ix il rfl rfl).mono ?_
        rintro e w7 ⟨rfl, n7, hw7⟩
        have b7 := below_of_drewN hw7
        replace il := il.below b7
        replace hb := below_trans hb b7
        skip
        clear hw7 b5 b6 b7 o6 ix h
        obtain ⟨L, hL'⟩ : ∃ L, L = liveL now l := ⟨_, rfl⟩
        have HLL := Lib.hid hL'
        have GD : Hid (∀ a, a ∈ L → 0 ≤ a.pin ∧ a.pin ≤ 1000000) := Lib.hid (fun a ha => by
          rw [hL'] at ha
          have := lzBad_iff.mp (V.out.good a (mem_live.mp ha).1)
          omega)
        rw [← hL'] at il ⊢
        obtain ⟨m6, hm6⟩ : ∃ m, m = L.length := ⟨_, rfl⟩
        rw [← hm6]
        have HM := Lib.hid hm6
        have hm8 : m6 ≤ 8 := by rw [hm6, hL']; exact (V.out.live now).len
        clear hL' hm6
        go_wp2
        go_loopw [15, 81] (fun u s wr => ∃ (k : Nat) (m : Int), k ≤ m6 ∧ s = .int .i64 k ∧ u = .int .i64 m ∧ Hid (MinTo L k m) ∧ Below w7.heap.size w7 wr) (fun _ s _ => m6 - (intOf s).toNat)
        case atStart => exact ⟨0, _, Nat.zero_le _, rfl, rfl, Lib.hid (MinTo.zero L), Below.refl _ _⟩
        obtain ⟨k, m, hk, rfl, rfl, HT, hbel⟩ := hrel
        by_cases hlt : k < m6
        · obtain ⟨bb, off, a, hA, hbl, c0, c1, c2, HA⟩ := (il.below hbel).get (k := k) (by rw [← HM.out]; exact hlt)
          have i1 : (k : Int) < (m6 : Int) := by omega
          obtain ⟨p0, p1⟩ := GD.out a (List.mem_of_getElem? HA.out)
          have m0 := HT.out.m0
          have m1 := HT.out.m1
          subst hA
          rcases Int.lt_trichotomy m a.pin with q | q | q
          · have HN : Hid (MinTo L (k + 1) m) := Lib.hid (HT.out.next HA.out p0 p1 (by omega))
            clear HT HA
            go_wp2
            go_roundw
            case rel => exact ⟨k + 1, m, by omega, by go_num, rfl, HN, hbel.alloc hbel.size _⟩
            case measure => simp [intOf]; omega
          · have HN : Hid (MinTo L (k + 1) m) := Lib.hid (HT.out.next HA.out p0 p1 (by omega))
            have q' : a.pin = m := q.symm
            rw [q'] at c2
            clear HT HA q q' p0 p1
            go_wp2
            go_roundw
            case rel => exact ⟨k + 1, m, by omega, by go_num, rfl, HN, hbel.alloc hbel.size _⟩
            case measure => simp [intOf]; omega
          · have HN : Hid (MinTo L (k + 1) a.pin) := Lib.hid (HT.out.next HA.out p0 p1 (by omega))
            clear HT HA
            go_wp2
            go_roundw
            case rel => exact ⟨k + 1, a.pin, by omega, by go_num, rfl, HN, hbel.alloc hbel.size _⟩
            case measure => simp [intOf]; omega
        have i1 : ¬ (k : Int) < (m6 : Int) := by omega
        obtain rfl : k = m6 := by omega
        replace hb := below_trans hb hbel
        have hk0 : k = 0 := by rw [HM.out, HLL.out, HL.out]; rfl
        subst hk0
        go_wp2
        go_ret
        exact ⟨rfl, hb⟩
    · have HC : Hid (cuE now to l = 0) := Lib.hid (cu_iff.mpr ⟨v, by omega, by omega, CT.out⟩)
      have d1 : ¬ to < 0 := by omega
      have d2 : ¬ 1000000 < to := by omega
      clear v CT
      go_wp2_with fail
      refine (live_yes A l _ c now _ h rfl HE).mono ?_
      rintro e w2 ⟨A2, c2, rfl, o2, b2⟩
      have ix := Les.of_row o2
      replace h := h.below b2
      replace hb := below_trans hb b2
      clear b2 o2
      go_wp2_with fail
      refine (pin_none A l _ c now _ h rfl HE HL).mono ?_
      rintro e w3 ⟨rfl, b3⟩
      replace h := h.below b3
      replace hb := below_trans hb b3
      replace ix := ix.below b3
      clear b3
      go_wp2_with fail
      refine (cut_yes A l _ c now to _ h rfl HC).mono ?_
      rintro e w4 ⟨A4, c4, rfl, o4, b4⟩
      have iy := Les.of_row o4
      replace h := h.below b4
      replace hb := below_trans hb b4
      replace ix := ix.below b4
      clear b4 o4
      go_wp2_with fail
      refine (refLeases_any A l _ c _ h rfl).mono ?_
      rintro e w5 ⟨rfl, b5⟩
      rw [HE.out]
      replace h := h.below b5
      replace hb := below_trans hb b5
      replace ix := ix.below b5
      replace iy := iy.below b5
      go_wp2_with fail
      refine (alive_any A l _ c now _ h rfl (by omega)).mono ?_
      rintro e w6 ⟨A6, c6, rfl, o6, b6⟩
      have il := Les.of_row o6
      replace h := h.below b6
      replace hb := below_trans hb b6
      replace ix := ix.below b6
      replace iy := iy.below b6
      go_wp2_with fail
      refine (leSame A2 A6 (liveL now l) _ _ _ _ _ ix il rfl rfl).mono ?_
      rintro e w7 ⟨rfl, n7, hw7⟩
      have b7 := below_of_drewN hw7
      replace il := il.below b7
      replace hb := below_trans hb b7
      replace iy := iy.below b7
      clear hw7 b5 b6 b7 o6 ix h
      obtain ⟨L, hL'⟩ : ∃ L, L = liveL now l := ⟨_, rfl⟩
      have HLL := Lib.hid hL'
      have GD : Hid (∀ a, a ∈ L → 0 ≤ a.pin ∧ a.pin ≤ 1000000) := Lib.hid (fun a ha => by
        rw [hL'] at ha
        have := lzBad_iff.mp (V.out.good a (mem_live.mp ha).1)
        omega)
      rw [← hL'] at il ⊢
      obtain ⟨m6, hm6⟩ : ∃ m, m = L.length := ⟨_, rfl⟩
      rw [← hm6]
      have HM := Lib.hid hm6
      have hm8 : m6 ≤ 8 := by rw [hm6, hL']; exact (V.out.live now).len
      clear hL' hm6
      go_wp2
      go_loopw [15, 81] (fun u s wr => ∃ (k : Nat) (m : Int), k ≤ m6 ∧ s = .int .i64 k ∧ u = .int .i64 m ∧ Hid (MinTo L k m) ∧ Below w7.heap.size w7 wr) (fun _ s _ => m6 - (intOf s).toNat)
      case atStart => exact ⟨0, _, Nat.zero_le _, rfl, rfl, Lib.hid (MinTo.zero L), Below.refl _ _⟩
      obtain ⟨k, m, hk, rfl, rfl, HT, hbel⟩ := hrel
      by_cases hlt : k < m6
      · obtain ⟨bb, off, a, hA, hbl, c0, c1, c2, HA⟩ := (il.below hbel).get (k := k) (by rw [← HM.out]; exact hlt)
        have i1 : (k : Int) < (m6 : Int) := by omega
        obtain ⟨p0, p1⟩ := GD.out a (List.mem_of_getElem? HA.out)
        have m0 := HT.out.m0
        have m1 := HT.out.m1
        subst hA
        rcases Int.lt_trichotomy m a.pin with q | q | q
        · have HN : Hid (MinTo L (k + 1) m) := Lib.hid (HT.out.next HA.out p0 p1 (by omega))
          clear HT HA
          go_wp2
          go_roundw
          case rel => exact ⟨k + 1, m, by omega, by go_num, rfl, HN, hbel.alloc hbel.size _⟩
          case measure => simp [intOf]; omega
        · have HN : Hid (MinTo L (k + 1) m) := Lib.hid (HT.out.next HA.out p0 p1 (by omega))
          have q' : a.pin = m := q.symm
          rw [q'] at c2
          clear HT HA q q' p0 p1
          go_wp2
          go_roundw
          case rel => exact ⟨k + 1, m, by omega, by go_num, rfl, HN, hbel.alloc hbel.size _⟩
          case measure => simp [intOf]; omega
        · have HN : Hid (MinTo L (k + 1) a.pin) := Lib.hid (HT.out.next HA.out p0 p1 (by omega))
          clear HT HA
          go_wp2
          go_roundw
          case rel => exact ⟨k + 1, a.pin, by omega, by go_num, rfl, HN, hbel.alloc hbel.size _⟩
          case measure => simp [intOf]; omega
      have i1 : ¬ (k : Int) < (m6 : Int) := by omega
      obtain rfl : k = m6 := by omega
      replace hb := below_trans hb hbel
      have hk0 : k = 0 := by rw [HM.out, HLL.out, HL.out]; rfl
      subst hk0
      obtain rfl : m = 1099511627776 := HT.out.none rfl
      have mlt : ¬ (1099511627776 : Int) < to := by omega
      clear HT
      rw [← HLL.out] at iy
      replace iy := iy.below hbel
      replace il := il.below hbel
      go_wp2_with fail
      refine (leSame A4 A6 L _ _ _ _ _ iy il HM.out HM.out).mono ?_
      rintro e w8 ⟨rfl, n8, hw8⟩
      replace hb := below_trans hb (below_of_drewN hw8)
      clear hw8
      go_wp2
      go_ret
      exact ⟨rfl, hb⟩
  · have HL := Lib.hid hL
    clear hL
    by_cases d : to < 0 ∨ 1000000 < to
    · have HQ : Hid (cuE now to l = 1) := Lib.hid (by rw [cuE, if_neg (by simpa using HE.out), if_pos d])
      have HC : Hid (¬ cuE now to l = 0) := Lib.hid (by rw [HQ.out]; decide)
      clear v
      rcases d with d | d
      · go_wp2_with fail
        refine (live_yes A l _ c now _ h rfl HE).mono ?_
        rintro e w2 ⟨A2, c2, rfl, o2, b2⟩
        have ix := Les.of_row o2
        replace h := h.below b2
        replace hb := below_trans hb b2
        clear b2 o2
        go_wp2_with fail
        refine (pin_yes A l _ c now _ h rfl HE HL).mono ?_
        rintro e w3 ⟨⟨nn, hp, n0, n1, rfl⟩, b3⟩
        replace h := h.below b3
        replace hb := below_trans hb b3
        replace ix := ix.below b3
        have HP := Lib.hid hp
        clear b3 hp
        go_wp2_with fail
        refine (cut_no A l _ c now to _ h rfl HC).mono ?_
        rintro e w4 ⟨rfl, b4⟩
        rw [HQ.out]
        replace h := h.below b4
        replace hb := below_trans hb b4
        replace ix := ix.below b4
        clear b4
        go_wp2_with fail
        refine (refLeases_any A l _ c _ h rfl).mono ?_
        rintro e w5 ⟨rfl, b5⟩
        rw [HE.out]
        replace h := h.below b5
        replace hb := below_trans hb b5
        replace ix := ix.below b5
        skip
        go_wp2_with fail
        refine (alive_any A l _ c now _ h rfl (by omega)).mono ?_
        rintro e w6 ⟨A6, c6, rfl, o6, b6⟩
        have il := Les.of_row o6
        replace h := h.below b6
        replace hb := below_trans hb b6
        replace ix := ix.below b6
        skip
        go_wp2_with fail
        refine (leSame A2 A6 (liveL now l) _ _ _ _ _ ix il rfl rfl).mono ?_
        rintro e w7 ⟨rfl, n7, hw7⟩
        have b7 := below_of_drewN hw7
        replace il := il.below b7
        replace hb := below_trans hb b7
        skip
        clear hw7 b5 b6 b7 o6 ix h
        obtain ⟨L, hL'⟩ : ∃ L, L = liveL now l := ⟨_, rfl⟩
        have HLL := Lib.hid hL'
        have GD : Hid (∀ a, a ∈ L → 0 ≤ a.pin ∧ a.pin ≤ 1000000) := Lib.hid (fun a ha => by
          rw [hL'] at ha
          have := lzBad_iff.mp (V.out.good a (mem_live.mp ha).1)
          omega)
        rw [← hL'] at il ⊢
        obtain ⟨m6, hm6⟩ : ∃ m, m = L.length := ⟨_, rfl⟩
        rw [← hm6]
        have HM := Lib.hid hm6
        have hm8 : m6 ≤ 8 := by rw [hm6, hL']; exact (V.out.live now).len
        clear hL' hm6
        go_wp2
        go_loopw [15, 81] (fun u s wr => ∃ (k : Nat) (m : Int), k ≤ m6 ∧ s = .int .i64 k ∧ u = .int .i64 m ∧ Hid (MinTo L k m) ∧ Below w7.heap.size w7 wr) (fun _ s _ => m6 - (intOf s).toNat)
        case atStart => exact ⟨0, _, Nat.zero_le _, rfl, rfl, Lib.hid (MinTo.zero L), Below.refl _ _⟩
        obtain ⟨k, m, hk, rfl, rfl, HT, hbel⟩ := hrel
        by_cases hlt : k < m6
        · obtain ⟨bb, off, a, hA, hbl, c0, c1, c2, HA⟩ := (il.below hbel).get (k := k) (by rw [← HM.out]; exact hlt)
          have i1 : (k : Int) < (m6 : Int) := by omega
          obtain ⟨p0, p1⟩ := GD.out a (List.mem_of_getElem? HA.out)
          have m0 := HT.out.m0
          have m1 := HT.out.m1
          subst hA
          rcases Int.lt_trichotomy m a.pin with q | q | q
          · have HN : Hid (MinTo L (k + 1) m) := Lib.hid (HT.out.next HA.out p0 p1 (by omega))
            clear HT HA
            go_wp2
            go_roundw
            case rel => exact ⟨k + 1, m, by omega, by go_num, rfl, HN, hbel.alloc hbel.size _⟩
            case measure => simp [intOf]; omega
          · have HN : Hid (MinTo L (k + 1) m) := Lib.hid (HT.out.next HA.out p0 p1 (by omega))
            have q' : a.pin = m := q.symm
            rw [q'] at c2
            clear HT HA q q' p0 p1
            go_wp2
            go_roundw
            case rel => exact ⟨k + 1, m, by omega, by go_num, rfl, HN, hbel.alloc hbel.size _⟩
            case measure => simp [intOf]; omega
          · have HN : Hid (MinTo L (k + 1) a.pin) := Lib.hid (HT.out.next HA.out p0 p1 (by omega))
            clear HT HA
            go_wp2
            go_roundw
            case rel => exact ⟨k + 1, a.pin, by omega, by go_num, rfl, HN, hbel.alloc hbel.size _⟩
            case measure => simp [intOf]; omega
        have i1 : ¬ (k : Int) < (m6 : Int) := by omega
        obtain rfl : k = m6 := by omega
        replace hb := below_trans hb hbel
        have hm : m = nn := by
          have := HT.out
          rw [HLL.out] at this
          exact this.pin (by rw [HM.out, HLL.out]) HP.out
        have HMN := Lib.hid hm
        rw [HMN.out]
        have kp : 0 < k := by
          rcases Nat.eq_zero_or_pos k with z | z
          · exact absurd (List.eq_nil_of_length_eq_zero (by rw [← HLL.out, ← HM.out]; exact z)) HL.out
          · exact z
        have kne : ¬ (k : Int) = 0 := by omega
        have kn2 : ((k : Int) == 0) = false := by rw [beq_eq_false_iff_ne]; exact kne
        clear hm HT
        go_wp2
        go_ret
        exact ⟨rfl, hb⟩
      · have d' : ¬ to < 0 := by omega
        go_wp2_with fail
        refine (live_yes A l _ c now _ h rfl HE).mono ?_
        rintro e w2 ⟨A2, c2, rfl, o2, b2⟩
        have ix := Les.of_row o2
        replace h := h.below b2
        replace hb := below_trans hb b2
        clear b2 o2
        go_wp2_with fail
        refine (pin_yes A l _ c now _ h rfl HE HL).mono ?_
        rintro e w3 ⟨⟨nn, hp, n0, n1, rfl⟩, b3⟩
        replace h := h.below b3
        replace hb := below_trans hb b3
        replace ix := ix.below b3
        have HP := Lib.hid hp
        clear b3 hp
        go_wp2_with fail
        refine (cut_no A l _ c now to _ h rfl HC).mono ?_
        rintro e w4 ⟨rfl, b4⟩
        rw [HQ.out]
        replace h := h.below b4
        replace hb := below_trans hb b4
        replace ix := ix.below b4
        clear b4
        go_wp2_with fail
        refine (refLeases_any A l _ c _ h rfl).mono ?_
        rintro e w5 ⟨rfl, b5⟩
        rw [HE.out]
        replace h := h.below b5
        replace hb := below_trans hb b5
        replace ix := ix.below b5
        skip
        go_wp2_with fail
        refine (alive_any A l _ c now _ h rfl (by omega)).mono ?_
        rintro e w6 ⟨A6, c6, rfl, o6, b6⟩
        have il := Les.of_row o6
        replace h := h.below b6
        replace hb := below_trans hb b6
        replace ix := ix.below b6
        skip
        go_wp2_with fail
        refine (leSame A2 A6 (liveL now l) _ _ _ _ _ ix il rfl rfl).mono ?_
        rintro e w7 ⟨rfl, n7, hw7⟩
        have b7 := below_of_drewN hw7
        replace il := il.below b7
        replace hb := below_trans hb b7
        skip
        clear hw7 b5 b6 b7 o6 ix h
        obtain ⟨L, hL'⟩ : ∃ L, L = liveL now l := ⟨_, rfl⟩
        have HLL := Lib.hid hL'
        have GD : Hid (∀ a, a ∈ L → 0 ≤ a.pin ∧ a.pin ≤ 1000000) := Lib.hid (fun a ha => by
          rw [hL'] at ha
          have := lzBad_iff.mp (V.out.good a (mem_live.mp ha).1)
          omega)
        rw [← hL'] at il ⊢
        obtain ⟨m6, hm6⟩ : ∃ m, m = L.length := ⟨_, rfl⟩
        rw [← hm6]
        have HM := Lib.hid hm6
        have hm8 : m6 ≤ 8 := by rw [hm6, hL']; exact (V.out.live now).len
        clear hL' hm6
        go_wp2
        go_loopw [15, 81] (fun u s wr => ∃ (k : Nat) (m : Int), k ≤ m6 ∧ s = .int .i64 k ∧ u = .int .i64 m ∧ Hid (MinTo L k m) ∧ Below w7.heap.size w7 wr) (fun _ s _ => m6 - (intOf s).toNat)
        case atStart => exact ⟨0, _, Nat.zero_le _, rfl, rfl, Lib.hid (MinTo.zero L), Below.refl _ _⟩
        obtain ⟨k, m, hk, rfl, rfl, HT, hbel⟩ := hrel
        by_cases hlt : k < m6
        · obtain ⟨bb, off, a, hA, hbl, c0, c1, c2, HA⟩ := (il.below hbel).get (k := k) (by rw [← HM.out]; exact hlt)
          have i1 : (k : Int) < (m6 : Int) := by omega
          obtain ⟨p0, p1⟩ := GD.out a (List.mem_of_getElem? HA.out)
          have m0 := HT.out.m0
          have m1 := HT.out.m1
          subst hA
          rcases Int.lt_trichotomy m a.pin with q | q | q
          · have HN : Hid (MinTo L (k + 1) m) := Lib.hid (HT.out.next HA.out p0 p1 (by omega))
            clear HT HA
            go_wp2
            go_roundw
            case rel => exact ⟨k + 1, m, by omega, by go_num, rfl, HN, hbel.alloc hbel.size _⟩
            case measure => simp [intOf]; omega
          · have HN : Hid (MinTo L (k + 1) m) := Lib.hid (HT.out.next HA.out p0 p1 (by omega))
            have q' : a.pin = m := q.symm
            rw [q'] at c2
            clear HT HA q q' p0 p1
            go_wp2
            go_roundw
            case rel => exact ⟨k + 1, m, by omega, by go_num, rfl, HN, hbel.alloc hbel.size _⟩
            case measure => simp [intOf]; omega
          · have HN : Hid (MinTo L (k + 1) a.pin) := Lib.hid (HT.out.next HA.out p0 p1 (by omega))
            clear HT HA
            go_wp2
            go_roundw
            case rel => exact ⟨k + 1, a.pin, by omega, by go_num, rfl, HN, hbel.alloc hbel.size _⟩
            case measure => simp [intOf]; omega
        have i1 : ¬ (k : Int) < (m6 : Int) := by omega
        obtain rfl : k = m6 := by omega
        replace hb := below_trans hb hbel
        have hm : m = nn := by
          have := HT.out
          rw [HLL.out] at this
          exact this.pin (by rw [HM.out, HLL.out]) HP.out
        have HMN := Lib.hid hm
        rw [HMN.out]
        have kp : 0 < k := by
          rcases Nat.eq_zero_or_pos k with z | z
          · exact absurd (List.eq_nil_of_length_eq_zero (by rw [← HLL.out, ← HM.out]; exact z)) HL.out
          · exact z
        have kne : ¬ (k : Int) = 0 := by omega
        have kn2 : ((k : Int) == 0) = false := by rw [beq_eq_false_iff_ne]; exact kne
        clear hm HT
        go_wp2
        go_ret
        exact ⟨rfl, hb⟩
    · have d1 : ¬ to < 0 := by omega
      have d2 : ¬ 1000000 < to := by omega
      go_wp2_with fail
      refine (live_yes A l _ c now _ h rfl HE).mono ?_
      rintro e w2 ⟨A2, c2, rfl, o2, b2⟩
      have ix := Les.of_row o2
      replace h := h.below b2
      replace hb := below_trans hb b2
      clear b2 o2
      go_wp2_with fail
      refine (pin_yes A l _ c now _ h rfl HE HL).mono ?_
      rintro e w3 ⟨⟨nn, hp, n0, n1, rfl⟩, b3⟩
      replace h := h.below b3
      replace hb := below_trans hb b3
      replace ix := ix.below b3
      have HP := Lib.hid hp
      clear b3 hp
      by_cases ht : nn < to
      · have HQ : Hid (cuE now to l = 7) := Lib.hid (cu_there v (by omega) (by omega) (fun ct => by have := HP.out.cut.mp ct; omega))
        have HC : Hid (¬ cuE now to l = 0) := Lib.hid (by rw [HQ.out]; decide)
        clear v
        go_wp2_with fail
        refine (cut_no A l _ c now to _ h rfl HC).mono ?_
        rintro e w4 ⟨rfl, b4⟩
        rw [HQ.out]
        replace h := h.below b4
        replace hb := below_trans hb b4
        replace ix := ix.below b4
        clear b4
        go_wp2_with fail
        refine (refLeases_any A l _ c _ h rfl).mono ?_
        rintro e w5 ⟨rfl, b5⟩
        rw [HE.out]
        replace h := h.below b5
        replace hb := below_trans hb b5
        replace ix := ix.below b5
        skip
        go_wp2_with fail
        refine (alive_any A l _ c now _ h rfl (by omega)).mono ?_
        rintro e w6 ⟨A6, c6, rfl, o6, b6⟩
        have il := Les.of_row o6
        replace h := h.below b6
        replace hb := below_trans hb b6
        replace ix := ix.below b6
        skip
        go_wp2_with fail
        refine (leSame A2 A6 (liveL now l) _ _ _ _ _ ix il rfl rfl).mono ?_
        rintro e w7 ⟨rfl, n7, hw7⟩
        have b7 := below_of_drewN hw7
        replace il := il.below b7
        replace hb := below_trans hb b7
        skip
        clear hw7 b5 b6 b7 o6 ix h
        obtain ⟨L, hL'⟩ : ∃ L, L = liveL now l := ⟨_, rfl⟩
        have HLL := Lib.hid hL'
        have GD : Hid (∀ a, a ∈ L → 0 ≤ a.pin ∧ a.pin ≤ 1000000) := Lib.hid (fun a ha => by
          rw [hL'] at ha
          have := lzBad_iff.mp (V.out.good a (mem_live.mp ha).1)
          omega)
        rw [← hL'] at il ⊢
        obtain ⟨m6, hm6⟩ : ∃ m, m = L.length := ⟨_, rfl⟩
        rw [← hm6]
        have HM := Lib.hid hm6
        have hm8 : m6 ≤ 8 := by rw [hm6, hL']; exact (V.out.live now).len
        clear hL' hm6
        go_wp2
        go_loopw [15, 81] (fun u s wr => ∃ (k : Nat) (m : Int), k ≤ m6 ∧ s = .int .i64 k ∧ u = .int .i64 m ∧ Hid (MinTo L k m) ∧ Below w7.heap.size w7 wr) (fun _ s _ => m6 - (intOf s).toNat)
        case atStart => exact ⟨0, _, Nat.zero_le _, rfl, rfl, Lib.hid (MinTo.zero L), Below.refl _ _⟩
        obtain ⟨k, m, hk, rfl, rfl, HT, hbel⟩ := hrel
        by_cases hlt : k < m6
        · obtain ⟨bb, off, a, hA, hbl, c0, c1, c2, HA⟩ := (il.below hbel).get (k := k) (by rw [← HM.out]; exact hlt)
          have i1 : (k : Int) < (m6 : Int) := by omega
          obtain ⟨p0, p1⟩ := GD.out a (List.mem_of_getElem? HA.out)
          have m0 := HT.out.m0
          have m1 := HT.out.m1
          subst hA
          rcases Int.lt_trichotomy m a.pin with q | q | q
          · have HN : Hid (MinTo L (k + 1) m) := Lib.hid (HT.out.next HA.out p0 p1 (by omega))
            clear HT HA
            go_wp2
            go_roundw
            case rel => exact ⟨k + 1, m, by omega, by go_num, rfl, HN, hbel.alloc hbel.size _⟩
            case measure => simp [intOf]; omega
          · have HN : Hid (MinTo L (k + 1) m) := Lib.hid (HT.out.next HA.out p0 p1 (by omega))
            have q' : a.pin = m := q.symm
            rw [q'] at c2
            clear HT HA q q' p0 p1
            go_wp2
            go_roundw
            case rel => exact ⟨k + 1, m, by omega, by go_num, rfl, HN, hbel.alloc hbel.size _⟩
            case measure => simp [intOf]; omega
          · have HN : Hid (MinTo L (k + 1) a.pin) := Lib.hid (HT.out.next HA.out p0 p1 (by omega))
            clear HT HA
            go_wp2
            go_roundw
            case rel => exact ⟨k + 1, a.pin, by omega, by go_num, rfl, HN, hbel.alloc hbel.size _⟩
            case measure => simp [intOf]; omega
        have i1 : ¬ (k : Int) < (m6 : Int) := by omega
        obtain rfl : k = m6 := by omega
        replace hb := below_trans hb hbel
        have hm : m = nn := by
          have := HT.out
          rw [HLL.out] at this
          exact this.pin (by rw [HM.out, HLL.out]) HP.out
        have HMN := Lib.hid hm
        rw [HMN.out]
        have kp : 0 < k := by
          rcases Nat.eq_zero_or_pos k with z | z
          · exact absurd (List.eq_nil_of_length_eq_zero (by rw [← HLL.out, ← HM.out]; exact z)) HL.out
          · exact z
        have kne : ¬ (k : Int) = 0 := by omega
        have kn2 : ((k : Int) == 0) = false := by rw [beq_eq_false_iff_ne]; exact kne
        clear hm HT
        go_wp2
        go_ret
        exact ⟨rfl, hb⟩
      · have HC : Hid (cuE now to l = 0) := Lib.hid (cu_iff.mpr ⟨v, by omega, by omega, HP.out.cut.mpr (by omega)⟩)
        clear v
        go_wp2_with fail
        refine (cut_yes A l _ c now to _ h rfl HC).mono ?_
        rintro e w4 ⟨A4, c4, rfl, o4, b4⟩
        have iy := Les.of_row o4
        replace h := h.below b4
        replace hb := below_trans hb b4
        replace ix := ix.below b4
        clear b4 o4
        go_wp2_with fail
        refine (refLeases_any A l _ c _ h rfl).mono ?_
        rintro e w5 ⟨rfl, b5⟩
        rw [HE.out]
        replace h := h.below b5
        replace hb := below_trans hb b5
        replace ix := ix.below b5
        replace iy := iy.below b5
        go_wp2_with fail
        refine (alive_any A l _ c now _ h rfl (by omega)).mono ?_
        rintro e w6 ⟨A6, c6, rfl, o6, b6⟩
        have il := Les.of_row o6
        replace h := h.below b6
        replace hb := below_trans hb b6
        replace ix := ix.below b6
        replace iy := iy.below b6
        go_wp2_with fail
        refine (leSame A2 A6 (liveL now l) _ _ _ _ _ ix il rfl rfl).mono ?_
        rintro e w7 ⟨rfl, n7, hw7⟩
        have b7 := below_of_drewN hw7
        replace il := il.below b7
        replace hb := below_trans hb b7
        replace iy := iy.below b7
        clear hw7 b5 b6 b7 o6 ix h
        obtain ⟨L, hL'⟩ : ∃ L, L = liveL now l := ⟨_, rfl⟩
        have HLL := Lib.hid hL'
        have GD : Hid (∀ a, a ∈ L → 0 ≤ a.pin ∧ a.pin ≤ 1000000) := Lib.hid (fun a ha => by
          rw [hL'] at ha
          have := lzBad_iff.mp (V.out.good a (mem_live.mp ha).1)
          omega)
        rw [← hL'] at il ⊢
        obtain ⟨m6, hm6⟩ : ∃ m, m = L.length := ⟨_, rfl⟩
        rw [← hm6]
        have HM := Lib.hid hm6
        have hm8 : m6 ≤ 8 := by rw [hm6, hL']; exact (V.out.live now).len
        clear hL' hm6
        go_wp2
        go_loopw [15, 81] (fun u s wr => ∃ (k : Nat) (m : Int), k ≤ m6 ∧ s = .int .i64 k ∧ u = .int .i64 m ∧ Hid (MinTo L k m) ∧ Below w7.heap.size w7 wr) (fun _ s _ => m6 - (intOf s).toNat)
        case atStart => exact ⟨0, _, Nat.zero_le _, rfl, rfl, Lib.hid (MinTo.zero L), Below.refl _ _⟩
        obtain ⟨k, m, hk, rfl, rfl, HT, hbel⟩ := hrel
        by_cases hlt : k < m6
        · obtain ⟨bb, off, a, hA, hbl, c0, c1, c2, HA⟩ := (il.below hbel).get (k := k) (by rw [← HM.out]; exact hlt)
          have i1 : (k : Int) < (m6 : Int) := by omega
          obtain ⟨p0, p1⟩ := GD.out a (List.mem_of_getElem? HA.out)
          have m0 := HT.out.m0
          have m1 := HT.out.m1
          subst hA
          rcases Int.lt_trichotomy m a.pin with q | q | q
          · have HN : Hid (MinTo L (k + 1) m) := Lib.hid (HT.out.next HA.out p0 p1 (by omega))
            clear HT HA
            go_wp2
            go_roundw
            case rel => exact ⟨k + 1, m, by omega, by go_num, rfl, HN, hbel.alloc hbel.size _⟩
            case measure => simp [intOf]; omega
          · have HN : Hid (MinTo L (k + 1) m) := Lib.hid (HT.out.next HA.out p0 p1 (by omega))
            have q' : a.pin = m := q.symm
            rw [q'] at c2
            clear HT HA q q' p0 p1
            go_wp2
            go_roundw
            case rel => exact ⟨k + 1, m, by omega, by go_num, rfl, HN, hbel.alloc hbel.size _⟩
            case measure => simp [intOf]; omega
          · have HN : Hid (MinTo L (k + 1) a.pin) := Lib.hid (HT.out.next HA.out p0 p1 (by omega))
            clear HT HA
            go_wp2
            go_roundw
            case rel => exact ⟨k + 1, a.pin, by omega, by go_num, rfl, HN, hbel.alloc hbel.size _⟩
            case measure => simp [intOf]; omega
        have i1 : ¬ (k : Int) < (m6 : Int) := by omega
        obtain rfl : k = m6 := by omega
        replace hb := below_trans hb hbel
        have hm : m = nn := by
          have := HT.out
          rw [HLL.out] at this
          exact this.pin (by rw [HM.out, HLL.out]) HP.out
        have HMN := Lib.hid hm
        rw [HMN.out]
        have kp : 0 < k := by
          rcases Nat.eq_zero_or_pos k with z | z
          · exact absurd (List.eq_nil_of_length_eq_zero (by rw [← HLL.out, ← HM.out]; exact z)) HL.out
          · exact z
        have kne : ¬ (k : Int) = 0 := by omega
        have kn2 : ((k : Int) == 0) = false := by rw [beq_eq_false_iff_ne]; exact kne
        clear hm HT
        rw [← HLL.out] at iy
        replace iy := iy.below hbel
        replace il := il.below hbel
        go_wp2_with fail
        refine (leSame A4 A6 L _ _ _ _ _ iy il HM.out HM.out).mono ?_
        rintro e w8 ⟨rfl, n8, hw8⟩
        replace hb := below_trans hb (below_of_drewN hw8)
        clear hw8
        go_wp2
        go_ret
        exact ⟨rfl, hb⟩

end Go.Proofs.Ytnpdcllfdoobeaa
