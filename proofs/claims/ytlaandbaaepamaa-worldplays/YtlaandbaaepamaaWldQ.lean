
/-
  The document's own world: its memory; more for all.
-/
import Derived.Test.YtlaandbaaepamaaRefA
import Derived.Test.YtlaandbaaepamaaWldE
namespace Go.Proofs.Ytlaandbaaepamaa
set_option linter.all false
open Go.RowKit Go.Shelf Go.Lib

/-- The document's own world in memory: a box at g, a row of peers at h. -/
structure RefAt (w : World) (g h : Nat) (s : WSt) : Prop where
  box : Blk w g 37 #[.int .i64 s.rate, .int .i64 s.unit, .slice (some ⟨h, 0, none⟩) s.d.l.length s.d.l.length, .int .i64 s.d.turn]
  row : Blk w h 34 (pecs s.d.l).toArray
  ne : g ≠ h
/-- Only two blocks have turned, and what is new. -/
structure But2 (B : Nat) (w w' : World) (g h : Nat) : Prop where
  b : Below B w w'
  block : ∀ b, b < w.heap.size → b ≠ g → b ≠ h → w'.heap[b]? = w.heap[b]?
theorem But2.refl (B : Nat) (w : World) (g h : Nat) : But2 B w w g h := ⟨Below.refl _ _, fun _ _ _ _ => rfl⟩
theorem But2.step {B : Nat} {w w' w2 : World} {g h : Nat} (k : But2 B w w' g h) (hB : B ≤ w'.heap.size) (b : Below w'.heap.size w' w2) : But2 B w w2 g h :=
  ⟨k.b.trans (b.mono hB), fun i hi ne1 ne2 => (b.block i (Nat.lt_of_lt_of_le hi k.b.size)).trans (k.block i hi ne1 ne2)⟩
theorem But2.setg {B : Nat} {w w' : World} {g h : Nat} (k : But2 B w w' g h) (hB : B ≤ g) (i : Nat) (u : Value) : But2 B w (w'.setCell ⟨g, i, none⟩ u) g h :=
  ⟨k.b.setCell (p := ⟨g, i, none⟩) hB u, fun j hj ne1 ne2 => (Below.heap_setCell w' ⟨g, i, none⟩ u j (fun e => ne1 e)).trans (k.block j hj ne1 ne2)⟩
theorem But2.seth {B : Nat} {w w' : World} {g h : Nat} (k : But2 B w w' g h) (hB : B ≤ h) (i : Nat) (u : Value) : But2 B w (w'.setCell ⟨h, i, none⟩ u) g h :=
  ⟨k.b.setCell (p := ⟨h, i, none⟩) hB u, fun j hj ne1 ne2 => (Below.heap_setCell w' ⟨h, i, none⟩ u j (fun e => ne2 e)).trans (k.block j hj ne1 ne2)⟩
theorem But2.trans {B : Nat} {w w' w2 : World} {g h : Nat} (k : But2 B w w' g h) (m : But2 B w' w2 g h) : But2 B w w2 g h :=
  ⟨k.b.trans m.b, fun i hi ne1 ne2 => (m.block i (Nat.lt_of_lt_of_le hi k.b.size) ne1 ne2).trans (k.block i hi ne1 ne2)⟩
theorem RefAt.below {w w' : World} {g h : Nat} {s : WSt} (k : RefAt w g h s) (b : Below w.heap.size w w') : RefAt w' g h s := ⟨k.box.below b, k.row.below b, k.ne⟩
theorem RefAt.cells {w : World} {g h : Nat} {s : WSt} (k : RefAt w g h s) : w.cell? ⟨g, 0, none⟩ = some (.int .i64 s.rate) ∧ w.cell? ⟨g, 1, none⟩ = some (.int .i64 s.unit) ∧ w.cell? ⟨g, 2, none⟩ = some (.slice (some ⟨h, 0, none⟩) s.d.l.length s.d.l.length) ∧ w.cell? ⟨g, 3, none⟩ = some (.int .i64 s.d.turn) :=
  ⟨by simpa using k.box.cell 0, by simpa using k.box.cell 1, by simpa using k.box.cell 2, by simpa using k.box.cell 3⟩
set_option maxHeartbeats 3200000 in
theorem rappend_any (B g h : Nat) (s : WSt) (k : Int) (w : World) (ok : StOk s) (hR : RefAt w g h s) (hg : B ≤ g) (hh : B ≤ h) :
    Calls Try.prog 14 #[.pointer (some ⟨g, 0, none⟩), .int .i64 k] w fun e w' => e = .returned (.int .i64 (apE k s)) ∧ RefAt w' g h (apW k s) ∧ But2 B w w' g h := by
  have hgl := hR.box.lt
  have hhl := hR.row.lt
  have ne := hR.ne
  have ne' : ¬ h = g := fun e => ne e.symm
  by_cases hk : k < 0
  · have hE : apE k s = 1 := by rw [apE, if_pos hk]
    have hW : apW k s = s := by rw [apW, hE]; rfl
    rw [hE, hW]
    clear hE hW
    go_enter Try.func14, Try.ntmps14
    go_wp2
    go_ret
    exact ⟨rfl, hR, But2.refl _ _ _ _⟩
  · obtain ⟨N, hN⟩ : ∃ N, s.d.l.length = N := ⟨_, rfl⟩
    have hN1 := ok.n0
    have hN8 := ok.n1
    rw [hN] at hN1 hN8
    obtain ⟨r0, r1, r2, r3⟩ := hR.cells
    have hrow := hR.row
    have HBX : Hid (Blk w g 37 #[.int .i64 s.rate, .int .i64 s.unit, .slice (some ⟨h, 0, none⟩) N N, .int .i64 s.d.turn]) := Lib.hid (by rw [← hN]; exact hR.box)
    rw [hN] at r2
    have HN := Lib.hid hN
    have HOK := Lib.hid ok
    have hR0 := hR
    clear hN ok hR
    go_enter Try.func14, Try.ntmps14
    go_wp2
    have HR : Hid (RefAt w g h s) := Lib.hid hR0
    clear hR0
    go_loopw [15] (fun i wr => ∃ j : Nat, j ≤ N ∧ i = .int .i64 j ∧ Hid (∀ i, i < j → (pr s.d.l i).lag + k ≤ 1000000) ∧ Below w.heap.size w wr) (fun i _ => N - (intOf i).toNat)
    case atStart => exact ⟨0, Nat.zero_le _, rfl, Lib.hid (fun i hi => by omega), Below.refl _ _⟩
    case round =>
      obtain ⟨j, hj, rfl, HJ, hbel⟩ := hrel
      by_cases hlt : j < N
      · obtain ⟨c0, c1, c2⟩ := (hrow.below hbel).peer (i := j) (by rw [HN.out]; exact hlt)
        have x0 := (HOK.out.ok.ok j (by rw [HN.out]; exact hlt)).lag0
        have x1 := HOK.out.lag j (by rw [HN.out]; exact hlt)
        obtain ⟨x, hx⟩ : ∃ x, x = (pr s.d.l j).lag := ⟨_, rfl⟩
        obtain ⟨y, hy⟩ : ∃ y, y = (pr s.d.l j).part := ⟨_, rfl⟩
        obtain ⟨z, hz⟩ : ∃ z, z = (pr s.d.l j).done := ⟨_, rfl⟩
        rw [← hx] at c0 x0 x1
        rw [← hy] at c1
        rw [← hz] at c2
        have HX := Lib.hid hx
        have i1 : (j : Int) < (N : Int) := by omega
        have hb2 := hbel.alloc hbel.size (.cells #[.int .i64 x, .int .i64 y, .bool z] 34)
        have HNO : Hid (1000000 < x + k → apE k s = 2) := Lib.hid (fun c => by
          have : overB k s.d.l = true := by
            cases o : overB k s.d.l with
            | true => rfl
            | false => have := over_iff.1 o j (by rw [HN.out]; exact hlt); rw [← HX.out] at this; omega
          rw [apE, if_neg (by omega), this]; rfl)
        have HYES : Hid (x + k ≤ 1000000 → ∀ i, i < j + 1 → (pr s.d.l i).lag + k ≤ 1000000) := Lib.hid (fun c i hi => by
          by_cases e : i = j
          · subst e; rw [← HX.out]; exact c
          · exact HJ.out i (by omega))
        have HFIN : Hid (∀ W, Below w.heap.size w W → apE k s = 2 → RefAt W g h (apW k s) ∧ But2 B w W g h) := Lib.hid (fun W b e => by
          have hW : apW k s = s := by rw [apW, e]; rfl
          rw [hW]
          exact ⟨HR.out.below b, (But2.refl _ _ _ _).step (by omega) b⟩)
        clear hx hy hz hbel hrow
        rcases Int.lt_trichotomy k 1000001 with q | q | q
        · have s1 : IntKind.i64.wrap (1000000 - k) = 1000000 - k := IntWalk.i64_in _ ⟨by omega, by omega⟩
          by_cases c : x + k ≤ 1000000
          · have i2 : ¬ 1000000 - k < x := by omega
            have HY := Lib.hid (HYES.out c)
            go_wp2
            go_roundw
            case rel => exact ⟨j + 1, by omega, by go_num, HY, hb2⟩
            case measure => simp [intOf]; omega
          · have i2 : 1000000 - k < x := by omega
            have HY := Lib.hid (HNO.out (by omega))
            go_wp2
            go_ret
            rw [HY.out]
            exact ⟨rfl, HFIN.out _ hb2 HY.out⟩
        · subst q
          have i2 : (-1 : Int) < x := by omega
          have HY := Lib.hid (HNO.out (by omega))
          go_wp2
          go_ret
          rw [HY.out]
          exact ⟨rfl, HFIN.out _ hb2 HY.out⟩
        · have i2 : (-1 : Int) < x := by omega
          have HY := Lib.hid (HNO.out (by omega))
          go_wp2
          go_ret
          rw [HY.out]
          exact ⟨rfl, HFIN.out _ hb2 HY.out⟩
      · obtain rfl : j = N := by omega
        have HE : Hid (apE k s = 0) := Lib.hid (by
          have : overB k s.d.l = false := over_iff.2 (fun i hi => HJ.out i (by rw [HN.out] at hi; exact hi))
          rw [apE, if_neg (by omega), this]; rfl)
        have HL : Hid (∀ i, i < j → 0 ≤ (pr s.d.l i).lag ∧ (pr s.d.l i).lag + k ≤ 1000000 ∧ ((pr s.d.l i).done = true ↔ (pr s.d.l i).lag = 0)) := Lib.hid (fun i hi => ⟨(HOK.out.ok.ok i (by rw [HN.out]; exact hi)).lag0, HJ.out i hi, (HOK.out.ok.ok i (by rw [HN.out]; exact hi)).done⟩)
        have hB0 := hrow.below hbel
        have hX0 := HBX.out.below hbel
        have hbt : But2 B w wr g h := (But2.refl _ _ _ _).step (by omega) hbel
        clear HJ hrow HBX HR r0 r1 r2 r3 hbel
        have r2 : wr.cell? ⟨g, 2, none⟩ = some (.slice (some ⟨h, 0, none⟩) j j) := by simpa using hX0.cell 2
        go_wp2
        go_loopw [31] (fun i wr => ∃ t : Nat, t ≤ j ∧ i = .int .i64 t ∧ Blk wr h 34 (pecs (moreTo k s.d.l t)).toArray ∧ Blk wr g 37 #[.int .i64 s.rate, .int .i64 s.unit, .slice (some ⟨h, 0, none⟩) j j, .int .i64 s.d.turn] ∧ But2 B w wr g h) (fun i _ => j - (intOf i).toNat)
        case atStart => exact ⟨0, Nat.zero_le _, rfl, hB0, hX0, hbt⟩
        case round =>
          clear hB0 hX0 hbt
          obtain ⟨t, ht, rfl, hB, hX, hbt⟩ := hrel
          by_cases hlt2 : t < j
          · have hl : t < (moreTo k s.d.l t).length := by rw [length_moreTo, HN.out]; exact hlt2
            have hpr := pr_moreTo k s.d.l t t (by rw [HN.out]; exact hlt2)
            rw [if_neg (by omega)] at hpr
            obtain ⟨c0, c1, c2⟩ := hB.peer hl
            obtain ⟨x0, x1, xz⟩ := HL.out t hlt2
            obtain ⟨x, hx⟩ : ∃ x, x = (pr s.d.l t).lag := ⟨_, rfl⟩
            rw [hpr, ← hx] at c0
            rw [← hx] at x0 x1 xz
            have i1 : (t : Int) < (j : Int) := by omega
            have s1 : IntKind.i64.wrap (x + k) = x + k := IntWalk.i64_in _ ⟨by omega, by omega⟩
            have r2 : wr.cell? ⟨g, 2, none⟩ = some (.slice (some ⟨h, 0, none⟩) j j) := by simpa using hX.cell 2
            have f0 := hB.frozen (t * 3)
            have B1 := hB.setl (i := t * 3) (.int .i64 (x + k))
            have X1 := hX.past (a := ⟨h, t * 3, none⟩) ne (.int .i64 (x + k))
            have T1 := hbt.seth hh (t * 3) (.int .i64 (x + k))
            have r2' : (wr.setCell ⟨h, t * 3, none⟩ (.int .i64 (x + k))).cell? ⟨g, 2, none⟩ = some (.slice (some ⟨h, 0, none⟩) j j) := by simpa using X1.cell 2
            have d0 : (wr.setCell ⟨h, t * 3, none⟩ (.int .i64 (x + k))).cell? ⟨h, t * 3, none⟩ = some (.int .i64 (x + k)) := by
              rw [B1.cell, List.getElem?_toArray, List.getElem?_set_self (by rw [length_pecs]; omega)]
            have f2 := B1.frozen (t * 3 + 2)
            have hl1 := hB.lt
            by_cases c : 0 < x + k
            · have d2 : (wr.setCell ⟨h, t * 3, none⟩ (.int .i64 (x + k))).cell? ⟨h, t * 3 + 2, none⟩ = some (.bool (pr (moreTo k s.d.l t) t).done) := by
                rw [B1.cell, List.getElem?_toArray, List.getElem?_set_ne (by omega), ← List.getElem?_toArray, ← hB.cell]; exact c2
              have M1 := Lib.hid (B1.setl (i := t * 3 + 2) (.bool false))
              have M : Hid (Blk ((wr.setCell ⟨h, t * 3, none⟩ (.int .i64 (x + k))).setCell ⟨h, t * 3 + 2, none⟩ (.bool false)) h 34 (pecs (moreTo k s.d.l (t + 1))).toArray) := Lib.hid (by
                have q := M1.out
                rw [pecs_more hl, hpr] at q
                rw [moreTo, Per.more, ← hx, decide_eq_false (by omega)]
                exact q)
              have MX := Lib.hid (X1.past (a := ⟨h, t * 3 + 2, none⟩) ne (.bool false))
              have MT := Lib.hid (T1.seth hh (t * 3 + 2) (.bool false))
              clear hB hX hbt B1 X1 T1 hpr hx xz c1 c2 hl
              go_wp2
              go_roundw
              case rel => exact ⟨t + 1, by omega, by go_num, M.out, MX.out, MT.out⟩
              case measure => simp [intOf]; omega
            · have M : Hid (Blk (wr.setCell ⟨h, t * 3, none⟩ (.int .i64 (x + k))) h 34 (pecs (moreTo k s.d.l (t + 1))).toArray) := Lib.hid (by
                have q := B1
                rw [pecs_lag hl, hpr] at q
                rw [moreTo, Per.more, ← hx, decide_eq_true (show x + k = 0 by omega)]
                rw [xz.2 (by omega)] at q
                exact q)
              have MX := Lib.hid X1
              have MT := Lib.hid T1
              clear hB hX hbt B1 X1 T1 hpr hx xz c1 c2 hl
              go_wp2
              go_roundw
              case rel => exact ⟨t + 1, by omega, by go_num, M.out, MX.out, MT.out⟩
              case measure => simp [intOf]; omega
          · obtain rfl : t = j := by omega
            have HW : Hid (RefAt wr g h (apW k s)) := Lib.hid (by
              have e : apW k s = moreW k s := by rw [apW, if_pos HE.out]
              have l : (s.d.l.map (Per.more k)).length = t := by rw [List.length_map, HN.out]
              rw [e]
              refine ⟨?_, ?_, ne⟩
              · show Blk wr g 37 #[.int .i64 s.rate, .int .i64 s.unit, .slice (some ⟨h, 0, none⟩) (s.d.l.map (Per.more k)).length (s.d.l.map (Per.more k)).length, .int .i64 s.d.turn]
                rw [l]; exact hX
              · show Blk wr h 34 (pecs (s.d.l.map (Per.more k))).toArray
                rw [← moreTo_all, HN.out]; exact hB)
            clear hB hX
            go_wp2
            go_ret
            rw [HE.out]
            exact ⟨rfl, HW.out, hbt⟩

end Go.Proofs.Ytlaandbaaepamaa
