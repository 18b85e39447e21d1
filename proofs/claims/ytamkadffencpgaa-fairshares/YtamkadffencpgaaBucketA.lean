
/-
  Walks: package bucket's Check, Tick and Take; the document's Bucket.
-/
import Derived.Test.YtamkadffencpgaaRefA
import Derived.Test.YtamkadffencpgaaPointB
import Derived.Laws.StructEq
namespace Go.Proofs.Ytamkadffencpgaa
set_option linter.all false
open Go.RowKit Go.Shelf

set_option maxHeartbeats 400000 in
theorem lim_any (x lo hi : Int) (s : Bool) (w : World) (hs : Hid (decide (x < lo ∨ hi < x) = s)) : Calls Try.prog 39 #[.int .i64 x, .int .i64 lo, .int .i64 hi] w fun e w' => e = .returned (.bool s) ∧ w = w' := by
  by_cases h : x < lo
  · have H : Hid (Hid (s = true)) := Lib.hid (Lib.hid (by rw [← hs.out]; simp [h]))
    clear hs
    go_enter Try.func39, Try.ntmps39
    go_wp2
    go_ret
    exact ⟨ret_bool H.out.out.symm, rfl⟩
  · have H : Hid (Hid (decide (hi < x) = s)) := Lib.hid (Lib.hid (by rw [← hs.out]; simp [h]))
    clear hs
    go_enter Try.func39, Try.ntmps39
    go_wp2
    go_ret
    exact ⟨ret_bool H.out.out, rfl⟩
set_option maxHeartbeats 400000 in
theorem wit_any (x lo hi : Int) (s : Bool) (w : World) (hs : Hid (decide (x < lo ∨ hi < x) = !s)) : Calls Try.prog 37 #[.int .i64 x, .int .i64 lo, .int .i64 hi] w fun e w' => e = .returned (.bool s) ∧ w = w' := by
  by_cases h : x < lo
  · have H : Hid (Hid (s = false)) := Lib.hid (Lib.hid (by have := hs.out; simp [h] at this; exact this))
    have h' : ¬ lo ≤ x := by omega
    clear hs
    go_enter Try.func37, Try.ntmps37
    go_wp2
    go_ret
    exact ⟨ret_bool H.out.out.symm, rfl⟩
  · have H : Hid (Hid (decide (x ≤ hi) = s)) := Lib.hid (Lib.hid (by
      have q := hs.out
      by_cases e : x ≤ hi
      · have e' : ¬ hi < x := by omega
        simp [h, e'] at q; simp [e, q]
      · have e' : hi < x := by omega
        simp [e'] at q; simp [e, q]))
    have h' : lo ≤ x := by omega
    clear hs
    go_enter Try.func37, Try.ntmps37
    go_wp2
    go_ret
    exact ⟨ret_bool H.out.out, rfl⟩
theorem lim_yes {x lo hi : Int} (h : x < lo ∨ hi < x) : Hid (decide (x < lo ∨ hi < x) = true) := Lib.hid (decide_eq_true h)
theorem lim_no {x lo hi : Int} (h : lo ≤ x) (h' : x ≤ hi) : Hid (decide (x < lo ∨ hi < x) = false) := Lib.hid (decide_eq_false (by omega))

/-- A bucket that may be. -/
structure Bk (r b f : Int) : Prop where
  r0 : 0 ≤ r
  r1 : r ≤ 10000
  b0 : 0 ≤ b
  b1 : b ≤ 1000000
  f0 : 0 ≤ f
  f1 : f ≤ b
/-- What Check answers. -/
def bkE (r b f : Int) : Int := if 0 ≤ r ∧ r ≤ 10000 ∧ 0 ≤ b ∧ b ≤ 1000000 ∧ 0 ≤ f ∧ f ≤ b then 0 else 1
theorem Bk.ok {r b f : Int} (h : Bk r b f) : bkE r b f = 0 := if_pos ⟨h.r0, h.r1, h.b0, h.b1, h.f0, h.f1⟩
theorem bk_no {r b f : Int} (h : ¬ Bk r b f) : bkE r b f = 1 := if_neg (fun ⟨a, b, c, d, e, f⟩ => h ⟨a, b, c, d, e, f⟩)
theorem bk_of {r b f : Int} (h : bkE r b f = 0) : Bk r b f := Classical.byContradiction (fun k => by rw [bk_no k] at h; cases h)

theorem alloc_below (w : World) (o : Obj) : Below w.heap.size w (w.alloc o) := (Below.refl _ _).alloc (Nat.le_refl _) _

set_option maxHeartbeats 800000 in
theorem bcheck_any (r b f : Int) (w : World) : Calls Try.prog 48 #[.agg #[.int .i64 r, .int .i64 b, .int .i64 f]] w fun e w' => e = .returned (.int .i64 (bkE r b f)) ∧ Below w.heap.size w w' := by
  by_cases hr : r < 0 ∨ 10000 < r
  · have HE : Hid (bkE r b f = 1) := Lib.hid (if_neg (by omega))
    have q1 := lim_yes hr
    clear hr
    go_enter Try.func48, Try.ntmps48
    go_wp2_with fail
    refine (lim_any r 0 10000 true _ q1).mono ?_
    rintro e w' ⟨rfl, rfl⟩
    go_wp2
    go_ret
    exact ⟨ret_int HE.out.symm, alloc_below _ _⟩
  have r0 : 0 ≤ r := by omega
  have r1 : r ≤ 10000 := by omega
  have q1 := lim_no r0 r1
  clear hr
  by_cases hb : b < 0 ∨ 1000000 < b
  · have HE : Hid (bkE r b f = 1) := Lib.hid (if_neg (by omega))
    have q2 := lim_yes hb
    clear hb
    go_enter Try.func48, Try.ntmps48
    go_wp2_with fail
    refine (lim_any r 0 10000 false _ q1).mono ?_
    rintro e w' ⟨rfl, rfl⟩
    go_wp2_with fail
    refine (lim_any b 0 1000000 true _ q2).mono ?_
    rintro e w' ⟨rfl, rfl⟩
    go_wp2
    go_ret
    exact ⟨ret_int HE.out.symm, alloc_below _ _⟩
  have b0 : 0 ≤ b := by omega
  have b1 : b ≤ 1000000 := by omega
  have q2 := lim_no b0 b1
  clear hb
  by_cases hf : f < 0 ∨ b < f
  · have HE : Hid (bkE r b f = 1) := Lib.hid (if_neg (by omega))
    have q3 := lim_yes hf
    clear hf
    go_enter Try.func48, Try.ntmps48
    go_wp2_with fail
    refine (lim_any r 0 10000 false _ q1).mono ?_
    rintro e w' ⟨rfl, rfl⟩
    go_wp2_with fail
    refine (lim_any b 0 1000000 false _ q2).mono ?_
    rintro e w' ⟨rfl, rfl⟩
    go_wp2_with fail
    refine (lim_any f 0 b true _ q3).mono ?_
    rintro e w' ⟨rfl, rfl⟩
    go_wp2
    go_ret
    exact ⟨ret_int HE.out.symm, alloc_below _ _⟩
  have f0 : 0 ≤ f := by omega
  have f1 : f ≤ b := by omega
  have q3 := lim_no f0 f1
  have HE : Hid (bkE r b f = 0) := Lib.hid (if_pos ⟨r0, r1, b0, b1, f0, f1⟩)
  clear hf
  go_enter Try.func48, Try.ntmps48
  go_wp2_with fail
  refine (lim_any r 0 10000 false _ q1).mono ?_
  rintro e w' ⟨rfl, rfl⟩
  go_wp2_with fail
  refine (lim_any b 0 1000000 false _ q2).mono ?_
  rintro e w' ⟨rfl, rfl⟩
  go_wp2_with fail
  refine (lim_any f 0 b false _ q3).mono ?_
  rintro e w' ⟨rfl, rfl⟩
  go_wp2
  go_ret
  exact ⟨ret_int HE.out.symm, alloc_below _ _⟩
theorem bcell {W w1 : World} (hb : Below W.heap.size W w1) : (∀ b o, b < W.heap.size → w1.cell? ⟨b, o, none⟩ = W.cell? ⟨b, o, none⟩) ∧ (∀ b o, b < W.heap.size → w1.frozen? ⟨b, o, none⟩ = W.frozen? ⟨b, o, none⟩) :=
  ⟨fun _ _ h => hb.cell h, fun _ _ h => hb.frozen h⟩

/-- What a struct of three that lies in a block of its own reads as, and what it reads as behind a store. -/
theorem three_set {W : World} {g : Nat} {t : TypeId} {x y z : Value} (h : Blk W g t #[x, y, z]) : ∀ v, (W.setCell ⟨g, 2, none⟩ v).cell? ⟨g, 2, none⟩ = some v := fun v => by
  have := (h.set_ 2 v).cell 2
  simpa using this
theorem Blk.below {w w' : World} {g : Nat} {t : TypeId} {cs : Array Value} (h : Blk w g t cs) (hb : Below w.heap.size w w') : Blk w' g t cs := (hb.block g h.lt).trans h
theorem Blk.past {W : World} {g : Nat} {t : TypeId} {cs : Array Value} (h : Blk W g t cs) {a : Addr} (ha : g ≠ a.block) (u : Value) : Blk (W.setCell a u) g t cs := h.same (Below.heap_setCell W a u g ha)
theorem three_sets {W : World} {g : Nat} {t : TypeId} {x y z : Value} (h : Blk W g t #[x, y, z]) (a b c : Value) : Blk (((W.setCell ⟨g, 0, none⟩ a).setCell ⟨g, 1, none⟩ b).setCell ⟨g, 2, none⟩ c) g t #[a, b, c] := by
  have := ((h.set_ 0 a).set_ 1 b).set_ 2 c
  simpa using this
theorem three_read {W : World} {g : Nat} {t : TypeId} {x y z : Value} (h : Blk W g t #[x, y, z]) : W.cell? ⟨g, 0, none⟩ = some x ∧ W.cell? ⟨g, 1, none⟩ = some y ∧ W.cell? ⟨g, 2, none⟩ = some z :=
  ⟨by simpa using h.cell 0, by simpa using h.cell 1, by simpa using h.cell 2⟩
theorem below_three {w W : World} {g : Nat} (h : Below w.heap.size w W) (hg : w.heap.size ≤ g) (a b c : Value) : Below w.heap.size w (((W.setCell ⟨g, 0, none⟩ a).setCell ⟨g, 1, none⟩ b).setCell ⟨g, 2, none⟩ c) :=
  ((h.setCell (p := ⟨g, 0, none⟩) hg a).setCell (p := ⟨g, 1, none⟩) hg b).setCell (p := ⟨g, 2, none⟩) hg c

set_option maxHeartbeats 800000 in
theorem tick_no (r b f n : Int) (w : World) (h : Bk r b f → n < 0 ∨ 200 < n) :
    Calls Try.prog 49 #[.agg #[.int .i64 r, .int .i64 b, .int .i64 f], .int .i64 n] w fun e w' => e = .returned (.tuple #[.agg #[.int .i64 0, .int .i64 0, .int .i64 0], .int .i64 1]) ∧ Below w.heap.size w w' := by
  by_cases hB : Bk r b f
  · have HE := Lib.hid hB.ok
    have q := lim_yes (h hB)
    clear h hB
    go_enter Try.func49, Try.ntmps49
    go_wp2_with fail
    refine (bcheck_any r b f _).mono ?_
    rintro e w1 ⟨rfl, hb⟩
    obtain ⟨hc, hf⟩ := bcell hb
    have hz : w.heap.size + 1 < w1.heap.size := by have := hb.size; simp at this; omega
    have hb' : Below w.heap.size w w1 := below_of2 hb
    have hs := three_set (((Blk.new w 42 #[.int .i64 r, .int .i64 b, .int .i64 f]).alloc _).below hb)
    have hk : Blk w1 (w.heap.size + 1) 42 #[.int .i64 0, .int .i64 0, .int .i64 0] := by have := (Blk.new (w.alloc (.cells #[.int .i64 r, .int .i64 b, .int .i64 f] 42)) 42 #[.int .i64 0, .int .i64 0, .int .i64 0]).below hb; simpa using this
    clear hb
    rw [HE.out]
    go_wp2_with fail
    refine (lim_any n 0 200 true _ q).mono ?_
    rintro e w' ⟨rfl, rfl⟩
    go_wp2
    have hk' := three_sets hk (.int .i64 0) (.int .i64 0) (.int .i64 0)
    have hb2 : Below w.heap.size w _ := below_three (g := w.heap.size + 1) hb' (by omega) (.int .i64 0) (.int .i64 0) (.int .i64 0)
    generalize (((w1.setCell ⟨w.heap.size + 1, 0, none⟩ (.int .i64 0)).setCell ⟨w.heap.size + 1, 1, none⟩ (.int .i64 0)).setCell ⟨w.heap.size + 1, 2, none⟩ (.int .i64 0)) = W' at *
    obtain ⟨x0, x1, x2⟩ := three_read hk'
    exact bodyPost_ret (v := .tuple #[.agg #[.int .i64 0, .int .i64 0, .int .i64 0], .int .i64 1]) (by simp [results, Try.results49, go_sem, x0, x1, x2]) rfl ⟨rfl, hb2⟩
  · have HE := Lib.hid (bk_no hB)
    clear h hB
    go_enter Try.func49, Try.ntmps49
    go_wp2_with fail
    refine (bcheck_any r b f _).mono ?_
    rintro e w1 ⟨rfl, hb⟩
    obtain ⟨hc, hf⟩ := bcell hb
    have hz : w.heap.size + 1 < w1.heap.size := by have := hb.size; simp at this; omega
    have hb' : Below w.heap.size w w1 := below_of2 hb
    have hs := three_set (((Blk.new w 42 #[.int .i64 r, .int .i64 b, .int .i64 f]).alloc _).below hb)
    have hk : Blk w1 (w.heap.size + 1) 42 #[.int .i64 0, .int .i64 0, .int .i64 0] := by have := (Blk.new (w.alloc (.cells #[.int .i64 r, .int .i64 b, .int .i64 f] 42)) 42 #[.int .i64 0, .int .i64 0, .int .i64 0]).below hb; simpa using this
    clear hb
    rw [HE.out]
    go_wp2
    have hk' := three_sets hk (.int .i64 0) (.int .i64 0) (.int .i64 0)
    have hb2 : Below w.heap.size w _ := below_three (g := w.heap.size + 1) hb' (by omega) (.int .i64 0) (.int .i64 0) (.int .i64 0)
    generalize (((w1.setCell ⟨w.heap.size + 1, 0, none⟩ (.int .i64 0)).setCell ⟨w.heap.size + 1, 1, none⟩ (.int .i64 0)).setCell ⟨w.heap.size + 1, 2, none⟩ (.int .i64 0)) = W' at *
    obtain ⟨x0, x1, x2⟩ := three_read hk'
    exact bodyPost_ret (v := .tuple #[.agg #[.int .i64 0, .int .i64 0, .int .i64 0], .int .i64 1]) (by simp [results, Try.results49, go_sem, x0, x1, x2]) rfl ⟨rfl, hb2⟩
set_option maxHeartbeats 800000 in
theorem take_arg (r b f n : Int) (w : World) (h : Bk r b f → n < 0) :
    Calls Try.prog 50 #[.agg #[.int .i64 r, .int .i64 b, .int .i64 f], .int .i64 n] w fun e w' => e = .returned (.tuple #[.agg #[.int .i64 0, .int .i64 0, .int .i64 0], .int .i64 1]) ∧ Below w.heap.size w w' := by
  by_cases hB : Bk r b f
  · have HE := Lib.hid hB.ok
    have q := h hB
    clear h hB
    go_enter Try.func50, Try.ntmps50
    go_wp2_with fail
    refine (bcheck_any r b f _).mono ?_
    rintro e w1 ⟨rfl, hb⟩
    obtain ⟨hc, hf⟩ := bcell hb
    have hz : w.heap.size + 1 < w1.heap.size := by have := hb.size; simp at this; omega
    have hb' : Below w.heap.size w w1 := below_of2 hb
    have hs := three_set (((Blk.new w 42 #[.int .i64 r, .int .i64 b, .int .i64 f]).alloc _).below hb)
    have hk : Blk w1 (w.heap.size + 1) 42 #[.int .i64 0, .int .i64 0, .int .i64 0] := by have := (Blk.new (w.alloc (.cells #[.int .i64 r, .int .i64 b, .int .i64 f] 42)) 42 #[.int .i64 0, .int .i64 0, .int .i64 0]).below hb; simpa using this
    clear hb
    rw [HE.out]
    go_wp2
    have hk' := three_sets hk (.int .i64 0) (.int .i64 0) (.int .i64 0)
    have hb2 : Below w.heap.size w _ := below_three (g := w.heap.size + 1) hb' (by omega) (.int .i64 0) (.int .i64 0) (.int .i64 0)
    generalize (((w1.setCell ⟨w.heap.size + 1, 0, none⟩ (.int .i64 0)).setCell ⟨w.heap.size + 1, 1, none⟩ (.int .i64 0)).setCell ⟨w.heap.size + 1, 2, none⟩ (.int .i64 0)) = W' at *
    obtain ⟨x0, x1, x2⟩ := three_read hk'
    exact bodyPost_ret (v := .tuple #[.agg #[.int .i64 0, .int .i64 0, .int .i64 0], .int .i64 1]) (by simp [results, Try.results50, go_sem, x0, x1, x2]) rfl ⟨rfl, hb2⟩
  · have HE := Lib.hid (bk_no hB)
    clear h hB
    go_enter Try.func50, Try.ntmps50
    go_wp2_with fail
    refine (bcheck_any r b f _).mono ?_
    rintro e w1 ⟨rfl, hb⟩
    obtain ⟨hc, hf⟩ := bcell hb
    have hz : w.heap.size + 1 < w1.heap.size := by have := hb.size; simp at this; omega
    have hb' : Below w.heap.size w w1 := below_of2 hb
    have hs := three_set (((Blk.new w 42 #[.int .i64 r, .int .i64 b, .int .i64 f]).alloc _).below hb)
    have hk : Blk w1 (w.heap.size + 1) 42 #[.int .i64 0, .int .i64 0, .int .i64 0] := by have := (Blk.new (w.alloc (.cells #[.int .i64 r, .int .i64 b, .int .i64 f] 42)) 42 #[.int .i64 0, .int .i64 0, .int .i64 0]).below hb; simpa using this
    clear hb
    rw [HE.out]
    go_wp2
    have hk' := three_sets hk (.int .i64 0) (.int .i64 0) (.int .i64 0)
    have hb2 : Below w.heap.size w _ := below_three (g := w.heap.size + 1) hb' (by omega) (.int .i64 0) (.int .i64 0) (.int .i64 0)
    generalize (((w1.setCell ⟨w.heap.size + 1, 0, none⟩ (.int .i64 0)).setCell ⟨w.heap.size + 1, 1, none⟩ (.int .i64 0)).setCell ⟨w.heap.size + 1, 2, none⟩ (.int .i64 0)) = W' at *
    obtain ⟨x0, x1, x2⟩ := three_read hk'
    exact bodyPost_ret (v := .tuple #[.agg #[.int .i64 0, .int .i64 0, .int .i64 0], .int .i64 1]) (by simp [results, Try.results50, go_sem, x0, x1, x2]) rfl ⟨rfl, hb2⟩
set_option maxHeartbeats 800000 in
theorem take_full (r b f n : Int) (w : World) (h : Bk r b f) (hn : f < n) :
    Calls Try.prog 50 #[.agg #[.int .i64 r, .int .i64 b, .int .i64 f], .int .i64 n] w fun e w' => e = .returned (.tuple #[.agg #[.int .i64 0, .int .i64 0, .int .i64 0], .int .i64 6]) ∧ Below w.heap.size w w' := by
  have HE := Lib.hid h.ok
  have f0 := h.f0
  have n0 : ¬ n < 0 := by omega
  clear h
  go_enter Try.func50, Try.ntmps50
  go_wp2_with fail
  refine (bcheck_any r b f _).mono ?_
  rintro e w1 ⟨rfl, hb⟩
  obtain ⟨hc, hf⟩ := bcell hb
  have hz : w.heap.size + 1 < w1.heap.size := by have := hb.size; simp at this; omega
  have hb' : Below w.heap.size w w1 := below_of2 hb
  have hs := three_set (((Blk.new w 42 #[.int .i64 r, .int .i64 b, .int .i64 f]).alloc _).below hb)
  have hk : Blk w1 (w.heap.size + 1) 42 #[.int .i64 0, .int .i64 0, .int .i64 0] := by have := (Blk.new (w.alloc (.cells #[.int .i64 r, .int .i64 b, .int .i64 f] 42)) 42 #[.int .i64 0, .int .i64 0, .int .i64 0]).below hb; simpa using this
  clear hb
  rw [HE.out]
  go_wp2
  have hk' := three_sets hk (.int .i64 0) (.int .i64 0) (.int .i64 0)
  have hb2 : Below w.heap.size w _ := below_three (g := w.heap.size + 1) hb' (by omega) (.int .i64 0) (.int .i64 0) (.int .i64 0)
  generalize (((w1.setCell ⟨w.heap.size + 1, 0, none⟩ (.int .i64 0)).setCell ⟨w.heap.size + 1, 1, none⟩ (.int .i64 0)).setCell ⟨w.heap.size + 1, 2, none⟩ (.int .i64 0)) = W' at *
  obtain ⟨x0, x1, x2⟩ := three_read hk'
  exact bodyPost_ret (v := .tuple #[.agg #[.int .i64 0, .int .i64 0, .int .i64 0], .int .i64 6]) (by simp [results, Try.results50, go_sem, x0, x1, x2]) rfl ⟨rfl, hb2⟩
set_option maxHeartbeats 800000 in
theorem take_yes (r b f n g : Int) (w : World) (h : Bk r b f) (n0 : 0 ≤ n) (hn : n ≤ f) (hg : g = f - n) :
    Calls Try.prog 50 #[.agg #[.int .i64 r, .int .i64 b, .int .i64 f], .int .i64 n] w fun e w' => e = .returned (.tuple #[.agg #[.int .i64 r, .int .i64 b, .int .i64 g], .int .i64 0]) ∧ Below w.heap.size w w' := by
  subst hg
  have HE := Lib.hid h.ok
  have f0 := h.f0
  have f1 := h.f1
  have b1 := h.b1
  clear h
  go_enter Try.func50, Try.ntmps50
  go_wp2_with fail
  refine (bcheck_any r b f _).mono ?_
  rintro e w1 ⟨rfl, hb⟩
  obtain ⟨hc, hf⟩ := bcell hb
  have hz : w.heap.size + 1 < w1.heap.size := by have := hb.size; simp at this; omega
  have hb' : Below w.heap.size w w1 := below_of2 hb
  have hs := three_set (((Blk.new w 42 #[.int .i64 r, .int .i64 b, .int .i64 f]).alloc _).below hb)
  have hk : Blk w1 (w.heap.size + 1) 42 #[.int .i64 0, .int .i64 0, .int .i64 0] := by have := (Blk.new (w.alloc (.cells #[.int .i64 r, .int .i64 b, .int .i64 f] 42)) 42 #[.int .i64 0, .int .i64 0, .int .i64 0]).below hb; simpa using this
  clear hb
  rw [HE.out]
  go_wp2
  have hk' := three_sets (hk.past (a := ⟨w.heap.size, 2, none⟩) (by simp) (.int .i64 (f - n))) (.int .i64 r) (.int .i64 b) (.int .i64 (f - n))
  have hb2 : Below w.heap.size w _ := below_three (g := w.heap.size + 1) (hb'.setCell (p := ⟨w.heap.size, 2, none⟩) (Nat.le_refl _) (.int .i64 (f - n))) (by omega) (.int .i64 r) (.int .i64 b) (.int .i64 (f - n))
  generalize ((((w1.setCell ⟨w.heap.size, 2, none⟩ (.int .i64 (f - n))).setCell ⟨w.heap.size + 1, 0, none⟩ (.int .i64 r)).setCell ⟨w.heap.size + 1, 1, none⟩ (.int .i64 b)).setCell ⟨w.heap.size + 1, 2, none⟩ (.int .i64 (f - n))) = W' at *
  obtain ⟨x0, x1, x2⟩ := three_read hk'
  exact bodyPost_ret (v := .tuple #[.agg #[.int .i64 r, .int .i64 b, .int .i64 (f - n)], .int .i64 0]) (by simp [results, Try.results50, go_sem, x0, x1, x2]) rfl ⟨rfl, hb2⟩
set_option maxHeartbeats 800000 in
theorem tick_yes (r b f n g : Int) (w : World) (h : Bk r b f) (n0 : 0 ≤ n) (n1 : n ≤ 200) (hg : g = min b (f + n * r)) :
    Calls Try.prog 49 #[.agg #[.int .i64 r, .int .i64 b, .int .i64 f], .int .i64 n] w fun e w' => e = .returned (.tuple #[.agg #[.int .i64 r, .int .i64 b, .int .i64 g], .int .i64 0]) ∧ Below w.heap.size w w' := by
  have HE := Lib.hid h.ok
  have q := lim_no n0 n1
  have m0 : 0 ≤ n * r := Int.mul_nonneg n0 h.r0
  have m1 : n * r ≤ 200 * 10000 := Int.mul_le_mul n1 h.r1 h.r0 (by decide)
  have f0 := h.f0
  have f1 := h.f1
  have b1 := h.b1
  obtain ⟨m, hm⟩ : ∃ m, m = n * r := ⟨_, rfl⟩
  rw [← hm] at hg m0 m1
  have s1 : IntKind.i64.wrap (n * r) = m := by rw [← hm]; exact IntWalk.i64_in _ ⟨by omega, by omega⟩
  clear h hm
  by_cases hlt : b < f + m
  · have GE : Hid (g = b) := Lib.hid (by omega)
    rw [GE.out]
    clear hg
    go_enter Try.func49, Try.ntmps49
    go_wp2_with fail
    refine (bcheck_any r b f _).mono ?_
    rintro e w1 ⟨rfl, hb⟩
    obtain ⟨hc, hf⟩ := bcell hb
    have hz : w.heap.size + 1 < w1.heap.size := by have := hb.size; simp at this; omega
    have hb' : Below w.heap.size w w1 := below_of2 hb
    have hs := three_set (((Blk.new w 42 #[.int .i64 r, .int .i64 b, .int .i64 f]).alloc _).below hb)
    have hk : Blk w1 (w.heap.size + 1) 42 #[.int .i64 0, .int .i64 0, .int .i64 0] := by have := (Blk.new (w.alloc (.cells #[.int .i64 r, .int .i64 b, .int .i64 f] 42)) 42 #[.int .i64 0, .int .i64 0, .int .i64 0]).below hb; simpa using this
    clear hb
    rw [HE.out]
    go_wp2_with fail
    refine (lim_any n 0 200 false _ q).mono ?_
    rintro e w' ⟨rfl, rfl⟩
    go_wp2
    have hk' := three_sets (hk.past (a := ⟨w.heap.size, 2, none⟩) (by simp) (.int .i64 b)) (.int .i64 r) (.int .i64 b) (.int .i64 b)
    have hb2 : Below w.heap.size w _ := below_three (g := w.heap.size + 1) (hb'.setCell (p := ⟨w.heap.size, 2, none⟩) (Nat.le_refl _) (.int .i64 b)) (by omega) (.int .i64 r) (.int .i64 b) (.int .i64 b)
    generalize ((((w1.setCell ⟨w.heap.size, 2, none⟩ (.int .i64 b)).setCell ⟨w.heap.size + 1, 0, none⟩ (.int .i64 r)).setCell ⟨w.heap.size + 1, 1, none⟩ (.int .i64 b)).setCell ⟨w.heap.size + 1, 2, none⟩ (.int .i64 b)) = W' at *
    obtain ⟨x0, x1, x2⟩ := three_read hk'
    exact bodyPost_ret (v := .tuple #[.agg #[.int .i64 r, .int .i64 b, .int .i64 b], .int .i64 0]) (by simp [results, Try.results49, go_sem, x0, x1, x2]) rfl ⟨rfl, hb2⟩
  by_cases hgt : f + m < b
  · have GE : Hid (g = f + m) := Lib.hid (by omega)
    rw [GE.out]
    clear hg hlt
    go_enter Try.func49, Try.ntmps49
    go_wp2_with fail
    refine (bcheck_any r b f _).mono ?_
    rintro e w1 ⟨rfl, hb⟩
    obtain ⟨hc, hf⟩ := bcell hb
    have hz : w.heap.size + 1 < w1.heap.size := by have := hb.size; simp at this; omega
    have hb' : Below w.heap.size w w1 := below_of2 hb
    have hs := three_set (((Blk.new w 42 #[.int .i64 r, .int .i64 b, .int .i64 f]).alloc _).below hb)
    have hk : Blk w1 (w.heap.size + 1) 42 #[.int .i64 0, .int .i64 0, .int .i64 0] := by have := (Blk.new (w.alloc (.cells #[.int .i64 r, .int .i64 b, .int .i64 f] 42)) 42 #[.int .i64 0, .int .i64 0, .int .i64 0]).below hb; simpa using this
    clear hb
    rw [HE.out]
    go_wp2_with fail
    refine (lim_any n 0 200 false _ q).mono ?_
    rintro e w' ⟨rfl, rfl⟩
    go_wp2
    have hk' := three_sets (hk.past (a := ⟨w.heap.size, 2, none⟩) (by simp) (.int .i64 (f + m))) (.int .i64 r) (.int .i64 b) (.int .i64 (f + m))
    have hb2 : Below w.heap.size w _ := below_three (g := w.heap.size + 1) (hb'.setCell (p := ⟨w.heap.size, 2, none⟩) (Nat.le_refl _) (.int .i64 (f + m))) (by omega) (.int .i64 r) (.int .i64 b) (.int .i64 (f + m))
    generalize ((((w1.setCell ⟨w.heap.size, 2, none⟩ (.int .i64 (f + m))).setCell ⟨w.heap.size + 1, 0, none⟩ (.int .i64 r)).setCell ⟨w.heap.size + 1, 1, none⟩ (.int .i64 b)).setCell ⟨w.heap.size + 1, 2, none⟩ (.int .i64 (f + m))) = W' at *
    obtain ⟨x0, x1, x2⟩ := three_read hk'
    exact bodyPost_ret (v := .tuple #[.agg #[.int .i64 r, .int .i64 b, .int .i64 (f + m)], .int .i64 0]) (by simp [results, Try.results49, go_sem, x0, x1, x2]) rfl ⟨rfl, hb2⟩
  · have GE : Hid (g = b) := Lib.hid (by omega)
    rw [GE.out]
    have s2 : IntKind.i64.wrap (f + m) = b := by rw [show f + m = b by omega]; exact IntWalk.i64_in _ ⟨by omega, by omega⟩
    clear hg hlt hgt m0 m1
    go_enter Try.func49, Try.ntmps49
    go_wp2_with fail
    refine (bcheck_any r b f _).mono ?_
    rintro e w1 ⟨rfl, hb⟩
    obtain ⟨hc, hf⟩ := bcell hb
    have hz : w.heap.size + 1 < w1.heap.size := by have := hb.size; simp at this; omega
    have hb' : Below w.heap.size w w1 := below_of2 hb
    have hs := three_set (((Blk.new w 42 #[.int .i64 r, .int .i64 b, .int .i64 f]).alloc _).below hb)
    have hk : Blk w1 (w.heap.size + 1) 42 #[.int .i64 0, .int .i64 0, .int .i64 0] := by have := (Blk.new (w.alloc (.cells #[.int .i64 r, .int .i64 b, .int .i64 f] 42)) 42 #[.int .i64 0, .int .i64 0, .int .i64 0]).below hb; simpa using this
    clear hb
    rw [HE.out]
    go_wp2_with fail
    refine (lim_any n 0 200 false _ q).mono ?_
    rintro e w' ⟨rfl, rfl⟩
    go_wp2
    have hk' := three_sets (hk.past (a := ⟨w.heap.size, 2, none⟩) (by simp) (.int .i64 b)) (.int .i64 r) (.int .i64 b) (.int .i64 b)
    have hb2 : Below w.heap.size w _ := below_three (g := w.heap.size + 1) (hb'.setCell (p := ⟨w.heap.size, 2, none⟩) (Nat.le_refl _) (.int .i64 b)) (by omega) (.int .i64 r) (.int .i64 b) (.int .i64 b)
    generalize ((((w1.setCell ⟨w.heap.size, 2, none⟩ (.int .i64 b)).setCell ⟨w.heap.size + 1, 0, none⟩ (.int .i64 r)).setCell ⟨w.heap.size + 1, 1, none⟩ (.int .i64 b)).setCell ⟨w.heap.size + 1, 2, none⟩ (.int .i64 b)) = W' at *
    obtain ⟨x0, x1, x2⟩ := three_read hk'
    exact bodyPost_ret (v := .tuple #[.agg #[.int .i64 r, .int .i64 b, .int .i64 b], .int .i64 0]) (by simp [results, Try.results49, go_sem, x0, x1, x2]) rfl ⟨rfl, hb2⟩

end Go.Proofs.Ytamkadffencpgaa
