
/-
  Walks: package bucket's Check, Tick and Take; the document's Bucket.
-/
import Derived.Test.YtlaandbaaepamaaRefA
import Derived.Test.YtlaandbaaepamaaPointB
import Derived.Laws.StructEq
namespace Go.Proofs.Ytlaandbaaepamaa
set_option linter.all false
open Go.RowKit Go.Shelf

set_option maxHeartbeats 400000 in
theorem lim_any (x lo hi : Int) (s : Bool) (w : World) (hs : Hid (decide (x < lo ∨ hi < x) = s)) : Calls Try.prog 31 #[.int .i64 x, .int .i64 lo, .int .i64 hi] w fun e w' => e = .returned (.bool s) ∧ w = w' := by
  by_cases h : x < lo
  · have H : Hid (Hid (s = true)) := Lib.hid (Lib.hid (by rw [← hs.out]; simp [h]))
    clear hs
    go_enter Try.func31, Try.ntmps31
    go_wp2
    go_ret
    exact ⟨ret_bool H.out.out.symm, rfl⟩
  · have H : Hid (Hid (decide (hi < x) = s)) := Lib.hid (Lib.hid (by rw [← hs.out]; simp [h]))
    clear hs
    go_enter Try.func31, Try.ntmps31
    go_wp2
    go_ret
    exact ⟨ret_bool H.out.out, rfl⟩
theorem lim_yes {x lo hi : Int} (h : x < lo ∨ hi < x) : Hid (decide (x < lo ∨ hi < x) = true) := Lib.hid (decide_eq_true h)
theorem lim_no {x lo hi : Int} (h : lo ≤ x) (h' : x ≤ hi) : Hid (decide (x < lo ∨ hi < x) = false) := Lib.hid (decide_eq_false (by omega))

/-- A bucket that may be. -/
structure Bk (r b f : Int) : Prop where
  r0 : 0 ≤ r
  r1 : r ≤ 10000
  b0 : 0 ≤ b
  b1 : b ≤ 1000000
  f0 : 0 ≤ f
  f1 : f ≤ b
/-- What Check answers. -/
def bkE (r b f : Int) : Int := if 0 ≤ r ∧ r ≤ 10000 ∧ 0 ≤ b ∧ b ≤ 1000000 ∧ 0 ≤ f ∧ f ≤ b then 0 else 1
theorem Bk.ok {r b f : Int} (h : Bk r b f) : bkE r b f = 0 := if_pos ⟨h.r0, h.r1, h.b0, h.b1, h.f0, h.f1⟩
theorem bk_no {r b f : Int} (h : ¬ Bk r b f) : bkE r b f = 1 := if_neg (fun ⟨a, b, c, d, e, f⟩ => h ⟨a, b, c, d, e, f⟩)
theorem bk_of {r b f : Int} (h : bkE r b f = 0) : Bk r b f := Classical.byContradiction (fun k => by rw [bk_no k] at h; cases h)

theorem alloc_below (w : World) (o : Obj) : Below w.heap.size w (w.alloc o) := (Below.refl _ _).alloc (Nat.le_refl _) _

theorem bcell {W w1 : World} (hb : Below W.heap.size W w1) : (∀ b o, b < W.heap.size → w1.cell? ⟨b, o, none⟩ = W.cell? ⟨b, o, none⟩) ∧ (∀ b o, b < W.heap.size → w1.frozen? ⟨b, o, none⟩ = W.frozen? ⟨b, o, none⟩) :=
  ⟨fun _ _ h => hb.cell h, fun _ _ h => hb.frozen h⟩

/-- What a struct of three that lies in a block of its own reads as, and what it reads as behind a store. -/
theorem three_set {W : World} {g : Nat} {t : TypeId} {x y z : Value} (h : Blk W g t #[x, y, z]) : ∀ v, (W.setCell ⟨g, 2, none⟩ v).cell? ⟨g, 2, none⟩ = some v := fun v => by
  have := (h.set_ 2 v).cell 2
  simpa using this
theorem Blk.below {w w' : World} {g : Nat} {t : TypeId} {cs : Array Value} (h : Blk w g t cs) (hb : Below w.heap.size w w') : Blk w' g t cs := (hb.block g h.lt).trans h
theorem Blk.past {W : World} {g : Nat} {t : TypeId} {cs : Array Value} (h : Blk W g t cs) {a : Addr} (ha : g ≠ a.block) (u : Value) : Blk (W.setCell a u) g t cs := h.same (Below.heap_setCell W a u g ha)
theorem three_sets {W : World} {g : Nat} {t : TypeId} {x y z : Value} (h : Blk W g t #[x, y, z]) (a b c : Value) : Blk (((W.setCell ⟨g, 0, none⟩ a).setCell ⟨g, 1, none⟩ b).setCell ⟨g, 2, none⟩ c) g t #[a, b, c] := by
  have := ((h.set_ 0 a).set_ 1 b).set_ 2 c
  simpa using this
theorem three_read {W : World} {g : Nat} {t : TypeId} {x y z : Value} (h : Blk W g t #[x, y, z]) : W.cell? ⟨g, 0, none⟩ = some x ∧ W.cell? ⟨g, 1, none⟩ = some y ∧ W.cell? ⟨g, 2, none⟩ = some z :=
  ⟨by simpa using h.cell 0, by simpa using h.cell 1, by simpa using h.cell 2⟩
theorem below_three {w W : World} {g : Nat} (h : Below w.heap.size w W) (hg : w.heap.size ≤ g) (a b c : Value) : Below w.heap.size w (((W.setCell ⟨g, 0, none⟩ a).setCell ⟨g, 1, none⟩ b).setCell ⟨g, 2, none⟩ c) :=
  ((h.setCell (p := ⟨g, 0, none⟩) hg a).setCell (p := ⟨g, 1, none⟩) hg b).setCell (p := ⟨g, 2, none⟩) hg c

end Go.Proofs.Ytlaandbaaepamaa
