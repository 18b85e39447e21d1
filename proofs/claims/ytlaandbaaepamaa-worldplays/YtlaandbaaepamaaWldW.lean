
/-
  The document's own world: made.
-/
import Derived.Test.YtlaandbaaepamaaWldV
namespace Go.Proofs.Ytlaandbaaepamaa
set_option linter.all false
open Go.RowKit Go.Shelf Go.Lib

set_option maxHeartbeats 800000 in
theorem rnew_any (n : Nat) (r u : Int) (w : World) (h0 : 0 < n) (hn : n ≤ 8) :
    Calls Try.prog 11 #[.int .i64 n, .int .i64 r, .int .i64 u] w fun e w' => ∃ g h, e = .returned (.pointer (some ⟨g, 0, none⟩)) ∧ RefAt w' g h (newW n r u) ∧ w.heap.size ≤ g ∧ w.heap.size ≤ h ∧ g < w'.heap.size ∧ h < w'.heap.size ∧ Below w.heap.size w w' := by
  obtain ⟨W1, hW1⟩ : ∃ W1, W1 = w.alloc (.cells #[.int .i64 0, .int .i64 0, .bool true] 34) := ⟨_, rfl⟩
  obtain ⟨b, hb⟩ : ∃ b, b = w.heap.size := ⟨_, rfl⟩
  have B1 : Blk W1 b 34 #[.int .i64 0, .int .i64 0, .bool true] := by rw [hW1, hb]; exact Blk.new _ _ _
  have b1 : Below w.heap.size w W1 := by rw [hW1]; exact (Below.refl _ _).alloc (Nat.le_refl _) _
  have HW1 := Lib.hid hW1
  have HB := Lib.hid hb
  clear hW1 hb
  go_enter Try.func11, Try.ntmps11
  go_wp2_with fail
  rw [← HW1.out, ← HB.out]
  refine (repeat_peer b 1 n _ B1 h0 hn).mono ?_
  rintro e w2 ⟨h, rfl, hh, BH, b2⟩
  have bb := below_trans b1 b2
  have hl := BH.lt
  have BH2 := BH.alloc (.cells #[.int .i64 r, .int .i64 u, .slice (some ⟨h, 0, none⟩) n n, .int .i64 0] 37)
  have BG := Blk.new w2 37 #[.int .i64 r, .int .i64 u, .slice (some ⟨h, 0, none⟩) n n, .int .i64 0]
  have b3 := bb.alloc bb.size (.cells #[.int .i64 r, .int .i64 u, .slice (some ⟨h, 0, none⟩) n n, .int .i64 0] 37)
  have hs1 := b1.size
  have hs2 := bb.size
  have lg := BG.lt
  have lh := BH2.lt
  have HR : Hid (RefAt (w2.alloc (.cells #[.int .i64 r, .int .i64 u, .slice (some ⟨h, 0, none⟩) n n, .int .i64 0] 37)) w2.heap.size h (newW n r u)) := Lib.hid (by
    refine ⟨?_, BH2, by omega⟩
    show Blk _ _ _ #[.int .i64 r, .int .i64 u, .slice (some ⟨h, 0, none⟩) (List.replicate n p0).length (List.replicate n p0).length, .int .i64 ((0 : Nat) : Int)]
    rw [List.length_replicate]
    exact BG)
  clear BH BH2 BG b1 b2 bb
  go_wp2
  go_ret
  exact ⟨_, h, rfl, HR.out, by omega, by omega, lg, lh, b3⟩

end Go.Proofs.Ytlaandbaaepamaa
