
/-
  slices.Sort of a list of integers in a row of its own.
-/
import Derived.Test.YtmejapenidociaaSortL
import Derived.Test.YtmejapenidociaaLittleP
import Derived.Test.YtmejapenidociaaRefA
import Derived.Sort.OwnSortedInts
namespace Go.Proofs.Ytmejapenidociaa
set_option linter.all false
open Go.RowKit Go.Shelf

theorem sort_own (base g c : Nat) (l : List Int) (w : World) (own : w.ownsRow base 3 1 (.slice (some ⟨g, 0, none⟩) l.length c) l.length (l.map (Value.int .i64))) (hl : l.length ≤ 1000) :
    Calls Try.prog 14 #[.slice (some ⟨g, 0, none⟩) l.length c] w fun e w' => e = .returned (.tuple #[]) ∧ w'.ownsRow base 3 1 (.slice (some ⟨g, 0, none⟩) l.length c) l.length ((srt l).map (Value.int .i64)) ∧ Below base w w' := by
  rcases own.2 with ⟨h', _⟩ | ⟨g', cap, cur, hv, hbase, hblk, hn, hm, hs, ht⟩
  · cases h'
  · injection hv with e1 e2 e3
    injection e1 with e1
    injection e1 with e1
    subst e1 e3
    have hH := Go.holds_of_blockI hblk (by simpa using ht)
    refine (Try.slices_Sort_int g 0 c l w hH (own.lt g rfl).2 (by omega)).mono ?_
    rintro e w' ⟨rfl, n, os, rfl⟩
    refine ⟨rfl, Go.ownsRow_sortedI (ss := l) (ts := srt l) (length_srt l) hbase hblk hn hm hs, ?_⟩
    exact (Below.refl base w).grown (Go.grownBy_sortedI _) (own.lt g rfl |>.2 |> fun h => by omega) (by intro k hk; cases hk; exact hbase)

end Go.Proofs.Ytmejapenidociaa
