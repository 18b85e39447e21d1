
/-
  Walks: the leases that live, by the document (headref.Alive).
-/
import Derived.Test.YtnpdcllfdoobeaaLeaD
import Derived.Test.YtnpdcllfdoobeaaLeaU
namespace Go.Proofs.Ytnpdcllfdoobeaa
set_option linter.all false
open Go.RowKit Go.Shelf Go.Lib

theorem prz_alive (bb : Nat) (now : Int) : Prz 64 bb (fun w => Blk w bb 3 #[.int .i64 now]) (fun x => decide (x.till ≤ now)) where
  ent := enters_of Try.func64 (by kernel_rfl) rfl
  keep := fun h b => h.below b
  ans := fun x w h => by
    obtain ⟨x1, x2, x3⟩ := x
    have c0 : w.cell? ⟨bb, 0, none⟩ = some (.int .i64 now) := by simpa using h.cell 0
    have hlt := h.lt
    obtain ⟨s, hs⟩ : ∃ s, decide (x2 ≤ now) = s := ⟨_, rfl⟩
    simp only
    rw [hs]
    have ne : ¬ bb = w.heap.size := by omega
    by_cases c : x2 ≤ now
    · have HS : Hid (s = true) := Lib.hid (by rw [← hs, decide_eq_true c])
      clear hs
      go_enter Try.func64, Try.ntmps64
      go_wp2
      go_ret
      exact ⟨ret_bool HS.out.symm, (Below.refl _ w).alloc (Nat.le_refl _) _⟩
    · have HS : Hid (s = false) := Lib.hid (by rw [← hs, decide_eq_false c])
      clear hs
      go_enter Try.func64, Try.ntmps64
      go_wp2
      go_ret
      exact ⟨ret_bool HS.out.symm, (Below.refl _ w).alloc (Nat.le_refl _) _⟩
theorem live_keep (now : Int) (l : List Lz) : l.filter (fun a => !decide (a.till ≤ now)) = liveL now l := by
  unfold liveL
  congr 1
  funext a
  by_cases c : a.till ≤ now
  · rw [decide_eq_true c, decide_eq_false (by omega)]; rfl
  · rw [decide_eq_false c, decide_eq_true (by omega)]; rfl
/-- A list of leases in new memory. -/
def AnsZl (L : List Lz) (w : World) (e : Ending) (w' : World) : Prop :=
  ∃ A c, e = .returned (.slice A L.length c) ∧ w'.ownsRow w.heap.size 35 3 (.slice A L.length c) L.length (lcs L) ∧ Below w.heap.size w w'
set_option maxHeartbeats 800000 in
theorem alive_any (A : Option Addr) (l : List Lz) (n c : Nat) (now : Int) (w : World) (h : Les w A l) (hn : n = l.length) (h8 : n ≤ 1000) :
    Calls Try.prog 31 #[.slice A n c, .int .i64 now] w (AnsZl (liveL now l) w) := by
  obtain ⟨bb, hbb⟩ : ∃ bb, bb = w.heap.size := ⟨_, rfl⟩
  obtain ⟨W, hW⟩ : ∃ W, W = w.alloc (.cells #[.int .i64 now] 3) := ⟨_, rfl⟩
  have bW : Below w.heap.size w W := by rw [hW]; exact (Below.refl _ _).alloc (Nat.le_refl _) _
  have BW : Blk W bb 3 #[.int .i64 now] := by rw [hW, hbb]; exact Blk.new _ _ _
  have hlt := BW.lt
  have i1 := h.below bW
  have HW := Lib.hid hW
  have HB := Lib.hid hbb
  have KK := Lib.hid (live_keep now l)
  have hcl := clone_le A l n c W i1 hn h8
  have HN := Lib.hid hn
  clear hW hbb h hn
  go_enter Try.func31, Try.ntmps31
  go_wp2_with fail
  rw [← HW.out]
  refine hcl.mono ?_
  rintro e w1 ⟨A1, c1, rfl, o1, b1⟩
  have B1 := BW.below b1
  have hsz := b1.size
  rw [← HB.out]
  clear hcl
  go_wp2_with fail
  refine (delFunc_any _ bb 3 _ _ (prz_alive bb now) A1 n c1 W.heap.size l w1 HN.out h8 hsz o1 B1 hlt).mono ?_
  rintro e w2 ⟨A2, c2, rfl, o2, b2⟩
  rw [KK.out] at o2
  rw [KK.out]
  have hb : Below w.heap.size w w2 := bW.trans ((b1.trans b2).mono bW.size)
  have o3 := own_lower o2 bW.size
  clear o1 o2 b1 b2 BW B1 i1 KK
  go_wp2
  go_ret
  exact ⟨A2, c2, rfl, o3, hb⟩

end Go.Proofs.Ytnpdcllfdoobeaa
