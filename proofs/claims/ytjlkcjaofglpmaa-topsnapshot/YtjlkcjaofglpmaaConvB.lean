
/-
  Walks: math/bits.Mul of one and a small number, slices.Repeat of one element, slices.Clone.
-/
import Derived.Test.YtjlkcjaofglpmaaConvA
import Derived.Laws.Bits64b
import Derived.Deep.RegionLaw
import Derived.Lib.SliceRun
namespace Go.Proofs.Ytjlkcjaofglpmaa
set_option linter.all false
open Go.RowKit Go.Shelf

/-- A row of n, of which the first k are v. -/
def fillAt (n k : Nat) (v : Int) : List Value := List.replicate k (.int .i64 v) ++ List.replicate (n - k) (.int .i64 0)
theorem fillAt_length {n k : Nat} (v : Int) (h : k ≤ n) : (fillAt n k v).length = n := by simp [fillAt]; omega
theorem fillAt_get {n k j : Nat} (v : Int) (h : j < k) : (fillAt n k v)[j]? = some (.int .i64 v) := by
  unfold fillAt; rw [List.getElem?_append_left (by simpa using h)]; simp [h]
theorem fillAt_full (n : Nat) (v : Int) : fillAt n n v = (List.replicate n v).map (Value.int .i64) := by simp [fillAt]
theorem fillAt_splice {n k m : Nat} (v : Int) (h : k + m ≤ n) : splice (fillAt n k v) k (List.replicate m (.int .i64 v)) = fillAt n (k + m) v := by
  unfold splice fillAt
  rw [List.take_left' (by simp), List.drop_append]
  simp only [List.length_replicate, List.drop_replicate]
  rw [show k - (k + m) = 0 by omega, show k + m - k = m by omega, show n - k - m = n - (k + m) by omega]
  simp only [List.replicate_zero, List.nil_append]
  rw [← List.append_assoc, List.replicate_append_replicate]

/-- What a call leaves that hands back a list of n, in a new block that it fills. -/
def AnsK (n : Nat) (L : List Int) (w : World) (e : Ending) (w' : World) : Prop :=
  ∃ g, e = .returned (.slice (some ⟨g, 0, none⟩) n n) ∧ w.heap.size ≤ g ∧ Blk w' g 3 (L.map (Value.int .i64)).toArray ∧ Below w.heap.size w w'

set_option maxHeartbeats 400000 in
theorem clone_any (A : Option Addr) (l : List Int) (c : Nat) (w : World) (h : Ints w A l) (hp : 0 < l.length) (h61 : l.length ≤ 61) :
    Calls Try.prog 21 #[.slice A l.length c] w (AnsL l w) := by
  obtain ⟨i0, hi0, hz0, hz1, hz2⟩ := info_parts int_info
  obtain ⟨b, off, rfl, hc⟩ := h.2 hp
  have HC := Lib.hid hc
  have hlt : b < w.heap.size := cell_lt (hc 0 hp)
  clear hc
  have q : ∀ (w : World) (a : Option Addr) (n c n' c' : Nat), (binOp .eql 22 (.slice a n c) (.slice none n' c')).run Try.prog w = .ok (.bool a.isNone) w := fun w a n c n' c' => Lib.run_eql_slice_nil w _ _ a n c n' c' Try.underlying22
  go_enter Try.func21, Try.ntmps21
  go_wp2_with (at_builtin; refine wpList_append_own _ rfl _ _ 22 rfl w.heap.size 3 i0 (.int .i64 0) 1 8 Try.underlying22 hi0 hz0 hz1 hz2 rfl (by decide) _ _ _ rfl (World.ownsRow_made w #[] 0 (Nat.le_refl _) (Nat.zero_le _) rfl) ⟨b, off, none⟩ l.length c (l.map (Value.int .i64)) rfl ?qc1 ?qc2 ?qc3 ?qc4 ?qc5 ?qc6 ?_)
  case qc1 => simp
  case qc2 =>
    intro j u hj
    have hjn : j < l.length := by have := (List.getElem?_eq_some_iff.1 hj).1; simpa using this
    rw [Addr.add_lit]
    refine (Below.cell ((Below.refl w.heap.size w).alloc (Nat.le_refl _) _) (p := ⟨b, off + j, none⟩) hlt).trans ?_
    rw [HC.out j hjn]
    simpa [List.getD, List.getElem?_eq_getElem hjn] using hj
  case qc3 => intro u hu; obtain ⟨x, _, rfl⟩ := List.mem_map.1 hu; rfl
  case qc4 => unfold maxLen; omega
  case qc5 => omega
  case qc6 => simp
  intro v' w1 hown hgrow hnil
  go_wp2
  go_ret
  exact AnsL.of (by simpa using hown) (((Below.refl _ w).alloc (Nat.le_refl _) _).grown hgrow (by simp) (by intro k hk; simp [Value.ownBlock] at hk; omega))

end Go.Proofs.Ytjlkcjaofglpmaa
