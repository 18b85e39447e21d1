
/-
  The document's own world: as it begins.
-/
import Derived.Test.YtlaandbaaepamaaWldU
import Derived.Test.YtlaandbaaepamaaCpyW
namespace Go.Proofs.Ytlaandbaaepamaa
set_option linter.all false
open Go.RowKit Go.Shelf Go.Lib

theorem peer_info : (Try.prog.info? 34).map (fun i => (i.zero, i.size, i.bytes)) = some (some (.agg #[.int .i64 0, .int .i64 0, .bool false]), 3, 24) := by kernel_rfl
theorem peer_size : (Try.prog.info? 34).map (·.size) = some 3 := by kernel_rfl
def p0 : Per := ⟨0, 0, true⟩
theorem pecs_splice {n k m : Nat} {cur : List Value} (hc : cur.length = n * 3) (hk : cur.take (k * 3) = pecs (List.replicate k p0)) (h : k + m ≤ n) :
    (splice cur (k * 3) (pecs (List.replicate m p0))).length = n * 3 ∧ (splice cur (k * 3) (pecs (List.replicate m p0))).take ((k + m) * 3) = pecs (List.replicate (k + m) p0) := by
  have lm : (pecs (List.replicate m p0)).length = m * 3 := by rw [length_pecs, List.length_replicate]
  refine ⟨by rw [length_splice _ _ _ (by omega), hc], ?_⟩
  unfold splice
  rw [hk, ← List.append_assoc, ← pecs_append, List.replicate_append_replicate, List.take_left' (by rw [length_pecs, List.length_replicate])]
set_option maxHeartbeats 1600000 in
theorem repeat_peer (b c n : Nat) (w : World) (hb : Blk w b 34 #[.int .i64 0, .int .i64 0, .bool true]) (h0 : 0 < n) (hn : n ≤ 8) :
    Calls Try.prog 32 #[.slice (some ⟨b, 0, none⟩) 1 c, .int .i64 n] w fun e w' => ∃ g, e = .returned (.slice (some ⟨g, 0, none⟩) n n) ∧ w.heap.size ≤ g ∧ Blk w' g 34 (pecs (List.replicate n p0)).toArray ∧ Below w.heap.size w w' := by
  obtain ⟨i0, hi0, hz0, hz1, hz2⟩ := info_parts peer_info
  have hlt := hb.lt
  have z1 : (0 : Int) ≤ n := by omega
  have z2 : (n : Int) ≤ 1000 := by omega
  have f1 : decide ((n : Int) < 0) = false := decide_eq_false (by omega)
  have f2 : decide (9223372036854775807 < (n : Int)) = false := decide_eq_false (by omega)
  have hmk : ∀ W, Sem.run Try.prog (Instr.makeSlice 35 (.int .i64 n) (.int .i64 n)) W = .ok (.slice (some ⟨W.heap.size, 0, none⟩) n n) (W.alloc (.cells (madeCells #[.int .i64 0, .int .i64 0, .bool false] (n * 3)) 34)) := fun W => by
    have hr := run_make (P := Try.prog) W 35 34 i0 _ Try.underlying35 hi0 hz0 .i64 .i64 n n (by omega) (Int.le_refl _) (by rw [hz2]; omega) (by omega)
    simp only [Int.toNat_natCast, hz1] at hr
    exact hr
  go_enter Try.func32, Try.ntmps32
  go_wp2_with fail
  refine (mul_one_any n (by omega) _).mono ?_
  rintro e w' ⟨rfl, rfl⟩
  go_wp2_with (with_reducible refine wpList_copy_wide rfl (.tmp 31) (.tmp 32) 35 35 rfl 34 3 Try.underlying35 peer_size w.heap.size 0 ⟨b, 0, none⟩ n n 1 c rfl rfl (madeCells #[.int .i64 0, .int .i64 0, .bool false] (n * 3)).toList 34 ?hg (pecs (List.replicate 1 p0)) 1 ?hm rfl ?hsrc ?hfit (pecs_one _) w.heap.size w ?hb (Nat.le_refl _) ?_)
  case hg => rw [Array.toArray_toList]; exact heap_alloc_new w _
  case hm => simp [Nat.min_def]; omega
  case hsrc =>
    intro j u hu
    rw [Addr.add_lit, Nat.zero_add, (hb.alloc _).cell]
    simpa [pecs, p0] using hu
  case hfit => simp [size_madeCells, length_pecs]; omega
  case hb => exact (Below.refl _ _).alloc (Nat.le_refl _) _
  intro w2 HG2 hb2
  have HB1 : Hid (∃ cur : List Value, Blk w2 w.heap.size 34 cur.toArray ∧ cur.length = n * 3 ∧ cur.take (1 * 3) = pecs (List.replicate 1 p0)) := Lib.hid (by
    have q := pecs_splice (n := n) (k := 0) (m := 1) (cur := (madeCells #[.int .i64 0, .int .i64 0, .bool false] (n * 3)).toList) (by simp [size_madeCells]) (by simp [pecs]) (by omega)
    exact ⟨_, HG2.out, by simpa using q.1, by simpa using q.2⟩)
  clear HG2
  go_wp2
  go_loopw [8] (fun i wr => ∃ k : Nat, 1 ≤ k ∧ k ≤ n ∧ i = .int .i64 k ∧ Hid (∃ cur : List Value, Blk wr w.heap.size 34 cur.toArray ∧ cur.length = n * 3 ∧ cur.take (k * 3) = pecs (List.replicate k p0)) ∧ Below w.heap.size w wr) (fun i _ => n - (intOf i).toNat)
  case atStart => exact ⟨1, Nat.le_refl _, h0, rfl, HB1, hb2⟩
  case round =>
    obtain ⟨k, hk1, hk, rfl, HB, hbel⟩ := hrel
    by_cases hlt' : k < n
    · obtain ⟨m, hm⟩ : ∃ m, m = Nat.min k (n - k) := ⟨_, rfl⟩
      have hm' : m = min k (n - k) := hm
      have m1 : 1 ≤ m := by omega
      have m2 : k + m ≤ n := by omega
      have m3 : m ≤ k := by omega
      have HM := Lib.hid hm
      obtain ⟨cur, bk, lc, tk⟩ := HB.out
      have HBK := Lib.hid bk
      have HLC := Lib.hid lc
      have HNX := Lib.hid (pecs_splice lc tk m2)
      have HCELL : Hid (∀ j u, (pecs (List.replicate m p0))[j]? = some u → wr.cell? ((⟨w.heap.size, 0, none⟩ : Addr).add j) = some u) := Lib.hid (by
        intro j u hu
        have hj : j < m * 3 := by have := (List.getElem?_eq_some_iff.1 hu).1; rwa [length_pecs, List.length_replicate] at this
        rw [Addr.add_lit, Nat.zero_add, bk.cell, List.getElem?_toArray]
        have e : cur[j]? = (cur.take (k * 3))[j]? := by rw [List.getElem?_take, if_pos (by omega)]
        rw [e, tk, show k = m + (k - m) by omega, ← List.replicate_append_replicate, pecs_append, List.getElem?_append_left (by rw [length_pecs, List.length_replicate]; exact hj)]
        exact hu)
      clear hm hm' bk lc tk
      have hne : ¬ n = k := by omega
      have e1 : IntKind.i64.wrap ((k : Int) + (m : Int)) = (k : Int) + (m : Int) := IntWalk.i64_in _ ⟨by omega, by omega⟩
      have i1 : (k : Int) ≤ (n : Int) := by omega
      go_wp2
      go_region_law ((refine step_copy_wide (by rfl) (.tmp 41) (.tmp 44) 35 35 (by rfl) 34 3 Try.underlying35 peer_size w.heap.size (k * 3) ⟨w.heap.size, 0, none⟩ (n - k) (n - k) k n (by go_simp) (by go_simp) cur 34 (by exact HBK.out) (pecs (List.replicate m p0)) m (by exact HM.out) (by rw [length_pecs, List.length_replicate]) HCELL.out (by rw [HLC.out, length_pecs, List.length_replicate]; omega) (pecs_one _) w.heap.size w hbel.drew (Nat.le_refl _) ?_); intro w4 hg4 hb4)
      go_simp
      go_roundw
      case rel => exact ⟨.int .i64 ((k : Int) + (m : Int)), _, _, _, _, _, _, _, _, _, _, _, _, _, ⟨k + m, by omega, m2, by go_num, Lib.hid ⟨_, hg4.out, HNX.out.1, HNX.out.2⟩, hb4⟩, rfl⟩
      case measure => simp [intOf]; omega
    · obtain rfl : k = n := by omega
      go_wp2
      go_ret
      obtain ⟨cur, bk, lc, tk⟩ := HB.out
      rw [List.take_of_length_le (by omega)] at tk
      subst tk
      exact ⟨w.heap.size, rfl, Nat.le_refl _, bk, hbel⟩

end Go.Proofs.Ytlaandbaaepamaa
