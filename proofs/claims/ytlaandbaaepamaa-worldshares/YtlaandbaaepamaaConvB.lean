
/-
  Walks: math/bits.Mul of one and a small number, slices.Repeat of one element, slices.Clone.
-/
import Derived.Test.YtlaandbaaepamaaConvA
import Derived.Laws.Bits64b
import Derived.Deep.RegionLaw
import Derived.Lib.SliceRun
namespace Go.Proofs.Ytlaandbaaepamaa
set_option linter.all false
open Go.RowKit Go.Shelf

set_option maxHeartbeats 400000 in
theorem mul64_one (n : Nat) (hn : n ≤ 1000) (w : World) :
    Calls Try.prog 44 #[.int .u64 1, .int .u64 n] w fun e w' => e = .returned (.tuple #[.int .u64 0, .int .u64 n]) ∧ w = w' := by
  have m1 : bits .and .u64 (1 : Int) 4294967295 = 1 := by
    have h := bits_and_u64_nat 1 4294967295 (by omega) (by omega)
    exact h
  have m2 : bits .and .u64 (n : Int) 4294967295 = n := by
    have h := bits_and_u64_nat n 4294967295 (by omega) (by omega)
    have e : n &&& 4294967295 = n % 4294967296 := Nat.and_two_pow_sub_one_eq_mod n 32
    rw [e, Nat.mod_eq_of_lt (by omega)] at h
    exact h
  have m0 : bits .and .u64 (0 : Int) 4294967295 = 0 := by
    have h := bits_and_u64_nat 0 4294967295 (by omega) (by omega)
    exact h
  have d2 : (n : Int) / 4294967296 = 0 := by omega
  have z1 : (0 : Int) ≤ n := by omega
  have z2 : (n : Int) ≤ 1000 := by omega
  go_enter Try.func44, Try.ntmps44
  go_wp2
  go_ret2
  exact ⟨rfl, rfl⟩

set_option maxHeartbeats 400000 in
theorem mul_one_any (n : Nat) (hn : n ≤ 1000) (w : World) :
    Calls Try.prog 39 #[.int .u64 1, .int .u64 n] w fun e w' => e = .returned (.tuple #[.int .u64 0, .int .u64 n]) ∧ w = w' := by
  go_enter Try.func39, Try.ntmps39
  go_wp2_with fail
  refine (mul64_one n hn _).mono ?_
  rintro e w' ⟨rfl, rfl⟩
  go_wp2
  go_ret2
  exact ⟨rfl, rfl⟩

/-- A row of n, of which the first k are v. -/
def fillAt (n k : Nat) (v : Int) : List Value := List.replicate k (.int .i64 v) ++ List.replicate (n - k) (.int .i64 0)
theorem fillAt_length {n k : Nat} (v : Int) (h : k ≤ n) : (fillAt n k v).length = n := by simp [fillAt]; omega
theorem fillAt_get {n k j : Nat} (v : Int) (h : j < k) : (fillAt n k v)[j]? = some (.int .i64 v) := by
  unfold fillAt; rw [List.getElem?_append_left (by simpa using h)]; simp [h]
theorem fillAt_full (n : Nat) (v : Int) : fillAt n n v = (List.replicate n v).map (Value.int .i64) := by simp [fillAt]
theorem fillAt_splice {n k m : Nat} (v : Int) (h : k + m ≤ n) : splice (fillAt n k v) k (List.replicate m (.int .i64 v)) = fillAt n (k + m) v := by
  unfold splice fillAt
  rw [List.take_left' (by simp), List.drop_append]
  simp only [List.length_replicate, List.drop_replicate]
  rw [show k - (k + m) = 0 by omega, show k + m - k = m by omega, show n - k - m = n - (k + m) by omega]
  simp only [List.replicate_zero, List.nil_append]
  rw [← List.append_assoc, List.replicate_append_replicate]

/-- What a call leaves that hands back a list of n, in a new block that it fills. -/
def AnsK (n : Nat) (L : List Int) (w : World) (e : Ending) (w' : World) : Prop :=
  ∃ g, e = .returned (.slice (some ⟨g, 0, none⟩) n n) ∧ w.heap.size ≤ g ∧ Blk w' g 3 (L.map (Value.int .i64)).toArray ∧ Below w.heap.size w w'

set_option maxHeartbeats 800000 in
theorem repeat_one (A : Option Addr) (v : Int) (n c : Nat) (w : World) (h : Ints w A [v]) (h0 : 0 < n) (hn : n ≤ 1000) :
    Calls Try.prog 26 #[.slice A 1 c, .int .i64 n] w (AnsK n (List.replicate n v) w) := by
  obtain ⟨b, off, x, rfl, hc, HX⟩ := h.at_ (k := 0) (by simp)
  obtain rfl : v = x := by simpa using HX.out
  simp only [Nat.add_zero] at hc
  have z1 : (0 : Int) ≤ n := by omega
  have z2 : (n : Int) ≤ 1000 := by omega
  have hmk := fun W => run_make_row' (P := Try.prog) 29 3 (.int .i64 0) 8 Try.underlying29 int_info rfl .i64 .i64 n (by omega) (by omega) W
  have hlt : b < w.heap.size := cell_lt hc
  have hcu : (madeCells #[Value.int .i64 0] n).toList = fillAt n 0 v := by rw [toList_madeCells_one]; simp [fillAt]
  have HCU := Lib.hid hcu
  have HSRC : Hid (∀ j u, [Value.int .i64 v][j]? = some u → w.cell? ⟨b, off + j, none⟩ = some u) := Lib.hid (by
    intro j u hu
    match j, hu with
    | 0, hu =>
      simp at hu
      subst hu
      exact hc)
  clear hcu hc
  have f1 : decide ((n : Int) < 0) = false := decide_eq_false (by omega)
  have f2 : decide (9223372036854775807 < (n : Int)) = false := decide_eq_false (by omega)
  go_enter Try.func26, Try.ntmps26
  go_wp2_with fail
  refine (mul_one_any n hn _).mono ?_
  rintro e w' ⟨rfl, rfl⟩
  go_wp2_with (with_reducible refine wpList_copy_splice rfl (.tmp 31) (.tmp 32) 29 29 rfl 3 Try.underlying29 int_size _ _ _ _ _ _ rfl rfl w.heap.size 0 (fillAt n 0 v) 3 ?hg [.int .i64 v] ?hn ?hpos ?hfit ?hone w.heap.size w ?hb (Nat.le_refl _) ?_)
  case hg => rw [← HCU.out]; exact heap_alloc_new w _
  case hn => simp [Nat.min_def]; omega
  case hpos =>
    intro _
    exact HSRC.out _
  case hfit => rw [fillAt_length v (Nat.zero_le _)]; simp; omega
  case hone => intro u hu; simp at hu; subst hu; rfl
  case hb => exact (Below.refl _ _).alloc (Nat.le_refl _) _
  intro w2 HG2 hb2
  go_wp2
  go_loopw [8] (fun i wr => ∃ k : Nat, 1 ≤ k ∧ k ≤ n ∧ i = .int .i64 k ∧ Hid (Blk wr w.heap.size 3 (fillAt n k v).toArray) ∧ Below w.heap.size w wr) (fun i _ => n - (intOf i).toNat)
  case atStart => exact ⟨1, Nat.le_refl _, h0, rfl, Lib.hid (by have := HG2.out; rw [show ([Value.int .i64 v] : List Value) = List.replicate 1 (.int .i64 v) from rfl, fillAt_splice v (by omega)] at this; exact this), hb2⟩
  case round =>
    obtain ⟨k, hk1, hk, rfl, HB, hbel⟩ := hrel
    by_cases hlt' : k < n
    · obtain ⟨m, hm⟩ : ∃ m, m = Nat.min k (n - k) := ⟨_, rfl⟩
      have hm' : m = min k (n - k) := hm
      have m1 : 1 ≤ m := by omega
      have m2 : k + m ≤ n := by omega
      have m3 : m ≤ k := by omega
      have HM := Lib.hid hm
      have HCELL : Hid (∀ j u, (List.replicate m (Value.int .i64 v))[j]? = some u → wr.cell? ((⟨w.heap.size, 0, none⟩ : Addr).add j) = some u) := Lib.hid (by
        intro j u hu
        have hj : j < m := by simpa using (List.getElem?_eq_some_iff.1 hu).1
        rw [List.getElem?_replicate, if_pos hj] at hu
        obtain rfl : Value.int .i64 v = u := by simpa using hu
        rw [Addr.add_lit, Nat.zero_add]
        exact (Blk.cell HB.out j).trans (by simpa using fillAt_get v (show j < k by omega)))
      clear hm hm'
      have hne : ¬ n = k := by omega
      have e1 : IntKind.i64.wrap ((k : Int) + (m : Int)) = (k : Int) + (m : Int) := IntWalk.i64_in _ ⟨by omega, by omega⟩
      have i1 : (k : Int) ≤ (n : Int) := by omega
      go_wp2
      go_region_law ((refine step_copy_splice (by rfl) (.tmp 41) (.tmp 44) 29 29 (by rfl) 3 Try.underlying29 int_size (some ⟨w.heap.size, k, none⟩) (some ⟨w.heap.size, 0, none⟩) (n - k) (n - k) k n (by go_simp) (by go_simp) w.heap.size k (fillAt n k v) 3 (by exact HB.out) (List.replicate m (.int .i64 v)) (by rw [List.length_replicate]; exact HM.out) (fun _ => ⟨rfl, _, rfl, HCELL.out⟩) (by rw [fillAt_length v hk, List.length_replicate]; exact m2) (by intro u hu; rw [List.eq_of_mem_replicate hu]; rfl) w.heap.size w hbel.drew (Nat.le_refl _) ?_); intro w4 hg4 hb4)
      go_simp
      go_roundw
      case rel => exact ⟨.int .i64 ((k : Int) + (m : Int)), _, _, _, _, _, _, _, _, _, _, _, _, _, ⟨k + m, by omega, m2, by go_num, Lib.hid (by have := hg4.out; rw [fillAt_splice v m2] at this; exact this), hb4⟩, rfl⟩
      case measure => simp [intOf]; omega
    · obtain rfl : k = n := by omega
      go_wp2
      go_ret
      have hblk := HB.out
      rw [fillAt_full] at hblk
      exact ⟨w.heap.size, rfl, Nat.le_refl _, hblk, hbel⟩

end Go.Proofs.Ytlaandbaaepamaa
