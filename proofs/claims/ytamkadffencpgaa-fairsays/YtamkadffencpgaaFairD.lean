
/-
  Walks: one number taken out of a list (slices.DeleteFunc).
-/
import Derived.Test.YtamkadffencpgaaFairN
namespace Go.Proofs.Ytamkadffencpgaa
set_option linter.all false
open Go.RowKit Go.Shelf Go.Lib

def ncs (x : List Nat) : List Value := (nts x).map (Value.int .i64)
theorem length_ncs (x : List Nat) : (ncs x).length = x.length := by simp [ncs, nts]
theorem ncs_get {x : List Nat} {k i : Nat} (h : x[k]? = some i) : (ncs x)[k]? = some (.int .i64 i) := by simp [ncs, nts, h]
theorem ncs_set (x : List Nat) (k i : Nat) : (ncs x).set k (.int .i64 i) = ncs (x.set k i) := by simp [ncs, nts, List.map_set]
theorem ncs_take (x : List Nat) (k : Nat) : (ncs x).take k = ncs (x.take k) := by simp [ncs, nts, List.map_take]
theorem rowN_get {w : World} {base g n cap : Nat} {x : List Nat} (h : w.ownsRow base 3 1 (.slice (some ⟨g, 0, none⟩) n cap) n (ncs x)) {k : Nat} (hk : k < n) :
    ∃ u : Nat, w.cell? ⟨g, k, none⟩ = some (.int .i64 u) ∧ Hid (x[k]? = some u) := by
  have hl : x.length = n := by have := h.1; rw [length_ncs] at this; omega
  have hg := List.getElem?_eq_getElem (l := x) (i := k) (by omega)
  exact ⟨_, (h.cellAt _ (by omega)).trans (ncs_get hg), Lib.hid hg⟩
theorem rowN_ints {w : World} {base g n cap : Nat} {x : List Nat} (h : w.ownsRow base 3 1 (.slice (some ⟨g, 0, none⟩) n cap) n (ncs x)) : Ints w (some ⟨g, 0, none⟩) (nts x) := by
  have hl : (nts x).length = n := by have := h.1; rw [length_ncs] at this; rw [length_nts]; omega
  rw [← hl] at h
  exact Ints.of_own h
theorem clear_int (w : World) (g o c : Nat) (ty : TypeId) (hc : (w.cell? ⟨g, o, none⟩).isSome = true) (hf : w.frozen? ⟨g, o, none⟩ = false) :
    (Builtin.clear_ #[22] ty #[.slice (some ⟨g, o, none⟩) 1 c]).run Try.prog w = .ok (.tuple #[]) (w.setCell ⟨g, o, none⟩ (.int .i64 0)) := by
  obtain ⟨i0, hi0, hz0, hz1, hz2⟩ := info_parts int_info
  have hst := run_storeCells_cells (P := Try.prog) g o [.int .i64 0] 0 w (by intro j hj; simp at hj; subst hj; simpa using hc) (by intro j hj; simp at hj; subst hj; simpa using hf) (by intro v hv; simp at hv; subst hv; rfl)
  simp only [Nat.add_zero] at hst
  have hzc : (Builtin.zeroCells (Value.int .i64 0).cells 1).toList = [.int .i64 0] := by kernel_rfl
  simp [Builtin.clear_, run_underlying Try.underlying22, zeroValue, typeInfo, hi0, hz0, hzc, hst]
  rfl

set_option maxRecDepth 100000 in
set_option maxHeartbeats 3200000 in
theorem deleteFunc_n (base g n cap b k y : Nat) (x : List Nat) (w : World) (h : w.ownsRow base 3 1 (.slice (some ⟨g, 0, none⟩) n cap) n (ncs x)) (hb : Blk w b 3 #[.int .i64 y]) (hgb : ¬ g = b) (h60 : n ≤ 60)
    (hk : x[k]? = some y) (hu : Hid (∀ (j u : Nat), x[j]? = some u → j ≠ k → u ≠ y)) :
    Calls Try.prog 44 #[.slice (some ⟨g, 0, none⟩) n cap, .func (.func fBest) #[] #[.pointer (some ⟨b, 0, none⟩)]] w fun e w' =>
      e = .returned (.slice (some ⟨g, 0, none⟩) (n - 1 : Nat) cap) ∧ w'.ownsRow base 3 1 (.slice (some ⟨g, 0, none⟩) (n - 1) cap) (n - 1) (ncs (x.eraseIdx k)) ∧ Tn (fun i => i = g) w w' := by
  have hent := enters_of Try.func45 (by kernel_rfl) rfl
  have ll : x.length = n := by have := h.1; rw [length_ncs] at this; omega
  have kn : k < n := by have := (List.getElem?_eq_some_iff.1 hk).1; omega
  have LL := Lib.hid ll
  have e1 : ((k : Int) == -1) = false := by rw [beq_eq_false_iff_ne]; omega
  have nc : n ≤ cap := by
    rcases h.2 with ⟨h', _⟩ | ⟨g', cap', cur, h', _, _, hnc, _⟩
    · simp at h'
    · injection h' with _ _ e; subst e; exact hnc
  go_enter Try.func44, Try.ntmps44
  go_wp2_with fail
  refine (indexFunc_n b g n cap k y x _ (rowN_ints h) hb ll.symm h60 hk hu).mono ?_
  rintro e w1 ⟨rfl, rfl⟩
  clear ll hk
  go_wp2
  go_loopw [5, 6] (fun p q wr => ∃ i j : Nat, k ≤ i ∧ j = i + 1 ∧ j ≤ n ∧ p = .int .i64 i ∧ q = .int .i64 j ∧ wr.ownsRow base 3 1 (.slice (some ⟨g, 0, none⟩) n cap) n (ncs (mvL x k (i - k))) ∧ Blk wr b 3 #[.int .i64 y] ∧ Tn (fun i => i = g) w1 wr) (fun _ q _ => n - (intOf q).toNat)
  case atStart => exact ⟨k, k + 1, Nat.le_refl _, rfl, by omega, rfl, by go_num, by rw [Nat.sub_self]; exact h, hb, Tn.refl _ _⟩
  case round =>
    clear h hb
    obtain ⟨i, j, hki, hij, hj, rfl, rfl, ho, hb, T⟩ := hrel
    have HIJ := Lib.hid hij
    by_cases hlt : j < n
    · obtain ⟨u, d0, HU⟩ := rowN_get ho hlt
      obtain ⟨z, c0, _⟩ := rowN_get ho (show i < n by omega)
      have hlu : x[j]? = some u := by
        have := HU.out
        rw [mvL_get x k (i - k) j (by have := LL.out; omega), if_neg (by omega)] at this
        exact this
      have HLU := Lib.hid hlu
      have hs : Hid (decide (u = y) = false) := Lib.hid (decide_eq_false (hu.out j u hlu (by omega)))
      have i1 : (j : Int) < (n : Int) := by omega
      have i2 : (i : Int) < (n : Int) := by omega
      have f0 := ho.frozenAt i
      have s1 := (ho.stored i (.int .i64 u)).1
      rw [ncs_set] at s1
      have HO : Hid ((wr.setCell ⟨g, i, none⟩ (.int .i64 u)).ownsRow base 3 1 (.slice (some ⟨g, 0, none⟩) n cap) n (ncs (mvL x k (i + 1 - k)))) := Lib.hid (by
        have e : mvL x k (i + 1 - k) = (mvL x k (i - k)).set i u := by
          rw [show i + 1 - k = i - k + 1 by omega, mvL, show k + (i - k) = i by omega, show k + 1 + (i - k) = j by have := HIJ.out; omega, List.getD, HLU.out]
          rfl
        rw [e]; exact s1)
      have HB : Hid (Blk (wr.setCell ⟨g, i, none⟩ (.int .i64 u)) b 3 #[.int .i64 y]) := Lib.hid (hb.past (a := ⟨g, i, none⟩) (fun e => hgb e.symm) _)
      have HT : Hid (Tn (fun i => i = g) w1 (wr.setCell ⟨g, i, none⟩ (.int .i64 u))) := Lib.hid (T.set_ (p := ⟨g, i, none⟩) (.inl rfl) _)
      have gl := (ho.lt g rfl).2
      clear hlu hij s1 ho T
      go_wp2_with fail
      refine (best_is b y u false _ hs hb).mono ?_
      rintro e w2 ⟨rfl, rfl⟩
      go_wp2
      go_roundw
      case rel => exact ⟨i + 1, j + 1, by omega, by have := HIJ.out; omega, by omega, by go_num, by go_num, HO.out, HB.out, HT.out⟩
      case measure => simp [intOf]; omega
    · obtain rfl : n = i + 1 := by omega
      have HO : Hid (∀ c ty, (Builtin.clear_ #[22] ty #[.slice (some ⟨g, i, none⟩) 1 c]).run Try.prog wr = .ok (.tuple #[]) (wr.setCell ⟨g, i, none⟩ (.int .i64 0))) := Lib.hid (fun c ty => clear_int wr g i c ty (by
          rw [ho.cellAt _ (by omega), List.getElem?_eq_getElem (by rw [length_ncs, length_mvL, LL.out]; omega)]; rfl) (ho.frozenAt _))
      have HF : Hid ((wr.setCell ⟨g, i, none⟩ (.int .i64 0)).ownsRow base 3 1 (.slice (some ⟨g, 0, none⟩) i cap) i (ncs (x.eraseIdx k))) := Lib.hid (by
        have s := own_shrink (i := i) (ho.stored i (.int .i64 0)).1 (by omega)
        rwa [Nat.mul_one, List.take_set_of_le (Nat.le_refl _), ncs_take, mvL_end hki LL.out] at s)
      have HT : Hid (Tn (fun i => i = g) w1 (wr.setCell ⟨g, i, none⟩ (.int .i64 0))) := Lib.hid (T.set_ (p := ⟨g, i, none⟩) (.inl rfl) _)
      have hnc : ¬ cap = i := by omega
      have m1 : i + 1 - i = 1 := by omega
      have hic : i ≤ cap := by omega
      have hij1 : j = i + 1 := hij
      subst hij1
      clear hij HIJ ho T hb
      have cl := HO.out
      go_wp2
      go_ret
      exact ⟨rfl, HF.out, HT.out⟩

end Go.Proofs.Ytamkadffencpgaa
