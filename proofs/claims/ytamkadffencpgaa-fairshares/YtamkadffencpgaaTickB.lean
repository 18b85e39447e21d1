
/-
  Walks over tickets: one taken out (slices.DeleteFunc).
-/
import Derived.Test.YtamkadffencpgaaTickA
namespace Go.Proofs.Ytamkadffencpgaa
set_option linter.all false
open Go.RowKit Go.Shelf Go.Lib

abbrev fFirst : FuncId := 59
theorem tkT : Try.prog.underlying 96 = some (.struct (Try.prog.fieldsOf 96)) := by kernel_rfl
theorem tkH : Try.prog.stoodInHeld 96 = false := by kernel_rfl
theorem tkM : Try.prog.eqGuardType Try.prog.depth 96 = false := by kernel_rfl
theorem tkEq (a b a' b' : Int) (w : World) : (Op.equalIn 10000 96 (.agg #[.int .i64 a, .int .i64 b]) (.agg #[.int .i64 a', .int .i64 b'])).run Try.prog w = .ok (a == a' && b == b') w := by
  rw [show (10000 : Nat) = 9998 + 1 + 1 from rfl, run_equalIn_struct _ _ _ _ _ tkT tkH]
  simp only [Program.fieldsOf, Try.underlying96, Op.eqFields]
  simp [go_sem, Op.eqFields, part, run_equalIn_int _ _ _ _ _ _ _ Try.underlying3]
  by_cases h1 : a = a' <;> by_cases h2 : b = b' <;> simp [h1, h2]

set_option maxHeartbeats 800000 in
theorem first_any (a t : Tk) (b : Nat) (s : Bool) (w : World) (hs : Hid (decide (a = t) = s)) (h : Blk w b 96 #[.int .i64 (t.1 : Nat), .int .i64 t.2]) :
    Calls Try.prog 59 #[.agg #[.int .i64 (a.1 : Nat), .int .i64 a.2], .pointer (some ⟨b, 0, none⟩)] w fun e w' => e = .returned (.bool s) ∧ Below w.heap.size w w' := by
  obtain ⟨a1, a2⟩ := a
  obtain ⟨t1, t2⟩ := t
  simp only at h ⊢
  have HS : Hid (((a1 : Int) == (t1 : Int) && a2 == t2) = s) := Lib.hid (by
    rw [← hs.out]
    by_cases h1 : a1 = t1 <;> by_cases h2 : a2 = t2 <;> simp [h1, h2, Int.ofNat_inj])
  have heq := tkEq (a1 : Int) a2 (t1 : Int) t2
  have hM := tkM
  obtain ⟨c0, c1⟩ := pair_read h
  have hb := h.lt
  have ne : ¬ w.heap.size = b := by omega
  clear hs
  go_enter Try.func59, Try.ntmps59
  go_wp2
  go_ret
  exact ⟨ret_bool HS.out, (Below.refl _ _).alloc (Nat.le_refl _) _⟩

set_option maxRecDepth 100000 in
set_option maxHeartbeats 1600000 in
theorem indexFunc_tk (base g n cap b k : Nat) (l : List Tk) (t : Tk) (w : World) (h : w.ownsRow base 96 2 (.slice (some ⟨g, 0, none⟩) n cap) n (tcs l)) (hb : Blk w b 96 #[.int .i64 (t.1 : Nat), .int .i64 t.2]) (h60 : n ≤ 60)
    (hk : l[k]? = some t) (hu : Hid (∀ (j : Nat) (u : Tk), l[j]? = some u → j ≠ k → u ≠ t)) :
    Calls Try.prog 70 #[.slice (some ⟨g, 0, none⟩) n cap, .func (.func fFirst) #[] #[.pointer (some ⟨b, 0, none⟩)]] w fun e w' => e = .returned (.int .i64 k) ∧ Below w.heap.size w w' := by
  have hent := enters_of Try.func59 (by kernel_rfl) rfl
  have kn : k < n := by have := (List.getElem?_eq_some_iff.1 hk).1; have := h.1; rw [length_tcs] at this; omega
  have HK := Lib.hid hk
  clear hk
  go_enter Try.func70, Try.ntmps70
  go_wp2
  go_loopw [8] (fun i wr => ∃ j : Nat, j ≤ k ∧ i = .int .i64 j ∧ Below w.heap.size w wr) (fun i _ => n - (intOf i).toNat)
  case atStart => exact ⟨0, Nat.zero_le _, rfl, Below.refl _ _⟩
  case round =>
    obtain ⟨j, hj, rfl, hbel⟩ := hrel
    have hw : wr.ownsRow base 96 2 (.slice (some ⟨g, 0, none⟩) n cap) n (tcs l) := (Tn.of_below (S := fun _ => False) hbel).own h (fun _ _ c => c)
    obtain ⟨u, d0, d1, HU⟩ := row_get hw (show j < n by omega)
    have i1 : (j : Int) < (n : Int) := by omega
    have hb1 := hb.below hbel
    clear hw
    by_cases c : j = k
    · subst c
      have hs : Hid (decide (u = t) = true) := Lib.hid (decide_eq_true (Option.some.inj (HU.out.symm.trans HK.out)))
      go_wp2_with fail
      refine (first_any u t b true _ hs hb1).mono ?_
      rintro e w1 ⟨rfl, b1⟩
      go_wp2
      go_ret
      exact ⟨rfl, below_trans hbel b1⟩
    · have hs : Hid (decide (u = t) = false) := Lib.hid (decide_eq_false (hu.out j u HU.out c))
      have jk : j < k := by omega
      go_wp2_with fail
      refine (first_any u t b false _ hs hb1).mono ?_
      rintro e w1 ⟨rfl, b1⟩
      clear c
      go_wp2
      go_roundw
      case rel => exact ⟨j + 1, by omega, by go_num, below_trans hbel b1⟩
      case measure => simp [intOf]; omega

/-- The list behind d steps of closing the gap at k. -/
def mvL {α : Type} [Inhabited α] (l : List α) (k : Nat) : Nat → List α
  | 0 => l
  | d + 1 => (mvL l k d).set (k + d) (l.getD (k + 1 + d) default)
theorem length_mvL {α : Type} [Inhabited α] (l : List α) (k : Nat) : ∀ d, (mvL l k d).length = l.length
  | 0 => rfl
  | d + 1 => by rw [mvL, List.length_set, length_mvL l k d]
theorem mvL_get {α : Type} [Inhabited α] (l : List α) (k : Nat) : ∀ d t, k + 1 + d ≤ l.length → (mvL l k d)[t]? = if k ≤ t ∧ t < k + d then l[t + 1]? else l[t]?
  | 0, t, _ => by rw [if_neg (by omega)]; rfl
  | d + 1, t, h => by
    rw [mvL, List.getElem?_set, mvL_get l k d t (by omega), length_mvL]
    by_cases c : k + d = t
    · subst c
      rw [if_pos rfl, if_pos (by omega), if_pos (by omega), show k + d + 1 = k + 1 + d by omega, List.getElem?_eq_getElem (by omega)]
      simp [List.getD, List.getElem?_eq_getElem (show k + 1 + d < l.length by omega)]
    · rw [if_neg c]
      by_cases c2 : k ≤ t ∧ t < k + d
      · rw [if_pos c2, if_pos (by omega)]
      · rw [if_neg c2, if_neg (by omega)]
theorem mvL_end {α : Type} [Inhabited α] {l : List α} {k i : Nat} (hk : k ≤ i) (h : l.length = i + 1) : (mvL l k (i - k)).take i = l.eraseIdx k := by
  apply List.ext_getElem?
  intro t
  rw [List.getElem?_take, List.getElem?_eraseIdx]
  by_cases c : t < i
  · rw [if_pos c, mvL_get l k (i - k) t (by omega)]
    by_cases d : t < k
    · rw [if_neg (by omega), if_pos d]
    · rw [if_pos (by omega), if_neg d]
  · rw [if_neg c, if_neg (by omega), List.getElem?_eq_none (by omega)]
theorem own_shrink {w : World} {base g n cap size i : Nat} {e : TypeId} {xs : List Value} (h : w.ownsRow base e size (.slice (some ⟨g, 0, none⟩) n cap) n xs) (hi : i ≤ n) : w.ownsRow base e size (.slice (some ⟨g, 0, none⟩) i cap) i (xs.take (i * size)) := by
  rcases h.2 with ⟨h', _⟩ | ⟨g', cap', cur, h', hb, hg, hnc, hcm, hcs, htake⟩
  · simp at h'
  · simp only [Value.slice.injEq, Option.some.injEq, Addr.mk.injEq, and_true, true_and] at h'
    obtain ⟨rfl, rfl⟩ := h'
    have le := Nat.mul_le_mul_right size hi
    refine ⟨by rw [List.length_take, h.1]; omega, .inr ⟨g, cap, cur, rfl, hb, hg, by omega, hcm, hcs, ?_⟩⟩
    rw [← htake, List.take_take, show min (i * size) (n * size) = i * size by omega]
theorem clear_tk (w : World) (g o c : Nat) (ty : TypeId) (hc : ∀ j, j < 2 → (w.cell? ⟨g, o + j, none⟩).isSome = true) (hf : ∀ j, j < 2 → w.frozen? ⟨g, o + j, none⟩ = false) :
    (Builtin.clear_ #[66] ty #[.slice (some ⟨g, o, none⟩) 1 c]).run Try.prog w = .ok (.tuple #[]) ((w.setCell ⟨g, o, none⟩ (.int .i64 0)).setCell ⟨g, o + 1, none⟩ (.int .i64 0)) := by
  obtain ⟨i0, hi0, hz0, hz1, hz2⟩ := info_parts tk_info
  have hst := run_storeCells_cells (P := Try.prog) g o [.int .i64 0, .int .i64 0] 0 w (by simpa using hc) (by simpa using hf) (by intro v hv; simp at hv; subst hv; rfl)
  simp only [Nat.add_zero] at hst
  have hzc : (Builtin.zeroCells (Value.agg #[.int .i64 0, .int .i64 0]).cells 1).toList = [.int .i64 0, .int .i64 0] := by kernel_rfl
  simp [Builtin.clear_, run_underlying Try.underlying66, zeroValue, typeInfo, hi0, hz0, hzc, hst]
  rfl
theorem take_sets {xs : List Value} {i : Nat} (a b : Value) : ((xs.set (i * 2) a).set (i * 2 + 1) b).take (i * 2) = xs.take (i * 2) := by
  rw [List.take_set_of_le (by omega), List.take_set_of_le (Nat.le_refl _)]

set_option maxRecDepth 100000 in
set_option maxHeartbeats 3200000 in
theorem deleteFunc_tk (base g n cap b k : Nat) (l : List Tk) (t : Tk) (w : World) (h : w.ownsRow base 96 2 (.slice (some ⟨g, 0, none⟩) n cap) n (tcs l)) (hb : Blk w b 96 #[.int .i64 (t.1 : Nat), .int .i64 t.2]) (hgb : ¬ g = b) (h60 : n ≤ 60)
    (hk : l[k]? = some t) (hu : Hid (∀ (j : Nat) (u : Tk), l[j]? = some u → j ≠ k → u ≠ t)) :
    Calls Try.prog 58 #[.slice (some ⟨g, 0, none⟩) n cap, .func (.func fFirst) #[] #[.pointer (some ⟨b, 0, none⟩)]] w fun e w' =>
      e = .returned (.slice (some ⟨g, 0, none⟩) (n - 1 : Nat) cap) ∧ w'.ownsRow base 96 2 (.slice (some ⟨g, 0, none⟩) (n - 1) cap) (n - 1) (tcs (l.eraseIdx k)) ∧ Tn (fun i => i = g) w w' := by
  have hent := enters_of Try.func59 (by kernel_rfl) rfl
  have ll : l.length = n := by have := h.1; rw [length_tcs] at this; omega
  have kn : k < n := by have := (List.getElem?_eq_some_iff.1 hk).1; omega
  have LL := Lib.hid ll
  have e1 : ((k : Int) == -1) = false := by rw [beq_eq_false_iff_ne]; omega
  have nc : n ≤ cap := by
    rcases h.2 with ⟨h', _⟩ | ⟨g', cap', cur, h', _, _, hnc, _⟩
    · simp at h'
    · injection h' with _ _ e; subst e; exact hnc
  go_enter Try.func58, Try.ntmps58
  go_wp2_with fail
  refine (indexFunc_tk base g n cap b k l t _ h hb h60 hk hu).mono ?_
  rintro e w1 ⟨rfl, b1⟩
  have h1 : w1.ownsRow base 96 2 (.slice (some ⟨g, 0, none⟩) n cap) n (tcs l) := (Tn.of_below (S := fun _ => False) b1).own h (fun _ _ c => c)
  have hb1 := hb.below b1
  have T1 : Tn (fun i => i = g) w w1 := Tn.of_below b1
  clear ll hk h hb b1
  go_wp2
  go_loopw [5, 6] (fun x y wr => ∃ i j : Nat, k ≤ i ∧ j = i + 1 ∧ j ≤ n ∧ x = .int .i64 i ∧ y = .int .i64 j ∧ wr.ownsRow base 96 2 (.slice (some ⟨g, 0, none⟩) n cap) n (tcs (mvL l k (i - k))) ∧ Blk wr b 96 #[.int .i64 (t.1 : Nat), .int .i64 t.2] ∧ Tn (fun i => i = g) w wr) (fun _ y _ => n - (intOf y).toNat)
  case atStart => exact ⟨k, k + 1, Nat.le_refl _, rfl, by omega, rfl, by go_num, by rw [Nat.sub_self]; exact h1, hb1, T1⟩
  case round =>
    clear h1 hb1 T1
    obtain ⟨i, j, hki, hij, hj, rfl, rfl, ho, hb, T⟩ := hrel
    have HIJ := Lib.hid hij
    by_cases hlt : j < n
    · obtain ⟨u, d0, d1, HU⟩ := row_get ho hlt
      obtain ⟨x, c0, c1, _⟩ := row_get ho (show i < n by omega)
      have hlu : l[j]? = some u := by
        have := HU.out
        rw [mvL_get l k (i - k) j (by have := LL.out; omega), if_neg (by omega)] at this
        exact this
      have HLU := Lib.hid hlu
      have hs : Hid (decide (u = t) = false) := Lib.hid (decide_eq_false (hu.out j u hlu (by omega)))
      have i1 : (j : Int) < (n : Int) := by omega
      have i2 : (i : Int) < (n : Int) := by omega
      have HG : Hid (g < wr.heap.size) := Lib.hid (ho.lt g rfl).2
      clear hlu hij c0 c1
      go_wp2_with fail
      refine (first_any u t b false _ hs (hb.alloc _)).mono ?_
      rintro e w2 ⟨rfl, b2⟩
      have bb := below_of1 b2
      have KB := (Blk.new wr 96 #[.int .i64 (u.1 : Nat), .int .i64 u.2]).below b2
      have ho2 : w2.ownsRow base 96 2 (.slice (some ⟨g, 0, none⟩) n cap) n (tcs (mvL l k (i - k))) := (Tn.of_below (S := fun _ => False) bb).own ho (fun _ _ c => c)
      have hb2 := hb.below bb
      have T2 := T.bel bb
      obtain ⟨p0, p1⟩ := pair_read KB
      obtain ⟨x, c0, c1, _⟩ := row_get ho2 (show i < n by omega)
      have gl := HG.out
      have ne1 : ¬ wr.heap.size = g := by omega
      have ne2 : ¬ g = wr.heap.size := by omega
      have f0 := ho2.frozenAt (i * 2)
      have f1 := ho2.frozenAt (i * 2 + 1)
      have lt2 : g < w2.heap.size := (ho2.lt g rfl).2
      have ltB := KB.lt
      obtain ⟨s1, _⟩ := ho2.stored (i * 2) (.int .i64 (u.1 : Nat))
      obtain ⟨s2, _⟩ := s1.stored (i * 2 + 1) (.int .i64 u.2)
      have st : ∀ v, (w2.setCell ⟨g, i * 2, none⟩ v).cell? ⟨g, i * 2, none⟩ = some v := fun v => by
        rw [(ho2.stored (i * 2) v).1.cellAt _ (by omega), List.getElem?_set_self (by rw [length_tcs, length_mvL, LL.out]; omega)]
      rw [tcs_set (l := mvL l k (i - k)) u (by rw [length_mvL, LL.out]; omega)] at s2
      have HO : Hid (((w2.setCell ⟨g, i * 2, none⟩ (.int .i64 (u.1 : Nat))).setCell ⟨g, i * 2 + 1, none⟩ (.int .i64 u.2)).ownsRow base 96 2 (.slice (some ⟨g, 0, none⟩) n cap) n (tcs (mvL l k (i + 1 - k)))) := Lib.hid (by
        have e : mvL l k (i + 1 - k) = (mvL l k (i - k)).set i u := by
          rw [show i + 1 - k = i - k + 1 by omega, mvL, show k + (i - k) = i by omega, show k + 1 + (i - k) = j by have := HIJ.out; omega, List.getD, HLU.out]
          rfl
        rw [e]; exact s2)
      have HB : Hid (Blk ((w2.setCell ⟨g, i * 2, none⟩ (.int .i64 (u.1 : Nat))).setCell ⟨g, i * 2 + 1, none⟩ (.int .i64 u.2)) b 96 #[.int .i64 (t.1 : Nat), .int .i64 t.2]) := Lib.hid ((hb2.past (a := ⟨g, i * 2, none⟩) (fun e => hgb e.symm) _).past (a := ⟨g, i * 2 + 1, none⟩) (fun e => hgb e.symm) _)
      have HT : Hid (Tn (fun i => i = g) w ((w2.setCell ⟨g, i * 2, none⟩ (.int .i64 (u.1 : Nat))).setCell ⟨g, i * 2 + 1, none⟩ (.int .i64 u.2))) := Lib.hid ((T2.set_ (p := ⟨g, i * 2, none⟩) (.inl rfl) _).set_ (p := ⟨g, i * 2 + 1, none⟩) (.inl rfl) _)
      clear s1 s2 ho ho2 hb2 T2 KB b2 bb hb d0 d1 T
      go_wp2
      go_roundw
      case rel => exact ⟨i + 1, j + 1, by omega, by have := HIJ.out; omega, by omega, by go_num, by go_num, HO.out, HB.out, HT.out⟩
      case measure => simp [intOf]; omega
    · obtain rfl : n = i + 1 := by omega
      have HO : Hid (∀ c ty, (Builtin.clear_ #[66] ty #[.slice (some ⟨g, i * 2, none⟩) 1 c]).run Try.prog wr = .ok (.tuple #[]) ((wr.setCell ⟨g, i * 2, none⟩ (.int .i64 0)).setCell ⟨g, i * 2 + 1, none⟩ (.int .i64 0))) := Lib.hid (fun c ty => clear_tk wr g (i * 2) c ty (fun d hd => by
          rw [ho.cellAt _ (by omega), List.getElem?_eq_getElem (by rw [length_tcs, length_mvL, LL.out]; omega)]; rfl) (fun d _ => ho.frozenAt _))
      have HF : Hid (((wr.setCell ⟨g, i * 2, none⟩ (.int .i64 0)).setCell ⟨g, i * 2 + 1, none⟩ (.int .i64 0)).ownsRow base 96 2 (.slice (some ⟨g, 0, none⟩) i cap) i (tcs (l.eraseIdx k))) := Lib.hid (by
        have s := own_shrink (i := i) ((ho.stored (i * 2) (.int .i64 0)).1.stored (i * 2 + 1) (.int .i64 0)).1 (by omega)
        rwa [take_sets, tcs_take, mvL_end hki LL.out] at s)
      have HT : Hid (Tn (fun i => i = g) w ((wr.setCell ⟨g, i * 2, none⟩ (.int .i64 0)).setCell ⟨g, i * 2 + 1, none⟩ (.int .i64 0))) := Lib.hid ((T.set_ (p := ⟨g, i * 2, none⟩) (.inl rfl) _).set_ (p := ⟨g, i * 2 + 1, none⟩) (.inl rfl) _)
      have hnc : ¬ cap = i := by omega
      have m1 : i + 1 - i = 1 := by omega
      have hic : i ≤ cap := by omega
      have hij1 : j = i + 1 := hij
      subst hij1
      clear hij HIJ ho T hb
      have cl := HO.out
      go_wp2
      go_ret
      exact ⟨rfl, HF.out, HT.out⟩

end Go.Proofs.Ytamkadffencpgaa
