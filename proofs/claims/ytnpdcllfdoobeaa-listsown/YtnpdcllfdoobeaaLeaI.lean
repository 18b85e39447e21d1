
/-
  The walk of slices.Insert of one lease into a row of its own.
-/
import Derived.Test.YtnpdcllfdoobeaaLeaX
import Derived.Deep.RegionLaw
import Derived.Laws.CopyOwn
import Derived.Laws.CopyRow
import Derived.Lib.AppendZerosOnto
import Derived.Lib.Overlaps
import Derived.Laws.Externs
namespace Go.Proofs.Ytnpdcllfdoobeaa
set_option linter.all false
open Go.RowKit Go.Shelf Go.Lib

theorem run_copy_row3 (w : World) (dT sT ty elem : TypeId) (g o dLen dCap : Nat) (a : Addr) (sLen sCap m : Nat) (cur : List Value) (t : TypeId) (cs : List Value)
    (hu : Try.prog.underlying dT = some (.slice elem)) (hs : (Try.prog.info? elem).map (·.size) = some 3)
    (hg : w.heap[g]? = some (.cells cur.toArray t (0, 0))) (hm : m = Nat.min sLen dLen) (hn : cs.length = m * 3)
    (hsrc : ∀ j v, cs[j]? = some v → w.cell? (a.add j) = some v) (hfit : o + cs.length ≤ cur.length) (h1 : ∀ v ∈ cs, v.oneCell' = true) :
    (Builtin.copy_ #[dT, sT] ty #[.slice (some ⟨g, o, none⟩) dLen dCap, .slice (some a) sLen sCap]).run Try.prog w =
      .ok (goInt m) (w.setRow g (splice cur o cs).toArray) := by
  have hl := run_loadCells_list (P := Try.prog) w a cs hsrc
  have hst := run_storeCells_at Try.prog g o t cs 0 cur.toArray w hg (by simpa using hfit) h1
  cases hq : Try.prog.info? elem with
  | none => simp [hq] at hs
  | some i =>
    have hi : i.size = 3 := by simpa [hq] using hs
    rw [hn] at hl
    simp [Builtin.copy_, run_underlying hu, Builtin.lenOf, Builtin.firstCells, sizeOf, typeInfo, hq, hi, ← hm, hl, hst, splice]
theorem wpList_copy3 {w : World} {ops : Array Oper} {rest : List Oper} {o : Oper} {a : Act} {Q : Exit → Act → World → Prop} (hgd : o.guard = none) (d s : Operand) (dT sT : TypeId)
    (ho : o.op = .call { callee := .builtin .copy, args := #[d, s], argTypes := #[dT, sT] }) (elem : TypeId) (hu : Try.prog.underlying dT = some (.slice elem)) (hsz : (Try.prog.info? elem).map (·.size) = some 3)
    (ad : Addr) (dLen dCap sLen sCap : Nat) (g off : Nat) (hd : a.eval d = .slice (some ⟨g, off, none⟩) dLen dCap) (hs : a.eval s = .slice (some ad) sLen sCap)
    (cur : List Value) (t : TypeId) (hg : w.heap[g]? = some (.cells cur.toArray t (0, 0))) (cs : List Value) (m : Nat) (hm : m = Nat.min sLen dLen) (hn : cs.length = m * 3)
    (hsrc : ∀ j v, cs[j]? = some v → w.cell? (ad.add j) = some v) (hfit : off + cs.length ≤ cur.length) (h1 : ∀ v ∈ cs, v.oneCell' = true)
    (h : wpList Try.prog ops Q rest (a.put o.dst (goInt m)) (w.setRow g (splice cur off cs).toArray)) : wpList Try.prog ops Q (o :: rest) a w := by
  refine wpList_plain hgd fun K hK => ?_
  have hrun := run_copy_row3 w dT sT o.type elem g off dLen dCap ad sLen sCap m cur t cs hu hsz hg hm hn hsrc hfit h1
  unfold Oper.wp
  simp [execOp, ho, resolve, invoke, builtin, hd, hs, hrun, Result.andThen]
  exact hK _ _ h
theorem step_copy3 {ops : Array Oper} {o : Oper} {a : Act} {w : World} {K : Act → World → Prop} {Q : Exit → Act → World → Prop} {E : Prop} (hgd : o.guard = none) (d s : Operand) (dT sT : TypeId)
    (ho : o.op = .call { callee := .builtin .copy, args := #[d, s], argTypes := #[dT, sT] }) (elem : TypeId) (hu : Try.prog.underlying dT = some (.slice elem)) (hsz : (Try.prog.info? elem).map (·.size) = some 3)
    (ad : Addr) (dLen dCap sLen sCap : Nat) (g off : Nat) (hd : a.eval d = .slice (some ⟨g, off, none⟩) dLen dCap) (hs : a.eval s = .slice (some ad) sLen sCap)
    (cur : List Value) (t : TypeId) (hg : w.heap[g]? = some (.cells cur.toArray t (0, 0))) (cs : List Value) (m : Nat) (hm : m = Nat.min sLen dLen) (hn : cs.length = m * 3)
    (hsrc : ∀ j v, cs[j]? = some v → w.cell? (ad.add j) = some v) (hfit : off + cs.length ≤ cur.length) (h1 : ∀ v ∈ cs, v.oneCell' = true)
    (h : K (a.put o.dst (goInt m)) (w.setRow g (splice cur off cs).toArray)) :
    if Region.wanted o (yielded ops a.tmps) = true then Oper.wp Try.prog o a w K Q else E := by
  have hw : Region.wanted o (yielded ops a.tmps) = true := by simp [Region.wanted, hgd]
  rw [if_pos hw]
  have hrun := run_copy_row3 w dT sT o.type elem g off dLen dCap ad sLen sCap m cur t cs hu hsz hg hm hn hsrc hfit h1
  unfold Oper.wp
  simp [execOp, ho, resolve, invoke, builtin, hd, hs, hrun, Result.andThen]
  exact h
theorem le_size : (Try.prog.info? 35).map (·.size) = some 3 := by kernel_rfl
/-- A row of one's own, known whole. -/
theorem own_mk {w : World} {base g n cap : Nat} {e : TypeId} {cur : Array Value} {xs : List Value} (hb : Blk w g e cur) (hB : base ≤ g) (hn : n ≤ cap) (hc : cap ≤ 9223372036854775807) (hs : cur.size = cap * 3) (hx : xs.length = n * 3) (ht : cur.toList.take (n * 3) = xs) : w.ownsRow base e 3 (.slice (some ⟨g, 0, none⟩) n cap) n xs :=
  ⟨hx, .inr ⟨g, cap, cur, rfl, hB, hb, hn, by unfold maxLen; omega, hs, ht⟩⟩
theorem own_whole {w : World} {base g n cap : Nat} {e : TypeId} {xs : List Value} (h : w.ownsRow base e 3 (.slice (some ⟨g, 0, none⟩) n cap) n xs) : ∃ cur : List Value, Blk w g e cur.toArray ∧ base ≤ g ∧ n ≤ cap ∧ cap ≤ 9223372036854775807 ∧ cur.length = cap * 3 ∧ cur.take (n * 3) = xs := by
  rcases h.2 with ⟨hv, _⟩ | ⟨g', cap', cur, hv, hB, hh, hn, hm, hs, ht⟩
  · cases hv
  · injection hv with e1 e2 e3
    injection e1 with e1
    injection e1 with e1
    subst e1 e3
    exact ⟨cur.toList, hh, hB, hn, by unfold maxLen at hm; omega, by simpa using hs, ht⟩
theorem below_row {B g : Nat} {w0 w : World} (hb : Below B w0 w) (hBg : B ≤ g) (cs : Array Value) : Below B w0 (w.setRow g cs) :=
  hb.trans ⟨rfl, rfl, rfl, by simp [World.setRow], fun k hk => setRow_other w g k cs (by omega)⟩
theorem blk_row {w : World} {g : Nat} {t : TypeId} {cs : Array Value} (h : Blk w g t cs) (cs' : Array Value) : Blk (w.setRow g cs') g t cs' := setRow_heap w g cs cs' t _ h
theorem blk_other {w : World} {g g' : Nat} {t : TypeId} {cs : Array Value} (h : Blk w g t cs) (ne : g ≠ g') (cs' : Array Value) : Blk (w.setRow g' cs') g t cs := (setRow_other w g' g cs' ne).trans h
theorem lcs_take (l : List Lz) (i : Nat) : (lcs l).take (i * 3) = lcs (l.take i) := by
  have e : lcs l = lcs (l.take i) ++ lcs (l.drop i) := by rw [← lcs_append, List.take_append_drop]
  rw [e]
  by_cases c : i ≤ l.length
  · rw [List.take_append_of_le_length (by rw [length_lcs, List.length_take]; omega), List.take_of_length_le (by rw [length_lcs, List.length_take]; omega)]
  · rw [List.take_of_length_le (by rw [List.length_append, length_lcs, length_lcs, List.length_take, List.length_drop]; omega), List.drop_of_length_le (by omega)]
    simp [lcs, pcs]
theorem lcs_drop (l : List Lz) (i : Nat) (h : i ≤ l.length) : (lcs l).drop (i * 3) = lcs (l.drop i) := by
  have e : lcs l = lcs (l.take i) ++ lcs (l.drop i) := by rw [← lcs_append, List.take_append_drop]
  rw [e, List.drop_append_of_le_length (by rw [length_lcs, List.length_take]; omega), List.drop_of_length_le (by rw [length_lcs, List.length_take]; omega), List.nil_append]

/-- What the block of the argument holds. -/
theorem src_three {w : World} {vb : Nat} {t : TypeId} {x : Lz} (h : Blk w vb t #[.int .i64 x.who, .int .i64 x.till, .int .i64 x.pin]) : ∀ (j : Nat) (v : Value), (lcs [x])[j]? = some v → w.cell? ((⟨vb, 0, none⟩ : Addr).add j) = some v := by
  obtain ⟨y0, y1, y2⟩ := three_read h
  intro j v hj
  rw [Addr.add_lit, Nat.zero_add]
  match j, hj with
  | 0, hj => simp [lcs, pcs, lp] at hj; subst hj; exact y0
  | 1, hj => simp [lcs, pcs, lp] at hj; subst hj; exact y1
  | 2, hj => simp [lcs, pcs, lp] at hj; subst hj; exact y2
theorem shapeL {w : World} {g : Nat} {t : TypeId} {cs : Array Value} (h : Blk w g t cs) : w.shape? g = some (t, cs.size) := by
  unfold Blk at h
  simp [World.shape?, h]
set_option maxRecDepth 100000 in
set_option maxHeartbeats 1600000 in
theorem insert_end (B : Option Addr) (n c vb base : Nat) (l : List Lz) (x : Lz) (w : World) (hn : n = l.length) (h8 : n ≤ 1000) (own : w.ownsRow base 35 3 (.slice B n c) n (lcs l)) (hbs : base ≤ w.heap.size) (hv : Blk w vb 35 #[.int .i64 x.who, .int .i64 x.till, .int .i64 x.pin]) :
    Calls Try.prog 56 #[.slice B n c, .int .i64 n, .slice (some ⟨vb, 0, none⟩) 1 1] w fun e w' => ∃ A' c', e = .returned (.slice A' (n + 1) c') ∧ w'.ownsRow base 35 3 (.slice A' (n + 1) c') (n + 1) (lcs (l ++ [x])) ∧ Below base w w' := by
  obtain ⟨i0, hi0, hz0, hz1, hz2⟩ := info_parts le_info
  have HS : Hid (∀ (j : Nat) (v : Value), [Value.int .i64 x.who, .int .i64 x.till, .int .i64 x.pin][j]? = some v → w.cell? ((⟨vb, 0, none⟩ : Addr).add j) = some v) := Lib.hid (src_three hv)
  have HL := Lib.hid hn
  clear hn
  have hc : n ≤ c := by
    rcases own.2 with ⟨hv', h0⟩ | ⟨g, cap, cur, hv', _, _, hn', _⟩
    · omega
    · injection hv' with _ _ e; subst e; exact hn'
  by_cases hcn : c = n
  · obtain rfl : n = c := hcn.symm
    go_enter Try.func56, Try.ntmps56
    go_wp2_with (at_builtin; refine wpList_append_own _ rfl _ _ 33 rfl base 35 i0 (.agg #[.int .i64 0, .int .i64 0, .int .i64 0]) 3 24 Try.underlying33 hi0 hz0 hz1 hz2 rfl (by decide) _ _ _ rfl own ⟨vb, 0, none⟩ 1 1 [.int .i64 x.who, .int .i64 x.till, .int .i64 x.pin] rfl rfl HS.out (three_oneL _ _ _) (by unfold maxLen; omega) (by omega) hbs ?_)
    intro v' w1 hown hgrow _
    have o1 : w1.ownsRow base 35 3 v' (n + 1) (lcs (l ++ [x])) := by rw [lcs_append]; exact hown
    have b1 : Below base w w1 := (Below.refl _ w).grown hgrow hbs (fun k hk => (own.lt k hk).1)
    obtain ⟨A', c', rfl⟩ := row_formL o1
    clear hown hgrow own
    go_wp2
    go_ret
    exact ⟨A', c', rfl, o1, b1⟩
  · go_enter Try.func56, Try.ntmps56
    go_wp2_with (at_builtin; refine wpList_append_own _ rfl _ _ 33 rfl base 35 i0 (.agg #[.int .i64 0, .int .i64 0, .int .i64 0]) 3 24 Try.underlying33 hi0 hz0 hz1 hz2 rfl (by decide) _ _ _ rfl own ⟨vb, 0, none⟩ 1 1 [.int .i64 x.who, .int .i64 x.till, .int .i64 x.pin] rfl rfl HS.out (three_oneL _ _ _) (by unfold maxLen; omega) (by omega) hbs ?_)
    intro v' w1 hown hgrow _
    have o1 : w1.ownsRow base 35 3 v' (n + 1) (lcs (l ++ [x])) := by rw [lcs_append]; exact hown
    have b1 : Below base w w1 := (Below.refl _ w).grown hgrow hbs (fun k hk => (own.lt k hk).1)
    obtain ⟨A', c', rfl⟩ := row_formL o1
    clear hown hgrow own
    go_wp2
    go_ret
    exact ⟨A', c', rfl, o1, b1⟩

theorem take_min {α : Type} (L : List α) (i : Nat) (h : i ≤ L.length) : (L.take i).length = i := by rw [List.length_take]; omega
theorem ins_len (l : List Lz) (x : Lz) {i : Nat} (h : i ≤ l.length) : (lcs (l.take i ++ x :: l.drop i)).length = (l.length + 1) * 3 := by
  rw [length_lcs, List.length_append, List.length_cons, List.length_take, List.length_drop]; omega

set_option maxRecDepth 100000 in
set_option maxHeartbeats 1600000 in
/-- There is room: in place. -/
theorem insert_shift (g n c i vb base : Nat) (l : List Lz) (x : Lz) (w : World) (hn : l.length = n) (h8 : n ≤ 1000) (hi : i < n) (hroom : n + 1 ≤ c) (own : w.ownsRow base 35 3 (.slice (some ⟨g, 0, none⟩) n c) n (lcs l)) (hv : Blk w vb 35 #[.int .i64 x.who, .int .i64 x.till, .int .i64 x.pin]) (hvb : vb ≠ g) :
    Calls Try.prog 56 #[.slice (some ⟨g, 0, none⟩) n c, .int .i64 i, .slice (some ⟨vb, 0, none⟩) 1 1] w fun e w' => ∃ A' c', e = .returned (.slice A' (n + 1) c') ∧ w'.ownsRow base 35 3 (.slice A' (n + 1) c') (n + 1) (lcs (l.take i ++ x :: l.drop i)) ∧ Below base w w' := by
  obtain ⟨cur, B0, hB, _, hc63, hcl, hct⟩ := own_whole own
  obtain ⟨i0, hi0, hz0, hz1, hz2⟩ := info_parts le_info
  have hll : (lcs l).length = n * 3 := by rw [length_lcs, hn]
  have hdl : (lcs (l.drop i)).length = (n - i) * 3 := by rw [length_lcs, List.length_drop, hn]
  have curL : cur = lcs l ++ cur.drop (n * 3) := by rw [← hct, List.take_append_drop]
  have SRC1 : Hid (∀ j v, (lcs (l.drop i))[j]? = some v → w.drew.cell? ((⟨g, i * 3, none⟩ : Addr).add j) = some v) := Lib.hid (fun j v hj => by
    rw [Addr.add_lit]
    show w.cell? _ = _
    have hj' : j < (n - i) * 3 := by have := (List.getElem?_eq_some_iff.1 hj).1; omega
    rw [own.cellAt _ (by omega)]
    rw [← lcs_drop l i (by omega), List.getElem?_drop] at hj
    exact hj)
  have FIT1 : (i + 1) * 3 + (lcs (l.drop i)).length ≤ cur.length := by rw [hdl, hcl]; omega
  obtain ⟨c1, hc1⟩ : ∃ c1, c1 = splice cur ((i + 1) * 3) (lcs (l.drop i)) := ⟨_, rfl⟩
  have c1l : c1.length = c * 3 := by rw [hc1, length_splice _ _ _ FIT1, hcl]
  have FIT2 : i * 3 + (lcs [x]).length ≤ c1.length := by rw [c1l]; simp [lcs, pcs]; omega
  obtain ⟨c2, hc2⟩ : ∃ c2, c2 = splice c1 (i * 3) (lcs [x]) := ⟨_, rfl⟩
  have c2l : c2.length = c * 3 := by rw [hc2, length_splice _ _ _ FIT2, c1l]
  have FIN : c2.take ((n + 1) * 3) = lcs (l.take i ++ x :: l.drop i) := by
    have t1 : (lcs (l.take i)).length = i * 3 := by rw [length_lcs, take_min l i (by omega)]
    have x3 : (lcs [x]).length = 3 := by simp [lcs, pcs]
    have e0 : cur.take (i * 3) = lcs (l.take i) := by
      rw [curL, List.take_append_of_le_length (show i * 3 ≤ (lcs l).length by rw [hll]; omega), lcs_take]
    have e1 : c1.take (i * 3) = lcs (l.take i) := by
      rw [hc1, splice, List.take_append_of_le_length (show i * 3 ≤ (cur.take ((i + 1) * 3)).length by rw [List.length_take, hcl]; omega), List.take_take, show min (i * 3) ((i + 1) * 3) = i * 3 by omega, e0]
    have e2 : (c1.drop (i * 3 + 3)).take ((n - i) * 3) = lcs (l.drop i) := by
      have q : (cur.take ((i + 1) * 3)).length = i * 3 + 3 := by rw [List.length_take, hcl]; omega
      rw [hc1, splice, ← q, List.drop_left, List.take_append_of_le_length (by rw [hdl]; exact Nat.le_refl _), List.take_of_length_le (by rw [hdl]; exact Nat.le_refl _)]
    rw [hc2, splice, e1, x3, ← List.append_assoc, List.take_append, List.length_append, t1, x3, List.take_of_length_le (by rw [List.length_append, t1, x3]; omega), show (n + 1) * 3 - (i * 3 + 3) = (n - i) * 3 by omega, e2]
    rw [show l.take i ++ x :: l.drop i = l.take i ++ ([x] ++ l.drop i) by simp, lcs_append, lcs_append, List.append_assoc]
  have HC1 := Lib.hid hc1
  have HC2 := Lib.hid hc2
  have B0' : w.drew.heap[g]? = some (.cells cur.toArray 35 (0, 0)) := B0
  have BZ := Lib.hid B0'
  have h1d : Hid (∀ v ∈ lcs (l.drop i), v.oneCell' = true) := Lib.hid (lcs_one _)
  have h1x : Hid (∀ v ∈ lcs [x], v.oneCell' = true) := Lib.hid (lcs_one _)
  have V1 : Blk w.drew vb 35 #[.int .i64 x.who, .int .i64 x.till, .int .i64 x.pin] := hv
  have BL : Blk w.drew g 35 cur.toArray := B0
  obtain ⟨W1, hW1⟩ : ∃ W1, W1 = w.drew.setRow g c1.toArray := ⟨_, rfl⟩
  have B1 : Blk W1 g 35 c1.toArray := by rw [hW1]; exact blk_row BL _
  have V2 : Blk W1 vb 35 #[.int .i64 x.who, .int .i64 x.till, .int .i64 x.pin] := by rw [hW1]; exact blk_other V1 hvb _
  have b1 : Below base w W1 := by rw [hW1]; exact below_row (Below.refl _ w).drew hB _
  have HW1 := Lib.hid hW1
  obtain ⟨W2, hW2⟩ : ∃ W2, W2 = W1.setRow g c2.toArray := ⟨_, rfl⟩
  have B2 : Blk W2 g 35 c2.toArray := by rw [hW2]; exact blk_row B1 _
  have b2 : Below base w W2 := by rw [hW2]; exact below_row b1 hB _
  have o2 := own_mk (n := n + 1) B2 hB hroom hc63 (by simpa using c2l) (show (lcs (l.take i ++ x :: l.drop i)).length = (n + 1) * 3 by rw [ins_len l x (show i ≤ l.length by omega), hn]) (by simpa using FIN)
  have HW2 := Lib.hid hW2
  have O2 := Lib.hid o2
  have SRC2 := Lib.hid (src_three V2)
  have BZ1 := Lib.hid (show W1.heap[g]? = some (.cells c1.toArray 35 (0, 0)) from B1)
  have DL := Lib.hid hdl
  have C1L := Lib.hid c1l
  have z1 : ¬ ((i : Int) = (n : Int)) := by omega
  have z1b : ((i : Int) == (n : Int)) = false := by rw [beq_eq_false_iff_ne]; omega
  have z2 : ¬ (c : Int) < (n : Int) + 1 := by omega
  have z3 : IntKind.i64.wrap ((n : Int) + 1) = (n : Int) + 1 := IntWalk.i64_in _ ⟨by omega, by omega⟩
  have z4 : IntKind.i64.wrap ((i : Int) + 1) = (i : Int) + 1 := IntWalk.i64_in _ ⟨by omega, by omega⟩
  have z5 : ((n : Int) + 1).toNat = n + 1 := by omega
  have z6 : ((i : Int) + 1).toNat = i + 1 := by omega
  have z7 : ¬ (c = i) := by omega
  have z8 : ¬ (c = i + 1) := by omega
  have z9 : (i : Int) ≤ (n : Int) := by omega
  have z10 : (i : Int) + 1 ≤ (n : Int) + 1 := by omega
  have z11 : (n : Int) + 1 ≤ (c : Int) := by omega
  have z12 : (0 : Int) ≤ (i : Int) + 1 := by omega
  have z13 : (i : Int) ≤ (n : Int) + 1 := by omega
  have hov : ∀ lb cb, (callFunc 72 #[.slice (some ⟨vb, 0, none⟩) 1 1, .slice (some ⟨g, (i + 1) * 3, none⟩) lb cb]).run Try.prog w = .ok (.value (.bool false)) w := fun lb cb => by
    have hsz : ∀ w, (Go.sizeOf 35).run Try.prog w = .ok 3 w := fun w => by simp [sizeOf, typeInfo, hi0, hz1]
    rw [run_callFunc_extern Try.func72 (by kernel_rfl) (by kernel_rfl) (by kernel_rfl) (e := Extern.SlicesOverlaps.overlaps #[33, 33] #[4]) (by kernel_rfl),
      Lib.run_overlaps_apart w 33 4 35 Try.underlying33 3 hsz ⟨vb, 0, none⟩ ⟨g, (i + 1) * 3, none⟩ 1 1 lb cb hvb 35 35 3 (c * 3) (shapeL hv) (by have := shapeL B0; simpa [hcl] using this) (by omega) (hv.frozen 0) (hv.frozen 3)]
    rfl
  clear hc1 hc2 hW1 hW2 o2 B0 B0' BL V1 V2 B1 B2 curL hct hcl hll hdl c1l c2l FIN hi0 hz0 hz1 hz2 own hv
  go_enter Try.func56, Try.ntmps56
  go_wp2_with (simp only [hov])
  go_region_law ((refine step_copy3 (by rfl) (.tmp 73) (.tmp 76) 33 33 (by rfl) 35 Try.underlying33 le_size ⟨g, i * 3, none⟩ (n + 1 - (i + 1)) (c - (i + 1)) (n + 1 - i) (c - i) g ((i + 1) * 3) (by go_simp) (by go_simp) cur 35 BZ.out (lcs (l.drop i)) (n - i) (by rw [show Nat.min (n + 1 - i) (n + 1 - (i + 1)) = min (n + 1 - i) (n + 1 - (i + 1)) from rfl]; omega) DL.out SRC1.out FIT1 h1d.out ?_))
  rw [← HC1.out, ← HW1.out]
  go_wp2_with (refine wpList_copy3 (by rfl) (.tmp 80) (.tmp 81) 33 33 (by rfl) 35 Try.underlying33 le_size ⟨vb, 0, none⟩ (n + 1 - i) (c - i) 1 1 g (i * 3) (by go_simp) (by go_simp) c1 35 BZ1.out (lcs [x]) 1 (by rw [show Nat.min 1 (n + 1 - i) = min 1 (n + 1 - i) from rfl]; omega) (by simp [lcs, pcs]) SRC2.out FIT2 h1x.out ?_)
  rw [← HC2.out, ← HW2.out]
  go_wp2
  go_ret
  exact ⟨some ⟨g, 0, none⟩, c, rfl, O2.out, b2⟩

set_option maxRecDepth 100000 in
set_option maxHeartbeats 1600000 in
/-- There is no room: a new row. -/
theorem insert_grow (g n c i vb base : Nat) (l : List Lz) (x : Lz) (w : World) (hn : l.length = n) (h8 : n ≤ 1000) (hi : i < n) (hroom : c < n + 1) (hbs : base ≤ w.heap.size) (own : w.ownsRow base 35 3 (.slice (some ⟨g, 0, none⟩) n c) n (lcs l)) (hv : Blk w vb 35 #[.int .i64 x.who, .int .i64 x.till, .int .i64 x.pin]) :
    Calls Try.prog 56 #[.slice (some ⟨g, 0, none⟩) n c, .int .i64 i, .slice (some ⟨vb, 0, none⟩) 1 1] w fun e w' => ∃ A' c', e = .returned (.slice A' (n + 1) c') ∧ w'.ownsRow base 35 3 (.slice A' (n + 1) c') (n + 1) (lcs (l.take i ++ x :: l.drop i)) ∧ Below base w w' := by
  obtain ⟨cur0, B00, _, hcn, hc63, hcl0, hct0⟩ := own_whole own
  obtain ⟨i0, hi0, hz0, hz1, hz2⟩ := info_parts le_info
  have hll : (lcs l).length = n * 3 := by rw [length_lcs, hn]
  have hdl : (lcs (l.drop i)).length = (n - i) * 3 := by rw [length_lcs, List.length_drop, hn]
  have htl : (lcs (l.take i)).length = i * 3 := by rw [length_lcs, take_min l i (by omega)]
  have x3 : (lcs [x]).length = 3 := by simp [lcs, pcs]
  have hold : (Builtin.firstCells i0.size i (.slice (some ⟨g, 0, none⟩) i c)).run Try.prog w.drew = .ok (lcs (l.take i)).toArray w.drew := by
    rw [hz1]
    refine run_firstCells_some w.drew 3 i ⟨g, 0, none⟩ i c (lcs (l.take i)) htl (fun j v hj => ?_)
    have hj' : j < i * 3 := by have := (List.getElem?_eq_some_iff.1 hj).1; omega
    rw [Addr.add_lit, Nat.zero_add]
    show w.cell? _ = _
    rw [own.cellAt _ (by omega)]
    rw [← lcs_take, List.getElem?_take_of_lt hj'] at hj
    exact hj
  obtain ⟨G, hG⟩ : ∃ G, G = grownCap w (n + 1) c 35 := ⟨_, rfl⟩
  have hGn : n + 1 ≤ G := by rw [hG]; exact grownCap_ge w _ _ _
  have hG63 : G ≤ 9223372036854775807 := by
    have := grownCap_le_maxLen w (n + 1) c 35 (by unfold maxLen; omega)
    rw [← hG] at this
    unfold maxLen at this
    omega
  obtain ⟨Z, hZ⟩ : ∃ Z : Array Value, Z = (lcs (l.take i)).toArray ++ Builtin.zeroCells (Value.agg #[.int .i64 0, .int .i64 0, .int .i64 0]).cells (n + 1 - i) ++ Builtin.zeroCells (Value.agg #[.int .i64 0, .int .i64 0, .int .i64 0]).cells (G - (n + 1)) := ⟨_, rfl⟩
  have hz3 : (Value.agg #[.int .i64 0, .int .i64 0, .int .i64 0]).cells.size = 3 := by kernel_rfl
  have ZL : Z.toList.length = G * 3 := by
    rw [hZ, Array.length_toList, Array.size_append, Array.size_append, size_zeroCells, size_zeroCells, hz3, List.size_toArray, htl]; omega
  have Z0 : Z.toList.take (i * 3) = lcs (l.take i) := by
    rw [hZ, Array.toList_append, Array.toList_append, List.append_assoc, List.take_append_of_le_length (show i * 3 ≤ (lcs (l.take i)).toArray.toList.length by rw [Array.length_toList, List.size_toArray, htl]; exact Nat.le_refl _), List.take_of_length_le (by rw [Array.length_toList, List.size_toArray, htl]; exact Nat.le_refl _)]
  obtain ⟨N, hN⟩ : ∃ N, N = w.heap.size := ⟨_, rfl⟩
  have gN : g < N := by rw [hN]; exact (own.lt g rfl).2
  have vN : vb < N := by rw [hN]; exact hv.lt
  have hrz0 : ∀ ty, (Builtin.append_ #[33, 3] ty #[.slice (some ⟨g, 0, none⟩) i c, .int .i64 ((n : Int) + 1 - (i : Int))]).run Try.prog w = .ok (.slice (some ⟨N, 0, none⟩) (n + 1) G) (w.drew.alloc (.cells Z 35)) := fun ty => by
    have h := Lib.run_append_grow_zeros w 33 3 ty 35 i0 _ .i64 .i64 Try.underlying33 Try.underlying3 hi0 hz0 (some ⟨g, 0, none⟩) i c (lcs (l.take i)) hold (n + 1 - i) (by omega) (by omega) (by omega) (by omega) (by rw [hz2]; omega) (by rw [hz2, show i + (n + 1 - i) = n + 1 by omega]; exact growslice_fits hroom (by omega))
    rw [show ((n + 1 - i : Nat) : Int) = (n : Int) + 1 - (i : Int) by omega, show i + (n + 1 - i) = n + 1 by omega] at h
    rw [hN, hG, hZ, hG]
    exact h
  obtain ⟨W0, hW0⟩ : ∃ W0, W0 = w.drew.alloc (.cells Z 35) := ⟨_, rfl⟩
  rw [← hW0] at hrz0
  have B0 : Blk W0 N 35 Z.toList.toArray := by
    rw [Array.toArray_toList, hW0, hN]; exact Blk.new w.drew _ _
  have b0 : Below base w W0 := by rw [hW0]; exact (Below.refl _ w).drew.alloc hbs _
  have V0 : Blk W0 vb 35 #[.int .i64 x.who, .int .i64 x.till, .int .i64 x.pin] := by
    rw [hW0]; exact (show Blk w.drew vb 35 _ from hv).alloc _
  have G0 : Blk W0 g 35 cur0.toArray := by
    rw [hW0]; exact (show Blk w.drew g 35 _ from B00).alloc _
  have SRC1 := Lib.hid (src_three V0)
  have FIT1 : i * 3 + (lcs [x]).length ≤ Z.toList.length := by rw [ZL, x3]; omega
  obtain ⟨c1, hc1⟩ : ∃ c1, c1 = splice Z.toList (i * 3) (lcs [x]) := ⟨_, rfl⟩
  have c1l : c1.length = G * 3 := by rw [hc1, length_splice _ _ _ FIT1, ZL]
  obtain ⟨W1, hW1⟩ : ∃ W1, W1 = W0.setRow N c1.toArray := ⟨_, rfl⟩
  have B1 : Blk W1 N 35 c1.toArray := by rw [hW1]; exact blk_row B0 _
  have b1 : Below base w W1 := by rw [hW1]; exact below_row b0 (by omega) _
  have G1 : Blk W1 g 35 cur0.toArray := by rw [hW1]; exact blk_other G0 (by omega) _
  have SRC2 : Hid (∀ j v, (lcs (l.drop i))[j]? = some v → W1.drew.cell? ((⟨g, i * 3, none⟩ : Addr).add j) = some v) := Lib.hid (fun j v hj => by
    rw [Addr.add_lit]
    show W1.cell? _ = _
    have hj' : j < (n - i) * 3 := by have := (List.getElem?_eq_some_iff.1 hj).1; omega
    rw [G1.cell, List.getElem?_toArray]
    rw [← lcs_drop l i (by omega), ← hct0, List.getElem?_drop, List.getElem?_take_of_lt (by omega)] at hj
    exact hj)
  have FIT2 : (i + 1) * 3 + (lcs (l.drop i)).length ≤ c1.length := by rw [hdl, c1l]; omega
  obtain ⟨c2, hc2⟩ : ∃ c2, c2 = splice c1 ((i + 1) * 3) (lcs (l.drop i)) := ⟨_, rfl⟩
  have c2l : c2.length = G * 3 := by rw [hc2, length_splice _ _ _ FIT2, c1l]
  obtain ⟨W2, hW2⟩ : ∃ W2, W2 = W1.drew.setRow N c2.toArray := ⟨_, rfl⟩
  have B1d : Blk W1.drew N 35 c1.toArray := B1
  have B2 : Blk W2 N 35 c2.toArray := by rw [hW2]; exact blk_row B1d _
  have b2 : Below base w W2 := by rw [hW2]; exact below_row b1.drew (by omega) _
  have FIN : c2.take ((n + 1) * 3) = lcs (l.take i ++ x :: l.drop i) := by
    have e1 : c1.take ((i + 1) * 3) = lcs (l.take i) ++ lcs [x] := by
      rw [hc1, splice, Z0, ← List.append_assoc, List.take_append_of_le_length (show (i + 1) * 3 ≤ (lcs (l.take i) ++ lcs [x]).length by rw [List.length_append, htl, x3]; omega), List.take_of_length_le (by rw [List.length_append, htl, x3]; omega)]
    rw [hc2, splice, e1, ← List.append_assoc, List.take_append_of_le_length (show (n + 1) * 3 ≤ (lcs (l.take i) ++ lcs [x] ++ lcs (l.drop i)).length by rw [List.length_append, List.length_append, htl, x3, hdl]; omega), List.take_of_length_le (by rw [List.length_append, List.length_append, htl, x3, hdl]; omega)]
    rw [show l.take i ++ x :: l.drop i = l.take i ++ ([x] ++ l.drop i) by simp, lcs_append, lcs_append, List.append_assoc]
  have o2 := own_mk (n := n + 1) B2 (show base ≤ N by omega) hGn hG63 (by simpa using c2l) (show (lcs (l.take i ++ x :: l.drop i)).length = (n + 1) * 3 by rw [ins_len l x (show i ≤ l.length by omega), hn]) (by simpa using FIN)
  have HC1 := Lib.hid hc1
  have HC2 := Lib.hid hc2
  have HW1 := Lib.hid hW1
  have HW2 := Lib.hid hW2
  have O2 := Lib.hid o2
  have BZ := Lib.hid (show W0.heap[N]? = some (.cells Z.toList.toArray 35 (0, 0)) from B0)
  have BZ1 := Lib.hid (show W1.drew.heap[N]? = some (.cells c1.toArray 35 (0, 0)) from B1)
  have DL := Lib.hid hdl
  have h1d : Hid (∀ v ∈ lcs (l.drop i), v.oneCell' = true) := Lib.hid (lcs_one _)
  have h1x : Hid (∀ v ∈ lcs [x], v.oneCell' = true) := Lib.hid (lcs_one _)
  have hrz := Lib.hid hrz0
  have z1 : ¬ ((i : Int) = (n : Int)) := by omega
  have z1b : ((i : Int) == (n : Int)) = false := by rw [beq_eq_false_iff_ne]; omega
  have z2 : (c : Int) < (n : Int) + 1 := by omega
  have z3 : IntKind.i64.wrap ((n : Int) + 1) = (n : Int) + 1 := IntWalk.i64_in _ ⟨by omega, by omega⟩
  have z4 : IntKind.i64.wrap ((i : Int) + 1) = (i : Int) + 1 := IntWalk.i64_in _ ⟨by omega, by omega⟩
  have z6 : ((i : Int) + 1).toNat = i + 1 := by omega
  have z7 : ¬ (c = i) := by omega
  have z8 : ¬ (G = i + 1) := by omega
  have z8b : ¬ (G = i) := by omega
  have z9 : (i : Int) ≤ (n : Int) := by omega
  have z10 : (i : Int) + 1 ≤ (n : Int) + 1 := by omega
  have z12 : (0 : Int) ≤ (i : Int) + 1 := by omega
  have z13 : (i : Int) ≤ (n : Int) + 1 := by omega
  have z14 : (i : Int) ≤ (c : Int) := by omega
  clear hc1 hc2 hW1 hW2 hW0 hZ hG o2 B0 B00 G0 G1 V0 B1 B1d B2 hcl0 hct0 hll hdl htl x3 c1l c2l FIN Z0 hi0 hz0 hz1 hz2 hz3 own hv hold hrz0 hn hN
  go_enter Try.func56, Try.ntmps56
  go_wp2_with (first
    | (at_builtin; refine Lib.wpList_append_run _ rfl _ _ _ _ rfl _ _ rfl rfl _ _ (hrz.out _) ?_)
    | (refine wpList_copy3 (by rfl) (.tmp 43) (.tmp 44) 33 33 (by rfl) 35 Try.underlying33 le_size ⟨vb, 0, none⟩ (n + 1 - i) (G - i) 1 1 N (i * 3) (by go_simp) (by go_simp) Z.toList 35 BZ.out (lcs [x]) 1 (by rw [show Nat.min 1 (n + 1 - i) = min 1 (n + 1 - i) from rfl]; omega) (by simp [lcs, pcs]) SRC1.out FIT1 h1x.out ?_; rw [← HC1.out, ← HW1.out]))
  go_region_law ((refine step_copy3 (by rfl) (.tmp 50) (.tmp 53) 33 33 (by rfl) 35 Try.underlying33 le_size ⟨g, i * 3, none⟩ (n + 1 - (i + 1)) (G - (i + 1)) (n - i) (c - i) N ((i + 1) * 3) (by go_simp) (by go_simp) c1 35 BZ1.out (lcs (l.drop i)) (n - i) (by rw [show Nat.min (n - i) (n + 1 - (i + 1)) = min (n - i) (n + 1 - (i + 1)) from rfl]; omega) DL.out SRC2.out FIT2 h1d.out ?_))
  rw [← HC2.out, ← HW2.out]
  go_wp2
  go_ret
  exact ⟨some ⟨N, 0, none⟩, G, rfl, O2.out, b2⟩

/-- One more lease, wherever. -/
theorem insert_any (B : Option Addr) (n c i vb base : Nat) (l : List Lz) (x : Lz) (w : World) (hn : l.length = n) (h8 : n ≤ 1000) (hi : i ≤ n) (hbs : base ≤ w.heap.size) (own : w.ownsRow base 35 3 (.slice B n c) n (lcs l)) (hv : Blk w vb 35 #[.int .i64 x.who, .int .i64 x.till, .int .i64 x.pin]) (hvb : ∀ g, (Value.slice B n c).ownBlock = some g → vb ≠ g) :
    Calls Try.prog 56 #[.slice B n c, .int .i64 i, .slice (some ⟨vb, 0, none⟩) 1 1] w fun e w' => ∃ A' c', e = .returned (.slice A' (n + 1) c') ∧ w'.ownsRow base 35 3 (.slice A' (n + 1) c') (n + 1) (lcs (l.take i ++ x :: l.drop i)) ∧ Below base w w' := by
  by_cases e : i = n
  · subst e
    rw [← hn, List.take_of_length_le (Nat.le_refl _), List.drop_of_length_le (Nat.le_refl _), hn]
    exact insert_end B i c vb base l x w hn.symm h8 own hbs hv
  · obtain ⟨g, rfl⟩ : ∃ g, B = some ⟨g, 0, none⟩ := by
      rcases own.2 with ⟨hv', h0⟩ | ⟨g, cap, cur, hv', _⟩
      · omega
      · injection hv' with e1 _ _; exact ⟨g, e1⟩
    by_cases r : n + 1 ≤ c
    · exact insert_shift g n c i vb base l x w hn h8 (by omega) r own hv (hvb g rfl)
    · exact insert_grow g n c i vb base l x w hn h8 (by omega) (by omega) hbs own hv

end Go.Proofs.Ytnpdcllfdoobeaa
