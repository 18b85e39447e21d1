
/-
  The walk of slices.DeleteFunc over leases, in a row of its own.
-/
import Derived.Test.YtnpdcllfdoobeaaLeaI
import Derived.Test.YtnpdcllfdoobeaaLeaV
namespace Go.Proofs.Ytnpdcllfdoobeaa
set_option linter.all false
open Go.RowKit Go.Shelf Go.Lib

def zsV (m : Nat) : List Value := (Builtin.zeroCells (Value.agg #[.int .i64 0, .int .i64 0, .int .i64 0]).cells m).toList
theorem length_zs (m : Nat) : (zsV m).length = m * 3 := by
  have hz3 : (Value.agg #[.int .i64 0, .int .i64 0, .int .i64 0]).cells.size = 3 := by kernel_rfl
  rw [zsV, Array.length_toList, size_zeroCells, hz3]
theorem zs_one (m : Nat) : ∀ v ∈ zsV m, v.oneCell' = true := by
  have hz3 : (Value.agg #[.int .i64 0, .int .i64 0, .int .i64 0]).cells.size = 3 := by kernel_rfl
  intro v hv
  simp only [zsV, Builtin.zeroCells, Array.toList_map, List.mem_map] at hv
  obtain ⟨i, _, rfl⟩ := hv
  rw [hz3]
  have : i % 3 = 0 ∨ i % 3 = 1 ∨ i % 3 = 2 := by omega
  rcases this with e | e | e <;> rw [e] <;> rfl
theorem run_clear3 (w : World) (g o m c : Nat) (cur : List Value) (t ty : TypeId) (hm : 0 < m) (hg : Blk w g t cur.toArray) (hfit : o + m * 3 ≤ cur.length) :
    (Builtin.clear_ #[33] ty #[.slice (some ⟨g, o, none⟩) m c]).run Try.prog w = .ok (.tuple #[]) (w.setRow g (splice cur o (zsV m)).toArray) := by
  obtain ⟨i0, hi0, hz0, hz1, hz2⟩ := info_parts le_info
  obtain ⟨k, rfl⟩ : ∃ k, m = k + 1 := ⟨m - 1, by omega⟩
  have h1 := zs_one (k + 1)
  have hl := length_zs (k + 1)
  have hst := run_storeCells_at Try.prog g o t (zsV (k + 1)) 0 cur.toArray w hg (by rw [hl]; simpa using hfit) h1
  obtain ⟨zs, hzs⟩ : ∃ zs, zs = zsV (k + 1) := ⟨_, rfl⟩
  rw [← hzs] at hst ⊢
  have hzs' : (Builtin.zeroCells (Value.agg #[.int .i64 0, .int .i64 0, .int .i64 0]).cells (k + 1)).toList = zs := hzs.symm
  simp [Builtin.clear_, run_underlying Try.underlying33, zeroValue, typeInfo, hi0, hz0, hzs', hst, splice]
theorem keep_ix {p : Lz → Bool} : ∀ l : List Lz, (l.take (ixZ p l)).filter (fun a => !p a) = l.take (ixZ p l)
  | [] => rfl
  | a :: l => by
    rw [ixZ]
    by_cases c : p a = true
    · rw [if_pos c]; rfl
    · rw [if_neg c, List.take_succ_cons, List.filter_cons, if_pos (by simpa using c), keep_ix l]
theorem keep_all {p : Lz → Bool} {l : List Lz} (h : ¬ ixZ p l < l.length) : l.filter (fun a => !p a) = l := by
  have := keep_ix (p := p) l
  rwa [List.take_of_length_le (by have := ix_le p l; omega)] at this
theorem keep_snoc {p : Lz → Bool} {l : List Lz} {j : Nat} {a : Lz} (h : l[j]? = some a) : (l.take (j + 1)).filter (fun a => !p a) = (l.take j).filter (fun a => !p a) ++ if p a = true then [] else [a] := by
  have hk := (List.getElem?_eq_some_iff.1 h).1
  have : l[j] = a := by rw [List.getElem?_eq_getElem hk] at h; exact Option.some.inj h
  rw [List.take_succ_eq_append_getElem hk, List.filter_append, this]
  congr 1
  by_cases c : p a = true <;> simp [c]
theorem drop_at {M l : List Lz} {j : Nat} (h : M.drop j = l.drop j) : M[j]? = l[j]? := by
  have e1 : (M.drop j)[0]? = (l.drop j)[0]? := by rw [h]
  simpa using e1
theorem drop_next {M l : List Lz} {j : Nat} (h : M.drop j = l.drop j) : M.drop (j + 1) = l.drop (j + 1) := by
  rw [← List.drop_drop, ← List.drop_drop, h]
theorem take_put {M : List Lz} {i : Nat} (a : Lz) (h : i < M.length) : (M.set i a).take (i + 1) = M.take i ++ [a] := by
  rw [List.take_succ_eq_append_getElem (by rw [List.length_set]; exact h), List.take_set_of_le (Nat.le_refl _)]
  simp

set_option maxRecDepth 100000 in
set_option maxHeartbeats 3200000 in
theorem delFunc_any (k : FuncId) (bb : Nat) (t : TypeId) (cs : Array Value) (p : Lz → Bool) (P : Prz k bb (fun w => Blk w bb t cs) p) (B : Option Addr) (n c base : Nat) (l : List Lz) (w : World) (hn : n = l.length) (h8 : n ≤ 1000) (hbs : base ≤ w.heap.size) (own : w.ownsRow base 35 3 (.slice B n c) n (lcs l)) (hR : Blk w bb t cs) (hbb : bb < base) :
    Calls Try.prog 22 #[.slice B n c, .func (.func k) #[] #[.pointer (some ⟨bb, 0, none⟩)]] w fun e w' => ∃ A' c', e = .returned (.slice A' (l.filter (fun a => !p a)).length c') ∧ w'.ownsRow base 35 3 (.slice A' (l.filter (fun a => !p a)).length c') (l.filter (fun a => !p a)).length (lcs (l.filter (fun a => !p a))) ∧ Below base w w' := by
  have hent := P.ent
  have hix := lindexFunc_any k bb _ p P B l n c w (Les.of_row (by rw [← hn]; exact own)) hn hR
  have HL := Lib.hid hn
  by_cases hI : ixZ p l < l.length
  rotate_left
  · have HI : Hid (ixI p l = -1) := Lib.hid (if_neg hI)
    have HK := Lib.hid (keep_all hI)
    clear hI hn
    go_enter Try.func22, Try.ntmps22
    go_wp2_with fail
    refine hix.mono ?_
    rintro e w1 ⟨rfl, b1⟩
    rw [HI.out]
    have o1 := own_belL own b1
    have hb : Below base w w1 := b1.mono hbs
    clear hix own
    go_wp2
    go_ret
    refine ⟨B, c, ?_, ?_, hb⟩
    · rw [HK.out, ← HL.out]; rfl
    · rw [HK.out, ← HL.out]; exact o1
  obtain ⟨I, hI'⟩ : ∃ I, I = ixZ p l := ⟨_, rfl⟩
  have HI : Hid (ixI p l = (I : Int)) := Lib.hid (by rw [hI']; exact if_pos hI)
  obtain ⟨y, hy⟩ : ∃ y, l[I]? = some y := ⟨_, List.getElem?_eq_getElem (by rw [hI']; exact hI)⟩
  have py : p y = true := ix_yes (by rw [← hI']; exact hy)
  have K0 : Hid (l.take I = (l.take (I + 1)).filter (fun a => !p a)) := Lib.hid (by
    rw [keep_snoc hy, if_pos py, List.append_nil, hI', keep_ix])
  have hIn : I < n := by rw [hn, hI']; exact hI
  obtain ⟨g, rfl⟩ : ∃ g, B = some ⟨g, 0, none⟩ := by
    rcases own.2 with ⟨hv', h0⟩ | ⟨g, cap, cur, hv', _⟩
    · omega
    · injection hv' with e1 _ _; exact ⟨g, e1⟩
  have gb := (own.lt g rfl).1
  have e1 : ((I : Int) == -1) = false := by rw [beq_eq_false_iff_ne]; omega
  clear hI hI' hy py hn
  go_enter Try.func22, Try.ntmps22
  go_wp2_with fail
  refine hix.mono ?_
  rintro e w1 ⟨rfl, b1⟩
  rw [HI.out]
  have o1 := own_belL own b1
  have hb : Below base w w1 := b1.mono hbs
  have r1 := hR.below b1
  clear hix own hR b1
  go_wp2
  go_loopw [5, 6] (fun u v wr => ∃ (i j : Nat) (M : List Lz), i < j ∧ j ≤ n ∧ u = .int .i64 i ∧ v = .int .i64 j ∧ wr.ownsRow base 35 3 (.slice (some ⟨g, 0, none⟩) n c) n (lcs M) ∧ Hid (M.length = n) ∧ Hid (M.take i = (l.take j).filter (fun a => !p a)) ∧ Hid (M.drop j = l.drop j) ∧ Blk wr bb t cs ∧ Below base w wr) (fun _ v _ => n - (intOf v).toNat)
  case atStart => exact ⟨I, I + 1, l, by omega, by omega, rfl, by go_num, o1, Lib.hid HL.out.symm, K0, Lib.hid rfl, r1, hb⟩
  case round =>
    clear o1 r1 hb K0 HI
    obtain ⟨i, j, M, hij, hj, rfl, rfl, o1, HM, KT, KD, r1, hb⟩ := hrel
    have lM := length_lcs M
    have hsz : base ≤ wr.heap.size := Nat.le_trans hbs hb.size
    by_cases hlt : j < n
    · obtain ⟨x, hx⟩ : ∃ x, M[j]? = some x := ⟨_, List.getElem?_eq_getElem (by rw [HM.out]; exact hlt)⟩
      have hx' : l[j]? = some x := by rw [← drop_at KD.out]; exact hx
      obtain ⟨a0, a1, a2⟩ := lcs_get hx
      obtain ⟨yi, hyi⟩ : ∃ yi, M[i]? = some yi := ⟨_, List.getElem?_eq_getElem (by rw [HM.out]; omega)⟩
      obtain ⟨d0, d1, d2⟩ := lcs_get hyi
      have lM3 : (lcs M).length = n * 3 := by rw [lM, HM.out]
      have k0 := (o1.cellAt (j * 3) (by omega)).trans a0
      have k1 := (o1.cellAt (j * 3 + 1) (by omega)).trans a1
      have k2 := (o1.cellAt (j * 3 + 2) (by omega)).trans a2
      have gl := (o1.lt g rfl).2
      have i1 : (j : Int) < (n : Int) := by omega
      have i2 : (i : Int) < (n : Int) := by omega
      obtain ⟨s, hs⟩ : ∃ s, p x = s := ⟨_, rfl⟩
      have HS := Lib.hid hs
      have KN := Lib.hid (keep_snoc (p := p) hx')
      have KD1 := Lib.hid (drop_next KD.out)
      have HY := Lib.hid hyi
      have HLM := Lib.hid lM3
      have ne1 : ¬ wr.heap.size = g := by omega
      have ne2 : ¬ g = wr.heap.size := by omega
      obtain ⟨W, hW⟩ : ∃ W, W = wr.alloc (.cells #[.int .i64 x.who, .int .i64 x.till, .int .i64 x.pin] 35) := ⟨_, rfl⟩
      have bW : Below wr.heap.size wr W := by rw [hW]; exact (Below.refl _ _).alloc (Nat.le_refl _) _
      have BW : Blk W wr.heap.size 35 #[.int .i64 x.who, .int .i64 x.till, .int .i64 x.pin] := by rw [hW]; exact Blk.new _ _ _
      have HW := Lib.hid hW
      clear hs hx hx' a0 a1 a2 hyi lM lM3 hW
      go_wp2_with fail
      rw [← HW.out]
      refine (P.ans x W (r1.below bW)).mono ?_
      rintro e w2 ⟨rfl, b2⟩
      rw [HS.out]
      have b2' := below_trans bW b2
      have o2 := own_belL o1 b2'
      have r2 := r1.below b2'
      have hb2 : Below base w w2 := hb.trans (b2'.mono hsz)
      have B2 := BW.below b2
      clear o1 r1 hb k0 k1 k2 BW bW b2 b2'
      cases s with
      | true =>
        have KT' : Hid (M.take i = (l.take (j + 1)).filter (fun a => !p a)) := Lib.hid (by rw [KN.out, if_pos HS.out, List.append_nil]; exact KT.out)
        clear KN KT d0 d1 d2
        go_wp2
        go_roundw
        case rel => exact ⟨i, j + 1, M, by omega, by omega, rfl, by go_num, o2, HM, KT', KD1, r2, hb2⟩
        case measure => simp [intOf]; omega
      | false =>
        have KT' : Hid ((M.set i x).take (i + 1) = (l.take (j + 1)).filter (fun a => !p a)) := Lib.hid (by
          rw [KN.out, if_neg (by rw [HS.out]; decide), take_put x (by rw [HM.out]; omega), KT.out])
        have KD' : Hid ((M.set i x).drop (j + 1) = l.drop (j + 1)) := Lib.hid (by rw [List.drop_set_of_lt (by omega)]; exact KD1.out)
        have HM' : Hid ((M.set i x).length = n) := Lib.hid (by rw [List.length_set]; exact HM.out)
        have q0 := (o2.cellAt (i * 3) (by have := HLM.out; omega)).trans d0
        have q1 := (o2.cellAt (i * 3 + 1) (by have := HLM.out; omega)).trans d1
        have q2 := (o2.cellAt (i * 3 + 2) (by have := HLM.out; omega)).trans d2
        have f0 := o2.frozenAt (i * 3)
        have f1 := o2.frozenAt (i * 3 + 1)
        have f2 := o2.frozenAt (i * 3 + 2)
        have s1 := (o2.stored (i * 3) (.int .i64 x.who)).1
        have s2 := (s1.stored (i * 3 + 1) (.int .i64 x.till)).1
        have s3 := (s2.stored (i * 3 + 2) (.int .i64 x.pin)).1
        rw [lcs_three x (show i < M.length by rw [HM.out]; omega)] at s3
        have bs := ((hb2.setCell (p := ⟨g, i * 3, none⟩) gb (.int .i64 x.who)).setCell (p := ⟨g, i * 3 + 1, none⟩) gb (.int .i64 x.till)).setCell (p := ⟨g, i * 3 + 2, none⟩) gb (.int .i64 x.pin)
        have rs := ((r2.past (a := ⟨g, i * 3, none⟩) (by simp; omega) (.int .i64 x.who)).past (a := ⟨g, i * 3 + 1, none⟩) (by simp; omega) (.int .i64 x.till)).past (a := ⟨g, i * 3 + 2, none⟩) (by simp; omega) (.int .i64 x.pin)
        obtain ⟨t0, t1, t2⟩ := three_read B2
        have S3 := Lib.hid s3
        have BS := Lib.hid bs
        have RS := Lib.hid rs
        clear s1 s2 s3 bs rs o2 r2 hb2 B2 d0 d1 d2 KN KT KD HS
        go_wp2
        go_roundw
        case rel => exact ⟨i + 1, j + 1, M.set i x, by omega, by omega, by go_num, by go_num, S3.out, HM', KT', KD', RS.out, BS.out⟩
        case measure => simp [intOf]; omega
    · obtain rfl : j = n := by omega
      obtain ⟨cur, Bc, hB, hnc, hc63, hcl, hct⟩ := own_whole o1
      have KF : Hid (M.take i = l.filter (fun a => !p a)) := Lib.hid (by rw [KT.out, List.take_of_length_le (by rw [HL.out]; exact Nat.le_refl _)])
      have KL : Hid ((l.filter (fun a => !p a)).length = i) := Lib.hid (by rw [← KF.out, List.length_take, HM.out]; omega)
      have FIT : i * 3 + (j - i) * 3 ≤ cur.length := by rw [hcl]; omega
      have clr : ∀ c ty, (Builtin.clear_ #[33] ty #[.slice (some ⟨g, i * 3, none⟩) (j - i) c]).run Try.prog wr = .ok (.tuple #[]) (wr.setRow g (splice cur (i * 3) (zsV (j - i))).toArray) := fun c ty => run_clear3 wr g (i * 3) (j - i) c cur 35 ty (by omega) Bc FIT
      obtain ⟨W1, hW1⟩ : ∃ W1, W1 = wr.setRow g (splice cur (i * 3) (zsV (j - i))).toArray := ⟨_, rfl⟩
      have B1 : Blk W1 g 35 (splice cur (i * 3) (zsV (j - i))).toArray := by rw [hW1]; exact blk_row Bc _
      have b1 : Below base w W1 := by rw [hW1]; exact below_row hb hB _
      have e0 : cur.take (i * 3) = lcs (M.take i) := by
        rw [← lcs_take, ← hct, List.take_take, show min (i * 3) (j * 3) = i * 3 by omega]
      have o2 := own_mk (n := i) (xs := lcs (l.filter (fun a => !p a))) B1 hB (show i ≤ c by omega) hc63 (by rw [List.size_toArray, length_splice _ _ _ (by rw [length_zs]; exact FIT), hcl]) (by rw [length_lcs, KL.out]) (by
        rw [splice, List.toList_toArray, List.take_append_of_le_length (show i * 3 ≤ (cur.take (i * 3)).length by rw [List.length_take, hcl]; omega), List.take_take, Nat.min_self, e0, KF.out])
      have O2 := Lib.hid o2
      have HW1 := Lib.hid hW1
      rw [← hW1] at clr
      have i1 : ¬ (j : Int) < (j : Int) := by omega
      have z1 : ¬ (c = i) := by omega
      have z2 : (i : Int) ≤ (j : Int) := by omega
      have z3 : (i : Int) ≤ (c : Int) := by omega
      have b1' := b1
      clear o2 hW1 B1 Bc o1 hb r1 hct hcl e0 lM KT KD FIT b1'
      go_wp2
      go_ret
      refine ⟨some ⟨g, 0, none⟩, c, ?_, ?_, b1⟩
      · rw [KL.out]; rfl
      · rw [KL.out]; exact O2.out

end Go.Proofs.Ytnpdcllfdoobeaa
