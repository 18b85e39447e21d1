
/-
  Walks: the document's own order.
-/
import Derived.Test.YtamkadffencpgaaFairE
namespace Go.Proofs.Ytamkadffencpgaa
set_option linter.all false
open Go.RowKit Go.Shelf Go.Lib

theorem nine_made (w : World) (o0 o1 o2 o3 o4 o5 o6 o7 o8 : Obj) {W : World} (hW : W = ((((((((w.alloc o0).alloc o1).alloc o2).alloc o3).alloc o4).alloc o5).alloc o6).alloc o7).alloc o8) :
    W.heap[w.heap.size]? = some o0 ∧ W.heap[w.heap.size + 1]? = some o1 ∧ W.heap[w.heap.size + 2]? = some o2 ∧ W.heap[w.heap.size + 3]? = some o3 ∧ W.heap[w.heap.size + 4]? = some o4 ∧ W.heap[w.heap.size + 5]? = some o5 ∧ W.heap[w.heap.size + 6]? = some o6 ∧ W.heap[w.heap.size + 7]? = some o7 ∧ W.heap[w.heap.size + 8]? = some o8 ∧ W.heap.size = w.heap.size + 9 := by
  have e : W.heap = w.heap ++ #[o0, o1, o2, o3, o4, o5, o6, o7, o8] := by
    have e : W.heap = ((((((((w.heap.push o0).push o1).push o2).push o3).push o4).push o5).push o6).push o7).push o8 := by rw [hW]; rfl
    rw [e]
    apply Array.ext'
    simp
  have g : ∀ i, i < 9 → W.heap[w.heap.size + i]? = #[o0, o1, o2, o3, o4, o5, o6, o7, o8][i]? := fun i _ => by
    rw [e, Array.getElem?_append_right (by omega)]
    congr 1
    omega
  exact ⟨g 0 (by omega), g 1 (by omega), g 2 (by omega), g 3 (by omega), g 4 (by omega), g 5 (by omega), g 6 (by omega), g 7 (by omega), g 8 (by omega), by rw [e]; simp⟩
theorem nine_below (w : World) (o0 o1 o2 o3 o4 o5 o6 o7 o8 : Obj) {W : World} (hW : W = ((((((((w.alloc o0).alloc o1).alloc o2).alloc o3).alloc o4).alloc o5).alloc o6).alloc o7).alloc o8) : Below w.heap.size w W := by
  rw [hW]
  exact ((((((((((Below.refl _ w).alloc (Nat.le_refl _) _).alloc (by simp) _).alloc (by simp; omega) _).alloc (by simp; omega) _).alloc (by simp; omega) _).alloc (by simp; omega) _).alloc (by simp; omega) _).alloc (by simp; omega) _).alloc (by simp; omega) _)
theorem made_eight (W : World) : (Instr.makeSlice 22 (.int .i64 8) (.int .i64 8)).run Try.prog W = .ok (.slice (some ⟨W.heap.size, 0, none⟩) 8 8) (W.alloc (.cells #[.int .i64 0, .int .i64 0, .int .i64 0, .int .i64 0, .int .i64 0, .int .i64 0, .int .i64 0, .int .i64 0] 3)) := by
  obtain ⟨i, hi, hz⟩ := Option.map_eq_some_iff.1 int_info
  simp only [Prod.mk.injEq] at hz
  obtain ⟨hz, hs, hb⟩ := hz
  have hr := run_make (P := Try.prog) W 22 3 i _ Try.underlying22 hi hz .i64 .i64 8 8 (by omega) (by omega) (by rw [hb]; omega) (by omega)
  have hc : madeCells (Value.int .i64 0).cells (Int.toNat 8 * 1) = #[.int .i64 0, .int .i64 0, .int .i64 0, .int .i64 0, .int .i64 0, .int .i64 0, .int .i64 0, .int .i64 0] := by kernel_rfl
  rw [hs, hc] at hr
  exact hr
def cellM (w : World) (b : Nat) : Nat := match w.cell? ⟨b, 0, none⟩ with | some (.int _ x) => x.toNat | _ => 0
theorem cellM_eq {w : World} {b n : Nat} (h : w.cell? ⟨b, 0, none⟩ = some (.int .i64 n)) : cellM w b = n := by simp [cellM, h]
abbrev fPut : FuncId := 41
theorem RMem.jump {w : World} {b : Nat} {A B : Option Addr} {c nl d : Nat} {s : Fs} {u : Value} (l : List Pk) (h : RMem w b A B c nl d s u) : RMem w b A B c nl d (s.jump l) u := ⟨h.bw, h.bl, h.mp, h.bm, h.en, h.be, h.wt, h.la, h.nx, h.row⟩
theorem wl_apart {s : Fs} {k i : Nat} (h : (wl s)[k]? = some i) : ∀ (j u : Nat), (wl s)[j]? = some u → j ≠ k → u ≠ i := by
  intro j u hu hjk e
  subst e
  obtain ⟨ha, ea⟩ := List.getElem?_eq_some_iff.1 h
  obtain ⟨hb, eb⟩ := List.getElem?_eq_some_iff.1 hu
  have nd := List.pairwise_iff_getElem.mp (wl_nodup s)
  rcases Nat.lt_or_gt_of_ne hjk with c | c
  · exact nd j k hb ha c (eb.trans ea.symm)
  · exact nd k j ha hb c (ea.trans eb.symm)
theorem best_wl {s : Fs} {k i : Nat} (h : (wl s)[k]? = some i) (m : ∀ (j u : Nat), (wl s)[j]? = some u → ¬ TkLt (u, s.bg u) (i, s.bg i)) : s.Best i := by
  have e : (tks s)[k]? = some (i, s.bg i) := by simp [tks, h]
  refine best_of e (fun j u hu => ?_)
  obtain ⟨a, b⟩ := tks_get hu
  have := m j u.1 a
  rw [← b] at this
  exact this
/-- What the document's order is, in new memory. -/
def AnsG (l : List Pk) (v : List Int) (w : World) (e : Ending) (w' : World) : Prop :=
  ∃ (x : List Nat) (C : Option Addr) (k : Nat), Fair l v x ∧ e = .returned (.slice C x.length k) ∧ w'.ownsRow w.heap.size 3 1 (.slice C x.length k) x.length ((nts x).map (Value.int .i64)) ∧ Below w.heap.size w w'

set_option maxRecDepth 100000 in
set_option maxHeartbeats 6400000 in
theorem refFair_any (A B : Option Addr) (v : List Int) (l : List Pk) (c d : Nat) (w : World) (h : Ints w A v) (h' : Pks w B l) (hv : Wts v) (q : Qu l) :
    Calls Try.prog 12 #[.slice A 8 c, .slice B l.length d] w (AnsG l v w) := by
  have hle := q.le
  obtain ⟨i0, hi0, hz0, hz1, hz2⟩ := info_parts int_info
  have hmk := made_eight
  have hmm := @run_makeMap Try.prog
  have hent := enters_of Try.func41 (by kernel_rfl) rfl
  obtain ⟨b, hb⟩ : ∃ b, b = w.heap.size := ⟨_, rfl⟩
  have HB := Lib.hid hb
  clear hb
  obtain ⟨W, hW⟩ : ∃ W, W = ((((((((w.alloc (.cells #[.slice A 8 c] 22)).alloc (.cells #[.slice B l.length d] 23)).alloc (.map #[] 0)).alloc (.cells #[.map (some (w.heap.size + 2))] 75)).alloc (.cells #[.int .i64 0, .int .i64 0, .int .i64 0, .int .i64 0, .int .i64 0, .int .i64 0, .int .i64 0, .int .i64 0] 3)).alloc (.cells #[.slice (some ⟨w.heap.size + 4, 0, none⟩) 8 8] 22)).alloc (.cells #[.slice none 0 0] 22)).alloc (.cells #[.int .i64 0] 3)).alloc (.cells #[.int .i64 0] 3) := ⟨_, rfl⟩
  have n9 := nine_made w _ _ _ _ _ _ _ _ _ hW
  have nb := nine_below w _ _ _ _ _ _ _ _ _ hW
  have MEM : RMem W b A B c l.length d Fs.init (.slice none 0 0) := by
    rw [HB.out]
    obtain ⟨e0, e1, e2, e3, e4, e5, e6, e7, e8, _⟩ := n9
    refine ⟨e0, e1, ?_, e3, e4, e5, e6, e7, e8, World.ownsRow_nil _ _ _ _⟩
    have := Mp.made ((w.alloc (.cells #[.slice A 8 c] 22)).alloc (.cells #[.slice B l.length d] 23)) Fs.init.bg
    have hs : ((w.alloc (.cells #[.slice A 8 c] 22)).alloc (.cells #[.slice B l.length d] 23)).heap.size = w.heap.size + 2 := by simp
    rw [hs] at this
    refine this.same (e2.trans ?_)
    have := heap_alloc_new ((w.alloc (.cells #[.slice A 8 c] 22)).alloc (.cells #[.slice B l.length d] 23)) (.map #[] 0)
    rw [hs] at this
    exact this.symm
  have HW := Lib.hid hW
  have W9 : Hid (W.heap.size = b + 9) := Lib.hid (by rw [HB.out]; exact n9.2.2.2.2.2.2.2.2.2)
  clear hW n9
  go_enter Try.func12, Try.ntmps12
  go_wp2
  simp only [Nat.add_assoc, Nat.reduceAdd]
  rw [← HW.out, ← HB.out]
  have hbw : w.heap.size ≤ b := by rw [HB.out]; exact Nat.le_refl _
  clear HW
  go_loopw [7, 9] (fun o t wr => ∃ (n : Nat) (s : Fs) (u : Value), Hid (Fr l v n s) ∧ t = .int .i64 s.now ∧ RMem wr b A B c l.length d s u ∧ wr.ownsRow (b + 9) 3 1 o s.out.length (ncs s.out) ∧ (∀ k, o.ownBlock = some k → u.ownBlock ≠ some k) ∧ Below w.heap.size w wr) (fun _ t _ => (60201 - intOf t).toNat)
  case atStart => exact ⟨0, Fs.init, .slice none 0 0, Lib.hid Fr.init, rfl, MEM, World.ownsRow_nil _ _ _ _, (fun k hk => by simp [Value.ownBlock] at hk), nb⟩
  case round =>
    clear MEM nb W9
    obtain ⟨n, s, u, FR, rfl, hS, ho, hsep, hbel⟩ := hrel
    have k := FR.out.inv q hv
    have now0 := k.now0
    have now1 := k.now1
    have ole := out_le k
    obtain ⟨C, cc, rfl⟩ := row_form ho
    have c1 := one_cell hS.bl
    by_cases hlt : s.out.length < l.length
    · have i1 : (s.out.length : Int) < (l.length : Int) := by omega
      go_wp2
      go_loopw [] (fun wi => ∃ (n' : Nat) (s' : Fs) (u : Value), Hid (Fr l v n' s') ∧ Hid (s'.now = s.now ∧ s'.out = s.out) ∧ RMem wi b A B c l.length d s' u ∧ wi.ownsRow (b + 9) 3 1 (.slice C s.out.length cc) s.out.length (ncs s.out) ∧ (∀ k, (Value.slice C s.out.length cc).ownBlock = some k → u.ownBlock ≠ some k) ∧ Below w.heap.size w wi) (fun wi => l.length - cellM wi (b + 8))
      case atStart => exact ⟨n, s, u, FR, Lib.hid ⟨rfl, rfl⟩, hS, ho, hsep, hbel⟩
      case round =>
        clear hS ho hsep hbel c1
        obtain ⟨n', s', u, FR', HE', hS, ho, hsep, hbel⟩ := hrel
        have k' := FR'.out.inv q hv
        have nx' := k'.nx
        have c1 := one_cell hS.bl
        have c8 := one_cell hS.nx
        have CM := Lib.hid (cellM_eq c8)
        have olo := fun k hk => (ho.lt k hk).1
        have ulo := fun k hk => (hS.row.lt k hk).1
        have bsz := hS.nx.lt
        by_cases hc : s'.Come l
        · have hlt' := hc.1
          obtain ⟨bb, off, p, hB, hbl, p0, p1, p2, HP⟩ := (h'.below hbel).get hlt'
          subst hB
          have hK := pk_of HP.out
          have hat : p.at_ ≤ s.now := by have := hc.2; rw [hK, HE'.out.1] at this; exact this
          have i2 : (s'.next : Int) < (l.length : Int) := by omega
          have d1 : decide (p.at_ ≤ s.now) = true := decide_eq_true hat
          have HCm := Lib.hid hc
          have hput := putc_any b A (some ⟨bb, off, none⟩) c d v l s' u w wr q hv k' hlt' h h' hbel hbw hS
          clear hc hK k'
          go_wp2_with fail
          refine hput.mono ?_
          rintro e w3 ⟨rfl, u', hS3, T3, hl3⟩
          have ho3 := T3.own ho (fun j hj => by
            rintro (e | e)
            · have := olo j hj; omega
            · exact hsep j hj e)
          have hb3 := hbel.trans (T3.below (B := w.heap.size) hbel.size (fun j => by
            rintro (e | e)
            · omega
            · have := ulo j e; omega))
          have hsep3 : ∀ k, (Value.slice C s.out.length cc).ownBlock = some k → u'.ownBlock ≠ some k := fun j hj e => by
            rcases hl3 j e with a | a
            · exact hsep j hj a
            · have := (ho.lt j hj).2; omega
          have CM3 := Lib.hid (cellM_eq (one_cell hS3.nx))
          clear hput T3 hS ho p0 p1 p2 hsep hl3 c1 c8
          go_wp2
          go_roundw
          case rel => exact ⟨n' + 1, s'.put l v, u', Lib.hid (.go FR'.out (.put HCm.out)), HE', hS3, ho3, hsep3, hb3⟩
          case measure =>
            rw [CM3.out, CM.out]
            show l.length - (s'.next + 1) < _
            omega
        · go_upto_region 7 with fail
          go_cut [34] (fun x wx => x = .bool false ∧ wx = wr)
          case first =>
            by_cases hlt' : s'.next < l.length
            · obtain ⟨bb, off, p, hB, hbl, p0, p1, p2, HP⟩ := (h'.below hbel).get hlt'
              subst hB
              have hK := pk_of HP.out
              have hat : ¬ p.at_ ≤ s.now := fun e => hc ⟨hlt', by rw [hK, HE'.out.1]; exact e⟩
              have i2 : (s'.next : Int) < (l.length : Int) := by omega
              have d1 : decide (p.at_ ≤ s.now) = false := decide_eq_false hat
              clear hc hK hS ho hsep
              go_wp2_with fail
              go_meet
              exact ⟨rfl, rfl⟩
            · have i2 : ¬ (s'.next : Int) < (l.length : Int) := by omega
              clear hc hS ho hsep
              go_wp2_with fail
              go_meet
              exact ⟨rfl, rfl⟩
          case rest =>
          obtain ⟨rfl, rfl⟩ := hcut
          have NC := Lib.hid hc
          clear hc
          obtain ⟨D, dd, rfl⟩ := row_form hS.row
          have c6 := one_cell hS.wt
          by_cases hw : wl s' = []
          · have nlt := wl_nil_all k' hw (by rw [HE'.out.2]; exact hlt)
            have e0 : (wl s').length = 0 := by rw [hw]; rfl
            obtain ⟨bb, off, p, hB, hbl, p0, p1, p2, HP⟩ := (h'.below hbel).get nlt
            subst hB
            have hK := pk_of HP.out
            have i2 : (s'.next : Int) < (l.length : Int) := by omega
            have hgt : s.now < p.at_ := by
              have : ¬ (s'.next < l.length ∧ (pk l s'.next).at_ ≤ s'.now) := NC.out
              rw [hK, HE'.out.1] at this
              omega
            have a1 := (q.ok _ nlt).a1
            rw [hK] at a1
            have HW := Lib.hid hw
            have HPK := Lib.hid hK
            rw [e0] at c6
            clear hw hK e0
            go_wp2
            go_roundw
            case rel =>
              refine ⟨n' + 1, s'.jump l, _, Lib.hid (.go FR'.out (.jump NC.out (wl_nil_iff.mp HW.out) nlt)), ?_, hS.jump l, ?_, hsep, hbel⟩
              · show _ = Value.int .i64 (pk l s'.next).at_
                rw [HPK.out]
              · have e : (s'.jump l).out = s.out := HE'.out.2
                rw [e]; exact ho
            case measure =>
              simp only [intOf]
              omega
          · obtain ⟨m, hm⟩ : ∃ m, m = (wl s').length := ⟨_, rfl⟩
            have m0 : 0 < m := by rw [hm]; exact List.length_pos_iff.mpr hw
            have m60 : m ≤ 60 := by have := wl_len s'; omega
            have R := hS.row
            rw [← hm] at R c6
            obtain ⟨gr, rfl⟩ : ∃ gr, D = some ⟨gr, 0, none⟩ := by
              rcases R.2 with ⟨_, h0⟩ | ⟨g', cap', cur, h1, _⟩
              · omega
              · injection h1 with h1 _ _; exact ⟨g', h1⟩
            have grl := ulo gr rfl
            have grs := (R.lt gr rfl).2
            have e0 : ((m : Int) == 0) = false := by rw [beq_eq_false_iff_ne]; omega
            have fb : ∀ j, j < s'.next → 0 ≤ s'.bg j ∧ s'.bg j ≤ 1000000000 := fun j hj => ⟨k'.bg0 j hj, by have := k'.bg1 j hj; omega⟩
            have HM := Lib.hid hm
            clear hw hm
            go_wp2_with fail
            refine (minFunc_n (b + 3) (b + 2) s'.next m gr dd (wl s') s'.bg _ hS.mp hS.bm (by omega) fb (rowN_ints R) HM.out m0 (fun j i hj => (mem_wl.mp (List.mem_of_getElem? hj)).1) m60).mono ?_
            rintro e w2 ⟨kk, i, hki, hmin, rfl, rfl⟩
            have HKI := Lib.hid hki
            have HBest := Lib.hid (best_wl hki hmin)
            have ilt : i < s'.next := (mem_wl.mp (List.mem_of_getElem? hki)).1
            have hu := Lib.hid (wl_apart hki)
            have olt := fun j hj => (ho.lt j hj).2
            have OLT := Lib.hid olt
            clear hmin fb hki e0 c8 olt
            have ncc : ¬ gr = w2.heap.size := by omega
            have nc6 : ¬ b + 6 = w2.heap.size := by omega
            have nc6' : ¬ w2.heap.size = b + 6 := by omega
            have l6 : b + 6 < w2.heap.size := by omega
            have KB0 := Blk.new w2 3 #[.int .i64 i]
            go_wp2_with fail
            refine (deleteFunc_n (b + 9) gr m dd w2.heap.size kk i (wl s') _ (R.alloc _) KB0 ncc m60 HKI.out hu).mono ?_
            rintro e w4 ⟨rfl, R4, T4⟩
            have TA : Tn (fun j => j = gr) w2 w4 := ((Tn.refl _ w2).alloc _).trans T4
            have KB := T4.blk KB0 (fun e => ncc e.symm)
            have bm4 := TA.blk hS.bm (fun e => by omega)
            have bw4 := TA.blk hS.bw (fun e => by omega)
            have bl4 := TA.blk hS.bl (fun e => by omega)
            have mp4 := hS.mp.tn TA (fun e => by omega)
            have en4 := TA.blk hS.en (fun e => by omega)
            have be4 := TA.blk hS.be (fun e => by omega)
            have wt4 := TA.blk hS.wt (fun e => by omega)
            have la4 := TA.blk hS.la (fun e => by omega)
            have nx4 := TA.blk hS.nx (fun e => by omega)
            have ho4 := TA.own ho (fun j hj e => hsep j hj (by rw [e]; rfl))
            have w24 := TA.size
            have hb4 := hbel.trans (TA.below (B := w.heap.size) hbel.size (fun j e => by omega))
            obtain ⟨u4, hu4⟩ : ∃ u4, u4 = Value.slice (some ⟨gr, 0, none⟩) (m - 1) dd := ⟨_, rfl⟩
            obtain ⟨y, hy⟩ : ∃ y, y = s'.bg i := ⟨_, rfl⟩
            obtain ⟨W5, hW5⟩ : ∃ W5, W5 = w4.setCell ⟨b + 6, 0, none⟩ (.slice (some ⟨gr, 0, none⟩) (m - 1) dd) := ⟨_, rfl⟩
            have T5 : Tn (fun j => j = b + 6) w4 W5 := by rw [hW5]; exact (Tn.refl (fun j => j = b + 6) w4).set_ (p := ⟨b + 6, 0, none⟩) (.inl rfl) _
            have lk : (Instr.lookup 75 (.map (some (b + 2))) (.int .i64 i) false).run Try.prog (w4.setCell ⟨b + 6, 0, none⟩ (.slice (some ⟨gr, 0, none⟩) (m - 1) dd)) = .ok (.int .i64 y) (w4.setCell ⟨b + 6, 0, none⟩ (.slice (some ⟨gr, 0, none⟩) (m - 1) dd)) := by
              rw [← hW5, hy]
              exact (mp4.tn T5 (fun e => by omega)).look ilt (by omega)
            obtain ⟨W6, hW6⟩ : ∃ W6, W6 = W5.setCell ⟨b + 7, 0, none⟩ (.int .i64 y) := ⟨_, rfl⟩
            have T6 : Tn (fun j => j = b + 7) W5 W6 := by rw [hW6]; exact (Tn.refl (fun j => j = b + 7) W5).set_ (p := ⟨b + 7, 0, none⟩) (.inl rfl) _
            have T56 : Tn (fun j => j = b + 6 ∨ j = b + 7) w4 W6 := (T5.then_ (S := fun j => j = b + 6) (R := fun j => j = b + 6) (Tn.refl _ _) (fun _ _ e => e) |> fun t => (⟨t.os, t.tape, t.output, t.size, fun k hk hs => t.block k hk (fun e => hs (.inl e))⟩ : Tn (fun j => j = b + 6 ∨ j = b + 7) w4 W5)).then_ T6 (fun _ _ e => .inr e)
            have R6 : W6.ownsRow (b + 9) 3 1 u4 (m - 1) (ncs ((wl s').eraseIdx kk)) := by rw [hu4]; exact T56.own R4 (fun j hj e => by simp [Value.ownBlock] at hj; omega)
            have M6 : RMem W6 b A B c l.length d (s'.serve l i) u4 := by
              have ew : wl (s'.serve l i) = (wl s').eraseIdx kk := wl_serve HKI.out
              have el : (wl (s'.serve l i)).length = m - 1 := by rw [ew, List.length_eraseIdx, if_pos (List.getElem?_eq_some_iff.1 HKI.out).1, ← HM.out]
              refine ⟨T56.blk bw4 (by omega), T56.blk bl4 (by omega), mp4.tn T56 (by omega), T56.blk bm4 (by omega), T56.blk en4 (by omega), T56.blk be4 (by omega), ?_, ?_, T56.blk nx4 (by omega), ?_⟩
              · rw [hW6, hW5, hu4]; exact (one_set wt4 _).past (a := ⟨b + 7, 0, none⟩) (by simp) _
              · rw [hW6, hy]; exact one_set (T5.blk la4 (fun e => by omega)) _
              · rw [el, ew]; exact R6
            have ho6 := T56.own ho4 (fun j hj e => by have := olo j hj; omega)
            have hb6 := hb4.trans (T56.below (B := w.heap.size) (by have := hbel.size; omega) (fun j e => by omega))
            have KB6 := T56.blk KB (fun e => by omega)
            have hsep6 : ∀ j, (Value.slice C s.out.length cc).ownBlock = some j → u4.ownBlock ≠ some j := fun j hj e => hsep j hj (by rw [hu4] at e; exact e)
            have x3 := one_cell bm4
            have xB := one_cell KB
            have x6 := one_cell wt4
            have f6 := wt4.frozen 0
            have x7 := one_cell la4
            have f7 := la4.frozen 0
            have l7 := la4.lt
            have lB := KB.lt
            have nB6 : ¬ w2.heap.size = b + 6 := by omega
            have nB7 : ¬ w2.heap.size = b + 7 := by omega
            have HW6 : Hid (W6 = (w4.setCell ⟨b + 6, 0, none⟩ (.slice (some ⟨gr, 0, none⟩) (m - 1) dd)).setCell ⟨b + 7, 0, none⟩ (.int .i64 y)) := Lib.hid (by rw [hW6, hW5])
            have HU4 := Lib.hid hu4
            have s46 := T56.size
            clear R4 T4 TA KB KB0 bm4 bw4 bl4 mp4 en4 be4 wt4 la4 nx4 ho4 hb4 hu4 hW5 T5 hW6 T6 T56 R6 hy hS ho R hsep hbel hu
            go_upto_region 14 with fail
            rw [← HW6.out]
            clear lk x3 xB x6 f6 x7 f7
            have xB := one_cell KB6
            go_wp2_with (at_builtin; refine wpList_append_own_at _ rfl _ _ 22 rfl (b + 9) 3 i0 (.int .i64 0) 1 8 Try.underlying22 hi0 hz0 hz1 hz2 rfl (by decide) _ _ _ rfl (World.ownsRow.alloc ho6 _) ⟨W6.heap.size, 0, none⟩ 1 1 [.int .i64 i] rfl rfl (cell_one_new _ _ _) ?fc2 ?fc3 ?fc4 ?fc5 ?_)
            case fc2 => intro u hu; simp at hu; subst hu; rfl
            case fc3 => unfold maxLen; omega
            case fc4 => omega
            case fc5 => simp; omega
            intro o' w7 hown' hgrow _ hloc
            have T7 : Tn (fun j => (Value.slice C s.out.length cc).ownBlock = some j) W6 w7 := ((Tn.refl _ W6).alloc _).grown hgrow (fun j hj => .inl hj)
            have M7 := M6.tn T7 (fun j e => .inr (olo j e)) (fun j hj e => hsep6 j e hj)
            have KB7 := T7.blk KB6 (fun e => by have := OLT.out _ e; omega)
            have hb7 := hb6.trans (T7.below (B := w.heap.size) hb6.size (fun j e => by have := olo j e; omega))
            have z1 := one_cell M7.bl
            have zB := one_cell KB7
            have il : i < l.length := by have := FR'.out.inv q hv; have := this.nx; omega
            obtain ⟨bb, off, p, hB, hbl, p0, p1, p2, HP⟩ := (h'.below hb7).get il
            subst hB
            have hK := pk_of HP.out
            have ok := q.ok i il
            rw [hK] at ok
            have z0 := ok.s0
            have z2 := ok.s1
            have i3 : (i : Int) < (l.length : Int) := by omega
            have HPK := Lib.hid hK
            have sz7 := T7.size
            have hsep7 : Hid (∀ k, o'.ownBlock = some k → u4.ownBlock ≠ some k) := Lib.hid (fun j hj e => by
              rcases hloc with a | a
              · exact hsep6 j (a.symm.trans hj) e
              · rw [a] at hj
                injection hj with hj
                rw [HU4.out] at e
                simp [Value.ownBlock] at e
                omega)
            obtain ⟨C', cc', ho'⟩ := row_form hown'
            have HO : Hid (w7.ownsRow (b + 9) 3 1 o' (s.out.length + 1) (ncs s.out ++ [.int .i64 i])) := Lib.hid hown'
            clear hown' hgrow hloc T7 M6 KB6 hb6 hsep6 ho6 hK ok xB
            subst ho'
            go_wp2
            go_roundw
            case rel =>
              have e1 : (s'.serve l i).out = s.out ++ [i] := by show s'.out ++ [i] = _; rw [HE'.out.2]
              refine ⟨n' + 1, s'.serve l i, u4, Lib.hid (.go FR'.out (.serve i NC.out HBest.out)), ?_, M7, ?_, hsep7.out, hb7⟩
              · show _ = Value.int .i64 (s'.now + (pk l i).size)
                rw [HPK.out, HE'.out.1]
              · rw [e1, List.length_append]
                have : ncs (s.out ++ [i]) = ncs s.out ++ [.int .i64 i] := by simp [ncs, nts]
                rw [this]
                exact HO.out
            case measure =>
              simp only [intOf]
              omega
    · have hf : s.out.length = l.length := by omega
      have HF : Hid (Fair l v s.out) := Lib.hid ⟨hf, n, s, FR.out, rfl⟩
      have i1 : ¬ (s.out.length : Int) < (l.length : Int) := by omega
      clear hf
      go_wp2
      go_ret
      exact ⟨s.out, C, cc, HF.out, rfl, own_lower ho (by omega), hbel⟩

end Go.Proofs.Ytamkadffencpgaa
