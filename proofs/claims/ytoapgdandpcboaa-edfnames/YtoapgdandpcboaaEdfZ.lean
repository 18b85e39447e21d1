
/-
  Walks of package edf: Run, Late; what it owes is shown.
-/
import Derived.Test.YtoapgdandpcboaaEdfY
import Derived.Test.YtoapgdandpcboaaJobH
namespace Go.Proofs.Ytoapgdandpcboaa
set_option linter.all false
open Go.RowKit Go.Shelf Go.Lib

/-- What is left of the jobs behind t slots. -/
def rsJ (l : List Jb) (t i : Nat) : Jb := ⟨(jb l i).at_, edL l t i, (jb l i).due⟩
def rsL (l : List Jb) (t : Nat) : List Jb := (List.range l.length).map (rsJ l t)
theorem length_rs (l : List Jb) (t : Nat) : (rsL l t).length = l.length := by simp [rsL]
theorem rs_get {l : List Jb} {t i : Nat} (hi : i < l.length) : (rsL l t)[i]? = some (rsJ l t i) := by simp [rsL, hi]
theorem jb_rs {l : List Jb} {t i : Nat} (hi : i < l.length) : jb (rsL l t) i = rsJ l t i := jb_of (rs_get hi)
theorem rs_zero (l : List Jb) : rsL l 0 = l := by
  refine List.ext_getElem? (fun i => ?_)
  by_cases hi : i < l.length
  · rw [rs_get hi, List.getElem?_eq_getElem hi]
    have : jb l i = l[i] := by simp [jb, List.getD, hi]
    simp [rsJ, edL, this]
  · rw [List.getElem?_eq_none (by rw [length_rs]; omega), List.getElem?_eq_none (by omega)]
theorem bs_rs (l : List Jb) (t : Nat) : ∀ n, n ≤ l.length → bsV (rsL l t) (wks (rsL l t)) t n = bsV l (edL l t) t n
  | 0, _ => rfl
  | n + 1, hn => by
    have ih := bs_rs l t n (by omega)
    have e1 : pnB (rsL l t) (wks (rsL l t)) t n = pnB l (edL l t) t n := by unfold pnB wks; rw [jb_rs (by omega)]; rfl
    rw [bsV, bsV, ih, e1]
    rcases bs_spec l (edL l t) t n with ⟨z, _⟩ | ⟨k, z, hk, _⟩
    · rw [z]
      by_cases c : pnB l (edL l t) t n = true
      · rw [if_pos ⟨c, .inl (by omega)⟩, if_pos ⟨c, .inl (by omega)⟩]
      · rw [if_neg (fun x => c x.1), if_neg (fun x => c x.1)]
    · rw [z, show ((k : Int)).toNat = k by omega, jb_rs (i := n) (by omega), jb_rs (i := k) (by omega)]
      rfl
theorem rs_run (l : List Jb) (t : Nat) : bsV (rsL l t) (wks (rsL l t)) t l.length = edR l t := bs_rs l t _ (Nat.le_refl _)
theorem rs_idle {l : List Jb} {t : Nat} (h : edR l t < 0) : rsL l (t + 1) = rsL l t := by
  unfold rsL
  refine List.map_congr_left (fun i _ => ?_)
  unfold rsJ
  rw [edL_next, if_neg (by omega), Int.sub_zero]
theorem rs_step {l : List Jb} {t k : Nat} (h : edR l t = (k : Int)) (hk : k < l.length) : rsL l (t + 1) = (rsL l t).set k ⟨(jb l k).at_, edL l t k - 1, (jb l k).due⟩ := by
  refine List.ext_getElem? (fun i => ?_)
  by_cases hi : i < l.length
  · rw [rs_get hi]
    by_cases c : i = k
    · subst c
      rw [List.getElem?_set_self (by rw [length_rs]; omega)]
      unfold rsJ
      rw [edL_next, if_pos h]
    · rw [List.getElem?_set_ne (fun e => c e.symm), rs_get hi]
      unfold rsJ
      rw [edL_next, if_neg (by omega), Int.sub_zero]
  · rw [List.getElem?_eq_none (by rw [length_rs]; omega), List.getElem?_eq_none (by rw [List.length_set, length_rs]; omega)]
theorem rs_any {l : List Jb} {t : Nat} : (rsL l t).any wkB = true ↔ ∃ i, i < l.length ∧ 0 < edL l t i := by
  rw [List.any_eq_true]
  constructor
  · intro ⟨x, hx, hw⟩
    obtain ⟨i, hi, rfl⟩ := List.getElem_of_mem hx
    rw [length_rs] at hi
    refine ⟨i, hi, ?_⟩
    have : (rsL l t)[i]'(by rw [length_rs]; exact hi) = rsJ l t i := by
      have := rs_get (t := t) hi
      rw [List.getElem?_eq_getElem (by rw [length_rs]; exact hi)] at this
      exact Option.some.inj this
    rw [this] at hw
    exact of_decide_eq_true hw
  · intro ⟨i, hi, hw⟩
    exact ⟨_, List.mem_of_getElem? (rs_get hi), decide_eq_true hw⟩
/-- Where work is left and every job has come, a job runs. -/
theorem ed_busy {l : List Jb} {t i : Nat} (hi : i < l.length) (h0 : 0 < edL l t i) (ha : (jb l i).at_ ≤ (t : Int)) : 0 ≤ edR l t := by
  rcases bs_spec l (edL l t) t l.length with ⟨z, hn⟩ | ⟨k, z, _⟩
  · have := hn i hi
    rw [pnB_iff.mpr ⟨ha, h0⟩] at this
    exact absurd this (by simp)
  · unfold edR; omega
/-- The end of the loop is the end of the schedule. -/
theorem end_none {l : List Jb} (j : JobsB l) {t : Nat} (ht : t ≤ 200) (hn : (rsL l t).any wkB = false) (hp : t = 0 ∨ ∃ i, i < l.length ∧ 0 < edL l (t - 1) i) : IsEnd (edR l) 200 t := by
  have w := (ed_edf l).way j.toJobs
  have z : ∀ i, i < l.length → edL l t i = 0 := fun i hi => by
    have := w.nn t i hi
    have : ¬ 0 < edL l t i := fun c => by rw [rs_any.mpr ⟨i, hi, c⟩] at hn; exact absurd hn (by simp)
    omega
  refine ⟨ht, fun s hs _ => ?_, ?_⟩
  · rcases bs_spec l (edL l s) s l.length with ⟨e, _⟩ | ⟨k, e, hk, hpk, _⟩
    · unfold edR; omega
    · have := (pnB_iff.mp hpk).2
      rw [w.zero hk hs (z k hk)] at this
      omega
  · rcases hp with c | ⟨i, hi, hw⟩
    · exact .inl c
    · by_cases c : t = 0
      · exact .inl c
      · right
        by_cases d : 0 ≤ edR l (t - 1)
        · exact d
        · have e := edL_next l (t - 1) i
          rw [show t - 1 + 1 = t by omega, z i hi, if_neg (by omega)] at e
          omega
theorem end_full {l : List Jb} (j : JobsB l) (hp : ∃ i, i < l.length ∧ 0 < edL l 199 i) : IsEnd (edR l) 200 200 := by
  obtain ⟨i, hi, hw⟩ := hp
  have := j.ad i hi
  have := j.d1 i hi
  exact ⟨Nat.le_refl _, fun t h1 h2 => by omega, .inr (ed_busy hi hw (by omega))⟩
theorem own_belJ {w w' : World} {base n size : Nat} {e : TypeId} {v : Value} {xs : List Value} (h : w.ownsRow base e size v n xs) (hb : Below w.heap.size w w') : w'.ownsRow base e size v n xs :=
  h.kept (row := none) ⟨hb.os, hb.tape, hb.output, hb.size, fun k hk _ => hb.block k hk⟩ (by cases v.ownBlock <;> simp)
theorem row_formJ {w : World} {base n size : Nat} {e : TypeId} {v : Value} {xs : List Value} (h : w.ownsRow base e size v n xs) : ∃ A c, v = .slice A n c := by
  rcases h.2 with ⟨rfl, h0⟩ | ⟨g, cap, cur, rfl, _⟩
  · exact ⟨none, 0, by rw [h0]⟩
  · exact ⟨_, _, rfl⟩
theorem jcs_work {l : List Jb} {k : Nat} {j : Jb} (x : Int) (h : l[k]? = some j) : (jcs l).set (k * 3 + 1) (.int .i64 x) = jcs (l.set k ⟨j.at_, x, j.due⟩) := by
  have := pcs_size (l := l.map jp) (k := k) (p := jp j) x (by rw [List.getElem?_map, h]; rfl)
  unfold jcs
  rw [List.map_set]
  exact this
set_option maxHeartbeats 800000 in
theorem clone_none (A : Option Addr) (c : Nat) (w : World) :
    Calls Try.prog 21 #[.slice A 0 c] w fun e w' => ∃ B d, e = .returned (.slice B 0 d) ∧ Below w.heap.size w w' := by
  obtain ⟨i0, hi0, hz0, hz1, hz2⟩ := info_parts jpk_info
  have q : ∀ (w : World) (a : Option Addr) (n c n' c' : Nat), (binOp .eql 22 (.slice a n c) (.slice none n' c')).run Try.prog w = .ok (.bool a.isNone) w := fun w a n c n' c' => Lib.run_eql_slice_nil w _ _ a n c n' c' Try.underlying22
  cases A with
  | none =>
    go_enter Try.func21, Try.ntmps21
    go_wp2
    go_ret
    exact ⟨none, 0, rfl, Below.refl _ _⟩
  | some ad =>
    go_enter Try.func21, Try.ntmps21
    go_wp2_with (at_builtin; refine wpList_append_own _ rfl _ _ 22 rfl w.heap.size 31 i0 (.agg #[.int .i64 0, .int .i64 0, .int .i64 0]) 3 24 Try.underlying22 hi0 hz0 hz1 hz2 rfl (by decide) _ _ _ rfl (World.ownsRow_made w #[] 0 (Nat.le_refl _) (Nat.zero_le _) rfl) ad 0 c [] rfl ?qc1 ?qc2 ?qc3 ?qc4 ?qc5 ?qc6 ?_)
    case qc1 => rfl
    case qc2 => intro j u hj; simp at hj
    case qc3 => intro u hu; simp at hu
    case qc4 => unfold maxLen; omega
    case qc5 => omega
    case qc6 => simp
    intro v' w1 hown hgrow hnil
    obtain ⟨B, d, rfl⟩ := row_formJ hown
    go_wp2
    go_ret
    exact ⟨B, d, by simp, ((Below.refl _ w).alloc (Nat.le_refl _) _).grown hgrow (by simp) (by intro k hk; simp [Value.ownBlock] at hk; omega)⟩

set_option maxHeartbeats 3200000 in
theorem erun_none (A : Option Addr) (c : Nat) (w : World) (h : Jbs w A []) :
    Calls Try.prog 10 #[.slice A 0 c] w fun e w' => e = .returned (.tuple #[.slice none 0 0, .int .i64 0]) ∧ Below w.heap.size w w' := by
  have hc := echeck_any A [] c w h
  go_enter Try.func10, Try.ntmps10
  go_wp2_with fail
  refine hc.mono ?_
  rintro e w1 ⟨rfl, b1⟩
  rw [show jbsE [] = 0 from rfl]
  go_wp2_with fail
  refine (clone_none A c _).mono ?_
  rintro e w2 ⟨B, d, rfl, b2⟩
  have hb := below_trans b1 b2
  clear b1 b2 hc
  go_wp2
  go_loopw [5, 7] (fun s u wr => s = .slice none 0 0 ∧ u = .int .i64 0 ∧ Below w.heap.size w wr) (fun _ _ _ => 0)
  case atStart => exact ⟨rfl, rfl, hb⟩
  case round =>
    obtain ⟨rfl, rfl, hrel⟩ := hrel
    go_wp2_with fail
    refine (containsW_any B [] 0 d false _ (Jbs.nil_ _ _) rfl (Lib.hid rfl)).mono ?_
    rintro e w3 ⟨rfl, b3⟩
    go_wp2
    go_ret2
    exact ⟨rfl, below_trans hrel b3⟩

theorem new_oneJ (w : World) (u : Value) (t : TypeId) : ∀ (j : Nat) (v : Value), [u][j]? = some v → (w.alloc (.cells #[u] t)).cell? ((⟨w.heap.size, 0, none⟩ : Addr).add j) = some v := by
  intro j v hj
  match j, hj with
  | 0, hj =>
    simp at hj
    subst hj
    rw [Addr.add_lit]
    exact (Blk.new w t #[u]).cell 0
theorem one_cellJ (x : Int) : ∀ u ∈ [Value.int .i64 x], u.oneCell' = true := by
  intro u hu
  simp at hu
  subst hu
  rfl
set_option maxHeartbeats 3200000 in
theorem erun_yes (A : Option Addr) (l : List Jb) (c : Nat) (w : World) (h : Jbs w A l) (hE : jbsE l = 0) (hp : 0 < l.length) :
    Calls Try.prog 10 #[.slice A l.length c] w fun e w' => ∃ (x : List Int) (B : Option Addr) (k : Nat), IsRun l x ∧ e = .returned (.tuple #[.slice B x.length k, .int .i64 0]) ∧ w'.ownsRow w.heap.size 3 1 (.slice B x.length k) x.length (x.map (Value.int .i64)) ∧ Below w.heap.size w w' := by
  obtain ⟨i0, hi0, hz0, hz1, hz2⟩ := info_parts int_info
  have j := jbs_iff.1 hE
  have hle := j.le
  have HE := Lib.hid hE
  clear hE
  go_enter Try.func10, Try.ntmps10
  go_wp2_with fail
  refine (echeck_any A l c w h).mono ?_
  rintro e w1 ⟨rfl, b1⟩
  rw [HE.out]
  go_wp2_with fail
  refine (clone_job A l _ c _ (h.below b1) hp hle rfl).mono ?_
  rintro e w2 ⟨g, d, rfl, o2, b2⟩
  have hb2 := below_trans b1 b2
  have gl := (o2.lt g rfl).2
  have glo : w.heap.size ≤ g := by have := (o2.lt g rfl).1; have := b1.size; omega
  have o2' := own_lower o2 b1.size
  have hb2s := hb2.size
  clear b1 b2 o2
  go_wp2
  go_loopw [5, 7] (fun s u wr => ∃ t : Nat, t ≤ 200 ∧ u = .int .i64 t ∧ wr.ownsRow w2.heap.size 3 1 s t ((tab t (edR l)).map (Value.int .i64)) ∧ wr.ownsRow w.heap.size 31 3 (.slice (some ⟨g, 0, none⟩) l.length d) l.length (jcs (rsL l t)) ∧ Hid (t = 0 ∨ ∃ i, i < l.length ∧ 0 < edL l (t - 1) i) ∧ w2.heap.size ≤ wr.heap.size ∧ Below w.heap.size w wr) (fun _ u _ => 200 - (intOf u).toNat)
  case atStart => exact ⟨0, Nat.zero_le _, rfl, by rw [tab_zero]; exact World.ownsRow_nil _ _ _ _, by rw [rs_zero]; exact o2', Lib.hid (.inl rfl), Nat.le_refl _, hb2⟩
  case round =>
    clear o2' hb2
    obtain ⟨t, ht, rfl, hown, hrow, HP, hsz, hbel⟩ := hrel
    by_cases hlt : t < 200
    · have i1 : (t : Int) < 200 := by omega
      have e0 : decide ((t : Int) < 200) = true := decide_eq_true i1
      have hj : Jbs wr (some ⟨g, 0, none⟩) (rsL l t) := by
        refine Jbs.of_row (base := w.heap.size) (t := 31) (c := d) ?_
        rw [length_rs]; exact hrow
      cases q : (rsL l t).any wkB
      · have HQ := Lib.hid q
        have HN : Hid (IsEnd (edR l) 200 t) := Lib.hid (end_none j ht q HP.out)
        clear q
        go_wp2_with fail
        refine (containsW_any _ (rsL l t) l.length d false _ hj (length_rs _ _) HQ).mono ?_
        rintro e w3 ⟨rfl, b3⟩
        have o3 := own_belJ hown b3
        have hb3 := below_trans hbel b3
        clear b3 hown hrow hj
        obtain ⟨C, cc, rfl⟩ := row_formJ o3
        go_wp2
        go_ret2
        refine ⟨tab t (edR l), C, cc, ⟨t, HN.out, rfl⟩, by rw [length_tab]; rfl, ?_, hb3⟩
        rw [length_tab]
        exact own_lower o3 (by omega)
      · have HQ := Lib.hid q
        have HW : Hid (∃ i, i < l.length ∧ 0 < edL l t i) := Lib.hid (rs_any.mp q)
        clear q HP
        go_wp2_with fail
        refine (containsW_any _ (rsL l t) l.length d true _ hj (length_rs _ _) HQ).mono ?_
        rintro e w3 ⟨rfl, b3⟩
        have o3 := own_belJ hown b3
        have r3 := own_belJ hrow b3
        have hb3 := below_trans hbel b3
        have hs3 : w2.heap.size ≤ w3.heap.size := Nat.le_trans hsz b3.size
        replace hj := hj.below b3
        clear b3 hown hrow hbel hsz
        go_wp2_with fail
        refine (next_any _ (rsL l t) l.length d t (edR l t) _ hj (length_rs _ _) hle (Lib.hid (rs_run l t))).mono ?_
        rintro e w4 ⟨rfl, b4⟩
        have o4 := own_belJ o3 b4
        have r4 := own_belJ r3 b4
        have hb4 := below_trans hb3 b4
        have hs4 : w2.heap.size ≤ w4.heap.size := Nat.le_trans hs3 b4.size
        clear b4 o3 r3 hb3 hs3 hj
        obtain ⟨R, hR⟩ : ∃ R, R = edR l t := ⟨_, rfl⟩
        have HR := Lib.hid hR
        rw [← hR]
        rcases edR_range l t with z | ⟨k, z, hk⟩
        · obtain rfl : R = -1 := by rw [hR, z]
          have r4' : w4.ownsRow w.heap.size 31 3 (.slice (some ⟨g, 0, none⟩) l.length d) l.length (jcs (rsL l (t + 1))) := by rw [rs_idle (by omega)]; exact r4
          clear hR z r4
          go_wp2_with (at_builtin; refine wpList_append_own _ rfl _ _ 23 rfl w2.heap.size 3 i0 (.int .i64 0) 1 8 Try.underlying23 hi0 hz0 hz1 hz2 rfl (by decide) _ _ _ rfl (World.ownsRow.alloc o4 _) ⟨w4.heap.size, 0, none⟩ 1 1 [.int .i64 (-1)] rfl rfl ?c1a ?c2a ?c3a ?c4a ?c5a ?_)
          case c1a => exact new_oneJ _ _ _
          case c2a => exact one_cellJ _
          case c3a => unfold maxLen; omega
          case c4a => omega
          case c5a => simp; omega
          intro v' w6 hown' hgrow _
          have hb6 : Below w.heap.size w w6 := ((hb4.alloc hb4.size _).grown hgrow (by simp; have := hb4.size; omega) (fun k hk => by have := (o4.lt k hk).1; have := hb2s; omega))
          have r6 : w6.ownsRow w.heap.size 31 3 (.slice (some ⟨g, 0, none⟩) l.length d) l.length (jcs (rsL l (t + 1))) := (World.ownsRow.alloc r4' _).kept hgrow (.inr (fun c => by
            have := (o4.lt g (by rw [← c]; rfl)).1
            omega))
          have o6 : w6.ownsRow w2.heap.size 3 1 v' (t + 1) ((tab (t + 1) (edR l)).map (Value.int .i64)) := by rw [tab_succ, List.map_append, ← HR.out]; exact hown'
          have hs6 : w2.heap.size ≤ w6.heap.size := by have := hgrow.size; simp at this; omega
          clear hown' hgrow o4 r4' hb4
          go_wp2
          go_roundw
          case rel => exact ⟨t + 1, by omega, by go_num, o6, r6, Lib.hid (.inr HW.out), hs6, hb6⟩
          case measure => simp [intOf]; omega
        · obtain rfl : R = (k : Int) := by rw [hR, z]
          have hg := rs_get (t := t) hk
          have s1 := (r4.stored (k * 3 + 1) (.int .i64 (edL l t k - 1))).1
          rw [jcs_work _ hg] at s1
          have r5 : (w4.setCell ⟨g, k * 3 + 1, none⟩ (.int .i64 (edL l t k - 1))).ownsRow w.heap.size 31 3 (.slice (some ⟨g, 0, none⟩) l.length d) l.length (jcs (rsL l (t + 1))) := by rw [rs_step z hk]; exact s1
          obtain ⟨E, hE⟩ : ∃ E, E = edL l t k := ⟨_, rfl⟩
          have E0 : 0 ≤ E ∧ E ≤ 200 := by
            have v := (ed_edf l).way j.toJobs
            have h1 := v.nn t k hk
            have h2 := v.mono hk (s := 0) t
            have h3 := j.w1 k hk
            have h4 : edL l 0 k = (jb l k).work := rfl
            rw [Nat.zero_add] at h2
            omega
          obtain ⟨E1, E2⟩ := E0
          rw [← hE] at r5
          have cz : w4.cell? ⟨g, k * 3 + 1, none⟩ = some (.int .i64 E) := by
            rw [r4.cellAt _ (by omega), hE]
            exact (pcs_get (l := (rsL l t).map jp) (k := k) (p := jp (rsJ l t k)) (by rw [List.getElem?_map, hg]; rfl)).2.1
          have cf := r4.frozenAt (k * 3 + 1)
          have o5 := ownsRow_setCell_below o4 (a := ⟨g, k * 3 + 1, none⟩) gl (.int .i64 (E - 1))
          have hb5 := hb4.setCell (p := ⟨g, k * 3 + 1, none⟩) glo (.int .i64 (E - 1))
          obtain ⟨W, hW⟩ : ∃ W, W = w4.setCell ⟨g, k * 3 + 1, none⟩ (.int .i64 (E - 1)) := ⟨_, rfl⟩
          have hs5 : w2.heap.size ≤ W.heap.size := by rw [hW]; simpa using hs4
          rw [← hW] at o5 r5 hb5
          have HW5 := Lib.hid hW
          have i5 : (k : Int) < (l.length : Int) := by omega
          clear hR z r4 s1 hW hE hg o4 hb4 hs4
          go_upto_region 12 with fail
          rw [← HW5.out]
          clear HW5 cz cf
          go_wp2_with (at_builtin; refine wpList_append_own _ rfl _ _ 23 rfl w2.heap.size 3 i0 (.int .i64 0) 1 8 Try.underlying23 hi0 hz0 hz1 hz2 rfl (by decide) _ _ _ rfl (World.ownsRow.alloc o5 _) ⟨W.heap.size, 0, none⟩ 1 1 [.int .i64 k] rfl rfl ?c1b ?c2b ?c3b ?c4b ?c5b ?_)
          case c1b => exact new_oneJ _ _ _
          case c2b => exact one_cellJ _
          case c3b => unfold maxLen; omega
          case c4b => omega
          case c5b => simp; omega
          intro v' w6 hown' hgrow _
          have hb6 : Below w.heap.size w w6 := ((hb5.alloc hb5.size _).grown hgrow (by simp; have := hb5.size; omega) (fun k hk => by have := (o5.lt k hk).1; have := hb2s; omega))
          have r6 : w6.ownsRow w.heap.size 31 3 (.slice (some ⟨g, 0, none⟩) l.length d) l.length (jcs (rsL l (t + 1))) := (World.ownsRow.alloc r5 _).kept hgrow (.inr (fun c => by
            have := (o5.lt g (by rw [← c]; rfl)).1
            omega))
          have o6 : w6.ownsRow w2.heap.size 3 1 v' (t + 1) ((tab (t + 1) (edR l)).map (Value.int .i64)) := by rw [tab_succ, List.map_append, ← HR.out]; exact hown'
          have hs6 : w2.heap.size ≤ w6.heap.size := by have := hgrow.size; simp at this; omega
          clear hown' hgrow o5 r5 hb5
          go_wp2
          go_roundw
          case rel => exact ⟨t + 1, by omega, by go_num, o6, r6, Lib.hid (.inr HW.out), hs6, hb6⟩
          case measure => simp [intOf]; omega
    · obtain rfl : t = 200 := by omega
      have HN : Hid (IsEnd (edR l) 200 200) := Lib.hid (end_full j (by rcases HP.out with c | c; omega; exact c))
      obtain ⟨C, cc, rfl⟩ := row_formJ hown
      go_wp2
      go_ret2
      refine ⟨tab 200 (edR l), C, cc, ⟨200, HN.out, rfl⟩, by rw [length_tab]; rfl, ?_, hbel⟩
      rw [length_tab]
      exact own_lower hown (by omega)

set_option maxHeartbeats 800000 in
theorem erun_no (A : Option Addr) (l : List Jb) (c : Nat) (w : World) (h : Jbs w A l) (hE : ¬ jbsE l = 0) :
    Calls Try.prog 10 #[.slice A l.length c] w fun e w' => e = .returned (.tuple #[.slice none 0 0, .int .i64 (jbsE l)]) ∧ Below w.heap.size w w' := by
  have e1 : (jbsE l != 0) = true := by simp [hE]
  go_enter Try.func10, Try.ntmps10
  go_wp2_with fail
  refine (echeck_any A l c w h).mono ?_
  rintro e w1 ⟨rfl, b1⟩
  go_wp2
  go_ret2
  exact ⟨rfl, b1⟩
theorem run_nil : IsRun [] [] := ⟨0, ⟨by omega, fun t _ _ => by show (-1 : Int) < 0; omega, .inl rfl⟩, rfl⟩
theorem erun_any (A : Option Addr) (l : List Jb) (c : Nat) (w : World) (h : Jbs w A l) (hE : jbsE l = 0) :
    Calls Try.prog 10 #[.slice A l.length c] w fun e w' => ∃ (x : List Int) (B : Option Addr) (k : Nat), IsRun l x ∧ e = .returned (.tuple #[.slice B x.length k, .int .i64 0]) ∧ w'.ownsRow w.heap.size 3 1 (.slice B x.length k) x.length (x.map (Value.int .i64)) ∧ Below w.heap.size w w' := by
  by_cases hp : 0 < l.length
  · exact erun_yes A l c w h hE hp
  · obtain rfl : l = [] := List.eq_nil_of_length_eq_zero (by omega)
    refine (erun_none A c w h).mono ?_
    rintro e w' ⟨rfl, b⟩
    exact ⟨[], none, 0, run_nil, rfl, World.ownsRow_nil _ _ _ _, b⟩

end Go.Proofs.Ytoapgdandpcboaa
