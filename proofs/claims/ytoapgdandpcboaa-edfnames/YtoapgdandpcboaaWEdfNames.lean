
/-
  The walk of the law EdfNames.
-/
import Derived.Test.YtoapgdandpcboaaEdfL
import Derived.Test.YtoapgdandpcboaaJobH
import Derived.StillTailTactics
import Derived.Deep.DeepCutAuto
namespace Go.Proofs.Ytoapgdandpcboaa
set_option linter.all false
open Go.RowKit Go.Shelf Go.Lib

abbrev jn1 : List Jb := [⟨3, 2, 4⟩]
abbrev jn2 : List Jb := [⟨3, 1, 4⟩]
theorem jn1_not : demB jn1 = false := demB_not 3 4 (by omega) (by decide)
theorem jn2_fit : demB jn2 = true := demB_of (by decide) (by decide)
theorem demB_congr {l m : List Jb} (h : Dem m ↔ Dem l) : demB m = demB l := by
  unfold demB
  exact decide_eq_decide.mpr h
theorem row_same {w : World} {base n g cap : Nat} {t : TypeId} {xs : List Value} (o : w.ownsRow base t 3 (.slice (some ⟨g, 0, none⟩) n cap) n xs) (k : Nat) (hk : k < xs.length) (hn : k < n * 3) (x : Value) : (w.setCell ⟨g, k, none⟩ x).cell? ⟨g, k, none⟩ = some x :=
  World.cell?_setCell_same' _ _ _ (by rw [o.cellAt k hn, List.getElem?_eq_getElem hk]; rfl)
theorem pcs_flow : ∀ {l : List Pk} {k : Nat} {p : Pk} (v : Int), l[k]? = some p → (pcs l).set (k * 3 + 2) (.int .i64 v) = pcs (l.set k ⟨p.at_, p.size, v⟩)
  | [], k, p, v, h => by simp at h
  | q :: l, 0, p, v, h => by simp at h; subst h; simp [pcs_cons]
  | q :: l, k + 1, p, v, h => by
    have ih := pcs_flow (l := l) (k := k) (p := p) v (by simpa using h)
    rw [pcs_cons, List.set_append_right _ _ (by simp; omega), List.set_cons_succ, pcs_cons, ← ih]
    simp [show (k + 1) * 3 + 2 - 3 = k * 3 + 2 by omega]
theorem jcs_at {l : List Jb} {k : Nat} {j : Jb} (x : Int) (h : l[k]? = some j) : (jcs l).set (k * 3) (.int .i64 x) = jcs (l.set k ⟨x, j.work, j.due⟩) := by
  have := pcs_at (l := l.map jp) (k := k) (p := jp j) x (by rw [List.getElem?_map, h]; rfl)
  unfold jcs
  rw [List.map_set]
  exact this
theorem jcs_due {l : List Jb} {k : Nat} {j : Jb} (x : Int) (h : l[k]? = some j) : (jcs l).set (k * 3 + 2) (.int .i64 x) = jcs (l.set k ⟨j.at_, j.work, x⟩) := by
  have := pcs_flow (l := l.map jp) (k := k) (p := jp j) x (by rw [List.getElem?_map, h]; rfl)
  unfold jcs
  rw [List.map_set]
  exact this
theorem jcs_get {l : List Jb} {k : Nat} {j : Jb} (h : l[k]? = some j) : (jcs l)[k * 3]? = some (.int .i64 j.at_) ∧ (jcs l)[k * 3 + 1]? = some (.int .i64 j.work) ∧ (jcs l)[k * 3 + 2]? = some (.int .i64 j.due) :=
  pcs_get (l := l.map jp) (k := k) (p := jp j) (by rw [List.getElem?_map, h]; rfl)
theorem get_jb {l : List Jb} {k : Nat} (h : k < l.length) : l[k]? = some (jb l k) := by simp [jb, List.getD, h]
/-- The same jobs in another order. -/
structure Perm_ (l M : List Jb) : Prop where
  len : M.length = l.length
  ok : ∀ x, x < M.length → ∃ y, y < l.length ∧ jb M x = jb l y
  dem : ∀ s t, demV M s t = demV l s t
theorem perm_refl (l : List Jb) : Perm_ l l := ⟨rfl, fun x hx => ⟨x, hx, rfl⟩, fun _ _ => rfl⟩
/-- Two change places. -/
def swJ (M : List Jb) (i k : Nat) : List Jb := (M.set i (jb M k)).set k (jb M i)
theorem jb_sw {M : List Jb} {i k : Nat} (hi : i < M.length) (hk : k < M.length) (x : Nat) : jb (swJ M i k) x = if x = k then jb M i else if x = i then jb M k else jb M x := by
  unfold swJ
  rw [jb_set (by rw [List.length_set]; exact hk), jb_set hi]
theorem perm_sw {l M : List Jb} (h : Perm_ l M) {i k : Nat} (hi : i < l.length) (hk : k < l.length) : Perm_ l (swJ M i k) := by
  have hiM : i < M.length := by rw [h.len]; exact hi
  have hkM : k < M.length := by rw [h.len]; exact hk
  have len : (swJ M i k).length = M.length := by simp [swJ]
  refine ⟨by rw [len, h.len], fun x hx => ?_, fun s t => ?_⟩
  · rw [len] at hx
    rw [jb_sw hiM hkM]
    by_cases c : x = k
    · rw [if_pos c]; exact h.ok i hiM
    · rw [if_neg c]
      by_cases d : x = i
      · rw [if_pos d]; exact h.ok k hkM
      · rw [if_neg d]; exact h.ok x hx
  · rw [← h.dem s t]
    refine dem_swap len hiM hkM ?_ ?_ (fun j hj c1 c2 => ?_) s t
    · rw [jb_sw hiM hkM]
      by_cases c : i = k
      · rw [if_pos c, c]
      · rw [if_neg c, if_pos rfl]
    · rw [jb_sw hiM hkM, if_pos rfl]
    · rw [jb_sw hiM hkM, if_neg c2, if_neg c1]
theorem perm_ok {l M : List Jb} (v : JobsB l) (h : Perm_ l M) : JobsB M := by
  have key : ∀ (P : Jb → Prop), (∀ i, i < l.length → P (jb l i)) → ∀ i, i < M.length → P (jb M i) := fun P q i hi => by
    obtain ⟨y, hy, e⟩ := h.ok i hi
    rw [e]; exact q y hy
  exact ⟨⟨key (fun j => 0 ≤ j.at_) v.a0, key (fun j => j.at_ < j.due) v.ad, key (fun j => 1 ≤ j.work) v.w0⟩, by rw [h.len]; exact v.le, key (fun j => j.due ≤ 200) v.d1, key (fun j => j.work ≤ 200) v.w1⟩
theorem perm_dem {l M : List Jb} (h : Perm_ l M) : Dem M ↔ Dem l := by
  unfold Dem
  constructor
  · intro d s t q; rw [← h.dem]; exact d s t q
  · intro d s t q; rw [h.dem]; exact d s t q
/-- The first k of the jobs, d later. -/
def shJ (l : List Jb) (d : Int) (k : Nat) : List Jb := (List.range l.length).map (fun i => if i < k then ⟨(jb l i).at_ + d, (jb l i).work, (jb l i).due + d⟩ else jb l i)
theorem length_sh (l : List Jb) (d : Int) (k : Nat) : (shJ l d k).length = l.length := by simp [shJ]
theorem sh_get {l : List Jb} {d : Int} {k i : Nat} (h : i < l.length) : (shJ l d k)[i]? = some (if i < k then ⟨(jb l i).at_ + d, (jb l i).work, (jb l i).due + d⟩ else jb l i) := by simp [shJ, h]
theorem sh_zero (l : List Jb) (d : Int) : shJ l d 0 = l := by
  refine List.ext_getElem? (fun i => ?_)
  by_cases c : i < l.length
  · rw [sh_get c, if_neg (by omega), get_jb c]
  · rw [List.getElem?_eq_none (by rw [length_sh]; omega), List.getElem?_eq_none (by omega)]
theorem sh_next {l : List Jb} {d : Int} {k : Nat} (hk : k < l.length) : shJ l d (k + 1) = (shJ l d k).set k ⟨(jb l k).at_ + d, (jb l k).work, (jb l k).due + d⟩ := by
  refine List.ext_getElem? (fun i => ?_)
  by_cases c : i < l.length
  · rw [sh_get c]
    by_cases e : i = k
    · subst e; rw [if_pos (by omega), List.getElem?_set_self (by rw [length_sh]; exact c)]
    · rw [List.getElem?_set_ne (fun q => e q.symm), sh_get c]
      by_cases q : i < k
      · rw [if_pos q, if_pos (by omega)]
      · rw [if_neg q, if_neg (by omega)]
  · rw [List.getElem?_eq_none (by rw [length_sh]; omega), List.getElem?_eq_none (by rw [List.length_set, length_sh]; omega)]
theorem jb_sh {l : List Jb} {d : Int} {i : Nat} (h : i < l.length) : jb (shJ l d l.length) i = ⟨(jb l i).at_ + d, (jb l i).work, (jb l i).due + d⟩ := jb_of (by rw [sh_get h, if_pos h])
theorem sh_ok {l : List Jb} (v : JobsB l) {d : Int} (d0 : 0 ≤ d) (hd : ∀ i, i < l.length → (jb l i).due + d ≤ 200) : JobsB (shJ l d l.length) := by
  have key : ∀ (P : Jb → Prop), (∀ i, i < l.length → P ⟨(jb l i).at_ + d, (jb l i).work, (jb l i).due + d⟩) → ∀ i, i < (shJ l d l.length).length → P (jb (shJ l d l.length) i) := fun P q i hi => by
    rw [length_sh] at hi
    rw [jb_sh hi]; exact q i hi
  exact ⟨⟨key (fun j => 0 ≤ j.at_) (fun i hi => by have := v.a0 i hi; simp only; omega), key (fun j => j.at_ < j.due) (fun i hi => by have := v.ad i hi; simp only; omega), key (fun j => 1 ≤ j.work) v.w0⟩, by rw [length_sh]; exact v.le, key (fun j => j.due ≤ 200) hd, key (fun j => j.work ≤ 200) v.w1⟩
theorem sh_dem (l : List Jb) (d : Int) : Dem (shJ l d l.length) ↔ Dem l := dem_shift (length_sh _ _ _) (d := d) (fun i hi => by rw [jb_sh hi]; exact ⟨rfl, rfl, rfl⟩)
theorem own_drewN_ {w : World} {base n size : Nat} {e : TypeId} {v : Value} {xs : List Value} (h : w.ownsRow base e size v n xs) : w.drew.ownsRow base e size v n xs := h
set_option maxRecDepth 100000 in
set_option maxHeartbeats 6400000 in
theorem walk_EdfNames (a0 : Option Addr) (c0 : Nat) (l0 : List Jb) (a1 : Option Addr) (c1 : Nat) (l1 : List Int) (n2 : Int) (w : World) (h0 : Jbs w a0 l0) (k0 : l0.length ≤ c0) (h1 : Ints w a1 l1) (k1 : l1.length ≤ c1) (_h2 : (Lit.int .i64 n2).wf = true) :
    Calls Try.prog 9 #[.slice a0 l0.length c0, .slice a1 l1.length c1, .int .i64 n2] w fun e w' => e = .returned (.bool true) ∧ Below w.heap.size w w' := by
  have hb := Below.refl w.heap.size w
  have hl := h0.le
  have hl1 := h1.1
  go_enter Try.func9, Try.ntmps9
  go_wp2_with fail
  refine (fits_at edfC _ jn1 false _ _ _ (by exact Jbs.lit _ jn1 _ _ rfl (by decide)) (by decide) (Lib.hid jn1_not) rfl).mono ?_
  rintro e w1 ⟨rfl, b1⟩
  replace b1 := below_of1 b1
  replace h0 := h0.below b1
  replace h1 := h1.below b1
  replace hb := below_trans hb b1
  clear b1
  go_wp2_with fail
  refine (fits_at edfC _ jn2 true _ _ _ (by exact Jbs.lit _ jn2 _ _ rfl (by decide)) (by decide) (Lib.hid jn2_fit) rfl).mono ?_
  rintro e w2 ⟨rfl, b2⟩
  replace b2 := below_of1 b2
  replace h0 := h0.below b2
  replace h1 := h1.below b2
  replace hb := below_trans hb b2
  clear b2
  by_cases hE : jbsE l0 = 0
  · have v := jbs_iff.1 hE
    have HE := Lib.hid hE
    have hle := v.le
    clear hE
    obtain ⟨s, hs⟩ : ∃ s, demB l0 = s := ⟨_, rfl⟩
    have HS := Lib.hid hs
    clear hs
    go_wp2_with fail
    refine (fits_at edfC a0 l0 s _ c0 _ h0 HE.out HS rfl).mono ?_
    rintro e w3 ⟨rfl, b3⟩
    replace h0 := h0.below b3
    replace h1 := h1.below b3
    replace hb := below_trans hb b3
    clear b3
    by_cases hn0 : l0.length = 0
    · have e1 : ((l0.length : Int) == 0) = true := by rw [hn0]; rfl
      clear hn0
      go_wp2
      go_ret
      exact ⟨rfl, hb⟩
    · have e1 : ((l0.length : Int) == 0) = false := by rw [beq_eq_false_iff_ne]; omega
      have np : 0 < l0.length := by omega
      clear hn0
      go_wp2_with fail
      refine (clone_job a0 l0 _ c0 _ h0 np hle rfl).mono ?_
      rintro e w4 ⟨g, d4, rfl, o4, b4⟩
      obtain ⟨B0, hB0⟩ : ∃ B0, B0 = w3.heap.size := ⟨_, rfl⟩
      have HB0 := Lib.hid hB0
      rw [← hB0] at o4 b4
      clear hB0
      go_wp2
      go_loopw [14, 68] (fun u s wr => ∃ i : Nat, i ≤ l0.length ∧ s = .int .i64 i ∧ (∃ M, Hid (Perm_ l0 M) ∧ wr.ownsRow B0 31 3 (.slice (some ⟨g, 0, none⟩) l0.length d4) l0.length (jcs M)) ∧ (∃ R : Int, u = .int .i64 R ∧ 0 ≤ R ∧ R ≤ 200 ∧ Hid (∀ k, k < i → (jb l0 k).due + R ≤ 200)) ∧ Below B0 w3 wr) (fun _ s _ => l0.length - (intOf s).toNat)
      case atStart => exact ⟨0, Nat.zero_le _, rfl, ⟨l0, Lib.hid (perm_refl l0), o4⟩, ⟨200, rfl, by omega, by omega, Lib.hid (fun k hk => by omega)⟩, b4⟩
      case round =>
        clear o4 b4
        obtain ⟨i, hi, rfl, ⟨M, HP, own⟩, ⟨R, rfl, R0, R1, HR⟩, hbB⟩ := hrel
        have hbW : Below w3.heap.size w3 wr := by have := hbB; rw [HB0.out] at this; exact this
        have h0r := h0.below hbW
        have h1r := h1.below hbW
        by_cases hlt : i < l0.length
        · obtain ⟨bb, off, q, rfl, hbl, c0_, c1_, c2_, HJ⟩ := h0r.get hlt
          have hq := jb_of HJ.out
          have qa := v.a0 i hlt
          have qd := v.ad i hlt
          have qd1 := v.d1 i hlt
          rw [hq] at qa qd qd1
          have HQd : Hid ((jb l0 i).due = q.due) := Lib.hid (by rw [hq])
          have i1 : (i : Int) < (l0.length : Int) := by omega
          clear hq
          by_cases ho : i < l1.length
          · have i2 : (i : Int) < (l1.length : Int) := by omega
            obtain ⟨b1', o1', x, rfl, cX, HX⟩ := h1r.at_ ho
            obtain ⟨K, hK, K1⟩ := wiN x (l0.length : Int) (by omega)
            have HK := Lib.hid hK
            have Kl : K < l0.length := by omega
            clear hK
            have lqM : (jcs M).length = l0.length * 3 := by rw [length_jcs, HP.out.len]
            have gi := get_jb (l := M) (k := i) (by rw [HP.out.len]; exact hlt)
            have gk := get_jb (l := M) (k := K) (by rw [HP.out.len]; exact Kl)
            obtain ⟨a, ha⟩ : ∃ a, a = jb M i := ⟨_, rfl⟩
            obtain ⟨b, hbb⟩ : ∃ b, b = jb M K := ⟨_, rfl⟩
            rw [← ha] at gi
            rw [← hbb] at gk
            obtain ⟨x0, x1, x2⟩ := jcs_get gi
            obtain ⟨y0, y1, y2⟩ := jcs_get gk
            have d10 := (own.cellAt (i * 3) (by omega)).trans x0
            have d11 := (own.cellAt (i * 3 + 1) (by omega)).trans x1
            have d12 := (own.cellAt (i * 3 + 2) (by omega)).trans x2
            have d20 := (own.cellAt (K * 3) (by omega)).trans y0
            have d21 := (own.cellAt (K * 3 + 1) (by omega)).trans y1
            have d22 := (own.cellAt (K * 3 + 2) (by omega)).trans y2
            have f10 := own.frozenAt (i * 3)
            have f11 := own.frozenAt (i * 3 + 1)
            have f12 := own.frozenAt (i * 3 + 2)
            have f20 := own.frozenAt (K * 3)
            have f21 := own.frozenAt (K * 3 + 1)
            have f22 := own.frozenAt (K * 3 + 2)
            have gb := (own.lt g rfl).1
            have s1 := (own.stored (i * 3) (.int .i64 b.at_)).1
            have s2 := (s1.stored (i * 3 + 1) (.int .i64 b.work)).1
            have s3 := (s2.stored (i * 3 + 2) (.int .i64 b.due)).1
            rw [jcs_three (l := M) (k := i) b (by rw [HP.out.len]; exact hlt)] at s3
            have s4 := (s3.stored (K * 3) (.int .i64 a.at_)).1
            have s5 := (s4.stored (K * 3 + 1) (.int .i64 a.work)).1
            have s6 := (s5.stored (K * 3 + 2) (.int .i64 a.due)).1
            rw [jcs_three (l := M.set i b) (k := K) a (by rw [List.length_set, HP.out.len]; exact Kl), show (M.set i b).set K a = swJ M i K by rw [swJ, ha, hbb]] at s6
            have bs := (((((hbB.setCell (p := ⟨g, i * 3, none⟩) gb (.int .i64 b.at_)).setCell (p := ⟨g, i * 3 + 1, none⟩) gb (.int .i64 b.work)).setCell (p := ⟨g, i * 3 + 2, none⟩) gb (.int .i64 b.due)).setCell (p := ⟨g, K * 3, none⟩) gb (.int .i64 a.at_)).setCell (p := ⟨g, K * 3 + 1, none⟩) gb (.int .i64 a.work)).setCell (p := ⟨g, K * 3 + 2, none⟩) gb (.int .i64 a.due)
            obtain ⟨W6, hW6⟩ : ∃ W, W = ((((((wr.setCell ⟨g, i * 3, none⟩ (.int .i64 b.at_)).setCell ⟨g, i * 3 + 1, none⟩ (.int .i64 b.work)).setCell ⟨g, i * 3 + 2, none⟩ (.int .i64 b.due)).setCell ⟨g, K * 3, none⟩ (.int .i64 a.at_)).setCell ⟨g, K * 3 + 1, none⟩ (.int .i64 a.work)).setCell ⟨g, K * 3 + 2, none⟩ (.int .i64 a.due)).drew := ⟨_, rfl⟩
            have S6 := own_drewN_ s6
            have BS := bs.drew
            rw [← hW6] at S6 BS
            have HP6 := Lib.hid (perm_sw HP.out hlt Kl)
            have HAB : Hid (i = K → a = b) := Lib.hid (fun e => by rw [ha, hbb, e])
            have HW6 := Lib.hid hW6
            have e9 : W6.cell? ⟨bb, off + i * 3 + 2, none⟩ = some (.int .i64 q.due) := by
              have hbW6 : Below w3.heap.size w3 W6 := by have := BS; rw [HB0.out] at this; exact this
              obtain ⟨bb', off', q', hA, _, _, _, z, HJ'⟩ := (h0.below hbW6).get hlt
              obtain ⟨rfl, rfl⟩ : bb' = bb ∧ off' = off := by injection hA with hA; injection hA with e1 e2; exact ⟨e1.symm, e2.symm⟩
              obtain rfl : q' = q := Option.some.inj (HJ'.out.symm.trans HJ.out)
              exact z
            have i5 : (K : Int) < (l0.length : Int) := by omega
            clear s1 s2 s3 s4 s5 s6 bs hW6 gi gk ha hbb x0 x1 x2 y0 y1 y2
            go_wp2_with fail
            refine (within_any x (l0.length : Int) _ (by omega) (by omega)).mono ?_
            rintro e w' ⟨rfl, rfl⟩
            rw [HK.out]
            go_upto_region 17 with fail
            go_cut [] (fun wx => wx = W6)
            case first =>
              by_cases nk : i = K
              · subst nk
                have hab := HAB.out rfl
                subst hab
                clear d20 d21 d22 f20 f21 f22
                have stA : ∀ x, (wr.setCell ⟨g, i * 3, none⟩ x).cell? ⟨g, i * 3, none⟩ = some x := fun x => row_same own _ (by omega) (by omega) x
                have stB : ∀ x y, ((wr.setCell ⟨g, i * 3, none⟩ x).setCell ⟨g, i * 3 + 1, none⟩ y).cell? ⟨g, i * 3 + 1, none⟩ = some y := fun x y => row_same (own.stored (i * 3) x).1 _ (by rw [List.length_set]; omega) (by omega) y
                have stC : ∀ x y z, (((wr.setCell ⟨g, i * 3, none⟩ x).setCell ⟨g, i * 3 + 1, none⟩ y).setCell ⟨g, i * 3 + 2, none⟩ z).cell? ⟨g, i * 3 + 2, none⟩ = some z := fun x y z => row_same ((own.stored (i * 3) x).1.stored (i * 3 + 1) y).1 _ (by rw [List.length_set, List.length_set]; omega) (by omega) z
                go_region
                all_goals
                  go_wp2_with fail
                  go_meet
                  rw [HW6.out]
              · have kn : ¬ K = i := fun e => nk e.symm
                go_region
                all_goals
                  go_wp2_with fail
                  go_meet
                  rw [HW6.out]
            case rest =>
            subst hcut
            clear HW6 d10 d11 d12 d20 d21 d22 f10 f11 f12 f20 f21 f22 own hbB hbW h0r h1r c0_ c1_ c2_ cX
            -- room = min(room, 200 - Due)
            have HRN : Hid (∀ k, k < i + 1 → (jb l0 k).due + min R (200 - q.due) ≤ 200) := Lib.hid (fun k hk => by
              by_cases c : k = i
              · subst c; rw [HQd.out]; omega
              · have := HR.out k (by omega); omega)
            have m9 : IntKind.i64.wrap (200 - q.due) = 200 - q.due := IntWalk.i64_in _ ⟨by omega, by omega⟩
            have R0' : 0 ≤ min R (200 - q.due) := by omega
            have R1' : min R (200 - q.due) ≤ 200 := by omega
            rcases Int.lt_trichotomy R (200 - q.due) with cc | cc | cc
            all_goals
              go_wp2
              go_roundw
              case rel =>
                refine ⟨i + 1, by omega, by go_num, ⟨_, HP6, S6⟩, ⟨min R (200 - q.due), ?_, R0', R1', HRN⟩, BS⟩
                congr 1; omega
              case measure => simp [intOf]; omega
          · have i2 : ¬ (i : Int) < (l1.length : Int) := by omega
            clear hbW h0r h1r
            -- room = min(room, 200 - Due)
            have HRN : Hid (∀ k, k < i + 1 → (jb l0 k).due + min R (200 - q.due) ≤ 200) := Lib.hid (fun k hk => by
              by_cases c : k = i
              · subst c; rw [HQd.out]; omega
              · have := HR.out k (by omega); omega)
            have m9 : IntKind.i64.wrap (200 - q.due) = 200 - q.due := IntWalk.i64_in _ ⟨by omega, by omega⟩
            have R0' : 0 ≤ min R (200 - q.due) := by omega
            have R1' : min R (200 - q.due) ≤ 200 := by omega
            rcases Int.lt_trichotomy R (200 - q.due) with cc | cc | cc
            all_goals
              go_wp2
              go_roundw
              case rel =>
                refine ⟨i + 1, by omega, by go_num, ⟨M, HP, own⟩, ⟨min R (200 - q.due), ?_, R0', R1', HRN⟩, hbB⟩
                congr 1; omega
              case measure => simp [intOf]; omega
        · obtain rfl : i = l0.length := by omega
          obtain ⟨wq, hwq⟩ : ∃ wq, wq = wr := ⟨_, rfl⟩
          subst hwq
          have w0r := hbW.size
          replace h0 := h0.below hbW
          replace h1 := h1.below hbW
          replace hb := below_trans hb hbW
          have hbr := hb
          clear h0r h1r hbW
          go_wp2_with fail
          refine (clone_job a0 l0 _ c0 _ h0 np hle rfl).mono ?_
          rintro e w5 ⟨g5, d5, rfl, o5, b5⟩
          obtain ⟨Dd, hDd, D1⟩ := wiN n2 (R + 1) (by omega)
          have HD := Lib.hid hDd
          have m1 : IntKind.i64.wrap (R + 1) = R + 1 := IntWalk.i64_in _ ⟨by omega, by omega⟩
          obtain ⟨B5, hB5⟩ : ∃ B5, B5 = wq.heap.size := ⟨_, rfl⟩
          have HB5 := Lib.hid hB5
          rw [← hB5] at o5 b5
          clear hB5 hDd
          go_wp2_with fail
          refine (within_any n2 (R + 1) _ (by omega) (by omega)).mono ?_
          rintro e w' ⟨rfl, rfl⟩
          rw [HD.out]
          go_wp2
          go_loopw [113] (fun s wr => ∃ k : Nat, k ≤ l0.length ∧ s = .int .i64 k ∧ wr.ownsRow B5 31 3 (.slice (some ⟨g5, 0, none⟩) l0.length d5) l0.length (jcs (shJ l0 Dd k)) ∧ Below B5 wq wr) (fun s _ => l0.length - (intOf s).toNat)
          case atStart => exact ⟨0, Nat.zero_le _, rfl, by rw [sh_zero]; exact o5, b5⟩
          case round =>
            clear o5 b5
            obtain ⟨k, hk, rfl, o5, b5⟩ := hrel
            have bX : Below wq.heap.size wq wr := by have := b5; rw [HB5.out] at this; exact this
            by_cases hlk : k < l0.length
            · have gk := (sh_get (l := l0) (d := (Dd : Int)) (k := k) hlk).trans (by rw [if_neg (Nat.lt_irrefl k)])
              obtain ⟨j, hj⟩ : ∃ j, j = jb l0 k := ⟨_, rfl⟩
              have qa := v.a0 k hlk
              have qd := v.ad k hlk
              have qd1 := v.d1 k hlk
              have qr := HR.out k hlk
              rw [← hj] at gk qa qd qd1 qr
              obtain ⟨y0, y1, y2⟩ := jcs_get gk
              have lq : (jcs (shJ l0 (Dd : Int) k)).length = l0.length * 3 := by rw [length_jcs, length_sh]
              have d10 := (o5.cellAt (k * 3) (by omega)).trans y0
              have d12 := (o5.cellAt (k * 3 + 2) (by omega)).trans y2
              have f10 := o5.frozenAt (k * 3)
              have f12 := o5.frozenAt (k * 3 + 2)
              have gb := (o5.lt g5 rfl).1
              have s1 := (o5.stored (k * 3) (.int .i64 (j.at_ + Dd))).1
              rw [jcs_at _ gk] at s1
              have s2 := (s1.stored (k * 3 + 2) (.int .i64 (j.due + Dd))).1
              rw [jcs_due (j := ⟨j.at_ + Dd, j.work, j.due⟩) _ (List.getElem?_set_self (by rw [length_sh]; exact hlk)), List.set_set] at s2
              have hN : shJ l0 (Dd : Int) (k + 1) = (shJ l0 (Dd : Int) k).set k ⟨j.at_ + Dd, j.work, j.due + Dd⟩ := by rw [sh_next hlk, ← hj]
              simp only at s2
              rw [← hN] at s2
              have S2 := Lib.hid s2
              have BS := Lib.hid ((b5.setCell (p := ⟨g5, k * 3, none⟩) gb (.int .i64 (j.at_ + Dd))).setCell (p := ⟨g5, k * 3 + 2, none⟩) gb (.int .i64 (j.due + Dd)))
              have i3 : (k : Int) < (l0.length : Int) := by omega
              have m3 : IntKind.i64.wrap (j.at_ + (Dd : Int)) = j.at_ + Dd := IntWalk.i64_in _ ⟨by omega, by omega⟩
              have m4 : IntKind.i64.wrap (j.due + (Dd : Int)) = j.due + Dd := IntWalk.i64_in _ ⟨by omega, by omega⟩
              clear s1 s2 hN hj gk y0 y1 y2 lq o5 b5 bX
              go_wp2
              go_roundw
              case rel => exact ⟨k + 1, by omega, by go_num, S2.out, BS.out⟩
              case measure => simp [intOf]; omega
            · obtain rfl : k = l0.length := by omega
              have oM := own_belJ own bX
              have jM : Jbs wr (some ⟨g, 0, none⟩) M := by
                refine Jbs.of_row (base := B0) (t := 31) (c := d4) ?_
                rw [HP.out.len]; exact oM
              have jL : Jbs wr (some ⟨g5, 0, none⟩) (shJ l0 (Dd : Int) l0.length) := by
                refine Jbs.of_row (base := B5) (t := 31) (c := d5) ?_
                rw [length_sh]; exact o5
              have EM : Hid (jbsE M = 0) := Lib.hid (jbs_iff.2 (perm_ok v HP.out))
              have DM : Hid (demB M = s) := Lib.hid (by rw [demB_congr (perm_dem HP.out)]; exact HS.out)
              have NM : Hid (l0.length = M.length) := Lib.hid HP.out.len.symm
              have EL : Hid (jbsE (shJ l0 (Dd : Int) l0.length) = 0) := Lib.hid (jbs_iff.2 (sh_ok v (by omega) (fun i hi => by have := HR.out i hi; omega)))
              have DL : Hid (demB (shJ l0 (Dd : Int) l0.length) = s) := Lib.hid (by rw [demB_congr (sh_dem l0 _)]; exact HS.out)
              have NL : Hid (l0.length = (shJ l0 (Dd : Int) l0.length).length) := Lib.hid (length_sh _ _ _).symm
              replace hb := below_trans hb bX
              clear oM o5 b5 bX own
              go_wp2_with fail
              refine (fits_at edfC _ M s _ d4 _ jM EM.out DM NM.out).mono ?_
              rintro e w8 ⟨rfl, b8⟩
              replace jL := jL.below b8
              replace hb := below_trans hb b8
              clear b8 jM
              go_wp2_with fail
              refine (fits_at edfC _ (shJ l0 (Dd : Int) l0.length) s _ d5 _ jL EL.out DL NL.out).mono ?_
              rintro e w9 ⟨rfl, b9⟩
              replace hb := below_trans hb b9
              clear b9 jL
              go_wp2
              go_ret
              exact ⟨rfl, hb⟩
  · have e1 : (jbsE l0 != 0) = true := by simp [hE]
    have e2 : (jbsE l0 == 0) = false := by simp [hE]
    go_wp2_with fail
    refine (efits_no a0 l0 c0 _ h0 hE).mono ?_
    rintro e w3 ⟨rfl, b3⟩
    replace hb := below_trans hb b3
    clear b3 hE
    go_wp2
    go_ret
    exact ⟨rfl, hb⟩

end Go.Proofs.Ytoapgdandpcboaa
