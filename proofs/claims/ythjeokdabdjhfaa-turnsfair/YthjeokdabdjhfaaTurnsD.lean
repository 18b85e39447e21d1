
/-
  Walks: turns.Run, turns.After.
-/
import Derived.Test.YthjeokdabdjhfaaTurnsC
import Derived.Test.YthjeokdabdjhfaaTurnsS
import Derived.Test.YthjeokdabdjhfaaConvB
import Derived.Laws.AppendOwnNone
namespace Go.Proofs.Ythjeokdabdjhfaa
set_option linter.all false
open Go.RowKit Go.Shelf

/-- The cells say how far the queues are. -/
theorem Qb.uniq {w : World} {g : Nat} {l : List Fw} {X Y : Nat → Nat} {D E : Nat → Int} (h : Qb w g l X D) (h' : Qb w g l Y E) {k : Nat} {f : Fw} (hk : l[k]? = some f) : X k = Y k ∧ D k = E k := by
  obtain ⟨_, _, a2, a3⟩ := h.read hk
  obtain ⟨_, _, b2, b3⟩ := h'.read hk
  rw [a2] at b2
  rw [a3] at b3
  injection b2 with b2; injection b2 with _ b2
  injection b3 with b3; injection b3 with _ b3
  exact ⟨by omega, b3⟩
def Pm (g : Nat) (l : List Fw) (w : World) (m : Nat) : Prop := ∃ X D, Qb w g l X D ∧ ∀ k, RInv l m X D k
def Wt (g : Nat) (l : List Fw) (w : World) (m : Nat) : Prop := ∃ X D, Qb w g l X D ∧ (∀ k, RInv l m X D k) ∧ ∃ (k : Nat) (f : Fw), l[k]? = some f ∧ X k < f.z.length
theorem Wt.uniq {g : Nat} {l : List Fw} {w : World} {m n : Nat} (v : Flws (fls l)) (h : Wt g l w m) (h' : Pm g l w n) : m = n := by
  obtain ⟨X, D, q, i, k, f, hk, hx⟩ := h
  obtain ⟨Y, E, q', i'⟩ := h'
  obtain ⟨e1, e2⟩ := q.uniq q' hk
  have a := (i k f hk).2 hx
  have b := (i' k f hk).2 (by rw [← e1]; exact hx)
  rw [← e1, ← e2, a] at b
  have ok := v.ok k (by rw [length_fls]; exact (List.getElem?_eq_some_iff.1 hk).1)
  rw [flw_of hk] at ok
  have := mul_same (a := (m : Int)) (b := (n : Int)) (q := f.q) ok.q0 (by omega)
  omega
theorem Wt.pm {g : Nat} {l : List Fw} {w : World} {m : Nat} (h : Wt g l w m) : Pm g l w m := by
  obtain ⟨X, D, q, i, _⟩ := h
  exact ⟨X, D, q, i⟩
/-- A measure of the rounds that are left. -/
theorem ex_meas (g : Nat) (l : List Fw) (v : Flws (fls l)) : ∃ μ : World → Nat, (∀ w m, Wt g l w m → μ w = 60001 - m) ∧ ∀ w m, Pm g l w m → μ w ≤ 60001 - m := by
  have each : ∀ w : World, ∃ n : Nat, (∀ m, Wt g l w m → n = 60001 - m) ∧ ∀ m, Pm g l w m → n ≤ 60001 - m := fun w => by
    by_cases c : ∃ m, Wt g l w m
    · obtain ⟨m, hm⟩ := c
      exact ⟨60001 - m, fun n hn => by rw [hm.uniq v hn.pm], fun n hn => by rw [hm.uniq v hn]; exact Nat.le_refl _⟩
    · exact ⟨0, fun m hm => absurd ⟨m, hm⟩ c, fun _ _ => Nat.zero_le _⟩
  obtain ⟨μ, h⟩ := Classical.axiomOfChoice each
  exact ⟨μ, fun w m => (h w).1 m, fun w m => (h w).2 m⟩

/-- All packets, in the order in which they are sent. -/
def ordF (l : List Flw) : List Snd := ordL l 60000
theorem ordF_of {l : List Flw} (v : Flws l) {m : Nat} (h : AllSent l m) : ordL l m = ordF l := ord_same v h (all_sent v (Nat.le_refl _))
/-- What Run hands back. -/
def AnsR (L : List Snd) (E : Int) (w : World) (e : Ending) (w' : World) : Prop :=
  ∃ A c, e = .returned (.tuple #[.slice A L.length c, .int .i64 E]) ∧ w'.ownsRow w.heap.size 33 2 (.slice A L.length c) L.length (scs L) ∧ Below w.heap.size w w'
theorem own_form {w : World} {base n size : Nat} {e : TypeId} {v : Value} {xs : List Value} (h : w.ownsRow base e size v n xs) : ∃ A c, v = .slice A n c := by
  rcases h.2 with ⟨rfl, h0⟩ | ⟨g, cap, cur, rfl, _⟩
  · exact ⟨none, 0, by rw [h0]⟩
  · exact ⟨_, _, rfl⟩

set_option maxHeartbeats 3200000 in
theorem trun_yes (A : Option Addr) (l : List Fw) (n c : Nat) (w : World) (h : Fls w A l) (hE : Hid (flE (fls l) = 0)) (hn : n = l.length) :
    Calls Try.prog 9 #[.slice A n c] w (AnsR (ordF (fls l)) 0 w) := by
  subst hn
  have v := flE_iff.1 hE.out
  have h8 : l.length ≤ 8 := by have := v.le; rwa [length_fls] at this
  have zl : ∀ (k : Nat) (f : Fw), l[k]? = some f → f.z.length ≤ 60 := fun k f hk => by
    have ok := v.ok k (by rw [length_fls]; exact (List.getElem?_eq_some_iff.1 hk).1)
    rw [flw_of hk] at ok
    exact ok.sz.le
  obtain ⟨i0, hi0, hz0, hz1, hz2⟩ := info_parts sent_info
  go_enter Try.func9, Try.ntmps9
  go_wp2_with fail
  refine (tcheck_any A l c _ h).mono ?_
  rintro e w1 ⟨rfl, b1⟩
  rw [hE.out]
  have h1 := h.below b1
  go_wp2_with fail
  refine (fill_any A l c _ h1 h8).mono ?_
  rintro e w2 ⟨g, rfl, hg, hq, b2⟩
  have hlg := hq.lt
  obtain ⟨μ, m1, m2⟩ := ex_meas g l v
  have M1 := Lib.hid m1
  have M2 := Lib.hid m2
  have hb2 := below_trans b1 b2
  have hgw : w.heap.size ≤ g := Nat.le_trans b1.size hg
  clear m1 m2 hg b2
  go_wp2
  go_loopw [5] (fun s wr => ∃ (m : Nat) (X : Nat → Nat) (D : Nat → Int), Qb wr g l X D ∧ Hid (∀ k, RInv l m X D k) ∧ m ≤ 60000 ∧ wr.ownsRow w2.heap.size 33 2 s (ordL (fls l) m).length (scs (ordL (fls l) m)) ∧ w2.grownBy wr (some g)) (fun _ wr => μ wr)
  case atStart => exact ⟨0, _, _, hq, Lib.hid (fun k f hk => ⟨(cn_zero (by have ok := v.ok k (by rw [length_fls]; exact (List.getElem?_eq_some_iff.1 hk).1); rwa [flw_of hk] at ok)).symm, fun _ => by simp [sumV]⟩), by omega, World.ownsRow_nil _ _ _ _, grown_refl _ _⟩
  case round =>
    clear hq
    obtain ⟨m, X, D, hq, HI, hm, hown, hgr⟩ := hrel
    go_wp2_with fail
    refine (containsq_any g l X D _ hq h8 zl).mono ?_
    rintro e w3 ⟨hr, b3⟩
    have hq3 := hq.below b3
    have hown3 := own_bel hown b3
    have hgr3 := grown_below hgr b3
    rcases hr with ⟨rfl, hno⟩ | ⟨rfl, hyes⟩
    · have hall : AllSent (fls l) m := fun k hk => by
        rw [length_fls] at hk
        obtain ⟨f, hf⟩ : ∃ f, l[k]? = some f := ⟨_, List.getElem?_eq_getElem hk⟩
        have h1 := (HI.out k f hf).1
        have h2 := hno k f hf
        rw [flw_of hf]
        have := cn_le f.f m
        have h3 : f.f.z.length = f.z.length := rfl
        omega
      rw [ordF_of v hall] at hown3
      obtain ⟨Ax, cx, hs⟩ := own_form hown3
      have HS := Lib.hid hs
      have HO : Hid (w3.ownsRow w.heap.size 33 2 (.slice Ax (ordF (fls l)).length cx) (ordF (fls l)).length (scs (ordF (fls l)))) := Lib.hid (by rw [← hs]; exact own_lower hown3 hb2.size)
      have HBB : Hid (Below w.heap.size w w3) := Lib.hid (below_grown hb2 hgr3 hb2.size hgw)
      clear hs hown hown3 hno
      go_wp2
      go_ret2
      exact ⟨Ax, cx, by rw [HS.out]; rfl, HO.out, HBB.out⟩
    · have hwt : Wt g l wr m := ⟨X, D, hq, HI.out, hyes⟩
      have hm1 : m < 60000 := by
        obtain ⟨k, f, hk, hx⟩ := hyes
        have ok := v.ok k (by rw [length_fls]; exact (List.getElem?_eq_some_iff.1 hk).1)
        rw [flw_of hk] at ok
        rw [(HI.out k f hk).1] at hx
        exact wait_lt ok hx
      have HM : Hid (μ wr = 60001 - m) := Lib.hid (M1.out wr m hwt)
      clear hyes hwt
      go_wp2_with fail
      refine (round_any A g l m X D w w3 v h (below_grown hb2 hgr3 hb2.size hgw) hgw hq3 HI.out).mono ?_
      rintro e w4 ⟨x, X', D', rfl, ho4, hq4, hi4, hg4⟩
      have hown4 := hown3.kept hg4 (.inr (fun e => by have := (hown3.lt _ e).1; omega))
      have hgr4 := grown_trans hgr3 hg4 (fun k e => .inl (by injection e with e; exact e.symm))
      have rb := rnd_bd v m l.length (by rw [length_fls]; omega)
      have ob := ord_bd v m
      have lf : (fls l).length = l.length := length_fls l
      have hO : ordL (fls l) (m + 1) = ordL (fls l) m ++ rndL (fls l) m l.length := by rw [ordL, lf]
      have HO := Lib.hid hO
      have HI4 := Lib.hid hi4
      have hw34 := hg4.size
      have hw23 := hgr3.size
      rcases ho4.2 with ⟨rfl, h0⟩ | ⟨gg, cap, cur, rfl, hgg, _⟩
      · have hL : ordL (fls l) (m + 1) = ordL (fls l) m := by rw [hO, List.eq_nil_of_length_eq_zero h0, List.append_nil]
        rw [← hL] at hown4
        clear hO hL h0 hown3 hown hq hq3 ho4 hgr hgr3
        go_wp2_with (at_builtin; refine wpList_append_own_none rfl _ _ 23 rfl w2.heap.size 33 i0 2 Try.underlying23 hi0 _ _ _ rfl hown4 rfl ?_)
        go_wp2
        go_roundw
        case rel => exact ⟨m + 1, X', D', hq4, HI4, by omega, hown4, hgr4⟩
        case measure => have := M2.out w4 (m + 1) ⟨X', D', hq4, HI4.out⟩; rw [HM.out]; omega
      · have hc := fun j u hu => ho4.cells (g := gg) rfl j u hu
        clear hO hown3 hown hq hq3 hgr hgr3
        go_wp2_with (at_builtin; refine wpList_append_own _ rfl _ _ 23 rfl w2.heap.size 33 i0 (.agg #[.int .i64 0, .int .i64 0]) 2 16 Try.underlying23 hi0 hz0 hz1 hz2 rfl (by decide) _ _ _ rfl hown4 ⟨gg, 0, none⟩ (rndL (fls l) m l.length).length cap (scs (rndL (fls l) m l.length)) rfl (length_scs _) ?c1 ?c2 ?c3 ?c4 ?c5 ?_)
        case c1 => exact hc
        case c2 => exact scs_one _
        case c3 => unfold maxLen; omega
        case c4 => omega
        case c5 => omega
        intro v' w5 hown' hgrow _
        have hgr5 : w2.grownBy w5 (some g) := grown_trans hgr4 hgrow (fun k hk => .inr (hown4.lt k hk).1)
        have hq5 : Qb w5 g l X' D' := hq4.same (hgrow.block g hq4.lt (fun e => by have := (hown4.lt g e.symm).1; omega))
        have hown5 : w5.ownsRow w2.heap.size 33 2 v' (ordL (fls l) (m + 1)).length (scs (ordL (fls l) (m + 1))) := by rw [HO.out, scs_app, List.length_append]; exact hown'
        clear hown' hgrow hown4 hc ho4 hq4 hgr4
        go_wp2
        go_roundw
        case rel => exact ⟨m + 1, X', D', hq5, HI4, by omega, hown5, hgr5⟩
        case measure => have := M2.out w5 (m + 1) ⟨X', D', hq5, HI4.out⟩; rw [HM.out]; omega

set_option maxHeartbeats 800000 in
theorem trun_no (A : Option Addr) (l : List Fw) (c : Nat) (w : World) (h : Fls w A l) (hE : ¬ flE (fls l) = 0) :
    Calls Try.prog 9 #[.slice A l.length c] w (AnsR [] (flE (fls l)) w) := by
  have e1 : (flE (fls l) != 0) = true := by simp [hE]
  go_enter Try.func9, Try.ntmps9
  go_wp2_with fail
  refine (tcheck_any A l c _ h).mono ?_
  rintro e w1 ⟨rfl, b1⟩
  go_wp2
  go_ret2
  exact ⟨none, 0, rfl, World.ownsRow_nil _ _ _ _, b1⟩

theorem Sns.grown {w w' : World} {A : Option Addr} {l : List Snd} {g : Nat} (h : Sns w A l) (hg : w.grownBy w' (some g)) (hne : ∀ b off, A = some ⟨b, off, none⟩ → b ≠ g) : Sns w' A l := by
  refine ⟨h.1, fun hl => ?_⟩
  obtain ⟨b, off, rfl, hc⟩ := h.2 hl
  refine ⟨b, off, rfl, fun j p hj => ?_⟩
  obtain ⟨h0, h1⟩ := hc j p hj
  have e : w'.heap[b]? = w.heap[b]? := hg.block b (cell_lt h0) (fun e => hne b off rfl (by injection e))
  exact ⟨(World.cell?_of_block (a := ⟨b, _, none⟩) e).trans h0, (World.cell?_of_block (a := ⟨b, _, none⟩) e).trans h1⟩
theorem aft_zero {l : List Flw} (v : Flws l) : ((aftL l 0).map (Value.int .i64)).toArray = madeCells #[Value.int .i64 0] l.length := by
  rw [← rowAt_zero l.length (fun _ => 0)]
  have e : aftL l 0 = tab l.length (fun _ => 0) := by
    refine list_ext (by rw [aftL, length_tab, length_tab]) (fun i hi => ?_)
    rw [aftL, length_tab] at hi
    rw [aftL, gt_tab _ hi, gt_tab _ hi, aft, cn_zero (v.ok i hi)]; rfl
  rw [e]
  congr 1
  have : ∀ n : Nat, (tab n (fun _ => (0 : Int))).map (Value.int .i64) = List.replicate n (.int .i64 0) := fun n => by
    induction n with
    | zero => rfl
    | succ n ih => rw [tab_succ, List.map_append, ih, List.replicate_succ']; rfl
  rw [this, rowAt, tab_zero]; rfl
set_option maxHeartbeats 3200000 in
theorem aft_yes (A : Option Addr) (l : List Fw) (x : List Int) (n c m : Nat) (w : World) (h : Fls w A l) (hE : Hid (flE (fls l) = 0)) (hm : m ≤ 1000) (hx : Hid (aftL (fls l) m = x)) (hn : n = l.length) :
    Calls Try.prog 10 #[.slice A n c, .int .i64 m] w (Ans x 0 w) := by
  subst hn
  have v := flE_iff.1 hE.out
  have h8 : l.length ≤ 8 := by have := v.le; rwa [length_fls] at this
  have q1 : Hid (decide ((m : Int) < 0 ∨ 1000 < (m : Int)) = false) := Lib.hid (decide_eq_false (by omega))
  have hmk := fun W => run_make_row' (P := Try.prog) 27 3 (.int .i64 0) 8 Try.underlying27 int_info rfl .i64 .i64 l.length (by omega) (by omega) W
  have lf : (fls l).length = l.length := length_fls l
  have LF := Lib.hid lf
  clear lf
  go_enter Try.func10, Try.ntmps10
  go_wp2_with fail
  refine (tcheck_any A l c _ h).mono ?_
  rintro e w1 ⟨rfl, b1⟩
  rw [hE.out]
  have h1 := h.below b1
  go_wp2_with fail
  refine (lim_any m 0 1000 false _ q1).mono ?_
  rintro e w' ⟨rfl, rfl⟩
  go_wp2_with fail
  refine (fill_any A l c _ (h1.alloc _) h8).mono ?_
  rintro e w2 ⟨g, rfl, hg, hq, b2⟩
  have Bo := (Blk.new w1 3 (madeCells #[Value.int .i64 0] l.length)).below b2
  have hlg := hq.lt
  have hb2 := below_trans b1 (below_of1 b2)
  obtain ⟨go, hgo⟩ : ∃ go, go = w1.heap.size := ⟨_, rfl⟩
  rw [← hgo] at Bo ⊢
  have gne : go < g := by have : (w1.alloc (.cells (madeCells #[Value.int .i64 0] l.length) 3)).heap.size = w1.heap.size + 1 := by simp
                          omega
  have hgw : w.heap.size ≤ go := by rw [hgo]; exact b1.size
  clear hg b2 hgo b1 h1
  go_wp2
  go_loopw [24] (fun i wr => ∃ (k : Nat) (X : Nat → Nat) (D : Nat → Int), k ≤ m ∧ i = .int .i64 k ∧ Qb wr g l X D ∧ Hid (∀ j, RInv l k X D j) ∧ Blk wr go 3 ((aftL (fls l) k).map (Value.int .i64)).toArray ∧ Below w.heap.size w wr) (fun i _ => m - (intOf i).toNat)
  case atStart =>
    refine ⟨0, _, _, Nat.zero_le _, rfl, hq, Lib.hid (fun k f hk => ⟨(cn_zero (by have ok := v.ok k (by rw [length_fls]; exact (List.getElem?_eq_some_iff.1 hk).1); rwa [flw_of hk] at ok)).symm, fun _ => by simp [sumV]⟩), ?_, hb2⟩
    rw [← LF.out, ← aft_zero v] at Bo
    exact Bo
  case round =>
    clear hq Bo hb2
    obtain ⟨k, X, D, hk, rfl, hq, HI, Bo, hbel⟩ := hrel
    by_cases hlt : k < m
    · have i1 : (k : Int) < (m : Int) := by omega
      go_wp2_with fail
      refine (round_any A g l k X D w wr v h hbel (by omega) hq HI.out).mono ?_
      rintro e w4 ⟨x, X', D', rfl, ho4, hq4, hi4, hg4⟩
      obtain ⟨R, hR⟩ : ∃ R, R = rndL (fls l) k l.length := ⟨_, rfl⟩
      have rb := rnd_bd v k l.length (by rw [length_fls]; omega)
      rw [← hR] at ho4 rb
      obtain ⟨Ar, cr, hs⟩ := own_form ho4
      subst hs
      have hr := Sns.of_own ho4
      have HR := Lib.hid hR
      have HI4 := Lib.hid hi4
      have Bo4 : Blk w4 go 3 ((aftL (fls l) k).map (Value.int .i64)).toArray := Bo.same (hg4.block go Bo.lt (fun e => by injection e with e; omega))
      have hb4 : Below w.heap.size w w4 := below_grown hbel hg4 hbel.size (by omega)
      have hne : ∀ b off, Ar = some ⟨b, off, none⟩ → b ≠ go := fun b off e => by
        have := (ho4.lt b (by rw [e]; rfl)).1
        have := Bo.lt
        omega
      have HNE := Lib.hid hne
      clear hne
      have HB4 : Hid (Blk w4 go 3 ((tab l.length (aft (fls l) (midC (fls l) k 0))).map (Value.int .i64)).toArray) := Lib.hid (by
        rw [show tab l.length (aft (fls l) (midC (fls l) k 0)) = aftL (fls l) k by rw [aftL, LF.out, ← LF.out]; exact aft_mid (fun i _ => mid_zero _ _ _)]
        exact Bo4)
      have rl : (rndL (fls l) k (fls l).length) = R := by rw [LF.out, hR]
      have HRL := Lib.hid rl
      clear ho4 hg4 Bo hbel hq hR hi4 Bo4 rl
      go_wp2
      go_loopw [29] (fun i wi => ∃ p : Nat, p ≤ R.length ∧ i = .int .i64 p ∧ Blk wi go 3 ((tab l.length (aft (fls l) (midC (fls l) k p))).map (Value.int .i64)).toArray ∧ w4.grownBy wi (some go)) (fun i _ => R.length - (intOf i).toNat)
      case atStart => exact ⟨0, Nat.zero_le _, rfl, HB4.out, grown_refl _ _⟩
      case round =>
        clear HB4
        obtain ⟨p, hp, rfl, Bo, hgr⟩ := hrel
        have hbw : Below w.heap.size w wr := below_grown hb4 hgr hb4.size hgw
        by_cases hpl : p < R.length
        · have i2 : (p : Int) < (R.length : Int) := by omega
          obtain ⟨b1, o1, s, hA1, hb1, c0, c1, HS⟩ := (hr.grown hgr HNE.out).get hpl
          subst hA1
          obtain ⟨n1, n2, n3, n4⟩ := mid_next v (m := k) (p := p) (s := s) (by rw [HRL.out]; exact HS.out)
          rw [LF.out] at n1
          obtain ⟨bb, off, f, hA2, hbb, d0, d1, iz, kz, HP⟩ := (h.below hbw).get n1
          subst hA2
          rw [flw_of HP.out] at n3
          obtain ⟨b2, o2, z, e2, hc2, HZ⟩ := iz.at_ (k := s.2) n3
          have hz := gt_of_get HZ.out
          have fo : FlwOk f.f := by
            have := v.ok s.1 (by rw [LF.out]; exact n1)
            rwa [flw_of HP.out] at this
          have z0 : 0 ≤ z := by rw [← hz]; have := fo.sz.lo s.2 n3; exact Int.le_trans (by decide) this
          have z1 : z ≤ 1000 := by rw [← hz]; exact fo.sz.hi s.2 n3
          obtain ⟨y, hy⟩ : ∃ y, y = aft (fls l) (midC (fls l) k p) s.1 := ⟨_, rfl⟩
          have yb := aft_bd v (i := s.1) (by rw [LF.out]; exact n1) (c := midC (fls l) k p) (by rw [← n2, flw_of HP.out]; exact Nat.le_of_lt n3)
          rw [← hy] at yb
          obtain ⟨y0, y1⟩ := yb
          have hcy : wr.cell? ⟨go, s.1, none⟩ = some (.int .i64 y) := by
            rw [Bo.cell]
            simp only [List.getElem?_toArray, List.getElem?_map]
            rw [get_tab _ n1, ← hy]; rfl
          have fz := Bo.frozen s.1
          have HZ2 : Hid ((tab l.length (aft (fls l) (midC (fls l) k p))).set s.1 (y + z) = tab l.length (aft (fls l) (midC (fls l) k (p + 1)))) := Lib.hid (by
            have := aft_set (l := fls l) (c := midC (fls l) k p) (d := midC (fls l) k (p + 1)) (k := s.1) (by rw [LF.out]; exact n1) n4
            rw [LF.out, ← n2, flw_of HP.out, ← hy] at this
            rw [← this, ← hz]; rfl)
          obtain ⟨si, hsi⟩ : ∃ x, x = s.1 := ⟨_, rfl⟩
          obtain ⟨sj, hsj⟩ : ∃ x, x = s.2 := ⟨_, rfl⟩
          rw [← hsi] at c0 d0 d1 hcy fz HZ2 n1
          rw [← hsj] at c1 hc2 n3
          have n3' : sj < f.z.length := n3
          have hgol := Bo.lt
          have hb2l := cell_lt hc2
          obtain ⟨W, hW⟩ : ∃ W, W = wr.alloc (.cells #[.int .i64 si, .int .i64 sj] 33) := ⟨_, rfl⟩
          have hWb : Below wr.heap.size wr W := by rw [hW]; exact (Below.refl _ _).alloc (Nat.le_refl _) _
          have BoW := Bo.below hWb
          have hgrW := grown_below hgr hWb
          have HBn : Hid (Blk ((W.setCell ⟨go, si, none⟩ (.int .i64 (y + z))).drew) go 3 ((tab l.length (aft (fls l) (midC (fls l) k (p + 1)))).map (Value.int .i64)).toArray) := Lib.hid (by
            have := BoW.set_ si (.int .i64 (y + z))
            rw [← HZ2.out, List.map_set]
            simp at this
            exact this)
          have HGn : Hid (w4.grownBy ((W.setCell ⟨go, si, none⟩ (.int .i64 (y + z))).drew) (some go)) := Lib.hid (by
            have q := grown_set hgrW si (.int .i64 (y + z))
            exact ⟨q.os, q.tape, q.output, q.size, q.block⟩)
          rw [e2] at d1
          have t0 : W.cell? ⟨wr.heap.size, 0, none⟩ = some (.int .i64 si) := by rw [hW]; exact (two_read (Blk.new _ _ _)).1
          have t1 : W.cell? ⟨wr.heap.size, 1, none⟩ = some (.int .i64 sj) := by rw [hW]; exact (two_read (Blk.new _ _ _)).2
          have d0' := (hWb.cell (p := ⟨bb, off + si * 2, none⟩) hbb).trans d0
          have d1' := (hWb.cell (p := ⟨bb, off + si * 2 + 1, none⟩) hbb).trans d1
          have hc2' := (hWb.cell (p := ⟨b2, o2 + sj, none⟩) hb2l).trans hc2
          have hcy' := (hWb.cell (p := ⟨go, si, none⟩) hgol).trans hcy
          have fz' := BoW.frozen si
          have s1 : IntKind.i64.wrap (y + z) = y + z := IntWalk.i64_in _ ⟨by omega, by omega⟩
          have j1 : (si : Int) < (l.length : Int) := by omega
          have j2 : (sj : Int) < (f.z.length : Int) := by omega
          have HW := Lib.hid hW
          clear hz hy n2 n4 hsi hsj HS HP Bo hgr n3 BoW hgrW hWb hW d0 d1 hc2 hcy fz e2 iz kz hbw HZ fo
          go_wp2
          rw [← HW.out]
          go_region
          go_wp2
          go_roundw
          case rel => exact ⟨p + 1, by omega, by go_num, HBn.out, HGn.out⟩
          case measure => simp [intOf]; omega
        · obtain rfl : p = R.length := by omega
          have hB : Blk wr go 3 ((aftL (fls l) (k + 1)).map (Value.int .i64)).toArray := by
            rw [show aftL (fls l) (k + 1) = tab l.length (aft (fls l) (midC (fls l) k R.length)) by rw [aftL, LF.out, ← LF.out]; exact aft_mid (fun i hi => by rw [← HRL.out, mid_full v k i hi])]
            exact Bo
          have hq5 : Qb wr g l X' D' := hq4.same (hgr.block g hq4.lt (fun e => by injection e with e; omega))
          clear Bo
          go_wp2
          go_roundw
          case rel => exact ⟨k + 1, X', D', by omega, by go_num, hq5, HI4, hB, hbw⟩
          case measure => simp [intOf]; omega
    · obtain rfl : k = m := by omega
      go_wp2
      have o0 := own_of_blk (n := l.length) Bo hgw (by rw [aftL, length_tab, LF.out]) (by omega)
      have la : (aftL (fls l) k).length = l.length := by rw [aftL, length_tab, LF.out]
      rw [hx.out] at o0 la
      go_ret2
      exact ⟨some ⟨go, 0, none⟩, l.length, by rw [la]; rfl, by rw [la]; rw [la] at o0; exact o0, hbel⟩

end Go.Proofs.Ythjeokdabdjhfaa
