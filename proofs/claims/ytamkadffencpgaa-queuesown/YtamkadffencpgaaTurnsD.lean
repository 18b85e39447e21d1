
/-
  Walks: turns.Run, turns.After.
-/
import Derived.Test.YtamkadffencpgaaTurnsC
import Derived.Test.YtamkadffencpgaaTurnsS
import Derived.Test.YtamkadffencpgaaPointB
import Derived.Laws.AppendOwnNone
namespace Go.Proofs.Ytamkadffencpgaa
set_option linter.all false
open Go.RowKit Go.Shelf

/-- The cells say how far the queues are. -/
theorem Qb.uniq {w : World} {g : Nat} {l : List Fw} {X Y : Nat → Nat} {D E : Nat → Int} (h : Qb w g l X D) (h' : Qb w g l Y E) {k : Nat} {f : Fw} (hk : l[k]? = some f) : X k = Y k ∧ D k = E k := by
  obtain ⟨_, _, a2, a3⟩ := h.read hk
  obtain ⟨_, _, b2, b3⟩ := h'.read hk
  rw [a2] at b2
  rw [a3] at b3
  injection b2 with b2; injection b2 with _ b2
  injection b3 with b3; injection b3 with _ b3
  exact ⟨by omega, b3⟩
def Pm (g : Nat) (l : List Fw) (w : World) (m : Nat) : Prop := ∃ X D, Qb w g l X D ∧ ∀ k, RInv l m X D k
def Wt (g : Nat) (l : List Fw) (w : World) (m : Nat) : Prop := ∃ X D, Qb w g l X D ∧ (∀ k, RInv l m X D k) ∧ ∃ (k : Nat) (f : Fw), l[k]? = some f ∧ X k < f.z.length
theorem Wt.uniq {g : Nat} {l : List Fw} {w : World} {m n : Nat} (v : Flws (fls l)) (h : Wt g l w m) (h' : Pm g l w n) : m = n := by
  obtain ⟨X, D, q, i, k, f, hk, hx⟩ := h
  obtain ⟨Y, E, q', i'⟩ := h'
  obtain ⟨e1, e2⟩ := q.uniq q' hk
  have a := (i k f hk).2 hx
  have b := (i' k f hk).2 (by rw [← e1]; exact hx)
  rw [← e1, ← e2, a] at b
  have ok := v.ok k (by rw [length_fls]; exact (List.getElem?_eq_some_iff.1 hk).1)
  rw [flw_of hk] at ok
  have := mul_same (a := (m : Int)) (b := (n : Int)) (q := f.q) ok.q0 (by omega)
  omega
theorem Wt.pm {g : Nat} {l : List Fw} {w : World} {m : Nat} (h : Wt g l w m) : Pm g l w m := by
  obtain ⟨X, D, q, i, _⟩ := h
  exact ⟨X, D, q, i⟩
/-- A measure of the rounds that are left. -/
theorem ex_meas (g : Nat) (l : List Fw) (v : Flws (fls l)) : ∃ μ : World → Nat, (∀ w m, Wt g l w m → μ w = 60001 - m) ∧ ∀ w m, Pm g l w m → μ w ≤ 60001 - m := by
  have each : ∀ w : World, ∃ n : Nat, (∀ m, Wt g l w m → n = 60001 - m) ∧ ∀ m, Pm g l w m → n ≤ 60001 - m := fun w => by
    by_cases c : ∃ m, Wt g l w m
    · obtain ⟨m, hm⟩ := c
      exact ⟨60001 - m, fun n hn => by rw [hm.uniq v hn.pm], fun n hn => by rw [hm.uniq v hn]; exact Nat.le_refl _⟩
    · exact ⟨0, fun m hm => absurd ⟨m, hm⟩ c, fun _ _ => Nat.zero_le _⟩
  obtain ⟨μ, h⟩ := Classical.axiomOfChoice each
  exact ⟨μ, fun w m => (h w).1 m, fun w m => (h w).2 m⟩

/-- All packets, in the order in which they are sent. -/
def ordF (l : List Flw) : List Snd := ordL l 60000
theorem ordF_of {l : List Flw} (v : Flws l) {m : Nat} (h : AllSent l m) : ordL l m = ordF l := ord_same v h (all_sent v (Nat.le_refl _))
/-- What Run hands back. -/
def AnsR (L : List Snd) (E : Int) (w : World) (e : Ending) (w' : World) : Prop :=
  ∃ A c, e = .returned (.tuple #[.slice A L.length c, .int .i64 E]) ∧ w'.ownsRow w.heap.size 60 2 (.slice A L.length c) L.length (scs L) ∧ Below w.heap.size w w'
theorem own_form {w : World} {base n size : Nat} {e : TypeId} {v : Value} {xs : List Value} (h : w.ownsRow base e size v n xs) : ∃ A c, v = .slice A n c := by
  rcases h.2 with ⟨rfl, h0⟩ | ⟨g, cap, cur, rfl, _⟩
  · exact ⟨none, 0, by rw [h0]⟩
  · exact ⟨_, _, rfl⟩

set_option maxRecDepth 100000 in
set_option maxHeartbeats 3200000 in
theorem trun_yes (A : Option Addr) (l : List Fw) (n c : Nat) (w : World) (h : Fls w A l) (hE : Hid (flE (fls l) = 0)) (hn : n = l.length) :
    Calls Try.prog 22 #[.slice A n c] w (AnsR (ordF (fls l)) 0 w) := by
  subst hn
  have v := flE_iff.1 hE.out
  have h8 : l.length ≤ 8 := by have := v.le; rwa [length_fls] at this
  have zl : ∀ (k : Nat) (f : Fw), l[k]? = some f → f.z.length ≤ 60 := fun k f hk => by
    have ok := v.ok k (by rw [length_fls]; exact (List.getElem?_eq_some_iff.1 hk).1)
    rw [flw_of hk] at ok
    exact ok.sz.le
  obtain ⟨i0, hi0, hz0, hz1, hz2⟩ := info_parts sent_info
  go_enter Try.func22, Try.ntmps22
  go_wp2_with fail
  refine (tcheck_any A l c _ h).mono ?_
  rintro e w1 ⟨rfl, b1⟩
  rw [hE.out]
  have h1 := h.below b1
  go_wp2_with fail
  refine (fill_any A l c _ h1 h8).mono ?_
  rintro e w2 ⟨g, rfl, hg, hq, b2⟩
  have hlg := hq.lt
  obtain ⟨μ, m1, m2⟩ := ex_meas g l v
  have M1 := Lib.hid m1
  have M2 := Lib.hid m2
  have hb2 := below_trans b1 b2
  have hgw : w.heap.size ≤ g := Nat.le_trans b1.size hg
  clear m1 m2 hg b2
  go_wp2
  go_loopw [5] (fun s wr => ∃ (m : Nat) (X : Nat → Nat) (D : Nat → Int), Qb wr g l X D ∧ Hid (∀ k, RInv l m X D k) ∧ m ≤ 60000 ∧ wr.ownsRow w2.heap.size 60 2 s (ordL (fls l) m).length (scs (ordL (fls l) m)) ∧ w2.grownBy wr (some g)) (fun _ wr => μ wr)
  case atStart => exact ⟨0, _, _, hq, Lib.hid (fun k f hk => ⟨(cn_zero (by have ok := v.ok k (by rw [length_fls]; exact (List.getElem?_eq_some_iff.1 hk).1); rwa [flw_of hk] at ok)).symm, fun _ => by simp [sumV]⟩), by omega, World.ownsRow_nil _ _ _ _, grown_refl _ _⟩
  case round =>
    clear hq
    obtain ⟨m, X, D, hq, HI, hm, hown, hgr⟩ := hrel
    go_wp2_with fail
    refine (containsq_any g l X D _ hq h8 zl).mono ?_
    rintro e w3 ⟨hr, b3⟩
    have hq3 := hq.below b3
    have hown3 := own_bel hown b3
    have hgr3 := grown_below hgr b3
    rcases hr with ⟨rfl, hno⟩ | ⟨rfl, hyes⟩
    · have hall : AllSent (fls l) m := fun k hk => by
        rw [length_fls] at hk
        obtain ⟨f, hf⟩ : ∃ f, l[k]? = some f := ⟨_, List.getElem?_eq_getElem hk⟩
        have h1 := (HI.out k f hf).1
        have h2 := hno k f hf
        rw [flw_of hf]
        have := cn_le f.f m
        have h3 : f.f.z.length = f.z.length := rfl
        omega
      rw [ordF_of v hall] at hown3
      obtain ⟨Ax, cx, hs⟩ := own_form hown3
      have HS := Lib.hid hs
      have HO : Hid (w3.ownsRow w.heap.size 60 2 (.slice Ax (ordF (fls l)).length cx) (ordF (fls l)).length (scs (ordF (fls l)))) := Lib.hid (by rw [← hs]; exact own_lower hown3 hb2.size)
      have HBB : Hid (Below w.heap.size w w3) := Lib.hid (below_grown hb2 hgr3 hb2.size hgw)
      clear hs hown hown3 hno
      go_wp2
      go_ret2
      exact ⟨Ax, cx, by rw [HS.out]; rfl, HO.out, HBB.out⟩
    · have hwt : Wt g l wr m := ⟨X, D, hq, HI.out, hyes⟩
      have hm1 : m < 60000 := by
        obtain ⟨k, f, hk, hx⟩ := hyes
        have ok := v.ok k (by rw [length_fls]; exact (List.getElem?_eq_some_iff.1 hk).1)
        rw [flw_of hk] at ok
        rw [(HI.out k f hk).1] at hx
        exact wait_lt ok hx
      have HM : Hid (μ wr = 60001 - m) := Lib.hid (M1.out wr m hwt)
      clear hyes hwt
      go_wp2_with fail
      refine (round_any A g l m X D w w3 v h (below_grown hb2 hgr3 hb2.size hgw) hgw hq3 HI.out).mono ?_
      rintro e w4 ⟨x, X', D', rfl, ho4, hq4, hi4, hg4⟩
      have hown4 := hown3.kept hg4 (.inr (fun e => by have := (hown3.lt _ e).1; omega))
      have hgr4 := grown_trans hgr3 hg4 (fun k e => .inl (by injection e with e; exact e.symm))
      have rb := rnd_bd v m l.length (by rw [length_fls]; omega)
      have ob := ord_bd v m
      have lf : (fls l).length = l.length := length_fls l
      have hO : ordL (fls l) (m + 1) = ordL (fls l) m ++ rndL (fls l) m l.length := by rw [ordL, lf]
      have HO := Lib.hid hO
      have HI4 := Lib.hid hi4
      have hw34 := hg4.size
      have hw23 := hgr3.size
      rcases ho4.2 with ⟨rfl, h0⟩ | ⟨gg, cap, cur, rfl, hgg, _⟩
      · have hL : ordL (fls l) (m + 1) = ordL (fls l) m := by rw [hO, List.eq_nil_of_length_eq_zero h0, List.append_nil]
        rw [← hL] at hown4
        clear hO hL h0 hown3 hown hq hq3 ho4 hgr hgr3
        go_wp2_with (at_builtin; refine wpList_append_own_none rfl _ _ 50 rfl w2.heap.size 60 i0 2 Try.underlying50 hi0 _ _ _ rfl hown4 rfl ?_)
        go_wp2
        go_roundw
        case rel => exact ⟨m + 1, X', D', hq4, HI4, by omega, hown4, hgr4⟩
        case measure => have := M2.out w4 (m + 1) ⟨X', D', hq4, HI4.out⟩; rw [HM.out]; omega
      · have hc := fun j u hu => ho4.cells (g := gg) rfl j u hu
        clear hO hown3 hown hq hq3 hgr hgr3
        go_wp2_with (at_builtin; refine wpList_append_own _ rfl _ _ 50 rfl w2.heap.size 60 i0 (.agg #[.int .i64 0, .int .i64 0]) 2 16 Try.underlying50 hi0 hz0 hz1 hz2 rfl (by decide) _ _ _ rfl hown4 ⟨gg, 0, none⟩ (rndL (fls l) m l.length).length cap (scs (rndL (fls l) m l.length)) rfl (length_scs _) ?c1 ?c2 ?c3 ?c4 ?c5 ?_)
        case c1 => exact hc
        case c2 => exact scs_one _
        case c3 => unfold maxLen; omega
        case c4 => omega
        case c5 => omega
        intro v' w5 hown' hgrow _
        have hgr5 : w2.grownBy w5 (some g) := grown_trans hgr4 hgrow (fun k hk => .inr (hown4.lt k hk).1)
        have hq5 : Qb w5 g l X' D' := hq4.same (hgrow.block g hq4.lt (fun e => by have := (hown4.lt g e.symm).1; omega))
        have hown5 : w5.ownsRow w2.heap.size 60 2 v' (ordL (fls l) (m + 1)).length (scs (ordL (fls l) (m + 1))) := by rw [HO.out, scs_app, List.length_append]; exact hown'
        clear hown' hgrow hown4 hc ho4 hq4 hgr4
        go_wp2
        go_roundw
        case rel => exact ⟨m + 1, X', D', hq5, HI4, by omega, hown5, hgr5⟩
        case measure => have := M2.out w5 (m + 1) ⟨X', D', hq5, HI4.out⟩; rw [HM.out]; omega

set_option maxHeartbeats 800000 in
theorem trun_no (A : Option Addr) (l : List Fw) (c : Nat) (w : World) (h : Fls w A l) (hE : ¬ flE (fls l) = 0) :
    Calls Try.prog 22 #[.slice A l.length c] w (AnsR [] (flE (fls l)) w) := by
  have e1 : (flE (fls l) != 0) = true := by simp [hE]
  go_enter Try.func22, Try.ntmps22
  go_wp2_with fail
  refine (tcheck_any A l c _ h).mono ?_
  rintro e w1 ⟨rfl, b1⟩
  go_wp2
  go_ret2
  exact ⟨none, 0, rfl, World.ownsRow_nil _ _ _ _, b1⟩

theorem Sns.grown {w w' : World} {A : Option Addr} {l : List Snd} {g : Nat} (h : Sns w A l) (hg : w.grownBy w' (some g)) (hne : ∀ b off, A = some ⟨b, off, none⟩ → b ≠ g) : Sns w' A l := by
  refine ⟨h.1, fun hl => ?_⟩
  obtain ⟨b, off, rfl, hc⟩ := h.2 hl
  refine ⟨b, off, rfl, fun j p hj => ?_⟩
  obtain ⟨h0, h1⟩ := hc j p hj
  have e : w'.heap[b]? = w.heap[b]? := hg.block b (cell_lt h0) (fun e => hne b off rfl (by injection e))
  exact ⟨(World.cell?_of_block (a := ⟨b, _, none⟩) e).trans h0, (World.cell?_of_block (a := ⟨b, _, none⟩) e).trans h1⟩
theorem aft_zero {l : List Flw} (v : Flws l) : ((aftL l 0).map (Value.int .i64)).toArray = madeCells #[Value.int .i64 0] l.length := by
  rw [← rowAt_zero l.length (fun _ => 0)]
  have e : aftL l 0 = tab l.length (fun _ => 0) := by
    refine list_ext (by rw [aftL, length_tab, length_tab]) (fun i hi => ?_)
    rw [aftL, length_tab] at hi
    rw [aftL, gt_tab _ hi, gt_tab _ hi, aft, cn_zero (v.ok i hi)]; rfl
  rw [e]
  congr 1
  have : ∀ n : Nat, (tab n (fun _ => (0 : Int))).map (Value.int .i64) = List.replicate n (.int .i64 0) := fun n => by
    induction n with
    | zero => rfl
    | succ n ih => rw [tab_succ, List.map_append, ih, List.replicate_succ']; rfl
  rw [this, rowAt, tab_zero]; rfl
end Go.Proofs.Ytamkadffencpgaa
