
/-
  Walks: line.Run, line.Busy.
-/
import Derived.Test.YthngolnflogdnaaLineQ
import Derived.Test.YthngolnflogdnaaBucketA
import Derived.Test.YthngolnflogdnaaAptA
import Derived.Test.YthngolnflogdnaaTraceA
import Derived.Deep.DeepCutAuto
namespace Go.Proofs.Ythngolnflogdnaa
set_option linter.all false
open Go.RowKit Go.Shelf

/-- What Run answers: the error, and the two lists. -/
def linE (l : List Int) (r : Int) : Int := if trk l ≠ 0 then trk l else if r < 0 ∨ 10000 < r then 1 else 0
def linG (l : List Int) (r : Int) : List Int := if linE l r = 0 then goL l r else []
def linW (l : List Int) (r : Int) : List Int := if linE l r = 0 then waL l r else []
theorem lin_ok {l : List Int} {r : Int} (h : linE l r = 0) : Tr l ∧ 0 ≤ r ∧ r ≤ 10000 := by
  unfold linE at h
  by_cases h1 : trk l = 0
  · rw [if_neg (by simpa using h1)] at h
    by_cases h2 : r < 0 ∨ 10000 < r
    · rw [if_pos h2] at h; omega
    · exact ⟨trk_iff.1 h1, by omega, by omega⟩
  · rw [if_pos h1] at h; omega
theorem lin_of {l : List Int} {r : Int} (v : Tr l) (r0 : 0 ≤ r) (r1 : r ≤ 10000) : linE l r = 0 := by
  rw [linE, if_neg (by simpa using trk_iff.2 v), if_neg (by omega)]
theorem linG_yes {l : List Int} {r : Int} (h : linE l r = 0) : linG l r = goL l r := by rw [linG, if_pos h]
theorem linW_yes {l : List Int} {r : Int} (h : linE l r = 0) : linW l r = waL l r := by rw [linW, if_pos h]
theorem linG_no {l : List Int} {r : Int} (h : ¬ linE l r = 0) : linG l r = [] := by rw [linG, if_neg h]
theorem linW_no {l : List Int} {r : Int} (h : ¬ linE l r = 0) : linW l r = [] := by rw [linW, if_neg h]

theorem two_made (w : World) (t : TypeId) (cs : Array Value) : Blk ((w.alloc (.cells cs t)).alloc (.cells cs t)).drew w.heap.size t cs ∧ Blk ((w.alloc (.cells cs t)).alloc (.cells cs t)).drew (w.heap.size + 1) t cs ∧ Below w.heap.size w ((w.alloc (.cells cs t)).alloc (.cells cs t)).drew := by
  refine ⟨(Blk.new w t cs).alloc _, ?_, ?_⟩
  · have := Blk.new (w.alloc (.cells cs t)) t cs
    have e : (w.alloc (.cells cs t)).heap.size = w.heap.size + 1 := by simp
    rw [e] at this
    exact this
  · have := ((Below.refl w.heap.size w).alloc (Nat.le_refl _) (.cells cs t)).alloc (by simp) (.cells cs t)
    exact ⟨this.os, this.tape, this.output, this.size, this.block⟩

set_option maxHeartbeats 1600000 in
theorem lrun_any (A : Option Addr) (l : List Int) (c : Nat) (r : Int) (w : World) (h : Ints w A l) :
    Calls Try.prog 21 #[.slice A l.length c, .int .i64 r] w (Ans3 (linG l r) (linW l r) (linE l r) w) := by
  by_cases h1 : trk l = 0
  · by_cases h2 : r < 0 ∨ 10000 < r
    · have HE : Hid (linE l r = 1) := Lib.hid (by rw [linE, if_neg (by simpa using h1), if_pos h2])
      have HG : Hid (linG l r = []) := Lib.hid (linG_no (by rw [HE.out]; decide))
      have HW : Hid (linW l r = []) := Lib.hid (linW_no (by rw [HE.out]; decide))
      have e1 : (trk l != 0) = false := by simp [h1]
      have q1 := lim_yes h2
      clear h1 h2
      go_enter Try.func21, Try.ntmps21
      go_wp2_with fail
      refine (trCheck_any A l c _ h).mono ?_
      rintro e w' ⟨rfl, rfl⟩
      go_wp2_with fail
      refine (lim_any r 0 10000 true _ q1).mono ?_
      rintro e w' ⟨rfl, rfl⟩
      go_wp2
      exact bodyPost_ret (v := .tuple #[.slice none 0 0, .slice none 0 0, .int .i64 1]) (by simp [results, Try.results21, go_sem]) rfl ⟨none, 0, none, 0, by rw [HG.out, HW.out, HE.out]; rfl, by rw [HG.out]; exact World.ownsRow_nil _ _ _ _, by rw [HW.out]; exact World.ownsRow_nil _ _ _ _, (fun g a => by cases a), Below.refl _ _⟩
    · have v := trk_iff.1 h1
      have r0 : 0 ≤ r := by omega
      have r1 : r ≤ 10000 := by omega
      have hle := v.le
      have hE := lin_of v r0 r1
      have HE := Lib.hid hE
      have HG : Hid (linG l r = tab l.length (goV l r)) := Lib.hid (by rw [linG_yes hE]; rfl)
      have HW : Hid (linW l r = tab l.length (fun t => waV l r (t + 1))) := Lib.hid (by rw [linW_yes hE]; rfl)
      have e1 : (trk l != 0) = false := by simp [h1]
      have q1 : Hid (decide (r < 0 ∨ 10000 < r) = false) := Lib.hid (decide_eq_false h2)
      have hmk := fun W => run_make_row' (P := Try.prog) 22 3 (.int .i64 0) 8 Try.underlying22 int_info rfl .i64 .i64 l.length (by omega) (by omega) W
      clear h1 h2 hE
      go_enter Try.func21, Try.ntmps21
      go_wp2_with fail
      refine (trCheck_any A l c _ h).mono ?_
      rintro e w' ⟨rfl, rfl⟩
      go_wp2_with fail
      refine (lim_any r 0 10000 false _ q1).mono ?_
      rintro e w' ⟨rfl, rfl⟩
      go_upto_region 6 with fail
      go_cut [8, 9] (fun s8 s9 wx => ∃ g g' : Nat, s8 = .slice (some ⟨g, 0, none⟩) l.length l.length ∧ s9 = .slice (some ⟨g', 0, none⟩) l.length l.length ∧ Blk wx g 3 (madeCells #[Value.int .i64 0] l.length) ∧ Blk wx g' 3 (madeCells #[Value.int .i64 0] l.length) ∧ ¬ g = g' ∧ w.heap.size ≤ g ∧ w.heap.size ≤ g' ∧ Below w.heap.size w wx)
      case first =>
        go_region
        all_goals
          go_wp2_with fail
          go_meet
        · obtain ⟨m0, m1, m2⟩ := two_made w 3 (madeCells #[Value.int .i64 0] l.length)
          exact ⟨_, _, rfl, rfl, m0, m1, by omega, Nat.le_refl _, by omega, m2⟩
        · obtain ⟨m0, m1, m2⟩ := two_made w 3 (madeCells #[Value.int .i64 0] l.length)
          exact ⟨_, _, rfl, rfl, m1, m0, by omega, by omega, Nat.le_refl _, m2⟩
      case rest =>
      obtain ⟨g, g', rfl, rfl, M0, M1, ne, g0, g0', hb0⟩ := hcut
      go_wp2
      go_loopw [10, 28] (fun v i wr => ∃ k : Nat, k ≤ l.length ∧ i = .int .i64 k ∧ v = .int .i64 (waV l r k) ∧ Blk wr g 3 (rowAt l.length k (goV l r)).toArray ∧ Blk wr g' 3 (rowAt l.length k (fun t => waV l r (t + 1))).toArray ∧ Below w.heap.size w wr) (fun _ i _ => l.length - (intOf i).toNat)
      case atStart =>
        refine ⟨0, Nat.zero_le _, rfl, rfl, ?_, ?_, hb0⟩
        · rw [rowAt_zero]; exact M0
        · rw [rowAt_zero]; exact M1
      case round =>
        obtain ⟨t, ht, rfl, rfl, B0, B1, hbel⟩ := hrel
        by_cases hlt : t < l.length
        · obtain ⟨b1, o1, x, rfl, hc1, HX⟩ := (h.below hbel).at_ hlt
          have hx := gt_of_get HX.out
          have x0 : 0 ≤ x := by rw [← hx]; exact v.lo t hlt
          have x1 : x ≤ 10000 := by rw [← hx]; exact v.hi t hlt
          obtain ⟨y, hy⟩ : ∃ y, y = waV l r t := ⟨_, rfl⟩
          have y0 : 0 ≤ y := by rw [hy]; exact wa_lo _ _ _
          have y1 : y ≤ 600000 := by rw [hy]; exact (wa_bd v r0 ht).2
          have HN : Hid (waV l r (t + 1) = max 0 (y + x - r)) := Lib.hid (by rw [waV, ← hy, hx])
          have HO : Hid (goV l r t = min r (y + x)) := Lib.hid (by rw [go_min, ← hy, hx])
          rw [← hy]
          have i1 : (t : Int) < (l.length : Int) := by omega
          have c0 : wr.cell? ⟨g, t, none⟩ = some (.int .i64 0) := by rw [B0.cell t]; simpa using rowAt_get (goV l r) hlt
          have c1 : wr.cell? ⟨g', t, none⟩ = some (.int .i64 0) := by rw [B1.cell t]; simpa using rowAt_get (fun t => waV l r (t + 1)) hlt
          have f0 := B0.frozen t
          have f1 := B1.frozen t
          have S0 : ∀ u, (wr.setCell ⟨g, t, none⟩ u).cell? ⟨g, t, none⟩ = some u := fun u => by
            rw [(B0.set_ t u).cell t]; simp [rowAt_length _ ht, hlt]
          have ne' : ¬ g' = g := by omega
          have bl := cell_lt hc1
          clear hx hy
          have R0 : ∀ u : Int, goV l r t = u → ∀ u', Blk ((wr.setCell ⟨g, t, none⟩ (.int .i64 u)).setCell ⟨g', t, none⟩ u') g 3 (rowAt l.length (t + 1) (goV l r)).toArray := fun u e u' => by
            rw [← rowAt_succ _ hlt, e]; exact (B0.set_ t _).past (a := ⟨g', t, none⟩) ne _
          have R1 : ∀ u u' : Int, waV l r (t + 1) = u' → Blk ((wr.setCell ⟨g, t, none⟩ (.int .i64 u)).setCell ⟨g', t, none⟩ (.int .i64 u')) g' 3 (rowAt l.length (t + 1) (fun t => waV l r (t + 1))).toArray := fun u u' e => by
            rw [← rowAt_succ _ hlt, e]; exact (B1.past (a := ⟨g, t, none⟩) ne' _).set_ t _
          have HR0 := Lib.hid R0
          have HR1 := Lib.hid R1
          clear R0 R1
          rcases Int.lt_trichotomy (y + x) r with q | q | q
          all_goals
            go_wp2
            go_roundw
            case rel =>
              refine ⟨t + 1, by omega, by go_num, ?_, HR0.out _ (by rw [HO.out]; omega) _, HR1.out _ _ (by rw [HN.out]; omega), (hbel.setCell (p := ⟨g, t, none⟩) g0 _).setCell (p := ⟨g', t, none⟩) g0' _⟩
              rw [HN.out]; congr 1; omega
            case measure => simp [intOf]; omega
        · obtain rfl : t = l.length := by omega
          go_wp2
          rw [rowAt_full] at B0 B1
          have o0 := own_of_blk (n := l.length) B0 g0 (length_tab _ _).symm (by omega)
          have o1 := own_of_blk (n := l.length) B1 g0' (length_tab _ _).symm (by omega)
          refine bodyPost_ret (v := .tuple #[.slice (some ⟨g, 0, none⟩) l.length l.length, .slice (some ⟨g', 0, none⟩) l.length l.length, .int .i64 0]) (by simp [results, Try.results21, go_sem]) rfl ⟨some ⟨g, 0, none⟩, l.length, some ⟨g', 0, none⟩, l.length, ?_, ?_, ?_, ?_, hbel⟩
          · rw [HG.out, HW.out, HE.out, length_tab, length_tab]
          · rw [HG.out, length_tab]; rw [length_tab] at o0; exact o0
          · rw [HW.out, length_tab]; rw [length_tab] at o1; exact o1
          · rintro k q1 q2
            simp [Value.ownBlock] at q1 q2
            omega
  · have HE : Hid (linE l r = trk l) := Lib.hid (by rw [linE, if_pos h1])
    have HG : Hid (linG l r = []) := Lib.hid (linG_no (by rw [HE.out]; exact h1))
    have HW : Hid (linW l r = []) := Lib.hid (linW_no (by rw [HE.out]; exact h1))
    have e1 : (trk l != 0) = true := by simp [h1]
    clear h1
    go_enter Try.func21, Try.ntmps21
    go_wp2_with fail
    refine (trCheck_any A l c _ h).mono ?_
    rintro e w' ⟨rfl, rfl⟩
    go_wp2
    exact bodyPost_ret (v := .tuple #[.slice none 0 0, .slice none 0 0, .int .i64 (trk l)]) (by simp [results, Try.results21, go_sem]) rfl ⟨none, 0, none, 0, by rw [HG.out, HW.out, HE.out]; rfl, by rw [HG.out]; exact World.ownsRow_nil _ _ _ _, by rw [HW.out]; exact World.ownsRow_nil _ _ _ _, (fun g a => by cases a), Below.refl _ _⟩

/-- What a call of Run leaves that fits: two lists of one length, and no error. -/
def AnsT (n : Nat) (x y : List Int) (w : World) (e : Ending) (w' : World) : Prop :=
  ∃ A c B d, e = .returned (.tuple #[.slice A n c, .slice B n d, .int .i64 0]) ∧ Ints w' A x ∧ Ints w' B y ∧ n ≤ c ∧ n ≤ d ∧ Below w.heap.size w w'
theorem own_cap' {w : World} {base n c size : Nat} {e : TypeId} {A : Option Addr} {xs : List Value} (h : w.ownsRow base e size (.slice A n c) n xs) : n ≤ c := by
  rcases h.2 with ⟨_, h0⟩ | ⟨g, cap, cur, hv, _, _, hn, _⟩
  · omega
  · injection hv with _ _ e
    subst e
    exact hn
theorem lrun_yes (A : Option Addr) (l x y : List Int) (nl n c : Nat) (r : Int) (w : World) (hE : Hid (linE l r = 0)) (hx : Hid (goL l r = x)) (hy : Hid (waL l r = y)) (h : Ints w A l) (hl : nl = l.length) (hn : n = l.length) :
    Calls Try.prog 21 #[.slice A nl c, .int .i64 r] w (AnsT n x y w) := by
  subst hl hn
  have hx := hx.out
  have hy := hy.out
  subst hx hy
  refine (lrun_any A l c r w h).mono ?_
  rintro e w' ⟨B, d, B', d', rfl, o0, o1, _, hb⟩
  rw [linG_yes hE.out] at o0
  rw [linW_yes hE.out] at o1
  have k0 := own_cap' o0
  have k1 := own_cap' o1
  rw [length_goL] at k0
  rw [length_waL] at k1
  exact ⟨B, d, B', d', by rw [linG_yes hE.out, linW_yes hE.out, length_goL, length_waL, hE.out], Ints.of_own o0, Ints.of_own o1, k0, k1, hb⟩
theorem lrun_no (A : Option Addr) (l : List Int) (c : Nat) (r : Int) (w : World) (hE : ¬ linE l r = 0) (h : Ints w A l) :
    Calls Try.prog 21 #[.slice A l.length c, .int .i64 r] w fun e w' => ∃ B d B' d', e = .returned (.tuple #[.slice B 0 d, .slice B' 0 d', .int .i64 (linE l r)]) ∧ Below w.heap.size w w' := by
  refine (lrun_any A l c r w h).mono ?_
  rintro e w' ⟨B, d, B', d', rfl, _, _, _, hb⟩
  exact ⟨B, d, B', d', by rw [linG_no hE, linW_no hE]; rfl, hb⟩

theorem sum_yes' (A : Option Addr) (l f : List Int) (nl n c : Nat) (w : World) (v : Tr l) (hf : Hid (adL l = f)) (h : Ints w A l) (hl : nl = l.length) (hn : n = l.length + 1) :
    Calls Try.prog 23 #[.slice A nl c] w fun e w' => ∃ B d, e = .returned (.tuple #[.slice B n d, .int .i64 0]) ∧ Ints w' B f ∧ n ≤ d ∧ Below w.heap.size w w' := by
  subst hl hn
  have hf := hf.out
  subst hf
  refine (trSum_any A l c w h).mono ?_
  rintro e w' ⟨B, d, rfl, o, hb⟩
  rw [trL_yes v] at o
  have k := own_cap' o
  rw [length_adL] at k
  exact ⟨B, d, by rw [trL_yes v, trk_iff.2 v, length_adL], Ints.of_own o, k, hb⟩

end Go.Proofs.Ythngolnflogdnaa
