
/-
  Walks: fair.Run.
-/
import Derived.Test.YtamkadffencpgaaFairB
namespace Go.Proofs.Ytamkadffencpgaa
set_option linter.all false
open Go.RowKit Go.Shelf Go.Lib

/-- Indices, as Go has them. -/
def nts (x : List Nat) : List Int := x.map (fun i : Nat => (i : Int))
theorem length_nts (x : List Nat) : (nts x).length = x.length := by simp [nts]
theorem nts_app (x : List Nat) (i : Nat) : nts (x ++ [i]) = nts x ++ [(i : Int)] := by simp [nts]
def slen : Value → Nat
  | .slice _ n _ => n
  | _ => 0
theorem row_form {w : World} {base n size : Nat} {e : TypeId} {v : Value} {xs : List Value} (h : w.ownsRow base e size v n xs) : ∃ A c, v = .slice A n c := by
  rcases h.2 with ⟨rfl, h0⟩ | ⟨g, cap, cur, rfl, _⟩
  · exact ⟨none, 0, by rw [h0]⟩
  · exact ⟨_, _, rfl⟩
theorem row_ne {w : World} {base n size : Nat} {e t : TypeId} {v : Value} {xs : List Value} (h : w.ownsRow base e size v n xs) {g : Nat} {cs : Array Value} (hB : Blk w g t cs) (ht : t ≠ e) : v.ownBlock ≠ some g := by
  rcases h.2 with ⟨rfl, _⟩ | ⟨g', cap, cur, rfl, _, hg, _⟩
  · simp [Value.ownBlock]
  · intro c
    have e1 : g' = g := by simpa [Value.ownBlock] using c
    subst e1
    unfold Blk at hB
    rw [hB] at hg
    injection hg with hg
    injection hg with _ hg
    exact ht hg
theorem rows_ne {w : World} {base base' n n' size size' : Nat} {e t : TypeId} {v u : Value} {xs ys : List Value} (h : w.ownsRow base e size v n xs) (h' : w.ownsRow base' t size' u n' ys) (ht : t ≠ e) : ∀ k, v.ownBlock = some k → u.ownBlock ≠ some k := by
  intro k hk hk'
  rcases h'.2 with ⟨rfl, _⟩ | ⟨g', cap, cur, rfl, _, hg, _⟩
  · simp [Value.ownBlock] at hk'
  · have e1 : g' = k := by simpa [Value.ownBlock] using hk'
    subst e1
    exact row_ne h (show Blk w g' t cur from hg) ht hk
theorem made_out (n : Nat) (hn : n ≤ 60) (W : World) : (Instr.makeSlice 22 (.int .i64 0) (.int .i64 n)).run Try.prog W = .ok (.slice (some ⟨W.heap.size, 0, none⟩) 0 n) (W.alloc (.cells (madeCells #[.int .i64 0] n) 3)) := by
  obtain ⟨i, hi, hz⟩ := Option.map_eq_some_iff.1 int_info
  simp only [Prod.mk.injEq] at hz
  obtain ⟨hz, hs, hb⟩ := hz
  have hr := run_make (P := Try.prog) W 22 3 i _ Try.underlying22 hi hz .i64 .i64 0 n (by omega) (by omega) (by rw [hb]; omega) (by omega)
  simp only [Int.toNat_natCast, hs, Nat.mul_one] at hr
  exact hr
theorem nt_one (x : List Int) : ∀ u ∈ x.map (Value.int .i64), u.oneCell' = true := by
  intro u hu
  rw [List.mem_map] at hu
  obtain ⟨y, _, rfl⟩ := hu
  rfl

/-- What Run leaves where all is well. -/
def AnsF (l : List Pk) (v : List Int) (w : World) (e : Ending) (w' : World) : Prop :=
  ∃ (x : List Nat) (C : Option Addr) (k : Nat), Fair l v x ∧ e = .returned (.tuple #[.slice C x.length k, .int .i64 0]) ∧ w'.ownsRow w.heap.size 3 1 (.slice C x.length k) x.length ((nts x).map (Value.int .i64)) ∧ Below w.heap.size w w'

set_option maxRecDepth 100000 in
set_option maxHeartbeats 6400000 in
theorem frun_fair (A B : Option Addr) (v : List Int) (l : List Pk) (nl nm c d : Nat) (w : World) (h : Ints w A v) (h' : Pks w B l) (hE : Hid (fwE v l = 0)) (hnl : nl = v.length) (hnm : nm = l.length) :
    Calls Try.prog 8 #[.slice A nl c, .slice B nm d] w (AnsF l v w) := by
  subst hnm
  obtain ⟨hv, hpe⟩ := fwE_ok hE.out
  have q := qu_of hpe
  have hle := q.le
  have hch := fcheck_any A B v l c d w h h'
  rw [hE.out, hv.len] at hch
  have hn8 : nl = 8 := by rw [hnl, hv.len]
  subst hn8
  obtain ⟨i0, hi0, hz0, hz1, hz2⟩ := info_parts int_info
  have hmk := fun W => made_out l.length hle W
  clear hnl hpe
  go_enter Try.func8, Try.ntmps8
  go_wp2_with fail
  refine hch.mono ?_
  rintro e w1 ⟨rfl, b1⟩
  clear hch
  have hle' : (l.length : Int) ≤ 60 := by omega
  obtain ⟨g, hg⟩ : ∃ g, g = w1.heap.size + 1 := ⟨_, rfl⟩
  have HG := Lib.hid hg
  have gle : w.heap.size ≤ g := by have := b1.size; omega
  clear hg
  go_wp2
  rw [← HG.out]
  go_loopw [7, 9, 10] (fun o t x wr => ∃ (n : Nat) (s : Fs) (u : Value), Fr l v n s ∧ t = .int .i64 s.now ∧ x = .int .i64 s.next ∧ wr.ownsRow w.heap.size 3 1 o s.out.length ((nts s.out).map (Value.int .i64)) ∧ Srv wr w.heap.size g A c s.en s.last u (tks s) ∧ Below w.heap.size w wr) (fun o _ _ _ => l.length - slen o)
  case atStart =>
    have hs := b1.size
    refine ⟨0, Fs.init, .slice none 0 0, Fr.init, rfl, rfl, ?_, ⟨?_, World.ownsRow_nil _ _ _ _, gle⟩, (b1.alloc hs _).alloc (by simp; omega) _⟩
    · have := World.ownsRow_made (e := 3) (size := 1) w1 (madeCells #[Value.int .i64 0] l.length) l.length (base := w.heap.size) hs (by unfold maxLen; omega) (by rw [size_madeCells]; omega)
      exact this.alloc _
    · have := Blk.new (w1.alloc (.cells (madeCells #[Value.int .i64 0] l.length) 3)) 68 (srv A c Fs.init.en Fs.init.last (.slice none 0 0))
      rw [HG.out]
      have e : (w1.alloc (.cells (madeCells #[Value.int .i64 0] l.length) 3)).heap.size = w1.heap.size + 1 := by simp
      rw [e] at this
      exact this
  case round =>
    clear HG b1
    obtain ⟨n, s, u, hfr, rfl, rfl, ho, hS, hbel⟩ := hrel
    have k := hfr.inv q hv
    have FR := Lib.hid hfr
    clear hfr
    obtain ⟨C, cc, rfl⟩ := row_form ho
    by_cases hlt : s.out.length < l.length
    · obtain ⟨D, dd, rfl⟩ := row_form hS.row
      have c10 : wr.cell? ⟨g, 10, none⟩ = some (.slice D (tks s).length dd) := hS.blk.cell 10
      have i1 : (s.out.length : Int) < (l.length : Int) := by omega
      have now0 := k.now0
      have now1 := k.now1
      have nx := k.nx
      have bw := hbel.size
      go_upto_if 31 with fail
      go_cut [9] (fun t wx => ∃ (n' : Nat) (s' : Fs), Hid (Fr l v n' s') ∧ t = .int .i64 s'.now ∧ Hid (s'.next = s.next ∧ s'.en = s.en ∧ s'.last = s.last ∧ tks s' = tks s ∧ s'.out = s.out) ∧ Hid (wl s' ≠ [] ∨ s'.Come l) ∧ wx = wr)
      case first =>
        by_cases hw : wl s = []
        · have nlt := wl_nil_all k hw hlt
          have e0 : (tks s).length = 0 := by rw [length_tks, hw]; rfl
          obtain ⟨bb, off, p, hB, hbl, p0, p1, p2, HP⟩ := (h'.below hbel).get nlt
          subst hB
          have hK := pk_of HP.out
          have i2 : (s.next : Int) < (l.length : Int) := by omega
          have HW := Lib.hid hw
          clear hw
          rcases Int.lt_trichotomy s.now p.at_ with c1 | c1 | c1
          · go_wp2_with fail
            go_meet
            refine ⟨n + 1, s.jump l, Lib.hid (.go FR.out (.jump (fun cm => by have := cm.2; rw [hK] at this; omega) (wl_nil_iff.mp HW.out) nlt)), ?_, Lib.hid ⟨rfl, rfl, rfl, rfl, rfl⟩, Lib.hid (.inr ⟨nlt, Int.le_refl _⟩), rfl⟩
            show _ = Value.int .i64 (pk l s.next).at_
            rw [hK]
          · go_wp2_with fail
            go_meet
            exact ⟨n, s, FR, by rw [c1], Lib.hid ⟨rfl, rfl, rfl, rfl, rfl⟩, Lib.hid (.inr ⟨nlt, by rw [hK]; omega⟩), rfl⟩
          · go_wp2_with fail
            go_meet
            exact ⟨n, s, FR, rfl, Lib.hid ⟨rfl, rfl, rfl, rfl, rfl⟩, Lib.hid (.inr ⟨nlt, by rw [hK]; omega⟩), rfl⟩
        · have e0 : ((tks s).length : Int) ≠ 0 := by
            rw [length_tks]
            have := List.length_pos_iff.mpr hw
            omega
          have e1 : (((tks s).length : Int) == 0) = false := by rw [beq_eq_false_iff_ne]; exact e0
          have HW := Lib.hid hw
          clear hw e0
          go_wp2_with fail
          go_meet
          exact ⟨n, s, FR, rfl, Lib.hid ⟨rfl, rfl, rfl, rfl, rfl⟩, Lib.hid (.inl HW.out), rfl⟩
      case rest =>
      obtain ⟨n1, s1, FR1, rfl, HE1, HC1, rfl⟩ := hcut
      have k1 := FR1.out.inv q hv
      have t0 := k1.now0
      have t1 := k1.now1
      rw [HE1.out.2.2.2.2] at t1
      clear k1 now0 now1 c10
      go_wp2
      go_loopw [10] (fun x wi => ∃ (n' : Nat) (s' : Fs) (u : Value), Hid (Fr l v n' s') ∧ x = .int .i64 s'.next ∧ Hid (s'.now = s1.now ∧ s'.out = s.out) ∧ Hid (wl s' ≠ [] ∨ s'.Come l) ∧ wi.ownsRow w.heap.size 3 1 (.slice C s.out.length cc) s.out.length ((nts s.out).map (Value.int .i64)) ∧ Srv wi w.heap.size g A c s'.en s'.last u (tks s') ∧ Below w.heap.size w wi) (fun x _ => l.length - (intOf x).toNat)
      case atStart =>
        obtain ⟨a1, a2, a3, a4, a5⟩ := HE1.out
        refine ⟨n1, s1, .slice D (tks s).length dd, FR1, by rw [a1], Lib.hid ⟨rfl, a5⟩, HC1, ho, ?_, hbel⟩
        rw [a2, a3, a4]
        exact hS
      case round =>
        clear ho hS hbel HC1 bw
        obtain ⟨n', s', u, FR', rfl, HE', HC', ho, hS, hbel⟩ := hrel
        have k' := FR'.out.inv q hv
        have nx' := k'.nx
        have bw := hbel.size
        have neg := row_ne ho hS.blk (by decide)
        have ner := rows_ne ho hS.row (by decide)
        by_cases hc : s'.Come l
        · have hlt' := hc.1
          obtain ⟨bb, off, p, hB, hbl, p0, p1, p2, HP⟩ := (h'.below hbel).get hlt'
          subst hB
          have hK := pk_of HP.out
          have hat : p.at_ ≤ s1.now := by have := hc.2; rw [hK, HE'.out.1] at this; exact this
          have hput := put_any w.heap.size g A c v l s' u w wr q hv k' hlt' h hbel (Nat.le_refl _) bw hS
          rw [hK] at hput
          have i2 : (s'.next : Int) < (l.length : Int) := by omega
          have d1 : decide (p.at_ ≤ s1.now) = true := decide_eq_true hat
          have HCm := Lib.hid hc
          have HKK := Lib.hid k'
          clear hc hK k'
          go_wp2_with fail
          refine hput.mono ?_
          rintro e w3 ⟨rfl, u', hS3, T3, _⟩
          have ho3 := T3.own ho (fun j hj => by
            rintro (e | e)
            · subst e; exact neg hj
            · exact ner j hj e)
          have hb3 := hbel.trans (T3.below (B := w.heap.size) bw (fun j => by
            rintro (e | e)
            · omega
            · exact (hS.row.lt j e).1))
          clear hput T3 hS ho p0 p1 p2
          go_wp2
          go_roundw
          case rel =>
            refine ⟨n' + 1, s'.put l v, u', Lib.hid (.go FR'.out (.put HCm.out)), ?_, HE', Lib.hid (.inl ?_), ho3, hS3, hb3⟩
            · show _ = Value.int .i64 ((s'.next + 1 : Nat) : Int)
              go_num
            · rw [wl_put HKK.out]; simp
          case measure => simp [intOf]; omega
        · have hwl : wl s' ≠ [] := by
            rcases HC'.out with c1 | c1
            · exact c1
            · exact absurd c1 hc
          go_upto_region 10 with fail
          go_cut [51] (fun b wx => b = .bool false ∧ wx = wr)
          case first =>
            by_cases hlt' : s'.next < l.length
            · obtain ⟨bb, off, p, hB, hbl, p0, p1, p2, HP⟩ := (h'.below hbel).get hlt'
              subst hB
              have hK := pk_of HP.out
              have hat : ¬ p.at_ ≤ s1.now := fun e => hc ⟨hlt', by rw [hK, HE'.out.1]; exact e⟩
              have i2 : (s'.next : Int) < (l.length : Int) := by omega
              have d1 : decide (p.at_ ≤ s1.now) = false := decide_eq_false hat
              clear hc hK hS ho
              go_wp2_with fail
              go_meet
              exact ⟨rfl, rfl⟩
            · have i2 : ¬ (s'.next : Int) < (l.length : Int) := by omega
              clear hc hS ho
              go_wp2_with fail
              go_meet
              exact ⟨rfl, rfl⟩
          case rest =>
          obtain ⟨rfl, rfl⟩ := hcut
          have NC := Lib.hid hc
          have HKK := Lib.hid k'
          have hsv := serve_any w.heap.size g A c v l s' u wc q k' hwl bw hS
          clear hc k' hwl
          go_wp2_with fail
          refine hsv.mono ?_
          rintro e w3 ⟨i, u', rfl, hbest, hS3, T3, _⟩
          have ho3 := T3.own ho (fun j hj => by
            rintro (e | e)
            · subst e; exact neg hj
            · exact ner j hj e)
          have hb3 := hbel.trans (T3.below (B := w.heap.size) bw (fun j => by
            rintro (e | e)
            · omega
            · exact (hS.row.lt j e).1))
          have il : i < l.length := by have := hbest.1.1; omega
          obtain ⟨bb, off, p, hB, hbl, p0, p1, p2, HP⟩ := (h'.below hb3).get il
          subst hB
          have hK := pk_of HP.out
          have ok := q.ok i il
          rw [hK] at ok
          have z0 := ok.s0
          have z1 := ok.s1
          have i3 : (i : Int) < (l.length : Int) := by omega
          have HBest := Lib.hid hbest
          have HPK := Lib.hid hK
          have bw3 := hb3.size
          have neg3 := row_ne ho3 hS3.blk (by decide)
          have ner3 := rows_ne ho3 hS3.row (by decide)
          clear hsv T3 hS ho hbest hK ok neg ner
          go_wp2_with (at_builtin; refine wpList_append_own_at _ rfl _ _ 22 rfl w.heap.size 3 i0 (.int .i64 0) 1 8 Try.underlying22 hi0 hz0 hz1 hz2 rfl (by decide) _ _ _ rfl (World.ownsRow.alloc ho3 _) ⟨w3.heap.size, 0, none⟩ 1 1 [.int .i64 i] rfl rfl (cell_one_new _ _ _) ?rc2 ?rc3 ?rc4 ?rc5 ?_)
          case rc2 => intro u hu; simp at hu; subst hu; rfl
          case rc3 => unfold maxLen; omega
          case rc4 => omega
          case rc5 => simp; omega
          intro v' w5 hown' hgrow _ hloc
          have T5 : Tn (fun j => (Value.slice C s.out.length cc).ownBlock = some j) w3 w5 := ((Tn.refl _ w3).alloc _).grown hgrow (fun j hj => .inl hj)
          have hS5 := hS3.tn T5 neg3 (fun j hj e => ner3 j e hj)
          have hb5 := hb3.trans (T5.below (B := w.heap.size) bw3 (fun j e => (ho3.lt j e).1))
          obtain ⟨C', cc', hv'⟩ := row_form hown'
          have HO : Hid (w5.ownsRow w.heap.size 3 1 v' (s.out.length + 1) ((nts s.out).map (Value.int .i64) ++ [.int .i64 i])) := Lib.hid hown'
          clear hown' hgrow hloc T5 hS3 ho3 p0 p1 p2
          subst hv'
          go_wp2
          go_roundw
          case rel =>
            have e1 : (s'.serve l i).out = s.out ++ [i] := by show s'.out ++ [i] = _; rw [HE'.out.2]
            refine ⟨n' + 1, s'.serve l i, u', .go FR'.out (.serve i NC.out HBest.out), ?_, rfl, ?_, hS5, hb5⟩
            · show _ = Value.int .i64 (s'.now + (pk l i).size)
              rw [HPK.out, HE'.out.1]
            · rw [e1, List.length_append, nts_app, List.map_append]
              exact HO.out
          case measure => simp [slen]; omega
    · have hf : s.out.length = l.length := by have := out_le k; omega
      have HF : Hid (Fair l v s.out) := Lib.hid ⟨hf, n, s, FR.out, rfl⟩
      have i1 : ¬ (s.out.length : Int) < (l.length : Int) := by omega
      clear hf
      go_wp2
      go_ret2
      exact ⟨s.out, C, cc, HF.out, rfl, ho, hbel⟩

set_option maxHeartbeats 800000 in
theorem frun_fair_no (A B : Option Addr) (v : List Int) (l : List Pk) (nl nm c d : Nat) (w : World) (h : Ints w A v) (h' : Pks w B l) (hE : ¬ fwE v l = 0) (hnl : nl = v.length) (hnm : nm = l.length) :
    Calls Try.prog 8 #[.slice A nl c, .slice B nm d] w fun e w' => e = .returned (.tuple #[.slice none 0 0, .int .i64 (fwE v l)]) ∧ Below w.heap.size w w' := by
  subst hnl hnm
  have e1 : (fwE v l != 0) = true := by simp [hE]
  go_enter Try.func8, Try.ntmps8
  go_wp2_with fail
  refine (fcheck_any A B v l c d _ h h').mono ?_
  rintro e w1 ⟨rfl, b1⟩
  go_wp2
  go_ret2
  exact ⟨rfl, b1⟩

end Go.Proofs.Ytamkadffencpgaa
