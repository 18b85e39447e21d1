
/-
  Walks: fair.Check; the server in memory; a packet put into the waiting set.
-/
import Derived.Test.YtamkadffencpgaaTickB
import Derived.Maps.AppendAt
import Derived.Deep.DeepCutAuto
import Derived.Laws.MakeOwn
namespace Go.Proofs.Ytamkadffencpgaa
set_option linter.all false
open Go.RowKit Go.Shelf Go.Lib

theorem wtB_drop {v : List Int} {k : Nat} {x : Int} (h : v[k]? = some x) : wtB (v.drop k) = if x < 1 ∨ 8 < x then true else wtB (v.drop (k + 1)) := by
  have hk := (List.getElem?_eq_some_iff.1 h).1
  rw [List.drop_eq_getElem_cons hk, wtB]
  have : v[k] = x := by rw [List.getElem?_eq_getElem hk] at h; exact Option.some.inj h
  rw [this]
set_option maxHeartbeats 800000 in
theorem fcheck_any (A B : Option Addr) (v : List Int) (l : List Pk) (c d : Nat) (w : World) (h : Ints w A v) (h' : Pks w B l) :
    Calls Try.prog 10 #[.slice A v.length c, .slice B l.length d] w fun e w' => e = .returned (.int .i64 (fwE v l)) ∧ Below w.heap.size w w' := by
  have hv := h.1
  by_cases h8 : v.length = 8
  · have e1 : ((v.length : Int) != 8) = false := by rw [h8]; rfl
    have HE0 : Hid (fwE v l = if wtB v = true then 1 else pksE l) := Lib.hid (by rw [fwE, if_neg (by simpa using h8)])
    clear h8
    go_enter Try.func10, Try.ntmps10
    go_wp2
    go_loop [12] (fun i => ∃ k : Nat, k ≤ v.length ∧ i = .int .i64 k ∧ Hid (wtB v = wtB (v.drop k))) (fun i => v.length - (intOf i).toNat)
    case atStart => exact ⟨0, Nat.zero_le _, rfl, Lib.hid rfl⟩
    case round =>
      obtain ⟨k, hk, rfl, HG⟩ := hrel
      by_cases hlt : k < v.length
      · obtain ⟨b1, o1, x, rfl, hc1, HX⟩ := h.at_ hlt
        have i2 : (k : Int) < (v.length : Int) := by omega
        by_cases hx : x < 1 ∨ 8 < x
        · have HE : Hid (fwE v l = 1) := Lib.hid (by rw [HE0.out, HG.out, wtB_drop HX.out, if_pos hx, if_pos rfl])
          have q2 := lim_yes hx
          clear hx
          go_wp2_with fail
          refine (lim_any x 1 8 true _ q2).mono ?_
          rintro e w' ⟨rfl, rfl⟩
          go_wp2
          go_ret
          exact ⟨ret_int HE.out.symm, Below.refl _ _⟩
        · have HN : Hid (wtB v = wtB (v.drop (k + 1))) := Lib.hid (by rw [HG.out, wtB_drop HX.out, if_neg hx])
          have q2 : Hid (decide (x < 1 ∨ 8 < x) = false) := Lib.hid (decide_eq_false hx)
          clear hx
          go_wp2_with fail
          refine (lim_any x 1 8 false _ q2).mono ?_
          rintro e w' ⟨rfl, rfl⟩
          go_wp2
          go_round
          case rel => exact ⟨k + 1, by omega, by go_num, HN⟩
          case measure => simp [intOf]; omega
      · have HE : Hid (pksE l = fwE v l) := Lib.hid (by rw [HE0.out, HG.out, List.drop_of_length_le (by omega)]; rfl)
        go_wp2_with fail
        refine (packets_any B l d _ h').mono ?_
        rintro e w1 ⟨rfl, b1⟩
        rw [HE.out]
        go_wp2
        go_ret
        exact ⟨rfl, b1⟩
  · have e1 : ((v.length : Int) != 8) = true := by simp; omega
    have HE : Hid (fwE v l = 4) := Lib.hid (if_pos h8)
    clear h8
    go_enter Try.func10, Try.ntmps10
    go_wp2
    go_ret
    exact ⟨ret_int HE.out.symm, Below.refl _ _⟩

/-- A server's cells. -/
def srv (A : Option Addr) (c : Nat) (en : Nat → Int) (last : Int) (v : Value) : Array Value :=
  #[.slice A 8 c, .int .i64 (en 0), .int .i64 (en 1), .int .i64 (en 2), .int .i64 (en 3), .int .i64 (en 4), .int .i64 (en 5), .int .i64 (en 6), .int .i64 (en 7), .int .i64 last, v]
theorem srv_fin (A : Option Addr) (c : Nat) (en : Nat → Int) (last : Int) (v : Value) {f : Nat} (h : f < 8) : (srv A c en last v)[1 + f]? = some (.int .i64 (en f)) := by
  have : f = 0 ∨ f = 1 ∨ f = 2 ∨ f = 3 ∨ f = 4 ∨ f = 5 ∨ f = 6 ∨ f = 7 := by omega
  rcases this with e | e | e | e | e | e | e | e <;> subst e <;> rfl
theorem srv_set (A : Option Addr) (c : Nat) (en : Nat → Int) (last x : Int) (v : Value) {f : Nat} (h : f < 8) : (srv A c en last v).setIfInBounds (1 + f) (.int .i64 x) = srv A c (fup en f x) last v := by
  have : f = 0 ∨ f = 1 ∨ f = 2 ∨ f = 3 ∨ f = 4 ∨ f = 5 ∨ f = 6 ∨ f = 7 := by omega
  rcases this with e | e | e | e | e | e | e | e <;> subst e <;> rfl
theorem srv_start (A : Option Addr) (c : Nat) (en : Nat → Int) (last x : Int) (v : Value) : (srv A c en last v).setIfInBounds 9 (.int .i64 x) = srv A c en x v := rfl
theorem srv_wait (A : Option Addr) (c : Nat) (en : Nat → Int) (last : Int) (v u : Value) : (srv A c en last v).setIfInBounds 10 u = srv A c en last u := rfl
structure Srv (w : World) (base g : Nat) (A : Option Addr) (c : Nat) (en : Nat → Int) (last : Int) (v : Value) (L : List Tk) : Prop where
  blk : Blk w g 68 (srv A c en last v)
  row : w.ownsRow base 96 2 v L.length (tcs L)
  lo : base ≤ g
theorem Srv.bel {w w' : World} {base g : Nat} {A : Option Addr} {c : Nat} {en : Nat → Int} {last : Int} {v : Value} {L : List Tk} (h : Srv w base g A c en last v L) (b : Below w.heap.size w w') : Srv w' base g A c en last v L :=
  ⟨h.blk.below b, (Tn.of_below (S := fun _ => False) b).own h.row (fun _ _ c => c), h.lo⟩
theorem Srv.tn {w w' : World} {base g : Nat} {A : Option Addr} {c : Nat} {en : Nat → Int} {last : Int} {v : Value} {L : List Tk} {S : Nat → Prop} (h : Srv w base g A c en last v L) (t : Tn S w w') (hg : ¬ S g) (hv : ∀ k, v.ownBlock = some k → ¬ S k) : Srv w' base g A c en last v L :=
  ⟨t.blk h.blk hg, t.own h.row hv, h.lo⟩
theorem Srv.ne {w : World} {base g : Nat} {A : Option Addr} {c : Nat} {en : Nat → Int} {last : Int} {v : Value} {L : List Tk} (h : Srv w base g A c en last v L) : v.ownBlock ≠ some g := by
  intro e
  rcases h.row.2 with ⟨rfl, _⟩ | ⟨g', cap, cur, rfl, _, hg, _⟩
  · simp [Value.ownBlock] at e
  · simp [Value.ownBlock] at e
    subst e
    have := h.blk
    unfold Blk at this
    rw [hg] at this
    simp at this

/-- The blocks that a server's steps turn. -/
def SrvS (g : Nat) (v : Value) (k : Nat) : Prop := k = g ∨ v.ownBlock = some k

set_option maxRecDepth 100000 in
set_option maxHeartbeats 3200000 in
theorem put_any (base g : Nat) (A : Option Addr) (c : Nat) (wt : List Int) (l : List Pk) (s : Fs) (v : Value) (w0 w : World) (q : Qu l) (hv : Wts wt) (hk : Fi l wt s) (hlt : s.next < l.length) (hA : Ints w0 A wt) (hb0 : Below w0.heap.size w0 w) (hB : w0.heap.size ≤ base) (hbw : base ≤ w.heap.size) (hS : Srv w base g A c s.en s.last v (tks s)) :
    Calls Try.prog 33 #[.pointer (some ⟨g, 0, none⟩), .int .i64 s.next, .agg #[.int .i64 (pk l s.next).at_, .int .i64 (pk l s.next).size, .int .i64 (pk l s.next).flow]] w fun e w' =>
      e = .returned (.tuple #[]) ∧ ∃ v', Srv w' base g A c (s.put l wt).en s.last v' (tks (s.put l wt)) ∧ Tn (SrvS g v) w w' ∧ (∀ k, v'.ownBlock = some k → v.ownBlock = some k ∨ w.heap.size ≤ k) := by
  obtain ⟨i0, hi0, hz0, hz1, hz2⟩ := info_parts tk_info
  have ok := q.ok s.next hlt
  have hq := q.le
  obtain ⟨p, hp⟩ : ∃ p, p = pk l s.next := ⟨_, rfl⟩
  rw [← hp] at ok ⊢
  obtain ⟨f, hf⟩ : ∃ f : Nat, f = fl l s.next := ⟨_, rfl⟩
  have hf8 : f < 8 := by rw [hf]; exact fl_lt q hlt
  have hff : p.flow = (f : Int) := by rw [hf, hp]; unfold fl; rw [← hp]; have := ok.f0; omega
  obtain ⟨pa, psz, pf⟩ := p
  simp only at hff ok ⊢
  subst hff
  have s0 := ok.s0
  have s1 := ok.s1
  simp only at s0 s1
  obtain ⟨b1, o1, x, rfl, hx1, HX⟩ := (hA.below hb0).at_ (k := f) (by rw [hv.len]; exact hf8)
  have hx := gt_of_get HX.out
  have x0 : 1 ≤ x := by rw [← hx]; exact hv.lo f hf8
  have x1 : x ≤ 8 := by rw [← hx]; exact hv.hi f hf8
  have b1l : b1 < w0.heap.size := by
    obtain ⟨b', o', y, e, hc', _⟩ := hA.at_ (k := f) (by rw [hv.len]; exact hf8)
    injection e with e; injection e with e1 e2
    subst e1
    exact cell_lt hc'
  obtain ⟨E, hE⟩ : ∃ E, E = s.en f := ⟨_, rfl⟩
  obtain ⟨La, hLa⟩ : ∃ La, La = s.last := ⟨_, rfl⟩
  obtain ⟨T, hT⟩ : ∃ T, T = s.tag l := ⟨_, rfl⟩
  obtain ⟨Q, hQ⟩ : ∃ Q, Q = fw l wt s.next := ⟨_, rfl⟩
  have hTm : T = max E La := by rw [hT, hE, hLa, hf]; rfl
  have E0 : 0 ≤ E := by rw [hE]; exact hk.en0 f
  have E1 : E ≤ 840000 * 60 := by rw [hE]; have := hk.en1 f; omega
  have L0 : 0 ≤ La := by rw [hLa]; exact hk.last0
  have L1 : La ≤ 840000 * 60 := by rw [hLa]; have := hk.last1; omega
  have Qb := fw_bd q hv hlt
  rw [← hQ] at Qb
  obtain ⟨Q0, Q1⟩ := Qb
  have hQd : (840 * psz).tdiv x = Q := by
    rw [hQ, Int.tdiv_eq_ediv_of_nonneg (by omega), part_other x0 x1]
    unfold fw; rw [← hp, ← hf, hx]
  have hle := wl_len s
  have hnx := hk.nx
  have hL60 : (tks s).length ≤ 60 := by rw [length_tks]; omega
  obtain ⟨W, hW⟩ : ∃ W, W = w.alloc (.cells #[.int .i64 pa, .int .i64 psz, .int .i64 f] 32) := ⟨_, rfl⟩
  have KP : Blk W w.heap.size 32 #[.int .i64 pa, .int .i64 psz, .int .i64 f] := by rw [hW]; exact Blk.new _ _ _
  have KS : Blk W g 68 (srv (some ⟨b1, o1, none⟩) c s.en La v) := by rw [hW, hLa]; exact hS.blk.alloc _
  have KR : W.ownsRow base 96 2 v (tks s).length (tcs (tks s)) := by rw [hW]; exact hS.row.alloc _
  have hxW : W.cell? ⟨b1, o1 + f, none⟩ = some (.int .i64 x) := by rw [hW]; exact (((Below.refl w.heap.size w).alloc (Nat.le_refl _) _).cell (p := ⟨b1, _, none⟩) (cell_lt hx1)).trans hx1
  have TW : Tn (SrvS g v) w W := by rw [hW]; exact (Tn.refl _ _).alloc _
  have hgv := hS.ne
  have glo := hS.lo
  have gw := hS.blk.lt
  have hWs : W.heap.size = w.heap.size + 1 := by rw [hW]; simp
  have HWs := Lib.hid hWs
  have HW := Lib.hid hW
  have HP := Lib.hid hp
  have HF := Lib.hid hf
  have HT := Lib.hid hT
  have HQ := Lib.hid hQ
  have HTm := Lib.hid hTm
  have HLa := Lib.hid hLa
  have HKk := Lib.hid hk
  obtain ⟨p0, p1, p2⟩ := three_read KP
  have c0 : W.cell? ⟨g, 0, none⟩ = some (.slice (some ⟨b1, o1, none⟩) 8 c) := KS.cell 0
  have cE : W.cell? ⟨g, 1 + f, none⟩ = some (.int .i64 E) := by rw [KS.cell, srv_fin _ _ _ _ _ hf8, hE]
  have cL : W.cell? ⟨g, 9, none⟩ = some (.int .i64 La) := KS.cell 9
  have fE := KS.frozen (1 + f)
  have j1 : (f : Int) < 8 := by omega
  have m1 : IntKind.i64.wrap (840 * psz) = 840 * psz := IntWalk.i64_in _ ⟨by omega, by omega⟩
  have m2 : IntKind.i64.wrap ((840 * psz).tdiv x) = Q := by rw [hQd]; exact IntWalk.i64_in _ ⟨by omega, by omega⟩
  have TE : E ≤ T ∧ La ≤ T ∧ T ≤ 840000 * 60 := by omega
  have m3 : IntKind.i64.wrap (T + Q) = T + Q := IntWalk.i64_in _ ⟨by omega, by omega⟩
  have xz : ¬ x = 0 := by omega
  have ne1 : ¬ w.heap.size = g := by omega
  have ne2 : ¬ g = w.heap.size := by omega
  have ne3 : ¬ b1 = g := by omega
  have ne4 : ¬ g = b1 := by omega
  clear hWs hW hp hf hT hQ hLa hE hx hx1 hA hb0 hS hTm TE HX hv ok hk q
  go_enter Try.func33, Try.ntmps33
  go_upto_region 1 with fail
  rw [← HW.out]
  go_cut [6] (fun x6 wx => x6 = .int .i64 T ∧ wx = W.drew)
  case first =>
    rcases Int.lt_trichotomy E La with cc | cc | cc
    all_goals
      go_region
      go_wp2_with fail
      go_meet
      exact ⟨by rw [HTm.out]; congr 1; omega, rfl⟩
  case rest =>
  obtain ⟨rfl, rfl⟩ := hcut
  have W2K : Blk ((W.setCell ⟨g, 1 + f, none⟩ (.int .i64 (T + Q))).drew.drew) g 68 (srv (some ⟨b1, o1, none⟩) c (fup s.en f (T + Q)) La v) := by
    have := KS.set_ (1 + f) (.int .i64 (T + Q))
    rw [srv_set _ _ _ _ _ _ hf8] at this
    exact this
  have W2R : ((W.setCell ⟨g, 1 + f, none⟩ (.int .i64 (T + Q))).drew.drew).ownsRow base 96 2 v (tks s).length (tcs (tks s)) :=
    ((Tn.refl (fun k => k = g) W).set_ (p := ⟨g, 1 + f, none⟩) (.inl rfl) (.int .i64 (T + Q))).drew.drew.own KR (fun k hk e => by subst e; exact hgv hk)
  have W2T : Tn (SrvS g v) w ((W.setCell ⟨g, 1 + f, none⟩ (.int .i64 (T + Q))).drew.drew) := (TW.set_ (p := ⟨g, 1 + f, none⟩) (.inl (.inl rfl)) (.int .i64 (T + Q))).drew.drew
  obtain ⟨W2, hW2⟩ : ∃ W2, W2 = (W.setCell ⟨g, 1 + f, none⟩ (.int .i64 (T + Q))).drew.drew := ⟨_, rfl⟩
  have W2s : W2.heap.size = w.heap.size + 1 := by
    rw [hW2]
    show (W.setCell ⟨g, 1 + f, none⟩ (.int .i64 (T + Q))).heap.size = _
    rw [← HWs.out]; simp [World.setCell]
  rw [← hW2] at W2K W2R W2T
  have HW2 := Lib.hid hW2
  have HW2s := Lib.hid W2s
  clear hW2 KR TW W2s
  go_wp2
  go_region
  rw [← HW2.out]
  clear p0 p1 p2 c0 cE cL fE m1 m2 m3 KP KS HW HW2 hxW
  have c10 : W2.cell? ⟨g, 10, none⟩ = some v := W2K.cell 10
  go_wp2_with (at_builtin; refine wpList_append_own_at _ rfl _ _ 66 rfl base 96 i0 (.agg #[.int .i64 0, .int .i64 0]) 2 16 Try.underlying66 hi0 hz0 hz1 hz2 rfl (by decide) _ _ _ rfl (World.ownsRow.alloc W2R _) ⟨W2.heap.size, 0, none⟩ 1 1 [.int .i64 s.next, .int .i64 T] rfl rfl ?pc1 ?pc2 ?pc3 ?pc4 ?pc5 ?_)
  case pc1 => exact new_two _ _ _ _
  case pc2 => intro u hu; simp at hu; rcases hu with rfl | rfl <;> rfl
  case pc3 => unfold maxLen; omega
  case pc4 => omega
  case pc5 => have := HW2s.out; simp; omega
  have W2s := HW2s.out
  intro v' w5 hown' hgrow _ hloc
  have W5K : Blk w5 g 68 (srv (some ⟨b1, o1, none⟩) c (fup s.en f (T + Q)) La v) := (W2K.alloc _).same (hgrow.block g (by simp; omega) (fun e => hgv e.symm))
  have W5T : Tn (SrvS g v) w w5 := (W2T.alloc _).grown hgrow (fun k hk => .inl (.inr hk))
  have c11 : w5.cell? ⟨g, 10, none⟩ = some v := W5K.cell 10
  have f11 := W5K.frozen 10
  have g5 := W5K.lt
  have nv : v'.ownBlock ≠ some g := fun e => by
    rcases hloc with c | c
    · exact hgv (c.symm.trans e)
    · rw [c] at e; injection e with e; omega
  have HK : Hid (Blk (w5.setCell ⟨g, 10, none⟩ v') g 68 (srv (some ⟨b1, o1, none⟩) c (fup s.en f (T + Q)) La v')) := Lib.hid (by
    have := W5K.set_ 10 v'
    rw [srv_wait] at this
    exact this)
  have HO : Hid ((w5.setCell ⟨g, 10, none⟩ v').ownsRow base 96 2 v' ((tks s).length + 1) (tcs (tks s) ++ [.int .i64 s.next, .int .i64 T])) := Lib.hid (((Tn.refl (fun k => k = g) w5).set_ (p := ⟨g, 10, none⟩) (.inl rfl) v').own hown' (fun k hk e => by subst e; exact nv hk))
  have HTT : Hid (Tn (SrvS g v) w (w5.setCell ⟨g, 10, none⟩ v')) := Lib.hid (W5T.set_ (p := ⟨g, 10, none⟩) (.inl (.inl rfl)) v')
  have HL : Hid (∀ k, v'.ownBlock = some k → v.ownBlock = some k ∨ w.heap.size ≤ k) := Lib.hid (fun k hk => by
    rcases hloc with c | c
    · exact .inl (c.symm.trans hk)
    · rw [c] at hk; injection hk with hk; right; omega)
  obtain ⟨g', cap', hv'⟩ : ∃ g' cap', v' = .slice (some ⟨g', 0, none⟩) ((tks s).length + 1) cap' := by
    rcases hown'.2 with ⟨_, h0⟩ | ⟨g', cap', cur, h1, _⟩
    · omega
    · exact ⟨g', cap', h1⟩
  clear hown' hgrow hloc W5K W5T W2K W2R W2T c10
  subst hv'
  go_wp2
  refine ⟨rfl, .tuple #[], by simp [results, Try.results33, go_sem], rfl, _, ⟨?_, ?_, glo⟩, HTT.out, HL.out⟩
  · have e : (s.put l wt).en = fup s.en f (T + Q) := by rw [HF.out, HT.out, HQ.out]; rfl
    rw [e, ← HLa.out]; exact HK.out
  · rw [tks_put HKk.out, ← HT.out, List.length_append, tcs_app]; exact HO.out

end Go.Proofs.Ytamkadffencpgaa
