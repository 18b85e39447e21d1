
/-
  Walks: the document's own server in memory; a packet put into its waiting list.
-/
import Derived.Test.YtamkadffencpgaaFairD
namespace Go.Proofs.Ytamkadffencpgaa
set_option linter.all false
open Go.RowKit Go.Shelf Go.Lib

def ens (en : Nat → Int) : Array Value := #[.int .i64 (en 0), .int .i64 (en 1), .int .i64 (en 2), .int .i64 (en 3), .int .i64 (en 4), .int .i64 (en 5), .int .i64 (en 6), .int .i64 (en 7)]
theorem ens_get (en : Nat → Int) {f : Nat} (h : f < 8) : (ens en)[f]? = some (.int .i64 (en f)) := by
  have : f = 0 ∨ f = 1 ∨ f = 2 ∨ f = 3 ∨ f = 4 ∨ f = 5 ∨ f = 6 ∨ f = 7 := by omega
  rcases this with e | e | e | e | e | e | e | e <;> subst e <;> rfl
theorem ens_set (en : Nat → Int) (x : Int) {f : Nat} (h : f < 8) : (ens en).setIfInBounds f (.int .i64 x) = ens (fup en f x) := by
  have : f = 0 ∨ f = 1 ∨ f = 2 ∨ f = 3 ∨ f = 4 ∨ f = 5 ∨ f = 6 ∨ f = 7 := by omega
  rcases this with e | e | e | e | e | e | e | e <;> subst e <;> rfl

/-- The nine blocks from b on, and the waiting list. -/
structure RMem (w : World) (b : Nat) (A B : Option Addr) (c nl d : Nat) (s : Fs) (u : Value) : Prop where
  bw : Blk w b 22 #[.slice A 8 c]
  bl : Blk w (b + 1) 23 #[.slice B nl d]
  mp : Mp w (b + 2) s.next s.bg
  bm : Blk w (b + 3) 75 #[.map (some (b + 2))]
  en : Blk w (b + 4) 3 (ens s.en)
  be : Blk w (b + 5) 22 #[.slice (some ⟨b + 4, 0, none⟩) 8 8]
  wt : Blk w (b + 6) 22 #[u]
  la : Blk w (b + 7) 3 #[.int .i64 s.last]
  nx : Blk w (b + 8) 3 #[.int .i64 s.next]
  row : w.ownsRow (b + 9) 3 1 u (wl s).length (ncs (wl s))
theorem RMem.tn {w w' : World} {b : Nat} {A B : Option Addr} {c nl d : Nat} {s : Fs} {u : Value} {S : Nat → Prop} (h : RMem w b A B c nl d s u) (t : Tn S w w') (h1 : ∀ k, S k → k < b ∨ b + 9 ≤ k) (h2 : ∀ k, u.ownBlock = some k → ¬ S k) : RMem w' b A B c nl d s u := by
  have n : ∀ j, j < 9 → ¬ S (b + j) := fun j hj c => by have := h1 _ c; omega
  exact ⟨t.blk h.bw (n 0 (by omega)), t.blk h.bl (n 1 (by omega)), h.mp.tn t (n 2 (by omega)), t.blk h.bm (n 3 (by omega)), t.blk h.en (n 4 (by omega)), t.blk h.be (n 5 (by omega)), t.blk h.wt (n 6 (by omega)), t.blk h.la (n 7 (by omega)), t.blk h.nx (n 8 (by omega)), t.own h.row h2⟩
theorem one_cell {w : World} {b : Nat} {t : TypeId} {v : Value} (h : Blk w b t #[v]) : w.cell? ⟨b, 0, none⟩ = some v := by simpa using h.cell 0
theorem one_set {w : World} {b : Nat} {t : TypeId} {v : Value} (h : Blk w b t #[v]) (u : Value) : Blk (w.setCell ⟨b, 0, none⟩ u) b t #[u] := by simpa using h.set_ 0 u
def RSet (b : Nat) (u : Value) (k : Nat) : Prop := (b ≤ k ∧ k < b + 9) ∨ u.ownBlock = some k

set_option maxRecDepth 100000 in
set_option maxHeartbeats 6400000 in
theorem putc_any (b : Nat) (A B : Option Addr) (c d : Nat) (v : List Int) (l : List Pk) (s : Fs) (u : Value) (w0 w : World) (q : Qu l) (hv : Wts v) (hk : Fi l v s) (hlt : s.next < l.length) (hA : Ints w0 A v) (hP : Pks w0 B l) (hb0 : Below w0.heap.size w0 w) (hB : w0.heap.size ≤ b) (hS : RMem w b A B c l.length d s u) :
    Calls Try.prog 41 #[.pointer (some ⟨b + 1, 0, none⟩), .pointer (some ⟨b + 8, 0, none⟩), .pointer (some ⟨b + 5, 0, none⟩), .pointer (some ⟨b + 7, 0, none⟩), .pointer (some ⟨b + 3, 0, none⟩), .pointer (some ⟨b, 0, none⟩), .pointer (some ⟨b + 6, 0, none⟩)] w fun e w' =>
      e = .returned (.tuple #[]) ∧ ∃ u', RMem w' b A B c l.length d (s.put l v) u' ∧ Tn (RSet b u) w w' ∧ (∀ k, u'.ownBlock = some k → u.ownBlock = some k ∨ w.heap.size ≤ k) := by
  obtain ⟨i0, hi0, hz0, hz1, hz2⟩ := info_parts int_info
  have ok := q.ok s.next hlt
  have hq := q.le
  obtain ⟨bb, off, p, rfl, hbl, p0, p1, p2, HP⟩ := (hP.below hb0).get hlt
  have hK := pk_of HP.out
  rw [hK] at ok
  obtain ⟨f, hf⟩ : ∃ f : Nat, f = fl l s.next := ⟨_, rfl⟩
  have hf8 : f < 8 := by rw [hf]; exact fl_lt q hlt
  have hff : p.flow = (f : Int) := by rw [hf]; unfold fl; rw [hK]; have := ok.f0; omega
  rw [hff] at p2
  have s0 := ok.s0
  have s1 := ok.s1
  obtain ⟨b1, o1, x, rfl, hx1, HX⟩ := (hA.below hb0).at_ (k := f) (by rw [hv.len]; exact hf8)
  have hx := gt_of_get HX.out
  have x0 : 1 ≤ x := by rw [← hx]; exact hv.lo f hf8
  have x1 : x ≤ 8 := by rw [← hx]; exact hv.hi f hf8
  obtain ⟨E, hE⟩ : ∃ E, E = s.en f := ⟨_, rfl⟩
  obtain ⟨La, hLa⟩ : ∃ La, La = s.last := ⟨_, rfl⟩
  obtain ⟨T, hT⟩ : ∃ T, T = s.tag l := ⟨_, rfl⟩
  obtain ⟨Q, hQ⟩ : ∃ Q, Q = fw l v s.next := ⟨_, rfl⟩
  have hTm : T = max E La := by rw [hT, hE, hLa, hf]; rfl
  have E0 : 0 ≤ E := by rw [hE]; exact hk.en0 f
  have E1 : E ≤ 840000 * 60 := by rw [hE]; have := hk.en1 f; omega
  have L0 : 0 ≤ La := by rw [hLa]; exact hk.last0
  have L1 : La ≤ 840000 * 60 := by rw [hLa]; have := hk.last1; omega
  have Qb := fw_bd q hv hlt
  rw [← hQ] at Qb
  obtain ⟨Q0, Q1⟩ := Qb
  obtain ⟨R, hR⟩ : ∃ R, R = 840 / x := ⟨_, rfl⟩
  have hRd : (840 : Int).tdiv x = R := by rw [hR, Int.tdiv_eq_ediv_of_nonneg (by omega)]
  have Rb := part_of x0 x1
  rw [← hR] at Rb
  obtain ⟨_, R0, R1⟩ := Rb
  have hQd : R * p.size = Q := by rw [hQ, hR]; unfold fw; rw [hK, ← hf, hx]
  have hle := wl_len s
  have hnx := hk.nx
  have n60 : s.next < 60 := by omega
  obtain ⟨W, hW⟩ : ∃ W, W = w.alloc (.cells #[.int .i64 p.at_, .int .i64 p.size, .int .i64 f] 32) := ⟨_, rfl⟩
  have KP : Blk W w.heap.size 32 #[.int .i64 p.at_, .int .i64 p.size, .int .i64 f] := by rw [hW]; exact Blk.new _ _ _
  have bw9 := hS.nx.lt
  have TA : Tn (fun _ => False) w W := by rw [hW]; exact (Tn.refl _ _).alloc _
  have KS := hS.tn TA (fun k e => e.elim) (fun k _ e => e)
  have hxW : W.cell? ⟨b1, o1 + f, none⟩ = some (.int .i64 x) := by rw [hW]; exact (((Below.refl w.heap.size w).alloc (Nat.le_refl _) _).cell (p := ⟨b1, _, none⟩) (cell_lt hx1)).trans hx1
  have b1l : b1 < w0.heap.size := by
    obtain ⟨b', o', y, e, hc', _⟩ := hA.at_ (k := f) (by rw [hv.len]; exact hf8)
    injection e with e; injection e with e1 e2
    subst e1
    exact cell_lt hc'
  have TW : Tn (RSet b u) w W := by rw [hW]; exact (Tn.refl _ _).alloc _
  have hWs : W.heap.size = w.heap.size + 1 := by rw [hW]; simp
  have HWs := Lib.hid hWs
  have HW := Lib.hid hW
  have HKP := Lib.hid hK
  have HF := Lib.hid hf
  have HT := Lib.hid hT
  have HQ := Lib.hid hQ
  have HTm := Lib.hid hTm
  have HLa := Lib.hid hLa
  have HKk := Lib.hid hk
  have HE := Lib.hid hE
  have rlo := fun k hk => (hS.row.lt k hk).1
  have RLO := Lib.hid rlo
  obtain ⟨r0, r1, r2⟩ := three_read KP
  have a0 := one_cell hS.bl
  have a1 := one_cell hS.nx
  have d1 := one_cell KS.bm
  have d2 := one_cell KS.be
  have d3 := one_cell KS.la
  have d4 := one_cell KS.nx
  have d5 := one_cell KS.bw
  have dE : W.cell? ⟨b + 4, f, none⟩ = some (.int .i64 E) := by rw [KS.en.cell, ens_get _ hf8, hE]
  have HB4 := Lib.hid KS.en
  rw [← hLa] at d3
  have j1 : (f : Int) < 8 := by omega
  have j2 : (s.next : Int) < (l.length : Int) := by omega
  have HQd := Lib.hid hQd
  have HRd := Lib.hid hRd
  have TE : 0 ≤ T ∧ T ≤ 840000 * 60 := by omega
  obtain ⟨T0, T1⟩ := TE
  have xz : ¬ x = 0 := by omega
  clear hWs hW hf hT hQ hLa hE hx hx1 hA hP hb0 TA hTm HX hv ok hk q hK HP hff hR hQd hRd
  go_enter Try.func41, Try.ntmps41
  go_upto_region 1 with fail
  rw [← HW.out]
  go_cut [] (fun wx => Mp wx (b + 2) (s.next + 1) (fup s.bg s.next T) ∧ W.grownBy wx (some (b + 2)))
  case first =>
    rcases Int.lt_trichotomy E La with cc | cc | cc
    all_goals
      obtain ⟨wl, hrl, hml, hgl⟩ := (show Mp W.drew (b + 2) s.next s.bg from KS.mp).put La n60 L0 (by omega)
      obtain ⟨we, hre, hme, hge⟩ := (show Mp W.drew (b + 2) s.next s.bg from KS.mp).put E n60 E0 (by omega)
      have hTV := HTm.out
      first
        | (have e : T = La := by omega
           have HM : Hid (Mp wl (b + 2) (s.next + 1) (fup s.bg s.next T)) := Lib.hid (by rw [e]; exact hml)
           clear hTV hml hme hge hre e HTm)
        | (have e : T = E := by omega
           have HM : Hid (Mp we (b + 2) (s.next + 1) (fup s.bg s.next T)) := Lib.hid (by rw [e]; exact hme)
           clear hTV hml hme hgl hrl e HTm)
    · go_region
      go_wp2_with fail
      go_meet
      exact ⟨HM.out, ⟨hgl.os, hgl.tape, hgl.output, hgl.size, hgl.block⟩⟩
    · subst cc
      go_region
      all_goals
        go_wp2_with fail
        go_meet
        exact ⟨HM.out, ⟨hgl.os, hgl.tape, hgl.output, hgl.size, hgl.block⟩⟩
    · go_region
      go_wp2_with fail
      go_meet
      exact ⟨HM.out, ⟨hge.os, hge.tape, hge.output, hge.size, hge.block⟩⟩
  case rest =>
  obtain ⟨KM, hgr⟩ := hcut
  have T2 : Tn (fun k => k = b + 2) W wc := (Tn.refl _ W).grown hgr (fun k e => .inl (by injection e with e; exact e.symm))
  have hw2 : w.heap.size + 1 ≤ wc.heap.size := by have := hgr.size; have := HWs.out; omega
  have KP2 := T2.blk KP (fun e => by omega)
  have bw2 := T2.blk KS.bw (fun e => by omega)
  have bl2 := T2.blk KS.bl (fun e => by omega)
  have bm2 := T2.blk KS.bm (fun e => by omega)
  have en2 := T2.blk KS.en (fun e => by omega)
  have be2 := T2.blk KS.be (fun e => by omega)
  have wt2 := T2.blk KS.wt (fun e => by omega)
  have la2 := T2.blk KS.la (fun e => by omega)
  have nx2 := T2.blk KS.nx (fun e => by omega)
  have row2 := T2.own KS.row (fun k hk e => by have := RLO.out k hk; omega)
  have hx2 : wc.cell? ⟨b1, o1 + f, none⟩ = some (.int .i64 x) := (World.cell?_of_block (w := W) (w' := wc) (a := ⟨b1, o1 + f, none⟩) (T2.block b1 (by have := HWs.out; omega) (fun e => by omega))).trans hxW
  have TW2 : Tn (RSet b u) w wc := TW.then_ T2 (fun k _ e => .inl ⟨by omega, by omega⟩)
  clear r0 r1 r2 a0 a1 d1 d2 d3 d4 d5 dE HB4 hxW T2 hgr KS KP TW HW
  obtain ⟨r0, r1, r2⟩ := three_read KP2
  have d1 := one_cell bm2
  have d2 := one_cell be2
  have d4 := one_cell nx2
  have d5 := one_cell bw2
  have dE : wc.cell? ⟨b + 4, f, none⟩ = some (.int .i64 E) := by rw [en2.cell, ens_get _ hf8, HE.out]
  have fE := en2.frozen f
  have lk : (Instr.lookup 75 (.map (some (b + 2))) (.int .i64 s.next) false).run Try.prog wc.drew = .ok (.int .i64 T) wc.drew := by
    have := (show Mp wc.drew (b + 2) (s.next + 1) (fup s.bg s.next T) from KM).look (i := s.next) (by omega) (by omega)
    rwa [fup_at] at this
  obtain ⟨W3, hW3⟩ : ∃ W3, W3 = (wc.setCell ⟨b + 4, f, none⟩ (.int .i64 (T + Q))).drew := ⟨_, rfl⟩
  have T3 : Tn (fun k => k = b + 4) wc W3 := by rw [hW3]; exact ((Tn.refl (fun k => k = b + 4) wc).set_ (p := ⟨b + 4, f, none⟩) (.inl rfl) _).drew
  have bw3 := T3.blk bw2 (fun e => by omega)
  have bl3 := T3.blk bl2 (fun e => by omega)
  have mp3 := KM.tn T3 (fun e => by omega)
  have bm3 := T3.blk bm2 (fun e => by omega)
  have en3 : Blk W3 (b + 4) 3 (ens (fup s.en f (T + Q))) := by
    have := en2.set_ f (.int .i64 (T + Q))
    rw [ens_set _ _ hf8] at this
    rw [hW3]; exact this
  have be3 := T3.blk be2 (fun e => by omega)
  have wt3 := T3.blk wt2 (fun e => by omega)
  have la3 := T3.blk la2 (fun e => by omega)
  have nx3 := T3.blk nx2 (fun e => by omega)
  have row3 := T3.own row2 (fun k hk e => by have := RLO.out k hk; omega)
  have TW3 : Tn (RSet b u) w W3 := TW2.then_ T3 (fun k _ e => .inl ⟨by omega, by omega⟩)
  have hw3 : w.heap.size + 1 ≤ W3.heap.size := by have := T3.size; omega
  have HW3 := Lib.hid hW3
  clear hW3 T3 bw2 bl2 bm2 en2 be2 wt2 la2 nx2 row2 TW2 KM KP2
  have hQd := HQd.out
  have hRd := HRd.out
  go_wp2
  go_still_tail 17, (by kernel_rfl)
  change wpList _ _ _ _ _ wc.drew
  go_upto_region 3 with fail
  rw [HQd.out, ← HW3.out]
  clear r0 r1 r2 d1 d2 d4 d5 dE fE lk hx2 hQd hRd HW3 hw2
  have d6 := one_cell wt3
  have d8 := one_cell nx3
  have HN3 := Lib.hid hw3
  clear hw3
  go_wp2_with (at_builtin; refine wpList_append_own_at _ rfl _ _ 22 rfl (b + 9) 3 i0 (.int .i64 0) 1 8 Try.underlying22 hi0 hz0 hz1 hz2 rfl (by decide) _ _ _ rfl (World.ownsRow.alloc row3 _) ⟨W3.heap.size, 0, none⟩ 1 1 [.int .i64 s.next] rfl rfl (cell_one_new _ _ _) ?ec2 ?ec3 ?ec4 ?ec5 ?_)
  case ec2 => intro u hu; simp at hu; subst hu; rfl
  case ec3 => unfold maxLen; omega
  case ec4 => omega
  case ec5 => have := HN3.out; simp; omega
  intro u' w5 hown' hgrow _ hloc
  have T5 : Tn (fun k => u.ownBlock = some k) W3 w5 := ((Tn.refl _ W3).alloc _).grown hgrow (fun k hk => .inl hk)
  have out5 : ∀ j, j < 9 → ¬ u.ownBlock = some (b + j) := fun j hj e => by have := RLO.out _ e; omega
  have bw5 := T5.blk bw3 (out5 0 (by omega))
  have bl5 := T5.blk bl3 (out5 1 (by omega))
  have mp5 := mp3.tn T5 (out5 2 (by omega))
  have bm5 := T5.blk bm3 (out5 3 (by omega))
  have en5 := T5.blk en3 (out5 4 (by omega))
  have be5 := T5.blk be3 (out5 5 (by omega))
  have wt5 := T5.blk wt3 (out5 6 (by omega))
  have la5 := T5.blk la3 (out5 7 (by omega))
  have nx5 := T5.blk nx3 (out5 8 (by omega))
  have TW5 : Tn (RSet b u) w w5 := TW3.then_ T5 (fun k _ e => .inr e)
  obtain ⟨g', cap', hu'⟩ : ∃ g' cap', u' = .slice (some ⟨g', 0, none⟩) ((wl s).length + 1) cap' := by
    rcases hown'.2 with ⟨_, h0⟩ | ⟨g', cap', cur, h1, _⟩
    · omega
    · exact ⟨g', cap', h1⟩
  have glo : b + 9 ≤ g' := by have := (hown'.lt g' (by rw [hu']; rfl)).1; omega
  have HL : Hid (∀ k, u'.ownBlock = some k → u.ownBlock = some k ∨ w.heap.size ≤ k) := Lib.hid (fun k hk => by
    rcases hloc with e | e
    · exact .inl (e.symm.trans hk)
    · rw [e] at hk; injection hk with hk; right; have := HN3.out; omega)
  have e6 := one_cell wt5
  have f6 := wt5.frozen 0
  have e8 := one_cell nx5
  have f8 := nx5.frozen 0
  have l8 := nx5.lt
  obtain ⟨S5, hS5⟩ : ∃ S5, S5 = (w5.setCell ⟨b + 6, 0, none⟩ u').setCell ⟨b + 8, 0, none⟩ (.int .i64 ((s.next : Int) + 1)) := ⟨_, rfl⟩
  have T6 : Tn (fun k => k = b + 6 ∨ k = b + 8) w5 S5 := by rw [hS5]; exact ((Tn.refl (fun k => k = b + 6 ∨ k = b + 8) w5).set_ (p := ⟨b + 6, 0, none⟩) (.inl (.inl rfl)) _).set_ (p := ⟨b + 8, 0, none⟩) (.inl (.inr rfl)) _
  have HR : Hid (RMem S5 b (some ⟨b1, o1, none⟩) (some ⟨bb, off, none⟩) c l.length d (s.put l v) u') := Lib.hid (by
    have e1 : (s.put l v).en = fup s.en f (T + Q) := by rw [HF.out, HT.out, HQ.out]; rfl
    have e2 : (s.put l v).bg = fup s.bg s.next T := by rw [HT.out]; rfl
    refine ⟨T6.blk bw5 (by omega), T6.blk bl5 (by omega), ?_, T6.blk bm5 (by omega), ?_, T6.blk be5 (by omega), ?_, T6.blk la5 (by omega), ?_, ?_⟩
    · rw [e2]; exact mp5.tn T6 (by omega)
    · rw [e1]; exact T6.blk en5 (by omega)
    · rw [hS5]; exact (one_set wt5 u').past (a := ⟨b + 8, 0, none⟩) (by simp) _
    · rw [hS5]; exact one_set (nx5.past (a := ⟨b + 6, 0, none⟩) (by simp) u') _
    · rw [wl_put HKk.out, List.length_append]
      have : ncs (wl s ++ [s.next]) = ncs (wl s) ++ [.int .i64 s.next] := by simp [ncs, nts]
      rw [this]
      exact T6.own hown' (fun k hk e => by rw [hu'] at hk; simp [Value.ownBlock] at hk; omega))
  have HTT : Hid (Tn (RSet b u) w S5) := Lib.hid (TW5.then_ T6 (fun k _ e => .inl (by omega)))
  have HS5 := Lib.hid hS5
  clear hown' hgrow hloc T5 out5 bw5 bl5 mp5 bm5 en5 be5 wt5 la5 nx5 TW5 T6 hS5 bw3 bl3 mp3 bm3 en3 be3 wt3 la3 nx3 row3 TW3 d6 d8
  subst hu'
  go_wp2
  rw [← HS5.out]
  exact ⟨rfl, .tuple #[], by simp [results, Try.results41, go_sem], rfl, _, HR.out, HTT.out, HL.out⟩

end Go.Proofs.Ytamkadffencpgaa
