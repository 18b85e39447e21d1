
/-
  Walks: does a queue wait; a round.
-/
import Derived.Test.YtamkadffencpgaaSentA
namespace Go.Proofs.Ytamkadffencpgaa
set_option linter.all false
open Go.RowKit Go.Shelf

abbrev fWaits : FuncId := 54
set_option maxHeartbeats 800000 in
theorem indexq_any (g : Nat) (l : List Fw) (X : Nat → Nat) (D : Nat → Int) (w : World) (h : Qb w g l X D) (hl : l.length ≤ 8) (hz : ∀ (k : Nat) (f : Fw), l[k]? = some f → f.z.length ≤ 60) :
    Calls Try.prog 66 #[.slice (some ⟨g, 0, none⟩) l.length l.length, .func (.func fWaits) #[] #[]] w fun e w' => ∃ r : Int, e = .returned (.int .i64 r) ∧ ((r = -1 ∧ ∀ (k : Nat) (f : Fw), l[k]? = some f → ¬ X k < f.z.length) ∨ (0 ≤ r ∧ ∃ (k : Nat) (f : Fw), l[k]? = some f ∧ X k < f.z.length)) ∧ Below w.heap.size w w' := by
  have hent := enters_of Try.func54 (by kernel_rfl) rfl
  go_enter Try.func66, Try.ntmps66
  go_wp2
  go_loopw [8] (fun i wr => ∃ k : Nat, k ≤ l.length ∧ i = .int .i64 k ∧ Hid (∀ (j : Nat) (f : Fw), l[j]? = some f → j < k → ¬ X j < f.z.length) ∧ Below w.heap.size w wr) (fun i _ => l.length - (intOf i).toNat)
  case atStart => exact ⟨0, Nat.zero_le _, rfl, Lib.hid (fun j f _ hj => by omega), Below.refl _ _⟩
  case round =>
    obtain ⟨k, hk, rfl, HN, hbel⟩ := hrel
    by_cases hlt : k < l.length
    · obtain ⟨f, hf⟩ : ∃ f, l[k]? = some f := ⟨_, List.getElem?_eq_getElem hlt⟩
      obtain ⟨c0, c1, c2, c3⟩ := (h.below hbel).read hf
      have HF := Lib.hid hf
      have i1 : (k : Int) < (l.length : Int) := by omega
      have hn := hz k f hf
      clear hf
      go_wp2_with fail
      refine (waits_any f.q f.a f.z.length f.c (X k) (D k) _ (by omega)).mono ?_
      rintro e w1 ⟨rfl, b1⟩
      have hb1 := below_trans hbel b1
      clear b1 c0 c1 c2 c3
      by_cases hx : X k < f.z.length
      · have e1 : decide (X k < f.z.length) = true := decide_eq_true hx
        rw [e1]
        clear e1
        go_wp2
        go_ret
        exact ⟨k, rfl, .inr ⟨by omega, k, f, HF.out, hx⟩, hb1⟩
      · have e1 : decide (X k < f.z.length) = false := decide_eq_false hx
        rw [e1]
        have HN' : Hid (∀ (j : Nat) (f : Fw), l[j]? = some f → j < k + 1 → ¬ X j < f.z.length) := Lib.hid (fun j f' hj hjk => by
          by_cases c : j = k
          · subst c
            have := HF.out
            rw [hj] at this
            obtain rfl : f' = f := by injection this
            exact hx
          · exact HN.out j f' hj (by omega))
        clear e1
        go_wp2
        go_roundw
        case rel => exact ⟨k + 1, by omega, by go_num, HN', hb1⟩
        case measure => simp [intOf]; omega
    · go_wp2
      go_ret
      exact ⟨-1, rfl, .inl ⟨rfl, fun j f hj => HN.out j f hj (by have := (List.getElem?_eq_some_iff.1 hj).1; omega)⟩, hbel⟩

set_option maxHeartbeats 800000 in
theorem containsq_any (g : Nat) (l : List Fw) (X : Nat → Nat) (D : Nat → Int) (w : World) (h : Qb w g l X D) (hl : l.length ≤ 8) (hz : ∀ (k : Nat) (f : Fw), l[k]? = some f → f.z.length ≤ 60) :
    Calls Try.prog 53 #[.slice (some ⟨g, 0, none⟩) l.length l.length, .func (.func fWaits) #[] #[]] w fun e w' => ((e = .returned (.bool false) ∧ ∀ (k : Nat) (f : Fw), l[k]? = some f → ¬ X k < f.z.length) ∨ (e = .returned (.bool true) ∧ ∃ (k : Nat) (f : Fw), l[k]? = some f ∧ X k < f.z.length)) ∧ Below w.heap.size w w' := by
  go_enter Try.func53, Try.ntmps53
  go_wp2_with fail
  refine (indexq_any g l X D _ h hl hz).mono ?_
  rintro e w1 ⟨r, rfl, hr, b1⟩
  have HR := Lib.hid hr
  by_cases h0 : 0 ≤ r
  · clear hr
    go_wp2
    go_ret
    refine ⟨.inr ⟨rfl, ?_⟩, b1⟩
    rcases HR.out with ⟨c, _⟩ | ⟨_, c⟩
    · omega
    · exact c
  · have e1 : decide (0 ≤ r) = false := decide_eq_false h0
    clear hr
    go_wp2
    go_ret
    refine ⟨.inl ⟨rfl, ?_⟩, b1⟩
    rcases HR.out with ⟨_, c⟩ | ⟨c, _⟩
    · exact c
    · omega

theorem grown_trans {w a b : World} {g : Nat} {row : Option Nat} (h1 : w.grownBy a (some g)) (h2 : a.grownBy b row) (hr : ∀ k, row = some k → k = g ∨ w.heap.size ≤ k) : w.grownBy b (some g) :=
  ⟨h2.os.trans h1.os, h2.tape.trans h1.tape, h2.output.trans h1.output, Nat.le_trans h1.size h2.size, fun k hk hne => by
    rw [h2.block k (Nat.lt_of_lt_of_le hk h1.size) (fun e => ?_), h1.block k hk hne]
    rcases hr k e.symm with c | c
    · exact hne (by rw [c])
    · omega⟩
theorem grown_below {w a b : World} {g : Nat} (h1 : w.grownBy a (some g)) (h2 : Below a.heap.size a b) : w.grownBy b (some g) :=
  ⟨h2.os.trans h1.os, h2.tape.trans h1.tape, h2.output.trans h1.output, Nat.le_trans h1.size h2.size, fun k hk hne => by
    rw [h2.block k (Nat.lt_of_lt_of_le hk h1.size), h1.block k hk hne]⟩
theorem grown_refl (w : World) (g : Nat) : w.grownBy w (some g) := ⟨rfl, rfl, rfl, Nat.le_refl _, fun _ _ _ => rfl⟩
theorem grown_set {w a : World} {g : Nat} (h1 : w.grownBy a (some g)) (i : Nat) (u : Value) : w.grownBy (a.setCell ⟨g, i, none⟩ u) (some g) := by
  have b : Below g a (a.setCell ⟨g, i, none⟩ u) := (Below.refl g a).setCell (p := ⟨g, i, none⟩) (Nat.le_refl _) u
  exact ⟨b.os.trans h1.os, b.tape.trans h1.tape, b.output.trans h1.output, Nat.le_trans h1.size b.size, fun k hk hne => by
    rw [Below.heap_setCell a ⟨g, i, none⟩ u k (fun e => hne (by rw [e])), h1.block k hk hne]⟩
theorem grown_four {w a : World} {g : Nat} (h1 : w.grownBy a (some g)) (i j k n : Nat) (u v x y : Value) : w.grownBy ((((a.setCell ⟨g, i, none⟩ u).setCell ⟨g, j, none⟩ v).setCell ⟨g, k, none⟩ x).setCell ⟨g, n, none⟩ y) (some g) :=
  grown_set (grown_set (grown_set (grown_set h1 i u) j v) k x) n y
theorem below_grown {B : Nat} {w0 w w' : World} {g : Nat} (h : Below B w0 w) (hg : w.grownBy w' (some g)) (hB : B ≤ w.heap.size) (h' : B ≤ g) : Below B w0 w' := h.grown hg hB (fun k e => by injection e with e; omega)

theorem own_bel {w w' : World} {base n size : Nat} {e : TypeId} {v : Value} {xs : List Value} (h : w.ownsRow base e size v n xs) (hb : Below w.heap.size w w') : w'.ownsRow base e size v n xs :=
  h.kept (row := none) ⟨hb.os, hb.tape, hb.output, hb.size, fun k hk _ => hb.block k hk⟩ (by cases v.ownBlock <;> simp)
/-- How far the queues are behind m rounds. -/
def RInv (l : List Fw) (m : Nat) (X : Nat → Nat) (D : Nat → Int) (k : Nat) : Prop := ∀ f : Fw, l[k]? = some f → X k = f.f.cn m ∧ (X k < f.z.length → D k = (m : Int) * f.q - sumV f.z (X k))

set_option maxHeartbeats 3200000 in
theorem round_any (A : Option Addr) (g : Nat) (l : List Fw) (m : Nat) (X : Nat → Nat) (D : Nat → Int) (w0 w : World) (v : Flws (fls l)) (h : Fls w0 A l) (hb : Below w0.heap.size w0 w) (hg : w0.heap.size ≤ g) (hq : Qb w g l X D) (hi : ∀ k, RInv l m X D k) :
    Calls Try.prog 55 #[.slice (some ⟨g, 0, none⟩) l.length l.length] w fun e w' => ∃ v X' D', e = .returned v ∧ w'.ownsRow w.heap.size 60 2 v (rndL (fls l) m l.length).length (scs (rndL (fls l) m l.length)) ∧ Qb w' g l X' D' ∧ (∀ k, RInv l (m + 1) X' D' k) ∧ w.grownBy w' (some g) := by
  obtain ⟨i0, hi0, hz0, hz1, hz2⟩ := info_parts sent_info
  have hgw := hq.lt
  have h8 : l.length ≤ 8 := by have := v.le; rwa [length_fls] at this
  go_enter Try.func55, Try.ntmps55
  go_wp2
  go_loopw [3, 9] (fun s i wr => ∃ (k : Nat) (X' : Nat → Nat) (D' : Nat → Int), k ≤ l.length ∧ i = .int .i64 k ∧ wr.ownsRow w.heap.size 60 2 s (rndL (fls l) m k).length (scs (rndL (fls l) m k)) ∧ Qb wr g l X' D' ∧ Hid (∀ j, RInv l (if j < k then m + 1 else m) X' D' j) ∧ w.grownBy wr (some g)) (fun _ i _ => l.length - (intOf i).toNat)
  case atStart => exact ⟨0, X, D, Nat.zero_le _, rfl, World.ownsRow_nil _ _ _ _, hq, Lib.hid (fun j => by rw [if_neg (by omega)]; exact hi j), grown_refl _ _⟩
  case round =>
    clear hq hi
    obtain ⟨k, X', D', hk, rfl, hown, hq, HI, hgr⟩ := hrel
    by_cases hlt : k < l.length
    · have hbw : Below w0.heap.size w0 wr := below_grown hb hgr hb.size hg
      obtain ⟨bb, off, f, hA, _, _, _, iz, kz, HP⟩ := h.get hlt
      have iz' : Ints wr f.a f.z := iz.below hbw
      obtain ⟨c0, c1, c2, c3⟩ := hq.read HP.out
      have fo : FlwOk f.f := by
        have := v.ok k (by rw [length_fls]; exact hlt)
        rwa [flw_of HP.out] at this
      have zl : f.z.length ≤ 60 := fo.sz.le
      have hIk := HI.out k f HP.out
      rw [if_neg (by omega)] at hIk
      have i1 : (k : Int) < (l.length : Int) := by omega
      obtain ⟨xk, hxk⟩ : ∃ x, x = X' k := ⟨_, rfl⟩
      obtain ⟨dk, hdk⟩ : ∃ x, x = D' k := ⟨_, rfl⟩
      rw [← hxk] at c2 hIk
      rw [← hdk] at c3 hIk
      have HIk := Lib.hid hIk
      have HX := Lib.hid hxk
      clear hIk hA hxk hdk
      go_wp2_with fail
      refine (waits_any f.q f.a f.z.length f.c xk dk _ (by omega)).mono ?_
      rintro e w1 ⟨rfl, b1⟩
      have Bq := (Blk.new wr 91 #[.int .i64 f.q, .slice f.a f.z.length f.c, .int .i64 xk, .int .i64 dk]).below b1
      have b1' := below_of1 b1
      have hq1 := hq.below b1'
      have hgr1 := grown_below hgr b1'
      have hown1 := own_bel hown b1'
      have iz1 := iz'.below b1'
      have hlq : g < wr.heap.size := hq.lt
      have hgl : l.length ≤ 8 := h8
      clear b1 b1' hq hgr hown c0 c1 c2 c3 hbw iz'
      have hF : flw (fls l) k = f.f := flw_of HP.out
      have HFk := Lib.hid hF
      clear hF
      by_cases hx : xk < f.z.length
      · have e1 : decide (xk < f.z.length) = true := decide_eq_true hx
        rw [e1]
        clear e1
        obtain ⟨p0, p1, p2, p3⟩ := four_read Bq
        go_wp2_with fail
        refine (turn_any f.q f.a f.z f.c xk m dk _ fo iz1 HIk.out.1 (HIk.out.2 hx) hx).mono ?_
        rintro e w2 ⟨y, dy, hy, hdy, rfl, b2⟩
        have Bq2 := Bq.below b2
        have hq2 := hq1.below b2
        have hgr2 := grown_below hgr1 b2
        have hown2 := own_bel hown1 b2
        have HY := Lib.hid hy
        have HDY := Lib.hid hdy
        have hxy : xk ≤ y := by rw [hy, HIk.out.1]; exact cn_up fo (by omega)
        have hyl : y ≤ 60 := by rw [hy]; have := cn_le f.f (m + 1); exact Nat.le_trans this zl
        clear b2 hq1 hgr1 hown1 iz1 Bq p0 p1 p2 p3 hy hdy
        obtain ⟨p0, p1, p2, p3⟩ := four_read Bq2
        obtain ⟨q0, q1, q2, q3⟩ := hq2.read HP.out
        obtain ⟨s0, s1, s2⟩ := hq2.stage HP.out
        have f0 := hq2.frozen (k * 4)
        have f1 := hq2.frozen (k * 4 + 1)
        have f2 := hq2.frozen (k * 4 + 2)
        have f3 := hq2.frozen (k * 4 + 3)
        have lt2 := Bq2.lt
        have ltg := hq2.lt
        have ne1 : ¬ wr.heap.size = g := by omega
        have ne2 : ¬ g = wr.heap.size := by omega
        have HQ3 := Lib.hid (hq2.put HP.out y dy)
        have HG3 := Lib.hid (grown_four hgr2 (k * 4) (k * 4 + 1) (k * 4 + 2) (k * 4 + 3) (.int .i64 f.q) (.slice f.a f.z.length f.c) (.int .i64 y) (.int .i64 dy))
        have HO3 := Lib.hid (hown2.kept (grown_four (grown_refl w2 g) (k * 4) (k * 4 + 1) (k * 4 + 2) (k * 4 + 3) (.int .i64 f.q) (.slice f.a f.z.length f.c) (.int .i64 y) (.int .i64 dy)) (.inr (fun e => by have := (hown2.lt _ e).1; omega)))
        clear hq2 hgr2 hown2 Bq2
        go_wp2
        go_loopw [3, 6] (fun s n' wi => ∃ n : Nat, xk ≤ n ∧ n ≤ y ∧ n' = .int .i64 n ∧ wi.ownsRow w.heap.size 60 2 s ((rndL (fls l) m k).length + (n - xk)) (scs (rndL (fls l) m k ++ segL k xk (n - xk))) ∧ Qb wi g l (upd X' k y) (upd D' k dy) ∧ w.grownBy wi (some g)) (fun _ n' _ => y - (intOf n').toNat)
        case atStart => exact ⟨xk, Nat.le_refl _, hxy, rfl, by rw [Nat.sub_self, segL, List.append_nil]; exact HO3.out, HQ3.out, HG3.out⟩
        case round =>
          clear p0 p1 p2 p3 q0 q1 q2 q3 s0 s1 s2 f0 f1 f2 f3 HQ3 HG3 HO3
          obtain ⟨n, hn0, hn1, rfl, hown, hq, hgr⟩ := hrel
          obtain ⟨q0, q1, q2, q3⟩ := hq.read HP.out
          rw [upd_self] at q2
          have hwz := hgr.size
          by_cases hny : n < y
          · have i2 : (n : Int) < (y : Int) := by omega
            have rb := rnd_bd v m k (by rw [length_fls]; omega)
            clear q0 q1 q3
            go_wp2_with (at_builtin; refine wpList_append_own _ rfl _ _ 50 rfl w.heap.size 60 i0 (.agg #[.int .i64 0, .int .i64 0]) 2 16 Try.underlying50 hi0 hz0 hz1 hz2 rfl (by decide) _ _ _ rfl (World.ownsRow.alloc hown _) ⟨wr.heap.size, 0, none⟩ 1 1 [.int .i64 k, .int .i64 n] rfl rfl ?c1 ?c2 ?c3 ?c4 ?c5 ?_)
            case c1 => exact new_sent _ _ _ _
            case c2 => intro u hu; simp at hu; rcases hu with rfl | rfl <;> rfl
            case c3 => unfold maxLen; omega
            case c4 => omega
            case c5 => simp; omega
            intro v' w5 hown' hgrow _
            have hgr' : w.grownBy w5 (some g) := grown_trans (grown_below hgr ((Below.refl _ _).alloc (Nat.le_refl _) _)) hgrow (fun k hk => .inr (hown.lt k hk).1)
            have hq' : Qb w5 g l (upd X' k y) (upd D' k dy) := (hq.below ((Below.refl _ _).alloc (Nat.le_refl _) _)).same (hgrow.block g (by have := hq.lt; simp; omega) (fun e => by have := (hown.lt g e.symm).1; omega))
            have hown'' : w5.ownsRow w.heap.size 60 2 v' ((rndL (fls l) m k).length + (n + 1 - xk)) (scs (rndL (fls l) m k ++ segL k xk (n + 1 - xk))) := by
              rw [show n + 1 - xk = n - xk + 1 by omega, segL, ← List.append_assoc, scs_app (_ ++ _), show xk + (n - xk) = n by omega]
              exact hown'
            clear hown' hgrow hown hgr hq q2
            go_wp2
            go_roundw
            case rel => exact ⟨n + 1, by omega, by omega, by go_num, hown'', hq', hgr'⟩
            case measure => simp [intOf]; omega
          · obtain rfl : n = y := by omega
            have hL : rndL (fls l) m k ++ segL k xk (n - xk) = rndL (fls l) m (k + 1) := by
              rw [rndL, turnL, HFk.out]
              have e1 : n = f.f.cn (m + 1) := HY.out
              have e2 : xk = f.f.cn m := HIk.out.1
              rw [← e1, ← e2]
            have hN : (rndL (fls l) m k).length + (n - xk) = (rndL (fls l) m (k + 1)).length := by rw [← hL, List.length_append, seg_len]
            rw [hL, hN] at hown
            have HI' : Hid (∀ j, RInv l (if j < k + 1 then m + 1 else m) (upd X' k n) (upd D' k dy) j) := Lib.hid (fun j f' hj => by
              by_cases c : j = k
              · subst c
                have := HP.out
                rw [hj] at this
                obtain rfl : f' = f := by injection this
                rw [upd_self, upd_self, if_pos (by omega)]
                exact ⟨HY.out, fun _ => HDY.out⟩
              · rw [upd_ne _ _ c, upd_ne _ _ c]
                have := HI.out j f' hj
                by_cases d : j < k
                · rw [if_pos (by omega)]; rw [if_pos d] at this; exact this
                · rw [if_neg (by omega)]; rw [if_neg d] at this; exact this)
            clear hL hN
            go_wp2
            go_roundw
            case rel => exact ⟨k + 1, _, _, by omega, by go_num, hown, hq, HI', hgr⟩
            case measure => simp [intOf]; omega
      · have e1 : decide (xk < f.z.length) = false := decide_eq_false hx
        rw [e1]
        have c1 : f.f.cn m = f.f.z.length := by have := cn_le f.f m; have h1 := HIk.out.1; have h2 : f.f.z.length = f.z.length := rfl; omega
        have c2 : f.f.cn (m + 1) = f.f.z.length := by have := cn_le f.f (m + 1); have := cn_up fo (show m ≤ m + 1 by omega); omega
        have hL : rndL (fls l) m (k + 1) = rndL (fls l) m k := by
          rw [rndL, turnL, HFk.out, c1, c2, Nat.sub_self, segL, List.append_nil]
        rw [← hL] at hown1
        have HI' : Hid (∀ j, RInv l (if j < k + 1 then m + 1 else m) X' D' j) := Lib.hid (fun j f' hj => by
          have := HI.out j f' hj
          by_cases c : j = k
          · subst c
            have h3 := HP.out
            rw [hj] at h3
            obtain rfl : f' = f := by injection h3
            rw [if_pos (by omega)]
            rw [if_neg (by omega)] at this
            refine ⟨by rw [this.1, c1, c2], fun q => absurd q ?_⟩
            rw [this.1, c1]; exact Nat.lt_irrefl _
          · by_cases d : j < k
            · rw [if_pos (by omega)]; rw [if_pos d] at this; exact this
            · rw [if_neg (by omega)]; rw [if_neg d] at this; exact this)
        clear e1 hL c1 c2 Bq
        go_wp2
        go_roundw
        case rel => exact ⟨k + 1, X', D', by omega, by go_num, hown1, hq1, HI', hgr1⟩
        case measure => simp [intOf]; omega
    · obtain rfl : k = l.length := by omega
      go_wp2
      go_ret
      exact ⟨_, X', D', rfl, hown, hq, fun j f hj => by have := HI.out j f hj; rw [if_pos (List.getElem?_eq_some_iff.1 hj).1] at this; exact this, hgr⟩

end Go.Proofs.Ytamkadffencpgaa
