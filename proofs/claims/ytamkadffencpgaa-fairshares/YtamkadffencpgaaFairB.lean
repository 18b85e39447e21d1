
/-
  Walks: a packet is served.
-/
import Derived.Test.YtamkadffencpgaaFairA
namespace Go.Proofs.Ytamkadffencpgaa
set_option linter.all false
open Go.RowKit Go.Shelf Go.Lib

theorem tks_apart {s : Fs} {k : Nat} {t : Tk} (h : (tks s)[k]? = some t) : ∀ (j : Nat) (u : Tk), (tks s)[j]? = some u → j ≠ k → u ≠ t := by
  intro j u hu hjk e
  subst e
  have a := (tks_get h).1
  have b := (tks_get hu).1
  obtain ⟨ha, ea⟩ := List.getElem?_eq_some_iff.1 a
  obtain ⟨hb, eb⟩ := List.getElem?_eq_some_iff.1 b
  have nd := List.pairwise_iff_getElem.mp (wl_nodup s)
  rcases Nat.lt_or_gt_of_ne hjk with c | c
  · exact nd j k hb ha c (eb.trans ea.symm)
  · exact nd k j ha hb c (ea.trans eb.symm)

set_option maxRecDepth 100000 in
set_option maxHeartbeats 3200000 in
theorem serve_any (base g : Nat) (A : Option Addr) (c : Nat) (wt : List Int) (l : List Pk) (s : Fs) (v : Value) (w : World) (q : Qu l) (hk : Fi l wt s) (h0 : wl s ≠ []) (hbw : base ≤ w.heap.size) (hS : Srv w base g A c s.en s.last v (tks s)) :
    Calls Try.prog 34 #[.pointer (some ⟨g, 0, none⟩)] w fun e w' =>
      ∃ (i : Nat) (v' : Value), e = .returned (.int .i64 i) ∧ s.Best i ∧ Srv w' base g A c s.en (s.bg i) v' (tks (s.serve l i)) ∧ Tn (SrvS g v) w w' ∧ (∀ k, v'.ownBlock = some k → v.ownBlock = some k ∨ w.heap.size ≤ k) := by
  have hle := wl_len s
  have hnx := hk.nx
  have hq := q.le
  obtain ⟨n, hn⟩ : ∃ n, n = (tks s).length := ⟨_, rfl⟩
  have n0 : 0 < n := by
    rw [hn, length_tks]
    exact List.length_pos_iff.mpr h0
  have n60 : n ≤ 60 := by rw [hn, length_tks]; omega
  have R := hS.row
  rw [← hn] at R
  obtain ⟨gr, cap, rfl⟩ : ∃ gr cap, v = .slice (some ⟨gr, 0, none⟩) n cap := by
    rcases R.2 with ⟨_, h0⟩ | ⟨g', cap', cur, h1, _⟩
    · omega
    · exact ⟨g', cap', h1⟩
  have hgr : ¬ gr = g := fun e => hS.ne (by rw [e]; rfl)
  have grl := (R.lt gr rfl).2
  have K := hS.blk
  have gl := K.lt
  have glo := hS.lo
  have c10 : w.cell? ⟨g, 10, none⟩ = some (.slice (some ⟨gr, 0, none⟩) n cap) := K.cell 10
  have HN := Lib.hid hn
  have HKk := Lib.hid hk
  clear hn hS hk
  go_enter Try.func34, Try.ntmps34
  go_wp2_with fail
  refine (minFunc_tk base gr n cap (tks s) _ R n0 n60).mono ?_
  rintro e w1 ⟨k, t, hkt, hmin, rfl, b1⟩
  have HKT := Lib.hid hkt
  have HMIN := Lib.hid hmin
  have K1 := K.below b1
  have R1 : w1.ownsRow base 96 2 (.slice (some ⟨gr, 0, none⟩) n cap) n (tcs (tks s)) := (Tn.of_below (S := fun _ => False) b1).own R (fun _ _ c => c)
  have gl1 := K1.lt
  have gr1 := (R1.lt gr rfl).2
  have c9 : w1.cell? ⟨g, 9, none⟩ = some (.int .i64 s.last) := K1.cell 9
  have f9 := K1.frozen 9
  have c10w : w1.cell? ⟨g, 10, none⟩ = some (.slice (some ⟨gr, 0, none⟩) n cap) := K1.cell 10
  have ne1 : ¬ w1.heap.size = g := by omega
  have ne2 : ¬ g = w1.heap.size := by omega
  have HS1 : Hid (w.heap.size ≤ w1.heap.size) := Lib.hid b1.size
  have T1 : Tn (SrvS g (.slice (some ⟨gr, 0, none⟩) n cap)) w w1 := Tn.of_below b1
  obtain ⟨WX, hWX⟩ : ∃ WX, WX = w1.setCell ⟨g, 9, none⟩ (.int .i64 t.2) := ⟨_, rfl⟩
  have KX : Blk WX g 68 (srv A c s.en t.2 (.slice (some ⟨gr, 0, none⟩) n cap)) := by
    have := K1.set_ 9 (.int .i64 t.2)
    rw [srv_start, ← hWX] at this
    exact this
  have RX : WX.ownsRow base 96 2 (.slice (some ⟨gr, 0, none⟩) n cap) n (tcs (tks s)) := by
    rw [hWX]
    exact ((Tn.refl (fun k => k = g) w1).set_ (p := ⟨g, 9, none⟩) (.inl rfl) (.int .i64 t.2)).own R1 (fun k hk e => by simp [Value.ownBlock] at hk; omega)
  have TX : Tn (SrvS g (.slice (some ⟨gr, 0, none⟩) n cap)) w WX := by rw [hWX]; exact T1.set_ (p := ⟨g, 9, none⟩) (.inl (.inl rfl)) _
  have SX : WX.heap.size = w1.heap.size := by rw [hWX]; simp [World.setCell]
  have HSX := Lib.hid SX
  have HWX := Lib.hid hWX
  have c10' : WX.cell? ⟨g, 10, none⟩ = some (.slice (some ⟨gr, 0, none⟩) n cap) := KX.cell 10
  clear hkt hmin b1 K R R1 c10 K1 hWX SX T1
  go_wp2_with fail
  rw [← HWX.out]
  have KN : Blk (WX.alloc (.cells #[.int .i64 (t.1 : Nat), .int .i64 t.2] 96)) w1.heap.size 96 #[.int .i64 (t.1 : Nat), .int .i64 t.2] := by
    have := Blk.new WX 96 #[.int .i64 (t.1 : Nat), .int .i64 t.2]
    rw [HSX.out] at this
    exact this
  refine (deleteFunc_tk base gr n cap w1.heap.size k (tks s) t _ (RX.alloc _) KN (by omega) n60 HKT.out (Lib.hid (tks_apart HKT.out))).mono ?_
  rintro e w2 ⟨rfl, R2, T2⟩
  have K2 : Blk w2 g 68 (srv A c s.en t.2 (.slice (some ⟨gr, 0, none⟩) n cap)) := T2.blk (KX.alloc _) (fun e => hgr e.symm)
  have KN2 : Blk w2 w1.heap.size 96 #[.int .i64 (t.1 : Nat), .int .i64 t.2] := T2.blk KN (fun e => by omega)
  have TT : Tn (SrvS g (.slice (some ⟨gr, 0, none⟩) n cap)) w w2 := (TX.alloc _).then_ T2 (fun i _ e => .inr (by rw [e]; rfl))
  have c10 : w2.cell? ⟨g, 10, none⟩ = some (.slice (some ⟨gr, 0, none⟩) n cap) := K2.cell 10
  have f10 := K2.frozen 10
  have gl2 := K2.lt
  have nl2 := KN2.lt
  obtain ⟨p0, p1⟩ := pair_read KN2
  have HK : Hid (Blk (w2.setCell ⟨g, 10, none⟩ (.slice (some ⟨gr, 0, none⟩) (n - 1) cap)) g 68 (srv A c s.en t.2 (.slice (some ⟨gr, 0, none⟩) (n - 1) cap))) := Lib.hid (by
    have := K2.set_ 10 (.slice (some ⟨gr, 0, none⟩) (n - 1) cap)
    rw [srv_wait] at this
    exact this)
  have HR : Hid ((w2.setCell ⟨g, 10, none⟩ (.slice (some ⟨gr, 0, none⟩) (n - 1) cap)).ownsRow base 96 2 (.slice (some ⟨gr, 0, none⟩) (n - 1) cap) (n - 1) (tcs ((tks s).eraseIdx k))) := Lib.hid
    (((Tn.refl (fun k => k = g) w2).set_ (p := ⟨g, 10, none⟩) (.inl rfl) _).own R2 (fun k hk e => by simp [Value.ownBlock] at hk; omega))
  have HT : Hid (Tn (SrvS g (.slice (some ⟨gr, 0, none⟩) n cap)) w (w2.setCell ⟨g, 10, none⟩ (.slice (some ⟨gr, 0, none⟩) (n - 1) cap))) := Lib.hid (TT.set_ (p := ⟨g, 10, none⟩) (.inl (.inl rfl)) _)
  clear R2 T2 K2 KN2 TT KX RX TX KN c10' c9 f9
  go_wp2
  go_ret
  have e := (tks_get HKT.out).2
  refine ⟨t.1, .slice (some ⟨gr, 0, none⟩) (n - 1) cap, rfl, best_of HKT.out HMIN.out, ⟨?_, ?_, glo⟩, HT.out, fun j hj => .inl hj⟩
  · rw [← e]; exact HK.out
  · have hl : (tks (s.serve l t.1)).length = n - 1 := by
      rw [tks_serve HKT.out, List.length_eraseIdx, if_pos (List.getElem?_eq_some_iff.1 HKT.out).1, HN.out]
    rw [hl, tks_serve HKT.out]; exact HR.out

end Go.Proofs.Ytamkadffencpgaa
