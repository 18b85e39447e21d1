
/-
  Walks: fifo.Run, fifo.Count; the document's own queue.
-/
import Derived.Test.YtamkadffencpgaaFifoQ
import Derived.Test.YtamkadffencpgaaBucketE
import Derived.Test.YtamkadffencpgaaPointB
namespace Go.Proofs.Ytamkadffencpgaa
set_option linter.all false
open Go.RowKit Go.Shelf

/-- What Run hands back. -/
def fdL (l : List Pk) : List Int := if pksE l = 0 then dnL l else []
theorem fdL_yes {l : List Pk} (h : pksE l = 0) : fdL l = dnL l := by rw [fdL, if_pos h]
theorem fdL_no {l : List Pk} (h : ¬ pksE l = 0) : fdL l = [] := by rw [fdL, if_neg h]

set_option maxHeartbeats 1600000 in
theorem frun_any (A : Option Addr) (l : List Pk) (c : Nat) (w : World) (h : Pks w A l) :
    Calls Try.prog 18 #[.slice A l.length c] w (Ans (fdL l) (pksE l) w) := by
  by_cases hq : pksE l = 0
  · have q := qu_of hq
    have hle := q.le
    have HE := Lib.hid hq
    have HL : Hid (fdL l = tab l.length (fun i => dnV l (i + 1))) := Lib.hid (by rw [fdL_yes hq]; rfl)
    have hmk := fun W => run_make_row' (P := Try.prog) 22 3 (.int .i64 0) 8 Try.underlying22 int_info rfl .i64 .i64 l.length (by omega) (by omega) W
    clear hq
    go_enter Try.func18, Try.ntmps18
    go_wp2_with fail
    refine (packets_any A l c _ h).mono ?_
    rintro e w1 ⟨rfl, b1⟩
    rw [HE.out]
    obtain ⟨g, hg⟩ : ∃ g, g = w1.heap.size := ⟨_, rfl⟩
    have G := Lib.hid hg
    have gle : w.heap.size ≤ g := by have := b1.size; omega
    clear hg
    go_wp2
    rw [← G.out]
    go_loopw [6, 19] (fun v i wr => ∃ k : Nat, k ≤ l.length ∧ i = .int .i64 k ∧ v = .int .i64 (dnV l k) ∧ Blk wr g 3 (rowAt l.length k (fun i => dnV l (i + 1))).toArray ∧ Below w.heap.size w wr) (fun _ i _ => l.length - (intOf i).toNat)
    case atStart =>
      refine ⟨0, Nat.zero_le _, rfl, rfl, ?_, b1.alloc b1.size _⟩
      rw [rowAt_zero, G.out]; exact Blk.new _ _ _
    case round =>
      clear G b1
      obtain ⟨k, hk, rfl, rfl, B0, hbel⟩ := hrel
      by_cases hlt : k < l.length
      · obtain ⟨bb, off, p, rfl, hbl, c0, c1, c2, HP⟩ := (h.below hbel).get hlt
        have hK := pk_of HP.out
        have ok := q.ok k hlt
        rw [hK] at ok
        have a0 := ok.a0
        have a1 := ok.a1
        have z0 := ok.s0
        have z1 := ok.s1
        obtain ⟨d, hd⟩ : ∃ d, d = dnV l k := ⟨_, rfl⟩
        have d0 : 0 ≤ d := by rw [hd]; exact (dn_bd q k hk).1
        have d1 : d ≤ 60200 := by rw [hd]; have := (dn_bd q k hk).2; omega
        have HN : Hid (dnV l (k + 1) = max d p.at_ + p.size) := Lib.hid (by rw [dnV, ← hd, hK])
        rw [← hd]
        have i1 : (k : Int) < (l.length : Int) := by omega
        have cz : wr.cell? ⟨g, k, none⟩ = some (.int .i64 0) := by rw [B0.cell k]; simpa using rowAt_get (fun i => dnV l (i + 1)) hlt
        have cf := B0.frozen k
        have gl := B0.lt
        have ne1 : ¬ g = wr.heap.size := by omega
        have ne2 : ¬ wr.heap.size = g := by omega
        clear hd hK ok
        rcases Int.lt_trichotomy d p.at_ with c | c | c
        all_goals
          go_wp2
          go_roundw
          case rel =>
            refine ⟨k + 1, by omega, by go_num, ?_, ?_, (hbel.setCell (p := ⟨g, k, none⟩) gle _).alloc (by have := hbel.size; simp; omega) _⟩
            · rw [HN.out]; congr 1; omega
            · rw [← rowAt_succ (fun i => dnV l (i + 1)) hlt, HN.out]
              first
                | (rw [show max d p.at_ = p.at_ by omega]; exact (B0.set_ k _).alloc _)
                | (rw [show max d p.at_ = d by omega]; exact (B0.set_ k _).alloc _)
          case measure => simp [intOf]; omega
      · obtain rfl : k = l.length := by omega
        go_wp2
        go_ret2
        rw [rowAt_full] at B0
        refine ⟨some ⟨g, 0, none⟩, l.length, by rw [HL.out, HE.out, length_tab]; rfl, ?_, hbel⟩
        rw [HL.out, length_tab]
        have := own_of_blk (n := l.length) B0 gle (length_tab _ _).symm (by omega)
        rwa [length_tab] at this
  · have e1 : (pksE l != 0) = true := by simp [hq]
    have HL : Hid (fdL l = []) := Lib.hid (fdL_no hq)
    clear hq
    go_enter Try.func18, Try.ntmps18
    go_wp2_with fail
    refine (packets_any A l c _ h).mono ?_
    rintro e w1 ⟨rfl, b1⟩
    go_wp2
    go_ret2
    exact ⟨none, 0, by rw [HL.out]; rfl, by rw [HL.out]; exact World.ownsRow_nil _ _ _ _, b1⟩

/-- What a call of Run leaves that fits. -/
theorem frun_yes (A : Option Addr) (l : List Pk) (x : List Int) (nl n c : Nat) (w : World) (hE : Hid (pksE l = 0)) (hx : Hid (dnL l = x)) (h : Pks w A l) (hl : nl = l.length) (hn : n = l.length) :
    Calls Try.prog 18 #[.slice A nl c] w fun e w' => ∃ B d, e = .returned (.tuple #[.slice B n d, .int .i64 0]) ∧ Ints w' B x ∧ n ≤ d ∧ Below w.heap.size w w' := by
  subst hl hn
  have hx := hx.out
  subst hx
  refine (frun_any A l c w h).mono ?_
  rintro e w' ⟨B, d, rfl, o, hb⟩
  rw [fdL_yes hE.out] at o
  have k : (dnL l).length ≤ d := by
    rcases o.2 with ⟨_, h0⟩ | ⟨g, cap, cur, hv, _, _, hn, _⟩
    · omega
    · injection hv with _ _ e
      subst e
      exact hn
  rw [length_dnL] at k
  exact ⟨B, d, by rw [fdL_yes hE.out, hE.out, length_dnL], Ints.of_own o, k, hb⟩
theorem frun_no (A : Option Addr) (l : List Pk) (c : Nat) (w : World) (hE : ¬ pksE l = 0) (h : Pks w A l) :
    Calls Try.prog 18 #[.slice A l.length c] w fun e w' => ∃ B d, e = .returned (.tuple #[.slice B 0 d, .int .i64 (pksE l)]) ∧ Below w.heap.size w w' := by
  refine (frun_any A l c w h).mono ?_
  rintro e w' ⟨B, d, rfl, _, hb⟩
  exact ⟨B, d, by rw [fdL_no hE]; rfl, hb⟩

end Go.Proofs.Ytamkadffencpgaa
