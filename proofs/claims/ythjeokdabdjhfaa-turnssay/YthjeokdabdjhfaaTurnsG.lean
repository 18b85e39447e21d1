
/-
  The walk of the document's own order.
-/
import Derived.Test.YthjeokdabdjhfaaTurnsF
namespace Go.Proofs.Ythjeokdabdjhfaa
set_option linter.all false
open Go.RowKit Go.Shelf

theorem own_ne {w : World} {base n size g : Nat} {e t : TypeId} {v : Value} {xs : List Value} {cs : Array Value} (h : w.ownsRow base e size v n xs) (hB : Blk w g t cs) (ht : t ≠ e) : v.ownBlock ≠ some g := by
  rcases h.2 with ⟨rfl, _⟩ | ⟨g', cap, cur, rfl, _, hg, _⟩
  · simp [Value.ownBlock]
  · intro c
    have e1 : g' = g := by simpa [Value.ownBlock] using c
    subst e1
    unfold Blk at hB
    rw [hB] at hg
    injection hg with hg
    injection hg with _ hg
    exact ht hg
theorem cnS_mono (l : List Flw) {c d : Nat → Nat} (h : ∀ j, j < l.length → c j ≤ d j) : ∀ k, k ≤ l.length → cnS l c k ≤ cnS l d k
  | 0, _ => Nat.le_refl _
  | k + 1, hk => by have := cnS_mono l h k (by omega); have := h k (by omega); rw [cnS, cnS]; omega
/-- How many packets there are. -/
def totN (l : List Flw) (k : Nat) : Nat := cnS l (fun j => (flw l j).z.length) k
theorem ord_le {l : List Flw} (v : Flws l) (m : Nat) : (ordL l m).length ≤ totN l l.length := by
  rw [ord_len v]; exact cnS_mono l (fun j _ => cn_le _ _) _ (Nat.le_refl _)
theorem tot_bd {l : List Flw} (v : Flws l) (k : Nat) (hk : k ≤ l.length) : totN l k ≤ 480 := by
  have h2 := cnS_le l (c := fun j => (flw l j).z.length) (fun j hj => (v.ok j hj).sz.le) k hk
  have := v.le
  unfold totN
  omega

set_option maxHeartbeats 3200000 in
theorem refOrder_any (A : Option Addr) (l : List Fw) (c : Nat) (w : World) (h : Fls w A l) (v : Flws (fls l)) :
    Calls Try.prog 14 #[.slice A l.length c] w fun e w' => ∃ B d, e = .returned (.slice B (ordF (fls l)).length d) ∧ w'.ownsRow w.heap.size 33 2 (.slice B (ordF (fls l)).length d) (ordF (fls l)).length (scs (ordF (fls l))) ∧ Below w.heap.size w w' := by
  obtain ⟨i0, hi0, hz0, hz1, hz2⟩ := info_parts sent_info
  have LF := Lib.hid (length_fls l)
  have h8 : l.length ≤ 8 := by have := v.le; rwa [length_fls] at this
  go_enter Try.func14, Try.ntmps14
  go_wp2
  go_loopw [4, 13] (fun s i wr => ∃ k : Nat, k ≤ l.length ∧ i = .int .i64 k ∧ s = .int .i64 (totN (fls l) k : Nat) ∧ Below w.heap.size w wr) (fun _ i _ => l.length - (intOf i).toNat)
  case atStart => exact ⟨0, Nat.zero_le _, rfl, rfl, Below.refl _ _⟩
  case round =>
    obtain ⟨k, hk, rfl, rfl, hbel⟩ := hrel
    by_cases hlt : k < l.length
    · obtain ⟨bb, off, f, hA, hbl, c0, c1, iz, kz, HP⟩ := (h.below hbel).get hlt
      subst hA
      have i1 : (k : Int) < (l.length : Int) := by omega
      have fo : FlwOk f.f := by have := v.ok k (by rw [LF.out]; exact hlt); rwa [flw_of HP.out] at this
      have zl : f.z.length ≤ 60 := fo.sz.le
      have tb := tot_bd v k (by rw [LF.out]; exact hk)
      obtain ⟨T, hT⟩ : ∃ T, T = totN (fls l) k := ⟨_, rfl⟩
      have HN : Hid (totN (fls l) (k + 1) = T + f.z.length) := Lib.hid (by rw [hT, totN, cnS, flw_of HP.out]; rfl)
      rw [← hT] at tb ⊢
      clear hT
      go_wp2
      go_roundw
      case rel => exact ⟨k + 1, by omega, by go_num, by rw [HN.out]; go_num, hbel.alloc hbel.size _⟩
      case measure => simp [intOf]; omega
    · obtain rfl : k = l.length := by omega
      have tb := tot_bd v l.length (by rw [LF.out]; exact Nat.le_refl _)
      obtain ⟨T, hT⟩ : ∃ T, T = totN (fls l) l.length := ⟨_, rfl⟩
      have HT := Lib.hid hT
      rw [← hT] at tb ⊢
      clear hT hlt hk
      go_wp2
      go_loopw [3, 7] (fun s i wr => ∃ M : Nat, M ≤ 60000 ∧ i = .int .i64 ((M : Int) + 1) ∧ wr.ownsRow w.heap.size 33 2 s (ordL (fls l) M).length (scs (ordL (fls l) M)) ∧ Below w.heap.size w wr) (fun _ i _ => 60002 - (intOf i).toNat)
      case atStart => exact ⟨0, by omega, rfl, World.ownsRow_nil _ _ _ _, hbel⟩
      case round =>
        clear hbel
        obtain ⟨M, hM, rfl, hown, hbel⟩ := hrel
        obtain ⟨Ao, co, hs⟩ := own_form hown
        subst hs
        have ob := ord_bd v M
        have ole := ord_le v M
        rw [LF.out, ← HT.out] at ole
        by_cases hlt : (ordL (fls l) M).length < T
        · have j1 : ((ordL (fls l) M).length : Int) < (T : Int) := by omega
          have hM1 : M < 60000 := by
            by_cases c : M < 60000
            · exact c
            · have := (sent_iff v M).1 (all_sent v (by omega))
              rw [LF.out] at this
              have e : T = (ordL (fls l) M).length := by rw [HT.out, this]; rfl
              omega
          go_wp2
          go_loopw [3, 31] (fun s i wr => ∃ k : Nat, k ≤ l.length ∧ i = .int .i64 k ∧ wr.ownsRow w.heap.size 33 2 s (ordL (fls l) M ++ rndL (fls l) M k).length (scs (ordL (fls l) M ++ rndL (fls l) M k)) ∧ Below w.heap.size w wr) (fun _ i _ => l.length - (intOf i).toNat)
          case atStart => exact ⟨0, Nat.zero_le _, rfl, by rw [rndL, List.append_nil]; exact hown, hbel⟩
          case round =>
            clear hown hbel
            obtain ⟨k, hk, rfl, hown, hbel⟩ := hrel
            by_cases hkl : k < l.length
            · obtain ⟨bb, off, f, hA, hbl, c0, c1, iz, kz, HP⟩ := (h.below hbel).get hkl
              subst hA
              have i1 : (k : Int) < (l.length : Int) := by omega
              have fo : FlwOk f.f := by have := v.ok k (by rw [LF.out]; exact hkl); rwa [flw_of HP.out] at this
              have zl : f.z.length ≤ 60 := fo.sz.le
              have rb := rnd_bd v M k (by rw [LF.out]; exact hk)
              have HFk := Lib.hid (flw_of HP.out)
              go_wp2_with fail
              refine (count_any f.q f.a f.z f.c M _ _ fo (iz.alloc _) (by omega) (by omega)).mono ?_
              rintro e w1 ⟨rfl, b1⟩
              have Bf := (Blk.new wr 36 #[.int .i64 f.q, .slice f.a f.z.length f.c]).below b1
              have b1' := below_of1 b1
              have hown1 := own_bel hown b1'
              have hbel1 := below_trans hbel b1'
              obtain ⟨gq, hgq⟩ : ∃ gq, gq = wr.heap.size := ⟨_, rfl⟩
              obtain ⟨a, ha⟩ : ∃ a, a = Flw.cn ⟨f.q, f.z⟩ M := ⟨_, rfl⟩
              obtain ⟨b, hb⟩ : ∃ b, b = Flw.cn ⟨f.q, f.z⟩ (M + 1) := ⟨_, rfl⟩
              have hab : a ≤ b := by rw [ha, hb]; exact cn_up fo (by omega)
              have hbz : b ≤ 60 := by rw [hb]; exact Nat.le_trans (cn_le _ _) zl
              have HA := Lib.hid ha
              have HB := Lib.hid hb
              have HL : Hid (rndL (fls l) M k ++ segL k a (b - a) = rndL (fls l) M (k + 1)) := Lib.hid (by rw [rndL, turnL, HFk.out, ha, hb]; rfl)
              rw [← ha]
              rw [← hgq] at Bf ⊢
              clear b1 b1' hown hbel c0 c1 iz ha hb hgq
              go_wp2
              go_loopw [3, 10] (fun s i wr => ∃ x : Nat, a ≤ x ∧ x ≤ b ∧ i = .int .i64 x ∧ wr.ownsRow w.heap.size 33 2 s (ordL (fls l) M ++ rndL (fls l) M k ++ segL k a (x - a)).length (scs (ordL (fls l) M ++ rndL (fls l) M k ++ segL k a (x - a))) ∧ Blk wr gq 36 #[.int .i64 f.q, .slice f.a f.z.length f.c] ∧ Below w.heap.size w wr) (fun _ i _ => b - (intOf i).toNat)
              case atStart => exact ⟨a, Nat.le_refl _, hab, rfl, by rw [Nat.sub_self, segL, List.append_nil]; exact hown1, Bf, hbel1⟩
              case round =>
                clear hown1 Bf hbel1
                obtain ⟨x, hx0, hx1, rfl, hown, Bf, hbel⟩ := hrel
                obtain ⟨t0, t1⟩ := two_read Bf
                have iz := (h.below hbel)
                obtain ⟨bb', off', f', hA, _, _, _, iz, _, HP'⟩ := iz.get hkl
                obtain rfl : f' = f := Option.some.inj (HP'.out.symm.trans HP.out)
                clear hA
                go_wp2_with fail
                refine (count_any f'.q f'.a f'.z f'.c (M + 1) _ _ fo iz (by omega) (by omega)).mono ?_
                rintro e w2 ⟨rfl, b2⟩
                rw [← HB.out]
                have Bf2 := Bf.below b2
                have hown2 := own_bel hown b2
                have hbel2 := below_trans hbel b2
                clear b2 hown hbel Bf t0 t1 iz
                by_cases hxb : x < b
                · have i2 : (x : Int) < (b : Int) := by omega
                  have hne := own_ne hown2 Bf2 (by decide)
                  have sl : (ordL (fls l) M ++ rndL (fls l) M k ++ segL k a (x - a)).length ≤ 1100 := by rw [List.length_append, List.length_append, seg_len]; omega
                  have hw2 := hbel2.size
                  go_wp2_with (at_builtin; refine wpList_append_own _ rfl _ _ 23 rfl w.heap.size 33 i0 (.agg #[.int .i64 0, .int .i64 0]) 2 16 Try.underlying23 hi0 hz0 hz1 hz2 rfl (by decide) _ _ _ rfl (World.ownsRow.alloc hown2 _) ⟨w2.heap.size, 0, none⟩ 1 1 [.int .i64 k, .int .i64 x] rfl rfl ?c1 ?c2 ?c3 ?c4 ?c5 ?_)
                  case c1 => exact new_sent _ _ _ _
                  case c2 => intro u hu; simp at hu; rcases hu with rfl | rfl <;> rfl
                  case c3 => unfold maxLen; omega
                  case c4 => omega
                  case c5 => simp; omega
                  intro v' w5 hown' hgrow _
                  have hbel5 : Below w.heap.size w w5 := (hbel2.alloc hbel2.size _).grown hgrow (by simp; omega) (fun k hk => (hown2.lt k hk).1)
                  have Bf5 : Blk w5 gq 36 #[.int .i64 f'.q, .slice f'.a f'.z.length f'.c] := (Bf2.alloc _).same (hgrow.block gq (by have := Bf2.lt; simp; omega) (fun e => hne e.symm))
                  have hown5 : w5.ownsRow w.heap.size 33 2 v' (ordL (fls l) M ++ rndL (fls l) M k ++ segL k a (x + 1 - a)).length (scs (ordL (fls l) M ++ rndL (fls l) M k ++ segL k a (x + 1 - a))) := by
                    have e0 : ordL (fls l) M ++ rndL (fls l) M k ++ segL k a (x + 1 - a) = (ordL (fls l) M ++ rndL (fls l) M k ++ segL k a (x - a)) ++ [(k, x)] := by
                      rw [show x + 1 - a = x - a + 1 by omega, segL, ← List.append_assoc, show a + (x - a) = x by omega]
                    rw [e0, scs_app _ [(k, x)], List.length_append]
                    simpa [scs] using hown'
                  clear hown' hgrow hown2 hbel2 Bf2 hne
                  go_wp2
                  go_roundw
                  case rel => exact ⟨x + 1, by omega, by omega, by go_num, hown5, Bf5, hbel5⟩
                  case measure => simp [intOf]; omega
                · obtain rfl : x = b := by omega
                  rw [List.append_assoc, HL.out] at hown2
                  clear Bf2
                  go_wp2
                  go_roundw
                  case rel => exact ⟨k + 1, by omega, by go_num, hown2, hbel2⟩
                  case measure => simp [intOf]; omega
            · obtain rfl : k = l.length := by omega
              have hO : ordL (fls l) (M + 1) = ordL (fls l) M ++ rndL (fls l) M l.length := by rw [ordL, LF.out]
              rw [← hO] at hown
              clear hO
              go_wp2
              go_roundw
              case rel => exact ⟨M + 1, by omega, by go_num, hown, hbel⟩
              case measure => simp [intOf]; omega
        · have hall : AllSent (fls l) M := (sent_iff v M).2 (by rw [LF.out]; have e : T = cnS (fls l) (fun j => (flw (fls l) j).z.length) l.length := HT.out; omega)
          have j1 : ¬ ((ordL (fls l) M).length : Int) < (T : Int) := by omega
          rw [ordF_of v hall] at hown j1 ⊢
          clear hlt hall ob ole
          go_wp2
          go_ret
          exact ⟨Ao, co, rfl, hown, hbel⟩

end Go.Proofs.Ythjeokdabdjhfaa
