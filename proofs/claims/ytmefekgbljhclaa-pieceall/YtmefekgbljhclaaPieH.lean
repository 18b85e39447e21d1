
/-
  The law PieceAll over what package piece owes.
-/
import Derived.Test.YtmefekgbljhclaaPieG
namespace Go.Proofs.Ytmefekgbljhclaa
set_option linter.all false
open Go.RowKit Go.Shelf Go.Lib

/-- How many are missing. -/
def miss : List Bool → Nat
  | [] => 0
  | b :: z => (if b then 0 else 1) + miss z
theorem miss_le : ∀ z : List Bool, miss z ≤ z.length
  | [] => Nat.le_refl _
  | b :: z => by have := miss_le z; simp only [miss, List.length_cons]; split <;> omega
theorem miss_set : ∀ (z : List Bool) (i : Nat), i < z.length → hv z i = false → miss (z.set i true) + 1 = miss z
  | [], i, h, _ => by simp at h
  | b :: z, 0, _, h => by
    obtain rfl : b = false := by simpa [hv] using h
    simp [miss]; omega
  | b :: z, i + 1, h, k => by
    have := miss_set z i (by simpa using h) (by simpa [hv] using k)
    simp only [List.set_cons_succ, miss]; omega
theorem miss_all : ∀ (z : List Bool), miss z = 0 → ∀ k, k < z.length → hv z k = true
  | [], _, k, h => by simp at h
  | b :: z, h, k, hk => by
    simp only [miss] at h
    have hb : b = true := by
      cases b
      · simp at h
      · rfl
    cases k with
    | zero => simp [hv, hb]
    | succ k =>
      have := miss_all z (by omega) k (by simpa using hk)
      simpa [hv] using this
theorem miss_not {z : List Bool} (h : miss z = 0) {k : Nat} (hk : k < z.length) (no : hv z k = false) : False := by
  rw [miss_all z h k hk] at no; cases no
theorem pa_lit1 : whE 7 3 = 0 := by decide
theorem pa_lit2 : pcN 7 3 = 3 := by decide
theorem pa_row1 : tab 3 (pcV 7 3) = [3, 3, 1] := by decide
/-- The state in the variable at G. -/
structure AllSt (w W : World) (G N : Nat) (s u : Int) (B : Option Addr) (d : Nat) (z : List Bool) : Prop where
  K : Blk W G 24 #[.int .i64 s, .int .i64 u, .slice B N d]
  g : w.heap.size ≤ G
  r : Bls W B z
  n : z.length = N
  c : N ≤ d
  b : Below w.heap.size w W
theorem AllSt.below {w W W' : World} {G N : Nat} {s u : Int} {B : Option Addr} {d : Nat} {z : List Bool} (h : AllSt w W G N s u B d z) (hb : Below W.heap.size W W') : AllSt w W' G N s u B d z :=
  ⟨h.K.below hb, h.g, h.r.below hb, h.n, h.c, below_trans h.b hb⟩
theorem AllSt.put {w W W' : World} {G N i : Nat} {s u : Int} {B B' : Option Addr} {d d' : Nat} {z : List Bool} (h : AllSt w W G N s u B d z) (hz : Bls W' B' (z.set i true)) (hd : N ≤ d') (hb : Below W.heap.size W W') :
    AllSt w (((W'.setCell ⟨G, 0, none⟩ (.int .i64 s)).setCell ⟨G, 1, none⟩ (.int .i64 u)).setCell ⟨G, 2, none⟩ (.slice B' N d')) G N s u B' d' (z.set i true) :=
  ⟨three_sets (h.K.below hb) _ _ _, h.g, hz.stage (h.K.below hb) _ _ _, by rw [List.length_set]; exact h.n, hd, below_three (below_trans h.b hb) h.g _ _ _⟩
set_option maxRecDepth 100000 in
set_option maxHeartbeats 6400000 in
theorem v_PieceAll (E : PieceC) (s u : Int) (a : Option Addr) (c : Nat) (l : List Int) (w : World) (_h1 : (Lit.int .i64 s).wf = true) (_h2 : (Lit.int .i64 u).wf = true) (hl : Ints w a l) :
    Calls Try.prog 5 #[.int .i64 s, .int .i64 u, .slice a l.length c] w fun e w' => e = .returned (.bool true) ∧ Below w.heap.size w w' := by
  have hll := hl.1
  have hb := Below.refl w.heap.size w
  go_enter Try.func5, Try.ntmps5
  go_wp2_with fail
  refine (E.sizes_at 7 3 3 _ pa_lit1 pa_lit2 rfl rfl).mono ?_
  rintro e w1 ⟨A, c', rfl, ix, hc, b1⟩
  rw [pa_row1] at ix
  replace hb := below_trans hb b1
  clear b1
  go_wp2_with fail
  refine (equal_at A _ [3, 3, 1] [3, 3, 1] _ _ _ _ _ (ix.alloc _) (by exact Ints.lit _ _ _ _ rfl (by decide)) rfl rfl).mono ?_
  rintro e w2 ⟨rfl, m2, hw2⟩
  rw [eqB_true rfl]
  have b2 := below_of1 (below_of_drewN hw2)
  replace hb := below_trans hb b2
  clear b2 hw2 ix hc
  by_cases hE : whE s u = 0
  · have v := wh_iff.mp hE
    have v1 := v.s0
    have v2 := v.s1
    have v3 := v.u0
    have v4 := v.u1
    have hN2 := pcn_max v
    obtain ⟨N, hN⟩ : ∃ N, pcN s u = N := ⟨_, rfl⟩
    rw [hN] at hN2
    have HN := Lib.hid hN
    have H0 := Lib.hid hE
    have HB : Hid (∀ i, i < N → 1 ≤ pcV s u i ∧ pcV s u i ≤ u ∧ (i + 1 < N → pcV s u i = u)) := Lib.hid (fun i hi => by have := pc_bd v1 v3 (i := i) (by rw [hN]; exact hi); rw [hN] at this; exact this)
    have HS := Lib.hid (fun i (hi : i ≤ N) => pc_sum v1 v3 i (by rw [hN]; exact hi))
    have HA := Lib.hid (pc_all v1 v3)
    rw [hN] at HA
    clear hN hE
    go_wp2_with fail
    refine (E.sizes_at s u N _ H0.out HN.out rfl rfl).mono ?_
    rintro e w3 ⟨A, c3, rfl, ix, hc3, b3⟩
    replace hb := below_trans hb b3
    clear b3
    go_wp2_with fail
    refine (E.new s u _ H0.out).mono ?_
    rw [HN.out]
    rintro e w4 ⟨B, d, rfl, o, b4⟩
    replace hb := below_trans hb b4
    replace ix := ix.below b4
    clear b4
    have hd : N ≤ d := by
      rcases o.2 with ⟨_, h0⟩ | ⟨g, cap, cur, hv, _, _, hn, _⟩
      · omega
      · injection hv with _ _ e
        subst e
        exact hn
    have iz : Bls w4 B (List.replicate N false) := Bls.of_ownP (by rw [List.length_replicate]; exact o)
    obtain ⟨W, hW⟩ : ∃ W, W = w4.alloc (.cells #[.int .i64 s, .int .i64 u, .slice B N d] 24) := ⟨_, rfl⟩
    obtain ⟨G, hG⟩ : ∃ G, G = w4.heap.size := ⟨_, rfl⟩
    have b5 : Below w4.heap.size w4 W := by rw [hW]; exact alloc_below _ _
    have S0 : AllSt w W G N s u B d (List.replicate N false) := ⟨by rw [hW, hG]; exact Blk.new _ _ _, by have := hb.size; omega, iz.below b5, List.length_replicate .., hd, below_trans hb b5⟩
    replace ix := ix.below b5
    have HW := Lib.hid hW
    have HG' := Lib.hid hG
    clear hW hG b5 iz o hb
    go_wp2
    rw [← HW.out, ← HG'.out]
    go_loopw [13, 60] (fun x t wr => ∃ k : Nat, k ≤ N ∧ t = .int .i64 k ∧ x = .int .i64 (pcS s u k) ∧ wr = W) (fun _ t _ => N - (intOf t).toNat)
    case atStart => exact ⟨0, Nat.zero_le _, rfl, rfl, rfl⟩
    case round =>
      obtain ⟨k, hk, rfl, rfl, rfl⟩ := hrel
      obtain ⟨m, hm⟩ : ∃ m, m = pcS s u k := ⟨_, rfl⟩
      have mb := HS.out k hk
      rw [← hm] at mb ⊢
      have m0 : 0 ≤ m := by rw [mb]; have := Int.mul_nonneg (show 0 ≤ u by omega) (show (0 : Int) ≤ k by omega); omega
      have m1 : m ≤ s := by rw [mb]; omega
      clear mb
      by_cases hlt : k < N
      · obtain ⟨b1', o1', x, rfl, cx, HX⟩ := ix.at_ (k := k) (by rw [length_tab]; exact hlt)
        have ex : x = pcV s u k := by have := HX.out; rw [get_tab _ hlt] at this; exact (Option.some.inj this).symm
        obtain ⟨x0, x1, x2⟩ := HB.out k hlt
        rw [← ex] at x0 x1 x2
        have HQ : Hid (pcS s u (k + 1) = m + x) := Lib.hid (by rw [pcS, ← hm, ← ex])
        have i1 : (k : Int) < (N : Int) := by omega
        have s1 : IntKind.i64.wrap (m + x) = m + x := IntWalk.i64_in _ ⟨by omega, by omega⟩
        have s2 : IntKind.i64.wrap ((N : Int) - 1) = (N : Int) - 1 := IntWalk.i64_in _ ⟨by omega, by omega⟩
        have e1 : decide (x < 1) = false := decide_eq_false (by omega)
        have e2 : decide (u < x) = false := decide_eq_false (by omega)
        clear ex hm
        by_cases hl' : k + 1 < N
        · have e3 : decide ((k : Int) < (N : Int) - 1) = true := decide_eq_true (by omega)
          have e4 : (x != u) = false := by rw [x2 hl']; simp
          clear x2
          go_wp2
          go_roundw
          case rel => exact ⟨k + 1, by omega, by go_num, by rw [HQ.out], trivial⟩
          case measure => simp [intOf]; omega
        · have e3 : decide ((k : Int) < (N : Int) - 1) = false := decide_eq_false (by omega)
          clear x2
          go_wp2
          go_roundw
          case rel => exact ⟨k + 1, by omega, by go_num, by rw [HQ.out], trivial⟩
          case measure => simp [intOf]; omega
      · obtain rfl : N = k := by omega
        have hms : m = s := by rw [hm]; exact HA.out
        have e4 : (m != s) = false := by rw [hms]; simp
        have e5 : (N != N) = false := by simp
        have i1 : ¬ (N : Int) < (N : Int) := by omega
        have HS0 : Hid (stE s u N = 0) := Lib.hid (st_iff.mpr ⟨v, HN.out.symm⟩)
        clear hms hm
        obtain ⟨c0, c1, c2⟩ := three_read S0.K
        have lt0 := S0.K.lt
        go_wp2
        clear c0 c1 c2 lt0 e4 e5 i1 m0 m1
        go_loopw [105] (fun t wr => ∃ (i : Nat) (B : Option Addr) (d : Nat) (z : List Bool), i ≤ N ∧ t = .int .i64 i ∧ AllSt w wr G N s u B d z) (fun t _ => N - (intOf t).toNat)
        case atStart => exact ⟨0, _, _, _, Nat.zero_le _, rfl, S0⟩
        case round =>
          clear S0 ix
          obtain ⟨i, B, d, z, hi, rfl, S⟩ := hrel
          by_cases hlt : i < N
          · have i1 : (i : Int) < (N : Int) := by omega
            have i2 : decide (0 < (N : Int)) = true := decide_eq_true (by omega)
            have i3 : 0 < N := by omega
            by_cases ho : i < l.length
            · obtain ⟨bo, oo, y, rfl, co, HY⟩ := (hl.below S.b).at_ (k := i) ho
              obtain ⟨I, hI, I1⟩ := wiW y (N : Int) (by omega)
              have I2 : I < N := by omega
              have i4 : (i : Int) < (l.length : Int) := by omega
              have HI := Lib.hid hI
              clear hI HY I1
              go_wp2_with fail
              refine (within_q y (N : Int) I _ (by omega) (by omega) HI.out).mono ?_
              rintro e w5 ⟨rfl, m5, hw5⟩
              replace S := S.below (below_of_drewN hw5)
              clear hw5 co
              obtain ⟨c0, c1, c2⟩ := three_read S.K
              have lt0 := S.K.lt
              go_wp2_with fail
              clear c0 c1 c2 lt0
              refine (E.put_at s u B d N z I _ S.r S.n S.c HS0.out I2).mono ?_
              rintro e w6 ⟨B', d', rfl, iz, hd', b6⟩
              have S' := S.put iz hd' b6
              obtain ⟨s0, s1, s2⟩ := three_stageP ((AllSt.K S).below b6)
              obtain ⟨f0, f1, f2⟩ := three_frozenP ((AllSt.K S).below b6)
              obtain ⟨d0, d1, d2⟩ := three_read ((AllSt.K S).below b6)
              have lt1 := Blk.lt ((AllSt.K S).below b6)
              go_wp2
              go_roundw
              case rel => exact ⟨i + 1, B', d', _, by omega, by go_num, S'⟩
              case measure => simp [intOf]; omega
            · have i4 : ¬ (i : Int) < (l.length : Int) := by omega
              have i5 : decide (i < l.length) = false := decide_eq_false ho
              obtain ⟨c0, c1, c2⟩ := three_read S.K
              have lt0 := S.K.lt
              go_wp2_with fail
              clear c0 c1 c2 lt0
              refine (E.put_at s u B d N z i _ S.r S.n S.c HS0.out hlt).mono ?_
              rintro e w6 ⟨B', d', rfl, iz, hd', b6⟩
              have S' := S.put iz hd' b6
              obtain ⟨s0, s1, s2⟩ := three_stageP ((AllSt.K S).below b6)
              obtain ⟨f0, f1, f2⟩ := three_frozenP ((AllSt.K S).below b6)
              obtain ⟨d0, d1, d2⟩ := three_read ((AllSt.K S).below b6)
              have lt1 := Blk.lt ((AllSt.K S).below b6)
              go_wp2
              go_roundw
              case rel => exact ⟨i + 1, B', d', _, by omega, by go_num, S'⟩
              case measure => simp [intOf]; omega
          · obtain rfl : N = i := by omega
            have i1 : ¬ (N : Int) < (N : Int) := by omega
            go_wp2
            clear i1
            go_loopw [136] (fun t wr => ∃ (i : Nat) (B : Option Addr) (d : Nat) (z : List Bool), i ≤ N ∧ t = .int .i64 i ∧ AllSt w wr G N s u B d z ∧ Hid (miss z + i ≤ N)) (fun t _ => N - (intOf t).toNat)
            case atStart => exact ⟨0, _, _, _, Nat.zero_le _, rfl, S, Lib.hid (by have := miss_le z; rw [S.n] at this; omega)⟩
            case round =>
              clear S
              obtain ⟨i, B, d, z, hi, rfl, S, HM⟩ := hrel
              by_cases hlt : i < N
              · have i1 : (i : Int) < (N : Int) := by omega
                obtain ⟨c0, c1, c2⟩ := three_read S.K
                have lt0 := S.K.lt
                go_wp2_with fail
                clear c0 c1 c2 lt0
                refine (E.next_at s u B d N z _ S.r S.n HS0.out).mono ?_
                rintro e w5 ⟨⟨V, T, rfl, HV⟩, b5⟩
                replace S := S.below b5
                clear b5
                rcases HV.out with ⟨k, lt, rfl, rfl, no, _⟩ | ⟨rfl, rfl, all⟩
                · clear HV
                  have k2 : k < N := by rw [← S.n]; exact lt
                  have hmi := miss_set z k lt no
                  have HM' : Hid (miss (z.set k true) + (i + 1) ≤ N) := Lib.hid (by have := HM.out; omega)
                  obtain ⟨b2', o2', m, rfl, cm, HX⟩ := S.r.get lt
                  obtain rfl : m = false := by have := HX.out; rw [← no]; unfold hv; rw [List.getD, this]; rfl
                  have k1 : (k : Int) < (N : Int) := by omega
                  have k3 : ¬ (k : Int) < 0 := by omega
                  have k4 : ¬ (N : Int) ≤ (k : Int) := by omega
                  have k5 : (0 : Int) ≤ (k : Int) := by omega
                  have k6 : decide ((N : Int) ≤ (k : Int)) = false := decide_eq_false k4
                  clear hmi HX no HM lt
                  obtain ⟨c0, c1, c2⟩ := three_read S.K
                  have lt0 := S.K.lt
                  go_wp2_with fail
                  clear c0 c1 c2 lt0 cm
                  refine (E.put_at s u _ d N z k _ S.r S.n S.c HS0.out k2).mono ?_
                  rintro e w6 ⟨B', d', rfl, iz, hd', b6⟩
                  have S' := S.put iz hd' b6
                  obtain ⟨s0, s1, s2⟩ := three_stageP ((AllSt.K S).below b6)
                  obtain ⟨f0, f1, f2⟩ := three_frozenP ((AllSt.K S).below b6)
                  obtain ⟨d0, d1, d2⟩ := three_read ((AllSt.K S).below b6)
                  have lt1 := Blk.lt ((AllSt.K S).below b6)
                  go_wp2
                  go_roundw
                  case rel => exact ⟨i + 1, B', d', _, by omega, by go_num, S', HM'⟩
                  case measure => simp [intOf]; omega
                · clear HV
                  rw [S.n] at all
                  have HAll := Lib.hid all
                  clear all
                  obtain ⟨c0, c1, c2⟩ := three_read S.K
                  have lt0 := S.K.lt
                  have HG : Hid (gotS s u (hv z) N = s) := Lib.hid (by
                    rw [got_all N (fun i hi => HAll.out i hi), ← HN.out]
                    exact pc_all v1 v3)
                  go_wp2_with fail
                  refine (E.got_at s u B d N z _ s S.r S.n HS0.out HG).mono ?_
                  rintro e wt ⟨rfl, bt⟩
                  clear c0 c1 c2 lt0
                  replace S := S.below bt
                  clear bt
                  obtain ⟨c0, c1, c2⟩ := three_read S.K
                  have lt0 := S.K.lt
                  go_wp2_with fail
                  refine (E.next_at s u B d N z _ S.r S.n HS0.out).mono ?_
                  rintro e wu ⟨⟨V, T, rfl, HV⟩, bu⟩
                  replace S := S.below bu
                  clear bu
                  rcases HV.out with ⟨k, lt, rfl, rfl, no, _⟩ | ⟨rfl, rfl, _⟩
                  · exact absurd no (by rw [HAll.out k (by rw [← S.n]; exact lt)]; decide)
                  · clear HV c0 c1 c2 lt0
                    have Hb := Lib.hid S.b
                    go_wp2
                    go_ret
                    exact ⟨rfl, Hb.out⟩
              · obtain rfl : N = i := by omega
                have i1 : ¬ (N : Int) < (N : Int) := by omega
                have all : ∀ k, k < N → hv z k = true := fun k hk => miss_all z (by have := HM.out; omega) k (by rw [S.n]; exact hk)
                have HAll := Lib.hid all
                clear all
                obtain ⟨c0, c1, c2⟩ := three_read S.K
                have lt0 := S.K.lt
                have HG : Hid (gotS s u (hv z) N = s) := Lib.hid (by
                  rw [got_all N (fun i hi => HAll.out i hi), ← HN.out]
                  exact pc_all v1 v3)
                go_wp2_with fail
                refine (E.got_at s u B d N z _ s S.r S.n HS0.out HG).mono ?_
                rintro e wt ⟨rfl, bt⟩
                clear c0 c1 c2 lt0
                replace S := S.below bt
                clear bt
                obtain ⟨c0, c1, c2⟩ := three_read S.K
                have lt0 := S.K.lt
                go_wp2_with fail
                refine (E.next_at s u B d N z _ S.r S.n HS0.out).mono ?_
                rintro e wu ⟨⟨V, T, rfl, HV⟩, bu⟩
                replace S := S.below bu
                clear bu
                rcases HV.out with ⟨k, lt, rfl, rfl, no, _⟩ | ⟨rfl, rfl, _⟩
                · exact absurd no (by rw [HAll.out k (by rw [← S.n]; exact lt)]; decide)
                · clear HV c0 c1 c2 lt0
                  have Hb := Lib.hid S.b
                  go_wp2
                  go_ret
                  exact ⟨rfl, Hb.out⟩
  · go_wp2_with fail
    refine (E.sizes_no s u _ hE).mono ?_
    rintro e w3 ⟨⟨A, c3, rfl⟩, b3⟩
    replace hb := below_trans hb b3
    clear b3
    go_wp2_with fail
    refine (E.new_no s u _ hE).mono ?_
    rintro e w4 ⟨⟨B, d, rfl⟩, b4⟩
    replace hb := below_trans hb b4
    clear b4
    have e1 : (whE s u != 0) = true := by simp [hE]
    have hb5 := hb.alloc hb.size (.cells #[.int .i64 0, .int .i64 0, .slice B 0 d] 24)
    clear hE
    go_wp2
    go_ret
    exact ⟨by simp, hb5⟩

end Go.Proofs.Ytmefekgbljhclaa
