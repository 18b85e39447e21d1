
/-
  The walk of the law TopSnapshot over the contracts of packages piece and resume.
-/
import Derived.Test.YtjlkcjaofglpmaaSnpP
import Derived.Test.YtjlkcjaofglpmaaWiN
import Derived.Test.YtjlkcjaofglpmaaBegB
import Derived.Deep.DeepCutAuto
import Derived.Deep.RegionWith
namespace Go.Proofs.Ytjlkcjaofglpmaa
set_option linter.all false
open Go.RowKit Go.Shelf Go.Lib


theorem below_tr {B : Nat} {a b c : World} (h : Below B a b) (k : Below B b c) : Below B a c :=
  ⟨k.os.trans h.os, k.tape.trans h.tape, k.output.trans h.output, Nat.le_trans h.size k.size, fun i hi => (k.block i hi).trans (h.block i hi)⟩
theorem AllSt.oth {w W W' : World} {G N g : Nat} {s u : Int} {B : Option Addr} {d : Nat} {z : List Bool} (h : AllSt w W G N s u B d z) (k : Oth g W W') (nG : G ≠ g) (nB : ∀ b off, B = some ⟨b, off, none⟩ → b ≠ g) (hg : w.heap.size ≤ g) : AllSt w W' G N s u B d z :=
  ⟨k.blk nG h.K, h.g, k.bls nB h.r, h.n, h.c, below_tr h.b (k.below _ hg h.b.size)⟩
theorem own_blt {w : World} {base n c : Nat} {e : TypeId} {A : Option Addr} {xs : List Value} (h : w.ownsRow base e 1 (.slice A n c) n xs) : ∀ b off, A = some ⟨b, off, none⟩ → base ≤ b ∧ b < w.heap.size := by
  intro b off hA
  rcases h.2 with ⟨hv, _⟩ | ⟨g, cap, cur, hv, hB, hb, _⟩
  · injection hv with e1; rw [hA] at e1; cases e1
  · injection hv with e1
    rw [hA] at e1
    injection e1 with e1
    injection e1 with e1
    subst e1
    exact ⟨hB, Blk.lt hb⟩
theorem delete_at (g J n cap : Nat) (k : Int) (l : List Int) (w : World) (hn : n = l.length) (hJ : J < n) (hbig : n ≤ 1000) (hk : k = (J : Int) + 1) (h : LfB w g n cap (gt l)) :
    Calls Try.prog 26 #[.slice (some ⟨g, 0, none⟩) n cap, .int .i64 J, .int .i64 k] w fun e w' =>
      e = .returned (.slice (some ⟨g, 0, none⟩) (n - 1) cap) ∧ LfB w' g (n - 1) cap (gt (l.eraseIdx J)) ∧ Oth g w w' := by
  obtain ⟨m, rfl⟩ : ∃ m, n = J + m + 1 := ⟨n - J - 1, by omega⟩
  subst hk
  have := delete_int g J m cap l w hn.symm (by omega) h
  rw [show ((J + 1 : Nat) : Int) = (J : Int) + 1 by omega] at this
  rw [show J + m + 1 - 1 = J + m by omega]
  exact this
theorem PieceC.put_own (E : PieceC) (s u : Int) (A : Option Addr) (c n : Nat) (z : List Bool) (I : Nat) (w : World) (h : Bls w A z) (hn : z.length = n) (hc : n ≤ c) (h0 : stE s u n = 0) (hi : I < n) : Calls Try.prog 25 #[.agg #[.int .i64 s, .int .i64 u, .slice A n c], .int .i64 I] w fun e w' => ∃ (B : Option Addr) (d : Nat), e = .returned (.tuple #[.agg #[.int .i64 s, .int .i64 u, .slice B n d], .int .i64 0]) ∧ Bls w' B (z.set I true) ∧ n ≤ d ∧ Below w.heap.size w w' ∧ ∀ b off, B = some ⟨b, off, none⟩ → w.heap.size ≤ b := by
  subst hn
  refine (E.put s u A c z I w h hc h0 hi).mono ?_
  rintro e w' ⟨B, d, he, o, b⟩
  refine ⟨B, d, he, Bls.of_ownP (by rw [List.length_set]; exact o), ?_, b, fun bb off e => (own_blt o bb off e).1⟩
  rcases o.2 with ⟨_, h0⟩ | ⟨g, cap, cur, hv, _, _, hn, _⟩
  · omega
  · injection hv with _ _ e
    subst e
    exact hn
/-- Behind a piece that was put: the state, and what is left. -/
structure PutS (w W : World) (G N g n k : Nat) (s u : Int) (l : List Int) (z : List Bool) (B : Option Addr) (d : Nat) : Prop where
  st : AllSt w W G N s u B d z
  lf : LfB W g n k (gt l)
  nb : ∀ b off, B = some ⟨b, off, none⟩ → b ≠ g
theorem first_below {w : World} (W : World) (h : W = w ∨ W = w.drew) : Below w.heap.size w W := by
  rcases h with rfl | rfl
  · exact Below.refl _ _
  · exact (Below.refl _ _).drew
set_option maxRecDepth 100000 in
set_option maxHeartbeats 3200000 in
theorem v_TopSnapshot (E : PieceC) (R : ResC) (s u r : Int) (a3 : Option Addr) (c3 : Nat) (l3 : List Bool) (a4 : Option Addr) (c4 : Nat) (l4 : List Int) (w : World)
    (_1 : (Lit.int .i64 s).wf = true) (_2 : (Lit.int .i64 u).wf = true) (_3 : (Lit.int .i64 r).wf = true) (h3 : Bls w a3 l3) (_k3 : l3.length ≤ c3) (h4 : Ints w a4 l4) (_k4 : l4.length ≤ c4) :
    Calls Try.prog 10 #[.int .i64 s, .int .i64 u, .int .i64 r, .slice a3 l3.length c3, .slice a4 l4.length c4] w fun e w' => e = .returned (.bool true) ∧ Below w.heap.size w w' := by
  have hb := Below.refl w.heap.size w
  have hl4 := h4.1
  clear _1 _2 _3 _k3 _k4
  by_cases hE : whE s u = 0
  · have v := wh_iff.mp hE
    have v1 := v.s0
    have v2 := v.s1
    have v3 := v.u0
    have v4 := v.u1
    have hN2 := pcn_max v
    obtain ⟨N, hN⟩ : ∃ N, pcN s u = N := ⟨_, rfl⟩
    rw [hN] at hN2
    have HN := Lib.hid hN
    have H0 := Lib.hid hE
    have HS0 : Hid (stE s u N = 0) := Lib.hid (st_iff.mpr ⟨v, hN.symm⟩)
    clear hN hE
    go_enter Try.func10, Try.ntmps10
    go_wp2_with fail
    refine (E.sizes_at s u N _ H0.out HN.out rfl rfl).mono ?_
    rintro e w3 ⟨A, cA, rfl, ix, hcA, b3⟩
    replace hb := below_trans hb b3
    clear b3
    go_wp2_with fail
    refine (E.new s u _ H0.out).mono ?_
    rw [HN.out]
    rintro e w4 ⟨B, d, rfl, o, b4⟩
    replace hb := below_trans hb b4
    replace ix := ix.below b4
    clear b4
    have hd : N ≤ d := by
      rcases o.2 with ⟨_, h0⟩ | ⟨g, cap, cur, hv, _, _, hn, _⟩
      · omega
      · injection hv with _ _ e
        subst e
        exact hn
    have hB := own_blt o
    have iz : Bls w4 B (List.replicate N false) := Bls.of_ownP (by rw [List.length_replicate]; exact o)
    obtain ⟨W, hW⟩ : ∃ W, W = w4.alloc (.cells #[.int .i64 s, .int .i64 u, .slice B N d] 44) := ⟨_, rfl⟩
    obtain ⟨G, hG⟩ : ∃ G, G = w4.heap.size := ⟨_, rfl⟩
    have b5 : Below w4.heap.size w4 W := by rw [hW]; exact alloc_below _ _
    have S0 : AllSt w W G N s u B d (List.replicate N false) := ⟨by rw [hW, hG]; exact Blk.new _ _ _, by have := hb.size; omega, iz.below b5, List.length_replicate .., hd, below_trans hb b5⟩
    have hBW : ∀ b off, B = some ⟨b, off, none⟩ → b < W.heap.size := fun b off e => by have := (hB b off e).2; have := b5.size; omega
    have hGW : G < W.heap.size := S0.K.lt
    have HW := Lib.hid hW
    have HG' := Lib.hid hG
    clear hW hG b5 iz o hb hB ix hcA
    go_wp2_with fail
    rw [← HW.out, ← HG'.out]
    refine (beginB_any _).mono ?_
    rintro e w5 ⟨rfl, b5⟩
    have z5 := b5.size
    replace S0 := S0.below b5
    clear b5
    by_cases hR : ruE s u r l3.length = 0
    · obtain ⟨ok, hle⟩ := ru_ok hR
      have HR := Lib.hid hR
      have HOK := Lib.hid ok
      have r0 := ok.r0
      obtain ⟨K, hK⟩ : ∃ K, K = crV (hv l3) l3.length := ⟨_, rfl⟩
      have k0 : 0 ≤ K := by rw [hK]; exact cr_lo _ _
      have k1 : K ≤ 200 := by rw [hK]; have := cr_hi (hv l3) l3.length; omega
      have HK := Lib.hid hK
      obtain ⟨V, hV⟩ : ∃ V, boV s u r K = V := ⟨_, rfl⟩
      obtain ⟨F, hF⟩ : ∃ F, boE s u r K = F := ⟨_, rfl⟩
      obtain ⟨hF5, _, hV0⟩ := bo_or ok k0 k1
      rw [hF] at hF5
      rw [hV] at hV0
      have HBO : Hid (∀ t : Nat, crV (hv l3) t ≤ K → F = 0 → V ≤ t → reV s u r (hv l3) t = s) := Lib.hid (fun t a b c => bo_at ok t a k1 (by rw [hF]; exact b) (by rw [hV]; exact c))
      have HV := Lib.hid hV
      have HF := Lib.hid hF
      clear hK hR ok hV hF
      have i3 := h3.below S0.b
      go_wp2_with fail
      refine (R.run_yes a3 l3 (ruL s u r l3) _ l3.length c3 s u r _ i3 HR (Lib.hid rfl) rfl rfl).mono ?_
      rintro e w6 ⟨Ax, cx, rfl, hx, kx, b6⟩
      have z6 := b6.size
      replace S0 := S0.below b6
      replace i3 := i3.below b6
      clear b6
      go_wp2
      go_loop [16, 67] (fun k i => ∃ t : Nat, t ≤ l3.length ∧ k = .int .i64 (crV (hv l3) t) ∧ i = .int .i64 t) (fun _ i => l3.length - (intOf i).toNat)
      case atStart => exact ⟨0, Nat.zero_le _, rfl, rfl⟩
      case round =>
        obtain ⟨t, ht, rfl, rfl⟩ := hrel
        obtain ⟨j, hj⟩ : ∃ j, j = crV (hv l3) t := ⟨_, rfl⟩
        have j0 : 0 ≤ j := by rw [hj]; exact cr_lo _ _
        have j1 : j ≤ t := by rw [hj]; exact cr_hi _ _
        rw [← hj]
        by_cases hlt : t < l3.length
        · obtain ⟨b2, o2, b, rfl, hc2, HB⟩ := i3.get hlt
          have hv' : hv l3 t = b := by rw [hv, List.getD, HB.out]; rfl
          have HJ : Hid (crV (hv l3) (t + 1) = j + if b = true then 1 else 0) := Lib.hid (by rw [crV, ← hj, hv'])
          have i1 : (t : Int) < (l3.length : Int) := by omega
          have s3 : IntKind.i64.wrap (j + 1) = j + 1 := IntWalk.i64_in _ ⟨by omega, by omega⟩
          clear hv' hj
          cases b with
          | true =>
            have HJ' : Hid (crV (hv l3) (t + 1) = j + 1) := Lib.hid (by rw [HJ.out, if_pos rfl])
            clear HJ
            go_wp2
            go_round
            case rel => exact ⟨t + 1, by omega, by rw [HJ'.out], by go_num⟩
            case measure => simp [intOf]; omega
          | false =>
            have HJ' : Hid (crV (hv l3) (t + 1) = j) := Lib.hid (by rw [HJ.out, if_neg (by decide), Int.add_zero])
            clear HJ
            go_wp2
            go_round
            case rel => exact ⟨t + 1, by omega, by rw [HJ'.out], by go_num⟩
            case measure => simp [intOf]; omega
        · obtain rfl : t = l3.length := by omega
          obtain rfl : j = K := by rw [hj, HK.out]
          clear hj
          go_wp2_with fail
          refine (R.bound_at s u r j V F _ HV HF).mono ?_
          rintro e w7 ⟨rfl, b7⟩
          have z7 := b7.size
          replace S0 := S0.below b7
          replace hx := hx.below b7
          clear b7 i3
          go_upto_region 16 with fail
          go_cut [103] (fun x wx => x = .bool false ∧ w7 = wx)
          case first =>
            rcases hF5 with rfl | rfl
            · by_cases q1 : V ≤ (l3.length : Int)
              · have d1 : decide (V ≤ (l3.length : Int)) = true := decide_eq_true q1
                by_cases q2 : 0 < V
                · have d2 : decide (0 < V) = true := decide_eq_true q2
                  obtain ⟨n, hn⟩ : ∃ n : Nat, V = (n : Int) + 1 := ⟨(V - 1).toNat, by omega⟩
                  obtain ⟨b1, o1, y, rfl, hc1, HX⟩ := hx.at_ (k := n) (by rw [length_ruL]; omega)
                  have hy := gt_of_get HX.out
                  rw [gt_ruL (by omega)] at hy
                  have hys := HBO.out (n + 1) (by
                    rw [HK.out]
                    exact cr_up (hv l3) (by omega)) rfl (by omega)
                  rw [hys] at hy
                  subst hy
                  have m1 : IntKind.i64.wrap (V - 1) = (n : Int) := by rw [hn, IntWalk.i64_in _ ⟨by omega, by omega⟩]; omega
                  have i1 : (n : Int) < (l3.length : Int) := by omega
                  clear hys HX hn
                  go_wp2_with fail
                  all_goals go_meet
                  all_goals exact ⟨rfl, rfl⟩
                · have d2 : decide (0 < V) = false := decide_eq_false q2
                  go_wp2_with fail
                  all_goals go_meet
                  all_goals exact ⟨rfl, rfl⟩
              · have d1 : decide (V ≤ (l3.length : Int)) = false := decide_eq_false q1
                go_wp2_with fail
                all_goals go_meet
                all_goals exact ⟨rfl, rfl⟩
            · go_wp2_with fail
              all_goals go_meet
              all_goals exact ⟨rfl, rfl⟩
          case rest =>
          obtain ⟨rfl, rfl⟩ := hcut
          obtain ⟨X, hX⟩ : ∃ X, X = reV s u r (hv l3) l3.length := ⟨_, rfl⟩
          have xb := re_bd (c := hv l3) v1 (show 0 < u by omega) r0 l3.length
          rw [← hX] at xb
          obtain ⟨x0, x1⟩ := xb
          obtain ⟨H, hH⟩ : ∃ H, H = whH s u X N l3.length := ⟨_, rfl⟩
          have hwf := wh_facts v HN.out x0 x1 (n := l3.length) (fun h => by rw [hX, h]; rfl)
          rw [← hH] at hwf
          obtain ⟨hHN, hHI, hHL⟩ := hwf
          have HI := Lib.hid hHI
          have HL := Lib.hid hHL
          have HX := Lib.hid hX
          have HH := Lib.hid hH
          have e0 : (u == 0) = false := by rw [beq_eq_false_iff_ne]; omega
          have z0 := S0.b.size
          clear hX hH hHI hHL HBO HV HF hF5 hV0 k0 k1 j0 j1 ht hlt
          go_upto_if 106 with fail
          go_cut [20] (fun x wx => x = .int .i64 H ∧ w7 = wx)
          case first =>
            generalize hbb : decide (0 < l3.length) = bb
            cases bb with
            | false =>
              have hn : l3.length = 0 := by have := of_decide_eq_false hbb; omega
              have HZ : Hid (H = 0) := Lib.hid (by rw [HH.out, whH, if_pos hn])
              clear hn hbb
              go_wp2_with fail
              all_goals go_meet
              all_goals exact ⟨by rw [HZ.out]; rfl, rfl⟩
            | true =>
              have hn : ¬ l3.length = 0 := by have := of_decide_eq_true hbb; omega
              clear hbb
              obtain ⟨n, hn'⟩ : ∃ n : Nat, l3.length = n + 1 := ⟨l3.length - 1, by omega⟩
              obtain ⟨b1, o1, y, rfl, hc1, HY⟩ := hx.at_ (k := n) (by rw [length_ruL]; omega)
              have hy := gt_of_get HY.out
              rw [gt_ruL (by omega), ← hn', ← HX.out] at hy
              subst hy
              have m1 : IntKind.i64.wrap ((l3.length : Int) - 1) = (n : Int) := by rw [hn', IntWalk.i64_in _ ⟨by omega, by omega⟩]; omega
              have i1 : (n : Int) < (l3.length : Int) := by omega
              obtain ⟨Q, hQ⟩ : ∃ Q, Q = X / u := ⟨_, rfl⟩
              have Q0 : 0 ≤ Q := by rw [hQ]; exact Int.ediv_nonneg x0 (by omega)
              have Q1 : Q ≤ X := by rw [hQ]; exact Int.ediv_le_self (b := u) x0
              have m2 : Int.tdiv X u = Q := by rw [hQ, Int.tdiv_eq_ediv_of_nonneg x0]
              have m3 : IntKind.i64.wrap Q = Q := IntWalk.i64_in _ ⟨by omega, by omega⟩
              by_cases q : X = s
              · have HZ : Hid (H = N) := Lib.hid (HI.out.2 q)
                have d3 : (X == s) = true := by rw [q]; simp
                clear hn hn' hQ HY q
                go_wp2_with fail
                all_goals go_meet
                all_goals exact ⟨by rw [HZ.out], rfl⟩
              · have HZ : Hid ((H : Int) = Q) := Lib.hid (by rw [HH.out, whH, if_neg hn, if_neg q, ← hQ, Int.toNat_of_nonneg Q0])
                have d3 : (X == s) = false := by rw [beq_eq_false_iff_ne]; exact q
                clear hn hn' hQ HY q
                go_wp2_with fail
                all_goals go_meet
                all_goals exact ⟨by rw [HZ.out], rfl⟩
          case rest =>
          obtain ⟨rfl, rfl⟩ := hcut
          obtain ⟨g, hg⟩ : ∃ g, g = w7.heap.size := ⟨_, rfl⟩
          obtain ⟨W9, hW9⟩ : ∃ W9, W9 = w7.alloc (.cells (madeCells #[Value.int .i64 0] H) 3) := ⟨_, rfl⟩
          have hmk := run_make_row' (P := Try.prog) 22 3 (.int .i64 0) 8 Try.underlying22 int_info rfl .i64 .i64 H (by omega) (by omega) w7
          rw [← hW9, ← hg] at hmk
          have L9 : LfB W9 g H H (fun t => if t < 0 then (t : Int) else 0) := LfB.made (by rw [hW9, hg]; exact Blk.new _ _ _) (fun k _ => by rw [if_neg (by omega)])
          have S9 : AllSt w W9 G N s u B d (List.replicate N false) := by rw [hW9]; exact S0.below (alloc_below _ _)
          have nG : G ≠ g := by omega
          have nB : ∀ b off, B = some ⟨b, off, none⟩ → b ≠ g := fun b off e => by have := hBW b off e; omega
          have gle : w.heap.size ≤ g := by omega
          have i9 : ¬ (N : Int) < (H : Int) := by omega
          clear hW9 hg S0 hx HX HH x0 x1 z0 z5 z6 z7 hBW hGW
          go_wp2
          go_loopw [133] (fun i wr => ∃ k : Nat, k ≤ H ∧ i = .int .i64 k ∧ LfB wr g H H (fun t => if t < k then (t : Int) else 0) ∧ Oth g W9 wr) (fun i _ => H - (intOf i).toNat)
          case atStart => exact ⟨0, Nat.zero_le _, rfl, L9, Oth.refl _ _⟩
          case round =>
            obtain ⟨k, hk, rfl, hL, hO⟩ := hrel
            by_cases hlt : k < H
            · have ck := hL.cell hlt
              rw [if_neg (by omega)] at ck
              have fk := hL.frozen k
              have i1 : (k : Int) < (H : Int) := by omega
              have L2 := Lib.hid (hL.store (G := fun t => if t < k + 1 then (t : Int) else 0) hlt (by rw [if_pos (by omega)]) (fun j _ e => by
                by_cases c : j < k
                · rw [if_pos c, if_pos (by omega)]
                · rw [if_neg c, if_neg (by omega)]))
              have O2 := Lib.hid (hO.set_ k (.int .i64 k))
              clear hL hO
              go_wp2
              go_roundw
              case rel => exact ⟨k + 1, by omega, by go_num, L2.out, O2.out⟩
              case measure => simp [intOf]; omega
            · obtain rfl : k = H := by omega
              have i1 : ¬ (k : Int) < (k : Int) := by omega
              have S := S9.oth hO nG nB gle
              have L3 : LfB wr g k k (gt (tab k (fun t : Nat => (t : Int)))) := hL.same (fun j hj => by rw [gt_tab _ hj, if_pos hj])
              have SN : Hid (SnI (tab k (fun t : Nat => (t : Int))) (List.replicate N false) k N) := Lib.hid (SnI.start (length_tab _ _) (fun j hj => gt_tab _ hj))
              have HT := length_tab k (fun t : Nat => (t : Int))
              clear hO hL S9 hmk L9
              go_wp2
              clear i1
              go_loopw [21, 23] (fun o i wr => ∃ (t n : Nat) (l : List Int) (B : Option Addr) (d : Nat) (z : List Bool), t + n = k ∧ l.length = n ∧ o = .slice (some ⟨g, 0, none⟩) n k ∧ i = .int .i64 t ∧ LfB wr g n k (gt l) ∧ AllSt w wr G N s u B d z ∧ (∀ b off, B = some ⟨b, off, none⟩ → b ≠ g) ∧ Hid (SnI l z k N)) (fun _ i _ => k - (intOf i).toNat)
              case atStart => exact ⟨0, k, _, B, d, _, by omega, HT, rfl, rfl, L3, S, nB, SN⟩
              case round =>
                clear S L3 SN HT nB
                obtain ⟨t, n, l, B, d, z, htn, hln, rfl, rfl, hL, S, nB, SN⟩ := hrel
                by_cases h0 : 0 < n
                · have d1 : (0 : Int) < (n : Int) := by omega
                  go_upto_if 149 with fail
                  go_cut [24] (fun x wx => ∃ J : Nat, J < n ∧ x = .int .i64 J ∧ wr = wx)
                  case first =>
                    generalize hbb : decide (t < l4.length) = bb
                    cases bb with
                    | true =>
                      have ho : t < l4.length := of_decide_eq_true hbb
                      obtain ⟨bo, oo, y, rfl, co, HY⟩ := (h4.below S.b).at_ ho
                      obtain ⟨J, hJ⟩ := Int.eq_ofNat_of_zero_le (wi_nonneg y (n : Int) (by omega))
                      have hJn : J < n := by have := wi_lt y (n : Int) (by omega); omega
                      have HJ := Lib.hid hJ
                      have i4 : (t : Int) < (l4.length : Int) := by omega
                      clear hJ hbb
                      go_wp2_with fail
                      refine (within_n y n J _ (by omega) (by omega) HJ).mono ?_
                      rintro e w5 ⟨rfl, rfl⟩
                      go_wp2_with fail
                      go_meet
                      exact ⟨J, hJn, rfl, rfl⟩
                    | false =>
                      clear hbb
                      go_wp2_with fail
                      go_meet
                      exact ⟨0, h0, rfl, rfl⟩
                  case rest =>
                  obtain ⟨J, hJ, rfl, rfl⟩ := hcut
                  have hlo := SN.out.lo J (by omega)
                  obtain ⟨I, hI⟩ := Int.eq_ofNat_of_zero_le hlo.1
                  have hIk : I < k := by omega
                  have hIN : I < N := by omega
                  have cJ := hL.cell hJ
                  rw [hI] at cJ
                  have HSN : Hid (SnI (l.eraseIdx J) (z.set I true) k N) := Lib.hid (SN.out.step S.n hHN (by omega) hI)
                  have i1 : (J : Int) < (n : Int) := by omega
                  clear hlo hI SN
                  obtain ⟨c0, c1, c2⟩ := three_read S.K
                  have lt0 := S.K.lt
                  have hlt2 := hL.lt
                  have ng : g ≠ G := fun e => nG e.symm
                  have HP : ∀ W' : World, Below wr.heap.size wr W' → Calls Try.prog 25 #[.agg #[.int .i64 s, .int .i64 u, .slice B N d], .int .i64 I] W' fun e w8 => ∃ (B' : Option Addr) (d' : Nat), e = .returned (.tuple #[.agg #[.int .i64 s, .int .i64 u, .slice B' N d'], .int .i64 0]) ∧ Blk w8 G 44 #[.int .i64 s, .int .i64 u, .slice B N d] ∧ Hid (PutS w (((w8.setCell ⟨G, 0, none⟩ (.int .i64 s)).setCell ⟨G, 1, none⟩ (.int .i64 u)).setCell ⟨G, 2, none⟩ (.slice B' N d')) G N g n k s u l (z.set I true) B' d') := fun W' hW' => by
                    have S1 := S.below hW'
                    refine (E.put_own s u B d N z I W' S1.r S1.n S1.c HS0.out hIN).mono ?_
                    rintro e w8 ⟨B', d', rfl, iz, hd', b8, hB'⟩
                    have hsz := hW'.size
                    exact ⟨B', d', rfl, S1.K.below b8, Lib.hid ⟨S1.put iz hd' b8, ((((hL.below hW').below b8).past (a := ⟨G, 0, none⟩) ng _).past (a := ⟨G, 1, none⟩) ng _).past (a := ⟨G, 2, none⟩) ng _, fun b off e => by have h1 := hB' b off e; omega⟩⟩
                  have HPP := Lib.hid HP
                  clear HP
                  go_upto_region 37 with fail
                  go_cut [12] (fun x wx => x = .int .i64 0 ∧ ∃ (B' : Option Addr) (d' : Nat), PutS w wx G N g n k s u l (z.set I true) B' d')
                  case first =>
                    go_region_with (go_at_call 25; refine (HPP.out _ (first_below _ (by first | exact .inl rfl | exact .inr rfl))).mono ?_; rintro e w8 ⟨B', d', rfl, K8, HS⟩; obtain ⟨q0, q1, q2⟩ := three_stageP K8; obtain ⟨f0, f1, f2⟩ := three_frozenP K8; obtain ⟨g0, g1, g2⟩ := three_read K8; have lt1 := K8.lt)
                    all_goals
                      go_wp2_with fail
                      go_meet
                      exact ⟨rfl, B', d', HS.out⟩
                  case rest =>
                  obtain ⟨rfl, B', d', S', L7, nB8⟩ := hcut
                  clear S hL nB c0 c1 c2 lt0 cJ HPP
                  go_wp2_with fail
                  refine (delete_at g J n k _ l wc hln.symm hJ (by omega) rfl L7).mono ?_
                  rintro e w9 ⟨rfl, L8, O8⟩
                  have S8 := S'.oth O8 nG nB8 gle
                  clear L7 O8 S'
                  go_wp2
                  go_roundw
                  case rel => exact ⟨t + 1, n - 1, l.eraseIdx J, B', d', _, by omega, by rw [List.length_eraseIdx, if_pos (by omega)]; omega, rfl, by go_num, L8, S8, nB8, HSN⟩
                  case measure => simp [intOf]; omega
                · obtain rfl : n = 0 := by omega
                  have hlast : ∀ i, i < N → (hv z i = true ↔ i < k) := fun i hi => SN.out.last hln i hi
                  have HLS := Lib.hid hlast
                  have hgf := got_first (s := s) (u := u) (m := hv z) (H := k) N hlast
                  rw [show min N k = k by omega] at hgf
                  obtain ⟨P, hP⟩ : ∃ P, P = pcS s u k := ⟨_, rfl⟩
                  have hps := pc_sum v1 v3 k (by rw [HN.out]; exact hHN)
                  rw [← hP] at hps
                  have HG : Hid (gotS s u (hv z) N = P) := Lib.hid (by rw [hgf, hP])
                  have HPA : Hid (k = N → P = s) := Lib.hid (fun e => by rw [hP, e, ← HN.out]; exact pc_all v1 v3)
                  have P0 : 0 ≤ P := by have := Int.mul_nonneg (show 0 ≤ u by omega) (show (0 : Int) ≤ (k : Int) by omega); omega
                  have P1 : P ≤ 1000000 := by omega
                  have HPS := Lib.hid hps
                  clear hlast hgf hP SN hL nB hps
                  obtain ⟨c0, c1, c2⟩ := three_read S.K
                  have lt0 := S.K.lt
                  go_wp2_with fail
                  refine (E.got_at s u B d N z _ P S.r S.n HS0.out HG).mono ?_
                  rintro e wt ⟨rfl, bt⟩
                  clear c0 c1 c2 lt0
                  replace S := S.below bt
                  clear bt
                  obtain ⟨c0, c1, c2⟩ := three_read S.K
                  have lt0 := S.K.lt
                  go_wp2_with fail
                  refine (E.next_at s u B d N z _ S.r S.n HS0.out).mono ?_
                  rintro e wu ⟨⟨V1, T1, rfl, HV⟩, bu⟩
                  replace S := S.below bu
                  clear bu c0 c1 c2 lt0
                  have Hb := Lib.hid S.b
                  have hzn := S.n
                  clear S
                  by_cases hkN : k = N
                  · obtain rfl := HPA.out hkN
                    subst hkN
                    rcases HV.out with ⟨m, lt, rfl, rfl, no, _⟩ | ⟨rfl, rfl, _⟩
                    · rw [hzn] at lt
                      exact absurd ((HLS.out m lt).2 lt) (by rw [no]; decide)
                    · clear HV
                      go_wp2
                      go_ret
                      exact ⟨rfl, Hb.out⟩
                  · have hlt := HL.out (by omega)
                    have PE : P = u * (k : Nat) := by have := HPS.out; omega
                    rcases HV.out with ⟨m, lt, rfl, rfl, no, all⟩ | ⟨rfl, rfl, all⟩
                    · obtain rfl : m = k := by
                        rw [hzn] at lt
                        have h1 : ¬ m < k := fun c => by have := (HLS.out m lt).2 c; rw [no] at this; cases this
                        by_cases c : m = k
                        · exact c
                        · have := (HLS.out k (by omega)).1 (all k (by omega)); omega
                      have e7 : ((m : Int) == (N : Int)) = false := by rw [beq_eq_false_iff_ne]; omega
                      have e8 : (m == N) = false := by rw [beq_eq_false_iff_ne]; omega
                      have s2 : IntKind.i64.wrap ((m : Int) * u) = P := by rw [Int.mul_comm, ← PE]; exact IntWalk.i64_in _ ⟨by omega, by omega⟩
                      clear HV PE hlt all no lt
                      go_wp2
                      go_ret
                      exact ⟨rfl, Hb.out⟩
                    · have h1 := all k (by omega)
                      exact absurd ((HLS.out k (by omega)).1 h1) (by omega)
    · have HR := Lib.hid hR
      have e1 : (ruE s u r l3.length != 0) = true := by simp [hR]
      clear hR
      go_wp2_with fail
      refine (R.run_no a3 l3 _ c3 s u r _ (h3.below S0.b) HR rfl).mono ?_
      rintro e w6 ⟨⟨C, f, rfl⟩, b6⟩
      replace S0 := S0.below b6
      have Hb := Lib.hid S0.b
      clear b6
      go_wp2
      go_ret
      exact ⟨rfl, Hb.out⟩
  · go_enter Try.func10, Try.ntmps10
    go_wp2_with fail
    refine (E.sizes_no s u _ hE).mono ?_
    rintro e w3 ⟨⟨A, c3, rfl⟩, b3⟩
    replace hb := below_trans hb b3
    clear b3
    go_wp2_with fail
    refine (E.new_no s u _ hE).mono ?_
    rintro e w4 ⟨⟨B, d, rfl⟩, b4⟩
    replace hb := below_trans hb b4
    clear b4
    have e1 : (whE s u != 0) = true := by simp [hE]
    have hb5 := hb.alloc hb.size (.cells #[.int .i64 0, .int .i64 0, .slice B 0 d] 44)
    clear hE hb
    go_wp2_with fail
    refine (beginB_any _).mono ?_
    rintro e w5 ⟨rfl, b5⟩
    replace hb5 := below_trans hb5 b5
    clear b5
    go_wp2_with fail
    refine (beginB_any _).mono ?_
    rintro e w6 ⟨rfl, b6⟩
    replace hb5 := below_trans hb5 b6
    clear b6
    go_wp2
    go_ret
    exact ⟨by simp, hb5⟩

end Go.Proofs.Ytjlkcjaofglpmaa
