
/-
  Walks: a map of numbers by index; the least of a list by it (slices.MinFunc), one number taken out of a list (slices.DeleteFunc).
-/
import Derived.Test.YtamkadffencpgaaFairC
import Derived.Maps.Own
import Derived.Maps.Views
namespace Go.Proofs.Ytamkadffencpgaa
set_option linter.all false
open Go.RowKit Go.Shelf Go.Lib Go.Maps

theorem int_law : Keyed Try.prog 3 := int_keyed Try.underlying3
theorem int_zero (w : World) : (zeroValue 3).run Try.prog w = .ok (.int .i64 0) w := by kernel_rfl
theorem lit_wf {x : Int} (h0 : -9223372036854775808 ≤ x) (h1 : x ≤ 9223372036854775807) : (Lit.int .i64 x).wf = true := WalkArith.wf_i64 ⟨h0, h1⟩
/-- Block b is a map that holds f at each number below n. -/
def Mp (w : World) (b n : Nat) (f : Nat → Int) : Prop :=
  ∃ D : DataW Unit, w.ownsMap Try.prog 3 (plainElem Try.prog 3) b n D ∧ ∀ i : Nat, i < n → D.atKey (.int .i64 i) (.lit (.int .i64 0)) = .lit (.int .i64 (f i))
theorem Mp.made (w : World) (f : Nat → Int) : Mp (w.alloc (.map #[] 0)) w.heap.size 0 f := ⟨_, World.ownsMap_made _ _ _ _, fun i hi => by omega⟩
theorem Mp.lt {w : World} {b n : Nat} {f : Nat → Int} (h : Mp w b n f) : b < w.heap.size := by
  obtain ⟨D, h, _⟩ := h
  exact h.lt
theorem Mp.same {w w' : World} {b n : Nat} {f : Nat → Int} (h : Mp w b n f) (e : w'.heap[b]? = w.heap[b]?) : Mp w' b n f := by
  obtain ⟨D, ⟨es, clock, hb, r⟩, k⟩ := h
  exact ⟨D, ⟨es, clock, e.trans hb, r⟩, k⟩
theorem Mp.below {w w' : World} {b n : Nat} {f : Nat → Int} (h : Mp w b n f) (hb : Below w.heap.size w w') : Mp w' b n f := h.same (hb.block b h.lt)
theorem Mp.alloc {w : World} {b n : Nat} {f : Nat → Int} (h : Mp w b n f) (o : Obj) : Mp (w.alloc o) b n f := h.below ((Below.refl _ _).alloc (Nat.le_refl _) _)
theorem Mp.tn {w w' : World} {b n : Nat} {f : Nat → Int} {S : Nat → Prop} (h : Mp w b n f) (t : Tn S w w') (hs : ¬ S b) : Mp w' b n f := h.same (t.block b h.lt hs)
set_option maxRecDepth 100000 in
theorem Mp.look {w : World} {b n : Nat} {f : Nat → Int} (h : Mp w b n f) {i : Nat} (hi : i < n) (hn : n ≤ 60) : (Instr.lookup 75 (.map (some b)) (.int .i64 i) false).run Try.prog w = .ok (.int .i64 (f i)) w := by
  obtain ⟨D, h, k⟩ := h
  obtain ⟨c, hrun, hat, _⟩ := h.lookup_int int_law Try.underlying75 Try.underlying3 (int_zero w) (keyOf_int_mk Try.underlying3 (lit_wf (x := (i : Int)) (by omega) (by omega)))
  rw [k i hi] at hat
  have : f i = c := by injection hat with hat; injection hat
  rw [this]; exact hrun
set_option maxRecDepth 100000 in
theorem Mp.put {w : World} {b n : Nat} {f : Nat → Int} (h : Mp w b n f) (x : Int) (hn : n < 60) (x0 : 0 ≤ x) (x1 : x ≤ 1000000000) :
    ∃ w', (Instr.mapUpdate 75 (.map (some b)) (.int .i64 n) (.int .i64 x)).run Try.prog w = .ok () w' ∧ Mp w' b (n + 1) (fup f n x) ∧ w.grownBy w' (some b) := by
  obtain ⟨D, h, k⟩ := h
  obtain ⟨w', hr, ho, hg⟩ := h.update int_law Try.underlying75 (by unfold maxLen; omega) (keyOf_int_mk Try.underlying3 (lit_wf (x := (n : Int)) (by omega) (by omega))) (plainElem_int Try.underlying3 (lit_wf (x := x) (by omega) (by omega)))
  refine ⟨w', hr, ⟨_, ho, fun i hi => ?_⟩, hg⟩
  by_cases c : i = n
  · subst c
    rw [fup_at, atKey_put_same h.isMap (by trivial)]
  · rw [fup_ne _ _ c, atKey_put_other (fun e => c (by injection e with _ e; omega))]
    exact k i (by omega)

/-- Which of two waits in front. -/
def lessV (f : Nat → Int) (i j : Nat) : Int := if f i = f j then (i : Int) - j else f i - f j
theorem lessV_neg (f : Nat → Int) (i j : Nat) : lessV f i j < 0 ↔ TkLt (i, f i) (j, f j) := by
  unfold lessV TkLt
  simp only
  by_cases c : f i = f j
  · rw [if_pos c]; omega
  · rw [if_neg c]; omega
abbrev fLess : FuncId := 43
set_option maxHeartbeats 800000 in
theorem less_any (b bm n i j : Nat) (f : Nat → Int) (w : World) (m : Mp w bm n f) (h : Blk w b 75 #[.map (some bm)]) (hi : i < n) (hj : j < n) (hn : n ≤ 60) (hf : ∀ k, k < n → 0 ≤ f k ∧ f k ≤ 1000000000) :
    Calls Try.prog 43 #[.int .i64 i, .int .i64 j, .pointer (some ⟨b, 0, none⟩)] w fun e w' => e = .returned (.int .i64 (lessV f i j)) ∧ w' = w := by
  have l1 := m.look hi hn
  have l2 := m.look hj hn
  have c0 : w.cell? ⟨b, 0, none⟩ = some (.map (some bm)) := by simpa using h.cell 0
  obtain ⟨x0, x1⟩ := hf i hi
  obtain ⟨y0, y1⟩ := hf j hj
  by_cases c : f i = f j
  · have HR : Hid (lessV f i j = (i : Int) - j) := Lib.hid (if_pos c)
    rw [c] at l1 x0 x1
    obtain ⟨y, hy⟩ : ∃ y, y = f j := ⟨_, rfl⟩
    rw [← hy] at l1 l2 y0 y1
    clear m h hf c hy
    go_enter Try.func43, Try.ntmps43
    go_wp2
    go_ret
    exact ⟨ret_int HR.out.symm, rfl⟩
  · have HR : Hid (lessV f i j = f i - f j) := Lib.hid (if_neg c)
    have e1 : (f i != f j) = true := by simp [c]
    clear m h hf c
    go_enter Try.func43, Try.ntmps43
    go_wp2
    go_ret
    exact ⟨ret_int HR.out.symm, rfl⟩

theorem nts_get {x : List Nat} {k : Nat} {y : Int} (h : (nts x)[k]? = some y) : ∃ i : Nat, x[k]? = some i ∧ y = (i : Int) := by
  simp only [nts, List.getElem?_map, Option.map_eq_some_iff] at h
  obtain ⟨i, hi, rfl⟩ := h
  exact ⟨i, hi, rfl⟩
set_option maxRecDepth 100000 in
set_option maxHeartbeats 800000 in
theorem minFunc_n (b bm n m g cap : Nat) (x : List Nat) (f : Nat → Int) (w : World) (hm : Mp w bm n f) (hb : Blk w b 75 #[.map (some bm)]) (hn : n ≤ 60) (hf : ∀ k, k < n → 0 ≤ f k ∧ f k ≤ 1000000000) (h : Ints w (some ⟨g, 0, none⟩) (nts x)) (hx : m = x.length) (m0 : 0 < m) (hlt : ∀ (k i : Nat), x[k]? = some i → i < n) (h60 : m ≤ 60) :
    Calls Try.prog 42 #[.slice (some ⟨g, 0, none⟩) m cap, .func (.func fLess) #[] #[.pointer (some ⟨b, 0, none⟩)]] w fun e w' =>
      ∃ (k i : Nat), x[k]? = some i ∧ (∀ (j u : Nat), x[j]? = some u → ¬ TkLt (u, f u) (i, f i)) ∧ e = .returned (.int .i64 i) ∧ w' = w := by
  have hent := enters_of Try.func43 (by kernel_rfl) rfl
  have hl : (nts x).length = m := by rw [length_nts, hx]
  obtain ⟨b0, o0, y0, e0, hc0, HY0⟩ := h.at_ (k := 0) (by omega)
  obtain ⟨rfl, rfl⟩ : b0 = g ∧ o0 = 0 := by injection e0 with e0; injection e0 with e1 e2; exact ⟨e1.symm, e2.symm⟩
  obtain ⟨i0, hi0, rfl⟩ := nts_get HY0.out
  have HI0 := Lib.hid hi0
  have HX := Lib.hid hx
  have HL := Lib.hid hl
  simp only [Nat.zero_add] at hc0
  clear e0 hi0 hx hl
  have z0 : ¬ (m : Int) < 1 := by omega
  have z1 : (0 : Int) < (m : Int) := by omega
  go_enter Try.func42, Try.ntmps42
  go_wp2
  go_loop [5, 6] (fun v s => ∃ (k p i : Nat), 1 ≤ k ∧ k ≤ m ∧ s = .int .i64 k ∧ v = .int .i64 i ∧ Hid (x[p]? = some i) ∧ Hid (∀ (j u : Nat), j < k → x[j]? = some u → ¬ TkLt (u, f u) (i, f i))) (fun _ s => m - (intOf s).toNat)
  case atStart =>
    refine ⟨1, 0, i0, Nat.le_refl _, by omega, rfl, rfl, HI0, Lib.hid (fun j u hj hu => ?_)⟩
    obtain rfl : j = 0 := by omega
    have := HI0.out
    rw [hu] at this
    obtain rfl : u = i0 := by injection this
    unfold TkLt; omega
  case round =>
    clear hc0 HI0 HY0
    obtain ⟨k, p, i, hk0, hk, rfl, rfl, HP, HA⟩ := hrel
    by_cases hlk : k < m
    · obtain ⟨b1, o1, y, e1, hc1, HY⟩ := h.at_ (k := k) (by have := HL.out; omega)
      obtain ⟨rfl, rfl⟩ : b1 = b0 ∧ o1 = 0 := by injection e1 with e1; injection e1 with e2 e3; exact ⟨e2.symm, e3.symm⟩
      obtain ⟨u, hu, rfl⟩ := nts_get HY.out
      have HU := Lib.hid hu
      have un := hlt k u hu
      have pn := hlt p i HP.out
      simp only [Nat.zero_add] at hc1
      have i1 : (k : Int) < (m : Int) := by omega
      clear e1 hu HY
      go_wp2_with fail
      refine (less_any b bm n u i f _ hm hb un pn hn hf).mono ?_
      rintro e w' ⟨rfl, rfl⟩
      have HV := Lib.hid (lessV_neg f u i)
      obtain ⟨v, hv⟩ : ∃ v, v = lessV f u i := ⟨_, rfl⟩
      rw [← hv] at HV ⊢
      clear hv
      by_cases hneg : v < 0
      · go_wp2
        go_round
        case rel =>
          refine ⟨k + 1, k, u, by omega, by omega, by go_num, rfl, HU, Lib.hid (fun j z hj hz => ?_)⟩
          have lt := HV.out.mp hneg
          by_cases c : j = k
          · subst c
            have := HU.out
            rw [hz] at this
            obtain rfl : z = u := by injection this
            unfold TkLt; omega
          · have := HA.out j z (by omega) hz
            unfold TkLt at *; omega
        case measure => simp [intOf]; omega
      · have HN : Hid (¬ TkLt (u, f u) (i, f i)) := Lib.hid (fun c => hneg (HV.out.mpr c))
        go_wp2
        go_round
        case rel =>
          refine ⟨k + 1, p, i, by omega, by omega, by go_num, rfl, HP, Lib.hid (fun j z hj hz => ?_)⟩
          by_cases c : j = k
          · subst c
            have := HU.out
            rw [hz] at this
            obtain rfl : z = u := by injection this
            exact HN.out
          · exact HA.out j z (by omega) hz
        case measure => simp [intOf]; omega
    · go_wp2
      go_ret
      exact ⟨p, i, HP.out, fun j u hu => HA.out j u (by have := (List.getElem?_eq_some_iff.1 hu).1; have := HX.out; omega) hu, rfl, rfl⟩

abbrev fBest : FuncId := 45
set_option maxHeartbeats 400000 in
theorem best_is (b i j : Nat) (s : Bool) (w : World) (hs : Hid (decide (j = i) = s)) (h : Blk w b 3 #[.int .i64 i]) :
    Calls Try.prog 45 #[.int .i64 j, .pointer (some ⟨b, 0, none⟩)] w fun e w' => e = .returned (.bool s) ∧ w' = w := by
  have c0 : w.cell? ⟨b, 0, none⟩ = some (.int .i64 i) := by simpa using h.cell 0
  have HS : Hid (((j : Int) == (i : Int)) = s) := Lib.hid (by
    rw [← hs.out]
    by_cases c : j = i <;> simp [c, Int.ofNat_inj])
  clear hs h
  go_enter Try.func45, Try.ntmps45
  go_wp2
  go_ret
  exact ⟨ret_bool HS.out, rfl⟩
set_option maxRecDepth 100000 in
set_option maxHeartbeats 800000 in
theorem indexFunc_n (b g n cap k i : Nat) (x : List Nat) (w : World) (h : Ints w (some ⟨g, 0, none⟩) (nts x)) (hb : Blk w b 3 #[.int .i64 i]) (hx : n = x.length) (h60 : n ≤ 60) (hk : x[k]? = some i) (hu : Hid (∀ (j u : Nat), x[j]? = some u → j ≠ k → u ≠ i)) :
    Calls Try.prog 60 #[.slice (some ⟨g, 0, none⟩) n cap, .func (.func fBest) #[] #[.pointer (some ⟨b, 0, none⟩)]] w fun e w' => e = .returned (.int .i64 k) ∧ w' = w := by
  have hent := enters_of Try.func45 (by kernel_rfl) rfl
  have kn : k < n := by have := (List.getElem?_eq_some_iff.1 hk).1; omega
  have HK := Lib.hid hk
  have HX : Hid ((nts x).length = n) := Lib.hid (by rw [length_nts, hx])
  clear hk hx
  go_enter Try.func60, Try.ntmps60
  go_wp2
  go_loop [8] (fun v => ∃ j : Nat, j ≤ k ∧ v = .int .i64 j) (fun v => n - (intOf v).toNat)
  case atStart => exact ⟨0, Nat.zero_le _, rfl⟩
  case round =>
    obtain ⟨j, hj, rfl⟩ := hrel
    obtain ⟨b1, o1, y, e1, hc1, HY⟩ := h.at_ (k := j) (by have := HX.out; omega)
    obtain ⟨rfl, rfl⟩ : b1 = g ∧ o1 = 0 := by injection e1 with e1; injection e1 with e2 e3; exact ⟨e2.symm, e3.symm⟩
    obtain ⟨u, hu', rfl⟩ := nts_get HY.out
    have HU := Lib.hid hu'
    simp only [Nat.zero_add] at hc1
    have i1 : (j : Int) < (n : Int) := by omega
    clear e1 hu' HY
    by_cases c : j = k
    · subst c
      have hs : Hid (decide (u = i) = true) := Lib.hid (decide_eq_true (Option.some.inj (HU.out.symm.trans HK.out)))
      go_wp2_with fail
      refine (best_is b i u true _ hs hb).mono ?_
      rintro e w' ⟨rfl, rfl⟩
      go_wp2
      go_ret
      exact ⟨rfl, rfl⟩
    · have hs : Hid (decide (u = i) = false) := Lib.hid (decide_eq_false (hu.out j u HU.out c))
      have jk : j < k := by omega
      go_wp2_with fail
      refine (best_is b i u false _ hs hb).mono ?_
      rintro e w' ⟨rfl, rfl⟩
      clear c
      go_wp2
      go_round
      case rel => exact ⟨j + 1, by omega, by go_num⟩
      case measure => simp [intOf]; omega

end Go.Proofs.Ytamkadffencpgaa
