
/-
  The document's own subadditivity and max-plus convolution: pair by pair.
-/
import Derived.Test.YthcpfbaaklemjaaCloA
namespace Go.Proofs.Ythcpfbaaklemjaa
set_option linter.all false
open Go.RowKit Go.Shelf

theorem eqB_sb {l : List Int} (v : Cv l) (h : Sb l) : eqB l (clL l) = true := eqB_true ((sb_iff v).2 h)
theorem eqB_nsb {l : List Int} (v : Cv l) (h : ¬ Sb l) : eqB l (clL l) = false := eqB_false (fun e => h ((sb_iff v).1 e))

set_option maxHeartbeats 1600000 in
theorem refSub_any (A : Option Addr) (l : List Int) (c : Nat) (w : World) (h : Ints w A l) (v : Cv l) :
    Calls Try.prog 15 #[.slice A l.length c] w fun e w' => e = .returned (.bool (eqB l (clL l))) ∧ ∃ n, w' = w.drewN n := by
  have hle := v.le
  have hpos := v.pos
  go_enter Try.func15, Try.ntmps15
  go_wp2
  go_loopw [7] (fun i wr => ∃ a n : Nat, a ≤ l.length ∧ i = .int .i64 a ∧ wr = w.drewN n ∧ Hid (∀ i j, i < a → i + j < l.length → gt l (i + j) ≤ gt l i + gt l j)) (fun i _ => l.length - (intOf i).toNat)
  case atStart => exact ⟨0, 0, Nat.zero_le _, rfl, rfl, Lib.hid (fun i j hi => absurd hi (by omega))⟩
  case round =>
    obtain ⟨a, n, ha, rfl, rfl, HI⟩ := hrel
    by_cases hlt : a < l.length
    · go_wp2
      go_loopw [12] (fun i wr => ∃ b n : Nat, b ≤ l.length ∧ i = .int .i64 b ∧ wr = w.drewN n ∧ Hid (∀ j, j < b → a + j < l.length → gt l (a + j) ≤ gt l a + gt l j)) (fun i _ => l.length - (intOf i).toNat)
      case atStart => exact ⟨0, n, Nat.zero_le _, rfl, rfl, Lib.hid (fun j hj => absurd hj (by omega))⟩
      case round =>
        obtain ⟨b, n, hb, rfl, rfl, HJ⟩ := hrel
        by_cases hbt : b < l.length
        · have eab : IntKind.i64.wrap ((a : Int) + (b : Int)) = (a : Int) + (b : Int) := IntWalk.i64_in _ ⟨by omega, by omega⟩
          by_cases hab : a + b < l.length
          · obtain ⟨b1, o1, x, rfl, hc1, HX⟩ := h.at_ (k := a) hlt
            obtain ⟨b2, o2, y, e, hc2, HY⟩ := h.at_ (k := b) hbt
            obtain ⟨rfl, rfl⟩ : b2 = b1 ∧ o2 = o1 := by injection e with e; injection e with e1 e2; exact ⟨e1.symm, e2.symm⟩
            clear e
            obtain ⟨b3, o3, z, e, hc3, HZ⟩ := h.at_ (k := a + b) hab
            obtain ⟨rfl, rfl⟩ : b3 = b2 ∧ o3 = o2 := by injection e with e; injection e with e1 e2; exact ⟨e1.symm, e2.symm⟩
            clear e
            have hx := gt_of_get HX.out
            have hy := gt_of_get HY.out
            have hz := gt_of_get HZ.out
            have x0 : 0 ≤ x := by rw [← hx]; exact v.lo a hlt
            have x1 : x ≤ 1000000 := by rw [← hx]; exact v.hi a hlt
            have y0 : 0 ≤ y := by rw [← hy]; exact v.lo b hbt
            have y1 : y ≤ 1000000 := by rw [← hy]; exact v.hi b hbt
            have EX := Lib.hid hx
            have EY := Lib.hid hy
            have EZ := Lib.hid hz
            clear hx hy hz
            have i1 : (a : Int) < (l.length : Int) := by omega
            have i2 : (b : Int) < (l.length : Int) := by omega
            have t1 : (a : Int) + (b : Int) < (l.length : Int) := by omega
            have t2 : ((a : Int) + (b : Int)).toNat = a + b := by omega
            have e1 : IntKind.i64.wrap (x + y) = x + y := IntWalk.i64_in _ ⟨by omega, by omega⟩
            by_cases hlow : x + y < z
            · have HF : Hid (eqB l (clL l) = false) := Lib.hid (eqB_nsb v (fun s => by have := s.two a b hab; rw [EX.out, EY.out, EZ.out] at this; omega))
              go_wp2
              go_quiet (fail)
              go_wp2
              go_ret
              exact ⟨ret_bool HF.out.symm, n + nq, by simp [World.drewN, Nat.add_assoc]⟩
            · go_wp2
              go_quiet (fail)
              go_wp2
              go_roundw
              case rel =>
                refine ⟨b + 1, _, by omega, by go_num, rfl, Lib.hid (fun j hj hjl => ?_)⟩
                by_cases e : j = b
                · subst e; rw [EX.out, EY.out, EZ.out]; omega
                · exact HJ.out j (by omega) hjl
              case measure => simp [intOf]; omega
          · have t0 : decide ((a : Int) + (b : Int) < (l.length : Int)) = false := decide_eq_false (by omega)
            have t1 : ¬ (a : Int) + (b : Int) < (l.length : Int) := by omega
            go_wp2
            go_quiet (fail)
            go_wp2
            go_roundw
            case rel => exact ⟨b + 1, _, by omega, by go_num, rfl, Lib.hid (fun j hj hjl => HJ.out j (by omega) hjl)⟩
            case measure => simp [intOf]; omega
        · obtain rfl : b = l.length := by omega
          go_wp2
          go_roundw
          case rel =>
            refine ⟨a + 1, _, by omega, by go_num, rfl, Lib.hid (fun i j hi hij => ?_)⟩
            by_cases e : i = a
            · subst e; exact HJ.out j (by omega) hij
            · exact HI.out i j (by omega) hij
          case measure => simp [intOf]; omega
    · obtain rfl : a = l.length := by omega
      obtain ⟨b1, o1, x, rfl, hc1, HX⟩ := h.at_ (k := 0) hpos
      simp only [Nat.add_zero] at hc1
      have hx := gt_of_get HX.out
      have HR : Hid (eqB l (clL l) = decide (x < 1)) := Lib.hid (by
        by_cases q : x < 1
        · rw [decide_eq_true q]; exact eqB_sb v ⟨by omega, fun s t hst => HI.out s t (by omega) hst⟩
        · rw [decide_eq_false q]; exact eqB_nsb v (fun s => by have := s.zero; omega))
      clear hx
      have i1 : (0 : Int) < (l.length : Int) := by omega
      go_wp2
      go_ret
      exact ⟨ret_bool HR.out.symm, _, rfl⟩

/-- What the document's max-plus convolution has at the pair (a, b). -/
structure MInv (n : Nat) (f g : Nat → Int) (a b : Nat) (L : List Int) : Prop where
  len : L.length = n
  low : ∀ i j, i + j < n → Dn a b i j → f i + g j ≤ gt L (i + j)
  at_ : ∀ t, t < n → gt L t = 0 ∨ ∃ i j, i + j = t ∧ Dn a b i j ∧ gt L t = f i + g j

theorem Dn.more {a b i j : Nat} (h : Dn a b i j) : Dn a (b + 1) i j := by
  rcases h with h | ⟨h, h'⟩
  · exact .inl h
  · exact .inr ⟨h, by omega⟩
theorem Dn.less {a b i j : Nat} (h : Dn a (b + 1) i j) (e : ¬ (i = a ∧ j = b)) : Dn a b i j := by
  rcases h with h | ⟨h, h'⟩
  · exact .inl h
  · exact .inr ⟨h, by omega⟩
theorem MInv.init (n : Nat) (f g : Nat → Int) : MInv n f g 0 0 (List.replicate n 0) :=
  ⟨by simp, fun i j _ h => by rcases h with h | ⟨_, h⟩ <;> omega, fun t ht => .inl (gt_replicate ht)⟩
theorem MInv.put {n : Nat} {f g : Nat → Int} {a b : Nat} {L : List Int} {z : Int} (h : MInv n f g a b L) (hab : a + b < n) (hz : z = max (gt L (a + b)) (f a + g b)) : MInv n f g a (b + 1) (L.set (a + b) z) := by
  have hl := h.len
  refine ⟨by simpa using hl, fun i j hij hd => ?_, fun t ht => ?_⟩
  · rw [gt_set (by omega)]
    by_cases e : i + j = a + b
    · rw [if_pos e]
      by_cases ei : i = a ∧ j = b
      · obtain ⟨rfl, rfl⟩ := ei; omega
      · have := h.low i j hij (hd.less ei)
        rw [e] at this; omega
    · rw [if_neg e]
      exact h.low i j hij (hd.less (by omega))
  · rw [gt_set (by omega)]
    by_cases e : t = a + b
    · rw [if_pos e]
      by_cases q : gt L (a + b) ≤ f a + g b
      · exact .inr ⟨a, b, e.symm, .inr ⟨rfl, by omega⟩, by omega⟩
      · rcases h.at_ t ht with h1 | ⟨i, j, h1, h2, h3⟩
        · rw [e] at h1; exact .inl (by omega)
        · rw [e] at h3; exact .inr ⟨i, j, h1, h2.more, by omega⟩
    · rw [if_neg e]
      rcases h.at_ t ht with h1 | ⟨i, j, h1, h2, h3⟩
      · exact .inl h1
      · exact .inr ⟨i, j, h1, h2.more, h3⟩
theorem MInv.keep {n : Nat} {f g : Nat → Int} {a b : Nat} {L : List Int} (h : MInv n f g a b L) (hk : n ≤ a + b) : MInv n f g a (b + 1) L :=
  ⟨h.len, fun i j hij hd => h.low i j hij (hd.less (by omega)), fun t ht => by
    rcases h.at_ t ht with h1 | ⟨i, j, h1, h2, h3⟩
    · exact .inl h1
    · exact .inr ⟨i, j, h1, h2.more, h3⟩⟩
theorem MInv.row {n : Nat} {f g : Nat → Int} {a : Nat} {L : List Int} (h : MInv n f g a n L) : MInv n f g (a + 1) 0 L := by
  refine ⟨h.len, fun i j hij hd => ?_, fun t ht => ?_⟩
  · refine h.low i j hij ?_
    rcases hd with hd | ⟨_, hd⟩
    · by_cases e : i = a
      · exact .inr ⟨e, by omega⟩
      · exact .inl (by omega)
    · omega
  · rcases h.at_ t ht with h1 | ⟨i, j, h1, h2, h3⟩
    · exact .inl h1
    · refine .inr ⟨i, j, h1, ?_, h3⟩
      rcases h2 with h2 | ⟨h2, h4⟩
      · exact .inl (by omega)
      · exact .inl (by omega)
theorem MInv.all {n : Nat} {f g : Nat → Int} {L : List Int} (h : MInv n f g n 0 L) (hf : ∀ i, i < n → 0 ≤ f i) (hg : ∀ i, i < n → 0 ≤ g i) : L = tab n (duV f g) := by
  refine eq_tab h.len (fun t ht => (du_eq (fun i j e => ?_) ?_).symm)
  · have := h.low i j (by omega) (.inl (by omega)); rwa [e] at this
  · rcases h.at_ t ht with h1 | ⟨i, j, h1, h2, h3⟩
    · exact ⟨0, t, by omega, by have := hf 0 (by omega); have := hg t ht; omega⟩
    · exact ⟨i, j, h1, by omega⟩

set_option maxHeartbeats 1600000 in
theorem refDual_any (A B : Option Addr) (l m : List Int) (c d : Nat) (w : World) (h : Ints w A l) (h' : Ints w B m) (hp : 0 < l.length) (h61 : l.length ≤ 61) (hlm : l.length = m.length) (bl : Bd l) (bm : Bd m) :
    Calls Try.prog 19 #[.slice A l.length c, .slice B m.length d] w (AnsL (duL l m) w) := by
  have hml : l.length ≤ m.length := by omega
  have hlm' : m.length ≤ l.length := by omega
  have HLM := Lib.hid hlm
  clear hlm
  have hmk := fun W => run_make_row' (P := Try.prog) 22 3 (.int .i64 0) 8 Try.underlying22 int_info rfl .i64 .i64 l.length (by omega) (by omega) W
  go_enter Try.func19, Try.ntmps19
  go_wp2
  go_loopw [15] (fun i wr => ∃ (a : Nat) (L : List Int), a ≤ l.length ∧ i = .int .i64 a ∧ Blk wr w.heap.size 3 (L.map (Value.int .i64)).toArray ∧ MInv l.length (gt l) (gt m) a 0 L ∧ Below w.heap.size w wr) (fun i _ => l.length - (intOf i).toNat)
  case atStart =>
    refine ⟨0, List.replicate l.length 0, Nat.zero_le _, rfl, ?_, MInv.init _ _ _, (Below.refl _ _).alloc (Nat.le_refl _) _⟩
    rw [List.map_replicate, ← toList_madeCells_one (Value.int .i64 0) l.length, Array.toArray_toList]
    exact Blk.new _ _ _
  case round =>
    obtain ⟨a, L, ha, rfl, hblk, hinv, hbel⟩ := hrel
    by_cases hlt : a < l.length
    · have r0 := h.below hbel
      obtain ⟨b1, o1, x, rfl, hc1, HX⟩ := r0.at_ hlt
      have hx := gt_of_get HX.out
      have x0 : 0 ≤ x := by rw [← hx]; exact bl.lo a hlt
      have x1 : x ≤ 100000000 := by rw [← hx]; exact bl.hi a hlt
      have EX := Lib.hid hx
      clear hx
      go_wp2
      go_loopw [22] (fun i wi => ∃ (b : Nat) (L : List Int), b ≤ m.length ∧ i = .int .i64 b ∧ Blk wi w.heap.size 3 (L.map (Value.int .i64)).toArray ∧ MInv l.length (gt l) (gt m) a b L ∧ Below w.heap.size w wi) (fun i _ => m.length - (intOf i).toNat)
      case atStart => exact ⟨0, _, Nat.zero_le _, rfl, hblk, hinv, hbel⟩
      case round =>
        clear hblk hinv hbel r0 hc1
        obtain ⟨b, L, hb, rfl, hblk, hinv, hbel⟩ := hrel
        by_cases hbt : b < m.length
        · have r1 := h'.below hbel
          obtain ⟨b2, o2, y, rfl, hc2, HY⟩ := r1.at_ hbt
          have hy := gt_of_get HY.out
          have y0 : 0 ≤ y := by rw [← hy]; exact bm.lo b hbt
          have y1 : y ≤ 100000000 := by rw [← hy]; exact bm.hi b hbt
          have EY := Lib.hid hy
          clear hy
          by_cases hab : a + b < l.length
          · have HL := Lib.hid hinv.len
            obtain ⟨z, hz⟩ : ∃ z, z = gt L (a + b) := ⟨_, rfl⟩
            have hcz : wr.cell? ⟨w.heap.size, a + b, none⟩ = some (.int .i64 z) := by
              rw [hblk.cell, hz]
              have := get_of_lt (l := L) (i := a + b) (by rw [HL.out]; exact hab)
              simp [this]
            have hfz := hblk.frozen (a + b)
            have HZ := Lib.hid hz
            clear hz
            have t1 : (a : Int) + (b : Int) < (l.length : Int) := by omega
            have t2 : ((a : Int) + (b : Int)).toNat = a + b := by omega
            by_cases hlow : z < x + y
            · go_wp2
              go_roundw
              case rel =>
                refine ⟨b + 1, L.set (a + b) (x + y), by omega, by go_num, ?_, ?_, hbel.setCell (by simp) _⟩
                · rw [← set_cells]; exact hblk.set_ _ _
                · exact hinv.put hab (by rw [EX.out, EY.out, ← HZ.out]; omega)
              case measure => simp [intOf]; omega
            · rcases Int.lt_or_eq_of_le (show x + y ≤ z by omega) with hlow' | rfl
              · go_wp2
                go_roundw
                case rel =>
                  refine ⟨b + 1, L.set (a + b) z, by omega, by go_num, ?_, ?_, hbel.setCell (by simp) _⟩
                  · rw [← set_cells]; exact hblk.set_ _ _
                  · exact hinv.put hab (by rw [EX.out, EY.out, ← HZ.out]; omega)
                case measure => simp [intOf]; omega
              · clear hlow
                go_wp2
                go_roundw
                case rel =>
                  refine ⟨b + 1, L.set (a + b) (x + y), by omega, by go_num, ?_, ?_, hbel.setCell (by simp) _⟩
                  · rw [← set_cells]; exact hblk.set_ _ _
                  · exact hinv.put hab (by rw [EX.out, EY.out, ← HZ.out]; omega)
                case measure => simp [intOf]; omega
          · have t1 : ¬ (a : Int) + (b : Int) < (l.length : Int) := by omega
            go_wp2
            go_roundw
            case rel => exact ⟨b + 1, L, by omega, by go_num, hblk, hinv.keep (by omega), hbel⟩
            case measure => simp [intOf]; omega
        · obtain rfl : b = m.length := by omega
          go_wp2
          go_roundw
          case rel => exact ⟨a + 1, L, by omega, by go_num, hblk, MInv.row (by rw [HLM.out]; rw [HLM.out] at hinv; exact hinv), hbel⟩
          case measure => simp [intOf]; omega
    · obtain rfl : a = l.length := by omega
      go_wp2
      go_ret
      have e := hinv.all bl.lo (fun i hi => bm.lo i (by omega))
      refine AnsL.of ?_ hbel
      rw [show duL l m = L from e.symm]
      exact own_of_blk hblk (Nat.le_refl _) hinv.len.symm (by omega)

end Go.Proofs.Ythcpfbaaklemjaa
