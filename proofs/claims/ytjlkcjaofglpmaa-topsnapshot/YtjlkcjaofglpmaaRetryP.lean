
/-
  Plain mathematics of waits that double, of a thing in pieces, and of leases.
-/
import Derived.Test.YtjlkcjaofglpmaaPlain
namespace Go.Proofs.Ytjlkcjaofglpmaa
set_option linter.all false

/-- The i-th wait; all ahead of it together. -/
def wtV (first most : Int) : Nat → Int
  | 0 => first
  | i + 1 => min most (2 * wtV first most i)
def wtS (first most : Int) : Nat → Int
  | 0 => 0
  | i + 1 => wtS first most i + wtV first most i
def wtL (first most : Int) (n : Nat) : List Int := tab n (wtV first most)
structure RtOk (first most : Int) : Prop where
  lo : 1 ≤ first
  le : first ≤ most
  hi : most ≤ 1000000
theorem wt_bd {first most : Int} (h : RtOk first most) : ∀ i, first ≤ wtV first most i ∧ wtV first most i ≤ most
  | 0 => ⟨Int.le_refl _, h.le⟩
  | i + 1 => by have := wt_bd h i; have := h.lo; have := h.le; simp only [wtV]; omega
theorem wt_up {first most : Int} (h : RtOk first most) (i : Nat) : wtV first most i ≤ wtV first most (i + 1) ∧ wtV first most (i + 1) ≤ 2 * wtV first most i := by
  have := wt_bd h i; have := h.lo; simp only [wtV]; omega
theorem ws_bd {first most : Int} (h : RtOk first most) : ∀ n : Nat, n * first ≤ wtS first most n ∧ wtS first most n ≤ n * most
  | 0 => by simp [wtS]
  | n + 1 => by
    have := ws_bd h n; have := wt_bd h n
    rw [wtS, show ((n + 1 : Nat) : Int) = (n : Int) + 1 by omega, Int.add_mul, Int.one_mul, Int.add_mul, Int.one_mul]; omega
theorem ws_lt {first most : Int} (h : RtOk first most) (n : Nat) : wtS first most n < wtS first most (n + 1) := by
  have := wt_bd h n; have := h.lo; simp only [wtS]; omega
/-- Who doubles and stops at the first that is more than the most. -/
theorem wt_most {first most : Int} (h : RtOk first most) {i : Nat} (e : most < 2 * wtV first most i) : ∀ d, wtV first most (i + 1 + d) = most
  | 0 => by show wtV first most (i + 1) = most; simp only [wtV]; omega
  | d + 1 => by
    rw [show i + 1 + (d + 1) = i + 1 + d + 1 by omega, wtV, wt_most h e d]
    have := h.lo; have := h.le; omega

/-- The size of piece i; how many there are. -/
def pcV (size unit : Int) (i : Nat) : Int := min unit (size - unit * i)
def pcS (size unit : Int) : Nat → Int
  | 0 => 0
  | i + 1 => pcS size unit i + pcV size unit i
def pcN (size unit : Int) : Nat := ((size + unit - 1) / unit).toNat
theorem pcn_iff {size unit : Int} (s0 : 0 ≤ size) (u : 1 ≤ unit) {i : Nat} : i < pcN size unit ↔ unit * i < size := by
  have h1 := Int.emod_nonneg (size + unit - 1) (show unit ≠ 0 by omega)
  have h2 := Int.emod_lt_of_pos (size + unit - 1) (show 0 < unit by omega)
  have h3 := Int.mul_ediv_add_emod (size + unit - 1) unit
  have h4 := Int.ediv_nonneg (show 0 ≤ size + unit - 1 by omega) (show 0 ≤ unit by omega)
  unfold pcN
  generalize (size + unit - 1) / unit = q at *
  constructor
  · intro h
    have := Int.mul_le_mul_of_nonneg_left (show (i : Int) + 1 ≤ q by omega) (show 0 ≤ unit by omega)
    rw [Int.mul_add, Int.mul_one] at this; omega
  · intro h
    by_cases c : i < q.toNat
    · exact c
    · have := Int.mul_le_mul_of_nonneg_left (show q ≤ (i : Int) by omega) (show 0 ≤ unit by omega); omega
theorem pc_bd {size unit : Int} (s0 : 0 ≤ size) (u : 1 ≤ unit) {i : Nat} (h : i < pcN size unit) : 1 ≤ pcV size unit i ∧ pcV size unit i ≤ unit ∧ (i + 1 < pcN size unit → pcV size unit i = unit) := by
  have a := (pcn_iff s0 u).mp h
  unfold pcV
  refine ⟨by omega, by omega, fun k => ?_⟩
  have b := (pcn_iff s0 u).mp k
  rw [show ((i + 1 : Nat) : Int) = (i : Int) + 1 by omega, Int.mul_add, Int.mul_one] at b; omega
theorem pc_sum {size unit : Int} (s0 : 0 ≤ size) (u : 1 ≤ unit) : ∀ n, n ≤ pcN size unit → pcS size unit n = min size (unit * n)
  | 0, _ => by simp [pcS]; omega
  | n + 1, h => by
    have ih := pc_sum s0 u n (by omega)
    have a := (pcn_iff s0 u).mp (show n < pcN size unit by omega)
    rw [pcS, ih, pcV, show ((n + 1 : Nat) : Int) = (n : Int) + 1 by omega, Int.mul_add, Int.mul_one]; omega
theorem pc_all {size unit : Int} (s0 : 0 ≤ size) (u : 1 ≤ unit) : pcS size unit (pcN size unit) = size := by
  rw [pc_sum s0 u _ (Nat.le_refl _)]
  have : ¬ unit * (pcN size unit : Nat) < size := fun h => by have := (pcn_iff s0 u).mpr h; omega
  omega
/-- Pieces twice as large. -/
theorem pcn_two {size unit : Int} (s0 : 0 ≤ size) (u : 1 ≤ unit) : pcN size (2 * unit) = (pcN size unit + 1) / 2 := by
  have key : ∀ i : Nat, i < pcN size (2 * unit) ↔ 2 * i < pcN size unit := fun i => by
    rw [pcn_iff s0 (by omega), pcn_iff s0 u, show ((2 * i : Nat) : Int) = 2 * (i : Int) by omega, show 2 * unit * (i : Int) = unit * (2 * i) by rw [Int.mul_comm 2 unit, Int.mul_assoc]]
  have h1 := key (pcN size (2 * unit))
  have h2 := key (pcN size (2 * unit) - 1)
  omega
theorem pc_two {size unit : Int} (s0 : 0 ≤ size) (u : 1 ≤ unit) {i : Nat} (h : i < pcN size (2 * unit)) : pcV size (2 * unit) i = pcV size unit (2 * i) + if 2 * i + 1 < pcN size unit then pcV size unit (2 * i + 1) else 0 := by
  have a := (pcn_iff s0 (show 1 ≤ 2 * unit by omega)).mp h
  have e : unit * ((2 * i : Nat) : Int) = 2 * unit * (i : Int) := by rw [show ((2 * i : Nat) : Int) = 2 * (i : Int) by omega, Int.mul_comm 2 unit, Int.mul_assoc]
  have e2 : unit * ((2 * i + 1 : Nat) : Int) = 2 * unit * (i : Int) + unit := by rw [show ((2 * i + 1 : Nat) : Int) = ((2 * i : Nat) : Int) + 1 by omega, Int.mul_add, Int.mul_one, e]
  have b := pcn_iff s0 u (i := 2 * i + 1)
  rw [e2] at b
  unfold pcV
  rw [e, e2]
  split
  · rename_i c; have := b.mp c; omega
  · rename_i c
    have : ¬ 2 * unit * (i : Int) + unit < size := fun k => c (b.mpr k)
    omega
/-- What is there of it. -/
def gotS (size unit : Int) (h : Nat → Bool) : Nat → Int
  | 0 => 0
  | i + 1 => gotS size unit h i + if h i = true then pcV size unit i else 0
theorem got_up {size unit : Int} (s0 : 0 ≤ size) (u : 1 ≤ unit) {h k : Nat → Bool} (le : ∀ i, h i = true → k i = true) : ∀ n, n ≤ pcN size unit → gotS size unit h n ≤ gotS size unit k n
  | 0, _ => Int.le_refl _
  | n + 1, hn => by
    have := got_up s0 u le n (by omega); have := pc_bd s0 u (show n < pcN size unit by omega); have l := le n
    simp only [gotS]
    cases c : h n with
    | true => rw [l c]; simp; omega
    | false => simp; split <;> omega
theorem got_all {size unit : Int} {h : Nat → Bool} : ∀ n, (∀ i, i < n → h i = true) → gotS size unit h n = pcS size unit n
  | 0, _ => rfl
  | n + 1, k => by rw [gotS, pcS, got_all n (fun i hi => k i (by omega)), if_pos (k n (by omega))]
theorem got_bd {size unit : Int} (s0 : 0 ≤ size) (u : 1 ≤ unit) {h : Nat → Bool} {n : Nat} (hn : n ≤ pcN size unit) : 0 ≤ gotS size unit h n ∧ gotS size unit h n ≤ size := by
  have a := got_up s0 u (h := fun _ => false) (k := h) (fun i c => absurd c (by simp)) n hn
  have b := got_up s0 u (h := h) (k := fun _ => true) (fun i _ => rfl) n hn
  have z : ∀ n, gotS size unit (fun _ => false) n = 0 := fun n => by
    induction n with
    | zero => rfl
    | succ n ih => rw [gotS, ih]; simp
  rw [z n] at a
  rw [got_all n (fun i _ => rfl), pc_sum s0 u n hn] at b
  omega

/-- Leases, in the order of who holds them. -/
structure Lz where
  who : Int
  till : Int
  pin : Int
def Lzs (l : List Lz) : Prop := l.Pairwise (fun a b => a.who < b.who)
theorem lzs_ext : ∀ {l m : List Lz}, Lzs l → Lzs m → (∀ a, a ∈ l ↔ a ∈ m) → l = m
  | [], [], _, _, _ => rfl
  | [], b :: m, _, _, h => absurd ((h b).mpr List.mem_cons_self) (by simp)
  | a :: l, [], _, _, h => absurd ((h a).mp List.mem_cons_self) (by simp)
  | a :: l, b :: m, hl, hm, h => by
    unfold Lzs at hl hm
    rw [List.pairwise_cons] at hl hm
    have e : a = b := by
      rcases List.mem_cons.mp ((h a).mp List.mem_cons_self) with c | c
      · exact c
      · rcases List.mem_cons.mp ((h b).mpr List.mem_cons_self) with d | d
        · exact d.symm
        · have := hm.1 a c; have := hl.1 b d; omega
    subst e
    refine congrArg _ (lzs_ext hl.2 hm.2 (fun x => ⟨fun k => ?_, fun k => ?_⟩))
    · rcases List.mem_cons.mp ((h x).mp (List.mem_cons_of_mem _ k)) with c | c
      · subst c; have := hl.1 x k; omega
      · exact c
    · rcases List.mem_cons.mp ((h x).mpr (List.mem_cons_of_mem _ k)) with c | c
      · subst c; have := hm.1 x k; omega
      · exact c
def takeL (x : Lz) : List Lz → List Lz
  | [] => [x]
  | a :: l => if a.who < x.who then a :: takeL x l else if a.who = x.who then x :: l else x :: a :: l
theorem mem_take {x a : Lz} : ∀ {l : List Lz}, Lzs l → (a ∈ takeL x l ↔ a = x ∨ a ∈ l ∧ a.who ≠ x.who)
  | [], _ => by simp [takeL]
  | b :: l, h => by
    unfold Lzs at h
    rw [List.pairwise_cons] at h
    have ih := mem_take (x := x) (a := a) (l := l) h.2
    unfold takeL
    split
    · rename_i c
      rw [List.mem_cons, ih, List.mem_cons]
      constructor
      · rintro (e | e | ⟨e, f⟩)
        · subst e; exact Or.inr ⟨Or.inl rfl, by omega⟩
        · exact Or.inl e
        · exact Or.inr ⟨Or.inr e, f⟩
      · rintro (e | ⟨e | e, f⟩)
        · exact Or.inr (Or.inl e)
        · exact Or.inl e
        · exact Or.inr (Or.inr ⟨e, f⟩)
    · split
      · rename_i c d
        rw [List.mem_cons, List.mem_cons]
        constructor
        · rintro (e | e)
          · exact Or.inl e
          · exact Or.inr ⟨Or.inr e, by have := h.1 a e; omega⟩
        · rintro (e | ⟨e | e, f⟩)
          · exact Or.inl e
          · subst e; exact absurd d f
          · exact Or.inr e
      · rename_i c d
        rw [List.mem_cons, List.mem_cons]
        constructor
        · rintro (e | e | e)
          · exact Or.inl e
          · subst e; exact Or.inr ⟨Or.inl rfl, d⟩
          · exact Or.inr ⟨Or.inr e, by have := h.1 a e; omega⟩
        · rintro (e | ⟨e, f⟩)
          · exact Or.inl e
          · exact Or.inr e
theorem take_sorted {x : Lz} : ∀ {l : List Lz}, Lzs l → Lzs (takeL x l)
  | [], _ => by simp [takeL, Lzs]
  | b :: l, h => by
    have h' := h
    unfold Lzs at h
    rw [List.pairwise_cons] at h
    have ih := take_sorted (x := x) (l := l) h.2
    unfold takeL
    split
    · rename_i c
      unfold Lzs at ih ⊢
      rw [List.pairwise_cons]
      refine ⟨fun a ha => ?_, ih⟩
      rcases (mem_take h.2).mp ha with e | ⟨e, _⟩
      · subst e; exact c
      · exact h.1 a e
    · split
      · rename_i c d
        unfold Lzs
        rw [List.pairwise_cons]
        exact ⟨fun a ha => by have := h.1 a ha; omega, h.2⟩
      · rename_i c d
        unfold Lzs at h' ⊢
        rw [List.pairwise_cons]
        refine ⟨fun a ha => ?_, h'⟩
        rcases List.mem_cons.mp ha with e | e
        · subst e; omega
        · have := h.1 a e; omega
theorem take_twice {x : Lz} {l : List Lz} (h : Lzs l) : takeL x (takeL x l) = takeL x l := by
  refine lzs_ext (take_sorted (take_sorted h)) (take_sorted h) (fun a => ?_)
  rw [mem_take (take_sorted h), mem_take h]
  constructor
  · rintro (e | ⟨e, _⟩)
    · exact Or.inl e
    · exact e
  · rintro (e | ⟨e, f⟩)
    · exact Or.inl e
    · exact Or.inr ⟨Or.inr ⟨e, f⟩, f⟩
theorem take_order {x y : Lz} {l : List Lz} (h : Lzs l) (ne : x.who ≠ y.who) : takeL y (takeL x l) = takeL x (takeL y l) := by
  refine lzs_ext (take_sorted (take_sorted h)) (take_sorted (take_sorted h)) (fun a => ?_)
  rw [mem_take (take_sorted h), mem_take h, mem_take (take_sorted h), mem_take h]
  constructor
  · rintro (e | ⟨e | ⟨e, f⟩, g⟩)
    · subst e; exact Or.inr ⟨Or.inl rfl, Ne.symm ne⟩
    · exact Or.inl e
    · exact Or.inr ⟨Or.inr ⟨e, g⟩, f⟩
  · rintro (e | ⟨e | ⟨e, f⟩, g⟩)
    · subst e; exact Or.inr ⟨Or.inl rfl, ne⟩
    · exact Or.inl e
    · exact Or.inr ⟨Or.inr ⟨e, g⟩, f⟩
/-- Those that live. -/
def liveL (now : Int) (l : List Lz) : List Lz := l.filter (fun a => decide (now < a.till))
theorem mem_live {now : Int} {l : List Lz} {a : Lz} : a ∈ liveL now l ↔ a ∈ l ∧ now < a.till := by simp [liveL]
theorem live_sorted {now : Int} {l : List Lz} (h : Lzs l) : Lzs (liveL now l) := List.Pairwise.filter _ h
theorem live_later {now later : Int} (h : now ≤ later) {l : List Lz} {a : Lz} (k : a ∈ liveL later l) : a ∈ liveL now l := by
  rw [mem_live] at *; exact ⟨k.1, by omega⟩
theorem live_count {now later : Int} (h : now ≤ later) : ∀ l : List Lz, (liveL later l).length ≤ (liveL now l).length
  | [] => Nat.le_refl _
  | a :: l => by
    have ih := live_count h l
    unfold liveL at *
    rw [List.filter_cons, List.filter_cons]
    by_cases c : later < a.till
    · rw [if_pos (by simpa using c), if_pos (by simp; omega)]; simp; exact ih
    · rw [if_neg (by simpa using c)]
      split
      · rw [List.length_cons]; omega
      · exact ih
/-- No live lease pins what is cut. -/
def CutOk (now to : Int) (l : List Lz) : Prop := ∀ a, a ∈ l → now < a.till → to ≤ a.pin
theorem CutOk.less {now later to less : Int} {l : List Lz} (h : CutOk now to l) (k : now ≤ later) (e : less ≤ to) : CutOk later less l := fun a ha ht => by
  have := h a ha (by omega); omega
/-- The least that is pinned. -/
structure IsPin (now : Int) (l : List Lz) (n : Int) : Prop where
  hit : ∃ a, a ∈ l ∧ now < a.till ∧ a.pin = n
  low : ∀ a, a ∈ l → now < a.till → n ≤ a.pin
theorem IsPin.cut {now n to : Int} {l : List Lz} (h : IsPin now l n) : CutOk now to l ↔ to ≤ n := by
  obtain ⟨a, ha, ht, e⟩ := h.hit
  refine ⟨fun k => ?_, fun k b hb hbt => ?_⟩
  · have := k a ha ht; omega
  · have := h.low b hb hbt; omega
end Go.Proofs.Ytjlkcjaofglpmaa
