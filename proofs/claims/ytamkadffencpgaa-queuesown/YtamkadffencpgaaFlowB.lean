
/-
  A slice of flows within the reach of the form: how an argument opens, with its bounds.
-/
import Derived.Test.YtamkadffencpgaaFlowA
import Derived.SizedLaws
namespace Go.Proofs.Ytamkadffencpgaa
set_option linter.all false
open Go.RowKit Go.ChangeShapes Go.WideShapes Go.Deep Go.Joins

theorem weights_all {H : Type} {P : Program} {e : TypeId} {d : DataW H} : ∀ {l : List (DataW H)}, d ∈ l → ∀ n ∈ d.weights P e, n ∈ DataW.weightsAll P e l
  | x :: l, hd, n, hn => by
    simp only [DataW.weightsAll, List.mem_append]
    rcases List.mem_cons.1 hd with rfl | h
    · exact .inl hn
    · exact .inr (weights_all h n hn)

section
variable {H : Type} {enc : TypeId × Value → H} {w : World}

set_option maxRecDepth 100000 in
theorem one_list_sized {n : Nat} {u : Value} {y : DataW H × List MemPlace} (h : DataW.trod enc Try.prog w 0 (fun _ => true) true n 22 [u] = some y) (hw : ∀ k ∈ y.1.weights Try.prog 22, k ≤ reachBytes) :
    ∃ (a : Option Addr) (c : Nat) (z : List Int), u = .slice a z.length c ∧ Ints w a z ∧ z.length ≤ c ∧ (a = none → c = 0) ∧ 8 * z.length ≤ 140737488351232 := by
  rcases open_ints Try.underlying22 Try.underlying3 (by kernel_rfl) h with ⟨hcs, _⟩ | ⟨x, l, c, zs, hcs, _, hl, hm, hz, hx, hcell, hwz⟩
  · simp at hcs
    subst hcs
    exact ⟨none, 0, [], rfl, Ints.nil_ _ _, Nat.zero_le _, fun _ => rfl, by decide⟩
  · simp at hcs
    subst hcs
    obtain ⟨q, q1, q2, q3⟩ := ints_of_open hl hm (by simpa using hz) hcell
    subst q2
    have hb : Try.prog.bytesOf 3 = 8 := by kernel_rfl
    have k := hw (((lits .i64 (zs.take q.length) : List (DataW H)).length + (lits .i64 (zs.drop q.length) : List (DataW H)).length) * Try.prog.bytesOf 3) (by rw [(Prod.ext_iff.1 hx).1]; simp [DataW.weights, Try.underlying22])
    rw [hb] at k
    simp only [lits, List.length_map, List.length_take, List.length_drop, reachBytes] at k
    have hz' : zs.length = c := by simpa using hz
    exact ⟨some x, c, q, rfl, q1, q3, fun e => (by cases e), by omega⟩

set_option maxRecDepth 100000 in
theorem fls_sized {A : Option Addr} {len cap : Nat} {d : DataW H} {p : List MemPlace} (h : DataW.Trod enc Try.prog w 0 (fun _ => true) true 43 (.slice A len cap) d p) (hw : ∀ k ∈ d.weights Try.prog 43, k ≤ reachBytes) :
    ∃ l : List Fw, Fls w A l ∧ len = l.length ∧ l.length ≤ cap ∧ (∀ f ∈ l, f.a = none → f.c = 0) ∧ 32 * l.length ≤ 140737488351232 ∧ ∀ f ∈ l, 8 * f.z.length ≤ 140737488351232 := by
  obtain ⟨fuel, hf⟩ := h
  rcases open_slice Try.underlying43 hf with ⟨hcs, _⟩ | ⟨a, ln, cp, m, n, D, Pl, hcs, _, hl, hm, hmm, hx, hi⟩
  · simp [Value.cells] at hcs
    obtain ⟨rfl, rfl, rfl⟩ := hcs
    exact ⟨[], Fls.nil_ _ _, rfl, Nat.zero_le _, (fun f hf => by simp at hf), by decide, fun f hf => by simp at hf⟩
  · simp [Value.cells] at hcs
    obtain ⟨rfl, rfl, rfl⟩ := hcs
    have hmm' : m = cap := by simpa using hmm
    subst hmm'
    have hC : Try.prog.cellsOf 47 = 2 := by kernel_rfl
    have hB : Try.prog.bytesOf 47 = 32 := by kernel_rfl
    have hd := (Prod.ext_iff.1 hx).1
    simp only at hd
    have hw0 : (len + (m - len)) * 32 ≤ reachBytes := by
      have := hw ((len + (m - len)) * 32) (by rw [hd]; simp [DataW.weights, Try.underlying43, hB])
      exact this
    have hw1 : ∀ i, i < len → ∀ k ∈ (D i).weights Try.prog 47, k ≤ reachBytes := fun i him k hk => by
      refine hw k ?_
      rw [hd]
      simp only [DataW.weights, Try.underlying43, List.mem_cons, List.mem_append]
      exact .inr (.inl (weights_all (List.mem_map.2 ⟨i, List.mem_range.2 him, rfl⟩) k hk))
    rw [hC] at hi
    have each : ∀ i, ∃ q : Fw, i < len → w.cell? (a.add (i * 2)) = some (.int .i64 q.q) ∧ w.cell? ((a.add (i * 2)).add 1) = some (.slice q.a q.z.length q.c) ∧ Ints w q.a q.z ∧ q.z.length ≤ q.c ∧ (q.a = none → q.c = 0) ∧ 8 * q.z.length ≤ 140737488351232 := by
      intro i
      by_cases him : i < len
      · obtain ⟨cs, hc, ht⟩ := hi i (by omega)
        obtain ⟨_, hcl, hat⟩ := World.cells?_some hc
        obtain ⟨y0, y1, n', hxx, _, t0, t1⟩ := trod_struct2 Try.underlying47 ht
        have hD : D i = .agg [y0.1, y1.1] := (Prod.ext_iff.1 hxx).1
        have hw2 : ∀ k ∈ y1.1.weights Try.prog 22, k ≤ reachBytes := fun k hk => by
          refine hw1 i him k ?_
          rw [hD]
          simp [DataW.weights, DataW.weightsEach, Try.underlying47]
          exact .inr hk
        match cs, hcl with
        | [c0, c1], _ =>
          have e1 : Try.prog.cellsOf 3 = 1 := by kernel_rfl
          have e2 : Try.prog.cellsOf 22 = 1 := by kernel_rfl
          obtain ⟨x, rfl, _⟩ := one_int (by simpa [e1] using t0)
          obtain ⟨a', c', z, rfl, iz, kz, nz, sz⟩ := one_list_sized (by simpa [e1, e2] using t1) hw2
          exact ⟨⟨x, a', c', z⟩, fun _ => ⟨by simpa [Addr.add] using hat 0 (by omega), by simpa using hat 1 (by omega), iz, kz, nz, sz⟩⟩
      · exact ⟨⟨0, none, 0, []⟩, fun h => absurd h him⟩
    obtain ⟨f, hf'⟩ := Classical.axiomOfChoice each
    have hin : ∀ q ∈ (List.range len).map f, ∃ i, i < len ∧ q = f i := fun q hq => by
      obtain ⟨i, hi1, rfl⟩ := List.mem_map.1 hq
      exact ⟨i, List.mem_range.1 hi1, rfl⟩
    refine ⟨(List.range len).map f, ⟨by simp; unfold maxLen at hm; omega, fun h0 => ?_⟩, by simp, by simpa using hl, (fun q hq e => ?_), ?_, fun q hq => ?_⟩
    · simp at h0
      obtain ⟨b, off, spot⟩ := a
      have hc := (hf' 0 (by omega)).1
      have hspot : spot = none := by simpa [Addr.add] using World.cell?_spot hc
      subst hspot
      refine ⟨b, off, rfl, fun j q hj => ?_⟩
      have hjl : j < len := by
        have := (List.getElem?_eq_some_iff.1 hj).1
        simpa using this
      have hq : q = f j := by simp [hjl] at hj; exact hj.symm
      subst hq
      obtain ⟨k0, k1, k2, k3, _, _⟩ := hf' j (by omega)
      by_cases hz : j * 2 = 0
      · rw [hz] at k0 k1 ⊢
        exact ⟨by simpa [Addr.add] using k0, by simpa [Addr.add] using k1, k2, k3⟩
      · exact ⟨by simpa [Addr.add, hz] using k0, by simpa [Addr.add, hz] using k1, k2, k3⟩
    · obtain ⟨i, hi1, rfl⟩ := hin q hq
      exact (hf' i hi1).2.2.2.2.1 e
    · simp [reachBytes] at hw0 ⊢
      omega
    · obtain ⟨i, hi1, rfl⟩ := hin q hq
      exact (hf' i hi1).2.2.2.2.2

end

end Go.Proofs.Ytamkadffencpgaa
