/- Arguments that came in, opened as rows of cells: a slice of structs of two int64s, with their bounds. -/
import Derived.Test.YtbaepjjanjhliaaArenaApartW
import Derived.Test.YtbaepjjanjhliaaOpen
import Derived.Deep.Slices
import Derived.Deep.Strs
import Derived.Deep.SlicePairs
namespace Go.Proofs.Ytbaepjjanjhliaa
set_option linter.unusedVariables false
open Go.RowKit Go.ChangeShapes Go.WideShapes Go.Deep

def dCells (l : List (Int × Int)) : List Value := l.flatMap fun p => [.int .i64 p.1, .int .i64 p.2]
theorem dCells_length (l : List (Int × Int)) : (dCells l).length = l.length * 2 := by
  induction l with
  | nil => rfl
  | cons a l ih => simp only [dCells, List.flatMap_cons, List.length_append, List.length_cons] at ih ⊢; rw [ih]; simp; omega
theorem dCells_at (l : List (Int × Int)) : ∀ (i : Nat) (q : Int × Int), l[i]? = some q → (dCells l)[i * 2]? = some (.int .i64 q.1) ∧ (dCells l)[i * 2 + 1]? = some (.int .i64 q.2) := by
  induction l with
  | nil => intro i q h; simp at h
  | cons a l ih =>
    intro i q h
    have e : dCells (a :: l) = .int .i64 a.1 :: .int .i64 a.2 :: dCells l := rfl
    rw [e]
    cases i with
    | zero => simp at h; subst h; exact ⟨rfl, rfl⟩
    | succ i =>
      have := ih i q (by simpa using h)
      rw [show (i + 1) * 2 = i * 2 + 1 + 1 by omega]
      simpa using this
theorem row_of_pairs {H : Type} {enc : TypeId × Value → H} {P : Program} {w : World} {base : Nat} {spare : Nat → Bool} {held : Bool} {t e : TypeId} {f0 f1 : Field} {fuel : Nat} {a : Option Addr} {n cap : Nat} {x : DataW H × List MemPlace}
    (ht : P.underlying t = some (.slice e)) (he : P.underlying e = some (.struct #[f0, f1])) (ce : P.cellsOf e = 2) (o0 : f0.offset = 0) (o1 : f1.offset = 1)
    (k0 : P.underlying f0.type = some (.int .i64)) (k1 : P.underlying f1.type = some (.int .i64)) (c0 : P.cellsOf f0.type = 1) (c1 : P.cellsOf f1.type = 1)
    (h : DataW.trod enc P w base spare held fuel t (Value.slice a n cap).cells.toList = some x) :
    ∃ acts : List (Int × Int), acts.length = n ∧ n ≤ maxLen ∧ Row w (.slice a n cap) 2 n (dCells acts) ∧ ∀ q ∈ acts, (Lit.int .i64 q.2).wf = true := by
  rcases open_slice ht h with ⟨hcs, rfl⟩ | ⟨a', len, cap', m, fu, D, Pl, hcs, hb, hl, hm, hmm, rfl, hx⟩
  · simp [Value.cells] at hcs
    obtain ⟨rfl, rfl, rfl⟩ := hcs
    exact ⟨[], rfl, by simp, ⟨_, _, rfl, rfl, .inl rfl⟩, fun q hq => by cases hq⟩
  · simp [Value.cells] at hcs
    obtain ⟨rfl, rfl, rfl⟩ := hcs
    have hnm : n ≤ m := by rw [hmm]; split <;> omega
    have each : ∀ i, i < m → ∃ q : Int × Int, (w.cell? (a'.add (i * 2)) = some (.int .i64 q.1) ∧ w.cell? (a'.add (i * 2 + 1)) = some (.int .i64 q.2)) ∧ (Lit.int .i64 q.2).wf = true := by
      intro i hi
      obtain ⟨cs', h1, h2⟩ := hx i hi
      rw [ce] at h1
      obtain ⟨_, hlen, hcell⟩ := World.cells?_some h1
      obtain ⟨y0, y1, k, -, -, g0, g1⟩ := trod_struct2 he h2
      match cs', hlen with
      | [v0, v1], _ =>
        simp [o0, o1, c0, c1] at g0 g1
        obtain ⟨n0, e0, -⟩ := DataW.trod_int k0 g0
        obtain ⟨n1, e1, -, w1⟩ := DataW.trod_int k1 g1
        simp at e0 e1
        subst e0 e1
        have q0 := hcell 0 (by omega)
        have q1 := hcell 1 (by omega)
        rw [add_add] at q0 q1
        exact ⟨(n0, n1), ⟨by simpa using q0, by simpa using q1⟩, w1⟩
    obtain ⟨q, hq⟩ := choose_lt each
    refine ⟨(List.range n).map q, by simp, by omega, ⟨_, _, rfl, by rw [dCells_length]; simp, ?_⟩, fun z hz => ?_⟩
    · by_cases h0 : n = 0
      · exact .inl h0
      · obtain ⟨b, off, spot⟩ := a'
        have hc0 := (hq 0 (by omega)).1.1
        have hspot : spot = none := by simpa [Addr.add] using World.cell?_spot hc0
        subst hspot
        refine .inr ⟨b, off, rfl, fun j hj => ?_⟩
        obtain ⟨i, r, rfl, hr⟩ : ∃ i r, j = i * 2 + r ∧ r < 2 := ⟨j / 2, j % 2, by omega, by omega⟩
        have hi : i < n := by omega
        obtain ⟨p0, p1⟩ := dCells_at ((List.range n).map q) i (q i) (by simp [hi])
        obtain ⟨⟨s0, s1⟩, -⟩ := hq i (by omega)
        rw [addr_add] at s0 s1
        rcases (by omega : r = 0 ∨ r = 1) with rfl | rfl
        · exact s0.trans p0.symm
        · exact s1.trans p1.symm
    · obtain ⟨i, hi, rfl⟩ := List.mem_map.1 hz
      exact (hq i (by have := List.mem_range.1 hi; omega)).2
end Go.Proofs.Ytbaepjjanjhliaa
