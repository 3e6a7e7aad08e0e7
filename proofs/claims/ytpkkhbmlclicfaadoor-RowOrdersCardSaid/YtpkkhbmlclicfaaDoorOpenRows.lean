/- An argument that came in, opened: a slice of slices of plain values. -/
import Derived.Test.YtpkkhbmlclicfaaDoorOpenPls
namespace Go.Proofs.YtpkkhbmlclicfaaDoor.val
set_option linter.unusedVariables false
open Go.RowKit Go.ChangeShapes Go.WideShapes Go.Deep

theorem rows_of_pls {H : Type} {enc : TypeId × Value → H} {P : Program} {w : World} {base : Nat} {spare : Nat → Bool} {held : Bool} {t r e : TypeId} {f0 f1 f2 : Field} {fuel : Nat} {a : Option Addr} {n cap : Nat} {x : DataW H × List MemPlace}
    (ht : P.underlying t = some (.slice r)) (cr : P.cellsOf r = 1) (hr : P.underlying r = some (.slice e)) (he : P.underlying e = some (.struct #[f0, f1, f2])) (ce : P.cellsOf e = 3) (o0 : f0.offset = 0) (o1 : f1.offset = 1) (o2 : f2.offset = 2)
    (k0 : P.underlying f0.type = some (.int .u8)) (k1 : P.underlying f1.type = some (.int .i64)) (k2 : P.underlying f2.type = some .string) (c0 : P.cellsOf f0.type = 1) (c1 : P.cellsOf f1.type = 1) (c2 : P.cellsOf f2.type = 1)
    (h : DataW.trod enc P w base spare held fuel t (Value.slice a n cap).cells.toList = some x) :
    ∃ (vs : List Value) (xss : List (List Pl)), vs.length = n ∧ n ≤ maxLen ∧ Row w (.slice a n cap) 1 n vs ∧ (vs.length = xss.length ∧ ∀ (j : Nat) u x, vs[j]? = some u → xss[j]? = some x → Row w u 3 x.length (pCells x) ∧ (∀ y ∈ x, PB y) ∧ x.length ≤ 9223372036854775807) := by
  have one : ∀ {fu : Nat} {v : Value} {y : DataW H × List MemPlace}, DataW.trod enc P w base spare held fu r [v] = some y → ∃ p : List Pl, Row w v 3 p.length (pCells p) ∧ (∀ y ∈ p, PB y) ∧ p.length ≤ 9223372036854775807 := by
    intro fu v y hv
    obtain ⟨a2, n2, c2', rfl⟩ : ∃ a2 n2 c2', v = .slice a2 n2 c2' := by
      rcases open_slice hr hv with ⟨hcs, -⟩ | ⟨a', len, cap', m, fu, D, Q, hcs, _⟩
      · exact ⟨_, _, _, (List.cons.inj hcs).1⟩
      · exact ⟨_, _, _, (List.cons.inj hcs).1⟩
    obtain ⟨p, hp, hm, hr', hz⟩ := row_of_pls hr he ce o0 o1 o2 k0 k1 k2 c0 c1 c2 (a := a2) (n := n2) (cap := c2') hv
    exact ⟨p, by rw [hp]; exact hr', hz, by rw [hp]; unfold maxLen at hm; omega⟩
  rcases open_slice1 ht cr h with ⟨hcs, rfl⟩ | ⟨a', len, cap', m, fu, V, D, Q, hcs, hb, hl, hm, hmm, rfl, hx⟩
  · simp [Value.cells] at hcs
    obtain ⟨rfl, rfl, rfl⟩ := hcs
    exact ⟨[], [], rfl, by simp, ⟨_, _, rfl, rfl, .inl rfl⟩, rfl, fun j u x h => by simp at h⟩
  · simp [Value.cells] at hcs
    obtain ⟨rfl, rfl, rfl⟩ := hcs
    have hnm : n ≤ m := by rw [hmm]; split <;> omega
    obtain ⟨p, hp⟩ := choose_lt (n := m) (p := fun i (q : List Pl) => Row w (V i) 3 q.length (pCells q) ∧ (∀ y ∈ q, PB y) ∧ q.length ≤ 9223372036854775807) (fun i hi => one (hx i hi).2)
    refine ⟨(List.range n).map V, (List.range n).map p, by simp, by omega, ⟨_, _, rfl, by simp, ?_⟩, by simp, fun j u x h1 h2 => ?_⟩
    · by_cases h0 : n = 0
      · exact .inl h0
      · obtain ⟨b, off, spot⟩ := a'
        have hc0 := (hx 0 (by omega)).1
        have hspot : spot = none := by simpa [Addr.add] using World.cell?_spot hc0
        subst hspot
        refine .inr ⟨b, off, rfl, fun j hj => ?_⟩
        have s0 := (hx j (by omega)).1
        rw [addr_add] at s0
        rw [s0]
        simp [show j < n by omega]
    · have hj : j < n := by have := (List.getElem?_eq_some_iff.1 h1).1; simpa using this
      simp [hj] at h1 h2
      subst h1 h2
      exact hp j (by omega)
end Go.Proofs.YtpkkhbmlclicfaaDoor.val
