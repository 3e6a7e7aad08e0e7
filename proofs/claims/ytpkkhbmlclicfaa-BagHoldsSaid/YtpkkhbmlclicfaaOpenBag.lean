/- Arguments that came in, opened as rows of cells: a slice of plain values (two small numbers, a text). -/
import Derived.Test.YtpkkhbmlclicfaaBagV
import Derived.Test.YtpkkhbmlclicfaaOpen
import Derived.Deep.Slices
import Derived.Deep.Strs
import Derived.Deep.SlicePairs
import Derived.OpenShut
namespace Go.Proofs.Ytpkkhbmlclicfaa.val
set_option linter.unusedVariables false
open Go.RowKit Go.ChangeShapes Go.WideShapes Go.Deep
theorem row_of_pls {H : Type} {enc : TypeId × Value → H} {P : Program} {w : World} {base : Nat} {spare : Nat → Bool} {held : Bool} {t e : TypeId} {f0 f1 f2 : Field} {fuel : Nat} {a : Option Addr} {n cap : Nat} {x : DataW H × List MemPlace}
    (ht : P.underlying t = some (.slice e)) (he : P.underlying e = some (.struct #[f0, f1, f2])) (ce : P.cellsOf e = 3) (o0 : f0.offset = 0) (o1 : f1.offset = 1) (o2 : f2.offset = 2)
    (k0 : P.underlying f0.type = some (.int .u8)) (k1 : P.underlying f1.type = some (.int .u8)) (k2 : P.underlying f2.type = some .string) (c0 : P.cellsOf f0.type = 1) (c1 : P.cellsOf f1.type = 1) (c2 : P.cellsOf f2.type = 1)
    (h : DataW.trod enc P w base spare held fuel t (Value.slice a n cap).cells.toList = some x) :
    ∃ xs : List Pl, xs.length = n ∧ n ≤ maxLen ∧ Row w (.slice a n cap) 3 n (pCells xs) ∧ ∀ x ∈ xs, PB x := by
  rcases open_slice ht h with ⟨hcs, rfl⟩ | ⟨a', len, cap', m, fu, D, Q, hcs, hb, hl, hm, hmm, rfl, hx⟩
  · simp [Value.cells] at hcs
    obtain ⟨rfl, rfl, rfl⟩ := hcs
    exact ⟨[], rfl, by simp, ⟨_, _, rfl, rfl, .inl rfl⟩, by simp⟩
  · simp [Value.cells] at hcs
    obtain ⟨rfl, rfl, rfl⟩ := hcs
    have hnm : n ≤ m := by rw [hmm]; split <;> omega
    have each : ∀ i, i < m → ∃ q : Pl, w.cell? (a'.add (i * 3)) = some (.int .u8 q.1) ∧ w.cell? (a'.add (i * 3 + 1)) = some (.int .u8 q.2.1) ∧ w.cell? (a'.add (i * 3 + 2)) = some (.string q.2.2) ∧ PB q := by
      intro i hi
      obtain ⟨cs', h1, h2⟩ := hx i hi
      rw [ce] at h1
      obtain ⟨_, hlen, hcell⟩ := World.cells?_some h1
      obtain ⟨y0, y1, y2, k, -, -, g0, g1, g2⟩ := trod_struct3 he h2
      match cs', hlen with
      | [v0, v1, v2], _ =>
        simp [o0, o1, o2, c0, c1, c2] at g0 g1 g2
        obtain ⟨n0, e0, -, w0⟩ := DataW.trod_int k0 g0
        obtain ⟨n1, e1, -, w1⟩ := DataW.trod_int k1 g1
        obtain ⟨n2, e2, -, w2⟩ := DataW.trod_string k2 g2
        simp at e0 e1 e2
        subst e0 e1 e2
        have q0 := hcell 0 (by omega)
        have q1 := hcell 1 (by omega)
        have q2 := hcell 2 (by omega)
        rw [add_add] at q0 q1 q2
        exact ⟨⟨n0, n1, n2⟩, by simpa using q0, by simpa using q1, by simpa using q2, bounds_u8 w0, bounds_u8 w1, by unfold maxLen at w2; exact w2⟩
    have : Inhabited Pl := ⟨⟨0, 0, nob⟩⟩
    obtain ⟨q, hq⟩ := choose_lt each
    refine ⟨(List.range n).map q, by simp, by omega, ⟨_, _, rfl, by rw [pCells_len]; simp, ?_⟩, fun y hy => ?_⟩
    · by_cases h0 : n = 0
      · exact .inl h0
      · obtain ⟨b, off, spot⟩ := a'
        have hc0 := (hq 0 (by omega)).1
        have hspot : spot = none := by simpa [Addr.add] using World.cell?_spot hc0
        subst hspot
        refine .inr ⟨b, off, rfl, fun j hj => ?_⟩
        obtain ⟨i, r, rfl, hr⟩ : ∃ i r, j = i * 3 + r ∧ r < 3 := ⟨j / 3, j % 3, by omega, by omega⟩
        have hi : i < n := by omega
        obtain ⟨p0, p1, p2⟩ := pCells_at ((List.range n).map q) i (q i) (by simp [hi])
        obtain ⟨s0, s1, s2, -⟩ := hq i (by omega)
        rw [addr_add] at s0 s1 s2
        rcases (by omega : r = 0 ∨ r = 1 ∨ r = 2) with rfl | rfl | rfl
        · exact s0.trans p0.symm
        · exact s1.trans p1.symm
        · exact s2.trans p2.symm
    · obtain ⟨i, hi, rfl⟩ := List.mem_map.1 hy
      exact (hq i (by have := List.mem_range.1 hi; omega)).2.2.2
theorem rows_of_pls {H : Type} {enc : TypeId × Value → H} {P : Program} {w : World} {base : Nat} {spare : Nat → Bool} {held : Bool} {t r e : TypeId} {f0 f1 f2 : Field} {fuel : Nat} {a : Option Addr} {n cap : Nat} {x : DataW H × List MemPlace}
    (ht : P.underlying t = some (.slice r)) (cr : P.cellsOf r = 1) (hr : P.underlying r = some (.slice e)) (he : P.underlying e = some (.struct #[f0, f1, f2])) (ce : P.cellsOf e = 3) (o0 : f0.offset = 0) (o1 : f1.offset = 1) (o2 : f2.offset = 2)
    (k0 : P.underlying f0.type = some (.int .u8)) (k1 : P.underlying f1.type = some (.int .u8)) (k2 : P.underlying f2.type = some .string) (c0 : P.cellsOf f0.type = 1) (c1 : P.cellsOf f1.type = 1) (c2 : P.cellsOf f2.type = 1)
    (h : DataW.trod enc P w base spare held fuel t (Value.slice a n cap).cells.toList = some x) :
    ∃ (vs : List Value) (xss : List (List Pl)), vs.length = n ∧ n ≤ maxLen ∧ Row w (.slice a n cap) 1 n vs ∧ (vs.length = xss.length ∧ ∀ (j : Nat) u x, vs[j]? = some u → xss[j]? = some x → Row w u 3 x.length (pCells x) ∧ (∀ y ∈ x, PB y) ∧ x.length ≤ 9223372036854775807) := by
  have one : ∀ {fu : Nat} {v : Value} {y : DataW H × List MemPlace}, DataW.trod enc P w base spare held fu r [v] = some y → ∃ p : List Pl, Row w v 3 p.length (pCells p) ∧ (∀ y ∈ p, PB y) ∧ p.length ≤ 9223372036854775807 := by
    intro fu v y hv
    obtain ⟨a2, n2, c2', rfl⟩ : ∃ a2 n2 c2', v = .slice a2 n2 c2' := by
      rcases open_slice hr hv with ⟨hcs, -⟩ | ⟨a', len, cap', m, fu, D, Q, hcs, _⟩
      · exact ⟨_, _, _, (List.cons.inj hcs).1⟩
      · exact ⟨_, _, _, (List.cons.inj hcs).1⟩
    obtain ⟨p, hp, hm, hr', hz⟩ := row_of_pls hr he ce o0 o1 o2 k0 k1 k2 c0 c1 c2 (a := a2) (n := n2) (cap := c2') hv
    exact ⟨p, by rw [hp]; exact hr', hz, by rw [hp]; unfold maxLen at hm; omega⟩
  rcases open_slice1 ht cr h with ⟨hcs, rfl⟩ | ⟨a', len, cap', m, fu, V, D, Q, hcs, hb, hl, hm, hmm, rfl, hx⟩
  · simp [Value.cells] at hcs
    obtain ⟨rfl, rfl, rfl⟩ := hcs
    exact ⟨[], [], rfl, by simp, ⟨_, _, rfl, rfl, .inl rfl⟩, rfl, fun j u x h => by simp at h⟩
  · simp [Value.cells] at hcs
    obtain ⟨rfl, rfl, rfl⟩ := hcs
    have hnm : n ≤ m := by rw [hmm]; split <;> omega
    obtain ⟨p, hp⟩ := choose_lt (n := m) (p := fun i (q : List Pl) => Row w (V i) 3 q.length (pCells q) ∧ (∀ y ∈ q, PB y) ∧ q.length ≤ 9223372036854775807) (fun i hi => one (hx i hi).2)
    refine ⟨(List.range n).map V, (List.range n).map p, by simp, by omega, ⟨_, _, rfl, by simp, ?_⟩, by simp, fun j u x h1 h2 => ?_⟩
    · by_cases h0 : n = 0
      · exact .inl h0
      · obtain ⟨b, off, spot⟩ := a'
        have hc0 := (hx 0 (by omega)).1
        have hspot : spot = none := by simpa [Addr.add] using World.cell?_spot hc0
        subst hspot
        refine .inr ⟨b, off, rfl, fun j hj => ?_⟩
        have s0 := (hx j (by omega)).1
        rw [addr_add] at s0
        rw [s0]
        simp [show j < n by omega]
    · have hj : j < n := by have := (List.getElem?_eq_some_iff.1 h1).1; simpa using this
      simp [hj] at h1 h2
      subst h1 h2
      exact hp j (by omega)
end Go.Proofs.Ytpkkhbmlclicfaa.val
