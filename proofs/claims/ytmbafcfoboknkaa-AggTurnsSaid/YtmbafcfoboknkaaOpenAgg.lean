/- Arguments that came in, opened: a list of rows of groups (a small number, two values). -/
import Derived.Test.YtmbafcfoboknkaaAggR
import Derived.Test.YtmbafcfoboknkaaOpen
import Derived.Deep.Slices
import Derived.Deep.Strs
import Derived.Deep.SlicePairs
import Derived.OpenShut
import Derived.Lib.SmallJoins
namespace Go.Proofs.Ytmbafcfoboknkaa.agr
set_option linter.unusedVariables false
open Go.RowKit Go.ChangeShapes Go.WideShapes Go.Deep
theorem row_of_rws {H : Type} {enc : TypeId × Value → H} {P : Program} {w : World} {base : Nat} {spare : Nat → Bool} {held : Bool} {t e : TypeId} {f0 f1 f2 h0 h1 h2 j0 j1 j2 : Field} {fuel : Nat} {a : Option Addr} {n cap : Nat} {x : DataW H × List MemPlace}
    (ht : P.underlying t = some (.slice e)) (he : P.underlying e = some (.struct #[f0, f1, f2])) (ce : P.cellsOf e = 7) (o0 : f0.offset = 0) (o1 : f1.offset = 1) (o2 : f2.offset = 4) (c0 : P.cellsOf f0.type = 1) (c1 : P.cellsOf f1.type = 3) (c2 : P.cellsOf f2.type = 3)
    (k0 : P.underlying f0.type = some (.int .u8)) (k1 : P.underlying f1.type = some (.struct #[h0, h1, h2])) (k2 : P.underlying f2.type = some (.struct #[j0, j1, j2]))
    (p0 : h0.offset = 0) (p1 : h1.offset = 1) (p2 : h2.offset = 2) (d0 : P.cellsOf h0.type = 1) (d1 : P.cellsOf h1.type = 1) (d2 : P.cellsOf h2.type = 1) (l0 : P.underlying h0.type = some (.int .u8)) (l1 : P.underlying h1.type = some (.int .i64)) (l2 : P.underlying h2.type = some .string)
    (q0 : j0.offset = 0) (q1 : j1.offset = 1) (q2 : j2.offset = 2) (b0 : P.cellsOf j0.type = 1) (b1 : P.cellsOf j1.type = 1) (b2 : P.cellsOf j2.type = 1) (m0 : P.underlying j0.type = some (.int .u8)) (m1 : P.underlying j1.type = some (.int .i64)) (m2 : P.underlying j2.type = some .string)
    (h : DataW.trod enc P w base spare held fuel t (Value.slice a n cap).cells.toList = some x) :
    ∃ xs : List Rw, xs.length = n ∧ n ≤ maxLen ∧ Row w (.slice a n cap) 7 n (rCells xs) ∧ ∀ x ∈ xs, RB x := by
  rcases open_slice ht h with ⟨hcs, rfl⟩ | ⟨a', len, cap', m, fu, D, Q, hcs, hb, hl, hm, hmm, rfl, hx⟩
  · simp [Value.cells] at hcs
    obtain ⟨rfl, rfl, rfl⟩ := hcs
    exact ⟨[], rfl, by simp, ⟨_, _, rfl, rfl, .inl rfl⟩, by simp⟩
  · simp [Value.cells] at hcs
    obtain ⟨rfl, rfl, rfl⟩ := hcs
    have hnm : n ≤ m := by rw [hmm]; split <;> omega
    have each : ∀ i, i < m → ∃ q : Rw, w.cell? (a'.add (i * 7)) = some (.int .u8 q.g) ∧ w.cell? (a'.add (i * 7 + 1)) = some (.int .u8 q.ak) ∧ w.cell? (a'.add (i * 7 + 2)) = some (.int .i64 q.an) ∧ w.cell? (a'.add (i * 7 + 3)) = some (.string q.ta) ∧ w.cell? (a'.add (i * 7 + 4)) = some (.int .u8 q.bk) ∧ w.cell? (a'.add (i * 7 + 5)) = some (.int .i64 q.bn) ∧ w.cell? (a'.add (i * 7 + 6)) = some (.string q.tb) ∧ RB q := by
      intro i hi
      obtain ⟨cs', z1, z2⟩ := hx i hi
      rw [ce] at z1
      obtain ⟨_, hlen, hcell⟩ := World.cells?_some z1
      obtain ⟨y0, y1, y2, k, -, -, g0, g1, g2⟩ := trod_struct3 he z2
      match cs', hlen with
      | [v0, v1, v2, v3, v4, v5, v6], _ =>
        simp [o0, o1, o2, c0, c1, c2] at g0 g1 g2
        obtain ⟨u0, u1, u2, k', -, -, r1, r2, r3⟩ := trod_struct3 k1 g1
        obtain ⟨s0, s1, s2, k'', -, -, r4, r5, r6⟩ := trod_struct3 k2 g2
        simp [p0, p1, p2, d0, d1, d2] at r1 r2 r3
        simp [q0, q1, q2, b0, b1, b2] at r4 r5 r6
        obtain ⟨n0, e0, -, w0⟩ := DataW.trod_int k0 g0
        obtain ⟨n1, e1, -, w1⟩ := DataW.trod_int l0 r1
        obtain ⟨n2, e2, -, w2⟩ := DataW.trod_int l1 r2
        obtain ⟨n3, e3, -, w3⟩ := DataW.trod_string l2 r3
        obtain ⟨n4, e4, -, w4⟩ := DataW.trod_int m0 r4
        obtain ⟨n5, e5, -, w5⟩ := DataW.trod_int m1 r5
        obtain ⟨n6, e6, -, w6⟩ := DataW.trod_string m2 r6
        simp at e0 e1 e2 e3 e4 e5 e6
        subst e0 e1 e2 e3 e4 e5 e6
        have x0 := hcell 0 (by omega)
        have x1 := hcell 1 (by omega)
        have x2 := hcell 2 (by omega)
        have x3 := hcell 3 (by omega)
        have x4 := hcell 4 (by omega)
        have x5 := hcell 5 (by omega)
        have x6 := hcell 6 (by omega)
        rw [add_add] at x0 x1 x2 x3 x4 x5 x6
        exact ⟨⟨n0, n1, n2, n3, n4, n5, n6⟩, by simpa using x0, by simpa using x1, by simpa using x2, by simpa using x3, by simpa using x4, by simpa using x5, by simpa using x6, bounds_u8 w0, bounds_u8 w1, bounds_i64 w2, w3, bounds_u8 w4, bounds_i64 w5, w6⟩
    have : Inhabited Rw := ⟨⟨0, 0, 0, ByteArray.empty, 0, 0, ByteArray.empty⟩⟩
    obtain ⟨q, hq⟩ := choose_lt each
    refine ⟨(List.range n).map q, by simp, by omega, ⟨_, _, rfl, by rw [rCells_len]; simp, ?_⟩, fun y hy => ?_⟩
    · by_cases h0 : n = 0
      · exact .inl h0
      · obtain ⟨b, off, spot⟩ := a'
        have hc0 := (hq 0 (by omega)).1
        have hspot : spot = none := by simpa [Addr.add] using World.cell?_spot hc0
        subst hspot
        refine .inr ⟨b, off, rfl, fun j hj => ?_⟩
        obtain ⟨i, r, rfl, hr⟩ : ∃ i r, j = i * 7 + r ∧ r < 7 := ⟨j / 7, j % 7, by omega, by omega⟩
        have hi : i < n := by omega
        rw [rCells_at ((List.range n).map q) i (q i) (by simp [hi]) r hr]
        obtain ⟨s0, s1, s2, s3, s4, s5, s6, -⟩ := hq i (by omega)
        rw [addr_add] at s0 s1 s2 s3 s4 s5 s6
        rcases (by omega : r = 0 ∨ r = 1 ∨ r = 2 ∨ r = 3 ∨ r = 4 ∨ r = 5 ∨ r = 6) with rfl | rfl | rfl | rfl | rfl | rfl | rfl
        · exact s0
        · exact s1
        · exact s2
        · exact s3
        · exact s4
        · exact s5
        · exact s6
    · obtain ⟨i, hi, rfl⟩ := List.mem_map.1 hy
      exact (hq i (by have := List.mem_range.1 hi; omega)).2.2.2.2.2.2.2
end Go.Proofs.Ytmbafcfoboknkaa.agr
