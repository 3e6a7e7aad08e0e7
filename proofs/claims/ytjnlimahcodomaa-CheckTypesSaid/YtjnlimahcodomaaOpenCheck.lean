/- Arguments that came in, opened: a list of cells of a row. -/
import Derived.Test.YtjnlimahcodomaaCheckM
import Derived.Test.YtjnlimahcodomaaOpen
import Derived.Deep.Slices
import Derived.Deep.Strs
import Derived.Deep.SlicePairs
import Derived.OpenShut
import Derived.Lib.SmallJoins
namespace Go.Proofs.Ytjnlimahcodomaa.ck
set_option linter.unusedVariables false
open Go.RowKit Go.ChangeShapes Go.WideShapes Go.Deep
theorem trod_struct6 {H : Type} {enc : TypeId × Value → H} {P : Program} {w : World} {base : Nat} {spare : Nat → Bool} {held : Bool} {t : TypeId} {f0 f1 f2 f3 f4 f5 : Field} {fuel : Nat} {cs : List Value} {x : DataW H × List MemPlace} (ht : P.underlying t = some (.struct #[f0, f1, f2, f3, f4, f5])) (h : DataW.trod enc P w base spare held fuel t cs = some x) :
    ∃ y0 y1 y2 y3 y4 y5 n, cs.length = P.cellsOf t ∧ DataW.trod enc P w base spare held n f0.type ((cs.drop f0.offset).take (P.cellsOf f0.type)) = some y0 ∧ DataW.trod enc P w base spare held n f1.type ((cs.drop f1.offset).take (P.cellsOf f1.type)) = some y1 ∧ DataW.trod enc P w base spare held n f2.type ((cs.drop f2.offset).take (P.cellsOf f2.type)) = some y2 ∧ DataW.trod enc P w base spare held n f3.type ((cs.drop f3.offset).take (P.cellsOf f3.type)) = some y3 ∧ DataW.trod enc P w base spare held n f4.type ((cs.drop f4.offset).take (P.cellsOf f4.type)) = some y4 ∧ DataW.trod enc P w base spare held n f5.type ((cs.drop f5.offset).take (P.cellsOf f5.type)) = some y5 := by
  obtain ⟨xs, n, _, rfl, hl, hlen, hf⟩ := DataW.trod_struct ht h
  match xs, hlen with
  | [y0, y1, y2, y3, y4, y5], _ => exact ⟨y0, y1, y2, y3, y4, y5, n, hl, by simpa using hf 0 f0 rfl, by simpa using hf 1 f1 rfl, by simpa using hf 2 f2 rfl, by simpa using hf 3 f3 rfl, by simpa using hf 4 f4 rfl, by simpa using hf 5 f5 rfl⟩
theorem row_of_cls {H : Type} {enc : TypeId × Value → H} {P : Program} {w : World} {base : Nat} {spare : Nat → Bool} {held : Bool} {t e : TypeId} {f0 f1 f2 f3 f4 f5 : Field} {fuel : Nat} {a : Option Addr} {n cap : Nat} {x : DataW H × List MemPlace}
    (ht : P.underlying t = some (.slice e)) (he : P.underlying e = some (.struct #[f0, f1, f2, f3, f4, f5])) (ce : P.cellsOf e = 6) (o0 : f0.offset = 0) (o1 : f1.offset = 1) (o2 : f2.offset = 2) (o3 : f3.offset = 3) (o4 : f4.offset = 4) (o5 : f5.offset = 5)
    (k0 : P.underlying f0.type = some (.int .u8)) (k1 : P.underlying f1.type = some (.int .u8)) (k2 : P.underlying f2.type = some (.int .u8)) (k3 : P.underlying f3.type = some (.bool)) (k4 : P.underlying f4.type = some (.int .i64)) (k5 : P.underlying f5.type = some (.string)) (c0 : P.cellsOf f0.type = 1) (c1 : P.cellsOf f1.type = 1) (c2 : P.cellsOf f2.type = 1) (c3 : P.cellsOf f3.type = 1) (c4 : P.cellsOf f4.type = 1) (c5 : P.cellsOf f5.type = 1)
    (h : DataW.trod enc P w base spare held fuel t (Value.slice a n cap).cells.toList = some x) :
    ∃ xs : List Cl, xs.length = n ∧ n ≤ maxLen ∧ n ≤ cap ∧ Row w (.slice a n cap) 6 n (cCells xs) ∧ ∀ x ∈ xs, CB x := by
  rcases open_slice ht h with ⟨hcs, rfl⟩ | ⟨a', len, cap', m, fu, D, Q, hcs, hb, hl, hm, hmm, rfl, hx⟩
  · simp [Value.cells] at hcs
    obtain ⟨rfl, rfl, rfl⟩ := hcs
    exact ⟨[], rfl, by simp, Nat.le_refl _, ⟨_, _, rfl, rfl, .inl rfl⟩, by simp⟩
  · simp [Value.cells] at hcs
    obtain ⟨rfl, rfl, rfl⟩ := hcs
    have hnm : n ≤ m := by rw [hmm]; split <;> omega
    have each : ∀ i, i < m → ∃ q : Cl, w.cell? (a'.add (i * 6)) = some (.int .u8 q.t) ∧ w.cell? (a'.add (i * 6 + 1)) = some (.int .u8 q.nm) ∧ w.cell? (a'.add (i * 6 + 2)) = some (.int .u8 q.kd) ∧ w.cell? (a'.add (i * 6 + 3)) = some (.bool q.nul) ∧ w.cell? (a'.add (i * 6 + 4)) = some (.int .i64 q.x) ∧ w.cell? (a'.add (i * 6 + 5)) = some (.string q.s) ∧ CB q := by
      intro i hi
      obtain ⟨cs', h1, h2⟩ := hx i hi
      rw [ce] at h1
      obtain ⟨_, hlen, hcell⟩ := World.cells?_some h1
      obtain ⟨y0, y1, y2, y3, y4, y5, k, -, g0, g1, g2, g3, g4, g5⟩ := trod_struct6 he h2
      match cs', hlen with
      | [v0, v1, v2, v3, v4, v5], _ =>
        simp [o0, o1, o2, o3, o4, o5, c0, c1, c2, c3, c4, c5] at g0 g1 g2 g3 g4 g5
        obtain ⟨n0, e0, -, w0⟩ := DataW.trod_int k0 g0
        obtain ⟨n1, e1, -, w1⟩ := DataW.trod_int k1 g1
        obtain ⟨n2, e2, -, w2⟩ := DataW.trod_int k2 g2
        obtain ⟨n3, e3, -⟩ := DataW.trod_bool k3 g3
        obtain ⟨n4, e4, -, w4⟩ := DataW.trod_int k4 g4
        obtain ⟨n5, e5, -, w5⟩ := DataW.trod_string k5 g5
        simp at e0 e1 e2 e3 e4 e5
        subst e0 e1 e2 e3 e4 e5
        have q0 := hcell 0 (by omega)
        have q1 := hcell 1 (by omega)
        have q2 := hcell 2 (by omega)
        have q3 := hcell 3 (by omega)
        have q4 := hcell 4 (by omega)
        have q5 := hcell 5 (by omega)
        rw [add_add] at q0 q1 q2 q3 q4 q5
        exact ⟨⟨n0, n1, n2, n3, n4, n5⟩, by simpa using q0, by simpa using q1, by simpa using q2, by simpa using q3, by simpa using q4, by simpa using q5, bounds_u8 w0, bounds_u8 w1, bounds_u8 w2, bounds_i64 w4, w5⟩
    have : Inhabited Cl := ⟨⟨0, 0, 0, false, 0, ByteArray.empty⟩⟩
    obtain ⟨q, hq⟩ := choose_lt each
    refine ⟨(List.range n).map q, by simp, by omega, by omega, ⟨_, _, rfl, by rw [cCells_len]; simp, ?_⟩, fun y hy => ?_⟩
    · by_cases h0 : n = 0
      · exact .inl h0
      · obtain ⟨b, off, spot⟩ := a'
        have hc0 := (hq 0 (by omega)).1
        have hspot : spot = none := by simpa [Addr.add] using World.cell?_spot hc0
        subst hspot
        refine .inr ⟨b, off, rfl, fun j hj => ?_⟩
        obtain ⟨i, r, rfl, hr⟩ : ∃ i r, j = i * 6 + r ∧ r < 6 := ⟨j / 6, j % 6, by omega, by omega⟩
        have hi : i < n := by omega
        obtain ⟨p0, p1, p2, p3, p4, p5⟩ := cCells_at ((List.range n).map q) i (q i) (by simp [hi])
        obtain ⟨s0, s1, s2, s3, s4, s5, -⟩ := hq i (by omega)
        rw [addr_add] at s0 s1 s2 s3 s4 s5
        rcases (by omega : r = 0 ∨ r = 1 ∨ r = 2 ∨ r = 3 ∨ r = 4 ∨ r = 5) with rfl | rfl | rfl | rfl | rfl | rfl
        · exact s0.trans p0.symm
        · exact s1.trans p1.symm
        · exact s2.trans p2.symm
        · exact s3.trans p3.symm
        · exact s4.trans p4.symm
        · exact s5.trans p5.symm
    · obtain ⟨i, hi, rfl⟩ := List.mem_map.1 hy
      exact (hq i (by have := List.mem_range.1 hi; omega)).2.2.2.2.2.2
end Go.Proofs.Ytjnlimahcodomaa.ck
