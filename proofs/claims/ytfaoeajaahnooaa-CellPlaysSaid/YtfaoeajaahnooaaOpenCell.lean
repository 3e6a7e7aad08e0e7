/- Arguments that came in, opened: a list of acts on a store of cells. -/
import Derived.Test.YtfaoeajaahnooaaCellJ
import Derived.Test.YtfaoeajaahnooaaOpen
import Derived.Deep.Slices
import Derived.Deep.Strs
import Derived.Deep.SlicePairs
import Derived.OpenShut
import Derived.Lib.SmallJoins
namespace Go.Proofs.Ytfaoeajaahnooaa.cel
set_option linter.unusedVariables false
open Go.RowKit Go.ChangeShapes Go.WideShapes Go.Deep

/-- an act: what, a name, a text, who -/
structure Ac where
  k : Int
  s : ByteArray
  t : ByteArray
  i : Int
def aCells (l : List Ac) : List Value := l.flatMap fun x => [.int .u8 x.k, .string x.s, .string x.t, .int .i64 x.i]
theorem aCells_len (l : List Ac) : (aCells l).length = l.length * 4 := by
  induction l with
  | nil => rfl
  | cons a l ih => unfold aCells at ih ⊢; rw [List.flatMap_cons, List.length_append, ih]; simp; omega
theorem aCells_cons (v : Ac) (l : List Ac) : aCells (v :: l) = .int .u8 v.k :: .string v.s :: .string v.t :: .int .i64 v.i :: aCells l := rfl
theorem aCells_at : ∀ (l : List Ac) (j : Nat) (v : Ac), l[j]? = some v → (aCells l)[j * 4]? = some (.int .u8 v.k) ∧ (aCells l)[j * 4 + 1]? = some (.string v.s) ∧ (aCells l)[j * 4 + 2]? = some (.string v.t) ∧ (aCells l)[j * 4 + 3]? = some (.int .i64 v.i)
  | [], j, v, h => by simp at h
  | a :: l, 0, v, h => by
    simp at h; subst h
    rw [aCells_cons]; simp
  | a :: l, j + 1, v, h => by
    have := aCells_at l j v (by simpa using h)
    rw [aCells_cons, show (j + 1) * 4 = j * 4 + 4 by omega]
    simpa using this
def AB (x : Ac) : Prop := (0 ≤ x.k ∧ x.k ≤ 255) ∧ x.s.size ≤ maxLen ∧ x.t.size ≤ maxLen ∧ (-9223372036854775808 ≤ x.i ∧ x.i ≤ 9223372036854775807)
theorem row_of_acs {H : Type} {enc : TypeId × Value → H} {P : Program} {w : World} {base : Nat} {spare : Nat → Bool} {held : Bool} {t e : TypeId} {f0 f1 f2 f3 : Field} {fuel : Nat} {a : Option Addr} {n cap : Nat} {x : DataW H × List MemPlace}
    (ht : P.underlying t = some (.slice e)) (he : P.underlying e = some (.struct #[f0, f1, f2, f3])) (ce : P.cellsOf e = 4) (o0 : f0.offset = 0) (o1 : f1.offset = 1) (o2 : f2.offset = 2) (o3 : f3.offset = 3)
    (k0 : P.underlying f0.type = some (.int .u8)) (k1 : P.underlying f1.type = some .string) (k2 : P.underlying f2.type = some .string) (k3 : P.underlying f3.type = some (.int .i64)) (c0 : P.cellsOf f0.type = 1) (c1 : P.cellsOf f1.type = 1) (c2 : P.cellsOf f2.type = 1) (c3 : P.cellsOf f3.type = 1)
    (h : DataW.trod enc P w base spare held fuel t (Value.slice a n cap).cells.toList = some x) :
    ∃ xs : List Ac, xs.length = n ∧ n ≤ maxLen ∧ Row w (.slice a n cap) 4 n (aCells xs) ∧ ∀ x ∈ xs, AB x := by
  rcases open_slice ht h with ⟨hcs, rfl⟩ | ⟨a', len, cap', m, fu, D, Q, hcs, hb, hl, hm, hmm, rfl, hx⟩
  · simp [Value.cells] at hcs
    obtain ⟨rfl, rfl, rfl⟩ := hcs
    exact ⟨[], rfl, by simp, ⟨_, _, rfl, rfl, .inl rfl⟩, by simp⟩
  · simp [Value.cells] at hcs
    obtain ⟨rfl, rfl, rfl⟩ := hcs
    have hnm : n ≤ m := by rw [hmm]; split <;> omega
    have each : ∀ i, i < m → ∃ q : Ac, w.cell? (a'.add (i * 4)) = some (.int .u8 q.k) ∧ w.cell? (a'.add (i * 4 + 1)) = some (.string q.s) ∧ w.cell? (a'.add (i * 4 + 2)) = some (.string q.t) ∧ w.cell? (a'.add (i * 4 + 3)) = some (.int .i64 q.i) ∧ AB q := by
      intro i hi
      obtain ⟨cs', h1, h2⟩ := hx i hi
      rw [ce] at h1
      obtain ⟨_, hlen, hcell⟩ := World.cells?_some h1
      obtain ⟨y0, y1, y2, y3, k, -, -, g0, g1, g2, g3⟩ := Go.Joins.trod_struct4 he h2
      match cs', hlen with
      | [v0, v1, v2, v3], _ =>
        simp [o0, o1, o2, o3, c0, c1, c2, c3] at g0 g1 g2 g3
        obtain ⟨n0, e0, -, w0⟩ := DataW.trod_int k0 g0
        obtain ⟨n1, e1, -, w1⟩ := DataW.trod_string k1 g1
        obtain ⟨n2, e2, -, w2⟩ := DataW.trod_string k2 g2
        obtain ⟨n3, e3, -, w3⟩ := DataW.trod_int k3 g3
        simp at e0 e1 e2 e3
        subst e0 e1 e2 e3
        have q0 := hcell 0 (by omega)
        have q1 := hcell 1 (by omega)
        have q2 := hcell 2 (by omega)
        have q3 := hcell 3 (by omega)
        rw [add_add] at q0 q1 q2 q3
        exact ⟨⟨n0, n1, n2, n3⟩, by simpa using q0, by simpa using q1, by simpa using q2, by simpa using q3, bounds_u8 w0, w1, w2, bounds_i64 w3⟩
    have : Inhabited Ac := ⟨⟨0, ByteArray.empty, ByteArray.empty, 0⟩⟩
    obtain ⟨q, hq⟩ := choose_lt each
    refine ⟨(List.range n).map q, by simp, by omega, ⟨_, _, rfl, by rw [aCells_len]; simp, ?_⟩, fun y hy => ?_⟩
    · by_cases h0 : n = 0
      · exact .inl h0
      · obtain ⟨b, off, spot⟩ := a'
        have hc0 := (hq 0 (by omega)).1
        have hspot : spot = none := by simpa [Addr.add] using World.cell?_spot hc0
        subst hspot
        refine .inr ⟨b, off, rfl, fun j hj => ?_⟩
        obtain ⟨i, r, rfl, hr⟩ : ∃ i r, j = i * 4 + r ∧ r < 4 := ⟨j / 4, j % 4, by omega, by omega⟩
        have hi : i < n := by omega
        obtain ⟨p0, p1, p2, p3⟩ := aCells_at ((List.range n).map q) i (q i) (by simp [hi])
        obtain ⟨s0, s1, s2, s3, -⟩ := hq i (by omega)
        rw [addr_add] at s0 s1 s2 s3
        rcases (by omega : r = 0 ∨ r = 1 ∨ r = 2 ∨ r = 3) with rfl | rfl | rfl | rfl
        · exact s0.trans p0.symm
        · exact s1.trans p1.symm
        · exact s2.trans p2.symm
        · exact s3.trans p3.symm
    · obtain ⟨i, hi, rfl⟩ := List.mem_map.1 hy
      exact (hq i (by have := List.mem_range.1 hi; omega)).2.2.2.2
end Go.Proofs.Ytfaoeajaahnooaa.cel
