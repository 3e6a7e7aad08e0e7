/- Arguments that came in, opened: a list of acts on a catalog (a small number, a text, columns, texts). -/
import Derived.Test.YthhcjmikkiiahaaCatAc
import Derived.Test.YthhcjmikkiiahaaOpen
import Derived.Deep.Slices
import Derived.Deep.Strs
import Derived.Deep.SlicePairs
import Derived.OpenShut
import Derived.Lib.SmallJoins
namespace Go.Proofs.Ythhcjmikkiiahaa.cat
set_option linter.unusedVariables false
open Go.RowKit Go.ChangeShapes Go.WideShapes Go.Deep
section
variable {H : Type} {enc : TypeId × Value → H} {P : Program} {w : World} {base : Nat} {spare : Nat → Bool} {held : Bool}
theorem aCells_len (l : List Ac) : (aCells l).length = l.length * 4 := by
  induction l with
  | nil => rfl
  | cons x l ih => rw [aCells_cons, List.length_append, ih, List.length_cons]; simp; omega
theorem slice_nil {t e : TypeId} {fuel : Nat} {a : Option Addr} {n cap : Nat} {x : DataW H × List MemPlace} (ht : P.underlying t = some (.slice e)) (h : DataW.trod enc P w base spare held fuel t (Value.slice a n cap).cells.toList = some x) : a = none → n = 0 ∧ cap = 0 := by
  rcases open_slice ht h with ⟨hcs, rfl⟩ | ⟨a', len, cap', m, fu, D, Q, hcs, -⟩
  · simp [Value.cells] at hcs
    exact fun _ => hcs.2
  · simp [Value.cells] at hcs
    obtain ⟨rfl, -⟩ := hcs
    intro e; cases e
theorem slice_form {t e : TypeId} {fuel : Nat} {v : Value} {x : DataW H × List MemPlace} (ht : P.underlying t = some (.slice e)) (hv : DataW.trod enc P w base spare held fuel t [v] = some x) : ∃ a n c, v = .slice a n c := by
  rcases open_slice ht hv with ⟨hcs, -⟩ | ⟨a', len, cap', m, fu, D, Q, hcs, _⟩
  · exact ⟨_, _, _, (List.cons.inj hcs).1⟩
  · exact ⟨_, _, _, (List.cons.inj hcs).1⟩
theorem row_of_cns {t e : TypeId} {f0 f1 f2 : Field} {fuel : Nat} {a : Option Addr} {n cap : Nat} {x : DataW H × List MemPlace}
    (ht : P.underlying t = some (.slice e)) (he : P.underlying e = some (.struct #[f0, f1, f2])) (ce : P.cellsOf e = 3) (o0 : f0.offset = 0) (o1 : f1.offset = 1) (o2 : f2.offset = 2)
    (k0 : P.underlying f0.type = some .string) (k1 : P.underlying f1.type = some (.int .i64)) (k2 : P.underlying f2.type = some .bool) (c0 : P.cellsOf f0.type = 1) (c1 : P.cellsOf f1.type = 1) (c2 : P.cellsOf f2.type = 1)
    (h : DataW.trod enc P w base spare held fuel t (Value.slice a n cap).cells.toList = some x) :
    ∃ xs : List Cn, xs.length = n ∧ n ≤ maxLen ∧ Row w (.slice a n cap) 3 n (cnCells xs) := by
  rcases open_slice ht h with ⟨hcs, rfl⟩ | ⟨a', len, cap', m, fu, D, Q, hcs, hb, hl, hm, hmm, rfl, hx⟩
  · simp [Value.cells] at hcs
    obtain ⟨rfl, rfl, rfl⟩ := hcs
    exact ⟨[], rfl, by simp, ⟨_, _, rfl, rfl, .inl rfl⟩⟩
  · simp [Value.cells] at hcs
    obtain ⟨rfl, rfl, rfl⟩ := hcs
    have hnm : n ≤ m := by rw [hmm]; split <;> omega
    have each : ∀ i, i < m → ∃ q : Cn, w.cell? (a'.add (i * 3)) = some (.string q.nm) ∧ w.cell? (a'.add (i * 3 + 1)) = some (.int .i64 q.k) ∧ w.cell? (a'.add (i * 3 + 2)) = some (.bool q.key) := by
      intro i hi
      obtain ⟨cs', h1, h2⟩ := hx i hi
      rw [ce] at h1
      obtain ⟨_, hlen, hcell⟩ := World.cells?_some h1
      obtain ⟨y0, y1, y2, k, -, -, g0, g1, g2⟩ := trod_struct3 he h2
      match cs', hlen with
      | [v0, v1, v2], _ =>
        simp [o0, o1, o2, c0, c1, c2] at g0 g1 g2
        obtain ⟨n0, e0, -, w0⟩ := DataW.trod_string k0 g0
        obtain ⟨n1, e1, -, w1⟩ := DataW.trod_int k1 g1
        obtain ⟨n2, e2, -⟩ := DataW.trod_bool k2 g2
        simp at e0 e1 e2
        subst e0 e1 e2
        have q0 := hcell 0 (by omega)
        have q1 := hcell 1 (by omega)
        have q2 := hcell 2 (by omega)
        rw [add_add] at q0 q1 q2
        exact ⟨⟨n0, n1, n2⟩, by simpa using q0, by simpa using q1, by simpa using q2⟩
    have : Inhabited Cn := ⟨⟨ByteArray.empty, 0, false⟩⟩
    obtain ⟨q, hq⟩ := choose_lt each
    refine ⟨(List.range n).map q, by simp, by omega, ⟨_, _, rfl, by rw [cnCells_len]; simp, ?_⟩⟩
    by_cases h0 : n = 0
    · exact .inl h0
    · obtain ⟨b, off, spot⟩ := a'
      have hc0 := (hq 0 (by omega)).1
      have hspot : spot = none := by simpa [Addr.add] using World.cell?_spot hc0
      subst hspot
      refine .inr ⟨b, off, rfl, fun j hj => ?_⟩
      obtain ⟨i, r, rfl, hr⟩ : ∃ i r, j = i * 3 + r ∧ r < 3 := ⟨j / 3, j % 3, by omega, by omega⟩
      have hi : i < n := by omega
      obtain ⟨p0, p1, p2⟩ := cnCells_at ((List.range n).map q) i (q i) (by simp [hi])
      obtain ⟨s0, s1, s2⟩ := hq i (by omega)
      rw [addr_add] at s0 s1 s2
      rcases (by omega : r = 0 ∨ r = 1 ∨ r = 2) with rfl | rfl | rfl
      · exact s0.trans p0.symm
      · exact s1.trans p1.symm
      · exact s2.trans p2.symm
theorem row_of_acs {t e ec es : TypeId} {f0 f1 f2 f3 h0 h1 h2 : Field} {fuel : Nat} {a : Option Addr} {n cap : Nat} {x : DataW H × List MemPlace}
    (ht : P.underlying t = some (.slice e)) (he : P.underlying e = some (.struct #[f0, f1, f2, f3])) (ce : P.cellsOf e = 4) (o0 : f0.offset = 0) (o1 : f1.offset = 1) (o2 : f2.offset = 2) (o3 : f3.offset = 3)
    (k0 : P.underlying f0.type = some (.int .u8)) (k1 : P.underlying f1.type = some .string) (k2 : P.underlying f2.type = some (.slice ec)) (k3 : P.underlying f3.type = some (.slice es)) (c0 : P.cellsOf f0.type = 1) (c1 : P.cellsOf f1.type = 1) (c2 : P.cellsOf f2.type = 1) (c3 : P.cellsOf f3.type = 1)
    (je : P.underlying ec = some (.struct #[h0, h1, h2])) (jc : P.cellsOf ec = 3) (j0 : h0.offset = 0) (j1 : h1.offset = 1) (j2 : h2.offset = 2)
    (i0 : P.underlying h0.type = some .string) (i1 : P.underlying h1.type = some (.int .i64)) (i2 : P.underlying h2.type = some .bool) (m0 : P.cellsOf h0.type = 1) (m1 : P.cellsOf h1.type = 1) (m2 : P.cellsOf h2.type = 1)
    (l0 : P.underlying es = some .string) (l1 : P.cellsOf es = 1)
    (h : DataW.trod enc P w base spare held fuel t (Value.slice a n cap).cells.toList = some x) :
    ∃ xs : List Ac, xs.length = n ∧ n ≤ maxLen ∧ Row w (.slice a n cap) 4 n (aCells xs) ∧ ∀ x ∈ xs, AcOk w x := by
  rcases open_slice ht h with ⟨hcs, rfl⟩ | ⟨a', len, cap', m, fu, D, Q, hcs, hb, hl, hm, hmm, rfl, hx⟩
  · simp [Value.cells] at hcs
    obtain ⟨rfl, rfl, rfl⟩ := hcs
    exact ⟨[], rfl, by simp, ⟨_, _, rfl, rfl, .inl rfl⟩, by simp⟩
  · simp [Value.cells] at hcs
    obtain ⟨rfl, rfl, rfl⟩ := hcs
    have hnm : n ≤ m := by rw [hmm]; split <;> omega
    have each : ∀ i, i < m → ∃ q : Ac, w.cell? (a'.add (i * 4)) = some (.int .u8 q.what) ∧ w.cell? (a'.add (i * 4 + 1)) = some (.string q.nm) ∧ w.cell? (a'.add (i * 4 + 2)) = some (.slice q.ca q.cn q.cc) ∧ w.cell? (a'.add (i * 4 + 3)) = some (.slice q.ua q.un q.uc) ∧ AcOk w q := by
      intro i hi
      obtain ⟨cs', g, g'⟩ := hx i hi
      rw [ce] at g
      obtain ⟨_, hlen, hcell⟩ := World.cells?_some g
      obtain ⟨y0, y1, y2, y3, k, -, -, g0, g1, g2, g3⟩ := Go.Joins.trod_struct4 he g'
      match cs', hlen with
      | [v0, v1, v2, v3], _ =>
        simp [o0, o1, o2, o3, c0, c1, c2, c3] at g0 g1 g2 g3
        obtain ⟨n0, e0, -, w0⟩ := DataW.trod_int k0 g0
        obtain ⟨n1, e1, -, w1⟩ := DataW.trod_string k1 g1
        simp at e0 e1
        subst e0 e1
        obtain ⟨ca, cn, cc, rfl⟩ := slice_form k2 g2
        obtain ⟨ua, un, uc, rfl⟩ := slice_form k3 g3
        obtain ⟨xs, x1, x2, x3⟩ := row_of_cns k2 je jc j0 j1 j2 i0 i1 i2 m0 m1 m2 (a := ca) (n := cn) (cap := cc) g2
        obtain ⟨ss, s1, s2, s3, s4, -⟩ := row_of_strings k3 l0 l1 (a := ua) (n := un) (cap := uc) g3
        have s5 := slice_nil k3 (a := ua) (n := un) (cap := uc) g3
        have q0 := hcell 0 (by omega)
        have q1 := hcell 1 (by omega)
        have q2 := hcell 2 (by omega)
        have q3 := hcell 3 (by omega)
        rw [add_add] at q0 q1 q2 q3
        have hw := bounds_u8 w0
        exact ⟨⟨n0, n1, ca, cn, cc, xs, ua, un, uc, ss⟩, by simpa using q0, by simpa using q1, by simpa using q2, by simpa using q3, hw.1, hw.2, w1, x1, x2, x3, s1, s3, s2, s5, s4⟩
    have : Inhabited Ac := ⟨⟨0, ByteArray.empty, none, 0, 0, [], none, 0, 0, []⟩⟩
    obtain ⟨q, hq⟩ := choose_lt each
    refine ⟨(List.range n).map q, by simp, by omega, ⟨_, _, rfl, by rw [aCells_len]; simp, ?_⟩, fun y hy => ?_⟩
    · by_cases h0 : n = 0
      · exact .inl h0
      · obtain ⟨b, off, spot⟩ := a'
        have hc0 := (hq 0 (by omega)).1
        have hspot : spot = none := by simpa [Addr.add] using World.cell?_spot hc0
        subst hspot
        refine .inr ⟨b, off, rfl, fun j hj => ?_⟩
        obtain ⟨i, r, rfl, hr⟩ : ∃ i r, j = i * 4 + r ∧ r < 4 := ⟨j / 4, j % 4, by omega, by omega⟩
        have hi : i < n := by omega
        obtain ⟨p0, p1, p2, p3⟩ := aCells_at ((List.range n).map q) i (q i) (by simp [hi])
        obtain ⟨s0, s1, s2, s3, -⟩ := hq i (by omega)
        rw [addr_add] at s0 s1 s2 s3
        rcases (by omega : r = 0 ∨ r = 1 ∨ r = 2 ∨ r = 3) with rfl | rfl | rfl | rfl
        · exact s0.trans p0.symm
        · exact s1.trans p1.symm
        · exact s2.trans p2.symm
        · exact s3.trans p3.symm
    · obtain ⟨i, hi, rfl⟩ := List.mem_map.1 hy
      exact (hq i (by have := List.mem_range.1 hi; omega)).2.2.2.2
end
end Go.Proofs.Ythhcjmikkiiahaa.cat
