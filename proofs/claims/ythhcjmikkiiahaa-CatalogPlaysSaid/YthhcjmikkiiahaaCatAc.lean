/- The acts of a law, as they lie in memory. No program. -/
import Derived.Test.YthhcjmikkiiahaaCatYa
namespace Go.Proofs.Ythhcjmikkiiahaa.cat
set_option linter.unusedVariables false
open Go.RowKit Go.WideShapes Go.MapKept
/-- an act, as it lies in memory and as it reads -/
structure Ac where
  what : Int
  nm : ByteArray
  ca : Option Addr
  cn : Nat
  cc : Nat
  cols : List Cn
  ua : Option Addr
  un : Nat
  uc : Nat
  us : List ByteArray
def aCells (l : List Ac) : List Value := l.flatMap fun x => [.int .u8 x.what, .string x.nm, .slice x.ca x.cn x.cc, .slice x.ua x.un x.uc]
theorem aCells_cons (x : Ac) (l : List Ac) : aCells (x :: l) = [.int .u8 x.what, .string x.nm, .slice x.ca x.cn x.cc, .slice x.ua x.un x.uc] ++ aCells l := by unfold aCells; rw [List.flatMap_cons]
theorem aCells_at : ∀ (l : List Ac) (j : Nat) (v : Ac), l[j]? = some v → (aCells l)[j * 4]? = some (.int .u8 v.what) ∧ (aCells l)[j * 4 + 1]? = some (.string v.nm) ∧ (aCells l)[j * 4 + 2]? = some (.slice v.ca v.cn v.cc) ∧ (aCells l)[j * 4 + 3]? = some (.slice v.ua v.un v.uc)
  | [], j, v, h => by simp at h
  | a :: l, 0, v, h => by
    simp at h; subst h
    rw [aCells_cons]; simp
  | a :: l, j + 1, v, h => by
    have := aCells_at l j v (by simpa using h)
    rw [aCells_cons, show (j + 1) * 4 = j * 4 + 4 by omega]
    simpa using this
/-- what an act's parts are in memory -/
def AcOk (w : World) (x : Ac) : Prop := 0 ≤ x.what ∧ x.what ≤ 255 ∧ x.nm.size ≤ maxLen ∧ x.cols.length = x.cn ∧ x.cn ≤ maxLen ∧ Row w (.slice x.ca x.cn x.cc) 3 x.cn (cnCells x.cols) ∧ x.us.length = x.un ∧ x.un ≤ maxLen ∧ x.un ≤ x.uc ∧ (x.ua = none → x.un = 0 ∧ x.uc = 0) ∧ Row w (.slice x.ua x.un x.uc) 1 x.un (x.us.map Value.string)
theorem AcOk.later {w w' : World} {x : Ac} (h : AcOk w x) (hb : Below w.heap.size w w') : AcOk w' x :=
  ⟨h.1, h.2.1, h.2.2.1, h.2.2.2.1, h.2.2.2.2.1, h.2.2.2.2.2.1.later hb, h.2.2.2.2.2.2.1, h.2.2.2.2.2.2.2.1, h.2.2.2.2.2.2.2.2.1, h.2.2.2.2.2.2.2.2.2.1, h.2.2.2.2.2.2.2.2.2.2.later hb⟩
theorem ac_at {w : World} {a : Option Addr} {cap n : Nat} {l : List Ac} {k : Nat} {x : Ac} (hv : Row w (.slice a n cap) 4 n (aCells l)) (hk : k < n) (hx : l[k]? = some x) :
    ∃ b off, a = some ⟨b, off, none⟩ ∧ ∀ wq, Below w.heap.size w wq → wq.cell? ⟨b, off + k * 4, none⟩ = some (.int .u8 x.what) ∧ wq.cell? ⟨b, off + k * 4 + 1, none⟩ = some (.string x.nm) ∧ wq.cell? ⟨b, off + k * 4 + 2, none⟩ = some (.slice x.ca x.cn x.cc) ∧ wq.cell? ⟨b, off + k * 4 + 3, none⟩ = some (.slice x.ua x.un x.uc) ∧ b < wq.heap.size := by
  obtain ⟨b, off, cap', ea, hcell⟩ := hv.pos (by omega)
  simp only [Value.slice.injEq] at ea
  obtain ⟨rfl, -, rfl⟩ := ea
  obtain ⟨c0, c1, c2, c3⟩ := aCells_at l k _ hx
  refine ⟨b, off, rfl, fun wq hb => ?_⟩
  have g0 := cell_later hb ((hcell (k * 4) (by omega)).trans c0)
  have g1 := cell_later hb ((hcell (k * 4 + 1) (by omega)).trans c1)
  have g2 := cell_later hb ((hcell (k * 4 + 2) (by omega)).trans c2)
  have g3 := cell_later hb ((hcell (k * 4 + 3) (by omega)).trans c3)
  refine ⟨g0, by rw [Nat.add_assoc]; exact g1, by rw [Nat.add_assoc]; exact g2, by rw [Nat.add_assoc]; exact g3, ?_⟩
  exact World.block_lt_of_cell? _ _ g0
/-- the first column of a name from the p-th on -/
def ColFrom (l : List Cn) (k : ByteArray) (p : Nat) (i : Int) (f : Bool) : Prop := (f = true → ∃ j : Nat, i = (j : Int) ∧ p ≤ j ∧ (∃ x, l[j]? = some x ∧ x.nm = k) ∧ ∀ q x, p ≤ q → q < j → l[q]? = some x → x.nm ≠ k) ∧ (f = false → i = 0 ∧ ∀ q x, p ≤ q → l[q]? = some x → x.nm ≠ k)
theorem ColFrom.start {l : List Cn} {k : ByteArray} {p : Nat} (hp : l.length = p) : ColFrom l k p 0 false := ⟨fun h => (by cases h), fun _ => ⟨rfl, fun q x hq hx => by have := (List.getElem?_eq_some_iff.1 hx).1; omega⟩⟩
theorem ColFrom.yes {l : List Cn} {k : ByteArray} {p : Nat} {x : Cn} (hx : l[p]? = some x) (hk : x.nm = k) : ColFrom l k p (p : Int) true := ⟨fun _ => ⟨p, rfl, Nat.le_refl _, ⟨x, hx, hk⟩, fun q y h1 h2 => by omega⟩, fun h => (by cases h)⟩
theorem ColFrom.no {l : List Cn} {k : ByteArray} {p : Nat} {i : Int} {f : Bool} {x : Cn} (h : ColFrom l k (p + 1) i f) (hx : l[p]? = some x) (hk : x.nm ≠ k) : ColFrom l k p i f := by
  have hq : ∀ q y, p ≤ q → l[q]? = some y → p + 1 ≤ q ∨ y.nm ≠ k := fun q y h1 h2 => by
    rcases (by omega : p + 1 ≤ q ∨ q = p) with h | rfl
    · exact .inl h
    · rw [hx] at h2; cases h2; exact .inr hk
  refine ⟨fun hf => ?_, fun hf => ?_⟩
  · obtain ⟨j, e, h1, h2, h3⟩ := h.1 hf
    exact ⟨j, e, by omega, h2, fun q y a1 a2 a3 => (hq q y a1 a3).elim (fun b => h3 q y b a2 a3) id⟩
  · obtain ⟨e, h3⟩ := h.2 hf
    exact ⟨e, fun q y a1 a3 => (hq q y a1 a3).elim (fun b => h3 q y b a3) id⟩
theorem col_one {l : List Cn} {k : ByteArray} {i i' : Int} {f f' : Bool} (h : ColOk l k i f) (h' : ColFrom l k 0 i' f') : i = i' ∧ f = f' := by
  cases f with
  | true =>
    obtain ⟨j, rfl, ⟨x, hx, hk⟩, h3⟩ := h.1 rfl
    cases f' with
    | true =>
      obtain ⟨j', rfl, -, ⟨x', hx', hk'⟩, h3'⟩ := h'.1 rfl
      refine ⟨?_, rfl⟩
      rcases Nat.lt_trichotomy j j' with hlt | rfl | hlt
      · exact absurd hk (h3' j x (Nat.zero_le _) hlt hx)
      · rfl
      · exact absurd hk' (h3 j' x' hlt hx')
    | false => exact absurd hk ((h'.2 rfl).2 j x (Nat.zero_le _) hx)
  | false =>
    obtain ⟨rfl, h3⟩ := h.2 rfl
    cases f' with
    | true =>
      obtain ⟨j', rfl, -, ⟨x', hx', hk'⟩, -⟩ := h'.1 rfl
      exact absurd hk' (h3 x' (List.mem_of_getElem? hx'))
    | false => exact ⟨((h'.2 rfl).1).symm, rfl⟩
/-- the loop that looks for a column from the end -/
def ColLoop (L : List Cn) (k : ByteArray) (n : Nat) (W0 : World) (iv fv jv : Value) (W : World) : Prop := ∃ (p : Nat) (i : Int) (f : Bool), iv = .int .i64 i ∧ fv = .bool f ∧ jv = .int .i64 ((p : Int) - 1) ∧ p ≤ n ∧ ColFrom L k p i f ∧ Below W0.heap.size W0 W
/-- a new box -/
def PV (B : Nat) (T : TypeId) (fs : List Value) : Value → World → Prop := fun v W => ∃ g, v = .pointer (some ⟨g, 0, none⟩) ∧ B ≤ g ∧ Flds W g T fs
theorem PV.lasts {B : Nat} {T : TypeId} {fs : List Value} {v : Value} {W W' : World} (h : PV B T fs v W) (hb : Below W.heap.size W W') : PV B T fs v W' := by
  obtain ⟨g, e, h1, h2⟩ := h
  exact ⟨g, e, h1, h2.later hb⟩
theorem PV.new {B : Nat} {T : TypeId} (W : World) (fs : List Value) (hB : B ≤ W.heap.size) : PV B T fs (.pointer (some ⟨W.heap.size, 0, none⟩)) (W.alloc (.cells fs.toArray T)) := ⟨_, rfl, hB, Flds.new W T fs⟩
/-- three cells are written in a box -/
theorem box3 {W0 W : World} {B g : Nat} {T : TypeId} {p q r x y z : Value} (hf : Flds W g T [p, q, r]) (hg : B ≤ g) (h0 : B ≤ W0.heap.size) (hb : Below B W0 W) :
    Flds (((W.setCell ⟨g, 0, none⟩ x).setCell ⟨g, 1, none⟩ y).setCell ⟨g, 2, none⟩ z) g T [x, y, z] ∧ Below B W0 (((W.setCell ⟨g, 0, none⟩ x).setCell ⟨g, 1, none⟩ y).setCell ⟨g, 2, none⟩ z) :=
  ⟨((hf.set 0 x).set 1 y).set 2 z, hb.grown (grown_two' (grown_two' (grown_setCell _ ⟨g, 0, none⟩ _) (grown_setCell _ ⟨g, 1, none⟩ _)) (grown_setCell _ ⟨g, 2, none⟩ _)) (Nat.le_trans h0 hb.size) (fun j e => by cases e; exact hg)⟩
end Go.Proofs.Ythhcjmikkiiahaa.cat
