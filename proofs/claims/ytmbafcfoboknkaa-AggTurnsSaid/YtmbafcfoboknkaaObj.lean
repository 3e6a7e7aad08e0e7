/- Structs that a call has made, with slices of their own in their fields: laws of no program. -/
import Derived.Test.YtmbafcfoboknkaaKit
import Derived.WalkSmall
namespace Go.Proofs.Ytmbafcfoboknkaa
set_option linter.unusedVariables false
open Go.RowKit
/-- Block b is a struct of type T with these fields (a cell each). -/
def Flds (w : World) (b : Nat) (T : TypeId) (fs : List Value) : Prop := w.heap[b]? = some (.cells fs.toArray T (0, 0))
theorem Flds.lt {w : World} {b : Nat} {T : TypeId} {fs : List Value} (h : Flds w b T fs) : b < w.heap.size := (Array.getElem?_eq_some_iff.1 h).1
theorem Flds.cell {w : World} {b : Nat} {T : TypeId} {fs : List Value} (h : Flds w b T fs) (i : Nat) : w.cell? ⟨b, i, none⟩ = fs[i]? := by
  rw [Lib.cell_of_heap h]; simp
theorem Flds.frozen {w : World} {b : Nat} {T : TypeId} {fs : List Value} (h : Flds w b T fs) (i : Nat) : w.frozen? ⟨b, i, none⟩ = false := Lib.frozen_of_heap h i
theorem Flds.later {w w' : World} {b : Nat} {T : TypeId} {fs : List Value} (h : Flds w b T fs) (hb : Below w.heap.size w w') : Flds w' b T fs := (hb.block b h.lt).trans h
theorem Flds.new (w : World) (T : TypeId) (fs : List Value) : Flds (w.alloc (.cells fs.toArray T)) w.heap.size T fs := by
  show (w.heap.push _)[w.heap.size]? = _
  simp
theorem Flds.drew {w : World} {b : Nat} {T : TypeId} {fs : List Value} (h : Flds w b T fs) (n : Nat) : Flds (w.drewN n) b T fs := h
theorem Flds.grown {w w' : World} {row : Option Nat} {b : Nat} {T : TypeId} {fs : List Value} (h : Flds w b T fs) (hg : w.grownBy w' row) (hne : some b ≠ row) : Flds w' b T fs := (hg.block b h.lt hne).trans h
theorem Flds.alloc {w : World} {b : Nat} {T : TypeId} {fs : List Value} (h : Flds w b T fs) (o : Go.Obj) : Flds (w.alloc o) b T fs := h.grown (World.grownBy_alloc w o none) (by simp)
theorem Flds.set {w : World} {b : Nat} {T : TypeId} {fs : List Value} (h : Flds w b T fs) (i : Nat) (u : Value) : Flds (w.setCell ⟨b, i, none⟩ u) b T (fs.set i u) := by
  have h' : w.heap[b]? = some (.cells fs.toArray T (0, 0)) := h
  show (w.setCell ⟨b, i, none⟩ u).heap[b]? = _
  simp [World.setCell, Array.getElem?_modify, h']
theorem grown_setCell (w : World) (a : Addr) (u : Value) : w.grownBy (w.setCell a u) (some a.block) :=
  ⟨rfl, rfl, rfl, by simp [World.setCell], fun k _ hk => Below.heap_setCell _ _ _ _ (fun e => hk (by simp [e]))⟩
theorem Flds.other {w : World} {b : Nat} {T : TypeId} {fs : List Value} (h : Flds w b T fs) (a : Addr) (u : Value) (hne : b ≠ a.block) : Flds (w.setCell a u) b T fs :=
  h.grown (grown_setCell w a u) (by simp; exact hne)
theorem owns_setCell {w : World} {B : Nat} {e : TypeId} {k : Nat} {v : Value} {n : Nat} {xs : List Value} (h : w.ownsRow B e k v n xs) (a : Addr) (u : Value) (hne : v.ownBlock ≠ some a.block) : (w.setCell a u).ownsRow B e k v n xs :=
  h.kept (grown_setCell w a u) (.inr hne)
/-- A row and a struct of another type lie apart. -/
theorem owns_ne_obj {w : World} {B : Nat} {e T : TypeId} {k : Nat} {v : Value} {n : Nat} {xs : List Value} {b : Nat} {fs : List Value} (h : w.ownsRow B e k v n xs) (ho : Flds w b T fs) (hT : T ≠ e) : v.ownBlock ≠ some b := by
  have ho' : w.heap[b]? = some (.cells fs.toArray T (0, 0)) := ho
  rcases h.2 with ⟨rfl, _⟩ | ⟨g, cap, cur, rfl, _, hg, _⟩
  · simp [Value.ownBlock]
  · intro he
    simp only [Value.ownBlock, Option.some.injEq] at he
    subst he
    rw [hg] at ho'
    simp only [Option.some.injEq, Obj.cells.injEq] at ho'
    exact hT ho'.2.1.symm
/-- Two rows of unlike elements lie apart. -/
theorem owns_ne_owns {w : World} {B B' : Nat} {e e' : TypeId} {k k' : Nat} {v v' : Value} {n n' : Nat} {xs xs' : List Value} (h : w.ownsRow B e k v n xs) (h' : w.ownsRow B' e' k' v' n' xs') (he : e ≠ e') : v.ownBlock = none ∨ v.ownBlock ≠ v'.ownBlock := by
  rcases h.2 with ⟨rfl, _⟩ | ⟨g, cap, cur, rfl, _, hg, _⟩
  · exact .inl rfl
  · right
    rcases h'.2 with ⟨rfl, _⟩ | ⟨g', cap', cur', rfl, _, hg', _⟩
    · simp [Value.ownBlock]
    · intro hb
      simp only [Value.ownBlock, Option.some.injEq] at hb
      subst hb
      rw [hg] at hg'
      simp only [Option.some.injEq, Obj.cells.injEq] at hg'
      exact he hg'.2.1
theorem owns_cellAt {w : World} {B : Nat} {e : TypeId} {k : Nat} {a : Option Addr} {n cap : Nat} {xs : List Value} (h : w.ownsRow B e k (.slice a n cap) n xs) (hn : 0 < n) : ∃ g, a = some ⟨g, 0, none⟩ ∧ B ≤ g ∧ g < w.heap.size ∧ (∀ j, j < n * k → w.cell? ⟨g, j, none⟩ = xs[j]?) ∧ (∀ j, w.frozen? ⟨g, j, none⟩ = false) := by
  have h0 := h
  rcases h.2 with ⟨he, h1⟩ | ⟨g, cap', cur, he, _⟩
  · omega
  · simp only [Value.slice.injEq] at he
    obtain ⟨rfl, -, rfl⟩ := he
    have hl := h0.lt g rfl
    exact ⟨g, rfl, hl.1, hl.2, h0.cellAt, h0.frozenAt⟩
end Go.Proofs.Ytmbafcfoboknkaa
