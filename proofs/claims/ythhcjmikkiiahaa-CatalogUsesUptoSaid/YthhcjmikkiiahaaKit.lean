/- Small laws of no program: a byte block made by the call turned into a string; a slice that is read as a row of cells. No conditions beyond those that each statement names. -/
import Derived.WalkKit
import Derived.WalkSpells
import Derived.Laws.BytesArg
import Derived.Lib.Strings
import Derived.Lib.Hide
import Derived.Below
import Derived.Lib.Builder
import Derived.Laws.BitsAllLaws
namespace Go.Proofs.Ythhcjmikkiiahaa
set_option linter.unusedVariables false
open Go.RowKit
theorem cells_new (w : World) (vs : List Value) (T : TypeId) (i : Nat) : (w.alloc (.cells vs.toArray T)).cell? ⟨w.heap.size, i, none⟩ = vs[i]? := by
  have h : (w.alloc (.cells vs.toArray T)).heap[w.heap.size]? = some (.cells vs.toArray T (0, 0)) := by
    show (w.heap.push _)[w.heap.size]? = _
    simp
  rw [Lib.cell_of_heap h]; simp
theorem take_snoc (s : ByteArray) (k : Nat) (h : k < s.size) : s.data.toList.take (k + 1) = s.data.toList.take k ++ [s[k]] := by
  rw [List.take_succ_eq_append_getElem (by simpa using h)]; rfl
theorem take_all (s : ByteArray) (k : Nat) (h : s.size ≤ k) : s.data.toList.take k = s.data.toList :=
  List.take_of_length_le (by simpa using h)
theorem ret_i64 {a b : Int} (h : a = b) : Ending.returned (.int .i64 a) = .returned (.int .i64 b) := by rw [h]
/-- A slice value that reads as the cells xs, so many to an element. -/
def Row (w : World) (v : Value) (size n : Nat) (xs : List Value) : Prop :=
  ∃ a cap, v = .slice a n cap ∧ xs.length = n * size ∧ (n = 0 ∨ ∃ b off, a = some ⟨b, off, none⟩ ∧ ∀ j, j < n * size → w.cell? ⟨b, off + j, none⟩ = xs[j]?)
theorem Row.later {w w' : World} {v : Value} {size n : Nat} {xs : List Value} (h : Row w v size n xs) (hb : Below w.heap.size w w') : Row w' v size n xs := by
  obtain ⟨a, cap, hv, hl, h⟩ := h
  refine ⟨a, cap, hv, hl, h.imp id ?_⟩
  rintro ⟨b, off, ha, hc⟩
  refine ⟨b, off, ha, fun j hj => ?_⟩
  have h1 := hc j hj
  rw [List.getElem?_eq_getElem (by omega)] at h1 ⊢
  exact cell_later hb h1
theorem Row.of_owns {w : World} {base : Nat} {e : TypeId} {size n : Nat} {v : Value} {xs : List Value} (h : w.ownsRow base e size v n xs) : Row w v size n xs := by
  have hl := h.1
  rcases h.2 with ⟨rfl, rfl⟩ | ⟨g, cap, cur, rfl, _⟩
  · exact ⟨none, 0, rfl, hl, .inl rfl⟩
  · exact ⟨_, cap, rfl, hl, .inr ⟨g, 0, rfl, fun j hj => by simpa using h.cellAt j hj⟩⟩
theorem Row.pos {w : World} {v : Value} {size n : Nat} {xs : List Value} (h : Row w v size n xs) (hn : 0 < n) : ∃ b off cap, v = .slice (some ⟨b, off, none⟩) n cap ∧ ∀ j, j < n * size → w.cell? ⟨b, off + j, none⟩ = xs[j]? := by
  obtain ⟨a, cap, hv, _, h⟩ := h
  rcases h with h | ⟨b, off, rfl, hc⟩
  · omega
  · exact ⟨b, off, cap, hv, hc⟩
theorem Row.len {w : World} {v : Value} {size n : Nat} {xs : List Value} (h : Row w v size n xs) : xs.length = n * size := h.choose_spec.choose_spec.2.1
theorem owns_below {w w' : World} {B : Nat} {e : TypeId} {k : Nat} {v : Value} {n : Nat} {xs : List Value} (h : w.ownsRow B e k v n xs) (hb : Below w.heap.size w w') : w'.ownsRow B e k v n xs := by
  refine h.kept (row := none) ⟨hb.os, hb.tape, hb.output, hb.size, fun j hj _ => hb.block j hj⟩ ?_
  cases v.ownBlock
  · exact .inl rfl
  · exact .inr (by simp)
end Go.Proofs.Ythhcjmikkiiahaa
