/- Parts of a slice, as rows: its first cells, its last ones. No program. -/
import Derived.Test.YtjnlimahcodomaaOwn
namespace Go.Proofs.Ytjnlimahcodomaa
set_option linter.unusedVariables false
open Go.RowKit
theorem sub_take {w : World} {a : Option Addr} {n c size : Nat} {xs : List Value} (h : Row w (.slice a n c) size n xs) (m : Nat) (hm : m ≤ n) (c' : Nat) : Row w (.slice a m c') size m (xs.take (m * size)) := by
  have hl := h.len
  obtain ⟨a', cap, ea, hxl, hr⟩ := h
  simp only [Value.slice.injEq] at ea
  obtain ⟨rfl, -, rfl⟩ := ea
  have hms : m * size ≤ n * size := Nat.mul_le_mul_right _ hm
  refine ⟨_, _, rfl, by rw [List.length_take]; omega, ?_⟩
  rcases hr with h0 | ⟨b, off, rfl, hc⟩
  · exact .inl (by omega)
  · exact .inr ⟨b, off, rfl, fun j hj => by rw [hc j (by omega), List.getElem?_take_of_lt (by omega)]⟩
theorem grown_two {a b c : World} {row : Option Nat} (h : a.grownBy b row) (h' : b.grownBy c row) : a.grownBy c row :=
  ⟨h'.os.trans h.os, h'.tape.trans h.tape, h'.output.trans h.output, Nat.le_trans h.size h'.size, fun k hk hn => (h'.block k (Nat.lt_of_lt_of_le hk h.size) hn).trans (h.block k hk hn)⟩
/-- a cell of a row is set -/
theorem owns_put {w : World} {B : Nat} {e : TypeId} {q m c size : Nat} {xs : List Value} (h : w.ownsRow B e size (.slice (some ⟨q, 0, none⟩) m c) m xs) {i : Nat} (hi : i < m * size) (u : Value) : (w.setCell ⟨q, i, none⟩ u).ownsRow B e size (.slice (some ⟨q, 0, none⟩) m c) m (xs.set i u) := by
  obtain ⟨hl, ⟨e0, -⟩ | ⟨g, cap, cur, e0, hB, hg, hc, hcm, hcs, ht⟩⟩ := h
  · cases e0
  · simp only [Value.slice.injEq, Option.some.injEq, Addr.mk.injEq, and_true, true_and] at e0
    obtain ⟨rfl, rfl⟩ := e0
    have hlt : q < w.heap.size := (Array.getElem?_eq_some_iff.1 hg).1
    refine ⟨by rw [List.length_set]; exact hl, .inr ⟨q, c, cur.setIfInBounds i u, rfl, hB, ?_, hc, hcm, by simpa using hcs, ?_⟩⟩
    · show (w.setCell ⟨q, i, none⟩ u).heap[q]? = _
      simp [World.setCell, Array.getElem?_modify, hg]
    · rw [Array.toList_setIfInBounds, List.take_set, ht]
end Go.Proofs.Ytjnlimahcodomaa
