/- Parts of a slice, as rows: its first cells, its last ones. No program. -/
import Derived.Test.YtmbafcfoboknkaaOwn
namespace Go.Proofs.Ytmbafcfoboknkaa
set_option linter.unusedVariables false
open Go.RowKit
theorem sub_take {w : World} {a : Option Addr} {n c size : Nat} {xs : List Value} (h : Row w (.slice a n c) size n xs) (m : Nat) (hm : m ≤ n) (c' : Nat) : Row w (.slice a m c') size m (xs.take (m * size)) := by
  have hl := h.len
  obtain ⟨a', cap, ea, hxl, hr⟩ := h
  simp only [Value.slice.injEq] at ea
  obtain ⟨rfl, -, rfl⟩ := ea
  have hms : m * size ≤ n * size := Nat.mul_le_mul_right _ hm
  refine ⟨_, _, rfl, by rw [List.length_take]; omega, ?_⟩
  rcases hr with h0 | ⟨b, off, rfl, hc⟩
  · exact .inl (by omega)
  · exact .inr ⟨b, off, rfl, fun j hj => by rw [hc j (by omega), List.getElem?_take_of_lt (by omega)]⟩
theorem sub_drop {w : World} {b off n c size : Nat} {xs : List Value} (h : Row w (.slice (some ⟨b, off, none⟩) n c) size n xs) (m : Nat) (hm : m ≤ n) (c' : Nat) (A : Option Addr) (hA : m < n → A = some ⟨b, off + m * size, none⟩) : Row w (.slice A (n - m) c') size (n - m) (xs.drop (m * size)) := by
  have hl := h.len
  obtain ⟨a', cap, ea, hxl, hr⟩ := h
  simp only [Value.slice.injEq] at ea
  obtain ⟨rfl, -, rfl⟩ := ea
  have hms : m * size + (n - m) * size = n * size := by rw [← Nat.add_mul]; congr 1; omega
  refine ⟨_, _, rfl, by rw [List.length_drop]; omega, ?_⟩
  by_cases h0 : n - m = 0
  · exact .inl h0
  · refine .inr ⟨b, off + m * size, hA (by omega), fun j hj => ?_⟩
    rcases hr with h0 | ⟨b', off', e, hc⟩
    · omega
    · cases e
      rw [List.getElem?_drop, ← hc (m * size + j) (by omega), Nat.add_assoc]
theorem one_map {α : Type} (f : α → Value) (hf : ∀ x, (f x).oneCell' = true) (l : List α) : ∀ u ∈ l.map f, u.oneCell' = true := by
  intro u hu
  obtain ⟨x, -, rfl⟩ := List.mem_map.1 hu
  exact hf x
theorem one_part {xs ys : List Value} (h : ∀ u ∈ xs, u.oneCell' = true) (hs : ∀ u ∈ ys, u ∈ xs) : ∀ u ∈ ys, u.oneCell' = true := fun u hu => h u (hs u hu)
theorem grown_two {a b c : World} {row : Option Nat} (h : a.grownBy b row) (h' : b.grownBy c row) : a.grownBy c row :=
  ⟨h'.os.trans h.os, h'.tape.trans h.tape, h'.output.trans h.output, Nat.le_trans h.size h'.size, fun k hk hn => (h'.block k (Nat.lt_of_lt_of_le hk h.size) hn).trans (h.block k hk hn)⟩
/-- a cell of a row is set -/
theorem owns_put {w : World} {B : Nat} {e : TypeId} {q m c size : Nat} {xs : List Value} (h : w.ownsRow B e size (.slice (some ⟨q, 0, none⟩) m c) m xs) {i : Nat} (hi : i < m * size) (u : Value) : (w.setCell ⟨q, i, none⟩ u).ownsRow B e size (.slice (some ⟨q, 0, none⟩) m c) m (xs.set i u) := by
  obtain ⟨hl, ⟨e0, -⟩ | ⟨g, cap, cur, e0, hB, hg, hc, hcm, hcs, ht⟩⟩ := h
  · cases e0
  · simp only [Value.slice.injEq, Option.some.injEq, Addr.mk.injEq, and_true, true_and] at e0
    obtain ⟨rfl, rfl⟩ := e0
    have hlt : q < w.heap.size := (Array.getElem?_eq_some_iff.1 hg).1
    refine ⟨by rw [List.length_set]; exact hl, .inr ⟨q, c, cur.setIfInBounds i u, rfl, hB, ?_, hc, hcm, by simpa using hcs, ?_⟩⟩
    · show (w.setCell ⟨q, i, none⟩ u).heap[q]? = _
      simp [World.setCell, Array.getElem?_modify, hg]
    · rw [Array.toList_setIfInBounds, List.take_set, ht]
end Go.Proofs.Ytmbafcfoboknkaa
