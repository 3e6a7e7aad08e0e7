/- Arguments that came in, opened as rows of cells: a slice of texts. No program, no condition. -/
import Derived.Test.YtmbafcfoboknkaaKit
import Derived.SliceStrings
import Derived.ProofKit
namespace Go.Proofs.Ytmbafcfoboknkaa
set_option linter.unusedVariables false
open Go.RowKit Go.ChangeShapes
theorem addr_add (b off j : Nat) : (⟨b, off, none⟩ : Addr).add j = ⟨b, off + j, none⟩ := by unfold Addr.add; split <;> simp_all
theorem row_of_strings {H : Type} {enc : TypeId × Value → H} {P : Program} {w : World} {base : Nat} {spare : Nat → Bool} {held : Bool} {t e : TypeId} {fuel : Nat} {a : Option Addr} {n cap : Nat} {x : DataW H × List MemPlace}
    (ht : P.underlying t = some (.slice e)) (he : P.underlying e = some .string) (hc : P.cellsOf e = 1)
    (h : DataW.trod enc P w base spare held fuel t (Value.slice a n cap).cells.toList = some x) :
    ∃ ss : List ByteArray, ss.length = n ∧ n ≤ cap ∧ n ≤ maxLen ∧ Row w (.slice a n cap) 1 n (ss.map Value.string) ∧ (∀ s ∈ ss, s.size ≤ maxLen) ∧ ((x.1 = .nil ∧ n = 0) ∨ ∃ sp, x.1 = .slice (strs ss) sp) := by
  rcases open_strings ht he hc h with ⟨hcs, rfl⟩ | ⟨a', l', c', ss, hcs, _, hl, hm, hz, rfl, hcell, hws⟩
  · simp [Value.cells] at hcs
    obtain ⟨rfl, rfl, rfl⟩ := hcs
    exact ⟨[], rfl, Nat.le_refl _, by simp, ⟨_, _, rfl, rfl, .inl rfl⟩, by simp, .inl ⟨rfl, rfl⟩⟩
  · simp [Value.cells] at hcs
    obtain ⟨rfl, rfl, rfl⟩ := hcs
    have hln : n ≤ ss.length := by rw [hz]; split <;> omega
    refine ⟨ss.take n, by rw [List.length_take]; omega, hl, by omega, ⟨_, _, rfl, by simp; omega, ?_⟩, fun s hs => hws s (List.mem_of_mem_take hs), .inr ⟨_, rfl⟩⟩
    by_cases h0 : n = 0
    · exact .inl h0
    · obtain ⟨b, off, spot⟩ := a'
      have hc0 := hcell 0 (by omega)
      have hspot : spot = none := by simpa [Addr.add] using World.cell?_spot hc0
      subst hspot
      refine .inr ⟨b, off, rfl, fun j hj => ?_⟩
      have hj' : j < ss.length := by omega
      rw [← addr_add, hcell j hj', List.getElem?_map, List.getElem?_take_of_lt (by omega), List.getElem?_eq_getElem hj']
      simp [List.getD, List.getElem?_eq_getElem hj']
end Go.Proofs.Ytmbafcfoboknkaa
