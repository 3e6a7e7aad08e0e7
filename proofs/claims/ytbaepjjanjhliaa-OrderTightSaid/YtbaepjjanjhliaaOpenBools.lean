/- Arguments that came in, opened as rows of cells: a slice of bools. No program, no condition. -/
import Derived.Test.YtbaepjjanjhliaaKit
import Derived.ProofKit
import Derived.Deep.Grids
namespace Go.Proofs.Ytbaepjjanjhliaa
set_option linter.unusedVariables false
open Go.RowKit Go.ChangeShapes Go.WideShapes Go.Deep

theorem addr_addB (b off j : Nat) : (⟨b, off, none⟩ : Addr).add j = ⟨b, off + j, none⟩ := by unfold Addr.add; split <;> simp_all
theorem row_of_bools {H : Type} {enc : TypeId × Value → H} {P : Program} {w : World} {base : Nat} {held : Bool} {t e : TypeId} {fuel : Nat} {a : Option Addr} {n cap : Nat} {x : DataW H × List MemPlace}
    (ht : P.underlying t = some (.slice e)) (he : P.underlying e = some .bool) (hc : P.cellsOf e = 1)
    (h : DataW.trod enc P w base (fun _ => true) held fuel t (Value.slice a n cap).cells.toList = some x) :
    ∃ ls : List Bool, ls.length = n ∧ n ≤ cap ∧ cap ≤ maxLen ∧ Row w (.slice a n cap) 1 n (ls.map Value.bool) := by
  rcases open_bools ht he hc h with ⟨hcs, rfl⟩ | ⟨a', l', c', B, hcs, _, hl, hm, rfl, hcell⟩
  · simp [Value.cells] at hcs
    obtain ⟨rfl, rfl, rfl⟩ := hcs
    exact ⟨[], rfl, Nat.le_refl _, by simp, ⟨_, _, rfl, rfl, .inl rfl⟩⟩
  · simp [Value.cells] at hcs
    obtain ⟨rfl, rfl, rfl⟩ := hcs
    refine ⟨(List.range n).map B, by simp, hl, hm, ⟨_, _, rfl, by simp, ?_⟩⟩
    by_cases h0 : n = 0
    · exact .inl h0
    · obtain ⟨b, off, spot⟩ := a'
      have hc0 := hcell 0 (by omega)
      have hspot : spot = none := by simpa [Addr.add] using World.cell?_spot hc0
      subst hspot
      refine .inr ⟨b, off, rfl, fun j hj => ?_⟩
      rw [← addr_addB, hcell j (by omega)]
      simp [show j < n by omega]
end Go.Proofs.Ytbaepjjanjhliaa
