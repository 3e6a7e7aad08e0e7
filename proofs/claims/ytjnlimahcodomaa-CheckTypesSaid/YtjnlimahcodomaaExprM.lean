/- Which records have the fields of their kind, and no others; walked. -/
import Derived.Test.YtjnlimahcodomaaExprLN
import Derived.BigRegion
namespace Go.Proofs.Ytjnlimahcodomaa.ex
set_option linter.unusedVariables false
open Go.RowKit
open val (V null veq6 gB ag3)
open lx (goodL)
attribute [local go_sem] Oper.semAt_some
theorem of_fe {W : World} {g : Nat} {T : TypeId} {a0 a1 a2 a3 a4 a5 a6 a7 : Value} (h : Flds W g T [a0, a1, a2, a3, a4, a5, a6, a7]) : W.cell? ⟨g, 0, none⟩ = some a0 ∧ W.cell? ⟨g, 1, none⟩ = some a1 ∧ W.cell? ⟨g, 2, none⟩ = some a2 ∧ W.cell? ⟨g, 3, none⟩ = some a3 ∧ W.cell? ⟨g, 4, none⟩ = some a4 ∧ W.cell? ⟨g, 5, none⟩ = some a5 ∧ W.cell? ⟨g, 6, none⟩ = some a6 ∧ W.cell? ⟨g, 7, none⟩ = some a7 ∧ g < W.heap.size :=
  ⟨h.cell 0, h.cell 1, h.cell 2, h.cell 3, h.cell 4, h.cell 5, h.cell 6, h.cell 7, h.lt⟩
theorem empty_iff (b : ByteArray) : pB (b = ByteArray.empty) = b.toList.isEmpty := by
  rw [Bool.eq_iff_iff, pB_iff, List.isEmpty_iff, Lib.toList_data, Array.toList_eq_nil_iff]
  exact ⟨fun h => by rw [h]; rfl, fun h => ByteArray.ext h⟩
end Go.Proofs.Ytjnlimahcodomaa.ex
