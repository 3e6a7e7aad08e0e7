/- A value of its bytes in a row's key, walked. -/
import Derived.Test.YtmbafcfoboknkaaRowE
import Derived.Test.YtmbafcfoboknkaaRowP
import Derived.Test.YtmbafcfoboknkaaValueH
import Derived.Deep.RegionHeld3
namespace Go.Proofs.Ytmbafcfoboknkaa.val
set_option linter.unusedVariables false
open Go.RowKit
attribute [local go_sem] ag.upon_value ag.upon_skip ag.upon_enter ags.upon_value ags.upon_skip ags.upon_enter ags.uponS_skip
attribute [local go_sem] Oper.semAt_some
/-- the region's world: only the result's block has turned -/
def SD (X : World) (g : Nat) (W : World) : Prop := Only (fun k => k = g) X W ∧ ∃ x y z, Flds W g TV [x, y, z]
theorem SD.cells {X W : World} {g g4 : Nat} {k n : Int} {t : ByteArray} (h : SD X g W) (hf : Flds X g4 TV [.int .i64 k, .int .i64 n, .string t]) (hne : g4 ≠ g) : W.cell? ⟨g4, 0, none⟩ = some (.int .i64 k) ∧ W.cell? ⟨g4, 1, none⟩ = some (.int .i64 n) ∧ W.cell? ⟨g4, 2, none⟩ = some (.string t) :=
  ⟨cell_only (hf.cell 0) h.1 hne, cell_only (hf.cell 1) h.1 hne, cell_only (hf.cell 2) h.1 hne⟩
end Go.Proofs.Ytmbafcfoboknkaa.val
