/- A value of its bytes in a row's key, walked. -/
import Derived.Test.YtpkkhbmlclicfaaMA
import Derived.Test.YtpkkhbmlclicfaaValueJ
import Derived.Test.YtpkkhbmlclicfaaAgS
import Derived.Test.YtpkkhbmlclicfaaOnly
namespace Go.Proofs.Ytpkkhbmlclicfaa.val
set_option linter.unusedVariables false
open Go.RowKit
attribute [local go_sem] ag.upon_value ag.upon_skip ag.upon_enter ags.upon_value ags.upon_skip ags.upon_enter ags.uponS_skip
attribute [local go_sem] Oper.semAt_some
/-- the region's world: only the result's block has turned -/
def SD (X : World) (g : Nat) (W : World) : Prop := Only (fun k => k = g) X W ∧ ∃ x y z, Flds W g TV [x, y, z]
theorem SD.step {X : World} {g : Nat} {W W' : World} (h : SD X g W) (hb : Below W.heap.size W W') : SD X g W' := by
  obtain ⟨h1, x, y, z, h2⟩ := h
  exact ⟨h1.trans (Only.of_below (own := fun _ => False) hb) (fun _ _ h => h.elim), x, y, z, h2.later hb⟩
theorem SD.cells {X W : World} {g g4 : Nat} {k n : Int} {t : ByteArray} (h : SD X g W) (hf : Flds X g4 TV [.int .i64 k, .int .i64 n, .string t]) (hne : g4 ≠ g) : W.cell? ⟨g4, 0, none⟩ = some (.int .i64 k) ∧ W.cell? ⟨g4, 1, none⟩ = some (.int .i64 n) ∧ W.cell? ⟨g4, 2, none⟩ = some (.string t) :=
  ⟨cell_only (hf.cell 0) h.1 hne, cell_only (hf.cell 1) h.1 hne, cell_only (hf.cell 2) h.1 hne⟩
end Go.Proofs.Ytpkkhbmlclicfaa.val
