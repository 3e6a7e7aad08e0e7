/- Arguments that came in, opened as rows of cells: a slice of texts. No program, no condition. -/
import Derived.Test.YtjnlimahcodomaaKit
import Derived.SliceStrings
import Derived.ProofKit
namespace Go.Proofs.Ytjnlimahcodomaa
set_option linter.unusedVariables false
open Go.RowKit Go.ChangeShapes
theorem addr_add (b off j : Nat) : (⟨b, off, none⟩ : Addr).add j = ⟨b, off + j, none⟩ := by unfold Addr.add; split <;> simp_all
end Go.Proofs.Ytjnlimahcodomaa
