/- The row of a key, walked. -/
import Derived.Test.YtpkkhbmlclicfaaRowK
namespace Go.Proofs.Ytpkkhbmlclicfaa.val
set_option linter.unusedVariables false
open Go.RowKit
theorem infoV : (Try.prog.info? 57).map (fun i => (i.zero, i.size, i.bytes)) = some (some (ag3 0 0 ⟨#[]⟩), 3, 32) := by kernel_rfl
end Go.Proofs.Ytpkkhbmlclicfaa.val
