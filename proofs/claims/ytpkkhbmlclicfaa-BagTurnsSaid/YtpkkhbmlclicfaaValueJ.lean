/- Which values may be, by the document's text; how they are shown, by both. -/
import Derived.Test.YtpkkhbmlclicfaaValueI
namespace Go.Proofs.Ytpkkhbmlclicfaa.val
set_option linter.unusedVariables false
open Go.RowKit
attribute [local go_sem high] run_eqlV run_neqV
/-- may a value be? -/
def gB (k n : Int) (s : ByteArray) : Bool := if k = 0 then n == 0 && s.toList.isEmpty else if k = 1 then (n == 0 || n == 1) && s.toList.isEmpty else if k = 2 then s.toList.isEmpty else if k = 3 then n == 0 && decide ((s.size : Int) ≤ 64) else false
end Go.Proofs.Ytpkkhbmlclicfaa.val
