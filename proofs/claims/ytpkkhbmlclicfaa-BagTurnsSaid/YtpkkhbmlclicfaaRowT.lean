/- What the laws on rows ask first, walked. -/
import Derived.Test.YtpkkhbmlclicfaaRowC
import Derived.Test.YtpkkhbmlclicfaaValueJC
import Derived.Lib.ItoaLen
import Derived.Lib.Join
namespace Go.Proofs.Ytpkkhbmlclicfaa.val
set_option linter.unusedVariables false
open Go.RowKit
attribute [local go_sem high] run_eqlV run_neqV
attribute [local go_sem] ag.upon_value ag.upon_skip ag.upon_enter
attribute [local go_sem] Oper.semAt_some
abbrev two : List V := [ofN 1, null]
end Go.Proofs.Ytpkkhbmlclicfaa.val
