/- A text shown; the first test of the laws on values. -/
import Derived.Test.YtpkkhbmlclicfaaValueD
import Derived.Test.YtpkkhbmlclicfaaShelf
import Derived.Lib.Strings
import Derived.Lib.SplitLaws
import Derived.Lib.Replace
namespace Go.Proofs.Ytpkkhbmlclicfaa.val
set_option linter.unusedVariables false
open Go.RowKit
attribute [local go_sem high] run_eqlV run_neqV
attribute [local go_sem] ag.upon_value ag.upon_skip ag.upon_enter
attribute [local go_sem] Oper.semAt_some
abbrev q1 : ByteArray := ⟨#[39]⟩
abbrev q2 : ByteArray := ⟨#[39, 39]⟩
/-- what stands between the quotes -/
def inner (s : ByteArray) : ByteArray := ⟨(Lib.replaceAll s.data.toList [39] [39, 39]).toArray⟩
def quote (s : ByteArray) : ByteArray := q1 ++ inner s ++ q1
abbrev its : ByteArray := ⟨#[105, 116, 39, 115]⟩
end Go.Proofs.Ytpkkhbmlclicfaa.val
