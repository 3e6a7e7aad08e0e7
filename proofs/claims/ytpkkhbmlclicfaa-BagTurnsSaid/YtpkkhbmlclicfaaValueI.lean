/- Which values may be, by both texts; other signs. -/
import Derived.Test.YtpkkhbmlclicfaaValueH
import Derived.Deep.RegionHeld3
namespace Go.Proofs.Ytpkkhbmlclicfaa.val
set_option linter.unusedVariables false
open Go.RowKit
attribute [local go_sem high] run_eqlV run_neqV
abbrev nob : ByteArray := ⟨#[]⟩
theorem ofI_lit (n : Int) (W : World) : Calls Try.prog 22 #[.int .i64 n] W fun e w' => e = .returned (ag3 2 n nob) ∧ Below W.heap.size W w' := ofInt_any n W
end Go.Proofs.Ytpkkhbmlclicfaa.val
