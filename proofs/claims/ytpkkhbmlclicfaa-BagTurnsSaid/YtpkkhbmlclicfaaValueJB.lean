/- How values are shown, by both texts. -/
import Derived.Test.YtpkkhbmlclicfaaValueJ
import Derived.Sort.Grow
namespace Go.Proofs.Ytpkkhbmlclicfaa.val
set_option linter.unusedVariables false
open Go.RowKit
attribute [local go_sem high] run_eqlV run_neqV
theorem quote_dup (s : ByteArray) : quote s = ⟨(39 :: (dup s.data.toList ++ [39])).toArray⟩ := by
  unfold quote inner
  rw [replaceAll_dup]
  apply ByteArray.ext
  simp [q1]
end Go.Proofs.Ytpkkhbmlclicfaa.val
