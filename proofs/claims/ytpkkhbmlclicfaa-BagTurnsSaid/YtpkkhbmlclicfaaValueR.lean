/- The document's operators on values, walked. -/
import Derived.Test.YtpkkhbmlclicfaaValueF
import Derived.RegionTactic
import Derived.BigRegion
namespace Go.Proofs.Ytpkkhbmlclicfaa.val
set_option linter.unusedVariables false
open Go.RowKit
theorem run_eqR (k n : Int) (s : ByteArray) (k' n' : Int) (s' : ByteArray) (w : World) : (binOp .eql 86 (ag3 k n s) (ag3 k' n' s')).run Try.prog w = .ok (.bool (veq6 k n s k' n' s')) w := by
  rw [run_eql_struct]
  go_simp
  unfold veq6
  by_cases h1 : k = k' <;> by_cases h2 : n = n' <;> by_cases h3 : s.toList = s'.toList <;> simp [h1, h2, h3]
theorem run_neR (k n : Int) (s : ByteArray) (k' n' : Int) (s' : ByteArray) (w : World) : (binOp .neq 86 (ag3 k n s) (ag3 k' n' s')).run Try.prog w = .ok (.bool (!veq6 k n s k' n' s')) w := by
  rw [run_neq_struct]
  go_simp
  unfold veq6
  by_cases h1 : k = k' <;> by_cases h2 : n = n' <;> by_cases h3 : s.toList = s'.toList <;> simp [h1, h2, h3]
attribute [local go_sem high] run_eqR run_neR
end Go.Proofs.Ytpkkhbmlclicfaa.val
