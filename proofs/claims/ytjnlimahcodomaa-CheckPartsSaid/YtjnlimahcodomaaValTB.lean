/- What the laws on values are told: two values that may be, the same. -/
import Derived.Test.YtjnlimahcodomaaValueCF
import Derived.RegionTactic
import Derived.BigRegion
namespace Go.Proofs.Ytjnlimahcodomaa.val
set_option linter.unusedVariables false
open Go.RowKit
attribute [local go_sem high] run_eqlV run_neqV
theorem and_one (n : Int) : bits .and .i64 n 1 = 0 ∨ bits .and .i64 n 1 = 1 := by
  have h : (BitVec.ofInt 64 n &&& BitVec.ofInt 64 1).toNat = 0 ∨ (BitVec.ofInt 64 n &&& BitVec.ofInt 64 1).toNat = 1 := by
    rw [BitVec.toNat_and, show (BitVec.ofInt 64 1).toNat = 1 from rfl, Nat.and_one_is_mod]
    omega
  show IntKind.i64.wrap ((BitVec.ofInt 64 n &&& BitVec.ofInt 64 1).toNat : Int) = 0 ∨ IntKind.i64.wrap ((BitVec.ofInt 64 n &&& BitVec.ofInt 64 1).toNat : Int) = 1
  rcases h with h | h <;> rw [h]
  · left; rfl
  · right; rfl
end Go.Proofs.Ytjnlimahcodomaa.val
/- The document's order of values, walked. -/
namespace Go.Proofs.Ytjnlimahcodomaa.val
set_option linter.unusedVariables false
open Go.RowKit
theorem toList_data (s : ByteArray) : s.toList = s.data.toList := ByteArray.toList_eq s
end Go.Proofs.Ytjnlimahcodomaa.val
