/- Numerals and quotes as plain mathematics. No program. -/
import Derived.Test.YtmbafcfoboknkaaValueP
import Derived.Lib.Replace
import Derived.Lib.ReplaceLaws
import Derived.Lib.CountLaws
import Derived.Lib.ItoaNum
namespace Go.Proofs.Ytmbafcfoboknkaa.val
set_option linter.unusedVariables false
/-- one digit -/
def dig (u : Nat) : UInt8 := UInt8.ofNat (48 + u % 10)
theorem dec_last {u : Nat} (h : u / 10 = 0) : Lib.decDigits u = [dig u] := by
  have hu : u < 10 := by omega
  rw [Lib.decDigits, dif_pos hu]; unfold dig; rw [Nat.mod_eq_of_lt hu]
/-- ahead of a round: what is left, what is written -/
def Dig (n u : Nat) (out : List UInt8) : Prop := Lib.decDigits n = Lib.decDigits u ++ out
theorem Dig.done {n u : Nat} {out : List UInt8} (h : Dig n u out) (hu : u / 10 = 0) : Lib.decDigits n = dig u :: out := by
  unfold Dig at h; rw [h, dec_last hu]; rfl
end Go.Proofs.Ytmbafcfoboknkaa.val
