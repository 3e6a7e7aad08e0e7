/- Rows sorted by the document's text, walked. -/
import Derived.Test.YtpkkhbmlclicfaaRowO
import Derived.Deep.RegionWith
import Derived.OwnWalk
namespace Go.Proofs.Ytpkkhbmlclicfaa.val
set_option linter.unusedVariables false
open Go.RowKit
attribute [local go_sem] ag.upon_value ag.upon_skip ag.upon_enter
attribute [local go_sem] Oper.semAt_some
/-- a row of values, newer than X -/
def tFrm (X : World) (e : TypeId) (n : Nat) (xs : List Value) (v : Value) (W : World) : Prop := (∃ a c, v = .slice a n c ∧ (n = 0 → c = 0)) ∧ W.ownsRow X.heap.size e 1 v n xs
theorem tFrm.later {X W W' : World} {e : TypeId} {n : Nat} {xs : List Value} {v : Value} (h : tFrm X e n xs v W) (hb : Below W.heap.size W W') : tFrm X e n xs v W' := ⟨h.1, owns_below h.2 hb⟩
end Go.Proofs.Ytpkkhbmlclicfaa.val
