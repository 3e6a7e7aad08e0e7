/- The document's Split, and its Pack. -/
import Derived.Test.YtmbafcfoboknkaaSplitW
namespace Go.Proofs.Ytmbafcfoboknkaa
set_option linter.unusedVariables false
open Go.RowKit
/-- what the document's Split tells -/
def RefSplitPost (s : ByteArray) (w : World) (e : Ending) (w' : World) : Prop :=
  ∃ v, e = .returned (.tuple #[v, .bool (splitS s).2]) ∧ w'.ownsRow w.heap.size 9 1 v (splitS s).1.length ((splitS s).1.map Value.string) ∧ Below w.heap.size w w'
theorem RefSplitPost.mk {s : ByteArray} {w : World} {e : Ending} {w' : World} (l : List ByteArray) (b : Bool) (hb : splitS s = (l, b)) (v : Value) (he : e = .returned (.tuple #[v, .bool b])) (hv : w'.ownsRow w.heap.size 9 1 v l.length (l.map Value.string)) (hB : Below w.heap.size w w') : RefSplitPost s w e w' := by
  unfold RefSplitPost; rw [hb]; exact ⟨v, he, hv, hB⟩
end Go.Proofs.Ytmbafcfoboknkaa
