/- The document's Pack. -/
import Derived.Test.YtmbafcfoboknkaaRefSplit
import Derived.Deep.RegionHeld3
import Derived.Deep.RegionWith
namespace Go.Proofs.Ytmbafcfoboknkaa
set_option linter.unusedVariables false
open Go.RowKit
theorem size_mk (l : List UInt8) : (⟨l.toArray⟩ : ByteArray).size = l.length := List.size_toArray
end Go.Proofs.Ytmbafcfoboknkaa
