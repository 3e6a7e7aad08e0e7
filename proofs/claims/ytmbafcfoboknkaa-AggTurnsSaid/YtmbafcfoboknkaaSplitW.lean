/- cut, Split: packed texts taken apart. -/
import Derived.Test.YtmbafcfoboknkaaPackX
import Derived.Deep.QuietTactic
import Derived.BigQuiet
import Derived.WalkSmall
namespace Go.Proofs.Ytmbafcfoboknkaa
set_option linter.unusedVariables false
open Go.RowKit
/-- what the first four bytes say -/
def cutN (s : ByteArray) : Nat := beVal (s.data.toList.take 4)
/-- the texts that are packed in a text, as far as they are whole, and whether all are -/
def splitF : Nat → ByteArray → List ByteArray × Bool
  | 0, s => ([], s.size == 0)
  | f + 1, s => if s.size < 4 ∨ s.size < 4 + cutN s then ([], s.size == 0) else (s.extract 4 (4 + cutN s) :: (splitF f (s.extract (4 + cutN s) s.size)).1, (splitF f (s.extract (4 + cutN s) s.size)).2)
def splitS (s : ByteArray) : List ByteArray × Bool := splitF s.size s
theorem infoStr : (Try.prog.info? 9).map (fun i => (i.zero, i.size, i.bytes)) = some (some (.string ⟨#[]⟩), 1, 16) := by kernel_rfl
/-- what Split tells -/
def SplitPost (s : ByteArray) (w : World) (e : Ending) (w' : World) : Prop :=
  ∃ v, e = .returned (.tuple #[v, .int .i64 (if (splitS s).2 then 0 else 2)]) ∧ (if (splitS s).2 then w'.ownsRow w.heap.size 9 1 v (splitS s).1.length ((splitS s).1.map Value.string) else v = .slice none 0 0) ∧ Below w.heap.size w w'
theorem SplitPost.mk {s : ByteArray} {w : World} {e : Ending} {w' : World} (b : Bool) (hb : (splitS s).2 = b) (v : Value) (he : e = .returned (.tuple #[v, .int .i64 (if b then 0 else 2)])) (hv : if b then w'.ownsRow w.heap.size 9 1 v (splitS s).1.length ((splitS s).1.map Value.string) else v = .slice none 0 0) (hB : Below w.heap.size w w') : SplitPost s w e w' := by
  subst hb; exact ⟨v, he, hv, hB⟩
end Go.Proofs.Ytmbafcfoboknkaa
