/- The key of a row, walked. -/
import Derived.Test.YtpkkhbmlclicfaaRowD
import Derived.OwnWalk
namespace Go.Proofs.Ytpkkhbmlclicfaa.val
set_option linter.unusedVariables false
open Go.RowKit
/-- the cells of a row -/
def vCells (l : List V) : List Value := l.flatMap fun v => [.int .i64 v.k, .int .i64 v.n, .string v.s]
theorem vCells_cons (v : V) (l : List V) : vCells (v :: l) = .int .i64 v.k :: .int .i64 v.n :: .string v.s :: vCells l := rfl
theorem vCells_snoc (l : List V) (v : V) : vCells (l ++ [v]) = vCells l ++ [.int .i64 v.k, .int .i64 v.n, .string v.s] := by simp [vCells]
theorem vCells_at : ∀ (l : List V) (j : Nat) (v : V), l[j]? = some v → (vCells l)[j * 3]? = some (.int .i64 v.k) ∧ (vCells l)[j * 3 + 1]? = some (.int .i64 v.n) ∧ (vCells l)[j * 3 + 2]? = some (.string v.s)
  | [], j, v, h => by simp at h
  | u :: l, 0, v, h => by simp at h; subst h; exact ⟨rfl, rfl, rfl⟩
  | u :: l, j + 1, v, h => by
    have := vCells_at l j v (by simpa using h)
    rw [vCells_cons, show (j + 1) * 3 = j * 3 + 1 + 1 + 1 by omega]
    exact this
/-- a slice that reads as a row -/
abbrev IsRow (w : World) (v : Value) (l : List V) : Prop := Row w v 3 l.length (vCells l)
theorem below_grown {w w' : World} (h : w.grownBy w' none) : Below w.heap.size w w' := ⟨h.os, h.tape, h.output, h.size, fun k hk => h.block k hk (by simp)⟩
end Go.Proofs.Ytpkkhbmlclicfaa.val
