/- What a loop's body keeps while a function iterates: all that was there before, some blocks aside, and all cells that have come since; no program. -/
import Derived.Test.YtjnlimahcodomaaOnly
import Derived.RangeFuncNested
import Derived.RangeFuncBound
import Derived.RangeFuncCalls
import Derived.RangeFuncLeaves
import Derived.WalkKit
import Derived.RangeFuncBox
import Derived.Shelf.Abstract
import Derived.Shelf.RegionOpen
import Derived.OwnWalkIn
import Derived.TacticsInMore
import Derived.LoopNIn
import Derived.LoopIn
import Derived.Maps.AppendAt
import Derived.Sort.QuietTacIn
namespace Go.Proofs.Ytjnlimahcodomaa
set_option linter.unusedVariables false
open Go.RowKit
structure OnlyX (B : Nat) (P : Nat → Prop) (w w' : World) : Prop where
  os : w'.os = w.os
  tape : w'.tape = w.tape
  output : w'.output = w.output
  size : w.heap.size ≤ w'.heap.size
  low : ∀ k, k < B → k < w.heap.size → ¬ P k → w'.heap[k]? = w.heap[k]?
  cells : ∀ k o, w.heap[k]? = some o → o.isCells = true → ¬ P k → w'.heap[k]? = some o
theorem OnlyX.refl (B : Nat) (P : Nat → Prop) (w : World) : OnlyX B P w w := ⟨rfl, rfl, rfl, Nat.le_refl _, fun _ _ _ _ => rfl, fun _ _ h _ _ => h⟩
theorem OnlyX.trans {B : Nat} {P : Nat → Prop} {a b c : World} (h : OnlyX B P a b) (h' : OnlyX B P b c) : OnlyX B P a c :=
  ⟨h'.os.trans h.os, h'.tape.trans h.tape, h'.output.trans h.output, Nat.le_trans h.size h'.size, fun k hB hk ho => (h'.low k hB (Nat.lt_of_lt_of_le hk h.size) ho).trans (h.low k hB hk ho), fun k o hk hc hp => h'.cells k o (h.cells k o hk hc hp) hc hp⟩
theorem OnlyX.only {P : Nat → Prop} {a b : World} (h : OnlyX a.heap.size P a b) : Only P a b := ⟨h.os, h.tape, h.output, h.size, fun k hk ho => h.low k hk hk ho⟩
theorem OnlyX.put {B : Nat} {P : Nat → Prop} (W : World) (l : Nat) (o o' : Go.Obj) (hl : B ≤ l) (h : W.heap[l]? = some o) (hc : o.isCells = false) : OnlyX B P W (W.putObj l o') :=
  ⟨rfl, rfl, rfl, by simp, fun k hk _ _ => World.putObj_heap_other (by omega), fun k x hk hx _ => by
    by_cases e : l = k
    · subst e; rw [h] at hk; cases hk; rw [hc] at hx; cases hx
    · exact (World.putObj_heap_other (fun e2 => e e2.symm)).trans hk⟩
end Go.Proofs.Ytjnlimahcodomaa
