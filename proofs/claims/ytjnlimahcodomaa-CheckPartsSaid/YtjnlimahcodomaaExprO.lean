/- Which expressions may be: the program's walk through the tree. -/
import Derived.Test.YtjnlimahcodomaaExprM
import Derived.Test.YtjnlimahcodomaaExprN
namespace Go.Proofs.Ytjnlimahcodomaa.ex
set_option linter.unusedVariables false
open Go.RowKit
open val (V null veq6 gB ag3)
open lx (goodL)
attribute [local go_sem] Oper.semAt_some
theorem all_take {α : Type} {p : α → Prop} {l : List α} {j : Nat} {x : α} (h : ∀ y ∈ l.take j, p y) (hx : l[j]? = some x) (hp : p x) : ∀ y ∈ l.take (j + 1), p y := by
  intro y hy
  rw [List.take_add_one, hx] at hy
  rcases List.mem_append.1 hy with hy | hy
  · exact h y hy
  · simp only [Option.toList_some, List.mem_singleton] at hy
    rw [hy]; exact hp
end Go.Proofs.Ytjnlimahcodomaa.ex
