/- The queue's own order: the lesser number first. -/
import Derived.Test.YtbaepjjanjhliaaDirtyEN
namespace Go.Proofs.Ytbaepjjanjhliaa.drt.N
set_option linter.unusedVariables false
open Go.RowKit
theorem own_less (x y : Int) (w : World) : Calls Try.prog 59 #[.int .i64 x, .int .i64 y] w fun e w' => e = .returned (.bool (decide (x < y))) ∧ w' = w := by
  go_enter Try.func59, Try.ntmps59
  go_wp2
  go_ret
  exact ⟨rfl, rfl⟩
theorem less_all (own : Nat → Prop) (w : World) : LessAll own (fun v => v) w := fun own' w' _ _ w2 _ x y => (own_less x y w2).mono (by rintro e w3 ⟨rfl, rfl⟩; exact ⟨rfl, 0, rfl⟩)
end Go.Proofs.Ytbaepjjanjhliaa.drt.N
