/- The law's order of a queue: turned round, or not. -/
import Derived.Test.YtbaepjjanjhliaaDirtyEP
namespace Go.Proofs.Ytbaepjjanjhliaa.drt.P
set_option linter.unusedVariables false
open Go.RowKit
def kyT (turned : Bool) (v : Int) : Int := if turned then -v else v
theorem law_less (x y : Int) (w : World) {bt : Nat} {turned : Bool} (h : w.cell? ⟨bt, 0, none⟩ = some (.bool turned)) : Calls Try.prog 35 #[.int .i64 x, .int .i64 y, .pointer (some ⟨bt, 0, none⟩)] w fun e w' => e = .returned (.bool (decide (kyT turned x < kyT turned y))) ∧ w' = w := by
  cases turned
  · have e0 : decide (kyT false x < kyT false y) = decide (x < y) := rfl
    rw [e0]
    go_enter Try.func35, Try.ntmps35
    go_wp2
    go_ret
    exact ⟨rfl, rfl⟩
  · have e0 : decide (kyT true x < kyT true y) = decide (y < x) := by unfold kyT; rw [decide_eq_decide]; simp
    rw [e0]
    go_enter Try.func35, Try.ntmps35
    go_wp2
    go_ret
    exact ⟨rfl, rfl⟩
theorem less_all {own : Nat → Prop} {w : World} {bt : Nat} {turned : Bool} (h : w.cell? ⟨bt, 0, none⟩ = some (.bool turned)) (hn : ¬ own bt) : LessAll own bt (kyT turned) w := fun own' w' ho hw w2 h2 x y => by
  have hl : bt < w.heap.size := World.block_lt_of_cell? w ⟨bt, 0, none⟩ h
  have h1 := cell_only h hw hn
  have h3 := cell_only h1 h2 (fun q => (ho _ q).elim hn (fun q => by dsimp only at q; omega))
  exact (law_less x y w2 h3).mono (by rintro e w3 ⟨rfl, rfl⟩; exact ⟨rfl, 0, rfl⟩)
end Go.Proofs.Ytbaepjjanjhliaa.drt.P
