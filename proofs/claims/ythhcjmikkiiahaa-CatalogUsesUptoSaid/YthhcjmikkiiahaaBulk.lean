/- What the bound of an 'upto' statement gives. -/
import Derived.Test.YthhcjmikkiiahaaRows
import Derived.Test.YthhcjmikkiiahaaOpen
import Derived.Test.YthhcjmikkiiahaaBytes
namespace Go.Proofs.Ythhcjmikkiiahaa
set_option linter.unusedVariables false
open Go.RowKit Go.ChangeShapes

theorem upto_bound {H : Type} {l : List (DataW H)} (hk : Rows.uptoSmall H l = true) : Rows.uptoBulkAll l ≤ 1048576 := of_decide_eq_true hk
theorem bulk_strs {H : Type} (ss : List ByteArray) : Rows.uptoBulkAll (strs (H := H) ss) = (ss.map fun s => s.size + 1).sum := by
  induction ss with
  | nil => rfl
  | cons s ss ih =>
    have e : strs (H := H) (s :: ss) = .lit (.string s.data.toList) :: strs ss := rfl
    rw [e, Rows.uptoBulkAll, ih, List.map_cons, List.sum_cons, Rows.uptoBulk]
    simp
theorem sum_bounds (ss : List ByteArray) : ss.length ≤ (ss.map fun s => s.size + 1).sum ∧ (∀ s ∈ ss, s.size ≤ (ss.map fun s => s.size + 1).sum) ∧ (packB ss).length ≤ 4 * (ss.map fun s => s.size + 1).sum := by
  rw [packB_length]
  induction ss with
  | nil => simp
  | cons s ss ih =>
    obtain ⟨h1, h2, h3⟩ := ih
    simp only [List.length_cons, List.map_cons, List.sum_cons, List.mem_cons]
    refine ⟨by omega, ?_, by omega⟩
    rintro x (rfl | hx)
    · omega
    · have := h2 x hx; omega

end Go.Proofs.Ythhcjmikkiiahaa
