/- Whether two expressions are the same: the program's and the document's, walked. -/
import Derived.Test.YtjnlimahcodomaaExprB
import Derived.Deep.CutBlock
import Derived.StillTailTactics
namespace Go.Proofs.Ytjnlimahcodomaa.ex
set_option linter.unusedVariables false
open Go.RowKit
open val (V null veq6)
theorem bytes_no {a b : ByteArray} (h : a ≠ b) : (a.toList == b.toList) = false := by
  have : ¬ a.toList = b.toList := fun h' => h (by rw [Lib.toList_data, Lib.toList_data] at h'; exact ByteArray.ext (Array.toList_inj.1 h'))
  simpa using this
theorem run_neqX (k n : Int) (s : ByteArray) (k' n' : Int) (s' : ByteArray) (w : World) : (binOp .neq 26 (.agg #[.int .i64 k, .int .i64 n, .string s]) (.agg #[.int .i64 k', .int .i64 n', .string s'])).run Try.prog w = .ok (.bool (!veq6 k n s k' n' s')) w := by
  rw [run_neq_struct]
  go_simp
  unfold veq6
  by_cases h1 : k = k' <;> by_cases h2 : n = n' <;> by_cases h3 : s.toList = s'.toList <;> simp [h1, h2, h3]
theorem veq_yes (v : V) : veq6 v.k v.n v.s v.k v.n v.s = true := by unfold veq6; simp
theorem veq_no {v u : V} (h : v ≠ u) : veq6 v.k v.n v.s u.k u.n u.s = false := by
  unfold veq6
  cases v; cases u
  simp only [ne_eq, V.mk.injEq, not_and] at h
  rename_i a b c x y z
  by_cases h1 : a = x
  · by_cases h2 : b = y
    · have := bytes_no (h h1 h2)
      simp [h1, h2] at this ⊢; exact this
    · simp [h2]
  · simp [h1]
/-- two records in a place -/
theorem exat_fields {T : TypeId} {X : Nat → Prop} {W : World} {d : Nat} {e : Ex} {r : Er} (h : ExAt T X d W e r) : r.k = e.k ∧ r.op = e.op ∧ r.v = e.v ∧ r.tb = e.tb ∧ r.nm = e.nm := by
  obtain ⟨d', rfl⟩ := h.pos
  obtain ⟨h1, h2, h3, h4, h5, -⟩ := h
  exact ⟨h1, h2, h3, h4, h5⟩
end Go.Proofs.Ytjnlimahcodomaa.ex
