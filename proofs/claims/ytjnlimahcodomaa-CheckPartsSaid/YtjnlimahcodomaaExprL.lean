/- Which expressions may be: a record's own fields; walked. -/
import Derived.Test.YtjnlimahcodomaaExprJ
import Derived.Test.YtjnlimahcodomaaValueKJ
import Derived.Test.YtjnlimahcodomaaLexAH
namespace Go.Proofs.Ytjnlimahcodomaa.ex
set_option linter.unusedVariables false
open Go.RowKit
open val (V null veq6 gB ag3)
open lx (goodL)
/-- a record has the fields of its kind, and no others -/
def plainP (k op : Int) (v : V) (tb nm : ByteArray) (n : Nat) : Prop :=
  (k = 1 ∧ op = 0 ∧ tb = ByteArray.empty ∧ nm = ByteArray.empty ∧ n = 0 ∧ gB v.k v.n v.s = true ∧ (v.k ≠ 2 ∨ 0 ≤ v.n)) ∨
  (k = 2 ∧ op = 0 ∧ v = null ∧ n = 0 ∧ goodL nm.data.toList = true ∧ (tb = ByteArray.empty ∨ goodL tb.data.toList = true)) ∨
  (k = 3 ∧ v = null ∧ tb = ByteArray.empty ∧ nm = ByteArray.empty ∧ n = 2 ∧ 1 ≤ op ∧ op ≤ 14) ∨
  ((k = 4 ∨ k = 5 ∨ k = 6 ∨ k = 7) ∧ op = 0 ∧ v = null ∧ tb = ByteArray.empty ∧ nm = ByteArray.empty ∧ n = 1) ∨
  (k = 8 ∧ v = null ∧ tb = ByteArray.empty ∧ nm = ByteArray.empty ∧ 1 ≤ op ∧ op ≤ 4 ∧ ((op = 1 ∧ n = 0) ∨ n = 1))
noncomputable def plainB (k op : Int) (v : V) (tb nm : ByteArray) (n : Nat) : Bool := @decide (plainP k op v tb nm n) (Classical.propDecidable _)
noncomputable def pB (p : Prop) : Bool := @decide p (Classical.propDecidable _)
theorem pB_iff {p : Prop} : pB p = true ↔ p := by unfold pB; simp
theorem pB_no {p : Prop} : pB p = false ↔ ¬ p := by unfold pB; simp
theorem pB_and {p q : Prop} : pB (p ∧ q) = (pB p && pB q) := by
  rw [Bool.eq_iff_iff, Bool.and_eq_true, pB_iff, pB_iff, pB_iff]
theorem pB_or {p q : Prop} : pB (p ∨ q) = (pB p || pB q) := by
  rw [Bool.eq_iff_iff, Bool.or_eq_true, pB_iff, pB_iff, pB_iff]
theorem pB_bool {b : Bool} : pB (b = true) = b := by cases b <;> simp [pB]
theorem pB_iff_eq {p q : Prop} (h : p ↔ q) : pB p = pB q := by rw [Bool.eq_iff_iff, pB_iff, pB_iff]; exact h
end Go.Proofs.Ytjnlimahcodomaa.ex
