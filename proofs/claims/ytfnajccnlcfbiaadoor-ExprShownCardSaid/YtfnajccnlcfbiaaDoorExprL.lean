/- Which expressions may be: a record's own fields; walked. -/
import Derived.Test.YtfnajccnlcfbiaaDoorExprFJ
import Derived.Test.YtfnajccnlcfbiaaDoorValueKJ
import Derived.Test.YtfnajccnlcfbiaaDoorLexAH
namespace Go.Proofs.YtfnajccnlcfbiaaDoor.ex
set_option linter.unusedVariables false
open Go.RowKit
open val (V null veq6 gB ag3)
open lx (goodL)
/-- a record has the fields of its kind, and no others -/
def plainP (k op : Int) (v : V) (tb nm : ByteArray) (n : Nat) : Prop :=
  (k = 1 ∧ op = 0 ∧ tb = ByteArray.empty ∧ nm = ByteArray.empty ∧ n = 0 ∧ gB v.k v.n v.s = true ∧ (v.k ≠ 2 ∨ 0 ≤ v.n)) ∨
  (k = 2 ∧ op = 0 ∧ v = null ∧ n = 0 ∧ goodL nm.data.toList = true ∧ (tb = ByteArray.empty ∨ goodL tb.data.toList = true)) ∨
  (k = 3 ∧ v = null ∧ tb = ByteArray.empty ∧ nm = ByteArray.empty ∧ n = 2 ∧ 1 ≤ op ∧ op ≤ 14) ∨
  ((k = 4 ∨ k = 5 ∨ k = 6 ∨ k = 7) ∧ op = 0 ∧ v = null ∧ tb = ByteArray.empty ∧ nm = ByteArray.empty ∧ n = 1) ∨
  (k = 8 ∧ v = null ∧ tb = ByteArray.empty ∧ nm = ByteArray.empty ∧ 1 ≤ op ∧ op ≤ 4 ∧ ((op = 1 ∧ n = 0) ∨ n = 1))
noncomputable def plainB (k op : Int) (v : V) (tb nm : ByteArray) (n : Nat) : Bool := @decide (plainP k op v tb nm n) (Classical.propDecidable _)
noncomputable def pB (p : Prop) : Bool := @decide p (Classical.propDecidable _)
theorem pB_iff {p : Prop} : pB p = true ↔ p := by unfold pB; simp
theorem pB_no {p : Prop} : pB p = false ↔ ¬ p := by unfold pB; simp
theorem pB_and {p q : Prop} : pB (p ∧ q) = (pB p && pB q) := by
  rw [Bool.eq_iff_iff, Bool.and_eq_true, pB_iff, pB_iff, pB_iff]
theorem pB_or {p q : Prop} : pB (p ∨ q) = (pB p || pB q) := by
  rw [Bool.eq_iff_iff, Bool.or_eq_true, pB_iff, pB_iff, pB_iff]
theorem pB_bool {b : Bool} : pB (b = true) = b := by cases b <;> simp [pB]
theorem pB_iff_eq {p q : Prop} (h : p ↔ q) : pB p = pB q := by rw [Bool.eq_iff_iff, pB_iff, pB_iff]; exact h
/-- fields as the program compares them -/
noncomputable def fldB (k op : Int) (v : V) (tb nm : ByteArray) (k' op' : Int) (v' : V) (tb' nm' : ByteArray) : Bool := pB (k = k' ∧ op = op' ∧ v = v' ∧ tb = tb' ∧ nm = nm')
theorem plain1 (k op : Int) (v : V) (tb nm : ByteArray) (n : Nat) (hk : k = 1) : plainB k op v tb nm n = (fldB k op v tb nm k 0 v ByteArray.empty ByteArray.empty && (pB (n = 0) && (gB v.k v.n v.s && (pB (v.k ≠ 2) || pB (0 ≤ v.n))))) := by
  subst hk
  show pB _ = _
  unfold fldB
  rw [← pB_or, ← pB_bool (b := gB v.k v.n v.s), ← pB_and, ← pB_and, ← pB_and]
  apply pB_iff_eq
  unfold plainP
  simp
  constructor <;> rintro ⟨h1, h2⟩ <;> simp_all
theorem plain2 (k op : Int) (v : V) (tb nm : ByteArray) (n : Nat) (hk : k = 2) : plainB k op v tb nm n = (fldB k op v tb nm k 0 null tb nm && (pB (n = 0) && (goodL nm.data.toList && (pB (tb = ByteArray.empty) || goodL tb.data.toList)))) := by
  subst hk
  show pB _ = _
  unfold fldB
  rw [← pB_bool (b := goodL nm.data.toList), ← pB_bool (b := goodL tb.data.toList), ← pB_or, ← pB_and, ← pB_and, ← pB_and]
  apply pB_iff_eq
  unfold plainP
  simp [and_assoc]
theorem plain3 (k op : Int) (v : V) (tb nm : ByteArray) (n : Nat) (hk : k = 3) : plainB k op v tb nm n = (fldB k op v tb nm k op null ByteArray.empty ByteArray.empty && (pB (n = 2) && (pB (1 ≤ op) && pB (op ≤ 14)))) := by
  subst hk
  show pB _ = _
  unfold fldB
  rw [← pB_and, ← pB_and, ← pB_and]
  apply pB_iff_eq
  unfold plainP
  simp [and_assoc]
theorem plain4 (k op : Int) (v : V) (tb nm : ByteArray) (n : Nat) (hk : k = 4 ∨ k = 5 ∨ k = 6 ∨ k = 7) : plainB k op v tb nm n = (fldB k op v tb nm k 0 null ByteArray.empty ByteArray.empty && pB (n = 1)) := by
  show pB _ = _
  unfold fldB
  rw [← pB_and]
  apply pB_iff_eq
  unfold plainP
  rcases hk with rfl | rfl | rfl | rfl <;> simp [and_assoc]
theorem plain8 (k op : Int) (v : V) (tb nm : ByteArray) (n : Nat) (hk : k = 8) : plainB k op v tb nm n = (fldB k op v tb nm k op null ByteArray.empty ByteArray.empty && (pB (1 ≤ op) && (pB (op ≤ 4) && ((pB (op = 1) && pB (n = 0)) || pB (n = 1))))) := by
  subst hk
  show pB _ = _
  unfold fldB
  rw [← pB_and, ← pB_or, ← pB_and, ← pB_and, ← pB_and]
  apply pB_iff_eq
  unfold plainP
  simp [and_assoc]
theorem plain0 (k op : Int) (v : V) (tb nm : ByteArray) (n : Nat) (hk : k < 1 ∨ 8 < k) : plainB k op v tb nm n = false := by
  show pB _ = _
  rw [pB_no]
  unfold plainP
  rintro (h | h | h | h | h) <;> omega
theorem fields_at (r : Er) (op' : Int) (v' : V) (tb' nm' : ByteArray) (n : Nat) (a : Option Addr) (c : Nat) (hr : r.lv = .slice a n c) (w : World) :
    Calls Tryd.prog 24 #[r.val, .agg #[.int .i64 r.k, .int .i64 op', .int .i64 v'.k, .int .i64 v'.n, .string v'.s, .string tb', .string nm', .slice none 0 0]] w fun en w' => en = .returned (.bool (fldB r.k r.op r.v r.tb r.nm r.k op' v' tb' nm')) ∧ Below w.heap.size w w' :=
  fields_any r ⟨r.k, op', v', tb', nm', .slice none 0 0⟩ w a none n 0 c 0 hr rfl
end Go.Proofs.YtfnajccnlcfbiaaDoor.ex
