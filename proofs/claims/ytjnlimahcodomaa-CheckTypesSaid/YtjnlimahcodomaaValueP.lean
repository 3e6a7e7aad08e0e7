/- Values of SQL as plain mathematics: what operators do, by two texts, which agree. No program. -/
import Derived.WalkKit
import Derived.Laws.BitsLemmas
import Derived.Laws.StructEq
namespace Go.Proofs.Ytjnlimahcodomaa.val
set_option linter.unusedVariables false
/-- a value: its kind, its number, its text -/
structure V where
  k : Int
  n : Int
  s : ByteArray
def null : V := ⟨0, 0, ByteArray.empty⟩
def ofB (b : Bool) : V := if b then ⟨1, 1, ByteArray.empty⟩ else ⟨1, 0, ByteArray.empty⟩
def ofN (n : Int) : V := ⟨2, n, ByteArray.empty⟩
def ofS (s : ByteArray) : V := ⟨3, 0, s⟩
/-- are both the same? -/
def veq6 (k n : Int) (s : ByteArray) (k' n' : Int) (s' : ByteArray) : Bool := k == k' && (n == n' && s.toList == s'.toList)
abbrev veq (a b : V) : Bool := veq6 a.k a.n a.s b.k b.n b.s
theorem bytes_ext {a b : ByteArray} (h : a.toList = b.toList) : a = b := by
  rw [ByteArray.toList_eq, ByteArray.toList_eq] at h
  cases a; cases b; simp at h; simp [h]
theorem veq_iff (a b : V) : veq a b = true ↔ a = b := by
  cases a; cases b
  simp only [veq6, Bool.and_eq_true, beq_iff_eq, V.mk.injEq]
  constructor
  · rintro ⟨h1, h2, h3⟩; exact ⟨h1, h2, bytes_ext h3⟩
  · rintro ⟨h1, h2, h3⟩; exact ⟨h1, h2, by rw [h3]⟩
theorem veq_self (a : V) : veq a a = true := (veq_iff a a).2 rfl
/-- does a value stand ahead of another one? -/
def less (a b : V) : Bool := if a.k = b.k then (if a.k = 3 then Op.bytesLess a.s.toList b.s.toList else decide (a.n < b.n)) else decide (a.k < b.k)
/-- a value that may be -/
def Good (v : V) : Prop := (v.k = 0 ∧ v.n = 0 ∧ v.s = ByteArray.empty) ∨ (v.k = 1 ∧ (v.n = 0 ∨ v.n = 1) ∧ v.s = ByteArray.empty) ∨ (v.k = 2 ∧ v.s = ByteArray.empty ∧ -9223372036854775808 ≤ v.n ∧ v.n ≤ 9223372036854775807) ∨ (v.k = 3 ∧ v.n = 0 ∧ v.s.size ≤ 64)
theorem bl_irrefl : ∀ x : List UInt8, Op.bytesLess x x = false
  | [] => rfl
  | a :: x => by simp [Op.bytesLess, bl_irrefl x]
theorem bl_total : ∀ x y : List UInt8, Op.bytesLess x y = false → Op.bytesLess y x = false → x = y
  | [], [], _, _ => rfl
  | [], b :: y, h, _ => by simp [Op.bytesLess] at h
  | a :: x, [], _, h => by simp [Op.bytesLess] at h
  | a :: x, b :: y, h1, h2 => by
    simp only [Op.bytesLess] at h1 h2
    by_cases e : a = b
    · subst e
      simp at h1 h2
      rw [bl_total x y h1 h2]
    · exfalso
      simp [e, fun h : b = a => e h.symm] at h1 h2
      have := UInt8.le_antisymm h2.1 h1
      exact e (by first | exact this | exact this.symm)
theorem bl_asymm : ∀ x y : List UInt8, Op.bytesLess x y = true → Op.bytesLess y x = false
  | [], [], h => by simp [Op.bytesLess] at h
  | [], b :: y, _ => rfl
  | a :: x, [], h => by simp [Op.bytesLess] at h
  | a :: x, b :: y, h => by
    simp only [Op.bytesLess] at h ⊢
    by_cases e : a = b
    · subst e
      simp at h ⊢
      exact bl_asymm x y h
    · simp [e, fun h : b = a => e h.symm] at h ⊢
      exact ⟨UInt8.le_of_lt h, fun e' => absurd e'.symm e⟩
/-- what a product is, where a quotient tells whether it is one -/
theorem times_fits (a b : Int) (hb : b ≠ 0) (ha1 : -9223372036854775808 ≤ a) (ha2 : a ≤ 9223372036854775807) (hb1 : -9223372036854775808 ≤ b) (hb2 : b ≤ 9223372036854775807) (h : (IntKind.i64.wrap (a * b)).tdiv b = a) : IntKind.i64.wrap (a * b) = a * b := by
  have hw : ∃ q : Int, IntKind.i64.wrap (a * b) = a * b + q * 18446744073709551616 := by
    rw [IntKind.wrap_i64]
    exact ⟨-((a * b + 9223372036854775808) / 18446744073709551616), by omega⟩
  obtain ⟨q, hq⟩ := hw
  have hm := Int.mul_tdiv_add_tmod (IntKind.i64.wrap (a * b)) b
  rw [h] at hm
  have h3 : ((IntKind.i64.wrap (a * b)).tmod b).natAbs < b.natAbs := by rw [Int.natAbs_tmod]; exact Nat.mod_lt _ (by omega)
  have hc : b * a = a * b := Int.mul_comm _ _
  have hq0 : q = 0 := by omega
  rw [hq, hq0]; omega
/-- does an operator take values of these kinds? -/
def fitB (op ka kb : Int) : Bool :=
  if op ≤ 6 then ka == 0 || kb == 0 || ka == kb
  else if op = 12 then (ka == 0 || ka == 3) && (kb == 0 || kb == 3)
  else if 13 ≤ op then (ka == 0 || ka == 1) && (kb == 0 || kb == 1)
  else (ka == 0 || ka == 2) && (kb == 0 || kb == 2)
/-- And, Or -/
def logicV (op : Int) (a b : V) : V :=
  if veq a (ofB (op == 14)) = true ∨ veq b (ofB (op == 14)) = true then ofB (op == 14)
  else if a.k = 0 ∨ b.k = 0 then null
  else ofB (op == 13)
/-- a comparison of two values of one kind, by the order of all -/
def holdsV (op : Int) (a b : V) : Bool :=
  if op = 1 then veq a b else if op = 2 then !veq a b else if op = 3 then less a b else if op = 4 then !less b a else if op = 5 then less b a else !less a b
/-- what two numbers give, and the error -/
def exact (op a b : Int) : Int := if op = 7 then a + b else if op = 8 then a - b else if op = 9 then a * b else if op = 10 then a.tdiv b else a.tmod b
def countV (op a b : Int) : Int × Int :=
  if b = 0 ∧ (op = 10 ∨ op = 11) then (0, 9)
  else if -9223372036854775808 ≤ exact op a b ∧ exact op a b ≤ 9223372036854775807 then (exact op a b, 0)
  else (0, 8)
/-- an operator on two values: what it gives, and the error -/
def doV (op : Int) (a b : V) : V × Int :=
  if op < 1 ∨ 14 < op then (null, 1)
  else if fitB op a.k b.k = false then (null, 5)
  else if 13 ≤ op then (logicV op a b, 0)
  else if a.k = 0 ∨ b.k = 0 then (null, 0)
  else if op ≤ 6 then (ofB (holdsV op a b), 0)
  else if op = 12 then (if a.s.size + b.s.size > 64 then (null, 8) else (ofS (a.s ++ b.s), 0))
  else if (countV op a.n b.n).2 = 0 then (ofN (countV op a.n b.n).1, 0) else (null, (countV op a.n b.n).2)
/-- what a product is, and whether it is a number -/
def timesN (a b : Int) : Int := if -9223372036854775808 ≤ a * b ∧ a * b ≤ 9223372036854775807 then a * b else 0
def timesB (a b : Int) : Bool := decide (-9223372036854775808 ≤ a * b) && decide (a * b ≤ 9223372036854775807)
theorem times_zero (a b : Int) (h : a = 0 ∨ b = 0) : timesN a b = 0 ∧ timesB a b = true := by
  have h0 : a * b = 0 := by rcases h with rfl | rfl <;> simp
  unfold timesN timesB; rw [h0]; exact ⟨rfl, rfl⟩
theorem wrap_id (n : Int) (h : -9223372036854775808 ≤ n ∧ n ≤ 9223372036854775807) : IntKind.i64.wrap n = n := by rw [IntKind.wrap_i64]; omega
theorem times_q (a b : Int) (ha : -9223372036854775808 ≤ a ∧ a ≤ 9223372036854775807) (hb : -9223372036854775808 ≤ b ∧ b ≤ 9223372036854775807) (hb0 : b ≠ 0) :
    ((IntKind.i64.wrap (a * b)).tdiv b == a) = timesB a b ∧ (timesB a b = true → IntKind.i64.wrap (a * b) = timesN a b) := by
  by_cases h : -9223372036854775808 ≤ a * b ∧ a * b ≤ 9223372036854775807
  · have e1 : timesB a b = true := by unfold timesB; simp [h.1, h.2]
    have e2 : timesN a b = a * b := by unfold timesN; rw [if_pos h]
    rw [wrap_id _ h, e1, e2, Int.mul_tdiv_cancel _ hb0]
    simp
  · have e1 : timesB a b = false := by
      unfold timesB
      rw [Bool.and_eq_false_iff, decide_eq_false_iff_not, decide_eq_false_iff_not]
      omega
    rw [e1]
    refine ⟨?_, fun h => by cases h⟩
    rw [beq_eq_false_iff_ne]
    intro e
    have e3 := times_fits a b hb0 ha.1 ha.2 hb.1 hb.2 e
    have e4 : -9223372036854775808 ≤ IntKind.i64.wrap (a * b) ∧ IntKind.i64.wrap (a * b) ≤ 9223372036854775807 := by rw [IntKind.wrap_i64]; omega
    rw [e3] at e4
    exact h e4
/-- a quotient of a number by one that is not -1 is a number -/
theorem wrap_tdiv (x b : Int) (h0 : b ≠ 0) (h1 : b ≠ -1) : IntKind.i64.wrap ((IntKind.i64.wrap x).tdiv b) = (IntKind.i64.wrap x).tdiv b := by
  have hx : -9223372036854775808 ≤ IntKind.i64.wrap x ∧ IntKind.i64.wrap x ≤ 9223372036854775807 := by rw [IntKind.wrap_i64]; omega
  generalize IntKind.i64.wrap x = y at *
  apply wrap_id
  have h : (y.tdiv b).natAbs = y.natAbs / b.natAbs := Int.natAbs_tdiv y b
  by_cases hb : b = 1
  · subst hb; rw [Int.tdiv_one]; exact hx
  · have h2 : 2 ≤ b.natAbs := by omega
    have h3 : y.natAbs / b.natAbs ≤ y.natAbs / 2 := Nat.div_le_div_left h2 (by omega)
    omega
theorem logic_yes {op : Int} {a b : V} (h : veq a (ofB (op == 14)) = true ∨ veq b (ofB (op == 14)) = true) : logicV op a b = ofB (op == 14) := by unfold logicV; rw [if_pos h]
theorem logic_null {op : Int} {a b : V} (h1 : ¬ veq a (ofB (op == 14)) = true) (h2 : veq b (ofB (op == 14)) = false) (h : a.k = 0 ∨ b.k = 0) : logicV op a b = null := by
  unfold logicV; rw [if_neg (by rw [h2]; rintro (h | h); exact h1 h; cases h), if_pos h]
theorem logic_rest {op : Int} {a b : V} (h1 : ¬ veq a (ofB (op == 14)) = true) (h2 : veq b (ofB (op == 14)) = false) (h : ¬ (a.k = 0 ∨ b.k = 0)) : logicV op a b = ofB (op == 13) := by
  unfold logicV; rw [if_neg (by rw [h2]; rintro (h | h); exact h1 h; cases h), if_neg h]
theorem tdiv_in (y b : Int) (hy : -9223372036854775808 ≤ y ∧ y ≤ 9223372036854775807) (h0 : b ≠ 0) (h1 : ¬ (y = -9223372036854775808 ∧ b = -1)) : -9223372036854775808 ≤ y.tdiv b ∧ y.tdiv b ≤ 9223372036854775807 := by
  have h : (y.tdiv b).natAbs = y.natAbs / b.natAbs := Int.natAbs_tdiv y b
  by_cases hb : b = 1
  · subst hb; rw [Int.tdiv_one]; exact hy
  · by_cases hm : b = -1
    · subst hm; rw [Int.tdiv_neg, Int.tdiv_one]; omega
    · have h2 : 2 ≤ b.natAbs := by omega
      have h3 : y.natAbs / b.natAbs ≤ y.natAbs / 2 := Nat.div_le_div_left h2 (by omega)
      omega
theorem tmod_in (y b : Int) (h0 : b ≠ 0) : (y.tmod b).natAbs < b.natAbs := by rw [Int.natAbs_tmod]; exact Nat.mod_lt _ (by omega)
end Go.Proofs.Ytjnlimahcodomaa.val
