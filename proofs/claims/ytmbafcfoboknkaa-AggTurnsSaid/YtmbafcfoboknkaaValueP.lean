/- Values of SQL as plain mathematics: what operators do, by two texts, which agree. No program. -/
import Derived.WalkKit
import Derived.Laws.BitsLemmas
import Derived.Laws.StructEq
namespace Go.Proofs.Ytmbafcfoboknkaa.val
set_option linter.unusedVariables false
/-- a value: its kind, its number, its text -/
structure V where
  k : Int
  n : Int
  s : ByteArray
/-- are both the same? -/
def veq6 (k n : Int) (s : ByteArray) (k' n' : Int) (s' : ByteArray) : Bool := k == k' && (n == n' && s.toList == s'.toList)
abbrev veq (a b : V) : Bool := veq6 a.k a.n a.s b.k b.n b.s
theorem bytes_ext {a b : ByteArray} (h : a.toList = b.toList) : a = b := by
  rw [ByteArray.toList_eq, ByteArray.toList_eq] at h
  cases a; cases b; simp at h; simp [h]
/-- does a value stand ahead of another one? -/
def less (a b : V) : Bool := if a.k = b.k then (if a.k = 3 then Op.bytesLess a.s.toList b.s.toList else decide (a.n < b.n)) else decide (a.k < b.k)
/-- a value that may be -/
def Good (v : V) : Prop := (v.k = 0 ∧ v.n = 0 ∧ v.s = ByteArray.empty) ∨ (v.k = 1 ∧ (v.n = 0 ∨ v.n = 1) ∧ v.s = ByteArray.empty) ∨ (v.k = 2 ∧ v.s = ByteArray.empty ∧ -9223372036854775808 ≤ v.n ∧ v.n ≤ 9223372036854775807) ∨ (v.k = 3 ∧ v.n = 0 ∧ v.s.size ≤ 64)
theorem bl_irrefl : ∀ x : List UInt8, Op.bytesLess x x = false
  | [] => rfl
  | a :: x => by simp [Op.bytesLess, bl_irrefl x]
theorem bl_total : ∀ x y : List UInt8, Op.bytesLess x y = false → Op.bytesLess y x = false → x = y
  | [], [], _, _ => rfl
  | [], b :: y, h, _ => by simp [Op.bytesLess] at h
  | a :: x, [], _, h => by simp [Op.bytesLess] at h
  | a :: x, b :: y, h1, h2 => by
    simp only [Op.bytesLess] at h1 h2
    by_cases e : a = b
    · subst e
      simp at h1 h2
      rw [bl_total x y h1 h2]
    · exfalso
      simp [e, fun h : b = a => e h.symm] at h1 h2
      have := UInt8.le_antisymm h2.1 h1
      exact e (by first | exact this | exact this.symm)
theorem bl_asymm : ∀ x y : List UInt8, Op.bytesLess x y = true → Op.bytesLess y x = false
  | [], [], h => by simp [Op.bytesLess] at h
  | [], b :: y, _ => rfl
  | a :: x, [], h => by simp [Op.bytesLess] at h
  | a :: x, b :: y, h => by
    simp only [Op.bytesLess] at h ⊢
    by_cases e : a = b
    · subst e
      simp at h ⊢
      exact bl_asymm x y h
    · simp [e, fun h : b = a => e h.symm] at h ⊢
      exact ⟨UInt8.le_of_lt h, fun e' => absurd e'.symm e⟩
theorem less_total (a b : V) (ha : Good a) (hb : Good b) (h1 : less a b = false) (h2 : less b a = false) : a = b := by
  unfold less at h1 h2
  have ek : a.k = b.k := by
    by_cases e : a.k = b.k
    · exact e
    · rw [if_neg e] at h1; rw [if_neg (fun e' => e e'.symm)] at h2; simp at h1 h2; omega
  rw [if_pos ek] at h1; rw [if_pos ek.symm] at h2
  cases a with | mk ka na sa =>
  cases b with | mk kb nb sb =>
  dsimp only at *
  subst ek
  by_cases e3 : ka = 3
  · subst e3
    simp only [if_true] at h1 h2
    have es := bytes_ext (bl_total _ _ h1 h2)
    subst es
    have e1 : na = nb := by unfold Good at ha hb; dsimp only at ha hb; omega
    rw [e1]
  · rw [if_neg e3] at h1 h2
    simp at h1 h2
    obtain rfl : na = nb := by omega
    have es : sa = ByteArray.empty := by rcases ha with h | h | h | h <;> first | exact h.2.2 | exact h.2.1 | (exact absurd h.1 e3)
    have et : sb = ByteArray.empty := by rcases hb with h | h | h | h <;> first | exact h.2.2 | exact h.2.1 | (exact absurd h.1 e3)
    rw [es, et]
/-- what two numbers give, and the error -/
def exact (op a b : Int) : Int := if op = 7 then a + b else if op = 8 then a - b else if op = 9 then a * b else if op = 10 then a.tdiv b else a.tmod b
end Go.Proofs.Ytmbafcfoboknkaa.val
