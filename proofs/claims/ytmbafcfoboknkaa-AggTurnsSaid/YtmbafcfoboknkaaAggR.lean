/- A row of a group as it comes in, plain. No program. -/
import Derived.Test.YtmbafcfoboknkaaAggP
namespace Go.Proofs.Ytmbafcfoboknkaa.agr
set_option linter.unusedVariables false
open Go.RowKit val
theorem and_one (n : Int) : bits .and .i64 n 1 = 0 ∨ bits .and .i64 n 1 = 1 := by
  have h : (BitVec.ofInt 64 n &&& BitVec.ofInt 64 1).toNat = 0 ∨ (BitVec.ofInt 64 n &&& BitVec.ofInt 64 1).toNat = 1 := by
    rw [BitVec.toNat_and, show (BitVec.ofInt 64 1).toNat = 1 from rfl, Nat.and_one_is_mod]
    omega
  show IntKind.i64.wrap ((BitVec.ofInt 64 n &&& BitVec.ofInt 64 1).toNat : Int) = 0 ∨ IntKind.i64.wrap ((BitVec.ofInt 64 n &&& BitVec.ofInt 64 1).toNat : Int) = 1
  rcases h with h | h <;> rw [h]
  · left; rfl
  · right; rfl
structure Rw where
  g : Int
  ak : Int
  an : Int
  ta : ByteArray
  bk : Int
  bn : Int
  tb : ByteArray
def RB (x : Rw) : Prop := (0 ≤ x.g ∧ x.g ≤ 255) ∧ (0 ≤ x.ak ∧ x.ak ≤ 255) ∧ (-9223372036854775808 ≤ x.an ∧ x.an ≤ 9223372036854775807) ∧ x.ta.size ≤ maxLen ∧ (0 ≤ x.bk ∧ x.bk ≤ 255) ∧ (-9223372036854775808 ≤ x.bn ∧ x.bn ≤ 9223372036854775807) ∧ x.tb.size ≤ maxLen
def rCell (x : Rw) : List Value := [.int .u8 x.g, .int .u8 x.ak, .int .i64 x.an, .string x.ta, .int .u8 x.bk, .int .i64 x.bn, .string x.tb]
def rCells (l : List Rw) : List Value := l.flatMap rCell
theorem rCells_cons (x : Rw) (l : List Rw) : rCells (x :: l) = rCell x ++ rCells l := by unfold rCells; rw [List.flatMap_cons]
theorem rCells_len (l : List Rw) : (rCells l).length = l.length * 7 := by
  induction l with
  | nil => rfl
  | cons x l ih => rw [rCells_cons, List.length_append, ih, List.length_cons]; simp [rCell]; omega
theorem rCells_at : ∀ (l : List Rw) (j : Nat) (v : Rw), l[j]? = some v → ∀ r, r < 7 → (rCells l)[j * 7 + r]? = (rCell v)[r]?
  | [], j, v, h, r, hr => by simp at h
  | a :: l, 0, v, h, r, hr => by
    simp at h; subst h
    rw [rCells_cons, Nat.zero_mul, Nat.zero_add, List.getElem?_append_left (by simp [rCell]; omega)]
  | a :: l, j + 1, v, h, r, hr => by
    have := rCells_at l j v (by simpa using h) r hr
    rw [rCells_cons, List.getElem?_append_right (by simp [rCell]; omega), show (j + 1) * 7 + r - (rCell a).length = j * 7 + r by simp [rCell]; omega]
    exact this
/-- a value that is told: its kind by the remainder -/
def ofV (k n : Int) (s : ByteArray) : V := if k % 4 = 1 then ⟨1, bits .and .i64 n 1, ⟨#[]⟩⟩ else if k % 4 = 2 then ⟨2, n, ⟨#[]⟩⟩ else if k % 4 = 3 then ⟨3, 0, s.extract 0 (min (s.size : Int) 64).toNat⟩ else ⟨0, 0, ⟨#[]⟩⟩
theorem ofV_good (k n : Int) (s : ByteArray) (hn : -9223372036854775808 ≤ n ∧ n ≤ 9223372036854775807) : val.Good (ofV k n s) := by
  unfold ofV
  split
  · exact .inr (.inl ⟨rfl, and_one n, rfl⟩)
  · split
    · exact .inr (.inr (.inl ⟨rfl, rfl, hn⟩))
    · split
      · exact .inr (.inr (.inr ⟨rfl, rfl, by show (s.extract 0 _).size ≤ 64; rw [ByteArray.size_extract]; omega⟩))
      · exact .inl ⟨rfl, rfl, rfl⟩
/-- a row's part -/
def partOf (x : Rw) : On × On := (oneOf (ofV x.ak x.an x.ta), oneOf (ofV x.bk x.bn x.tb))
end Go.Proofs.Ytmbafcfoboknkaa.agr
