/- Numerals of the document, walked. -/
import Derived.Test.YtmbafcfoboknkaaValueD
import Derived.Test.YtmbafcfoboknkaaShelf
import Derived.Test.YtmbafcfoboknkaaValueK
import Derived.Lib.SplitLaws
import Derived.Lib.Replace
import Derived.Lib.Strings
import Derived.LoopTactic
import Derived.Outline
namespace Go.Proofs.Ytmbafcfoboknkaa.val
set_option linter.unusedVariables false
open Go.RowKit
theorem dig_str (u : Nat) (out : List UInt8) : strOfNums [((48 + u % 10 : Nat) : Int)] ++ (⟨out.toArray⟩ : ByteArray) = ⟨(dig u :: out).toArray⟩ := by
  have e : strOfNums [((48 + u % 10 : Nat) : Int)] = ⟨#[dig u]⟩ := by
    unfold strOfNums dig
    rw [List.map_cons, List.map_nil, Int.toNat_natCast]
  rw [e]
  apply ByteArray.ext
  simp
theorem dig_len {n u : Nat} {out : List UInt8} (hn : n ≤ 9223372036854775808) (h : u * 10 ^ out.length ≤ n) (h0 : u = 0 → out = []) : out.length ≤ 18 := by
  by_cases hu : u = 0
  · rw [h0 hu]; decide
  · have h1 : 10 ^ out.length ≤ n := Nat.le_trans (Nat.le_mul_of_pos_left _ (by omega)) h
    have h2 : (10 : Nat) ^ out.length < 10 ^ 19 := by have : (10 : Nat) ^ 19 = 10000000000000000000 := by decide
                                                      omega
    have := (Nat.pow_lt_pow_iff_right (by decide : 1 < 10)).1 h2
    omega
/-- ahead of a round -/
structure DL (n u : Nat) (out : List UInt8) (S : ByteArray) : Prop where
  dig : Dig n u out
  bd : u * 10 ^ out.length ≤ n
  nil : u = 0 → out = []
  str : S = ⟨out.toArray⟩
theorem DL.size {n u : Nat} {out : List UInt8} {S : ByteArray} (h : DL n u out S) (hn : n ≤ 9223372036854775808) : S.size ≤ 18 := by
  have := dig_len hn h.bd h.nil
  rw [h.str]; exact this
theorem DL.done {n u : Nat} {out : List UInt8} {S : ByteArray} (h : DL n u out S) (hu : u / 10 = 0) : strOfNums [((48 + u % 10 : Nat) : Int)] ++ S = ⟨(Lib.decDigits n).toArray⟩ := by
  rw [h.dig.done hu, h.str]; exact dig_str u out
end Go.Proofs.Ytmbafcfoboknkaa.val
