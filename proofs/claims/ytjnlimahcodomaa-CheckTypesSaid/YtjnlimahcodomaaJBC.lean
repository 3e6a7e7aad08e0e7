/- How values are shown, by both texts. -/
import Derived.Test.YtjnlimahcodomaaValueKJ
import Derived.Sort.Grow
import Derived.LoopTactic
import Derived.Outline
namespace Go.Proofs.Ytjnlimahcodomaa.val
set_option linter.unusedVariables false
open Go.RowKit
attribute [local go_sem high] run_eqlV run_neqV
theorem quote_dup (s : ByteArray) : quote s = ⟨(39 :: (dup s.data.toList ++ [39])).toArray⟩ := by
  unfold quote inner
  rw [replaceAll_dup]
  apply ByteArray.ext
  simp [q1]
end Go.Proofs.Ytjnlimahcodomaa.val
/- How values are shown, by the document's text. -/
namespace Go.Proofs.Ytjnlimahcodomaa.val
set_option linter.unusedVariables false
open Go.RowKit
/-- what is written of a text -/
def Qd (s : ByteArray) (k : Nat) (S : ByteArray) : Prop := S = ⟨(39 :: dup (s.data.toList.take k)).toArray⟩
theorem dup_len : ∀ l : List UInt8, (dup l).length ≤ 2 * l.length
  | [] => by simp [dup]
  | c :: l => by
    have := dup_len l
    rw [dup_cons, List.length_append, List.length_cons]
    split <;> simp <;> omega
theorem Qd.size {s S : ByteArray} {k : Nat} (h : Qd s k S) : S.size ≤ 1 + 2 * k := by
  have h1 := dup_len (s.data.toList.take k)
  have h2 := List.length_take_le k s.data.toList
  rw [h]
  show (39 :: dup (s.data.toList.take k)).length ≤ _
  rw [List.length_cons]; omega
theorem ext_one (s : ByteArray) (k : Nat) (h : k < s.size) : (s.extract k (k + 1)).data.toList = [s[k]] := by
  rw [ByteArray.data_extract, Array.toList_extract]
  have h' : k < s.data.toList.length := h
  rw [List.extract_eq_take_drop, Nat.add_sub_cancel_left, List.drop_eq_getElem_cons h']
  rfl
theorem Qd.two {s S : ByteArray} {k : Nat} (h : Qd s k S) (hk : k < s.size) (hc : s[k] = 39) : Qd s (k + 1) (S ++ s.extract k (k + 1) ++ ⟨#[39]⟩) := by
  unfold Qd at *
  rw [take_snoc s k hk, dup_snoc, if_pos hc, h]
  apply ByteArray.ext
  rw [ByteArray.data_append, ByteArray.data_append]
  apply Array.toList_inj.1
  rw [Array.toList_append, Array.toList_append, ext_one s k hk, hc]
  simp
theorem Qd.done {s S : ByteArray} (h : Qd s s.size S) : S ++ ⟨#[39]⟩ = quote s := by
  rw [quote_dup, h, take_all s _ (Nat.le_refl _)]
  apply ByteArray.ext
  simp
end Go.Proofs.Ytjnlimahcodomaa.val
