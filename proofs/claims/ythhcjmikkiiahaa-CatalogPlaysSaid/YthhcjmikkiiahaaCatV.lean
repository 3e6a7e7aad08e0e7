/- Lists of names in memory, and when two are the same. -/
import Derived.Test.YthhcjmikkiiahaaCatU
import Derived.Test.YthhcjmikkiiahaaAgC
namespace Go.Proofs.Ythhcjmikkiiahaa.cat
set_option linter.unusedVariables false
open Go.RowKit Go.WideShapes Go.MapKept
/-- a list of names in memory -/
def StrsV (L : List ByteArray) (v : Value) (W : World) : Prop := ∃ (a : Option Addr) (c : Nat), v = .slice a L.length c ∧ Row W (.slice a L.length c) 1 L.length (L.map Value.string)
theorem StrsV.lasts {L : List ByteArray} {v : Value} {W W' : World} (h : StrsV L v W) (hb : Below W.heap.size W W') : StrsV L v W' := by
  obtain ⟨a, c, h1, h2⟩ := h
  exact ⟨a, c, h1, h2.later hb⟩
theorem sortB_len (l : List ByteArray) : (sortB l).length = l.length := by rw [← fold_sort, fold_len]
theorem strs_of_owns {L : List ByteArray} {v : Value} {W : World} {B : Nat} (h : W.ownsRow B TK 1 v L.length (L.map Value.string)) : StrsV L v W := by
  obtain ⟨a, c, rfl⟩ := owns_shape h
  exact ⟨a, c, rfl, Row.of_owns h⟩
theorem same_strs {L : List ByteArray} (hL : L.length ≤ 1000000) {v v' : Value} {w : World} (h : StrsV L v w) (h' : StrsV L v' w) : Calls Try.prog 44 #[v, v'] w fun en w' => en = .returned (.bool true) ∧ Below w.heap.size w w' := by
  obtain ⟨a, c, rfl, h2⟩ := h
  obtain ⟨a', c', rfl, h2'⟩ := h'
  refine (same_any a a' L.length c L.length c' L L rfl hL rfl hL w h2 h2').mono ?_
  rintro e w' ⟨rfl, hb⟩
  exact ⟨by simp, hb⟩
/-- what the program's Names tells -/
def CNames (S : CatS) (w : World) (e : Ending) (w' : World) : Prop := ∃ v v', e = .returned (.tuple #[v, v']) ∧ StrsV (sortB S.tn) v w' ∧ StrsV (sortB S.vn) v' w' ∧ Below w.heap.size w w'
theorem enc_strs (L : List Bs) : L.map encStr = (L.map bA).map Value.string := by
  rw [List.map_map]
  rfl
end Go.Proofs.Ythhcjmikkiiahaa.cat
