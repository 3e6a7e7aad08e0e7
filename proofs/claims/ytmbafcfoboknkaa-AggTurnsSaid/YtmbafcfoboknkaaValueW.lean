/- The program's operators on values, walked. -/
import Derived.Test.YtmbafcfoboknkaaRows
import Derived.Test.YtmbafcfoboknkaaValueP
import Derived.Test.YtmbafcfoboknkaaKit
import Derived.WalkLawsBesides
import Derived.Deep.QuietTactic
import Derived.BigQuiet
import Derived.Outline
namespace Go.Proofs.Ytmbafcfoboknkaa.val
set_option linter.unusedVariables false
open Go.RowKit
abbrev TV : TypeId := 63
abbrev ag3 (k n : Int) (s : ByteArray) : Value := .agg #[.int .i64 k, .int .i64 n, .string s]
theorem ret_bool {a b : Bool} (h : a = b) : Ending.returned (.bool a) = .returned (.bool b) := by rw [h]
theorem bcell {W w1 : World} (hb : Below W.heap.size W w1) : (∀ b o, b < W.heap.size → w1.cell? ⟨b, o, none⟩ = W.cell? ⟨b, o, none⟩) ∧ (∀ b o, b < W.heap.size → w1.frozen? ⟨b, o, none⟩ = W.frozen? ⟨b, o, none⟩) :=
  ⟨fun b o h => hb.cell (p := ⟨b, o, none⟩) h, fun b o h => hb.frozen (p := ⟨b, o, none⟩) h⟩
theorem below_alloc1 (W : World) (o : Go.Obj) : Below W.heap.size W (W.alloc o) := (Below.refl _ _).alloc (Nat.le_refl _) _
theorem below_alloc2 (W : World) (o o' : Go.Obj) : Below W.heap.size W ((W.alloc o).alloc o') := ((Below.refl _ _).alloc (Nat.le_refl _) _).alloc (by simp) _
theorem run_eqlV (k n : Int) (s : ByteArray) (k' n' : Int) (s' : ByteArray) (w : World) : (binOp .eql 63 (ag3 k n s) (ag3 k' n' s')).run Try.prog w = .ok (.bool (veq6 k n s k' n' s')) w := by
  rw [run_eql_struct]
  go_simp
  unfold veq6
  by_cases h1 : k = k' <;> by_cases h2 : n = n' <;> by_cases h3 : s.toList = s'.toList <;> simp [h1, h2, h3]
theorem run_neqV (k n : Int) (s : ByteArray) (k' n' : Int) (s' : ByteArray) (w : World) : (binOp .neq 63 (ag3 k n s) (ag3 k' n' s')).run Try.prog w = .ok (.bool (!veq6 k n s k' n' s')) w := by
  rw [run_neq_struct]
  go_simp
  unfold veq6
  by_cases h1 : k = k' <;> by_cases h2 : n = n' <;> by_cases h3 : s.toList = s'.toList <;> simp [h1, h2, h3]
theorem after {W X w1 : World} (h : Below W.heap.size W X) (hb : Below X.heap.size X w1) : Below W.heap.size W w1 := h.trans (hb.mono h.size)
theorem ofInt_any (n : Int) (W : World) : Calls Try.prog 19 #[.int .i64 n] W fun e w' => e = .returned (ag3 2 n ByteArray.empty) ∧ Below W.heap.size W w' := by
  go_enter Try.func19, Try.ntmps19
  go_wp2
  exact bodyPost_ret (v := ag3 _ _ _) (by simp [results, Try.results19, go_sem]; rfl) rfl ⟨rfl, below_alloc1 _ _⟩
attribute [local go_sem high] run_eqlV run_neqV
end Go.Proofs.Ytmbafcfoboknkaa.val
