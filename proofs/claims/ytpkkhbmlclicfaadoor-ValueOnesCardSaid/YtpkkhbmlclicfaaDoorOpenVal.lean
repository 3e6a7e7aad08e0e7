/- One value among the arguments, opened. -/
import Derived.Test.YtpkkhbmlclicfaaDoorRows
import Derived.ProofKit
import Derived.OpenShut
import Derived.Lib.SmallJoins
import Derived.Deep.Strs
import Derived.WideShapes
namespace Go.Proofs.YtpkkhbmlclicfaaDoor.val
set_option linter.unusedVariables false
open Go.ChangeShapes Go.WideShapes Go.ChangeAt Go.RowKit Go.Deep

set_option maxRecDepth 100000 in
theorem open_val {H : Type} {enc : TypeId × Value → H} {W : World} {base : Nat} {r : Reach} {b0 : Nat} {spare : Nat → Bool} {held : Bool} {v : Value} {d : DataW H} {p : List MemPlace}
    (hv : Value.okWide Tryd.prog W r b0 23 v) (h : DataW.Trod enc Tryd.prog W base spare held 23 v d p) :
    ∃ k n s, v = .agg #[.int .u8 k, .int .i64 n, .string s] ∧ (0 ≤ k ∧ k ≤ 255) ∧ (-9223372036854775808 ≤ n ∧ n ≤ 9223372036854775807) ∧ s.size ≤ maxLen := by
  obtain ⟨cs, rfl, hsz⟩ := okWide_struct Tryd.underlying23 hv
  have h3 : Tryd.prog.cellsOf 23 = 3 := by kernel_rfl
  have h1 : Tryd.prog.cellsOf 2 = 1 := by kernel_rfl
  have hu : Tryd.prog.cellsOf 5 = 1 := by kernel_rfl
  have hs : Tryd.prog.cellsOf 9 = 1 := by kernel_rfl
  obtain ⟨c0, c1, c2, rfl⟩ := Joins.array3 (hsz.trans h3)
  obtain ⟨fuel, hf⟩ := h
  obtain ⟨x0, x1, x2, k, -, -, q0, q1, q2⟩ := trod_struct3 Tryd.underlying23 hf
  simp only [Value.cells, hu, hs, h1, List.drop_succ_cons, List.drop_zero, List.take_succ_cons, List.take_zero] at q0 q1 q2
  obtain ⟨kx, e0, -, w0⟩ := DataW.trod_int Tryd.underlying5 q0
  obtain ⟨nx, e1, -, w1⟩ := DataW.trod_int Tryd.underlying2 q1
  obtain ⟨sx, e2, -, w2⟩ := DataW.trod_string Tryd.underlying9 q2
  simp only [List.cons.injEq, and_true] at e0 e1 e2
  subst e0 e1 e2
  exact ⟨kx, nx, sx, rfl, bounds_u8 w0, bounds_i64 w1, w2⟩

end Go.Proofs.YtpkkhbmlclicfaaDoor.val
