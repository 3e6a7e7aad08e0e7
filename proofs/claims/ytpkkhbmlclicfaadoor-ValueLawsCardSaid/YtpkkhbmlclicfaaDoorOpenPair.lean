/- The argument of the law ValueLaws, opened. -/
import Derived.Test.YtpkkhbmlclicfaaDoorRows
import Derived.ProofKit
import Derived.OpenShut
import Derived.Lib.SmallJoins
import Derived.Deep.Strs
import Derived.WideShapes
namespace Go.Proofs.YtpkkhbmlclicfaaDoor.val
set_option linter.unusedVariables false
open Go.ChangeShapes Go.WideShapes Go.ChangeAt Go.RowKit Go.Deep

theorem array8 {α : Type} {cs : Array α} (h : cs.size = 8) : ∃ c0 c1 c2 c3 c4 c5 c6 c7, cs = #[c0, c1, c2, c3, c4, c5, c6, c7] := by
  obtain ⟨l⟩ := cs
  match l, h with
  | [c0, c1, c2, c3, c4, c5, c6, c7], _ => exact ⟨c0, c1, c2, c3, c4, c5, c6, c7, rfl⟩
set_option maxRecDepth 100000 in
theorem open_pair {H : Type} {enc : TypeId × Value → H} {W : World} {base : Nat} {r : Reach} {b0 : Nat} {spare : Nat → Bool} {held : Bool} {v : Value} {d : DataW H} {p : List MemPlace}
    (hv : Value.okWide Tryd.prog W r b0 48 v) (h : DataW.Trod enc Tryd.prog W base spare held 48 v d p) :
    ∃ kx nx sx ky ny sy a b, v = .agg #[.int .u8 kx, .int .i64 nx, .string sx, .int .u8 ky, .int .i64 ny, .string sy, .int .i64 a, .int .i64 b] ∧
      (-9223372036854775808 ≤ a ∧ a ≤ 9223372036854775807) ∧ (-9223372036854775808 ≤ b ∧ b ≤ 9223372036854775807) := by
  obtain ⟨cs, rfl, hsz⟩ := okWide_struct Tryd.underlying48 hv
  have hC : Tryd.prog.cellsOf 48 = 8 := by kernel_rfl
  have h3 : Tryd.prog.cellsOf 23 = 3 := by kernel_rfl
  have h1 : Tryd.prog.cellsOf 2 = 1 := by kernel_rfl
  have hu : Tryd.prog.cellsOf 5 = 1 := by kernel_rfl
  have hs : Tryd.prog.cellsOf 9 = 1 := by kernel_rfl
  obtain ⟨c0, c1, c2, c3, c4, c5, c6, c7, rfl⟩ := array8 (hsz.trans hC)
  obtain ⟨fuel, hf⟩ := h
  obtain ⟨y0, y1, y2, y3, n, -, -, g0, g1, g2, g3⟩ := Joins.trod_struct4 Tryd.underlying48 hf
  simp only [Value.cells, h3, h1, List.drop_succ_cons, List.drop_zero, List.take_succ_cons, List.take_zero] at g0 g1 g2 g3
  obtain ⟨x0, x1, x2, k, -, -, q0, q1, q2⟩ := trod_struct3 Tryd.underlying23 g0
  obtain ⟨z0, z1, z2, k', -, -, r0, r1, r2⟩ := trod_struct3 Tryd.underlying23 g1
  simp only [hu, hs, h1, List.drop_succ_cons, List.drop_zero, List.take_succ_cons, List.take_zero] at q0 q1 q2 r0 r1 r2
  obtain ⟨kx, e0, -⟩ := DataW.trod_int Tryd.underlying5 q0
  obtain ⟨nx, e1, -⟩ := DataW.trod_int Tryd.underlying2 q1
  obtain ⟨sx, e2, -⟩ := DataW.trod_string Tryd.underlying9 q2
  obtain ⟨ky, e3, -⟩ := DataW.trod_int Tryd.underlying5 r0
  obtain ⟨ny, e4, -⟩ := DataW.trod_int Tryd.underlying2 r1
  obtain ⟨sy, e5, -⟩ := DataW.trod_string Tryd.underlying9 r2
  obtain ⟨a, e6, -, w6⟩ := DataW.trod_int Tryd.underlying2 g2
  obtain ⟨b, e7, -, w7⟩ := DataW.trod_int Tryd.underlying2 g3
  simp only [List.cons.injEq, and_true] at e0 e1 e2 e3 e4 e5 e6 e7
  subst e0 e1 e2 e3 e4 e5 e6 e7
  exact ⟨kx, nx, sx, ky, ny, sy, a, b, rfl, bounds_i64 w6, bounds_i64 w7⟩

end Go.Proofs.YtpkkhbmlclicfaaDoor.val
