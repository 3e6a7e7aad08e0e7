/- A record stored into its box, by an act that is a letter. -/
import Derived.Test.YtfnajccnlcfbiaaDoorExprFJ
import Derived.Test.YtfnajccnlcfbiaaDoorAgCx
namespace Go.Proofs.YtfnajccnlcfbiaaDoor.ex
set_option linter.unusedVariables false
open Go.RowKit
open ag (updB)
theorem of_fe_a {W : World} {g : Nat} {T : TypeId} {a0 a1 a2 a3 a4 a5 a6 a7 : Value} (h : Flds W g T [a0, a1, a2, a3, a4, a5, a6, a7]) : W.cell? ⟨g, 0, none⟩ = some a0 ∧ W.cell? ⟨g, 1, none⟩ = some a1 ∧ W.cell? ⟨g, 2, none⟩ = some a2 ∧ W.cell? ⟨g, 3, none⟩ = some a3 ∧ W.cell? ⟨g, 4, none⟩ = some a4 ∧ W.cell? ⟨g, 5, none⟩ = some a5 ∧ W.cell? ⟨g, 6, none⟩ = some a6 ∧ W.cell? ⟨g, 7, none⟩ = some a7 ∧ g < W.heap.size :=
  ⟨h.cell 0, h.cell 1, h.cell 2, h.cell 3, h.cell 4, h.cell 5, h.cell 6, h.cell 7, h.lt⟩
set_option maxRecDepth 100000 in
set_option maxHeartbeats 4000000 in
theorem does_store {o : Oper} {a : Act} {w : World} {g t1 t2 : Nat} {x0 x1 x2 x3 x4 x5 x6 x7 : Value} (hf : Flds w g TE [x0, x1, x2, x3, x4, x5, x6, x7]) (s : Er) (sa : Option Addr) (sn sc : Nat) (hs : s.lv = .slice sa sn sc) (ho : o.op = .store TE (.tmp t1) (.tmp t2)) (h1 : a.tmps[t1]?.getD undef = .pointer (some ⟨g, 0, none⟩)) (h2 : a.tmps[t2]?.getD undef = s.val) :
    ag.does Tryd.prog o a w (fun _ w' => w.grownBy w' (some g) ∧ Flds w' g TE s.cells) := by
  obtain ⟨y0, y1, y2, y3, y4, y5, y6, y7, l3⟩ := of_fe_a hf
  have z0 := hf.frozen 0; have z1 := hf.frozen 1; have z2 := hf.frozen 2; have z3 := hf.frozen 3; have z4 := hf.frozen 4; have z5 := hf.frozen 5; have z6 := hf.frozen 6; have z7 := hf.frozen 7
  have HF := Lib.hid hf
  obtain ⟨sk, sop, sv, stb, snm, slv⟩ := s
  dsimp only at hs
  subst hs
  unfold Er.val at h2
  dsimp only at h2
  obtain ⟨op⟩ := o
  dsimp only at ho
  subst ho
  clear hf
  unfold ag.does
  go_simp
  have hf := HF.out
  exact ⟨grown_two (grown_two (grown_two (grown_two (grown_two (grown_two (grown_two (grown_setCell _ ⟨g, 0, none⟩ _) (grown_setCell _ ⟨g, 1, none⟩ _)) (grown_setCell _ ⟨g, 2, none⟩ _)) (grown_setCell _ ⟨g, 3, none⟩ _)) (grown_setCell _ ⟨g, 4, none⟩ _)) (grown_setCell _ ⟨g, 5, none⟩ _)) (grown_setCell _ ⟨g, 6, none⟩ _)) (grown_setCell _ ⟨g, 7, none⟩ _), ((((((((hf.set 0 (.int .i64 sk)).set 1 (.int .i64 sop)).set 2 (.int .i64 sv.k)).set 3 (.int .i64 sv.n)).set 4 (.string sv.s)).set 5 (.string stb)).set 6 (.string snm)).set 7 (.slice sa sn sc))⟩
end Go.Proofs.YtfnajccnlcfbiaaDoor.ex
