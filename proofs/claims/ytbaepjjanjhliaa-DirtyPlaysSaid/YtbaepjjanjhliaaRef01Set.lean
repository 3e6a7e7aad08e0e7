/- The reference's arena: Set. -/
import Derived.Test.YtbaepjjanjhliaaRef01
namespace Go.Proofs.Ytbaepjjanjhliaa.ref01
set_option linter.unusedVariables false
open Go.RowKit

theorem infoInt : (Try.prog.info? 3).map (fun i => (i.zero, i.size, i.bytes)) = some (some (.int .i64 0), 1, 8) := by kernel_rfl

theorem boxes {w w1 : World} (c0 c1 c2 c3 z0 z1 z2 z3 : Value) (T : TypeId) (hb : Below ((w.alloc (.cells #[c0, c1, c2, c3] T)).alloc (.cells #[z0, z1, z2, z3] T)).heap.size ((w.alloc (.cells #[c0, c1, c2, c3] T)).alloc (.cells #[z0, z1, z2, z3] T)) w1) :
    Flds w1 w.heap.size T [c0, c1, c2, c3] ∧ Flds w1 (w.heap.size + 1) T [z0, z1, z2, z3] := by
  have h1 : Flds (w.alloc (.cells #[c0, c1, c2, c3] T)) w.heap.size T [c0, c1, c2, c3] := Flds.new w T _
  have h2 := Flds.new (w.alloc (.cells #[c0, c1, c2, c3] T)) T [z0, z1, z2, z3]
  rw [World.size_alloc] at h2
  exact ⟨(h1.alloc _).later hb, h2.later hb⟩

set_option maxRecDepth 100000 in
set_option maxHeartbeats 400000 in
theorem set_no (room : Int) (aT : Option Addr) (ts : List Int) (cT : Nat) (aU : Option Addr) (us : List Bool) (cU : Nat) (aF : Option Addr) (nF cF : Nat) (w : World)
    (hT : Row w (.slice aT us.length cT) 1 us.length (ts.map (Value.int .i64)))
    (hr : Row w (.slice aU us.length cU) 1 us.length (us.map Value.bool)) (hm : us.length ≤ 1048576) (i x : Int) (hb : has us i = false) :
    Calls Try.prog 15 #[st room aT us.length cT aU us.length cU aF nF cF, .int .i64 i, .int .i64 x] w fun e w' =>
      e = .returned (.tuple #[st room aT us.length cT aU us.length cU aF nF cF, .bool false]) ∧ Below w.heap.size w w' := by
  have hH := fun W (hB : Below w.heap.size w W) => has_any room aT us.length cT aU us cU aF nF cF W (hr.later hB) hm i
  rw [hb] at hH
  have HH := Lib.hid hH
  clear hH hT hr
  go_enter Try.func15, Try.ntmps15
  go_wp2_with (go_at_call 14; refine (HH.out _ (((Below.refl _ _).alloc (Nat.le_refl _) _).alloc (by simp) _)).mono ?_; rintro e w1 ⟨rfl, hb1⟩; obtain ⟨B1, B2⟩ := boxes _ _ _ _ _ _ _ _ _ hb1; have c0 := B1.cell 0; have c1 := B1.cell 1; have c2 := B1.cell 2; have c3 := B1.cell 3; have z0 := B2.cell 0; have z1 := B2.cell 1; have z2 := B2.cell 2; have z3 := B2.cell 3; have y0 := B2.frozen 0; have y1 := B2.frozen 1; have y2 := B2.frozen 2; have y3 := B2.frozen 3; simp only [List.getElem?_cons_zero, List.getElem?_cons_succ] at c0 c1 c2 c3 z0 z1 z2 z3; have HB2 := Lib.hid B2; have HB1 := Lib.hid hb1; clear B1 B2 hb1)
  have e0 : Below w.heap.size w w1 := (((Below.refl _ w).alloc (Nat.le_refl _) _).alloc (by simp) _).trans (HB1.out.mono (by simp; omega))
  have e5 := (((e0.setCell (p := ⟨w.heap.size + 1, 0, none⟩) (Nat.le_succ _) (.int .i64 room)).setCell (p := ⟨w.heap.size + 1, 1, none⟩) (Nat.le_succ _) (.slice aT us.length cT)).setCell (p := ⟨w.heap.size + 1, 2, none⟩) (Nat.le_succ _) (.slice aU us.length cU)).setCell (p := ⟨w.heap.size + 1, 3, none⟩) (Nat.le_succ _) (.slice aF nF cF)
  exact bodyPost_ret (v := .tuple #[st room aT us.length cT aU us.length cU aF nF cF, .bool false]) (by simp [results, Try.results15, go_sem, z0, z1, z2, z3]) rfl ⟨rfl, e5⟩

end Go.Proofs.Ytbaepjjanjhliaa.ref01
