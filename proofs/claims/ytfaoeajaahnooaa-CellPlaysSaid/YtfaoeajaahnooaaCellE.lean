/- A store of cells: a new one; none. -/
import Derived.Test.YtfaoeajaahnooaaCellD
namespace Go.Proofs.Ytfaoeajaahnooaa.cel
set_option linter.unusedVariables false
open Go.RowKit Go.WideShapes Go.MapKept
attribute [local go_sem] fieldT Go.RowKit.run_makeMap
/-- no cell -/
def CS.no : CS := ⟨fun _ => ByteArray.empty, fun _ => [], 0⟩
theorem new_cel (w : World) : ∃ W, W = ((w.alloc (.map #[] 0)).alloc (.map #[] 0)).alloc (.cells #[.map (some w.heap.size), .map (some (w.heap.size + 1)), .int .i64 0] TSt) ∧ Cel (fun k => w.heap.size ≤ k ∧ k < W.heap.size) (w.heap.size + 1 + 1) 0 CS.no W w.heap.size (w.heap.size + 1) (.map []) (.map []) (fun _ => none) ∧ Below w.heap.size w W := by
  have z1 : (w.alloc (.map #[] 0)).heap.size = w.heap.size + 1 := World.size_alloc _ _
  have z2 : ((w.alloc (.map #[] 0)).alloc (.map #[] 0)).heap.size = w.heap.size + 1 + 1 := by rw [World.size_alloc, z1]
  have hf := Flds.new ((w.alloc (.map #[] 0)).alloc (.map #[] 0)) TSt [.map (some w.heap.size), .map (some (w.heap.size + 1)), .int .i64 0]
  rw [z2] at hf
  have h1 := World.ownsMap_made w Try.prog TK txE
  have h2 := World.ownsMap_made (w.alloc (.map #[] 0)) Try.prog TK wsE
  rw [z1] at h2
  refine ⟨_, rfl, ?_, ((Below.refl _ _).alloc (Nat.le_refl _) _ |>.alloc (by omega) _ |>.alloc (by omega) _)⟩
  have z3 : (((w.alloc (.map #[] 0)).alloc (.map #[] 0)).alloc (.cells #[.map (some w.heap.size), .map (some (w.heap.size + 1)), .int .i64 0] TSt)).heap.size = w.heap.size + 1 + 1 + 1 := by rw [World.size_alloc, z2]
  refine ⟨hf, ⟨by omega, by omega⟩, ⟨by omega, by omega⟩, ⟨by omega, by omega⟩, by omega, (h1.kept (World.grownBy_alloc _ _ none) (by simp)).kept (World.grownBy_alloc _ _ none) (by simp), fun s _ => rfl, fun s _ => ?_, h2.kept (World.grownBy_alloc _ _ none) (by simp), fun s _ => rfl, fun s _ _ => rfl, fun s b _ h => (by cases h), fun s s' b _ _ h => (by cases h)⟩
  simp [CS.no, Go.Maps.has]
set_option maxRecDepth 100000 in
set_option maxHeartbeats 400000 in
theorem new_any (w : World) : Calls Try.prog 6 #[] w fun e w' => ∃ bs bt bw, e = .returned (.pointer (some ⟨bs, 0, none⟩)) ∧ Cel (fun k => w.heap.size ≤ k ∧ k < w'.heap.size) bs 0 CS.no w' bt bw (.map []) (.map []) (fun _ => none) ∧ Below w.heap.size w w' := by
  go_enter Try.func6, Try.ntmps6
  go_wp2_with fail
  go_ret
  obtain ⟨W, e, h1, h2⟩ := new_cel w
  rw [← e]
  exact ⟨_, _, _, rfl, h1, h2⟩
set_option maxRecDepth 100000 in
set_option maxHeartbeats 400000 in
theorem get_none (w : World) (k : ByteArray) : Calls Try.prog 13 #[.pointer none, .string k] w fun e w' => e = .returned (.string ByteArray.empty) ∧ w' = w := by
  go_enter Try.func13, Try.ntmps13
  go_wp2_with fail
  go_ret
  exact ⟨rfl, rfl⟩
set_option maxRecDepth 100000 in
set_option maxHeartbeats 400000 in
theorem set_none (w : World) (k t : ByteArray) : Calls Try.prog 11 #[.pointer none, .string k, .string t] w fun e w' => e = .returned (.slice none 0 0) ∧ w' = w := by
  go_enter Try.func11, Try.ntmps11
  go_wp2_with fail
  go_ret
  exact ⟨rfl, rfl⟩
set_option maxRecDepth 100000 in
set_option maxHeartbeats 400000 in
theorem watch_none (w : World) (k : ByteArray) (i : Int) : Calls Try.prog 8 #[.pointer none, .string k, .int .i64 i] w fun e w' => e = .returned (.bool false) ∧ w' = w := by
  go_enter Try.func8, Try.ntmps8
  go_wp2_with fail
  go_ret
  exact ⟨rfl, rfl⟩
set_option maxRecDepth 100000 in
set_option maxHeartbeats 400000 in
theorem unwatch_none (w : World) (k : ByteArray) (i : Int) : Calls Try.prog 10 #[.pointer none, .string k, .int .i64 i] w fun e w' => e = .returned (.bool false) ∧ w' = w := by
  go_enter Try.func10, Try.ntmps10
  go_wp2_with fail
  go_ret
  exact ⟨rfl, rfl⟩
set_option maxRecDepth 100000 in
set_option maxHeartbeats 400000 in
theorem watched_none (w : World) (k : ByteArray) : Calls Try.prog 14 #[.pointer none, .string k] w fun e w' => e = .returned (.slice none 0 0) ∧ w' = w := by
  go_enter Try.func14, Try.ntmps14
  go_wp2_with fail
  go_ret
  exact ⟨rfl, rfl⟩
set_option maxRecDepth 100000 in
set_option maxHeartbeats 400000 in
theorem len_none (w : World) : Calls Try.prog 17 #[.pointer none] w fun e w' => e = .returned (.int .i64 0) ∧ w' = w := by
  go_enter Try.func17, Try.ntmps17
  go_wp2_with fail
  go_ret
  exact ⟨rfl, rfl⟩
set_option maxRecDepth 100000 in
set_option maxHeartbeats 400000 in
theorem watches_none (w : World) : Calls Try.prog 16 #[.pointer none] w fun e w' => e = .returned (.int .i64 0) ∧ w' = w := by
  go_enter Try.func16, Try.ntmps16
  go_wp2_with fail
  go_ret
  exact ⟨rfl, rfl⟩
set_option maxRecDepth 100000 in
set_option maxHeartbeats 400000 in
theorem all_any (a : Option Addr) (w : World) : Calls Try.prog 15 #[.pointer a] w fun e w' => e = .returned (.func (.func 21) #[] #[.pointer (some ⟨w.heap.size, 0, none⟩)]) ∧ w' = w.alloc (.cells #[.pointer a] 24) := by
  go_enter Try.func15, Try.ntmps15
  go_wp2_with fail
  go_ret
  exact ⟨rfl, rfl⟩
end Go.Proofs.Ytfaoeajaahnooaa.cel
