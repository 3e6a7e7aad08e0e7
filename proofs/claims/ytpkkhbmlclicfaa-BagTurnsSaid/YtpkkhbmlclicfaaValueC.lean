/- The program's operators on values, walked: arithmetic, comparisons, all of Do. -/
import Derived.Test.YtpkkhbmlclicfaaValueW
import Derived.Test.YtpkkhbmlclicfaaAg
import Derived.Deep.RegionHeld3
import Derived.Deep.CutBlock
import Derived.Deep.DeepCutAuto
namespace Go.Proofs.Ytpkkhbmlclicfaa.val
set_option linter.unusedVariables false
open Go.RowKit
attribute [local go_sem high] run_eqlV run_neqV
attribute [local go_sem] ag.upon_value ag.upon_skip ag.upon_enter
attribute [local go_sem] Oper.semAt_some
/-! ### cmp's -/
theorem isNaN_int (x : Int) (W : World) : Calls Try.prog 62 #[.int .i64 x] W fun e w' => e = .returned (.bool false) ∧ W = w' := by
  go_enter Try.func62, Try.ntmps62
  go_wp2
  all_goals go_ret
  all_goals exact ⟨ret_bool (by simp), rfl⟩
theorem isNaN_int64 (x : Int) (W : World) : Calls Try.prog 63 #[.int .i64 x] W fun e w' => e = .returned (.bool false) ∧ W = w' := by
  go_enter Try.func63, Try.ntmps63
  go_wp2
  all_goals go_ret
  all_goals exact ⟨ret_bool (by simp), rfl⟩
theorem isNaN_str (x : ByteArray) (W : World) : Calls Try.prog 64 #[.string x] W fun e w' => e = .returned (.bool false) ∧ W = w' := by
  go_enter Try.func64, Try.ntmps64
  go_wp2
  all_goals go_ret
  all_goals exact ⟨ret_bool (by simp), rfl⟩
/-- the order of two numbers -/
def cmpI (a b : Int) : Int := if a < b then -1 else if b < a then 1 else 0
def cmpS (a b : ByteArray) : Int := if Op.bytesLess a.toList b.toList = true then -1 else if Op.bytesLess b.toList a.toList = true then 1 else 0
def cmpV (a b : V) : Int := if cmpI a.k b.k ≠ 0 then cmpI a.k b.k else if cmpI a.n b.n ≠ 0 then cmpI a.n b.n else cmpS a.s b.s
theorem cmp_int (a b : Int) (W : World) : Calls Try.prog 53 #[.int .i64 a, .int .i64 b] W fun e w' => e = .returned (.int .i64 (cmpI a b)) ∧ W = w' := by
  go_enter Try.func53, Try.ntmps53
  go_wp2_with (go_at_call 62; (refine (isNaN_int _ _).mono ?_; rintro e w1 ⟨rfl, rfl⟩))
  all_goals go_ret
  all_goals exact ⟨ret_i64 (by unfold cmpI; (repeat' split) <;> omega), rfl⟩
theorem cmp_int64 (a b : Int) (W : World) : Calls Try.prog 54 #[.int .i64 a, .int .i64 b] W fun e w' => e = .returned (.int .i64 (cmpI a b)) ∧ W = w' := by
  go_enter Try.func54, Try.ntmps54
  go_wp2_with (go_at_call 63; (refine (isNaN_int64 _ _).mono ?_; rintro e w1 ⟨rfl, rfl⟩))
  all_goals go_ret
  all_goals exact ⟨ret_i64 (by unfold cmpI; (repeat' split) <;> omega), rfl⟩
theorem cmp_str (a b : ByteArray) (W : World) : Calls Try.prog 55 #[.string a, .string b] W fun e w' => e = .returned (.int .i64 (cmpS a b)) ∧ W = w' := by
  go_enter Try.func55, Try.ntmps55
  go_wp2_with (go_at_call 64; (refine (isNaN_str _ _).mono ?_; rintro e w1 ⟨rfl, rfl⟩))
  all_goals go_ret
  · exact ⟨ret_i64 (by unfold cmpS; rw [if_pos ‹_›]), rfl⟩
  · have h1 : Op.bytesLess a.toList b.toList = false := by assumption
    have h2 : (!a.toList == b.toList) = true := by assumption
    have h3 : Op.bytesLess b.toList a.toList = true := by
      cases h : Op.bytesLess b.toList a.toList
      · have := bl_total _ _ h1 h
        rw [this] at h2; simp at h2
      · rfl
    exact ⟨ret_i64 (by unfold cmpS; rw [if_neg (by rw [h1]; decide), if_pos h3]), rfl⟩
  · have h2 : (!a.toList == b.toList) = false := by assumption
    have h3 : a.toList = b.toList := by simpa using h2
    exact ⟨ret_i64 (by unfold cmpS; rw [h3, bl_irrefl]; rfl), rfl⟩
/-- cmp.Or of three: the first that is not 0. -/
def or3 (x y z : Int) : Int := if x ≠ 0 then x else if y ≠ 0 then y else z
theorem or_three (x y z : Int) (W : World) (g : Nat) (hx : W.cell? ⟨g, 0, none⟩ = some (.int .i64 x)) (hy : W.cell? ⟨g, 1, none⟩ = some (.int .i64 y)) (hz : W.cell? ⟨g, 2, none⟩ = some (.int .i64 z)) (cap : Nat) :
    Calls Try.prog 52 #[.slice (some ⟨g, 0, none⟩) 3 cap] W fun e w' => e = .returned (.int .i64 (or3 x y z)) ∧ W = w' := by
  by_cases h1 : x = 0
  · subst h1
    by_cases h2 : y = 0
    · subst h2
      by_cases h3 : z = 0
      · subst h3
        go_enter Try.func52, Try.ntmps52
        go_wp2
        refine wp_loop_rounds 4 ?_
        rw [rounds_succ]
        go_wp2
        rw [rounds_succ]
        go_wp2
        rw [rounds_succ]
        go_wp2
        rw [rounds_succ]
        go_wp2
        go_ret
        exact ⟨rfl, rfl⟩
      · have z0 : (z == 0) = false := by simpa using h3
        have z1 : (z != 0) = true := by simpa using h3
        clear h3
        go_enter Try.func52, Try.ntmps52
        go_wp2
        refine wp_loop_rounds 4 ?_
        rw [rounds_succ]
        go_wp2
        rw [rounds_succ]
        go_wp2
        rw [rounds_succ]
        go_wp2
        go_ret
        exact ⟨ret_i64 (by unfold or3; simp), rfl⟩
    · have y0 : (y == 0) = false := by simpa using h2
      have y1 : (y != 0) = true := by simpa using h2
      have E := Lib.hid h2
      clear h2
      go_enter Try.func52, Try.ntmps52
      go_wp2
      refine wp_loop_rounds 4 ?_
      rw [rounds_succ]
      go_wp2
      rw [rounds_succ]
      go_wp2
      go_ret
      exact ⟨ret_i64 (by unfold or3; simp [E.out]), rfl⟩
  · have x0 : (x == 0) = false := by simpa using h1
    have x1 : (x != 0) = true := by simpa using h1
    have E := Lib.hid h1
    clear h1
    go_enter Try.func52, Try.ntmps52
    go_wp2
    refine wp_loop_rounds 4 ?_
    rw [rounds_succ]
    go_wp2
    go_ret
    exact ⟨ret_i64 (by unfold or3; simp [E.out]), rfl⟩
/-- three numbers in a new row -/
def three (x y z : Int) (v : Value) (w : World) : Prop := ∃ g cap, v = .slice (some ⟨g, 0, none⟩) 3 cap ∧ w.cell? ⟨g, 0, none⟩ = some (.int .i64 x) ∧ w.cell? ⟨g, 1, none⟩ = some (.int .i64 y) ∧ w.cell? ⟨g, 2, none⟩ = some (.int .i64 z)
end Go.Proofs.Ytpkkhbmlclicfaa.val
