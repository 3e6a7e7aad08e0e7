/- The document's operators on values, walked. -/
import Derived.Test.YtpkkhbmlclicfaaDoorValueB
namespace Go.Proofs.YtpkkhbmlclicfaaDoor.val
set_option linter.unusedVariables false
open Go.RowKit

theorem run_eqR (k n : Int) (s : ByteArray) (k' n' : Int) (s' : ByteArray) (w : World) : (binOp .eql 27 (ag3 k n s) (ag3 k' n' s')).run Tryd.prog w = .ok (.bool (veq6 k n s k' n' s')) w := by
  rw [run_eql_struct]
  go_simp
  unfold veq6
  by_cases h1 : k = k' <;> by_cases h2 : n = n' <;> by_cases h3 : s.toList = s'.toList <;> simp [h1, h2, h3]
theorem run_neR (k n : Int) (s : ByteArray) (k' n' : Int) (s' : ByteArray) (w : World) : (binOp .neq 27 (ag3 k n s) (ag3 k' n' s')).run Tryd.prog w = .ok (.bool (!veq6 k n s k' n' s')) w := by
  rw [run_neq_struct]
  go_simp
  unfold veq6
  by_cases h1 : k = k' <;> by_cases h2 : n = n' <;> by_cases h3 : s.toList = s'.toList <;> simp [h1, h2, h3]
attribute [local go_sem high] run_eqR run_neR

theorem boolean_ref (b : Bool) (W : World) : Calls Tryd.prog 44 #[.bool b] W fun e w' => e = .returned (ag3 (ofB b).k (ofB b).n (ofB b).s) ∧ Below W.heap.size W w' := by
  cases b
  all_goals
    go_enter Tryd.func44, Tryd.ntmps44
    go_wp2
    exact bodyPost_ret (v := ag3 _ _ _) (by simp [results, Tryd.results44, go_sem]; exact ⟨rfl, rfl, rfl⟩) rfl ⟨rfl, below_alloc1 _ _⟩
theorem add_ref (a b : Int) (ha : -9223372036854775808 ≤ a ∧ a ≤ 9223372036854775807) (hb : -9223372036854775808 ≤ b ∧ b ≤ 9223372036854775807) (W : World) :
    Calls Tryd.prog 45 #[.int .i64 a, .int .i64 b] W fun e w' => ∃ m, e = .returned (.tuple #[.int .i64 m, .bool (decide (InR (a + b)))]) ∧ (InR (a + b) → m = a + b) ∧ Below W.heap.size W w' := by
  go_enter Tryd.func45, Tryd.ntmps45
  go_wp2
  all_goals go_ret2
  all_goals first
    | exact ⟨a + b, ret_ib (by simp; omega), fun _ _ => rfl, Below.refl _ _⟩
    | exact ⟨0, ret_ib (by simp; omega), fun _ _ => (by omega), Below.refl _ _⟩

set_option maxHeartbeats 1000000 in
theorem times_ref (a b : Int) (ha : -9223372036854775808 ≤ a ∧ a ≤ 9223372036854775807) (hb : -9223372036854775808 ≤ b ∧ b ≤ 9223372036854775807) (W : World) :
    Calls Tryd.prog 46 #[.int .i64 a, .int .i64 b] W fun e w' => ∃ m, e = .returned (.tuple #[.int .i64 m, .bool (timesB a b)]) ∧ (timesB a b = true → m = timesN a b) ∧ Below W.heap.size W w' := by
  by_cases h0 : a = 0
  · subst h0
    have hx := Lib.hid (times_zero 0 b (.inl rfl))
    go_enter Tryd.func46, Tryd.ntmps46
    go_wp2
    go_ret2
    exact ⟨0, (ret_ib hx.out.2.symm), fun _ => hx.out.1.symm, Below.refl _ _⟩
  · have a0 : (a == 0) = false := by simpa using h0
    by_cases h1 : b = 0
    · subst h1
      have hx := Lib.hid (times_zero a 0 (.inr rfl))
      go_enter Tryd.func46, Tryd.ntmps46
      go_wp2
      go_ret2
      exact ⟨0, (ret_ib hx.out.2.symm), fun _ => hx.out.1.symm, Below.refl _ _⟩
    · have b0 : (b == 0) = false := by simpa using h1
      have hq := Lib.hid (times_q a b ha hb h1)
      by_cases h2 : b = -1 ∧ a = -9223372036854775808
      · obtain ⟨rfl, rfl⟩ := h2
        go_enter Tryd.func46, Tryd.ntmps46
        go_wp2
        go_ret2
        exact ⟨0, rfl, fun _ => rfl, Below.refl _ _⟩
      · by_cases h3 : b = -1
        · subst h3
          have a1 : (a == -9223372036854775808) = false := by simpa using h2
          by_cases h4 : a = -1
          · subst h4
            go_enter Tryd.func46, Tryd.ntmps46
            go_wp2
            go_quiet (fail)
            go_wp2
            go_ret2
            exact ⟨1, rfl, fun _ => rfl, below_drewN (Below.refl _ _) _⟩
          · have a2 : (a == -1) = false := by simpa using h4
            clear hq
            go_enter Tryd.func46, Tryd.ntmps46
            go_wp2
            go_quiet (fail)
            go_wp2
            go_ret2
            have hn : a * (-1) = -a := by omega
            have ha1 : a ≠ -9223372036854775808 := by simpa using a1
            have hB : timesB a (-1) = true := by unfold timesB; rw [hn, Bool.and_eq_true, decide_eq_true_eq, decide_eq_true_eq]; omega
            have hN : timesN a (-1) = -a := by unfold timesN; rw [hn, if_pos (by omega)]
            exact ⟨-a, ret_ib hB.symm, fun _ => hN.symm, below_drewN (Below.refl _ _) _⟩
        · have b1 : (b == -1) = false := by simpa using h3
          by_cases h4 : a = -1
          · subst h4
            by_cases h5 : b = -9223372036854775808
            · subst h5
              go_enter Tryd.func46, Tryd.ntmps46
              go_wp2
              go_ret2
              exact ⟨0, rfl, fun _ => rfl, Below.refl _ _⟩
            · have b2 : (b == -9223372036854775808) = false := by simpa using h5
              go_enter Tryd.func46, Tryd.ntmps46
              go_wp2
              go_quiet (fail)
              go_wp2
              go_ret2
              have hn : (-1) * b = -b := by omega
              have hB : timesB (-1) b = true := by unfold timesB; rw [hn, Bool.and_eq_true, decide_eq_true_eq, decide_eq_true_eq]; omega
              have hN : timesN (-1) b = -b := by unfold timesN; rw [hn, if_pos (by omega)]
              exact ⟨-b, ret_ib hB.symm, fun _ => hN.symm, below_drewN (Below.refl _ _) _⟩
          · have a2 : (a == -1) = false := by simpa using h4
            go_enter Tryd.func46, Tryd.ntmps46
            go_wp2
            go_quiet (fail)
            go_wp2
            go_ret2
            rw [← IntWalk.i64_left, ← IntWalk.i64_left]
            rw [wrap_tdiv (a * b) b h1 h3]
            exact ⟨_, ret_ib hq.out.1, hq.out.2, below_drewN (Below.refl _ _) _⟩

set_option maxRecDepth 100000 in
set_option maxHeartbeats 1000000 in
theorem ref_arg (op ka na kb nb : Int) (sa sb : ByteArray) (W : World) (h : op < 1 ∨ 14 < op) : Calls Tryd.prog 13 #[.int .i64 op, ag3 ka na sa, ag3 kb nb sb] W fun e w' => e = .returned (.tuple #[vv (doV op ⟨ka, na, sa⟩ ⟨kb, nb, sb⟩).1, .int .i64 (doV op ⟨ka, na, sa⟩ ⟨kb, nb, sb⟩).2]) ∧ Below W.heap.size W w' := by
  have E : doV op ⟨ka, na, sa⟩ ⟨kb, nb, sb⟩ = (null, 1) := by unfold doV; rw [if_pos h]
  rw [E]
  clear E
  have h1 : op < 1 ∨ (¬ op < 1 ∧ 14 < op) := by omega
  clear h
  rcases h1 with h | ⟨h, h'⟩
  all_goals
    go_enter Tryd.func13, Tryd.ntmps13
    go_wp2
    all_goals refine bodyPost_ret (v := .tuple #[vv null, .int .i64 1]) ?_ rfl ⟨rfl, ?_⟩
    any_goals (repeat' (first | assumption | exact Below.refl _ _ | apply Below.setCell | apply Below.alloc))
    any_goals (first | omega | (simp; omega) | (simp; done))
    all_goals (simp only [results, Tryd.results13]; go_simp)
    all_goals (first | done | exact ⟨rfl, rfl, rfl⟩ | rfl | exact ⟨rfl, rfl⟩)

end Go.Proofs.YtpkkhbmlclicfaaDoor.val
