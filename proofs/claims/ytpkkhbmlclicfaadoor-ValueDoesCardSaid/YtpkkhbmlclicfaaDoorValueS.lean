/- The document's operators on values, walked: where the kinds do not fit. -/
import Derived.Test.YtpkkhbmlclicfaaDoorValueB
namespace Go.Proofs.YtpkkhbmlclicfaaDoor.val
set_option linter.unusedVariables false
open Go.RowKit

set_option maxRecDepth 100000 in
set_option maxHeartbeats 4000000 in
theorem ref_type (op ka na kb nb : Int) (sa sb : ByteArray) (W : World) (h : 1 ≤ op ∧ op ≤ 14) (hf : fitB op ka kb = false) : Calls Tryd.prog 13 #[.int .i64 op, ag3 ka na sa, ag3 kb nb sb] W fun e w' => e = .returned (.tuple #[vv (doV op ⟨ka, na, sa⟩ ⟨kb, nb, sb⟩).1, .int .i64 (doV op ⟨ka, na, sa⟩ ⟨kb, nb, sb⟩).2]) ∧ Below W.heap.size W w' := by
  have E : doV op ⟨ka, na, sa⟩ ⟨kb, nb, sb⟩ = (null, 5) := by unfold doV; rw [if_neg (by omega), if_pos hf]
  rw [E]
  clear E
  have hc : (op ≤ 6 ∧ ka ≠ 0 ∧ kb ≠ 0 ∧ ka ≠ kb) ∨ ∃ t : Int, ((7 ≤ op ∧ op ≤ 11 ∧ t = 2) ∨ (op = 12 ∧ t = 3) ∨ (13 ≤ op ∧ t = 1)) ∧ ((ka ≠ 0 ∧ ka ≠ t) ∨ (ka = 0 ∧ kb ≠ 0 ∧ kb ≠ t) ∨ (ka = t ∧ kb ≠ 0 ∧ kb ≠ t)) := by
    unfold fitB at hf
    by_cases h6 : op ≤ 6
    · rw [if_pos h6] at hf
      left; simp at hf; omega
    · rw [if_neg h6] at hf
      right
      by_cases h12 : op = 12
      · rw [if_pos h12] at hf; refine ⟨3, by omega, ?_⟩; simp at hf; omega
      · rw [if_neg h12] at hf
        by_cases h13 : 13 ≤ op
        · rw [if_pos h13] at hf; refine ⟨1, by omega, ?_⟩; simp at hf; omega
        · rw [if_neg h13] at hf; refine ⟨2, by omega, ?_⟩; simp at hf; omega
  clear hf
  obtain ⟨o1, o14⟩ := h
  rcases hc with ⟨o6, a0, b0, ab⟩ | ⟨t, ho, hk⟩
  · have q1 : (ka == 0) = false := by simpa using a0
    have q2 : (kb == 0) = false := by simpa using b0
    have q3 : (ka == kb) = false := by simpa using ab
    have q4 : (ka != kb) = true := by simpa using ab
    clear a0 b0 ab
    go_enter Tryd.func13, Tryd.ntmps13
    go_wp2
    all_goals refine bodyPost_ret (v := .tuple #[vv null, .int .i64 5]) ?_ rfl ⟨rfl, ?_⟩
    any_goals (repeat' (first | assumption | exact Below.refl _ _ | apply Below.setCell | apply Below.alloc))
    any_goals (first | omega | (simp; omega) | (simp; done))
    all_goals (simp only [results, Tryd.results13]; go_simp)
    all_goals (first | done | exact ⟨rfl, rfl, rfl⟩ | rfl | exact ⟨rfl, rfl⟩)
  · rcases ho with ⟨o7, o11, rfl⟩ | ⟨rfl, rfl⟩ | ⟨o13, rfl⟩
    all_goals (rcases hk with ⟨a0, at_⟩ | ⟨rfl, b0, bt⟩ | ⟨rfl, b0, bt⟩)
    · have l13 : op < 13 := by omega
      have o12 : (op == 12) = false := by simp <;> omega
      have q0 : (ka == 0) = false := by simpa using a0
      have q1 : (ka != 0) = true := by simpa using a0
      have q2 : (ka == 2) = false := by simpa using at_
      have q3 : (ka != 2) = true := by simpa using at_
      clear a0 at_
      go_enter Tryd.func13, Tryd.ntmps13
      go_wp2
      all_goals refine bodyPost_ret (v := .tuple #[vv null, .int .i64 5]) ?_ rfl ⟨rfl, ?_⟩
      any_goals (repeat' (first | assumption | exact Below.refl _ _ | apply Below.setCell | apply Below.alloc))
      any_goals (first | omega | (simp; omega) | (simp; done))
      all_goals (simp only [results, Tryd.results13]; go_simp)
      all_goals (first | done | exact ⟨rfl, rfl, rfl⟩ | rfl | exact ⟨rfl, rfl⟩)
    · have l13 : op < 13 := by omega
      have o12 : (op == 12) = false := by simp <;> omega
      have q0 : (kb == 0) = false := by simpa using b0
      have q1 : (kb != 0) = true := by simpa using b0
      have q2 : (kb == 2) = false := by simpa using bt
      have q3 : (kb != 2) = true := by simpa using bt
      clear b0 bt
      go_enter Tryd.func13, Tryd.ntmps13
      go_wp2
      all_goals refine bodyPost_ret (v := .tuple #[vv null, .int .i64 5]) ?_ rfl ⟨rfl, ?_⟩
      any_goals (repeat' (first | assumption | exact Below.refl _ _ | apply Below.setCell | apply Below.alloc))
      any_goals (first | omega | (simp; omega) | (simp; done))
      all_goals (simp only [results, Tryd.results13]; go_simp)
      all_goals (first | done | exact ⟨rfl, rfl, rfl⟩ | rfl | exact ⟨rfl, rfl⟩)
    · have l13 : op < 13 := by omega
      have o12 : (op == 12) = false := by simp <;> omega
      have q0 : (kb == 0) = false := by simpa using b0
      have q1 : (kb != 0) = true := by simpa using b0
      have q2 : (kb == 2) = false := by simpa using bt
      have q3 : (kb != 2) = true := by simpa using bt
      clear b0 bt
      go_enter Tryd.func13, Tryd.ntmps13
      go_wp2
      all_goals refine bodyPost_ret (v := .tuple #[vv null, .int .i64 5]) ?_ rfl ⟨rfl, ?_⟩
      any_goals (repeat' (first | assumption | exact Below.refl _ _ | apply Below.setCell | apply Below.alloc))
      any_goals (first | omega | (simp; omega) | (simp; done))
      all_goals (simp only [results, Tryd.results13]; go_simp)
      all_goals (first | done | exact ⟨rfl, rfl, rfl⟩ | rfl | exact ⟨rfl, rfl⟩)
    · skip
      have q0 : (ka == 0) = false := by simpa using a0
      have q1 : (ka != 0) = true := by simpa using a0
      have q2 : (ka == 3) = false := by simpa using at_
      have q3 : (ka != 3) = true := by simpa using at_
      clear a0 at_
      go_enter Tryd.func13, Tryd.ntmps13
      go_wp2
      all_goals refine bodyPost_ret (v := .tuple #[vv null, .int .i64 5]) ?_ rfl ⟨rfl, ?_⟩
      any_goals (repeat' (first | assumption | exact Below.refl _ _ | apply Below.setCell | apply Below.alloc))
      any_goals (first | omega | (simp; omega) | (simp; done))
      all_goals (simp only [results, Tryd.results13]; go_simp)
      all_goals (first | done | exact ⟨rfl, rfl, rfl⟩ | rfl | exact ⟨rfl, rfl⟩)
    · skip
      have q0 : (kb == 0) = false := by simpa using b0
      have q1 : (kb != 0) = true := by simpa using b0
      have q2 : (kb == 3) = false := by simpa using bt
      have q3 : (kb != 3) = true := by simpa using bt
      clear b0 bt
      go_enter Tryd.func13, Tryd.ntmps13
      go_wp2
      all_goals refine bodyPost_ret (v := .tuple #[vv null, .int .i64 5]) ?_ rfl ⟨rfl, ?_⟩
      any_goals (repeat' (first | assumption | exact Below.refl _ _ | apply Below.setCell | apply Below.alloc))
      any_goals (first | omega | (simp; omega) | (simp; done))
      all_goals (simp only [results, Tryd.results13]; go_simp)
      all_goals (first | done | exact ⟨rfl, rfl, rfl⟩ | rfl | exact ⟨rfl, rfl⟩)
    · skip
      have q0 : (kb == 0) = false := by simpa using b0
      have q1 : (kb != 0) = true := by simpa using b0
      have q2 : (kb == 3) = false := by simpa using bt
      have q3 : (kb != 3) = true := by simpa using bt
      clear b0 bt
      go_enter Tryd.func13, Tryd.ntmps13
      go_wp2
      all_goals refine bodyPost_ret (v := .tuple #[vv null, .int .i64 5]) ?_ rfl ⟨rfl, ?_⟩
      any_goals (repeat' (first | assumption | exact Below.refl _ _ | apply Below.setCell | apply Below.alloc))
      any_goals (first | omega | (simp; omega) | (simp; done))
      all_goals (simp only [results, Tryd.results13]; go_simp)
      all_goals (first | done | exact ⟨rfl, rfl, rfl⟩ | rfl | exact ⟨rfl, rfl⟩)
    · have l7 : 7 ≤ op := by omega
      have o12 : (op == 12) = false := by simp <;> omega
      have q0 : (ka == 0) = false := by simpa using a0
      have q1 : (ka != 0) = true := by simpa using a0
      have q2 : (ka == 1) = false := by simpa using at_
      have q3 : (ka != 1) = true := by simpa using at_
      clear a0 at_
      go_enter Tryd.func13, Tryd.ntmps13
      go_wp2
      all_goals refine bodyPost_ret (v := .tuple #[vv null, .int .i64 5]) ?_ rfl ⟨rfl, ?_⟩
      any_goals (repeat' (first | assumption | exact Below.refl _ _ | apply Below.setCell | apply Below.alloc))
      any_goals (first | omega | (simp; omega) | (simp; done))
      all_goals (simp only [results, Tryd.results13]; go_simp)
      all_goals (first | done | exact ⟨rfl, rfl, rfl⟩ | rfl | exact ⟨rfl, rfl⟩)
    · have l7 : 7 ≤ op := by omega
      have o12 : (op == 12) = false := by simp <;> omega
      have q0 : (kb == 0) = false := by simpa using b0
      have q1 : (kb != 0) = true := by simpa using b0
      have q2 : (kb == 1) = false := by simpa using bt
      have q3 : (kb != 1) = true := by simpa using bt
      clear b0 bt
      go_enter Tryd.func13, Tryd.ntmps13
      go_wp2
      all_goals refine bodyPost_ret (v := .tuple #[vv null, .int .i64 5]) ?_ rfl ⟨rfl, ?_⟩
      any_goals (repeat' (first | assumption | exact Below.refl _ _ | apply Below.setCell | apply Below.alloc))
      any_goals (first | omega | (simp; omega) | (simp; done))
      all_goals (simp only [results, Tryd.results13]; go_simp)
      all_goals (first | done | exact ⟨rfl, rfl, rfl⟩ | rfl | exact ⟨rfl, rfl⟩)
    · have l7 : 7 ≤ op := by omega
      have o12 : (op == 12) = false := by simp <;> omega
      have q0 : (kb == 0) = false := by simpa using b0
      have q1 : (kb != 0) = true := by simpa using b0
      have q2 : (kb == 1) = false := by simpa using bt
      have q3 : (kb != 1) = true := by simpa using bt
      clear b0 bt
      go_enter Tryd.func13, Tryd.ntmps13
      go_wp2
      all_goals refine bodyPost_ret (v := .tuple #[vv null, .int .i64 5]) ?_ rfl ⟨rfl, ?_⟩
      any_goals (repeat' (first | assumption | exact Below.refl _ _ | apply Below.setCell | apply Below.alloc))
      any_goals (first | omega | (simp; omega) | (simp; done))
      all_goals (simp only [results, Tryd.results13]; go_simp)
      all_goals (first | done | exact ⟨rfl, rfl, rfl⟩ | rfl | exact ⟨rfl, rfl⟩)

end Go.Proofs.YtpkkhbmlclicfaaDoor.val
