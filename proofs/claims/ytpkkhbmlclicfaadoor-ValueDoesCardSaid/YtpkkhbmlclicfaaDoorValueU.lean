/- The document's operators on values, walked. -/
import Derived.Test.YtpkkhbmlclicfaaDoorValueR
namespace Go.Proofs.YtpkkhbmlclicfaaDoor.val
set_option linter.unusedVariables false
open Go.RowKit

attribute [local go_sem high] run_eqR run_neR

set_option maxRecDepth 100000 in
set_option maxHeartbeats 4000000 in
theorem ref_null (op ka na kb nb : Int) (sa sb : ByteArray) (W : World) (h : 1 ≤ op ∧ op < 13) (hf : fitB op ka kb = true) (h0 : ka = 0 ∨ kb = 0) : Calls Tryd.prog 13 #[.int .i64 op, ag3 ka na sa, ag3 kb nb sb] W fun e w' => e = .returned (.tuple #[vv (doV op ⟨ka, na, sa⟩ ⟨kb, nb, sb⟩).1, .int .i64 (doV op ⟨ka, na, sa⟩ ⟨kb, nb, sb⟩).2]) ∧ Below W.heap.size W w' := by
  have E : doV op ⟨ka, na, sa⟩ ⟨kb, nb, sb⟩ = (null, 0) := by unfold doV; rw [if_neg (by omega), if_neg (by rw [hf]; decide), if_neg (by omega), if_pos h0]
  rw [E]
  clear E
  have hc : (op ≤ 6 ∧ (ka = 0 ∨ (ka ≠ 0 ∧ kb = 0))) ∨ ∃ t : Int, ((7 ≤ op ∧ op ≤ 11 ∧ t = 2) ∨ (op = 12 ∧ t = 3)) ∧ ((ka = 0 ∧ kb = 0) ∨ (ka = 0 ∧ kb = t) ∨ (ka = t ∧ kb = 0)) := by
    unfold fitB at hf
    by_cases h6 : op ≤ 6
    · left; omega
    · rw [if_neg h6] at hf
      right
      by_cases h12 : op = 12
      · rw [if_pos h12] at hf; refine ⟨3, by omega, ?_⟩; simp at hf; omega
      · rw [if_neg h12, if_neg (by omega)] at hf; refine ⟨2, by omega, ?_⟩; simp at hf; omega
  clear hf h0
  obtain ⟨o1, o13⟩ := h
  have o14 : op ≤ 14 := by omega
  have e13 : (op == 13) = false := by simp <;> omega
  have e14 : (op == 14) = false := by simp <;> omega
  rcases hc with ⟨o6, hk⟩ | ⟨t, ho, hk⟩
  · have e12 : (op == 12) = false := by simp <;> omega
    have o7 : op < 7 := by omega
    rcases hk with rfl | ⟨a0, rfl⟩
    · skip
      go_enter Tryd.func13, Tryd.ntmps13
      go_wp2
      all_goals refine bodyPost_ret (v := .tuple #[vv null, .int .i64 0]) ?_ rfl ⟨rfl, ?_⟩
      any_goals (repeat' (first | assumption | exact Below.refl _ _ | apply Below.setCell | apply Below.alloc))
      any_goals (first | omega | (simp; omega) | (simp; done))
      all_goals (simp only [results, Tryd.results13]; go_simp)
      all_goals (first | done | exact ⟨rfl, rfl, rfl⟩ | rfl | exact ⟨rfl, rfl⟩)
    · have q1 : (ka == 0) = false := by simpa using a0
      clear a0
      go_enter Tryd.func13, Tryd.ntmps13
      go_wp2
      all_goals refine bodyPost_ret (v := .tuple #[vv null, .int .i64 0]) ?_ rfl ⟨rfl, ?_⟩
      any_goals (repeat' (first | assumption | exact Below.refl _ _ | apply Below.setCell | apply Below.alloc))
      any_goals (first | omega | (simp; omega) | (simp; done))
      all_goals (simp only [results, Tryd.results13]; go_simp)
      all_goals (first | done | exact ⟨rfl, rfl, rfl⟩ | rfl | exact ⟨rfl, rfl⟩)
  · rcases ho with ⟨o7, o11, rfl⟩ | ⟨rfl, rfl⟩
    · have e12 : (op == 12) = false := by simp <;> omega
      have o6 : 6 < op := by omega
      rcases hk with ⟨rfl, rfl⟩ | ⟨rfl, rfl⟩ | ⟨rfl, rfl⟩
      all_goals skip
      · skip
        go_enter Tryd.func13, Tryd.ntmps13
        go_wp2
        all_goals refine bodyPost_ret (v := .tuple #[vv null, .int .i64 0]) ?_ rfl ⟨rfl, ?_⟩
        any_goals (repeat' (first | assumption | exact Below.refl _ _ | apply Below.setCell | apply Below.alloc))
        any_goals (first | omega | (simp; omega) | (simp; done))
        all_goals (simp only [results, Tryd.results13]; go_simp)
        all_goals (first | done | exact ⟨rfl, rfl, rfl⟩ | rfl | exact ⟨rfl, rfl⟩)
      · skip
        go_enter Tryd.func13, Tryd.ntmps13
        go_wp2
        all_goals refine bodyPost_ret (v := .tuple #[vv null, .int .i64 0]) ?_ rfl ⟨rfl, ?_⟩
        any_goals (repeat' (first | assumption | exact Below.refl _ _ | apply Below.setCell | apply Below.alloc))
        any_goals (first | omega | (simp; omega) | (simp; done))
        all_goals (simp only [results, Tryd.results13]; go_simp)
        all_goals (first | done | exact ⟨rfl, rfl, rfl⟩ | rfl | exact ⟨rfl, rfl⟩)
      · skip
        go_enter Tryd.func13, Tryd.ntmps13
        go_wp2
        all_goals refine bodyPost_ret (v := .tuple #[vv null, .int .i64 0]) ?_ rfl ⟨rfl, ?_⟩
        any_goals (repeat' (first | assumption | exact Below.refl _ _ | apply Below.setCell | apply Below.alloc))
        any_goals (first | omega | (simp; omega) | (simp; done))
        all_goals (simp only [results, Tryd.results13]; go_simp)
        all_goals (first | done | exact ⟨rfl, rfl, rfl⟩ | rfl | exact ⟨rfl, rfl⟩)
    · rcases hk with ⟨rfl, rfl⟩ | ⟨rfl, rfl⟩ | ⟨rfl, rfl⟩
      · skip
        go_enter Tryd.func13, Tryd.ntmps13
        go_wp2
        all_goals refine bodyPost_ret (v := .tuple #[vv null, .int .i64 0]) ?_ rfl ⟨rfl, ?_⟩
        any_goals (repeat' (first | assumption | exact Below.refl _ _ | apply Below.setCell | apply Below.alloc))
        any_goals (first | omega | (simp; omega) | (simp; done))
        all_goals (simp only [results, Tryd.results13]; go_simp)
        all_goals (first | done | exact ⟨rfl, rfl, rfl⟩ | rfl | exact ⟨rfl, rfl⟩)
      · skip
        go_enter Tryd.func13, Tryd.ntmps13
        go_wp2
        all_goals refine bodyPost_ret (v := .tuple #[vv null, .int .i64 0]) ?_ rfl ⟨rfl, ?_⟩
        any_goals (repeat' (first | assumption | exact Below.refl _ _ | apply Below.setCell | apply Below.alloc))
        any_goals (first | omega | (simp; omega) | (simp; done))
        all_goals (simp only [results, Tryd.results13]; go_simp)
        all_goals (first | done | exact ⟨rfl, rfl, rfl⟩ | rfl | exact ⟨rfl, rfl⟩)
      · skip
        go_enter Tryd.func13, Tryd.ntmps13
        go_wp2
        all_goals refine bodyPost_ret (v := .tuple #[vv null, .int .i64 0]) ?_ rfl ⟨rfl, ?_⟩
        any_goals (repeat' (first | assumption | exact Below.refl _ _ | apply Below.setCell | apply Below.alloc))
        any_goals (first | omega | (simp; omega) | (simp; done))
        all_goals (simp only [results, Tryd.results13]; go_simp)
        all_goals (first | done | exact ⟨rfl, rfl, rfl⟩ | rfl | exact ⟨rfl, rfl⟩)
set_option maxRecDepth 100000 in
set_option maxHeartbeats 4000000 in
theorem ref_text (ka na kb nb : Int) (sa sb : ByteArray) (W : World) (hf : fitB 12 ka kb = true) (h0 : ¬ (ka = 0 ∨ kb = 0)) (ga : Good ⟨ka, na, sa⟩) (gb : Good ⟨kb, nb, sb⟩) : Calls Tryd.prog 13 #[.int .i64 12, ag3 ka na sa, ag3 kb nb sb] W fun e w' => e = .returned (.tuple #[vv (doV 12 ⟨ka, na, sa⟩ ⟨kb, nb, sb⟩).1, .int .i64 (doV 12 ⟨ka, na, sa⟩ ⟨kb, nb, sb⟩).2]) ∧ Below W.heap.size W w' := by
  have E : doV 12 ⟨ka, na, sa⟩ ⟨kb, nb, sb⟩ = if sa.size + sb.size > 64 then (null, 8) else (ofS (sa ++ sb), 0) := by unfold doV; rw [if_neg (by decide), if_neg (by rw [hf]; decide), if_neg (by decide), if_neg h0, if_neg (by decide), if_pos rfl]
  have hk : ka = 3 ∧ kb = 3 := by unfold fitB at hf; simp at hf; omega
  have s1 : sa.size ≤ 64 := (good_text ga hk.1).2
  have s2 : sb.size ≤ 64 := (good_text gb hk.2).2
  obtain ⟨rfl, rfl⟩ := hk
  rw [E]
  have b1 : (sa.size : Int) ≤ 64 := by omega
  have b2 : (sb.size : Int) ≤ 64 := by omega
  have b3 : (0 : Int) ≤ sa.size := by omega
  have b4 : (0 : Int) ≤ sb.size := by omega
  by_cases hs : sa.size + sb.size > 64
  · rw [if_pos hs]
    have hs1 : (64 : Int) < (sa.size : Int) + (sb.size : Int) := by omega
    clear E hf ga gb h0 hs
    go_enter Tryd.func13, Tryd.ntmps13
    go_wp2
    all_goals refine bodyPost_ret (v := .tuple #[vv null, .int .i64 8]) ?_ rfl ⟨rfl, ?_⟩
    any_goals (repeat' (first | assumption | exact Below.refl _ _ | apply Below.setCell | apply Below.alloc))
    any_goals (first | omega | (simp; omega) | (simp; done))
    all_goals (simp only [results, Tryd.results13]; go_simp)
    all_goals (first | done | exact ⟨rfl, rfl, rfl⟩ | rfl | exact ⟨rfl, rfl⟩)
  · rw [if_neg hs]
    have hs1 : (sa.size : Int) + (sb.size : Int) ≤ 64 := by omega
    clear E hf ga gb h0 hs
    go_enter Tryd.func13, Tryd.ntmps13
    go_wp2
    all_goals refine bodyPost_ret (v := .tuple #[vv (ofS (sa ++ sb)), .int .i64 0]) ?_ rfl ⟨rfl, ?_⟩
    any_goals (repeat' (first | assumption | exact Below.refl _ _ | apply Below.setCell | apply Below.alloc))
    any_goals (first | omega | (simp; omega) | (simp; done))
    all_goals (simp only [results, Tryd.results13]; go_simp)
    all_goals (first | done | exact ⟨rfl, rfl, rfl⟩ | rfl | exact ⟨rfl, rfl⟩)

end Go.Proofs.YtpkkhbmlclicfaaDoor.val
