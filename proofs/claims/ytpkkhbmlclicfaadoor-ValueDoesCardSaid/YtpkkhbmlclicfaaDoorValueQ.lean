/- The document's operators on values, walked. -/
import Derived.Test.YtpkkhbmlclicfaaDoorValueZ
namespace Go.Proofs.YtpkkhbmlclicfaaDoor.val
set_option linter.unusedVariables false
open Go.RowKit

attribute [local go_sem high] run_eqR run_neR

set_option maxRecDepth 100000 in
set_option maxHeartbeats 4000000 in
theorem ref_mul (na nb : Int) (sa sb : ByteArray) (ha : -9223372036854775808 ≤ na ∧ na ≤ 9223372036854775807) (hb : -9223372036854775808 ≤ nb ∧ nb ≤ 9223372036854775807) (W : World) :
    Calls Tryd.prog 13 #[.int .i64 9, ag3 2 na sa, ag3 2 nb sb] W fun e w' => e = .returned (.tuple #[vv (doV 9 ⟨2, na, sa⟩ ⟨2, nb, sb⟩).1, .int .i64 (doV 9 ⟨2, na, sa⟩ ⟨2, nb, sb⟩).2]) ∧ Below W.heap.size W w' := by
  have E : doV 9 ⟨2, na, sa⟩ ⟨2, nb, sb⟩ = if (countV 9 na nb).2 = 0 then (ofN (countV 9 na nb).1, 0) else (null, (countV 9 na nb).2) := by unfold doV; rfl
  have hv := cV 9 na nb (na * nb) rfl (by omega)
  have ht := times_ref na nb ha hb
  by_cases h : InR (na * nb)
  · rw [hv.1 h, if_pos rfl] at E
    rw [E]
    have e1 : timesB na nb = true := by unfold timesB; rw [Bool.and_eq_true, decide_eq_true_eq, decide_eq_true_eq]; exact h
    have e2 : timesN na nb = na * nb := by unfold timesN; rw [if_pos h]
    have HA := Lib.hid (fun W => (ht W).mono fun e w' ⟨m, he, hm, hw⟩ => (⟨by rw [he, hm e1, e1, e2], hw⟩ : e = Ending.returned (.tuple #[.int .i64 (na * nb), .bool true]) ∧ Below W.heap.size W w'))
    clear E hv h ha hb ht e1 e2
    generalize na * nb = r at *
    show Calls _ _ _ _ fun e w' => e = .returned (.tuple #[vv (ofN r), .int .i64 0]) ∧ _
    go_enter Tryd.func13, Tryd.ntmps13
    go_wp2_with (first | (go_at_call 46; ((with_reducible refine (HA.out _).mono ?_); rintro e w1 ⟨rfl, hb1⟩; have hB1 : Below W.heap.size W w1 := after (by (repeat' (first | assumption | exact Below.refl _ _ | apply Below.setCell | apply Below.alloc)); all_goals (first | omega | (simp; omega) | (simp; done))) hb1; obtain ⟨hc1, hf1⟩ := bcell hb1; have hz1 := hb1.size; (try simp at hz1); (try simp only [World.size_alloc] at hc1 hf1); have hy0 : W.heap.size < w1.heap.size := (by omega); have hy1 : W.heap.size + 1 < w1.heap.size := (by omega); have hy2 : W.heap.size + 1 + 1 < w1.heap.size := (by omega))))
    all_goals refine bodyPost_ret (v := .tuple #[vv (ofN r), .int .i64 0]) ?_ rfl ⟨rfl, ?_⟩
    any_goals (repeat' (first | assumption | exact Below.refl _ _ | apply Below.setCell | apply Below.alloc))
    any_goals (first | omega | (simp; omega) | (simp; done))
    all_goals (simp only [results, Tryd.results13]; go_simp)
    all_goals (first | done | exact ⟨rfl, rfl, rfl⟩ | rfl | exact ⟨rfl, rfl⟩)
  · rw [hv.2 h, if_neg (by decide)] at E
    rw [E]
    have e1 : timesB na nb = false := by unfold timesB; rw [Bool.and_eq_false_iff, decide_eq_false_iff_not, decide_eq_false_iff_not]; unfold InR at h; omega
    have HA := Lib.hid (fun W => (ht W).mono fun e w' ⟨m, he, hm, hw⟩ => (⟨⟨m, by rw [he, e1]⟩, hw⟩ : (∃ m, e = Ending.returned (.tuple #[.int .i64 m, .bool false])) ∧ Below W.heap.size W w'))
    clear E hv h ha hb ht e1
    go_enter Tryd.func13, Tryd.ntmps13
    go_wp2_with (first | (go_at_call 46; ((with_reducible refine (HA.out _).mono ?_); rintro e w1 ⟨⟨m, rfl⟩, hb1⟩; have hB1 : Below W.heap.size W w1 := after (by (repeat' (first | assumption | exact Below.refl _ _ | apply Below.setCell | apply Below.alloc)); all_goals (first | omega | (simp; omega) | (simp; done))) hb1; obtain ⟨hc1, hf1⟩ := bcell hb1; have hz1 := hb1.size; (try simp at hz1); (try simp only [World.size_alloc] at hc1 hf1); have hy0 : W.heap.size < w1.heap.size := (by omega); have hy1 : W.heap.size + 1 < w1.heap.size := (by omega); have hy2 : W.heap.size + 1 + 1 < w1.heap.size := (by omega))))
    all_goals refine bodyPost_ret (v := .tuple #[vv null, .int .i64 8]) ?_ rfl ⟨rfl, ?_⟩
    any_goals (repeat' (first | assumption | exact Below.refl _ _ | apply Below.setCell | apply Below.alloc))
    any_goals (first | omega | (simp; omega) | (simp; done))
    all_goals (simp only [results, Tryd.results13]; go_simp)
    all_goals (first | done | exact ⟨rfl, rfl, rfl⟩ | rfl | exact ⟨rfl, rfl⟩)

end Go.Proofs.YtpkkhbmlclicfaaDoor.val
