/- The document's operators on values, walked. -/
import Derived.Test.YtpkkhbmlclicfaaDoorValueR
namespace Go.Proofs.YtpkkhbmlclicfaaDoor.val
set_option linter.unusedVariables false
open Go.RowKit

attribute [local go_sem high] run_eqR run_neR

theorem add_yes (a b : Int) (ha : -9223372036854775808 ≤ a ∧ a ≤ 9223372036854775807) (hb : -9223372036854775808 ≤ b ∧ b ≤ 9223372036854775807) (h : InR (a + b)) (W : World) :
    Calls Tryd.prog 45 #[.int .i64 a, .int .i64 b] W fun e w' => e = .returned (.tuple #[.int .i64 (a + b), .bool true]) ∧ Below W.heap.size W w' :=
  (add_ref a b ha hb W).mono fun e w' ⟨m, he, hm, hw⟩ => ⟨by rw [he, hm h, decide_eq_true h], hw⟩
theorem add_no (a b : Int) (ha : -9223372036854775808 ≤ a ∧ a ≤ 9223372036854775807) (hb : -9223372036854775808 ≤ b ∧ b ≤ 9223372036854775807) (h : ¬ InR (a + b)) (W : World) :
    Calls Tryd.prog 45 #[.int .i64 a, .int .i64 b] W fun e w' => (∃ m, e = .returned (.tuple #[.int .i64 m, .bool false])) ∧ Below W.heap.size W w' :=
  (add_ref a b ha hb W).mono fun e w' ⟨m, he, hm, hw⟩ => ⟨⟨m, by rw [he, decide_eq_false h]⟩, hw⟩
set_option maxRecDepth 100000 in
set_option maxHeartbeats 4000000 in
theorem ref_add (na nb : Int) (sa sb : ByteArray) (ha : -9223372036854775808 ≤ na ∧ na ≤ 9223372036854775807) (hb : -9223372036854775808 ≤ nb ∧ nb ≤ 9223372036854775807) (W : World) :
    Calls Tryd.prog 13 #[.int .i64 7, ag3 2 na sa, ag3 2 nb sb] W fun e w' => e = .returned (.tuple #[vv (doV 7 ⟨2, na, sa⟩ ⟨2, nb, sb⟩).1, .int .i64 (doV 7 ⟨2, na, sa⟩ ⟨2, nb, sb⟩).2]) ∧ Below W.heap.size W w' := by
  have E : doV 7 ⟨2, na, sa⟩ ⟨2, nb, sb⟩ = if (countV 7 na nb).2 = 0 then (ofN (countV 7 na nb).1, 0) else (null, (countV 7 na nb).2) := by unfold doV; rfl
  have hv := cV 7 na nb (na + nb) rfl (by omega)
  by_cases h : InR (na + nb)
  · rw [hv.1 h, if_pos rfl] at E
    rw [E]
    have HA := Lib.hid (add_yes na nb ha hb h)
    clear E hv h ha hb
    show Calls _ _ _ _ fun e w' => e = .returned (.tuple #[vv (ofN (na + nb)), .int .i64 0]) ∧ _
    go_enter Tryd.func13, Tryd.ntmps13
    go_wp2_with (first | (go_at_call 45; ((with_reducible refine (HA.out _).mono ?_); rintro e w1 ⟨rfl, hb1⟩; have hB1 : Below W.heap.size W w1 := after (by (repeat' (first | assumption | exact Below.refl _ _ | apply Below.setCell | apply Below.alloc)); all_goals (first | omega | (simp; omega) | (simp; done))) hb1; obtain ⟨hc1, hf1⟩ := bcell hb1; have hz1 := hb1.size; (try simp at hz1); (try simp only [World.size_alloc] at hc1 hf1); have hy0 : W.heap.size < w1.heap.size := (by omega); have hy1 : W.heap.size + 1 < w1.heap.size := (by omega); have hy2 : W.heap.size + 1 + 1 < w1.heap.size := (by omega))))
    all_goals refine bodyPost_ret (v := .tuple #[vv (ofN (na + nb)), .int .i64 0]) ?_ rfl ⟨rfl, ?_⟩
    any_goals (repeat' (first | assumption | exact Below.refl _ _ | apply Below.setCell | apply Below.alloc))
    any_goals (first | omega | (simp; omega) | (simp; done))
    all_goals (simp only [results, Tryd.results13]; go_simp)
    all_goals (first | done | exact ⟨rfl, rfl, rfl⟩ | rfl | exact ⟨rfl, rfl⟩)
  · rw [hv.2 h, if_neg (by decide)] at E
    rw [E]
    have HA := Lib.hid (add_no na nb ha hb h)
    clear E hv h ha hb
    go_enter Tryd.func13, Tryd.ntmps13
    go_wp2_with (first | (go_at_call 45; ((with_reducible refine (HA.out _).mono ?_); rintro e w1 ⟨⟨m, rfl⟩, hb1⟩; have hB1 : Below W.heap.size W w1 := after (by (repeat' (first | assumption | exact Below.refl _ _ | apply Below.setCell | apply Below.alloc)); all_goals (first | omega | (simp; omega) | (simp; done))) hb1; obtain ⟨hc1, hf1⟩ := bcell hb1; have hz1 := hb1.size; (try simp at hz1); (try simp only [World.size_alloc] at hc1 hf1); have hy0 : W.heap.size < w1.heap.size := (by omega); have hy1 : W.heap.size + 1 < w1.heap.size := (by omega); have hy2 : W.heap.size + 1 + 1 < w1.heap.size := (by omega))))
    all_goals refine bodyPost_ret (v := .tuple #[vv null, .int .i64 8]) ?_ rfl ⟨rfl, ?_⟩
    any_goals (repeat' (first | assumption | exact Below.refl _ _ | apply Below.setCell | apply Below.alloc))
    any_goals (first | omega | (simp; omega) | (simp; done))
    all_goals (simp only [results, Tryd.results13]; go_simp)
    all_goals (first | done | exact ⟨rfl, rfl, rfl⟩ | rfl | exact ⟨rfl, rfl⟩)
set_option maxRecDepth 100000 in
set_option maxHeartbeats 4000000 in
theorem ref_zero (op na : Int) (sa sb : ByteArray) (hop : op = 10 ∨ op = 11) (W : World) :
    Calls Tryd.prog 13 #[.int .i64 op, ag3 2 na sa, ag3 2 0 sb] W fun e w' => e = .returned (.tuple #[vv (doV op ⟨2, na, sa⟩ ⟨2, 0, sb⟩).1, .int .i64 (doV op ⟨2, na, sa⟩ ⟨2, 0, sb⟩).2]) ∧ Below W.heap.size W w' := by
  rcases hop with rfl | rfl
  · show Calls _ _ _ _ fun e w' => e = .returned (.tuple #[vv null, .int .i64 9]) ∧ _
    go_enter Tryd.func13, Tryd.ntmps13
    go_wp2
    all_goals refine bodyPost_ret (v := .tuple #[vv null, .int .i64 9]) ?_ rfl ⟨rfl, ?_⟩
    any_goals (repeat' (first | assumption | exact Below.refl _ _ | apply Below.setCell | apply Below.alloc))
    any_goals (first | omega | (simp; omega) | (simp; done))
    all_goals (simp only [results, Tryd.results13]; go_simp)
    all_goals (first | done | exact ⟨rfl, rfl, rfl⟩ | rfl | exact ⟨rfl, rfl⟩)
  · show Calls _ _ _ _ fun e w' => e = .returned (.tuple #[vv null, .int .i64 9]) ∧ _
    go_enter Tryd.func13, Tryd.ntmps13
    go_wp2
    all_goals refine bodyPost_ret (v := .tuple #[vv null, .int .i64 9]) ?_ rfl ⟨rfl, ?_⟩
    any_goals (repeat' (first | assumption | exact Below.refl _ _ | apply Below.setCell | apply Below.alloc))
    any_goals (first | omega | (simp; omega) | (simp; done))
    all_goals (simp only [results, Tryd.results13]; go_simp)
    all_goals (first | done | exact ⟨rfl, rfl, rfl⟩ | rfl | exact ⟨rfl, rfl⟩)

end Go.Proofs.YtpkkhbmlclicfaaDoor.val
