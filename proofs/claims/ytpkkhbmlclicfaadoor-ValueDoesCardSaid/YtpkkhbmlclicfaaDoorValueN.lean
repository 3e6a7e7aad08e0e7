/- The document's operators on values, walked: differences, quotients, remainders; all of them. -/
import Derived.Test.YtpkkhbmlclicfaaDoorValueQ
import Derived.Test.YtpkkhbmlclicfaaDoorValueS
import Derived.Test.YtpkkhbmlclicfaaDoorValueU
import Derived.Test.YtpkkhbmlclicfaaDoorValueX
import Derived.Test.YtpkkhbmlclicfaaDoorValueY
namespace Go.Proofs.YtpkkhbmlclicfaaDoor.val
set_option linter.unusedVariables false
open Go.RowKit

attribute [local go_sem high] run_eqR run_neR

theorem wrap_sub_min (a : Int) (h : -9223372036854775808 ≤ a ∧ a < 0) : IntKind.i64.wrap (a - -9223372036854775808) = a + 9223372036854775808 := by rw [IntKind.wrap_i64]; omega
set_option maxRecDepth 100000 in
set_option maxHeartbeats 4000000 in
theorem ref_sub_min (na : Int) (sa sb : ByteArray) (ha : -9223372036854775808 ≤ na ∧ na ≤ 9223372036854775807) (W : World) :
    Calls Tryd.prog 13 #[.int .i64 8, ag3 2 na sa, ag3 2 (-9223372036854775808) sb] W fun e w' => e = .returned (.tuple #[vv (doV 8 ⟨2, na, sa⟩ ⟨2, -9223372036854775808, sb⟩).1, .int .i64 (doV 8 ⟨2, na, sa⟩ ⟨2, -9223372036854775808, sb⟩).2]) ∧ Below W.heap.size W w' := by
  have E : doV 8 ⟨2, na, sa⟩ ⟨2, -9223372036854775808, sb⟩ = if (countV 8 na (-9223372036854775808)).2 = 0 then (ofN (countV 8 na (-9223372036854775808)).1, 0) else (null, (countV 8 na (-9223372036854775808)).2) := by unfold doV; rfl
  have hv := cV 8 na (-9223372036854775808) (na + 9223372036854775808) (by show na - -9223372036854775808 = _; omega) (by omega)
  by_cases h : na < 0
  · have hi : InR (na + 9223372036854775808) := by unfold InR; omega
    rw [hv.1 hi, if_pos rfl] at E
    rw [E]
    have h1 : -9223372036854775808 ≤ na := ha.1
    have dn : decide (na < 0) = true := by simpa using h
    clear E hv hi ha
    show Calls _ _ _ _ fun e w' => e = .returned (.tuple #[vv (ofN (na + 9223372036854775808)), .int .i64 0]) ∧ _
    go_enter Tryd.func13, Tryd.ntmps13
    go_wp2
    go_quiet (fail)
    go_wp2
    all_goals refine bodyPost_ret (v := .tuple #[vv (ofN (na + 9223372036854775808)), .int .i64 0]) ?_ (by rfl) (And.intro (by rfl) ?_)
    any_goals (repeat' (first | assumption | exact Below.refl _ _ | apply Below.setCell | apply Below.alloc | apply below_drewN))
    any_goals (first | omega | (simp; omega) | (simp; done))
    all_goals (simp only [results, Tryd.results13]; go_simp)
    all_goals (first | done | (exfalso; omega) | exact ⟨(IntWalk.wrap64_in _ (by omega)).trans (by show _ = na + 9223372036854775808; omega), rfl⟩ | exact ⟨rfl, (IntWalk.wrap64_in _ (by omega)).trans (by show _ = na + 9223372036854775808; omega), rfl⟩ | exact ⟨rfl, rfl, rfl⟩ | rfl | exact ⟨rfl, rfl⟩)
  · have hi : ¬ InR (na + 9223372036854775808) := by unfold InR; omega
    rw [hv.2 hi, if_neg (by decide)] at E
    rw [E]
    have dn : decide (na < 0) = false := by simpa using h
    clear E hv hi
    go_enter Tryd.func13, Tryd.ntmps13
    go_wp2
    go_quiet (fail)
    go_wp2
    all_goals refine bodyPost_ret (v := .tuple #[vv null, .int .i64 8]) ?_ (by rfl) (And.intro (by rfl) ?_)
    any_goals (repeat' (first | assumption | exact Below.refl _ _ | apply Below.setCell | apply Below.alloc | apply below_drewN))
    any_goals (first | omega | (simp; omega) | (simp; done))
    all_goals (simp only [results, Tryd.results13]; go_simp)
    all_goals (first | done | (exfalso; omega) | exact ⟨(IntWalk.wrap64_in _ (by omega)).trans (by show _ = na + 9223372036854775808; omega), rfl⟩ | exact ⟨rfl, (IntWalk.wrap64_in _ (by omega)).trans (by show _ = na + 9223372036854775808; omega), rfl⟩ | exact ⟨rfl, rfl, rfl⟩ | rfl | exact ⟨rfl, rfl⟩)
set_option maxRecDepth 100000 in
set_option maxHeartbeats 4000000 in
theorem ref_sub (na nb : Int) (sa sb : ByteArray) (ha : -9223372036854775808 ≤ na ∧ na ≤ 9223372036854775807) (hb : -9223372036854775808 ≤ nb ∧ nb ≤ 9223372036854775807) (W : World) :
    Calls Tryd.prog 13 #[.int .i64 8, ag3 2 na sa, ag3 2 nb sb] W fun e w' => e = .returned (.tuple #[vv (doV 8 ⟨2, na, sa⟩ ⟨2, nb, sb⟩).1, .int .i64 (doV 8 ⟨2, na, sa⟩ ⟨2, nb, sb⟩).2]) ∧ Below W.heap.size W w' := by
  by_cases hm : nb = -9223372036854775808
  · subst hm; exact ref_sub_min na sa sb ha W
  have E : doV 8 ⟨2, na, sa⟩ ⟨2, nb, sb⟩ = if (countV 8 na nb).2 = 0 then (ofN (countV 8 na nb).1, 0) else (null, (countV 8 na nb).2) := by unfold doV; rfl
  have hv := cV 8 na nb (na + -nb) (by show na - nb = _; omega) (by omega)
  have b0 : (nb == -9223372036854775808) = false := by simpa using hm
  have nb1 : -9223372036854775808 ≤ -nb := by omega
  have nb2 : -nb ≤ 9223372036854775807 := by omega
  by_cases h : InR (na + -nb)
  · rw [hv.1 h, if_pos rfl] at E
    rw [E]
    have HA := Lib.hid (add_yes na (-nb) ha ⟨nb1, nb2⟩ h)
    clear E hv h ha hb hm
    generalize na + -nb = r at *
    show Calls _ _ _ _ fun e w' => e = .returned (.tuple #[vv (ofN r), .int .i64 0]) ∧ _
    go_enter Tryd.func13, Tryd.ntmps13
    go_wp2_with (first | (go_at_call 45; ((with_reducible refine (HA.out _).mono ?_); rintro e w1 ⟨rfl, hb1⟩; have hB1 : Below W.heap.size W w1 := after (by (repeat' (first | assumption | exact Below.refl _ _ | apply Below.setCell | apply Below.alloc)); all_goals (first | omega | (simp; omega) | (simp; done))) hb1; obtain ⟨hc1, hf1⟩ := bcell hb1; have hz1 := hb1.size; (try simp at hz1); (try simp only [World.size_alloc] at hc1 hf1); have hy0 : W.heap.size < w1.heap.size := (by omega); have hy1 : W.heap.size + 1 < w1.heap.size := (by omega); have hy2 : W.heap.size + 1 + 1 < w1.heap.size := (by omega))))
    all_goals refine bodyPost_ret (v := .tuple #[vv (ofN r), .int .i64 0]) ?_ (by rfl) (And.intro (by rfl) ?_)
    any_goals (repeat' (first | assumption | exact Below.refl _ _ | apply Below.setCell | apply Below.alloc | apply below_drewN))
    any_goals (first | omega | (simp; omega) | (simp; done))
    all_goals (simp only [results, Tryd.results13]; go_simp)
    all_goals (first | done | exact ⟨rfl, rfl, rfl⟩ | rfl | exact ⟨rfl, rfl⟩)
  · rw [hv.2 h, if_neg (by decide)] at E
    rw [E]
    have HA := Lib.hid (add_no na (-nb) ha ⟨nb1, nb2⟩ h)
    clear E hv h ha hb hm
    go_enter Tryd.func13, Tryd.ntmps13
    go_wp2_with (first | (go_at_call 45; ((with_reducible refine (HA.out _).mono ?_); rintro e w1 ⟨⟨m, rfl⟩, hb1⟩; have hB1 : Below W.heap.size W w1 := after (by (repeat' (first | assumption | exact Below.refl _ _ | apply Below.setCell | apply Below.alloc)); all_goals (first | omega | (simp; omega) | (simp; done))) hb1; obtain ⟨hc1, hf1⟩ := bcell hb1; have hz1 := hb1.size; (try simp at hz1); (try simp only [World.size_alloc] at hc1 hf1); have hy0 : W.heap.size < w1.heap.size := (by omega); have hy1 : W.heap.size + 1 < w1.heap.size := (by omega); have hy2 : W.heap.size + 1 + 1 < w1.heap.size := (by omega))))
    all_goals refine bodyPost_ret (v := .tuple #[vv null, .int .i64 8]) ?_ (by rfl) (And.intro (by rfl) ?_)
    any_goals (repeat' (first | assumption | exact Below.refl _ _ | apply Below.setCell | apply Below.alloc | apply below_drewN))
    any_goals (first | omega | (simp; omega) | (simp; done))
    all_goals (simp only [results, Tryd.results13]; go_simp)
    all_goals (first | done | exact ⟨rfl, rfl, rfl⟩ | rfl | exact ⟨rfl, rfl⟩)

end Go.Proofs.YtpkkhbmlclicfaaDoor.val
