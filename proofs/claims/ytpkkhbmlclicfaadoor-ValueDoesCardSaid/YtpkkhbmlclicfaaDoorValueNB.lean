/- The document's operators on values, walked: quotients and remainders. -/
import Derived.Test.YtpkkhbmlclicfaaDoorValueR
namespace Go.Proofs.YtpkkhbmlclicfaaDoor.val
set_option linter.unusedVariables false
open Go.RowKit

attribute [local go_sem high] run_eqR run_neR

set_option maxRecDepth 100000 in
set_option maxHeartbeats 4000000 in
theorem ref_mod_minus (na : Int) (sa sb : ByteArray) (ha : -9223372036854775808 ≤ na ∧ na ≤ 9223372036854775807) (W : World) :
    Calls Tryd.prog 13 #[.int .i64 11, ag3 2 na sa, ag3 2 (-1) sb] W fun e w' => e = .returned (.tuple #[vv (ofN 0), .int .i64 0]) ∧ Below W.heap.size W w' := by
  clear ha
  go_enter Tryd.func13, Tryd.ntmps13
  go_wp2
  all_goals refine bodyPost_ret (v := .tuple #[vv (ofN 0), .int .i64 0]) ?_ (by rfl) (And.intro (by rfl) ?_)
  any_goals (repeat' (first | assumption | exact Below.refl _ _ | apply Below.setCell | apply Below.alloc | apply below_drewN))
  any_goals (first | omega | (simp; omega) | (simp; done))
  all_goals (simp only [results, Tryd.results13]; go_simp)
  all_goals (first | done | exact ⟨rfl, rfl, rfl⟩ | rfl | exact ⟨rfl, rfl⟩)
set_option maxRecDepth 100000 in
set_option maxHeartbeats 4000000 in
theorem ref_div_minus_no (sa sb : ByteArray) (W : World) :
    Calls Tryd.prog 13 #[.int .i64 10, ag3 2 (-9223372036854775808) sa, ag3 2 (-1) sb] W fun e w' => e = .returned (.tuple #[vv null, .int .i64 8]) ∧ Below W.heap.size W w' := by
  go_enter Tryd.func13, Tryd.ntmps13
  go_wp2
  go_quiet (fail)
  go_wp2
  all_goals refine bodyPost_ret (v := .tuple #[vv null, .int .i64 8]) ?_ (by rfl) (And.intro (by rfl) ?_)
  any_goals (repeat' (first | assumption | exact Below.refl _ _ | apply Below.setCell | apply Below.alloc | apply below_drewN))
  any_goals (first | omega | (simp; omega) | (simp; done))
  all_goals (simp only [results, Tryd.results13]; go_simp)
  all_goals (first | done | exact ⟨rfl, rfl, rfl⟩ | rfl | exact ⟨rfl, rfl⟩)
set_option maxRecDepth 100000 in
set_option maxHeartbeats 4000000 in
theorem ref_div_minus (na : Int) (sa sb : ByteArray) (ha : -9223372036854775808 ≤ na ∧ na ≤ 9223372036854775807) (hm : na ≠ -9223372036854775808) (W : World) :
    Calls Tryd.prog 13 #[.int .i64 10, ag3 2 na sa, ag3 2 (-1) sb] W fun e w' => e = .returned (.tuple #[vv (ofN (-na)), .int .i64 0]) ∧ Below W.heap.size W w' := by
  have b0 : (na == -9223372036854775808) = false := by simpa using hm
  have b1 : (na != -9223372036854775808) = true := by simpa using hm
  have nb1 : -9223372036854775808 ≤ -na := by omega
  have nb2 : -na ≤ 9223372036854775807 := by omega
  clear hm ha
  go_enter Tryd.func13, Tryd.ntmps13
  go_wp2
  go_quiet (fail)
  go_wp2
  all_goals refine bodyPost_ret (v := .tuple #[vv (ofN (-na)), .int .i64 0]) ?_ (by rfl) (And.intro (by rfl) ?_)
  any_goals (repeat' (first | assumption | exact Below.refl _ _ | apply Below.setCell | apply Below.alloc | apply below_drewN))
  any_goals (first | omega | (simp; omega) | (simp; done))
  all_goals (simp only [results, Tryd.results13]; go_simp)
  all_goals (first | done | exact ⟨rfl, rfl, rfl⟩ | rfl | exact ⟨rfl, rfl⟩)
set_option maxRecDepth 100000 in
set_option maxHeartbeats 4000000 in
theorem ref_div (na nb : Int) (sa sb : ByteArray) (ha : -9223372036854775808 ≤ na ∧ na ≤ 9223372036854775807) (hb : -9223372036854775808 ≤ nb ∧ nb ≤ 9223372036854775807) (h0 : nb ≠ 0) (h1 : nb ≠ -1) (W : World) :
    Calls Tryd.prog 13 #[.int .i64 10, ag3 2 na sa, ag3 2 nb sb] W fun e w' => e = .returned (.tuple #[vv (ofN (na.tdiv nb)), .int .i64 0]) ∧ Below W.heap.size W w' := by
  have b0 : (nb == 0) = false := by simpa using h0
  have b1 : (nb == -1) = false := by simpa using h1
  have hq := tdiv_in na nb ha h0 (fun h => h1 h.2)
  have q1 : -9223372036854775808 ≤ na.tdiv nb := hq.1
  have q2 : na.tdiv nb ≤ 9223372036854775807 := hq.2
  clear hq
  go_enter Tryd.func13, Tryd.ntmps13
  go_wp2
  all_goals refine bodyPost_ret (v := .tuple #[vv (ofN (na.tdiv nb)), .int .i64 0]) ?_ (by rfl) (And.intro (by rfl) ?_)
  any_goals (repeat' (first | assumption | exact Below.refl _ _ | apply Below.setCell | apply Below.alloc | apply below_drewN))
  any_goals (first | omega | (simp; omega) | (simp; done))
  all_goals (simp only [results, Tryd.results13]; go_simp)
  all_goals (first | done | exact ⟨rfl, rfl, rfl⟩ | rfl | exact ⟨rfl, rfl⟩)
theorem tmod_sign (a b : Int) : (0 ≤ a → 0 ≤ a.tmod b) ∧ (a ≤ 0 → a.tmod b ≤ 0) := by
  refine ⟨Int.tmod_nonneg b, fun h => ?_⟩
  have h1 := Int.tmod_nonneg b (show 0 ≤ -a by omega)
  rw [Int.neg_tmod] at h1
  omega
theorem sub_mul (a b : Int) (hq1 : -9223372036854775808 ≤ a ∧ a ≤ 9223372036854775807) (h0 : b ≠ 0) (h1 : b ≠ -1) : a - a.tdiv b * b = a.tmod b ∧ -9223372036854775808 ≤ a.tdiv b * b ∧ a.tdiv b * b ≤ 9223372036854775807 := by
  have h := Int.mul_tdiv_add_tmod a b
  have hc : b * a.tdiv b = a.tdiv b * b := Int.mul_comm _ _
  have hm := tmod_sign a b
  have ht : (a.tmod b).natAbs ≤ a.natAbs := by rw [Int.natAbs_tmod]; exact Nat.mod_le _ _
  omega
set_option maxRecDepth 100000 in
set_option maxHeartbeats 4000000 in
theorem ref_mod (na nb : Int) (sa sb : ByteArray) (ha : -9223372036854775808 ≤ na ∧ na ≤ 9223372036854775807) (hb : -9223372036854775808 ≤ nb ∧ nb ≤ 9223372036854775807) (h0 : nb ≠ 0) (h1 : nb ≠ -1) (W : World) :
    Calls Tryd.prog 13 #[.int .i64 11, ag3 2 na sa, ag3 2 nb sb] W fun e w' => e = .returned (.tuple #[vv (ofN (na.tmod nb)), .int .i64 0]) ∧ Below W.heap.size W w' := by
  have b0 : (nb == 0) = false := by simpa using h0
  have b1 : (nb == -1) = false := by simpa using h1
  have hq := tdiv_in na nb ha h0 (fun h => h1 h.2)
  have q1 : -9223372036854775808 ≤ na.tdiv nb := hq.1
  have q2 : na.tdiv nb ≤ 9223372036854775807 := hq.2
  clear hq
  obtain ⟨HM, m1, m2⟩ := sub_mul na nb ha h0 h1
  have WR := Lib.hid (IntWalk.wrap64_in (na - na.tdiv nb * nb) (by have := tmod_sign na nb; have ht : (na.tmod nb).natAbs ≤ na.natAbs := by rw [Int.natAbs_tmod]; exact Nat.mod_le _ _
                                                                   omega))
  rw [← HM]
  clear HM
  go_enter Tryd.func13, Tryd.ntmps13
  go_wp2
  go_quiet (fail)
  go_wp2
  all_goals refine bodyPost_ret (v := .tuple #[vv (ofN (na - na.tdiv nb * nb)), .int .i64 0]) ?_ (by rfl) (And.intro (by rfl) ?_)
  any_goals (repeat' (first | assumption | exact Below.refl _ _ | apply Below.setCell | apply Below.alloc | apply below_drewN))
  any_goals (first | omega | (simp; omega) | (simp; done))
  all_goals (simp only [results, Tryd.results13]; go_simp)
  all_goals (first | done | exact ⟨WR.out, rfl⟩ | exact ⟨rfl, WR.out, rfl⟩ | exact ⟨rfl, rfl, rfl⟩ | rfl | exact ⟨rfl, rfl⟩)

end Go.Proofs.YtpkkhbmlclicfaaDoor.val
