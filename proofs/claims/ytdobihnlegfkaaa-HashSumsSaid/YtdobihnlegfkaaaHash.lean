/- For every sum (any uint64): the law HashDigits returns true; for every seed, text and level: the law HashSums returns true. No condition. -/
import Derived.Test.YtdobihnlegfkaaaHashW
import Derived.ProofKit
import Derived.OpenShut
import Derived.ShutString
import Derived.ChangeOld
import Derived.Below
namespace Go.Proofs.Ytdobihnlegfkaaa.hash
open Go.ChangeShapes Go.WideShapes Go.ChangeAt Go.RowKit
open Go.ChangeMaps (open_string shut_string)
set_option linter.unusedVariables false

theorem step_n (s : Int) (j : Nat) (hs : 0 ≤ s) (hs' : s < 18446744073709551616) (hj : j ≤ 31) :
    4 * (s / 4 ^ (j + 1)) + digitI s ↑j = s / 4 ^ j := by
  rw [digitI_four s j (by omega) (by omega), Int.toNat_natCast, Int.pow_succ, ← Int.ediv_ediv_of_nonneg (by exact Int.pow_nonneg (by decide))]
  omega
theorem pow_le_s (s : Int) (j : Nat) (hs : 0 ≤ s) : 0 ≤ s / 4 ^ j ∧ s / 4 ^ j ≤ s :=
  ⟨Int.ediv_nonneg hs (Int.pow_nonneg (by decide)), Int.ediv_le_self _ hs⟩

set_option maxHeartbeats 400000 in
theorem digits_walk (s : Int) (w : World) (hs : 0 ≤ s) (hs' : s < 18446744073709551616) :
    Calls Try.prog 7 #[.int .u64 s] w fun e w' => e = .returned (.bool true) ∧ w = w' := by
  go_enter Try.func7, Try.ntmps7
  go_wp2_with (go_at_call 19; refine (hash_speaks _).mono ?_; rintro e w' ⟨rfl, rfl⟩)
  go_loop [3, 4] (fun n i => ∃ j : Nat, j ≤ 32 ∧ i = .int .i64 ((j : Int) - 1) ∧ ∃ H : Int, 0 ≤ H ∧ H < 18446744073709551616 ∧ n = .int .u64 H ∧ Hid (H = s / 4 ^ j)) (fun _ i => (intOf i + 1).toNat)
  case atStart => exact ⟨32, by omega, rfl, 0, by omega, by omega, rfl, by show (0 : Int) = s / 4 ^ 32; omega⟩
  case round =>
    obtain ⟨j, hj, rfl, H, hH0, hH1, rfl, hH⟩ := hrel
    by_cases hlt : j = 0
    · subst hlt
      have e : s = H := by rw [hH.out]; simp
      subst e
      clear hH
      go_wp2
      go_ret
      exact ⟨rfl, rfl⟩
    · obtain ⟨k, rfl⟩ : ∃ k, j = k + 1 := ⟨j - 1, by omega⟩
      have hd := digitI_bd s k
      have hst := step_n s k hs hs' (by omega)
      rw [← hH.out] at hst
      have hb := pow_le_s s k hs
      rw [← hst] at hb
      have H2 := Lib.hid hst; clear hst
      go_wp2_with (go_at_call 22; refine (digit_any _ _ _ (by omega) (by omega) (by omega)).mono ?_; rintro e w' ⟨rfl, rfl⟩)
      go_round
      case rel => exact ⟨k, by omega, by go_num, _, by omega, by omega, rfl, H2.out⟩
      case measure => simp [intOf]

theorem size_extract (s : ByteArray) (h : s.size ≤ 9223372036854775807) : (s.extract 0 100).size ≤ 9223372036854775807 := by
  rw [ByteArray.size_extract]; omega
set_option maxHeartbeats 400000 in
theorem sums_walk (n : Int) (s : ByteArray) (l : Int) (hn : 0 ≤ n ∧ n < 18446744073709551616) (hs : s.size ≤ 9223372036854775807) (hl : -9223372036854775808 ≤ l ∧ l ≤ 9223372036854775807) (w : World) :
    Calls Try.prog 6 #[.int .u64 n, .string s, .int .i64 l] w fun e w' => e = .returned (.bool true) ∧ w = w' := by
  have HN := Lib.hid hn; clear hn
  have HL := Lib.hid hl; clear hl
  go_enter Try.func6, Try.ntmps6
  go_wp2_with (go_at_call 19; refine (hash_speaks _).mono ?_; rintro e w' ⟨rfl, rfl⟩)
  all_goals
    first | have HS := Lib.hid hs | skip
    clear hs
    go_wp2_with (first | (go_at_call 20; refine (sum_any _ _ _ ?_).mono ?_; (first | exact HS.out | exact size_extract _ HS.out); rintro e w' ⟨rfl, rfl⟩) | (go_at_call 21; refine (refsum_any _ _ _ ?_).mono ?_; (first | exact HS.out | exact size_extract _ HS.out); rintro e w' ⟨rfl, rfl⟩) | (go_at_call 22; refine (digit_any _ _ _ ?_ ?_ HL.out).mono ?_; (first | with_reducible exact (sumI_bd _ _).1 | exact HN.out.1); (first | with_reducible exact (sumI_bd _ _).2 | exact HN.out.2); rintro e w' ⟨rfl, rfl⟩) | (go_at_call 23; refine (refdigit_any _ _ _ ?_ ?_ HL.out).mono ?_; (first | with_reducible exact (sumI_bd _ _).1 | exact HN.out.1); (first | with_reducible exact (sumI_bd _ _).2 | exact HN.out.2); rintro e w' ⟨rfl, rfl⟩))
    go_ret
    exact ⟨rfl, rfl⟩

theorem digits_row (s : Int) (h : 0 ≤ s ∧ s ≤ 18446744073709551615) (w : World) :
    Calls Try.prog 7 #[.int .u64 s] w fun e w' => e = .returned (.bool true) ∧ Below w.heap.size w w' :=
  (digits_walk s w h.1 (by omega)).mono fun _ _ ⟨he, hw⟩ => ⟨he, hw ▸ Below.refl _ _⟩
theorem sums_row (n : Int) (s : ByteArray) (l : Int) (hn : 0 ≤ n ∧ n ≤ 18446744073709551615) (hs : s.size ≤ maxLen) (hl : -9223372036854775808 ≤ l ∧ l ≤ 9223372036854775807) (w : World) :
    Calls Try.prog 6 #[.int .u64 n, .string s, .int .i64 l] w fun e w' => e = .returned (.bool true) ∧ Below w.heap.size w w' :=
  (sums_walk n s l ⟨hn.1, by omega⟩ hs hl w).mono fun _ _ ⟨he, hw⟩ => ⟨he, hw ▸ Below.refl _ _⟩

end Go.Proofs.Ytdobihnlegfkaaa.hash
