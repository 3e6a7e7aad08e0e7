/- What the laws on aggregates are told: a value, a row; walked. -/
import Derived.Test.YtmbafcfoboknkaaAggR
import Derived.Test.YtmbafcfoboknkaaAggD
import Derived.Test.YtmbafcfoboknkaaValueW
import Derived.RegionTactic
import Derived.BigRegion
namespace Go.Proofs.Ytmbafcfoboknkaa.agr
set_option linter.unusedVariables false
open Go.RowKit val
abbrev vV (v : V) : Value := .agg #[.int .i64 v.k, .int .i64 v.n, .string v.s]
set_option maxRecDepth 100000 in
set_option maxHeartbeats 2000000 in
theorem of_any (k n : Int) (s : ByteArray) (hk : 0 ≤ k ∧ k ≤ 255) (hs : s.size ≤ maxLen) (W : World) :
    Calls Try.prog 21 #[.agg #[.int .u8 k, .int .i64 n, .string s]] W fun e w' => e = .returned (.tuple #[vV (ofV k n s), vV (ofV k n s)]) ∧ Below W.heap.size W w' := by
  obtain ⟨k0, k1⟩ := hk
  have hm4 : 0 ≤ k % 4 ∧ k % 4 ≤ 3 := by omega
  have H4 := Lib.hid hm4
  clear hm4
  go_enter Try.func21, Try.ntmps21
  go_wp2
  · go_region
    go_wp2
    refine bodyPost_ret (v := .tuple #[vV ⟨k % 4, bits .and .i64 n 1, ⟨#[]⟩⟩, vV ⟨k % 4, bits .and .i64 n 1, ⟨#[]⟩⟩]) ?_ rfl ⟨?_, ?_⟩
    · simp only [results, Try.results21]
      go_simp
    · have e : k % 4 = 1 := by simpa using ‹(k % 4 == 1) = true›
      rw [show ofV k n s = ⟨k % 4, bits .and .i64 n 1, ⟨#[]⟩⟩ from by unfold ofV; rw [if_pos e, e]]
    · (repeat' (first | assumption | exact Below.refl _ _ | apply Below.drew | apply Below.setCell | apply Below.alloc))
      all_goals (first | omega | (simp; omega) | (simp; done))
  · go_region
    go_wp2
    refine bodyPost_ret (v := .tuple #[vV ⟨k % 4, n, ⟨#[]⟩⟩, vV ⟨k % 4, n, ⟨#[]⟩⟩]) ?_ rfl ⟨?_, ?_⟩
    · simp only [results, Try.results21]
      go_simp
    · have e : k % 4 = 2 := by simpa using ‹(k % 4 == 2) = true›
      rw [show ofV k n s = ⟨k % 4, n, ⟨#[]⟩⟩ from by unfold ofV; rw [if_neg (by omega), if_pos e, e]]
    · (repeat' (first | assumption | exact Below.refl _ _ | apply Below.drew | apply Below.setCell | apply Below.alloc))
      all_goals (first | omega | (simp; omega) | (simp; done))
  · go_region
    go_wp2
    refine bodyPost_ret (v := .tuple #[vV ⟨k % 4, 0, s.extract 0 (min (s.size : Int) 64).toNat⟩, vV ⟨k % 4, 0, s.extract 0 (min (s.size : Int) 64).toNat⟩]) ?_ rfl ⟨?_, ?_⟩
    · simp only [results, Try.results21]
      go_simp
    · have e : k % 4 = 3 := by simpa using ‹(k % 4 == 3) = true›
      rw [show ofV k n s = ⟨k % 4, 0, s.extract 0 (min (s.size : Int) 64).toNat⟩ from by unfold ofV; rw [if_neg (by omega), if_neg (by omega), if_pos e, e]]
    · (repeat' (first | assumption | exact Below.refl _ _ | apply Below.drew | apply Below.setCell | apply Below.alloc))
      all_goals (first | omega | (simp; omega) | (simp; done))
  · go_region
    go_wp2
    refine bodyPost_ret (v := .tuple #[vV ⟨k % 4, 0, ⟨#[]⟩⟩, vV ⟨k % 4, 0, ⟨#[]⟩⟩]) ?_ rfl ⟨?_, ?_⟩
    · simp only [results, Try.results21]
      go_simp
    · have h1 : k % 4 ≠ 1 := by simpa using ‹(k % 4 == 1) = false›
      have h2 : k % 4 ≠ 2 := by simpa using ‹(k % 4 == 2) = false›
      have h3 : k % 4 ≠ 3 := by simpa using ‹(k % 4 == 3) = false›
      have e : k % 4 = 0 := by have := H4.out; omega
      rw [show ofV k n s = ⟨k % 4, 0, ⟨#[]⟩⟩ from by unfold ofV; rw [if_neg (by omega), if_neg (by omega), if_neg (by omega), e]]
    · (repeat' (first | assumption | exact Below.refl _ _ | apply Below.drew | apply Below.setCell | apply Below.alloc))
      all_goals (first | omega | (simp; omega) | (simp; done))
end Go.Proofs.Ytmbafcfoboknkaa.agr
