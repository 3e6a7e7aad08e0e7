/- What the laws on values are told: two values that may be, the same. -/
import Derived.Test.YtpkkhbmlclicfaaDoorValueM
import Derived.RegionTactic
import Derived.BigRegion
namespace Go.Proofs.YtpkkhbmlclicfaaDoor.val
set_option linter.unusedVariables false
open Go.RowKit
attribute [local go_sem high] run_eqlV run_neqV

theorem and_one (n : Int) : bits .and .i64 n 1 = 0 ∨ bits .and .i64 n 1 = 1 := by
  have h : (BitVec.ofInt 64 n &&& BitVec.ofInt 64 1).toNat = 0 ∨ (BitVec.ofInt 64 n &&& BitVec.ofInt 64 1).toNat = 1 := by
    rw [BitVec.toNat_and, show (BitVec.ofInt 64 1).toNat = 1 from rfl, Nat.and_one_is_mod]
    omega
  show IntKind.i64.wrap ((BitVec.ofInt 64 n &&& BitVec.ofInt 64 1).toNat : Int) = 0 ∨ IntKind.i64.wrap ((BitVec.ofInt 64 n &&& BitVec.ofInt 64 1).toNat : Int) = 1
  rcases h with h | h <;> rw [h]
  · left; rfl
  · right; rfl
set_option maxRecDepth 100000 in
set_option maxHeartbeats 2000000 in
theorem told_any (k n : Int) (s : ByteArray) (hk : 0 ≤ k ∧ k ≤ 255) (hn : -9223372036854775808 ≤ n ∧ n ≤ 9223372036854775807) (hs : s.size ≤ maxLen) (W : World) :
    Calls Tryd.prog 11 #[.agg #[.int .u8 k, .int .i64 n, .string s]] W fun e w' => (∃ v, Good v ∧ e = .returned (.tuple #[vv v, vv v])) ∧ Below W.heap.size W w' := by
  obtain ⟨k0, k1⟩ := hk
  have hm4 : 0 ≤ k % 4 ∧ k % 4 ≤ 3 := by omega
  have H4 := Lib.hid hm4
  clear hm4
  go_enter Tryd.func11, Tryd.ntmps11
  go_wp2
  · go_region
    go_wp2
    refine bodyPost_ret (v := .tuple #[vv ⟨k % 4, bits .and .i64 n 1, ⟨#[]⟩⟩, vv ⟨k % 4, bits .and .i64 n 1, ⟨#[]⟩⟩]) ?_ rfl ⟨⟨_, ?_, rfl⟩, ?_⟩
    · simp only [results, Tryd.results11]
      go_simp
    · have e : k % 4 = 1 := by simpa using ‹(k % 4 == 1) = true›
      exact .inr (.inl ⟨e, and_one n, rfl⟩)
    · (repeat' (first | assumption | exact Below.refl _ _ | apply Below.drew | apply Below.setCell | apply Below.alloc))
      all_goals (first | omega | (simp; omega) | (simp; done))
  · go_region
    go_wp2
    refine bodyPost_ret (v := .tuple #[vv ⟨k % 4, n, ⟨#[]⟩⟩, vv ⟨k % 4, n, ⟨#[]⟩⟩]) ?_ rfl ⟨⟨_, ?_, rfl⟩, ?_⟩
    · simp only [results, Tryd.results11]
      go_simp
    · have e : k % 4 = 2 := by simpa using ‹(k % 4 == 2) = true›
      exact .inr (.inr (.inl ⟨e, rfl, hn⟩))
    · (repeat' (first | assumption | exact Below.refl _ _ | apply Below.drew | apply Below.setCell | apply Below.alloc))
      all_goals (first | omega | (simp; omega) | (simp; done))
  · go_region
    go_wp2
    refine bodyPost_ret (v := .tuple #[vv ⟨k % 4, 0, s.extract 0 (min (s.size : Int) 64).toNat⟩, vv ⟨k % 4, 0, s.extract 0 (min (s.size : Int) 64).toNat⟩]) ?_ rfl ⟨⟨_, ?_, rfl⟩, ?_⟩
    · simp only [results, Tryd.results11]
      go_simp
    · have e : k % 4 = 3 := by simpa using ‹(k % 4 == 3) = true›
      exact .inr (.inr (.inr ⟨e, rfl, by show (s.extract 0 _).size ≤ 64; rw [ByteArray.size_extract]; omega⟩))
    · (repeat' (first | assumption | exact Below.refl _ _ | apply Below.drew | apply Below.setCell | apply Below.alloc))
      all_goals (first | omega | (simp; omega) | (simp; done))
  · go_region
    go_wp2
    refine bodyPost_ret (v := .tuple #[vv ⟨k % 4, 0, ⟨#[]⟩⟩, vv ⟨k % 4, 0, ⟨#[]⟩⟩]) ?_ rfl ⟨⟨_, ?_, rfl⟩, ?_⟩
    · simp only [results, Tryd.results11]
      go_simp
    · have e : k % 4 = 0 := by
        have h1 : k % 4 ≠ 1 := by simpa using ‹(k % 4 == 1) = false›
        have h2 : k % 4 ≠ 2 := by simpa using ‹(k % 4 == 2) = false›
        have h3 : k % 4 ≠ 3 := by simpa using ‹(k % 4 == 3) = false›
        have := H4.out
        omega
      exact .inl ⟨e, rfl, rfl⟩
    · (repeat' (first | assumption | exact Below.refl _ _ | apply Below.drew | apply Below.setCell | apply Below.alloc))
      all_goals (first | omega | (simp; omega) | (simp; done))

end Go.Proofs.YtpkkhbmlclicfaaDoor.val
