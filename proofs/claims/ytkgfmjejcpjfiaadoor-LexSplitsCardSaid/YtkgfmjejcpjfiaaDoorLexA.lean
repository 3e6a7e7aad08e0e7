/- The classes of bytes and how many bytes at the beginning are of one, walked. -/
import Derived.Test.YtkgfmjejcpjfiaaDoorLexP
import Derived.Test.YtkgfmjejcpjfiaaDoorStrb
import Derived.Test.YtkgfmjejcpjfiaaDoorOwn
import Derived.Test.YtkgfmjejcpjfiaaDoorObj
import Derived.Lib.Hide
namespace Go.Proofs.YtkgfmjejcpjfiaaDoor.lx
set_option linter.unusedVariables false
open Go.RowKit

theorem lower_any (c : UInt8) (W : World) : Calls Tryd.prog 17 #[.int .u8 (c.toNat : Int)] W fun e w' => e = .returned (.bool (lowB c)) ∧ W = w' := by
  have h0 : (0 : Int) ≤ (c.toNat : Int) := by omega
  unfold lowB
  by_cases h1 : 97 ≤ c.toNat
  · have d1 : (97 : Int) ≤ (c.toNat : Int) := by omega
    by_cases h2 : c.toNat ≤ 122
    · have d2 : (c.toNat : Int) ≤ 122 := by omega
      go_enter Tryd.func17, Tryd.ntmps17
      go_wp2
      go_ret
      exact ⟨by simp [h1, h2], rfl⟩
    · have d2 : ¬ (c.toNat : Int) ≤ 122 := by omega
      go_enter Tryd.func17, Tryd.ntmps17
      go_wp2
      go_ret
      exact ⟨by simp [h1, h2], rfl⟩
  · have d1 : ¬ (97 : Int) ≤ (c.toNat : Int) := by omega
    go_enter Tryd.func17, Tryd.ntmps17
    go_wp2
    go_ret
    exact ⟨by simp [h1], rfl⟩
theorem upper_any (c : UInt8) (W : World) : Calls Tryd.prog 21 #[.int .u8 (c.toNat : Int)] W fun e w' => e = .returned (.bool (upB c)) ∧ W = w' := by
  have h0 : (0 : Int) ≤ (c.toNat : Int) := by omega
  unfold upB
  by_cases h1 : 65 ≤ c.toNat
  · have d1 : (65 : Int) ≤ (c.toNat : Int) := by omega
    by_cases h2 : c.toNat ≤ 90
    · have d2 : (c.toNat : Int) ≤ 90 := by omega
      go_enter Tryd.func21, Tryd.ntmps21
      go_wp2
      go_ret
      exact ⟨by simp [h1, h2], rfl⟩
    · have d2 : ¬ (c.toNat : Int) ≤ 90 := by omega
      go_enter Tryd.func21, Tryd.ntmps21
      go_wp2
      go_ret
      exact ⟨by simp [h1, h2], rfl⟩
  · have d1 : ¬ (65 : Int) ≤ (c.toNat : Int) := by omega
    go_enter Tryd.func21, Tryd.ntmps21
    go_wp2
    go_ret
    exact ⟨by simp [h1], rfl⟩
theorem digit_any (c : UInt8) (W : World) : Calls Tryd.prog 22 #[.int .u8 (c.toNat : Int)] W fun e w' => e = .returned (.bool (digB c)) ∧ W = w' := by
  have h0 : (0 : Int) ≤ (c.toNat : Int) := by omega
  unfold digB
  by_cases h1 : 48 ≤ c.toNat
  · have d1 : (48 : Int) ≤ (c.toNat : Int) := by omega
    by_cases h2 : c.toNat ≤ 57
    · have d2 : (c.toNat : Int) ≤ 57 := by omega
      go_enter Tryd.func22, Tryd.ntmps22
      go_wp2
      go_ret
      exact ⟨by simp [h1, h2], rfl⟩
    · have d2 : ¬ (c.toNat : Int) ≤ 57 := by omega
      go_enter Tryd.func22, Tryd.ntmps22
      go_wp2
      go_ret
      exact ⟨by simp [h1, h2], rfl⟩
  · have d1 : ¬ (48 : Int) ≤ (c.toNat : Int) := by omega
    go_enter Tryd.func22, Tryd.ntmps22
    go_wp2
    go_ret
    exact ⟨by simp [h1], rfl⟩
theorem inName_any (c : UInt8) (W : World) : Calls Tryd.prog 19 #[.int .u8 (c.toNat : Int)] W fun e w' => e = .returned (.bool (nameB c)) ∧ W = w' := by
  unfold nameB
  have hl := lower_any c
  have hd := digit_any c
  have h0 : (0 : Int) ≤ (c.toNat : Int) := by omega
  generalize lowB c = p at *
  generalize digB c = q at *
  have H5 : (c.toNat == 95) = ((c.toNat : Int) == 95) := by
    by_cases h : c.toNat = 95
    · rw [h]; rfl
    · rw [beq_eq_false_iff_ne.2 h, eq_comm, beq_eq_false_iff_ne]; omega
  rw [H5]
  clear H5
  cases p
  · cases q
    · go_enter Tryd.func19, Tryd.ntmps19
      go_wp2_with (first | (go_at_call 17; refine (hl _).mono ?_; rintro e w1 ⟨rfl, rfl⟩) | (go_at_call 22; refine (hd _).mono ?_; rintro e w1 ⟨rfl, rfl⟩))
      go_ret
      exact ⟨rfl, rfl⟩
    · go_enter Tryd.func19, Tryd.ntmps19
      go_wp2_with (first | (go_at_call 17; refine (hl _).mono ?_; rintro e w1 ⟨rfl, rfl⟩) | (go_at_call 22; refine (hd _).mono ?_; rintro e w1 ⟨rfl, rfl⟩))
      go_ret
      exact ⟨rfl, rfl⟩
  · go_enter Tryd.func19, Tryd.ntmps19
    go_wp2_with (first | (go_at_call 17; refine (hl _).mono ?_; rintro e w1 ⟨rfl, rfl⟩) | (go_at_call 22; refine (hd _).mono ?_; rintro e w1 ⟨rfl, rfl⟩))
    go_ret
    exact ⟨rfl, rfl⟩
end Go.Proofs.YtkgfmjejcpjfiaaDoor.lx
