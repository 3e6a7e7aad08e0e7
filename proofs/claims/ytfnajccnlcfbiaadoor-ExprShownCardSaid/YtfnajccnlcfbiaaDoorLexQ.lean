/- Tokens joined are split into the same tokens: plain. -/
import Derived.Test.YtfnajccnlcfbiaaDoorLexAH
import Derived.Test.YtfnajccnlcfbiaaDoorValueKJ
import Derived.Lib.ItoaNum
import Derived.Lib.Join
namespace Go.Proofs.YtfnajccnlcfbiaaDoor.lx
set_option linter.unusedVariables false
/-- the digits of a number -/
theorem dec_all (u : Nat) : (Lib.decDigits u).all digB = true ∧ valL (Lib.decDigits u) = u ∧ Lib.decDigits u ≠ [] := by
  induction u using Nat.strongRecOn with
  | _ u ih =>
    have hd : ∀ v, v < 10 → digB (UInt8.ofNat (48 + v)) = true ∧ (UInt8.ofNat (48 + v)).toNat - 48 = v := by
      intro v hv
      have h : (UInt8.ofNat (48 + v)).toNat = 48 + v := by simp; omega
      unfold digB
      rw [h]
      exact ⟨by simp; omega, by omega⟩
    by_cases h : u < 10
    · rw [Lib.decDigits, dif_pos h]
      obtain ⟨h1, h2⟩ := hd u h
      refine ⟨by simp only [List.all_cons, List.all_nil, Bool.and_true]; exact h1, ?_, by simp⟩
      unfold valL
      simp only [List.foldl_cons, List.foldl_nil]
      omega
    · rw [Lib.decDigits, dif_neg h]
      obtain ⟨h1, h2⟩ := hd (u % 10) (by omega)
      obtain ⟨i1, i2, i3⟩ := ih (u / 10) (by omega)
      refine ⟨by rw [List.all_append, i1]; simp only [List.all_cons, List.all_nil, Bool.and_true, Bool.true_and]; exact h1, ?_, by simp⟩
      unfold valL at i2 ⊢
      rw [List.foldl_append, i2]
      simp only [List.foldl_cons, List.foldl_nil]
      omega
theorem itoa_nat (n : Nat) : Lib.itoa (n : Int) = Lib.decDigits n := by
  unfold Lib.itoa
  rw [if_neg (by omega)]; rfl
end Go.Proofs.YtfnajccnlcfbiaaDoor.lx
