/- Numerals and quotes as plain mathematics. No program. -/
import Derived.Test.YtpkkhbmlclicfaaMA
import Derived.Lib.Replace
import Derived.Lib.ReplaceLaws
import Derived.Lib.CountLaws
import Derived.Lib.ItoaNum
namespace Go.Proofs.Ytpkkhbmlclicfaa.val
set_option linter.unusedVariables false
/-- a text's bytes, each quote twice -/
def dup (l : List UInt8) : List UInt8 := l.flatMap fun c => if c = 39 then [39, 39] else [c]
theorem dup_snoc (l : List UInt8) (c : UInt8) : dup (l ++ [c]) = dup l ++ if c = 39 then [39, 39] else [c] := by simp [dup]
theorem dup_cons (l : List UInt8) (c : UInt8) : dup (c :: l) = (if c = 39 then [39, 39] else [c]) ++ dup l := by simp [dup]
theorem replaceK_dup : ∀ l : List UInt8, Lib.replaceK [39] [39, 39] (Lib.count l [39]) l = dup l
  | [] => by
    have h : Lib.index [] [39] = -1 := by decide
    rw [Lib.count_miss h]; rfl
  | c :: l => by
    have ih := replaceK_dup l
    rw [dup_cons]
    by_cases hc : c = 39
    · subst hc
      have h : Lib.index (39 :: l) [39] = ((0 : Nat) : Int) := by unfold Lib.index; simp
      rw [Lib.count_hit (by decide) h]
      have e : (39 :: l).drop (0 + [(39 : UInt8)].length) = l := rfl
      rw [e, Nat.add_comm, Lib.replaceK_hit _ _ _ _ 0 h, e, ih, if_pos rfl]
      rfl
    · rw [if_neg hc]
      have hp : ([39] : List UInt8).isPrefixOf (c :: l) = false := by simp [List.isPrefixOf]; exact fun e => hc e.symm
      by_cases hm : Lib.index l [39] = -1
      · have h : Lib.index (c :: l) [39] = -1 := by unfold Lib.index; rw [hp, hm]; simp
        rw [Lib.count_miss h]
        rw [Lib.count_miss hm] at ih
        have e : Lib.replaceK [39] [39, 39] 0 l = l := rfl
        rw [e] at ih
        rw [← ih]; rfl
      · have hg := Lib.index_ge l [39]
        obtain ⟨i, hi⟩ : ∃ i : Nat, Lib.index l [39] = i := ⟨(Lib.index l [39]).toNat, by omega⟩
        have h : Lib.index (c :: l) [39] = ((i + 1 : Nat) : Int) := by
          unfold Lib.index; rw [hp, hi]
          have : ((i : Int) == -1) = false := by simp
          simp [this]
        rw [Lib.count_hit (by decide) h]
        rw [Lib.count_hit (by decide) hi] at ih
        have e1 : (c :: l).drop (i + 1 + [(39 : UInt8)].length) = l.drop (i + [(39 : UInt8)].length) := rfl
        rw [e1, Nat.add_comm, Lib.replaceK_hit _ _ _ _ (i + 1) h, e1]
        rw [Nat.add_comm, Lib.replaceK_hit _ _ _ _ i hi] at ih
        rw [← ih]; rfl
theorem replaceAll_dup (l : List UInt8) : Lib.replaceAll l [39] [39, 39] = dup l := by
  unfold Lib.replaceAll Lib.replace Lib.replaceNum
  rw [if_neg (by decide), if_pos (.inl (by decide))]
  exact replaceK_dup l
/-- one digit -/
def dig (u : Nat) : UInt8 := UInt8.ofNat (48 + u % 10)
theorem dec_last {u : Nat} (h : u / 10 = 0) : Lib.decDigits u = [dig u] := by
  have hu : u < 10 := by omega
  rw [Lib.decDigits, dif_pos hu]; unfold dig; rw [Nat.mod_eq_of_lt hu]
theorem dec_more {u : Nat} (h : u / 10 ≠ 0) : Lib.decDigits u = Lib.decDigits (u / 10) ++ [dig u] := by
  rw [Lib.decDigits, dif_neg (by omega)]; rfl
/-- ahead of a round: what is left, what is written -/
def Dig (n u : Nat) (out : List UInt8) : Prop := Lib.decDigits n = Lib.decDigits u ++ out
theorem Dig.step {n u : Nat} {out : List UInt8} (h : Dig n u out) (hu : u / 10 ≠ 0) : Dig n (u / 10) (dig u :: out) := by
  unfold Dig at *; rw [h, dec_more hu]; simp
theorem Dig.done {n u : Nat} {out : List UInt8} (h : Dig n u out) (hu : u / 10 = 0) : Lib.decDigits n = dig u :: out := by
  unfold Dig at h; rw [h, dec_last hu]; rfl
end Go.Proofs.Ytpkkhbmlclicfaa.val
