/- All of the program's Do; Not. -/
import Derived.Test.YtmbafcfoboknkaaValueC
namespace Go.Proofs.Ytmbafcfoboknkaa.val
set_option linter.unusedVariables false
open Go.RowKit
attribute [local go_sem high] run_eqlV run_neqV
theorem cmpI_iff (x y : Int) : (cmpI x y < 0 ↔ x < y) ∧ (cmpI x y = 0 ↔ x = y) ∧ (0 < cmpI x y ↔ y < x) := by
  unfold cmpI; (repeat' split) <;> omega
theorem cmpS_iff (a b : ByteArray) : (cmpS a b < 0 ↔ Op.bytesLess a.toList b.toList = true) ∧ (cmpS a b = 0 ↔ a.toList = b.toList) ∧ (0 < cmpS a b ↔ Op.bytesLess b.toList a.toList = true) := by
  unfold cmpS
  cases h1 : Op.bytesLess a.toList b.toList
  · cases h2 : Op.bytesLess b.toList a.toList
    · have := bl_total _ _ h1 h2
      simp [this]
    · have : a.toList ≠ b.toList := fun e => by rw [e, bl_irrefl] at h2; cases h2
      simp [this]
  · have h2 := bl_asymm _ _ h1
    have : a.toList ≠ b.toList := fun e => by rw [e, bl_irrefl] at h1; cases h1
    simp [this, h2]
theorem good_text {v : V} (h : Good v) (hk : v.k = 3) : v.n = 0 ∧ v.s.size ≤ 64 := by unfold Good at h; omega
theorem good_other {v : V} (h : Good v) (hk : v.k ≠ 3) : v.s = ByteArray.empty := by
  rcases h with h | h | h | h
  · exact h.2.2
  · exact h.2.2
  · exact h.2.1
  · exact absurd h.1 hk
theorem cmpV_iff (a b : V) (ha : Good a) (hb : Good b) : (cmpV a b < 0 ↔ less a b = true) ∧ (cmpV a b = 0 ↔ veq a b = true) ∧ (0 < cmpV a b ↔ less b a = true) := by
  have hk := cmpI_iff a.k b.k
  have hn := cmpI_iff a.n b.n
  have hs := cmpS_iff a.s b.s
  by_cases ek : a.k = b.k
  · have k0 : cmpI a.k b.k = 0 := hk.2.1.2 ek
    by_cases e3 : a.k = 3
    · have na := (good_text ha e3).1
      have nb := (good_text hb (ek ▸ e3)).1
      have n0 : cmpI a.n b.n = 0 := hn.2.1.2 (by omega)
      have e : cmpV a b = cmpS a.s b.s := by unfold cmpV; rw [k0, n0]; simp
      rw [e]
      refine ⟨?_, ?_, ?_⟩
      · rw [hs.1]; unfold less; rw [if_pos ek, if_pos e3]
      · rw [hs.2.1]; simp [veq6, ek, na, nb]
      · rw [hs.2.2]; unfold less; rw [if_pos ek.symm, if_pos (by omega)]
    · have sa := good_other ha e3
      have sb := good_other hb (ek ▸ e3)
      have s0 : cmpS a.s b.s = 0 := hs.2.1.2 (by rw [sa, sb])
      have e : cmpV a b = cmpI a.n b.n := by unfold cmpV; rw [k0, s0]; simp; intro h; exact h.symm
      rw [e]
      refine ⟨?_, ?_, ?_⟩
      · rw [hn.1]; unfold less; rw [if_pos ek, if_neg e3]; simp
      · rw [hn.2.1]; simp [veq6, ek, sa, sb]
      · rw [hn.2.2]; unfold less; rw [if_pos ek.symm, if_neg (by omega)]; simp
  · have k0 : cmpI a.k b.k ≠ 0 := fun h => ek (hk.2.1.1 h)
    have e : cmpV a b = cmpI a.k b.k := by unfold cmpV; rw [if_pos k0]
    rw [e]
    refine ⟨?_, ?_, ?_⟩
    · rw [hk.1]; unfold less; rw [if_neg ek]; simp
    · rw [hk.2.1]; simp [veq6, ek]
    · rw [hk.2.2]; unfold less; rw [if_neg (fun h => ek h.symm)]; simp
end Go.Proofs.Ytmbafcfoboknkaa.val
