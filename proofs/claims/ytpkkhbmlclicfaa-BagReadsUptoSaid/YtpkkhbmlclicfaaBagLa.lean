/- What bag.Get says, case by case. -/
import Derived.Test.YtpkkhbmlclicfaaBagL
namespace Go.Proofs.Ytpkkhbmlclicfaa.val
set_option linter.unusedVariables false
theorem GetB.bad {s : ByteArray} {o : BL} {er : Int} {tt : List ByteArray} (h : GetB s o er) (hs : splitS s = (tt, true)) (hb : errK tt ≠ 0) : er = errK tt ∧ o = [] := by
  unfold GetB at h
  rw [hs] at h
  rcases h with ⟨h, _⟩ | ⟨_, _, h1, h2⟩ | ⟨_, h, _⟩
  · cases h
  · exact ⟨h1, h2⟩
  · exact absurd h hb
theorem keyRows_unique {ks : List ByteArray} {ls ms : List (List V)} (h : KeyRows ks ls) (h' : KeyRows ks ms) : ls = ms := by
  refine List.ext_getElem (by rw [h.1, h'.1]) fun j h1 h2 => ?_
  have hk : j < ks.length := by rw [← h.1]; exact h1
  obtain ⟨g1, e1⟩ := h.2 j _ _ (List.getElem?_eq_getElem h1) (List.getElem?_eq_getElem hk)
  obtain ⟨g2, e2⟩ := h'.2 j _ _ (List.getElem?_eq_getElem h2) (List.getElem?_eq_getElem hk)
  exact map_enc_inj _ _ g1 g2 (e1.trans e2.symm)
theorem GetB.good {s : ByteArray} {o : BL} {er : Int} {tt : List ByteArray} {ls : List (List V)} (h : GetB s o er) (hs : splitS s = (tt, true)) (hb : ∀ x ∈ tt, errR x = 0) (hk : KeyRows tt ls) :
    (¬ Adj ls ∧ er = 4 ∧ o = []) ∨ (Adj ls ∧ er = 0 ∧ (∀ r, cnt o r = cnt (once ls) r) ∧ total o = ls.length) := by
  unfold GetB at h
  rw [hs] at h
  rcases h with ⟨h, _⟩ | ⟨_, h1, _⟩ | ⟨_, h, ms, hm, h2⟩
  · cases h
  · exact absurd ((errK_good tt).2 hb) h1
  · rw [keyRows_unique hk hm]; exact h2
theorem GetB.cut {s : ByteArray} {o : BL} {er : Int} {tt : List ByteArray} (h : GetB s o er) (hs : splitS s = (tt, false)) : er = 2 ∧ o = [] := by
  unfold GetB at h
  rw [hs] at h
  rcases h with ⟨_, h⟩ | ⟨h, _⟩ | ⟨h, _⟩
  · exact h
  · cases h
  · cases h
end Go.Proofs.Ytpkkhbmlclicfaa.val
