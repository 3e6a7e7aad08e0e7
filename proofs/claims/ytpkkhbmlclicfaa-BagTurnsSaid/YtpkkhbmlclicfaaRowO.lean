/- Lists of rows in memory: values that own rows. -/
import Derived.Test.YtpkkhbmlclicfaaMB
import Derived.Test.YtpkkhbmlclicfaaOwn
namespace Go.Proofs.Ytpkkhbmlclicfaa.val
set_option linter.unusedVariables false
open Go.RowKit
/-- values that own these rows -/
def RwT (T : TypeId) (B : Nat) (W : World) (vs : List Value) (ls : List (List V)) : Prop := vs.length = ls.length ∧ ∀ (j : Nat) u l, vs[j]? = some u → ls[j]? = some l → W.ownsRow B T 3 u l.length (vCells l)
theorem RwT.later {T : TypeId} {B : Nat} {W W' : World} {vs : List Value} {ls : List (List V)} (h : RwT T B W vs ls) (hb : Below W.heap.size W W') : RwT T B W' vs ls := ⟨h.1, fun j u l h1 h2 => owns_below (h.2 j u l h1 h2) hb⟩
theorem RwT.nil (T : TypeId) (B : Nat) (W : World) : RwT T B W [] [] := ⟨rfl, fun j u l h => by simp at h⟩
theorem getElem?_snoc {α : Type} (l : List α) (x y : α) (j : Nat) (h : (l ++ [x])[j]? = some y) : (j < l.length ∧ l[j]? = some y) ∨ (j = l.length ∧ x = y) := by
  by_cases hj : j < l.length
  · rw [List.getElem?_append_left hj] at h; exact .inl ⟨hj, h⟩
  · have e1 : j = l.length := by
      have := (List.getElem?_eq_some_iff.1 h).1
      simp at this; omega
    subst e1
    rw [List.getElem?_append_right (Nat.le_refl _)] at h
    simp at h
    exact .inr ⟨rfl, h⟩
theorem RwT.snoc {T : TypeId} {B : Nat} {W : World} {vs : List Value} {ls : List (List V)} {u : Value} {l : List V} (h : RwT T B W vs ls) (hu : W.ownsRow B T 3 u l.length (vCells l)) : RwT T B W (vs ++ [u]) (ls ++ [l]) := by
  refine ⟨by simp [h.1], fun j u' l' h1 h2 => ?_⟩
  have hl := h.1
  rcases getElem?_snoc vs u u' j h1 with ⟨a1, a2⟩ | ⟨a1, rfl⟩ <;> rcases getElem?_snoc ls l l' j h2 with ⟨b1, b2⟩ | ⟨b1, rfl⟩
  · exact h.2 j u' l' a2 b2
  · omega
  · omega
  · exact hu
theorem RwT.grown {T : TypeId} {B : Nat} {W W' : World} {vs : List Value} {ls : List (List V)} {row : Option Nat} (h : RwT T B W vs ls) (hg : W.grownBy W' row) (hne : ∀ u ∈ vs, u.ownBlock = none ∨ u.ownBlock ≠ row) : RwT T B W' vs ls :=
  ⟨h.1, fun j u l h1 h2 => (h.2 j u l h1 h2).kept hg (hne u (List.mem_of_getElem? h1))⟩
/-- rows lie apart from what has other elements -/
theorem RwT.apart {T : TypeId} {B B' : Nat} {W : World} {vs : List Value} {ls : List (List V)} {e : TypeId} {k n : Nat} {v : Value} {xs : List Value} (h : RwT T B W vs ls) (hv : W.ownsRow B' e k v n xs) (he : T ≠ e) : ∀ u ∈ vs, u.ownBlock = none ∨ u.ownBlock ≠ v.ownBlock := by
  intro u hu
  obtain ⟨j, hj, rfl⟩ := List.getElem_of_mem hu
  exact owns_ne_owns (h.2 j _ ls[j]! (List.getElem?_eq_getElem hj) (by rw [getElem!_pos ls j (by rw [← h.1]; exact hj)]; exact List.getElem?_eq_getElem _)) hv he
/-- values that read as these rows -/
def Rws (W : World) (vs : List Value) (ls : List (List V)) : Prop := vs.length = ls.length ∧ ∀ (j : Nat) u l, vs[j]? = some u → ls[j]? = some l → IsRow W u l
theorem Rws.later {W W' : World} {vs : List Value} {ls : List (List V)} (h : Rws W vs ls) (hb : Below W.heap.size W W') : Rws W' vs ls := ⟨h.1, fun j u l h1 h2 => (h.2 j u l h1 h2).later hb⟩
theorem Rws.nil (W : World) : Rws W [] [] := ⟨rfl, fun j u l h => by simp at h⟩
theorem Rws.snoc {W : World} {vs : List Value} {ls : List (List V)} {u : Value} {l : List V} (h : Rws W vs ls) (hu : IsRow W u l) : Rws W (vs ++ [u]) (ls ++ [l]) := by
  refine ⟨by simp [h.1], fun j u' l' h1 h2 => ?_⟩
  have hl := h.1
  rcases getElem?_snoc vs u u' j h1 with ⟨a1, a2⟩ | ⟨a1, rfl⟩ <;> rcases getElem?_snoc ls l l' j h2 with ⟨b1, b2⟩ | ⟨b1, rfl⟩
  · exact h.2 j u' l' a2 b2
  · omega
  · omega
  · exact hu
theorem Rws.take {W : World} {vs : List Value} {ls : List (List V)} (h : Rws W vs ls) (k : Nat) : Rws W (vs.take k) (ls.take k) := by
  refine ⟨by simp [h.1], fun j u l h1 h2 => ?_⟩
  have hj : j < k := by have := (List.getElem?_eq_some_iff.1 h1).1; rw [List.length_take] at this; omega
  rw [List.getElem?_take_of_lt hj] at h1 h2
  exact h.2 j u l h1 h2
theorem Rws.drop {W : World} {vs : List Value} {ls : List (List V)} (h : Rws W vs ls) (k : Nat) : Rws W (vs.drop k) (ls.drop k) := by
  refine ⟨by simp [h.1], fun j u l h1 h2 => ?_⟩
  rw [List.getElem?_drop] at h1 h2
  exact h.2 (k + j) u l h1 h2
theorem Rws.append {W : World} {vs us : List Value} {ls ms : List (List V)} (h : Rws W vs ls) (h' : Rws W us ms) : Rws W (vs ++ us) (ls ++ ms) := by
  refine ⟨by simp [h.1, h'.1], fun j u l h1 h2 => ?_⟩
  have hl := h.1
  by_cases hj : j < vs.length
  · rw [List.getElem?_append_left hj] at h1
    rw [List.getElem?_append_left (by omega)] at h2
    exact h.2 j u l h1 h2
  · rw [List.getElem?_append_right (by omega)] at h1 h2
    rw [hl] at h1
    exact h'.2 _ u l h1 h2
theorem RwT.rws {T : TypeId} {B : Nat} {W : World} {vs : List Value} {ls : List (List V)} (h : RwT T B W vs ls) : Rws W vs ls := ⟨h.1, fun j u l h1 h2 => Row.of_owns (h.2 j u l h1 h2)⟩
theorem Rws.one {W : World} {vs : List Value} {ls : List (List V)} (h : Rws W vs ls) : ∀ u ∈ vs, u.oneCell' = true := by
  intro u hu
  obtain ⟨j, hj, rfl⟩ := List.getElem_of_mem hu
  obtain ⟨a, c, e, -⟩ := h.2 j _ (ls[j]'(by rw [← h.1]; exact hj)) (List.getElem?_eq_getElem hj) (List.getElem?_eq_getElem _)
  rw [e]; rfl
theorem row_at {w : World} {v : Value} {vs : List Value} (h : Row w v 1 vs.length vs) (k : Nat) (hk : k < vs.length) : ∃ b off cap, v = .slice (some ⟨b, off, none⟩) vs.length cap ∧ w.cell? ⟨b, off + k, none⟩ = some vs[k] := by
  obtain ⟨b, off, cap, hv, hc⟩ := h.pos (by omega)
  exact ⟨b, off, cap, hv, by rw [hc k (by omega), List.getElem?_eq_getElem hk]⟩
theorem vCells_one (l : List V) : ∀ u ∈ vCells l, u.oneCell' = true := by
  intro u hu
  unfold vCells at hu
  obtain ⟨v, _, hv⟩ := List.mem_flatMap.1 hu
  simp at hv
  rcases hv with rfl | rfl | rfl <;> rfl
end Go.Proofs.Ytpkkhbmlclicfaa.val
