/- An arena as plain mathematics: slots and freed places; the document's arena beside it. -/
import Derived.WalkKit
namespace Go.Proofs.Ytbaepjjanjhliaa
set_option linter.unusedVariables false

/-- slots: is it used, and what is there; the places that were freed, the last one last -/
structure Ar (α : Type) where
  room : Int
  sl : List (Bool × α)
  fr : List Nat

def Ar.has {α : Type} (s : Ar α) (i : Int) : Bool := decide (0 ≤ i) && decide (i < s.sl.length) && ((s.sl[i.toNat]?.map (·.1)).getD false)
def Ar.live {α : Type} (s : Ar α) : Int := (s.sl.length : Int) - s.fr.length
/-- Alloc: the arena behind it, the place, whether there was one -/
def Ar.alloc {α : Type} (s : Ar α) (x : α) : Ar α × Int × Bool :=
  if s.room ≤ s.live then (s, 0, false)
  else match s.fr.getLast? with
    | some i => ({ s with sl := s.sl.set i (true, x), fr := s.fr.dropLast }, (i : Int), true)
    | none => ({ s with sl := s.sl ++ [(true, x)] }, (s.sl.length : Int), true)
def Ar.free {α : Type} (s : Ar α) (z : α) (i : Int) : Ar α := { s with sl := s.sl.set i.toNat (false, z), fr := s.fr ++ [i.toNat] }
def Ar.put {α : Type} (s : Ar α) (i : Int) (x : α) : Ar α := { s with sl := s.sl.set i.toNat (true, x) }

/-- what always holds -/
structure Ar.Ok {α : Type} (s : Ar α) : Prop where
  room0 : 0 ≤ s.room
  room1 : s.room ≤ 1048576
  many : s.sl.length ≤ 1048576
  count : (s.sl.filter (·.1)).length + s.fr.length = s.sl.length
  nodup : s.fr.Nodup
  unused : ∀ i ∈ s.fr, s.sl[i]?.map (·.1) = some false

theorem Ar.Ok.new {α : Type} (room : Int) (h0 : 0 ≤ room) (h1 : room ≤ 1048576) : Ar.Ok ({ room := room, sl := [], fr := [] } : Ar α) :=
  ⟨h0, h1, by simp, rfl, by simp, by simp⟩
theorem Ar.Ok.frle {α : Type} {s : Ar α} (h : s.Ok) : s.fr.length ≤ s.sl.length := by have := h.count; omega
theorem Ar.Ok.lt {α : Type} {s : Ar α} (h : s.Ok) {i : Nat} (hi : i ∈ s.fr) : i < s.sl.length := by
  have := h.unused i hi
  rcases Nat.lt_or_ge i s.sl.length with h1 | h1
  · exact h1
  · rw [List.getElem?_eq_none h1] at this; cases this

theorem filter_set {α : Type} : ∀ (l : List (Bool × α)) (i : Nat) (b : Bool) (x : α) (b0 : Bool) (x0 : α), l[i]? = some (b0, x0) →
    ((l.set i (b, x)).filter (·.1)).length + (if b0 then 1 else 0) = (l.filter (·.1)).length + (if b then 1 else 0)
  | [], i, b, x, b0, x0, h => by simp at h
  | (c, y) :: l, 0, b, x, b0, x0, h => by
    simp at h; obtain ⟨rfl, rfl⟩ := h
    cases b <;> cases c <;> simp
  | (c, y) :: l, i + 1, b, x, b0, x0, h => by
    have ih := filter_set l i b x b0 x0 (by simpa using h)
    cases c <;> simp <;> omega

theorem Ar.has_iff {α : Type} {s : Ar α} {i : Int} : s.has i = true ↔ 0 ≤ i ∧ i.toNat < s.sl.length ∧ ∃ x, s.sl[i.toNat]? = some (true, x) := by
  unfold Ar.has
  simp only [Bool.and_eq_true, decide_eq_true_eq]
  constructor
  · rintro ⟨⟨h0, h1⟩, h2⟩
    have hl : i.toNat < s.sl.length := by omega
    rw [List.getElem?_eq_getElem hl] at h2 ⊢
    simp at h2
    exact ⟨h0, hl, (s.sl[i.toNat]).2, by rw [← h2]⟩
  · rintro ⟨h0, h1, x, hx⟩
    exact ⟨⟨h0, by omega⟩, by rw [hx]; rfl⟩

theorem Ar.Ok.free {α : Type} {s : Ar α} (h : s.Ok) (z : α) {i : Int} (hi : s.has i = true) : (s.free z i).Ok := by
  obtain ⟨h0, hl, x, hx⟩ := Ar.has_iff.1 hi
  have hf := filter_set s.sl i.toNat false z true x hx
  have hni : i.toNat ∉ s.fr := fun hm => by have := h.unused _ hm; rw [hx] at this; cases this
  refine ⟨h.room0, h.room1, by simpa [Ar.free] using h.many, ?_, ?_, ?_⟩
  · have := h.count; simp [Ar.free] at hf ⊢; omega
  · simp only [Ar.free]; rw [List.nodup_append]
    exact ⟨h.nodup, by simp, fun a ha b hb => by simp at hb; subst hb; rintro rfl; exact hni ha⟩
  · intro j hj
    simp only [Ar.free, List.mem_append, List.mem_singleton] at hj ⊢
    rcases hj with hj | rfl
    · have hne : i.toNat ≠ j := fun e => hni (e ▸ hj)
      rw [List.getElem?_set_ne hne]; exact h.unused j hj
    · rw [List.getElem?_set_self hl]; rfl
theorem Ar.Ok.put {α : Type} {s : Ar α} (h : s.Ok) (x : α) {i : Int} (hi : s.has i = true) : (s.put i x).Ok := by
  obtain ⟨h0, hl, y, hy⟩ := Ar.has_iff.1 hi
  have hf := filter_set s.sl i.toNat true x true y hy
  refine ⟨h.room0, h.room1, by simpa [Ar.put] using h.many, ?_, h.nodup, ?_⟩
  · have := h.count; simp [Ar.put] at hf ⊢; omega
  · intro j hj
    have hne : i.toNat ≠ j := fun e => by have := h.unused j hj; rw [← e, hy] at this; cases this
    simp only [Ar.put]
    rw [List.getElem?_set_ne hne]; exact h.unused j hj
theorem Ar.Ok.alloc {α : Type} {s : Ar α} (h : s.Ok) (x : α) : (s.alloc x).1.Ok := by
  unfold Ar.alloc
  split
  · exact h
  · rename_i hlive
    cases hg : s.fr.getLast? with
    | none =>
      have hfr : s.fr = [] := List.getLast?_eq_none_iff.1 hg
      refine ⟨h.room0, h.room1, ?_, ?_, h.nodup, ?_⟩
      · have := h.room1; unfold Ar.live at hlive; rw [hfr] at hlive; simp at hlive ⊢; omega
      · have := h.count; simp at this ⊢; omega
      · intro i hi; rw [hfr] at hi; cases hi
    | some i =>
      have hmem : i ∈ s.fr := List.mem_of_getLast? hg
      have hsplit : s.fr = s.fr.dropLast ++ [i] := by
        have := List.dropLast_concat_getLast (l := s.fr) (by intro e; rw [e] at hg; cases hg)
        rw [List.getLast?_eq_some_getLast (by intro e; rw [e] at hg; cases hg)] at hg
        simp at hg; rw [hg] at this; exact this.symm
      have hu := h.unused i hmem
      obtain ⟨y, hy⟩ : ∃ y, s.sl[i]? = some (false, y) := by
        cases he : s.sl[i]? with
        | none => rw [he] at hu; cases hu
        | some p => rw [he] at hu; simp at hu; exact ⟨p.2, by rw [← hu]⟩
      have hf := filter_set s.sl i true x false y hy
      have hnd := h.nodup
      rw [hsplit, List.nodup_append] at hnd
      refine ⟨h.room0, h.room1, by simpa using h.many, ?_, hnd.1, ?_⟩
      · have := h.count; rw [hsplit] at this; simp at this hf ⊢; omega
      · intro j hj
        have hne : i ≠ j := fun e => hnd.2.2 j hj i (by simp) e.symm
        dsimp only at hj ⊢
        rw [List.getElem?_set_ne hne]
        exact h.unused j (by rw [hsplit]; exact List.mem_append_left _ hj)

end Go.Proofs.Ytbaepjjanjhliaa
