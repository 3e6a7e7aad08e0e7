/- The list of stamps: New, walked. -/
import Derived.Test.YtbaepjjanjhliaaOrderI
namespace Go.Proofs.Ytbaepjjanjhliaa.ord
set_option linter.unusedVariables false
open Go.RowKit arK

/-- the list at block bl over the arena at block b, both made since the world w0, of which nothing has turned -/
def HL (w0 : World) (bl b : Nat) (s : Ar Lk) (w : World) : Prop := ∃ own, LI own bl b s w ∧ (∀ k, own k → w0.heap.size ≤ k) ∧ w0.heap.size ≤ bl ∧ Below w0.heap.size w0 w
theorem HL.later {w0 w w' : World} {bl b : Nat} {s : Ar Lk} (h : HL w0 bl b s w) (hb : Below w.heap.size w w') : HL w0 bl b s w' := by
  obtain ⟨own, h1, h2, h3, h4⟩ := h
  exact ⟨own, h1.later hb, h2, h3, after h4 hb h4.size⟩
theorem HL.step {w0 w w' : World} {own : Nat → Prop} {bl b : Nat} {s' : Ar Lk} (h2 : ∀ k, own k → w0.heap.size ≤ k) (h3 : w0.heap.size ≤ bl) (h4 : Below w0.heap.size w0 w) (q1 : LI (ownNew own w w') bl b s' w') (q2 : Only own w w') : HL w0 bl b s' w' :=
  ⟨_, q1, fun k hk => hk.elim (h2 k) (fun h => Nat.le_trans h4.size h.1), h3, h4.trans (q2.below h4.size h2)⟩
theorem LI.step' {own : Nat → Prop} {bl b : Nat} {s s' : Ar Lk} {w w' : World} (h : LI own bl b s w) (h' : Is (ownNew own w w') b s' w') (ho : Only own w w') : LI (ownNew own w w') bl b s' w' :=
  ⟨h', h.fl.only ho h.nown, fun q => q.elim h.nown (fun q => by have := h.lt; omega)⟩
/-- the list of one stamp -/
def s0 : Ar Lk := { room := 1048576, sl := [(true, ⟨-1, -1, 0⟩)], fr := [] }
theorem has0 (i : Int) : s0.has i = true ↔ i = 0 := by
  unfold Ar.has s0
  constructor
  · intro h
    simp only [List.length_singleton, Bool.and_eq_true, decide_eq_true_eq] at h
    omega
  · rintro rfl; rfl
theorem ok0 : Ok s0 [0] := by
  refine ⟨rfl, by simp, fun i => by rw [has0]; simp, ?_, ?_, ?_, ?_⟩
  · intro k i hk
    match k, hk with
    | 0, hk => cases hk; rfl
    | k + 1, hk => simp at hk
  · intro k i hk
    match k, hk with
    | 0, hk => cases hk; rfl
    | k + 1, hk => simp at hk
  · intro k i j _ hk
    simp at hk
  · intro i hi
    rw [List.mem_singleton] at hi
    subst hi
    exact ⟨by decide, by decide⟩
set_option maxRecDepth 100000 in
set_option maxHeartbeats 1000000 in
/-- NEW gives a list of one stamp. -/
theorem new_l (w : World) : Calls Try.prog 23 #[] w fun e w' => ∃ bl b, e = .returned (.pointer (some ⟨bl, 0, none⟩)) ∧ HL w bl b s0 w' := by
  have HN := Lib.hid (new_any 1048576 w)
  go_enter Try.func23, Try.ntmps23
  go_wp2_with fail
  (with_reducible refine HN.out.mono ?_); rintro e w1 ⟨rfl, h1, h2, h3⟩
  go_wp2_with fail
  have hr : ({ room := min (max 1048576 0) 1048576, sl := [], fr := [] } : Ar Lk) = { room := 1048576, sl := [], fr := [] } := rfl
  rw [hr] at h1
  have hb : Below w1.heap.size w1 (w1.alloc (.cells #[.pointer (some ⟨w.heap.size, 0, none⟩)] TO)) := (Below.refl _ _).alloc (Nat.le_refl _) _
  have hI : LI (fun k => k = w.heap.size) w1.heap.size w.heap.size { room := 1048576, sl := [], fr := [] } (w1.alloc (.cells #[.pointer (some ⟨w.heap.size, 0, none⟩)] TO)) :=
    ⟨h1.later hb, Flds.new w1 TO [.pointer (some ⟨w.heap.size, 0, none⟩)], fun h => by omega⟩
  have hBB := after h2 hb (by omega)
  generalize w1.alloc (.cells #[.pointer (some ⟨w.heap.size, 0, none⟩)] TO) = Y at *
  generalize hg : w1.heap.size = g at *
  clear hb hr h1
  subst h3
  (with_reducible refine (alloc_any _ _ _ Y hI.is ⟨-1, -1, 0⟩).mono ?_)
  rintro e w2 ⟨rfl, k1, k2⟩
  go_wp2_with fail
  go_ret
  exact ⟨_, _, rfl, .step (fun k hk => by omega) (by omega) hBB (hI.step' k1 k2) k2⟩
end Go.Proofs.Ytbaepjjanjhliaa.ord
