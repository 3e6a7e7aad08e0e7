/- Two boxes that take what two calls give, in one statement: an invariant. No program. -/
import Derived.Test.YtmbafcfoboknkaaAggK
import Derived.Test.YtmbafcfoboknkaaAgJ
namespace Go.Proofs.Ytmbafcfoboknkaa.agr
set_option linter.unusedVariables false
open Go.RowKit val
theorem row_skip1 {W W' : World} {g gb : Nat} {c : Int} {a : Option Addr} {n n' : Nat} {l : List On} (hf : Flds W g TPt [.int .i64 c, .slice a n n']) (hr : Row W (.slice (some ⟨gb, 0, none⟩) 2 2) 9 2 (oCells l)) (hl : ∃ o l', l = o :: l') (ho : Only (fun k => k = g) W W') : Row W' (.slice (some ⟨gb, 0, none⟩) 2 2) 9 2 (oCells l) := by
  obtain ⟨o, l', rfl⟩ := hl
  refine hr.only ho (fun b hb => ?_)
  simp only [Value.ownBlock, Option.some.injEq] at hb
  subst hb
  rintro rfl
  obtain ⟨a', cap', e, hl, h⟩ := hr
  rcases h with h | ⟨b, off, ea, hc⟩
  · omega
  · simp only [Value.slice.injEq] at e
    rw [← e.1] at ea
    simp only [Option.some.injEq, Addr.mk.injEq, and_true] at ea
    obtain ⟨rfl, rfl⟩ := ea
    have h1 := hc 1 (by decide)
    rw [hf.cell, oCells_cons] at h1
    simp [oCell] at h1
theorem row_skip2 {W W' : World} {g3 g4 gb : Nat} {c c' : Int} {a a' : Option Addr} {n n' q q' : Nat} {l : List On} (h3 : Flds W g3 TPt [.int .i64 c, .slice a n n']) (h4 : Flds W g4 TPt [.int .i64 c', .slice a' q q']) (hr : Row W (.slice (some ⟨gb, 0, none⟩) 2 2) 9 2 (oCells l)) (hl : ∃ o l', l = o :: l') (ho : Only (fun k => k = g3 ∨ k = g4) W W') : Row W' (.slice (some ⟨gb, 0, none⟩) 2 2) 9 2 (oCells l) := by
  obtain ⟨o, l', rfl⟩ := hl
  refine hr.only ho (fun b hb => ?_)
  simp only [Value.ownBlock, Option.some.injEq] at hb
  subst hb
  obtain ⟨a', cap', e, hl, h⟩ := hr
  rcases h with h | ⟨b, off, ea, hc⟩
  · omega
  · simp only [Value.slice.injEq] at e
    rw [← e.1] at ea
    simp only [Option.some.injEq, Addr.mk.injEq, and_true] at ea
    obtain ⟨rfl, rfl⟩ := ea
    have h1 := hc 1 (by decide)
    rintro (rfl | rfl)
    · rw [h3.cell, oCells_cons] at h1
      simp [oCell] at h1
    · rw [h4.cell, oCells_cons] at h1
      simp [oCell] at h1
structure K9 where
  g3 : Nat
  g4 : Nat
  r : Int
  s : Int
  ga : Nat
  gb : Nat
  p1 : Value
  p4 : Value
  v2 : Value
  v5 : Value
  LA : List On
  LB : List On
def PAV (r : Int) (l : List On) (v : Value) (W : World) : Prop := ∃ g, v = .agg #[.int .i64 r, .slice (some ⟨g, 0, none⟩) 2 2] ∧ Row W (.slice (some ⟨g, 0, none⟩) 2 2) 9 2 (oCells l)
theorem PAV.lasts {r : Int} {l : List On} {v : Value} {W W' : World} (h : PAV r l v W) (hb : Below W.heap.size W W') : PAV r l v W' := by
  obtain ⟨g, h1, h2⟩ := h
  exact ⟨g, h1, h2.later hb⟩
theorem row_skip0 {W W' : World} {g gb : Nat} {c : Int} {l : List On} (hf : Flds W g TPt [.int .i64 c, .slice none 0 0]) (hr : Row W (.slice (some ⟨gb, 0, none⟩) 2 2) 9 2 (oCells l)) (hl : ∃ o l', l = o :: l') (ho : Only (fun k => k = g) W W') : Row W' (.slice (some ⟨gb, 0, none⟩) 2 2) 9 2 (oCells l) := row_skip1 hf hr hl ho
def P9 (k : K9) : Nat → Value → World → Prop
  | 0, v, _ => v = .agg #[.int .i64 k.r, .slice (some ⟨k.ga, 0, none⟩) 2 2]
  | 1, v, _ => v = k.p1
  | 2, v, _ => v = k.v2
  | 3, v, W => PAV k.s k.LA v W
  | 4, v, _ => v = k.p4
  | 5, v, _ => v = k.v5
  | 6, v, _ => v = .agg #[.int .i64 k.r, .slice (some ⟨k.gb, 0, none⟩) 2 2]
  | 7, v, W => PAV k.s k.LB v W
  | _, _, _ => True
theorem P9.turn {k : K9} {W W' : World} (hA : ∀ g, Row W (.slice (some ⟨g, 0, none⟩) 2 2) 9 2 (oCells k.LA) → Row W' (.slice (some ⟨g, 0, none⟩) 2 2) 9 2 (oCells k.LA)) (hB : ∀ g, Row W (.slice (some ⟨g, 0, none⟩) 2 2) 9 2 (oCells k.LB) → Row W' (.slice (some ⟨g, 0, none⟩) 2 2) 9 2 (oCells k.LB)) : ∀ {j : Nat} {v : Value}, P9 k j v W → P9 k j v W'
  | 0, _, h | 1, _, h | 2, _, h | 4, _, h | 5, _, h | 6, _, h => h
  | 3, _, ⟨g, h, hr⟩ => ⟨g, h, hA g hr⟩
  | 7, _, ⟨g, h, hr⟩ => ⟨g, h, hB g hr⟩
  | j + 8, _, h => trivial
/-- a box: as it was, or as it is -/
def Bx (k : K9) (g g0 : Nat) (L : List On) (done : Bool) (W : World) : Prop := (done = false → Flds W g TPt [.int .i64 k.r, .slice (some ⟨g0, 0, none⟩) 2 2]) ∧ (done = true → ∃ g1, Flds W g TPt [.int .i64 k.s, .slice (some ⟨g1, 0, none⟩) 2 2] ∧ Row W (.slice (some ⟨g1, 0, none⟩) 2 2) 9 2 (oCells L))
theorem Bx.any {k : K9} {g g0 : Nat} {L : List On} {d : Bool} {W : World} (h : Bx k g g0 L d W) : ∃ c g1, Flds W g TPt [.int .i64 c, .slice (some ⟨g1, 0, none⟩) 2 2] := by
  cases d with
  | false => exact ⟨_, _, h.1 rfl⟩
  | true => obtain ⟨g1, h1, -⟩ := h.2 rfl; exact ⟨_, _, h1⟩
theorem Bx.later {k : K9} {g g0 : Nat} {L : List On} {d : Bool} {W W' : World} (h : Bx k g g0 L d W) (hb : Below W.heap.size W W') : Bx k g g0 L d W' :=
  ⟨fun e => (h.1 e).later hb, fun e => by obtain ⟨g1, h1, h2⟩ := h.2 e; exact ⟨g1, h1.later hb, h2.later hb⟩⟩
structure J9 (X : World) (k : K9) (b : Nat → Bool) (xs : Nat → Value) (W : World) : Prop where
  ho : Only (fun j => j = k.g3 ∨ j = k.g4) X W
  h8 : b 8 = true → b 0 = true ∧ b 3 = true
  h9 : b 9 = true → b 6 = true ∧ b 7 = true ∧ b 8 = true
  hp : ∀ j, b j = true → P9 k j (xs j) W
  b3 : Bx k k.g3 k.ga k.LA (b 8) W
  b4 : Bx k k.g4 k.gb k.LB (b 9) W
  ne : k.g3 ≠ k.g4
  lA : ∃ o l', k.LA = o :: l'
  lB : ∃ o l', k.LB = o :: l'
theorem J9.at {X : World} {k : K9} {b : Nat → Bool} {xs : Nat → Value} {W : World} (h : J9 X k b xs W) {j : Nat} (hj : b j = true) : P9 k j (xs j) W := h.hp j hj
theorem J9.zero {X : World} {k : K9} {W : World} (hb : Below X.heap.size X W) (h3 : Flds X k.g3 TPt [.int .i64 k.r, .slice (some ⟨k.ga, 0, none⟩) 2 2]) (h4 : Flds X k.g4 TPt [.int .i64 k.r, .slice (some ⟨k.gb, 0, none⟩) 2 2]) (ne : k.g3 ≠ k.g4) (lA : ∃ o l', k.LA = o :: l') (lB : ∃ o l', k.LB = o :: l') : J9 X k (fun j => decide (10 ≤ j)) (fun _ => undef) W := by
  refine ⟨Only.of_below hb, fun h => absurd h (by decide), fun h => absurd h (by decide), fun j hj => ?_, ⟨fun _ => h3.later hb, fun h => absurd h (by decide)⟩, ⟨fun _ => h4.later hb, fun h => absurd h (by decide)⟩, ne, lA, lB⟩
  have hj' : 10 ≤ j := of_decide_eq_true hj
  obtain ⟨q, rfl⟩ : ∃ q, j = q + 8 := ⟨j - 8, by omega⟩
  trivial
theorem J9.step {X : World} {k : K9} {b : Nat → Bool} {xs : Nat → Value} {W W' : World} {v : Value} (h : J9 X k b xs W) (i : Nat) (hi8 : i ≠ 8) (hi9 : i ≠ 9) (hb : Below W.heap.size W W') (hv : P9 k i v W') : J9 X k (ag.updB b i) (ag.upd xs i v) W' := by
  have e8 : ag.updB b i 8 = b 8 := by unfold ag.updB; rw [if_neg (Ne.symm hi8)]
  have e9 : ag.updB b i 9 = b 9 := by unfold ag.updB; rw [if_neg (Ne.symm hi9)]
  have up : ∀ j, b j = true → ag.updB b i j = true := fun j hj => by unfold ag.updB; split <;> first | rfl | exact hj
  refine ⟨h.ho.trans (Only.of_below (own := fun j => j = k.g3 ∨ j = k.g4) hb) (fun _ _ e => e), fun hh => ?_, fun hh => ?_, fun j hj => ?_, by rw [e8]; exact h.b3.later hb, by rw [e9]; exact h.b4.later hb, h.ne, h.lA, h.lB⟩
  · rw [e8] at hh; exact ⟨up _ (h.h8 hh).1, up _ (h.h8 hh).2⟩
  · rw [e9] at hh; exact ⟨up _ (h.h9 hh).1, up _ (h.h9 hh).2.1, up _ (h.h9 hh).2.2⟩
  · unfold ag.updB at hj
    unfold ag.upd
    split
    · rename_i e; subst e; exact hv
    · rename_i e
      rw [if_neg e] at hj
      exact P9.turn (fun g hr => hr.later hb) (fun g hr => hr.later hb) (h.hp j hj)
theorem only2 (W : World) (g : Nat) (x y : Value) : Only (fun k => k = g) W ((W.setCell ⟨g, 0, none⟩ x).setCell ⟨g, 1, none⟩ y) := by
  have h := Only.refl (fun k => k = g) W
  exact (h.setCell ⟨g, 0, none⟩ x (fun _ => rfl)).setCell ⟨g, 1, none⟩ y (fun _ => rfl)
theorem J9.step8 {X : World} {k : K9} {b : Nat → Bool} {xs : Nat → Value} {W : World} {v : Value} {g : Nat} (h : J9 X k b xs W) (h8 : b 8 = false) (h0 : b 0 = true) (h3 : b 3 = true) (hr : Row W (.slice (some ⟨g, 0, none⟩) 2 2) 9 2 (oCells k.LA)) : J9 X k (ag.updB b 8) (ag.upd xs 8 v) ((W.setCell ⟨k.g3, 0, none⟩ (.int .i64 k.s)).setCell ⟨k.g3, 1, none⟩ (.slice (some ⟨g, 0, none⟩) 2 2)) := by
  obtain ⟨c, g1, hf⟩ := h.b3.any
  have ho := only2 W k.g3 (.int .i64 k.s) (.slice (some ⟨g, 0, none⟩) 2 2)
  have h9 : b 9 = false := by
    cases e : b 9 with
    | false => rfl
    | true => have := (h.h9 e).2.2; rw [h8] at this; cases this
  have e9 : ag.updB b 8 9 = b 9 := rfl
  have up : ∀ j, b j = true → ag.updB b 8 j = true := fun j hj => by unfold ag.updB; split <;> first | rfl | exact hj
  obtain ⟨hn, -⟩ := box2 (x := .int .i64 k.s) (y := .slice (some ⟨g, 0, none⟩) 2 2) hf
  refine ⟨h.ho.trans (ho.mono (own' := fun j => j = k.g3 ∨ j = k.g4) (fun _ _ e => .inl e)) (fun _ _ e => e), fun _ => ⟨up 0 h0, up 3 h3⟩, fun hh => (by rw [e9, h9] at hh; cases hh), fun j hj => ?_, ⟨fun e => (by cases e), fun _ => ⟨g, hn, row_skip1 hf hr h.lA ho⟩⟩, ?_, h.ne, h.lA, h.lB⟩
  · unfold ag.updB at hj
    unfold ag.upd
    split
    · rename_i e; subst e; trivial
    · rename_i e
      rw [if_neg e] at hj
      exact P9.turn (fun g' hr' => row_skip1 hf hr' h.lA ho) (fun g' hr' => row_skip1 hf hr' h.lB ho) (h.hp j hj)
  · rw [e9]
    exact ⟨fun e => (h.b4.1 e).only ho (fun e => h.ne e.symm), fun e => by rw [h9] at e; cases e⟩
theorem J9.step9 {X : World} {k : K9} {b : Nat → Bool} {xs : Nat → Value} {W : World} {v : Value} {g : Nat} (h : J9 X k b xs W) (h6 : b 6 = true) (h7 : b 7 = true) (h8 : b 8 = true) (hr : Row W (.slice (some ⟨g, 0, none⟩) 2 2) 9 2 (oCells k.LB)) : J9 X k (ag.updB b 9) (ag.upd xs 9 v) ((W.setCell ⟨k.g4, 0, none⟩ (.int .i64 k.s)).setCell ⟨k.g4, 1, none⟩ (.slice (some ⟨g, 0, none⟩) 2 2)) := by
  obtain ⟨c, g1, hf⟩ := h.b4.any
  have ho := only2 W k.g4 (.int .i64 k.s) (.slice (some ⟨g, 0, none⟩) 2 2)
  have e8 : ag.updB b 9 8 = b 8 := rfl
  have up : ∀ j, b j = true → ag.updB b 9 j = true := fun j hj => by unfold ag.updB; split <;> first | rfl | exact hj
  obtain ⟨hn, -⟩ := box2 (x := .int .i64 k.s) (y := .slice (some ⟨g, 0, none⟩) 2 2) hf
  refine ⟨h.ho.trans (ho.mono (own' := fun j => j = k.g3 ∨ j = k.g4) (fun _ _ e => .inr e)) (fun _ _ e => e), fun hh => ⟨up _ (h.h8 h8).1, up _ (h.h8 h8).2⟩, fun _ => ⟨up 6 h6, up 7 h7, up 8 h8⟩, fun j hj => ?_, ?_, ⟨fun e => (by cases e), fun _ => ⟨g, hn, row_skip1 hf hr h.lB ho⟩⟩, h.ne, h.lA, h.lB⟩
  · unfold ag.updB at hj
    unfold ag.upd
    split
    · rename_i e; subst e; trivial
    · rename_i e
      rw [if_neg e] at hj
      exact P9.turn (fun g' hr' => row_skip1 hf hr' h.lA ho) (fun g' hr' => row_skip1 hf hr' h.lB ho) (h.hp j hj)
  · rw [e8]
    exact ⟨fun e => (h.b3.1 e).only ho h.ne, fun e => by obtain ⟨g1, q1, q2⟩ := h.b3.2 e; exact ⟨g1, q1.only ho h.ne, row_skip1 hf q2 h.lA ho⟩⟩
end Go.Proofs.Ytmbafcfoboknkaa.agr
