/- What a loop's body keeps while a function iterates: all that was there before, some blocks aside, and all cells that have come since; no program. -/
import Derived.Test.YtfaoeajaahnooaaOnly
import Derived.Test.YtfaoeajaahnooaaRngA
namespace Go.Proofs.Ytfaoeajaahnooaa
set_option linter.unusedVariables false
open Go.RowKit

structure OnlyX (B : Nat) (P : Nat → Prop) (w w' : World) : Prop where
  os : w'.os = w.os
  tape : w'.tape = w.tape
  output : w'.output = w.output
  size : w.heap.size ≤ w'.heap.size
  low : ∀ k, k < B → k < w.heap.size → ¬ P k → w'.heap[k]? = w.heap[k]?
  cells : ∀ k o, w.heap[k]? = some o → o.isCells = true → ¬ P k → w'.heap[k]? = some o
theorem OnlyX.refl (B : Nat) (P : Nat → Prop) (w : World) : OnlyX B P w w := ⟨rfl, rfl, rfl, Nat.le_refl _, fun _ _ _ _ => rfl, fun _ _ h _ _ => h⟩
theorem OnlyX.trans {B : Nat} {P : Nat → Prop} {a b c : World} (h : OnlyX B P a b) (h' : OnlyX B P b c) : OnlyX B P a c :=
  ⟨h'.os.trans h.os, h'.tape.trans h.tape, h'.output.trans h.output, Nat.le_trans h.size h'.size, fun k hB hk ho => (h'.low k hB (Nat.lt_of_lt_of_le hk h.size) ho).trans (h.low k hB hk ho), fun k o hk hc hp => h'.cells k o (h.cells k o hk hc hp) hc hp⟩
theorem OnlyX.of_only {B : Nat} {P : Nat → Prop} {a b : World} (h : Only P a b) : OnlyX B P a b := ⟨h.os, h.tape, h.output, h.size, fun k _ hk ho => h.block k hk ho, fun k o hk _ hp => (h.block k (Array.getElem?_eq_some_iff.1 hk).1 hp).trans hk⟩
theorem OnlyX.of_below {B : Nat} {P : Nat → Prop} {a b : World} (h : Below a.heap.size a b) : OnlyX B P a b := .of_only (.of_below h)
theorem OnlyX.only {P : Nat → Prop} {a b : World} (h : OnlyX a.heap.size P a b) : Only P a b := ⟨h.os, h.tape, h.output, h.size, fun k hk ho => h.low k hk hk ho⟩
theorem OnlyX.put {B : Nat} {P : Nat → Prop} (W : World) (l : Nat) (o o' : Go.Obj) (hl : B ≤ l) (h : W.heap[l]? = some o) (hc : o.isCells = false) : OnlyX B P W (W.putObj l o') :=
  ⟨rfl, rfl, rfl, by simp, fun k hk _ _ => World.putObj_heap_other (by omega), fun k x hk hx _ => by
    by_cases e : l = k
    · subst e; rw [h] at hk; cases hk; rw [hc] at hx; cases hx
    · exact (World.putObj_heap_other (fun e2 => e e2.symm)).trans hk⟩
theorem owns_onlyX {B0 : Nat} {P : Nat → Prop} {w w' : World} {B : Nat} {e : TypeId} {k : Nat} {v : Value} {n : Nat} {xs : List Value} (h : w.ownsRow B e k v n xs) (ho : OnlyX B0 P w w') (hn : ∀ g, v.ownBlock = some g → ¬ P g) : w'.ownsRow B e k v n xs := by
  obtain ⟨hl, h0 | ⟨g, cap, cur, rfl, hB, hg, r⟩⟩ := h
  · exact ⟨hl, .inl h0⟩
  · exact ⟨hl, .inr ⟨g, cap, cur, rfl, hB, ho.cells g _ hg rfl (hn g rfl), r⟩⟩
end Go.Proofs.Ytfaoeajaahnooaa
