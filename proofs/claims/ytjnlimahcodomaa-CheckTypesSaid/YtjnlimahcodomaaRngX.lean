/- A range over a function whose items are known by their number: a law in my own words over the kit's notions. The loop's body is asked only of the item that comes next. No program. -/
import Derived.RangeFuncNested
import Derived.RangeFuncBound
import Derived.RangeFuncCalls
import Derived.RangeFuncLeaves
import Derived.WalkKit
import Derived.RangeFuncBox
import Derived.Shelf.Abstract
import Derived.Shelf.RegionOpen
import Derived.OwnWalkIn
import Derived.TacticsInMore
import Derived.LoopNIn
import Derived.LoopIn
import Derived.Maps.AppendAt
import Derived.Sort.QuietTacIn
import Derived.Test.YtjnlimahcodomaaOnly
namespace Go.Proofs.Ytjnlimahcodomaa
set_option linter.unusedVariables false
open Go.RowKit
variable {F : Fence} {n : Nat} {P : Program}
/-- How a round's body may be left. -/
def roundPost (B : Nat) (Kp : World → World → Prop) (I : Nat → World → Prop) (Ix : Code → Nat → World → Prop) (k : Nat) (W : World) : Exit → Act → World → Prop
  | .normal, _, W' => KeepsFrom B W W' ∧ Kp W W' ∧ I (k + 1) W'
  | .ret, _, W' => KeepsFrom B W W' ∧ Ix .ret (k + 1) W'
  | .exit id, _, W' => KeepsFrom B W W' ∧ Ix (.exit id) (k + 1) W'
  | .goto t, _, W' => KeepsFrom B W W' ∧ Ix (.goto t) (k + 1) W'
  | .panic _, _, _ => False
  | .outgrown, _, _ => False
theorem grown_of_below {w w' : World} (h : Below w.heap.size w w') : w.grownBy w' none := ⟨h.os, h.tape, h.output, h.size, fun k hk _ => h.block k hk⟩
/-! ### A region that draws its order and only reads, inside a round: no operation of it is a defer statement, so a round changes nothing. -/
section
variable {ops : Array Oper} {C : World → Prop} {md : Region.Mode}
end
end Go.Proofs.Ytjnlimahcodomaa
/- A range over a function whose items are known as they come (new slices, say): a law in my own words over the kit's notions, after Rng. No program. -/
namespace Go.Proofs.Ytjnlimahcodomaa
set_option linter.unusedVariables false
open Go.RowKit
variable {F : Fence} {n : Nat} {P : Program}
/-- An iterator that yields, N times, what 'A k' allows in the world as it is then, as long as the body goes on. -/
def SeqArg (F : Fence) (n : Nat) (P : Program) (g : Nat) (lb : Array Value) (A : Nat → World → Array Value → Prop) (Kp : World → World → Prop) (N : Nat) (w : World) : Prop :=
  ∀ (l : Nat) (J Jx : Nat → World → Prop) (W : World), Below w.heap.size w W → AbidesFrom W.heap.size J → AbidesFrom W.heap.size Jx →
    (∀ k W1 xs, k < N → J k W1 → A k W1 xs → YieldAt F (n - 1) P l xs W1 fun e W' =>
      (e = .returned (.bool true) ∧ J (k + 1) W' ∧ Kp W1 W') ∨ (e = .returned (.bool false) ∧ Jx (k + 1) W')) →
    J 0 W →
    CallsIn F n P g (#[.func (.yield l) #[] #[]] ++ lb) W fun e W' => (∃ v, e = .returned v) ∧ (J N W' ∨ ∃ k, k ≤ N ∧ Jx k W')
end Go.Proofs.Ytjnlimahcodomaa
/- What a loop's body keeps while a function iterates: all that was there before, some blocks aside, and all cells that have come since; no program. -/
namespace Go.Proofs.Ytjnlimahcodomaa
set_option linter.unusedVariables false
open Go.RowKit
structure OnlyX (B : Nat) (P : Nat → Prop) (w w' : World) : Prop where
  os : w'.os = w.os
  tape : w'.tape = w.tape
  output : w'.output = w.output
  size : w.heap.size ≤ w'.heap.size
  low : ∀ k, k < B → k < w.heap.size → ¬ P k → w'.heap[k]? = w.heap[k]?
  cells : ∀ k o, w.heap[k]? = some o → o.isCells = true → ¬ P k → w'.heap[k]? = some o
theorem OnlyX.refl (B : Nat) (P : Nat → Prop) (w : World) : OnlyX B P w w := ⟨rfl, rfl, rfl, Nat.le_refl _, fun _ _ _ _ => rfl, fun _ _ h _ _ => h⟩
theorem OnlyX.trans {B : Nat} {P : Nat → Prop} {a b c : World} (h : OnlyX B P a b) (h' : OnlyX B P b c) : OnlyX B P a c :=
  ⟨h'.os.trans h.os, h'.tape.trans h.tape, h'.output.trans h.output, Nat.le_trans h.size h'.size, fun k hB hk ho => (h'.low k hB (Nat.lt_of_lt_of_le hk h.size) ho).trans (h.low k hB hk ho), fun k o hk hc hp => h'.cells k o (h.cells k o hk hc hp) hc hp⟩
theorem OnlyX.of_only {B : Nat} {P : Nat → Prop} {a b : World} (h : Only P a b) : OnlyX B P a b := ⟨h.os, h.tape, h.output, h.size, fun k _ hk ho => h.block k hk ho, fun k o hk _ hp => (h.block k (Array.getElem?_eq_some_iff.1 hk).1 hp).trans hk⟩
theorem OnlyX.of_below {B : Nat} {P : Nat → Prop} {a b : World} (h : Below a.heap.size a b) : OnlyX B P a b := .of_only (.of_below h)
theorem OnlyX.only {P : Nat → Prop} {a b : World} (h : OnlyX a.heap.size P a b) : Only P a b := ⟨h.os, h.tape, h.output, h.size, fun k hk ho => h.low k hk hk ho⟩
theorem OnlyX.put {B : Nat} {P : Nat → Prop} (W : World) (l : Nat) (o o' : Go.Obj) (hl : B ≤ l) (h : W.heap[l]? = some o) (hc : o.isCells = false) : OnlyX B P W (W.putObj l o') :=
  ⟨rfl, rfl, rfl, by simp, fun k hk _ _ => World.putObj_heap_other (by omega), fun k x hk hx _ => by
    by_cases e : l = k
    · subst e; rw [h] at hk; cases hk; rw [hc] at hx; cases hx
    · exact (World.putObj_heap_other (fun e2 => e e2.symm)).trans hk⟩
theorem owns_onlyX {B0 : Nat} {P : Nat → Prop} {w w' : World} {B : Nat} {e : TypeId} {k : Nat} {v : Value} {n : Nat} {xs : List Value} (h : w.ownsRow B e k v n xs) (ho : OnlyX B0 P w w') (hn : ∀ g, v.ownBlock = some g → ¬ P g) : w'.ownsRow B e k v n xs := by
  obtain ⟨hl, h0 | ⟨g, cap, cur, rfl, hB, hg, r⟩⟩ := h
  · exact ⟨hl, .inl h0⟩
  · exact ⟨hl, .inr ⟨g, cap, cur, rfl, hB, ho.cells g _ hg rfl (hn g rfl), r⟩⟩
end Go.Proofs.Ytjnlimahcodomaa
