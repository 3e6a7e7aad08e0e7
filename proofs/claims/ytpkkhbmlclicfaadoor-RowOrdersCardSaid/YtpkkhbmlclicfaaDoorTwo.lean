/- Two rows that a call owns, both appended to in one region whose order is open: words for what each step keeps. No program. -/
import Derived.Test.YtpkkhbmlclicfaaDoorOwn
namespace Go.Proofs.YtpkkhbmlclicfaaDoor
set_option linter.unusedVariables false
open Go.RowKit

/-- a new block that is about to be appended -/
def tBox (X : World) (e : TypeId) (m : Nat) (cs : List Value) (v : Value) (W : World) : Prop := ∃ g, v = .slice (some ⟨g, 0, none⟩) m m ∧ Flds W g e cs ∧ X.heap.size ≤ g
/-- what an append onto u has left -/
def tNew (B : Nat) (X : World) (u : Value) (e : TypeId) (size n : Nat) (xs : List Value) (v : Value) (W : World) : Prop := (∃ a cap, v = .slice a n cap) ∧ W.ownsRow B e size v n xs ∧ (∀ g, v.ownBlock = some g → u.ownBlock = some g ∨ X.heap.size ≤ g)
/-- the step of an append onto v -/
def tAp (B : Nat) (v : Value) (e : TypeId) (size n : Nat) (xs : List Value) (W W' : World) : Prop := W'.ownsRow B e size v n xs ∧ W.grownBy W' v.ownBlock
/-- two rows, as they were; nothing else has turned -/
def Two (B : Nat) (X : World) (va : Value) (ea : TypeId) (sa na : Nat) (xa : List Value) (vb : Value) (eb : TypeId) (sb nb : Nat) (xb : List Value) (W : World) : Prop :=
  Only (fun k => va.ownBlock = some k ∨ vb.ownBlock = some k) X W ∧ W.ownsRow B ea sa va na xa ∧ W.ownsRow B eb sb vb nb xb
theorem tBox.later {X W W' : World} {e : TypeId} {m : Nat} {cs : List Value} {v : Value} (h : tBox X e m cs v W) (hb : Below W.heap.size W W') : tBox X e m cs v W' := by
  obtain ⟨g, h1, h2, h3⟩ := h
  exact ⟨g, h1, h2.later hb, h3⟩
theorem tBox.far {X W W' : World} {e e' : TypeId} {m B size n : Nat} {cs xs : List Value} {u v : Value} (h : tBox X e m cs v W) (hg : tAp B u e' size n xs W W') (hu : ∀ g, u.ownBlock = some g → g < X.heap.size) : tBox X e m cs v W' := by
  obtain ⟨g, h1, h2, h3⟩ := h
  exact ⟨g, h1, h2.grown hg.2 (fun e => by have := hu g e.symm; omega), h3⟩
theorem tNew.later {B size n : Nat} {X W W' : World} {e : TypeId} {xs : List Value} {u v : Value} (h : tNew B X u e size n xs v W) (hb : Below W.heap.size W W') : tNew B X u e size n xs v W' := ⟨h.1, owns_below h.2.1 hb, h.2.2⟩
theorem tNew.far {B B' size size' n n' : Nat} {X W W' : World} {e e' : TypeId} {xs xs' : List Value} {u u' v : Value} (h : tNew B X u e size n xs v W) (hg : tAp B' u' e' size' n' xs' W W') (hap : ∀ g, u.ownBlock = some g → u'.ownBlock ≠ some g) (hu : ∀ g, u'.ownBlock = some g → g < X.heap.size) : tNew B X u e size n xs v W' := by
  refine ⟨h.1, h.2.1.kept hg.2 ?_, h.2.2⟩
  cases hv : v.ownBlock with
  | none => exact .inl rfl
  | some g =>
    refine .inr fun e => ?_
    rcases h.2.2 g hv with h1 | h1
    · exact hap g h1 e.symm
    · have := hu g e.symm; omega
theorem apart_or {u v : Value} (hap : ∀ g, u.ownBlock = some g → v.ownBlock ≠ some g) : u.ownBlock = none ∨ u.ownBlock ≠ v.ownBlock := by
  cases hv : u.ownBlock with
  | none => exact .inl rfl
  | some g => exact .inr fun e => hap g hv e.symm
theorem Two.later {B sa na sb nb : Nat} {X W W' : World} {ea eb : TypeId} {xa xb : List Value} {va vb : Value} (h : Two B X va ea sa na xa vb eb sb nb xb W) (hb : Below W.heap.size W W') : Two B X va ea sa na xa vb eb sb nb xb W' :=
  ⟨h.1.trans (Only.of_below (own := fun _ => False) hb) (fun _ _ h => h.elim), owns_below h.2.1 hb, owns_below h.2.2 hb⟩
theorem Two.apa {B sa na sb nb : Nat} {X W W' : World} {ea eb : TypeId} {xa xb : List Value} {va vb : Value} (h : Two B X va ea sa na xa vb eb sb nb xb W) (hap : ∀ g, va.ownBlock = some g → vb.ownBlock ≠ some g) (ht : tAp B va ea sa na xa W W') : Two B X va ea sa na xa vb eb sb nb xb W' :=
  ⟨h.1.grown ht.2 (fun k e _ => .inl e), ht.1, h.2.2.kept ht.2 (apart_or (fun g h1 h2 => hap g h2 h1))⟩
theorem Two.apb {B sa na sb nb : Nat} {X W W' : World} {ea eb : TypeId} {xa xb : List Value} {va vb : Value} (h : Two B X va ea sa na xa vb eb sb nb xb W) (hap : ∀ g, va.ownBlock = some g → vb.ownBlock ≠ some g) (ht : tAp B vb eb sb nb xb W W') : Two B X va ea sa na xa vb eb sb nb xb W' :=
  ⟨h.1.grown ht.2 (fun k e _ => .inr e), h.2.1.kept ht.2 (apart_or hap), ht.1⟩
theorem tNew.of {B size n m : Nat} {X w w' : World} {e : TypeId} {u v' : Value} {xs news : List Value} (h : Appended B e size u n m xs news w v' w') (hX : X.heap.size ≤ w.heap.size) : tNew B X u e size (n + m) (xs ++ news) v' w' ∧ tAp B u e size n xs w w' := by
  refine ⟨⟨h.form, h.own, fun g hv => ?_⟩, h.old, h.grown⟩
  rcases h.lies with h | h | h
  · rw [h] at hv; cases hv
  · rw [h] at hv; exact .inl hv
  · rw [h] at hv; cases hv; exact .inr hX
/-- Two rows of unlike elements lie apart. -/
theorem apart_types {w : World} {B B' : Nat} {e e' : TypeId} {k k' : Nat} {v v' : Value} {n n' : Nat} {xs xs' : List Value} (h : w.ownsRow B e k v n xs) (h' : w.ownsRow B' e' k' v' n' xs') (he : e ≠ e') : ∀ g, v.ownBlock = some g → v'.ownBlock ≠ some g := by
  intro g hg hg'
  rcases owns_ne_owns h h' he with h1 | h1
  · rw [h1] at hg; cases hg
  · rw [hg, hg'] at h1; exact h1 rfl
end Go.Proofs.YtpkkhbmlclicfaaDoor
