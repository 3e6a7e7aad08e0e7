/- A region that draws its order whose operations leave alone whatever was there: what each yields stays such, so nothing need be said of any two of them. A law of no program. -/
import Derived.Test.YtmbafcfoboknkaaAg
namespace Go.Proofs.Ytmbafcfoboknkaa.ag
set_option linter.unusedVariables false
open Go.RowKit
/-- the world has only grown -/
abbrev grew : (Nat → Value) → World → World → Prop := fun _ w w' => Below w.heap.size w w'
/-- what is said of a value stays true of it -/
def Lasts (V : Value → World → Prop) : Prop := ∀ v w w', V v w → Below w.heap.size w w' → V v w'
def IsCalm : Spec → Prop
  | .sat V T => Lasts V ∧ ∀ f w w', T f w w' → Below w.heap.size w w'
  | _ => True
def AllCalm : List Spec → Prop
  | [] => True
  | .sat V T :: ss => (Lasts V ∧ T = grew) ∧ AllCalm ss
  | _ :: ss => AllCalm ss
theorem AllCalm.at : ∀ {ss : List Spec}, AllCalm ss → ∀ (i : Nat) V T, ss[i]? = some (.sat V T) → Lasts V ∧ T = grew
  | [], _, i, V, T, h => by simp at h
  | .val c :: ss, h, 0, V, T, hs => by simp at hs
  | .cpy c :: ss, h, 0, V, T, hs => by simp at hs
  | .sat V' T' :: ss, h, 0, V, T, hs => by simp at hs; obtain ⟨rfl, rfl⟩ := hs; exact h.1
  | .val c :: ss, h, i + 1, V, T, hs => AllCalm.at (ss := ss) h i V T (by simpa using hs)
  | .cpy c :: ss, h, i + 1, V, T, hs => AllCalm.at (ss := ss) h i V T (by simpa using hs)
  | .sat V' T' :: ss, h, i + 1, V, T, hs => AllCalm.at (ss := ss) h.2 i V T (by simpa using hs)
theorem row2_of {S : World → Prop} {sp : Nat → Spec} {R : Nat → Nat → Value → Value → Prop} {l : List Oper} {i : Nat} {s : Spec} : ∀ (ss : List Spec) (k : Nat), (∀ j V T, ss[j]? = some (.sat V T) → Ok2 S sp R l i (k + j) s (.sat V T)) → Row2 S sp R l i s k ss
  | [], _, _ => trivial
  | .val c :: ss, k, h => row2_of ss (k + 1) (fun j V T hs => by have := h (j + 1) V T (by simpa using hs); rw [show k + (j + 1) = k + 1 + j by omega] at this; exact this)
  | .cpy c :: ss, k, h => row2_of ss (k + 1) (fun j V T hs => by have := h (j + 1) V T (by simpa using hs); rw [show k + (j + 1) = k + 1 + j by omega] at this; exact this)
  | .sat V' T' :: ss, k, h => ⟨fun _ _ => h 0 V' T' rfl, row2_of ss (k + 1) (fun j V T hs => by have := h (j + 1) V T (by simpa using hs); rw [show k + (j + 1) = k + 1 + j by omega] at this; exact this)⟩
theorem stab_of {S : World → Prop} {sp : Nat → Spec} {R : Nat → Nat → Value → Value → Prop} {l : List Oper} {all : List Spec} (ha : AllCalm all) : ∀ (ss : List Spec) (k : Nat), AllCalm ss → Stab S sp R l all k ss
  | [], _, _ => trivial
  | .val c :: ss, k, h => stab_of ha ss (k + 1) h
  | .cpy c :: ss, k, h => stab_of ha ss (k + 1) h
  | .sat V' T' :: ss, k, h => ⟨row2_of all 0 (fun j V T hs f v w w' hS hv _ ht => (ha.at j V T hs).1 v w w' hv (by rw [h.1.2] at ht; exact ht)), stab_of ha ss (k + 1) h.2⟩
theorem keeps_of {X : World} {sp : Nat → Spec} {l : List Oper} : ∀ (ss : List Spec) (k : Nat), AllCalm ss → Keeps (fun W1 => Below X.heap.size X W1) sp l k ss
  | [], _, _ => trivial
  | .val c :: ss, k, h => keeps_of ss (k + 1) h
  | .cpy c :: ss, k, h => keeps_of ss (k + 1) h
  | .sat V' T' :: ss, k, h => ⟨fun f w w' hS _ ht => by rw [h.1.2] at ht; exact hS.trans (Below.mono ht hS.size), keeps_of ss (k + 1) h.2⟩
theorem region_calm {P : Program} {id : Nat} {Q : Exit → Act → World → Prop} {a : Act} {w : World} {l : List Oper} (ss : List Spec) (hm : P.follows .mixedOrders = true) (hB : Region.lexB .any l.toArray = true) (hlen : ss.length = l.length)
    (hc : AllCalm ss) (h : walk P l.toArray (fun W1 => Below w.heap.size w W1) (fun _ _ _ _ => True) ss (fun a w => Q .normal a w) l ss 0 [] [] a) : (Code.region id l.toArray true).wp P Q a w :=
  region_ag (fun W1 => Below w.heap.size w W1) (fun _ _ _ _ => True) ss hm hB hlen ((Below.refl _ _).drew) (stab_of hc ss 0 hc) (keeps_of ss 0 hc) h
/-- what an operation waits for, by its number -/
theorem Facts.of {o : Oper} {w : World} : ∀ {E : List (Nat × (World → Prop))}, Facts o w E → ∀ j, waits o j = true → lookE E j w
  | [], _, j, hw => trivial
  | (i, F) :: E, h, j, hw => by
    unfold lookE
    by_cases e : i = j
    · subst e; rw [if_pos rfl]; exact h.get hw
    · rw [if_neg e]; exact Facts.of h.tail j hw
theorem FactsAll.of {w : World} : ∀ {E : List (Nat × (World → Prop))}, FactsAll w E → ∀ j, lookE E j w
  | [], _, j => trivial
  | (i, F) :: E, h, j => by
    unfold lookE
    by_cases e : i = j
    · subst e; rw [if_pos rfl]; exact h.1
    · rw [if_neg e]; exact FactsAll.of h.2 j
section
variable {P : Program} {ops : Array Oper} {S : World → Prop} {all : List Spec} {Q : Act → World → Prop} {o : Oper} {l : List Oper} {ss : List Spec} {i : Nat} {E : List (Nat × (World → Prop))} {X : List (Nat × Value)} {a : Act}
/-- an operation whose value is such, and that leaves alone whatever was there -/
theorem walk_such {V : Value → World → Prop} (hw : Region.wanted o (yielded ops a.tmps) = true) (h1 : ∀ w, S w → Facts o w E → does P o a w (fun v w' => V v w' ∧ Below w.heap.size w w')) (h2 : ∀ x, walk P ops S (fun _ _ _ _ => True) all Q l ss (i + 1) ((i, fun w => V x w) :: E) ((i, x) :: X) (a.put o.dst x)) :
    walk P ops S (fun _ _ _ _ => True) all Q (o :: l) (.sat V grew :: ss) i E X a :=
  walk_sat hw (fun w hS hE => does_mono (h1 w hS hE) (fun v w' h => ⟨h.1, h.2, News.none (fun _ _ => trivial) _ _⟩)) h2
end
theorem lasts_eq (c : Value) : Lasts (fun v _ => v = c) := fun _ _ _ h _ => h
end Go.Proofs.Ytmbafcfoboknkaa.ag
