/- As Ag, and stores: an operation that yields nothing may have a value put down for it (the place that it wrote), and what is new is shown knowing the values waited for. A region that draws its order, by what each of its operations leaves: each yields a value and takes a step of the world, of which no other operation's value cares; so whatever order is drawn, all that was said holds at the end. A law of no program. -/
import Derived.Deep.QuietTactic
import Derived.Below
namespace Go.Proofs.Ytmbafcfoboknkaa.ags
set_option linter.unusedVariables false
/-- What an operation, carried out, leaves: a value and a world of which K holds. -/
def upon (P : Program) (K : Value → World → Prop) : Result Next → Prop
  | .ok (.value v) w => K v w
  | .ok .skip w => K undef w
  | .ok (.enter f args) w => Calls P f args w fun e w' => ∃ v, e = .returned v ∧ K v w'
  | _ => False
def uponS (L : World → Prop) : Result Next → Prop
  | .ok .skip w => L w
  | _ => False
theorem uponS_skip (L : World → Prop) (w : World) : uponS L (.ok .skip w) = L w := rfl
theorem upon_value (P : Program) (K : Value → World → Prop) (v : Value) (w : World) : upon P K (.ok (.value v) w) = K v w := rfl
theorem upon_skip (P : Program) (K : Value → World → Prop) (w : World) : upon P K (.ok .skip w) = K undef w := rfl
theorem upon_enter (P : Program) (K : Value → World → Prop) (f : FuncId) (args : Array Value) (w : World) : upon P K (.ok (.enter f args) w) = Calls P f args w fun e w' => ∃ v, e = .returned v ∧ K v w' := rfl
/-- What is said of an operation: it yields this very value and leaves the world alone; or its value is such, and the world takes such a step; or it yields the value of another one, which is such. -/
inductive Spec where
  | val (v : Value)
  | sat (V : Value → World → Prop) (T : (Nat → Value) → World → World → Prop)
  | cpy (k : Nat)
/-- its value is such (of one whose value was said outright: nothing) -/
def Spec.such : Spec → Value → World → Prop
  | .sat V _, v, w => V v w
  | _, _, _ => False
/-- what is known of those whose value is such -/
def Spec.known : Spec → Value → World → Prop
  | .sat V _, v, w => V v w
  | _, _, _ => True
/-- what is known, at an operation, of what it waits for, and of another value -/
def Rel (sp : Nat → Spec) (R : Nat → Nat → Value → Value → Prop) (wt : Nat → Bool) (j : Nat) (f : Nat → Value) (v : Value) (w : World) : Prop :=
  ∀ d, wt d = true → ∀ V T, sp d = .sat V T → (d ≠ j → R d j (f d) v ∨ R j d v (f d)) ∧ (d = j → v = f d) ∧ V (f d) w
def Dep (sp : Nat → Spec) (wt : Nat → Bool) (f : Nat → Value) (w : World) : Prop := ∀ d, wt d = true → ∀ V T, sp d = .sat V T → V (f d) w
section
variable {P : Program} {ops : Array Oper}
def waits (o : Oper) (j : Nat) : Bool := o.after.any fun e => Region.binds .any e && e.on == j
def Agree (ops : Array Oper) (o : Oper) (a b : Act) : Prop := ∀ l : List (Option Tmp × Value),
  execOp (l.foldl (fun a p => a.put p.1 p.2) a).eval o = execOp (l.foldl (fun a p => a.put p.1 p.2) b).eval o ∧
  Region.wanted o (yielded ops (l.foldl (fun a p => a.put p.1 p.2) a).tmps) = Region.wanted o (yielded ops (l.foldl (fun a p => a.put p.1 p.2) b).tmps)
theorem Agree.refl (o : Oper) (a : Act) : Agree ops o a a := fun _ => ⟨rfl, rfl⟩
theorem Agree.trans {o : Oper} {a b c : Act} (h : Agree ops o a b) (k : Agree ops o b c) : Agree ops o a c := fun l => ⟨(h l).1.trans (k l).1, (h l).2.trans (k l).2⟩
theorem Agree.put {o : Oper} {a b : Act} (h : Agree ops o a b) (d : Option Tmp) (v : Value) : Agree ops o (a.put d v) (b.put d v) := fun l => h ((d, v) :: l)
theorem put_put (a : Act) (d : Tmp) (v u : Value) : (a.put (some d) v).put (some d) u = a.put (some d) u := by simp [Act.put]
theorem Agree.skip {o : Oper} (hs : ∀ cs b, o.op ≠ .select cs b) {d : Option Tmp} {v : Value} (h : ∀ t, d = some t → t ∉ o.looksAt ops) : ∀ a, Agree ops o (a.put d v) a := by
  intro a l
  induction l generalizing a with
  | nil => exact ⟨execOp_put o hs a d v h, wanted_put o a d v h⟩
  | cons p l ih =>
    obtain ⟨d', u⟩ := p
    simp only [List.foldl_cons]
    cases d with
    | none => exact ⟨rfl, rfl⟩
    | some t =>
      by_cases e : d' = some t
      · subst e; rw [put_put]; exact ⟨rfl, rfl⟩
      · rw [Act.put_comm a v u (x := some t) (y := d') (fun d hd => by cases hd; exact e)]
        exact ih _
/-! ### The walk in the text's order: a frame in which each value that was said is written out, and each that is only 'such' is a letter. -/
/-- What a new value is to the others: of every pair of operations whose values are only 'such', one comes up second: R is shown then. -/
def News (R : Nat → Nat → Value → Value → Prop) (i : Nat) (v : Value) (w : World) (D : List (Nat × Value)) (nw : Nat → Bool) : Nat → List Spec → Prop
  | _, [] => True
  | k, .sat V _ :: ss => (k ≠ i → nw k = true → ∀ u, V u w → (∀ p ∈ D, p.1 ≠ k → R p.1 k p.2 u ∨ R k p.1 u p.2) → (∀ p ∈ D, p.1 = k → u = p.2) → R i k v u) ∧ News R i v w D nw (k + 1) ss
  | k, _ :: ss => News R i v w D nw (k + 1) ss
theorem News.at {R : Nat → Nat → Value → Value → Prop} {i : Nat} {v : Value} {w : World} {D : List (Nat × Value)} {nw : Nat → Bool} : ∀ {ss : List Spec} {k : Nat}, News R i v w D nw k ss → ∀ (j : Nat) (s : Spec), ss[j]? = some s → k + j ≠ i → nw (k + j) = true → ∀ u, s.such u w → (∀ p ∈ D, p.1 ≠ k + j → R p.1 (k + j) p.2 u ∨ R (k + j) p.1 u p.2) → (∀ p ∈ D, p.1 = k + j → u = p.2) → R i (k + j) v u
  | [], _, _, j, s, h => by simp at h
  | .val c :: ss, k, h, 0, s, hs => by simp at hs; subst hs; intro _ _ u hu; exact hu.elim
  | .cpy c :: ss, k, h, 0, s, hs => by simp at hs; subst hs; intro _ _ u hu; exact hu.elim
  | .sat V T :: ss, k, h, 0, s, hs => by simp at hs; subst hs; intro hne hnw u hu hd he; exact h.1 hne hnw u hu hd he
  | .val c :: ss, k, h, j + 1, s, hs => by
    have := News.at (ss := ss) (k := k + 1) h j s (by simpa using hs)
    rw [show k + (j + 1) = k + 1 + j by omega]; exact this
  | .cpy c :: ss, k, h, j + 1, s, hs => by
    have := News.at (ss := ss) (k := k + 1) h j s (by simpa using hs)
    rw [show k + (j + 1) = k + 1 + j by omega]; exact this
  | .sat V T :: ss, k, h, j + 1, s, hs => by
    have := News.at (ss := ss) (k := k + 1) h.2 j s (by simpa using hs)
    rw [show k + (j + 1) = k + 1 + j by omega]; exact this
theorem News.none {R : Nat → Nat → Value → Value → Prop} {i : Nat} {v : Value} {w : World} {D : List (Nat × Value)} {nw : Nat → Bool} (h : ∀ k u, R i k v u) : ∀ (ss : List Spec) (k : Nat), News R i v w D nw k ss
  | [], _ => trivial
  | .val c :: ss, k => News.none (w := w) h ss (k + 1)
  | .cpy c :: ss, k => News.none (w := w) h ss (k + 1)
  | .sat V T :: ss, k => ⟨fun _ _ u _ _ _ => h k u, News.none h ss (k + 1)⟩
section
variable {S : World → Prop} {R : Nat → Nat → Value → Value → Prop} {all : List Spec} {Q : Act → World → Prop} {o : Oper} {l : List Oper} {ss : List Spec} {i : Nat} {E : List (Nat × (World → Prop))} {X : List (Nat × Value)} {a : Act}
end
def depB (l : List Oper) (i d : Nat) : Bool := match l[i]? with | some o => waits o d | none => false
/-- what of two operations the first leaves of the second's value -/
def Ok2 (S : World → Prop) (sp : Nat → Spec) (R : Nat → Nat → Value → Value → Prop) (l : List Oper) (i j : Nat) : Spec → Spec → Prop
  | .sat _ T, .sat V _ => ∀ f v w w', S w → V v w → Rel sp R (depB l i) j f v w → T f w w' → V v w'
  | _, _ => True
def Row2 (S : World → Prop) (sp : Nat → Spec) (R : Nat → Nat → Value → Value → Prop) (l : List Oper) (i : Nat) (s : Spec) : Nat → List Spec → Prop
  | _, [] => True
  | j, .sat V T :: ss => (i ≠ j → depB l j i = false → Ok2 S sp R l i j s (.sat V T)) ∧ Row2 S sp R l i s (j + 1) ss
  | j, _ :: ss => Row2 S sp R l i s (j + 1) ss
def Stab (S : World → Prop) (sp : Nat → Spec) (R : Nat → Nat → Value → Value → Prop) (l : List Oper) (all : List Spec) : Nat → List Spec → Prop
  | _, [] => True
  | i, .sat V T :: ss => Row2 S sp R l i (.sat V T) 0 all ∧ Stab S sp R l all (i + 1) ss
  | i, _ :: ss => Stab S sp R l all (i + 1) ss
theorem Row2.at {S : World → Prop} {sp : Nat → Spec} {R : Nat → Nat → Value → Value → Prop} {l : List Oper} {i : Nat} {s : Spec} : ∀ {ss : List Spec} {k : Nat}, Row2 S sp R l i s k ss → ∀ (j : Nat) V T, ss[j]? = some (.sat V T) → i ≠ k + j → depB l (k + j) i = false → Ok2 S sp R l i (k + j) s (.sat V T)
  | [], _, _, j, V, T, h => by simp at h
  | .val c :: ss, k, h, 0, V, T, hs => by simp at hs
  | .cpy c :: ss, k, h, 0, V, T, hs => by simp at hs
  | .sat V' T' :: ss, k, h, 0, V, T, hs => by simp at hs; obtain ⟨rfl, rfl⟩ := hs; intro hne hd; exact h.1 hne hd
  | .val c :: ss, k, h, j + 1, V, T, hs => by
    have := Row2.at (ss := ss) (k := k + 1) h j V T (by simpa using hs)
    rw [show k + (j + 1) = k + 1 + j by omega]; exact this
  | .cpy c :: ss, k, h, j + 1, V, T, hs => by
    have := Row2.at (ss := ss) (k := k + 1) h j V T (by simpa using hs)
    rw [show k + (j + 1) = k + 1 + j by omega]; exact this
  | .sat V' T' :: ss, k, h, j + 1, V, T, hs => by
    have := Row2.at (ss := ss) (k := k + 1) h.2 j V T (by simpa using hs)
    rw [show k + (j + 1) = k + 1 + j by omega]; exact this
theorem Stab.at {S : World → Prop} {sp : Nat → Spec} {R : Nat → Nat → Value → Value → Prop} {l : List Oper} {all : List Spec} : ∀ {ss : List Spec} {k : Nat}, Stab S sp R l all k ss → ∀ (i : Nat) V T, ss[i]? = some (.sat V T) → Row2 S sp R l (k + i) (.sat V T) 0 all
  | [], _, _, i, V, T, h => by simp at h
  | .val c :: ss, k, h, 0, V, T, hs => by simp at hs
  | .cpy c :: ss, k, h, 0, V, T, hs => by simp at hs
  | .sat V' T' :: ss, k, h, 0, V, T, hs => by simp at hs; obtain ⟨rfl, rfl⟩ := hs; exact h.1
  | .val c :: ss, k, h, i + 1, V, T, hs => by
    have := Stab.at (ss := ss) (k := k + 1) h i V T (by simpa using hs)
    rw [show k + (i + 1) = k + 1 + i by omega]; exact this
  | .cpy c :: ss, k, h, i + 1, V, T, hs => by
    have := Stab.at (ss := ss) (k := k + 1) h i V T (by simpa using hs)
    rw [show k + (i + 1) = k + 1 + i by omega]; exact this
  | .sat V' T' :: ss, k, h, i + 1, V, T, hs => by
    have := Stab.at (ss := ss) (k := k + 1) h.2 i V T (by simpa using hs)
    rw [show k + (i + 1) = k + 1 + i by omega]; exact this
def Keeps (S : World → Prop) (sp : Nat → Spec) (l : List Oper) : Nat → List Spec → Prop
  | _, [] => True
  | i, .sat _ T :: ss => (∀ f w w', S w → Dep sp (depB l i) f w → T f w w' → S w') ∧ Keeps S sp l (i + 1) ss
  | i, _ :: ss => Keeps S sp l (i + 1) ss
theorem Keeps.at {S : World → Prop} {sp : Nat → Spec} {l : List Oper} : ∀ {ss : List Spec} {k : Nat}, Keeps S sp l k ss → ∀ (i : Nat) V T, ss[i]? = some (.sat V T) → ∀ f w w', S w → Dep sp (depB l (k + i)) f w → T f w w' → S w'
  | [], _, _, i, V, T, h => by simp at h
  | .val c :: ss, k, h, 0, V, T, hs => by simp at hs
  | .cpy c :: ss, k, h, 0, V, T, hs => by simp at hs
  | .sat V' T' :: ss, k, h, 0, V, T, hs => by simp at hs; obtain ⟨rfl, rfl⟩ := hs; exact h.1
  | .val c :: ss, k, h, i + 1, V, T, hs => by
    have := Keeps.at (ss := ss) (k := k + 1) h i V T (by simpa using hs)
    rw [show k + (i + 1) = k + 1 + i by omega]; exact this
  | .cpy c :: ss, k, h, i + 1, V, T, hs => by
    have := Keeps.at (ss := ss) (k := k + 1) h i V T (by simpa using hs)
    rw [show k + (i + 1) = k + 1 + i by omega]; exact this
  | .sat V' T' :: ss, k, h, i + 1, V, T, hs => by
    have := Keeps.at (ss := ss) (k := k + 1) h.2 i V T (by simpa using hs)
    rw [show k + (i + 1) = k + 1 + i by omega]; exact this
end
end Go.Proofs.Ytmbafcfoboknkaa.ags
