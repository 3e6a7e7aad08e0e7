/- Which expressions may be, as trees. Plain. -/
import Derived.Test.YtjnlimahcodomaaExprL
namespace Go.Proofs.Ytjnlimahcodomaa.ex
set_option linter.unusedVariables false
open val (V null)
/-- a node has the fields of its kind -/
def Ex.plain (e : Ex) : Prop := plainP e.k e.op e.v e.tb e.nm e.l.length
mutual
/-- the program: a depth, and whether aggregates may be -/
def goodE : Nat → Ex → Bool → Prop
  | 0, _, _ => False
  | d + 1, .mk k op v tb nm l, g => plainP k op v tb nm l.length ∧ ¬ (k = 8 ∧ g = false) ∧ goodEs d l (g && k != 8)
def goodEs : Nat → List Ex → Bool → Prop
  | _, [], _ => True
  | d, x :: l, g => goodE d x g ∧ goodEs d l g
end
mutual
/-- the document: within an aggregate, or not -/
def mayE : Ex → Bool → Prop
  | .mk k op v tb nm l, g => plainP k op v tb nm l.length ∧ ¬ (k = 8 ∧ g = true) ∧ mayEs l (g || k == 8)
def mayEs : List Ex → Bool → Prop
  | [], _ => True
  | x :: l, g => mayE x g ∧ mayEs l g
end
theorem goodEs_all {d : Nat} {l : List Ex} {g : Bool} : goodEs d l g ↔ ∀ x ∈ l, goodE d x g := by
  induction l with
  | nil => simp [goodEs]
  | cons a l ih => simp [goodEs, ih]
theorem mayEs_all {l : List Ex} {g : Bool} : mayEs l g ↔ ∀ x ∈ l, mayE x g := by
  induction l with
  | nil => simp [mayEs]
  | cons a l ih => simp [mayEs, ih]
theorem goodE_iff : ∀ (e : Ex) (d : Nat) (g : Bool), goodE d e g ↔ e.depth ≤ d ∧ mayE e (!g) := by
  intro e
  induction e using Ex.ind with
  | h k op v tb nm l ih =>
    intro d g
    cases d with
    | zero =>
      unfold goodE
      simp only [Ex.depth]
      constructor
      · intro h; exact h.elim
      · intro h; omega
    | succ d =>
      unfold goodE mayE
      rw [goodEs_all, mayEs_all]
      have hd : (Ex.mk k op v tb nm l).depth ≤ d + 1 ↔ ∀ x ∈ l, x.depth ≤ d := by
        simp only [Ex.depth]
        constructor
        · intro h x hx; have := depthL_le hx; omega
        · intro h
          have : depthL l ≤ d := by
            clear ih
            induction l with
            | nil => simp [depthL]
            | cons a l ihl =>
              have h1 := h a (List.mem_cons_self ..)
              have h2 := ihl (fun x hx => h x (List.mem_cons_of_mem _ hx))
              simp only [depthL]; omega
          omega
      rw [hd]
      have hg : (!(g && k != 8)) = ((!g) || k == 8) := by cases g <;> by_cases h : k = 8 <;> simp [h, bne]
      constructor
      · rintro ⟨h1, h2, h3⟩
        refine ⟨fun x hx => ((ih x hx d _).1 (h3 x hx)).1, h1, by cases g <;> simp_all, fun x hx => ?_⟩
        have := ((ih x hx d _).1 (h3 x hx)).2
        rw [hg] at this; exact this
      · rintro ⟨h1, h2, h3, h4⟩
        refine ⟨h2, by cases g <;> simp_all, fun x hx => (ih x hx d _).2 ⟨h1 x hx, ?_⟩⟩
        rw [hg]; exact h4 x hx
noncomputable def goodB (d : Nat) (e : Ex) (g : Bool) : Bool := pB (goodE d e g)
noncomputable def mayB (e : Ex) (g : Bool) : Bool := pB (mayE e g)
/-- all texts and numbers of a tree are small -/
def FitN (e : Ex) : Prop := e.nm.size ≤ 1000 ∧ e.tb.size ≤ 1000 ∧ e.v.s.size ≤ 1000 ∧ (-9223372036854775808 ≤ e.v.n ∧ e.v.n ≤ 9223372036854775807)
def Fit (e : Ex) : Prop := ∀ x ∈ e.parts, FitN x
theorem Fit.self {e : Ex} (h : Fit e) : FitN e := h e (by rw [e.parts_eq]; exact List.mem_cons_self ..)
theorem Fit.kid {e x : Ex} (h : Fit e) (hx : x ∈ e.l) : Fit x := fun y hy => h y (by
  rw [e.parts_eq, partsL_flat]
  exact List.mem_cons_of_mem _ (List.mem_flatMap.2 ⟨x, hx, hy⟩))
theorem mayE_kids {e : Ex} {g : Bool} : mayE e g ↔ e.plain ∧ ¬ (e.k = 8 ∧ g = true) ∧ ∀ x ∈ e.l, mayE x (g || e.k == 8) := by
  cases e
  conv => lhs; unfold mayE
  rw [mayEs_all]
  exact Iff.rfl
end Go.Proofs.Ytjnlimahcodomaa.ex
