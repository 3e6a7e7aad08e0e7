/- Which expressions may be: a record's own fields; walked. -/
import Derived.Test.YtjnlimahcodomaaExprHJ
import Derived.Test.YtjnlimahcodomaaValueKJ
import Derived.Test.YtjnlimahcodomaaLexAH
namespace Go.Proofs.Ytjnlimahcodomaa.ex
set_option linter.unusedVariables false
open Go.RowKit
open val (V null veq6 gB ag3)
open lx (goodL)
/-- a record has the fields of its kind, and no others -/
def plainP (k op : Int) (v : V) (tb nm : ByteArray) (n : Nat) : Prop :=
  (k = 1 ∧ op = 0 ∧ tb = ByteArray.empty ∧ nm = ByteArray.empty ∧ n = 0 ∧ gB v.k v.n v.s = true ∧ (v.k ≠ 2 ∨ 0 ≤ v.n)) ∨
  (k = 2 ∧ op = 0 ∧ v = null ∧ n = 0 ∧ goodL nm.data.toList = true ∧ (tb = ByteArray.empty ∨ goodL tb.data.toList = true)) ∨
  (k = 3 ∧ v = null ∧ tb = ByteArray.empty ∧ nm = ByteArray.empty ∧ n = 2 ∧ 1 ≤ op ∧ op ≤ 14) ∨
  ((k = 4 ∨ k = 5 ∨ k = 6 ∨ k = 7) ∧ op = 0 ∧ v = null ∧ tb = ByteArray.empty ∧ nm = ByteArray.empty ∧ n = 1) ∨
  (k = 8 ∧ v = null ∧ tb = ByteArray.empty ∧ nm = ByteArray.empty ∧ 1 ≤ op ∧ op ≤ 4 ∧ ((op = 1 ∧ n = 0) ∨ n = 1))
noncomputable def plainB (k op : Int) (v : V) (tb nm : ByteArray) (n : Nat) : Bool := @decide (plainP k op v tb nm n) (Classical.propDecidable _)
noncomputable def pB (p : Prop) : Bool := @decide p (Classical.propDecidable _)
theorem pB_iff {p : Prop} : pB p = true ↔ p := by unfold pB; simp
theorem pB_no {p : Prop} : pB p = false ↔ ¬ p := by unfold pB; simp
theorem pB_and {p q : Prop} : pB (p ∧ q) = (pB p && pB q) := by
  rw [Bool.eq_iff_iff, Bool.and_eq_true, pB_iff, pB_iff, pB_iff]
theorem pB_or {p q : Prop} : pB (p ∨ q) = (pB p || pB q) := by
  rw [Bool.eq_iff_iff, Bool.or_eq_true, pB_iff, pB_iff, pB_iff]
theorem pB_bool {b : Bool} : pB (b = true) = b := by cases b <;> simp [pB]
theorem pB_iff_eq {p q : Prop} (h : p ↔ q) : pB p = pB q := by rw [Bool.eq_iff_iff, pB_iff, pB_iff]; exact h
end Go.Proofs.Ytjnlimahcodomaa.ex
/- Which expressions may be, as trees. Plain. -/
namespace Go.Proofs.Ytjnlimahcodomaa.ex
set_option linter.unusedVariables false
open val (V null)
/-- a node has the fields of its kind -/
def Ex.plain (e : Ex) : Prop := plainP e.k e.op e.v e.tb e.nm e.l.length
mutual
/-- the program: a depth, and whether aggregates may be -/
def goodE : Nat → Ex → Bool → Prop
  | 0, _, _ => False
  | d + 1, .mk k op v tb nm l, g => plainP k op v tb nm l.length ∧ ¬ (k = 8 ∧ g = false) ∧ goodEs d l (g && k != 8)
def goodEs : Nat → List Ex → Bool → Prop
  | _, [], _ => True
  | d, x :: l, g => goodE d x g ∧ goodEs d l g
end
mutual
/-- the document: within an aggregate, or not -/
def mayE : Ex → Bool → Prop
  | .mk k op v tb nm l, g => plainP k op v tb nm l.length ∧ ¬ (k = 8 ∧ g = true) ∧ mayEs l (g || k == 8)
def mayEs : List Ex → Bool → Prop
  | [], _ => True
  | x :: l, g => mayE x g ∧ mayEs l g
end
theorem goodEs_all {d : Nat} {l : List Ex} {g : Bool} : goodEs d l g ↔ ∀ x ∈ l, goodE d x g := by
  induction l with
  | nil => simp [goodEs]
  | cons a l ih => simp [goodEs, ih]
theorem mayEs_all {l : List Ex} {g : Bool} : mayEs l g ↔ ∀ x ∈ l, mayE x g := by
  induction l with
  | nil => simp [mayEs]
  | cons a l ih => simp [mayEs, ih]
theorem goodE_iff : ∀ (e : Ex) (d : Nat) (g : Bool), goodE d e g ↔ e.depth ≤ d ∧ mayE e (!g) := by
  intro e
  induction e using Ex.ind with
  | h k op v tb nm l ih =>
    intro d g
    cases d with
    | zero =>
      unfold goodE
      simp only [Ex.depth]
      constructor
      · intro h; exact h.elim
      · intro h; omega
    | succ d =>
      unfold goodE mayE
      rw [goodEs_all, mayEs_all]
      have hd : (Ex.mk k op v tb nm l).depth ≤ d + 1 ↔ ∀ x ∈ l, x.depth ≤ d := by
        simp only [Ex.depth]
        constructor
        · intro h x hx; have := depthL_le hx; omega
        · intro h
          have : depthL l ≤ d := by
            clear ih
            induction l with
            | nil => simp [depthL]
            | cons a l ihl =>
              have h1 := h a (List.mem_cons_self ..)
              have h2 := ihl (fun x hx => h x (List.mem_cons_of_mem _ hx))
              simp only [depthL]; omega
          omega
      rw [hd]
      have hg : (!(g && k != 8)) = ((!g) || k == 8) := by cases g <;> by_cases h : k = 8 <;> simp [h, bne]
      constructor
      · rintro ⟨h1, h2, h3⟩
        refine ⟨fun x hx => ((ih x hx d _).1 (h3 x hx)).1, h1, by cases g <;> simp_all, fun x hx => ?_⟩
        have := ((ih x hx d _).1 (h3 x hx)).2
        rw [hg] at this; exact this
      · rintro ⟨h1, h2, h3, h4⟩
        refine ⟨h2, by cases g <;> simp_all, fun x hx => (ih x hx d _).2 ⟨h1 x hx, ?_⟩⟩
        rw [hg]; exact h4 x hx
noncomputable def goodB (d : Nat) (e : Ex) (g : Bool) : Bool := pB (goodE d e g)
noncomputable def mayB (e : Ex) (g : Bool) : Bool := pB (mayE e g)
/-- all texts and numbers of a tree are small -/
def FitN (e : Ex) : Prop := e.nm.size ≤ 1000 ∧ e.tb.size ≤ 1000 ∧ e.v.s.size ≤ 1000 ∧ (-9223372036854775808 ≤ e.v.n ∧ e.v.n ≤ 9223372036854775807)
def Fit (e : Ex) : Prop := ∀ x ∈ e.parts, FitN x
theorem Fit.self {e : Ex} (h : Fit e) : FitN e := h e (by rw [e.parts_eq]; exact List.mem_cons_self ..)
theorem Fit.kid {e x : Ex} (h : Fit e) (hx : x ∈ e.l) : Fit x := fun y hy => h y (by
  rw [e.parts_eq, partsL_flat]
  exact List.mem_cons_of_mem _ (List.mem_flatMap.2 ⟨x, hx, hy⟩))
theorem mayE_kids {e : Ex} {g : Bool} : mayE e g ↔ e.plain ∧ ¬ (e.k = 8 ∧ g = true) ∧ ∀ x ∈ e.l, mayE x (g || e.k == 8) := by
  cases e
  conv => lhs; unfold mayE
  rw [mayEs_all]
  exact Iff.rfl
end Go.Proofs.Ytjnlimahcodomaa.ex
