/- The document's key and order of rows, walked. -/
import Derived.Test.YtpkkhbmlclicfaaRowT
import Derived.Test.YtpkkhbmlclicfaaValueR
import Derived.Test.YtpkkhbmlclicfaaValueF
import Derived.RegionTactic
import Derived.BigRegion
import Derived.Deep.RegionWith
namespace Go.Proofs.Ytpkkhbmlclicfaa.val
set_option linter.unusedVariables false
open Go.RowKit
/-- does a row stand ahead of another one? -/
def beforeL : List V → List V → Bool
  | [], [] => false
  | [], _ :: _ => true
  | _ :: _, [] => false
  | a :: l, b :: m => if veq a b = true then beforeL l m else less a b
attribute [local go_sem high] run_eqR run_neR
/-- are both rows the same? -/
def sameB (l m : List V) : Bool := !beforeL l m && !beforeL m l
/-! ### The order of rows, as it is. -/
theorem beforeL_self (l : List V) : beforeL l l = false := by
  induction l with
  | nil => rfl
  | cons a l ih => simp [beforeL, veq_self, ih]
theorem sameB_iff : ∀ (l m : List V), (∀ x ∈ l, Good x) → (∀ x ∈ m, Good x) → (sameB l m = true ↔ l = m)
  | [], [], _, _ => by simp [sameB, beforeL]
  | [], b :: m, _, _ => by simp [sameB, beforeL]
  | a :: l, [], _, _ => by simp [sameB, beforeL]
  | a :: l, b :: m, h1, h2 => by
    have ih := sameB_iff l m (fun x hx => h1 x (by simp [hx])) (fun x hx => h2 x (by simp [hx]))
    unfold sameB at ih ⊢
    by_cases e : a = b
    · subst e
      simp only [beforeL, veq_self, if_true, ih, List.cons.injEq, true_and]
    · have e1 : veq a b = false := (veq_false a b).2 e
      have e2 : veq b a = false := (veq_false b a).2 (fun h => e h.symm)
      simp only [beforeL, e1, e2, Bool.false_eq_true, if_false, List.cons.injEq, e, false_and, iff_false, Bool.not_eq_true, Bool.and_eq_false_iff, Bool.not_eq_false']
      cases h3 : less a b with
      | true => exact .inl rfl
      | false =>
        refine .inr ?_
        cases h4 : less b a with
        | true => rfl
        | false => exact absurd (less_total a b (h1 a (by simp)) (h2 b (by simp)) h3 h4) e
theorem cmpV_self (a : V) : cmpV a a = 0 := by
  unfold cmpV; simp [or3, cmpI, cmpS, bl_irrefl]
end Go.Proofs.Ytpkkhbmlclicfaa.val
/- The order of rows as plain mathematics: total, and a sorted list is one. -/
namespace Go.Proofs.Ytpkkhbmlclicfaa.val
set_option linter.unusedVariables false
theorem bl_trans : ∀ x y z : List UInt8, Op.bytesLess x y = true → Op.bytesLess y z = true → Op.bytesLess x z = true
  | [], y, [], h1, h2 => by cases y <;> simp [Op.bytesLess] at h1 h2
  | [], _, c :: z, _, _ => rfl
  | a :: x, [], z, h, _ => by simp [Op.bytesLess] at h
  | a :: x, b :: y, [], _, h => by simp [Op.bytesLess] at h
  | a :: x, b :: y, c :: z, h1, h2 => by
    simp only [Op.bytesLess] at h1 h2 ⊢
    by_cases e1 : a = b
    · subst e1
      by_cases e2 : a = c
      · subst e2
        simp at h1 h2 ⊢
        exact bl_trans x y z h1 h2
      · simp [e2] at h2 ⊢; exact h2
    · simp [e1] at h1
      by_cases e2 : b = c
      · subst e2
        simp [e1]; exact h1
      · simp [e2] at h2
        have h3 : a < c := UInt8.lt_trans h1 h2
        have e3 : a ≠ c := fun e => by subst e; exact UInt8.lt_irrefl _ h3
        simp [e3]; exact h3
theorem less_trans (a b c : V) (h1 : less a b = true) (h2 : less b c = true) : less a c = true := by
  unfold less at h1 h2 ⊢
  by_cases e1 : a.k = b.k
  · rw [if_pos e1] at h1
    by_cases e2 : b.k = c.k
    · rw [if_pos e2] at h2
      rw [if_pos (e1.trans e2)]
      by_cases e3 : a.k = 3
      · rw [if_pos e3] at h1 ⊢
        rw [if_pos (by omega)] at h2
        exact bl_trans _ _ _ h1 h2
      · rw [if_neg e3] at h1 ⊢
        rw [if_neg (by omega)] at h2
        simp at h1 h2 ⊢; omega
    · rw [if_neg e2] at h2
      rw [if_neg (by omega)]
      simp at h2 ⊢; omega
  · rw [if_neg e1] at h1
    by_cases e2 : b.k = c.k
    · rw [if_neg (by omega)]; simp at h1 ⊢; omega
    · rw [if_neg e2] at h2
      simp at h1 h2
      rw [if_neg (by omega)]; simp; omega
theorem beforeL_trans : ∀ l m n : List V, beforeL l m = true → beforeL m n = true → beforeL l n = true
  | [], m, [], h1, h2 => by cases m <;> simp [beforeL] at h1 h2
  | [], _, c :: n, _, _ => rfl
  | a :: l, [], n, h, _ => by simp [beforeL] at h
  | a :: l, b :: m, [], _, h => by simp [beforeL] at h
  | a :: l, b :: m, c :: n, h1, h2 => by
    simp only [beforeL] at h1 h2 ⊢
    by_cases e1 : veq a b = true
    · rw [if_pos e1] at h1
      have e := (veq_iff a b).1 e1
      subst e
      by_cases e2 : veq a c = true
      · rw [if_pos e2] at h2 ⊢
        exact beforeL_trans l m n h1 h2
      · rw [if_neg e2] at h2 ⊢; exact h2
    · rw [if_neg e1] at h1
      by_cases e2 : veq b c = true
      · have e := (veq_iff b c).1 e2
        subst e
        rw [if_neg e1]; exact h1
      · rw [if_neg e2] at h2
        have h3 := less_trans a b c h1 h2
        rw [if_neg (fun e => by rw [(veq_iff a c).1 e, less_irrefl] at h3; cases h3)]; exact h3
abbrev Goods (l : List V) : Prop := ∀ x ∈ l, Good x
theorem beforeL_total (l m : List V) (hl : Goods l) (hm : Goods m) (h1 : beforeL l m = false) (h2 : beforeL m l = false) : l = m :=
  (sameB_iff l m hl hm).1 (by unfold sameB; rw [h1, h2]; rfl)
theorem beforeL_asymm (l m : List V) (h : beforeL l m = true) : beforeL m l = false := by
  cases h2 : beforeL m l with
  | false => rfl
  | true => have := beforeL_trans l m l h h2; rw [beforeL_self] at this; cases this
theorem cmpL_lt : ∀ l m : List V, Goods l → Goods m → (cmpL l m < 0 ↔ beforeL l m = true) ∧ (0 < cmpL l m ↔ beforeL m l = true)
  | [], [], _, _ => by simp [cmpL, beforeL]
  | [], b :: m, _, _ => by simp [cmpL, beforeL]
  | a :: l, [], _, _ => by simp [cmpL, beforeL]
  | a :: l, b :: m, h1, h2 => by
    have ih := cmpL_lt l m (fun x hx => h1 x (by simp [hx])) (fun x hx => h2 x (by simp [hx]))
    obtain ⟨c1, c2, c3⟩ := cmpV_iff a b (h1 a (by simp)) (h2 b (by simp))
    simp only [cmpL, beforeL]
    by_cases e : a = b
    · subst e
      rw [if_pos (cmpV_self a), veq_self]
      simpa using ih
    · have e1 : veq a b = false := (veq_false a b).2 e
      have e2 : veq b a = false := (veq_false b a).2 (fun h => e h.symm)
      have e3 : ¬ cmpV a b = 0 := fun h => by have := c2.1 h; rw [e1] at this; cases this
      rw [if_neg e3, e1, e2]
      simp only [Bool.false_eq_true, if_false]
      exact ⟨c1, c3⟩
theorem cmpL_range (l m : List V) : cmpL l m = -1 ∨ cmpL l m = 0 ∨ cmpL l m = 1 := by
  induction l generalizing m with
  | nil => cases m <;> simp [cmpL]
  | cons a l ih =>
    cases m with
    | nil => simp [cmpL]
    | cons b m =>
      simp only [cmpL]
      split
      · exact ih m
      · unfold cmpV cmpI cmpS
        (repeat' split) <;> simp
theorem le_trans' {l m n : List V} (hl : Goods l) (hm : Goods m) (hn : Goods n) (h1 : beforeL m l = false) (h2 : beforeL n m = false) : beforeL n l = false := by
  cases h : beforeL n l with
  | false => rfl
  | true =>
    cases h3 : beforeL l m with
    | true => rw [beforeL_trans n l m h h3] at h2; cases h2
    | false =>
      have e := beforeL_total l m hl hm h3 h1
      subst e
      rw [h] at h2; cases h2
end Go.Proofs.Ytpkkhbmlclicfaa.val
/- Bags of rows as plain mathematics: rows in order, each once, with how often it is there; such a list is told by its counts. -/
namespace Go.Proofs.Ytpkkhbmlclicfaa.val
set_option linter.unusedVariables false
/-- rows, each with a count -/
abbrev BL := List (List V × Nat)
open Classical in
/-- how often a row is there -/
noncomputable def cnt (l : BL) (r : List V) : Nat := (l.map fun x => if x.1 = r then x.2 else 0).sum
def GoodB (l : BL) : Prop := ∀ x ∈ l, Goods x.1
/-- rows rising, each once, none with no count -/
def Strict (l : BL) : Prop := l.Pairwise (fun x y => beforeL x.1 y.1 = true) ∧ ∀ x ∈ l, 0 < x.2
theorem cnt_nil (r : List V) : cnt [] r = 0 := rfl
open Classical in
theorem cnt_cons (x : List V × Nat) (l : BL) (r : List V) : cnt (x :: l) r = (if x.1 = r then x.2 else 0) + cnt l r := by unfold cnt; rw [List.map_cons, List.sum_cons]
theorem cnt_append (l m : BL) (r : List V) : cnt (l ++ m) r = cnt l r + cnt m r := by
  induction l with
  | nil => rw [List.nil_append, cnt_nil]; omega
  | cons x l ih => rw [List.cons_append, cnt_cons, cnt_cons, ih]; omega
theorem cnt_perm {l m : BL} (h : l.Perm m) (r : List V) : cnt l r = cnt m r := by
  induction h with
  | nil => rfl
  | cons x _ ih => rw [cnt_cons, cnt_cons, ih]
  | swap x y l => rw [cnt_cons, cnt_cons, cnt_cons, cnt_cons]; omega
  | trans _ _ h1 h2 => rw [h1, h2]
theorem cnt_pos (l : BL) (r : List V) : 0 < cnt l r ↔ ∃ x ∈ l, x.1 = r ∧ 0 < x.2 := by
  induction l with
  | nil => rw [cnt_nil]; simp
  | cons x l ih =>
    rw [cnt_cons]
    constructor
    · intro h
      by_cases e : x.1 = r
      · rw [if_pos e] at h
        by_cases h0 : 0 < x.2
        · exact ⟨x, List.mem_cons_self .., e, h0⟩
        · obtain ⟨y, hy, h1⟩ := ih.1 (by omega)
          exact ⟨y, List.mem_cons_of_mem _ hy, h1⟩
      · rw [if_neg e] at h
        obtain ⟨y, hy, h1⟩ := ih.1 (by omega)
        exact ⟨y, List.mem_cons_of_mem _ hy, h1⟩
    · rintro ⟨y, hy, e, h0⟩
      rcases List.mem_cons.1 hy with rfl | hy
      · rw [if_pos e]; omega
      · have := ih.2 ⟨y, hy, e, h0⟩; omega
theorem Strict.tail {x : List V × Nat} {l : BL} (h : Strict (x :: l)) : Strict l := ⟨(List.pairwise_cons.1 h.1).2, fun y hy => h.2 y (List.mem_cons_of_mem _ hy)⟩
theorem Strict.head {x : List V × Nat} {l : BL} (h : Strict (x :: l)) : cnt l x.1 = 0 := by
  rcases Nat.eq_zero_or_pos (cnt l x.1) with h0 | h0
  · exact h0
  · obtain ⟨y, hy, e, -⟩ := (cnt_pos l x.1).1 h0
    have := (List.pairwise_cons.1 h.1).1 y hy
    rw [e, beforeL_self] at this
    cases this
/-- a bag is told by its counts -/
theorem strict_unique : ∀ (l m : BL), Strict l → Strict m → (∀ r, cnt l r = cnt m r) → l = m
  | [], [], _, _, _ => rfl
  | [], y :: m, _, hm, h => by
    have := h y.1
    rw [cnt_nil, cnt_cons, if_pos rfl] at this
    have := hm.2 y (List.mem_cons_self ..)
    omega
  | x :: l, [], hl, _, h => by
    have := h x.1
    rw [cnt_nil, cnt_cons, if_pos rfl] at this
    have := hl.2 x (List.mem_cons_self ..)
    omega
  | x :: l, y :: m, hl, hm, h => by
    have px := hl.2 x (List.mem_cons_self ..)
    have py := hm.2 y (List.mem_cons_self ..)
    have e : x.1 = y.1 := by
      have h1 : 0 < cnt (y :: m) x.1 := by rw [← h, cnt_cons, if_pos rfl]; omega
      have h2 : 0 < cnt (x :: l) y.1 := by rw [h, cnt_cons, if_pos rfl]; omega
      obtain ⟨u, hu, eu, -⟩ := (cnt_pos _ _).1 h1
      obtain ⟨v, hv, ev, -⟩ := (cnt_pos _ _).1 h2
      rcases List.mem_cons.1 hu with rfl | hu
      · exact eu.symm
      · rcases List.mem_cons.1 hv with rfl | hv
        · exact ev
        · have b1 := (List.pairwise_cons.1 hm.1).1 u hu
          have b2 := (List.pairwise_cons.1 hl.1).1 v hv
          rw [eu] at b1
          rw [ev] at b2
          rw [beforeL_asymm _ _ b1] at b2
          cases b2
    have h0 := h x.1
    rw [cnt_cons, if_pos rfl, hl.head, cnt_cons, if_pos e.symm, e, hm.head] at h0
    have hxy : x = y := by
      obtain ⟨a, b⟩ := x
      obtain ⟨c, d⟩ := y
      simp only at e h0
      rw [e]
      congr 1
    subst hxy
    rw [strict_unique l m hl.tail hm.tail (fun r => by have := h r; rw [cnt_cons, cnt_cons] at this; omega)]
/-- how many rows there are -/
def total (l : BL) : Nat := (l.map (·.2)).sum
theorem total_append (l m : BL) : total (l ++ m) = total l + total m := by unfold total; rw [List.map_append, List.sum_append]
theorem total_perm {l m : BL} (h : l.Perm m) : total l = total m := by unfold total; exact (h.map _).sum_nat
theorem total_snoc (l : BL) (x : List V × Nat) : total (l ++ [x]) = total l + x.2 := by rw [total_append]; simp [total]
theorem cnt_snoc (l : BL) (x : List V × Nat) (r : List V) : cnt (l ++ [x]) r = cnt l r + cnt [x] r := cnt_append l [x] r
/-- bringing together what comes in order: one step -/
theorem Strict.push {o : BL} {x : List V × Nat} (h : Strict o) (h0 : 0 < x.2) (hb : o = [] ∨ ∃ p y, o = p ++ [y] ∧ beforeL y.1 x.1 = true) : Strict (o ++ [x]) := by
  refine ⟨List.pairwise_append.2 ⟨h.1, List.pairwise_singleton _ _, fun a ha b hb' => ?_⟩, fun y hy => ?_⟩
  · rw [List.mem_singleton.1 hb']
    rcases hb with rfl | ⟨p, y, rfl, hy⟩
    · cases ha
    · rcases List.mem_append.1 ha with ha | ha
      · exact beforeL_trans _ _ _ ((List.pairwise_append.1 h.1).2.2 a ha y (List.mem_singleton.2 rfl)) hy
      · rw [List.mem_singleton.1 ha]; exact hy
  · rcases List.mem_append.1 hy with hy | hy
    · exact h.2 y hy
    · rw [List.mem_singleton.1 hy]; exact h0
theorem Strict.add {p : BL} {r : List V} {c d : Nat} (h : Strict (p ++ [(r, c)])) : Strict (p ++ [(r, c + d)]) := by
  obtain ⟨h1, h2⟩ := h
  refine ⟨?_, fun y hy => ?_⟩
  · rw [List.pairwise_append] at h1 ⊢
    exact ⟨h1.1, List.pairwise_singleton _ _, fun a ha b hb => by
      rw [List.mem_singleton.1 hb]
      exact h1.2.2 a ha (r, c) (List.mem_singleton.2 rfl)⟩
  · rcases List.mem_append.1 hy with hy | hy
    · exact h2 y (List.mem_append_left _ hy)
    · rw [List.mem_singleton.1 hy]
      have := h2 (r, c) (List.mem_append_right _ (List.mem_singleton.2 rfl))
      simp only at this ⊢
      omega
theorem cnt_add (p : BL) (r : List V) (c d : Nat) (s : List V) : cnt (p ++ [(r, c + d)]) s = cnt (p ++ [(r, c)]) s + cnt [(r, d)] s := by
  rw [cnt_append, cnt_append, cnt_cons, cnt_cons, cnt_cons, cnt_nil]
  by_cases h : r = s
  · rw [if_pos h, if_pos h, if_pos h]; omega
  · rw [if_neg h, if_neg h, if_neg h]
theorem total_add (p : BL) (r : List V) (c d : Nat) : total (p ++ [(r, c + d)]) = total (p ++ [(r, c)]) + d := by
  rw [total_snoc, total_snoc]; omega
/-- what brings together: of what came, in order, the counts -/
def Gat (o l : BL) : Prop := Strict o ∧ (∀ r, cnt o r = cnt l r) ∧ total o = total l ∧ (∀ x ∈ o, ∃ y ∈ l, y.1 = x.1) ∧ (l = [] ∨ ∃ p q x y, o = p ++ [x] ∧ l = q ++ [y] ∧ x.1 = y.1)
theorem Gat.nil : Gat [] [] := ⟨⟨List.Pairwise.nil, fun x hx => (by cases hx)⟩, fun r => rfl, rfl, fun x hx => (by cases hx), .inl rfl⟩
theorem Gat.same {p l : BL} {r : List V} {c d : Nat} (h : Gat (p ++ [(r, c)]) l) : Gat (p ++ [(r, c + d)]) (l ++ [(r, d)]) := by
  obtain ⟨h1, h2, h3, h4, h5⟩ := h
  refine ⟨h1.add, fun s => by rw [cnt_add, h2, cnt_append], by rw [total_add, h3, total_snoc], fun x hx => ?_, .inr ⟨p, l, (r, c + d), (r, d), rfl, rfl, rfl⟩⟩
  rcases List.mem_append.1 hx with hx | hx
  · obtain ⟨y, hy, e⟩ := h4 x (List.mem_append_left _ hx)
    exact ⟨y, List.mem_append_left _ hy, e⟩
  · rw [List.mem_singleton.1 hx]
    exact ⟨(r, d), List.mem_append_right _ (List.mem_singleton.2 rfl), rfl⟩
theorem Gat.more {o l : BL} {r : List V} {d : Nat} (h : Gat o l) (h0 : 0 < d) (hb : o = [] ∨ ∃ p y, o = p ++ [y] ∧ beforeL y.1 r = true) : Gat (o ++ [(r, d)]) (l ++ [(r, d)]) := by
  obtain ⟨h1, h2, h3, h4, h5⟩ := h
  refine ⟨h1.push h0 hb, fun s => by rw [cnt_snoc, cnt_snoc, h2], by rw [total_snoc, total_snoc, h3], fun x hx => ?_, .inr ⟨o, l, (r, d), (r, d), rfl, rfl, rfl⟩⟩
  rcases List.mem_append.1 hx with hx | hx
  · obtain ⟨y, hy, e⟩ := h4 x hx
    exact ⟨y, List.mem_append_left _ hy, e⟩
  · rw [List.mem_singleton.1 hx]
    exact ⟨(r, d), List.mem_append_right _ (List.mem_singleton.2 rfl), rfl⟩
end Go.Proofs.Ytpkkhbmlclicfaa.val
