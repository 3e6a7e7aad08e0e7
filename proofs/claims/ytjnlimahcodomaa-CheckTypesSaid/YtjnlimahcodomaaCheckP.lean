/- The kinds of expressions over fields, and what they are of a row. Plain. -/
import Derived.Test.YtjnlimahcodomaaExprLN
namespace Go.Proofs.Ytjnlimahcodomaa.ck
set_option linter.unusedVariables false
open val (V null doV fitB notV negV ofB ofN ofS gB)
open ex (Ex Ex.plain plainP mayE mayE_kids Fit)
structure Fd where
  tb : ByteArray
  nm : ByteArray
  k : Int
def hitB (tb nm : ByteArray) (f : Fd) : Bool := decide (f.nm = nm) && (decide (tb = ByteArray.empty) || decide (f.tb = tb))
/-- of the first fields: the last one that has the name, how many have it -/
def scanF (l : List Fd) (tb nm : ByteArray) : Nat → Nat × Nat
  | 0 => (0, 0)
  | j + 1 => match l[j]? with
    | none => scanF l tb nm j
    | some f => if hitB tb nm f = true then (j, (scanF l tb nm j).2 + 1) else scanF l tb nm j
theorem scanF_succ {l : List Fd} {tb nm : ByteArray} {j : Nat} {f : Fd} (h : l[j]? = some f) : scanF l tb nm (j + 1) = if hitB tb nm f = true then (j, (scanF l tb nm j).2 + 1) else scanF l tb nm j := by
  conv => lhs; unfold scanF
  rw [h]
theorem scanF_mono {l : List Fd} {tb nm : ByteArray} : ∀ {i j : Nat}, i ≤ j → (scanF l tb nm i).2 ≤ (scanF l tb nm j).2 := by
  intro i j h
  induction j with
  | zero => obtain rfl : i = 0 := by omega
            exact Nat.le_refl _
  | succ j ih =>
    by_cases e : i = j + 1
    · subst e; exact Nat.le_refl _
    · have := ih (by omega)
      refine Nat.le_trans this ?_
      conv => rhs; unfold scanF
      cases l[j]? with
      | none => exact Nat.le_refl _
      | some f => dsimp only; split <;> omega
theorem scanF_lt {l : List Fd} {tb nm : ByteArray} : ∀ {j : Nat}, (scanF l tb nm j).2 ≠ 0 → (scanF l tb nm j).1 < l.length := by
  intro j
  induction j with
  | zero => intro h; exact absurd rfl h
  | succ j ih =>
    intro h
    unfold scanF at h ⊢
    cases hl : l[j]? with
    | none => rw [hl] at h; exact ih h
    | some f =>
      rw [hl] at h
      dsimp only at h ⊢
      split
      · exact (List.getElem?_eq_some_iff.1 hl).1
      · rename_i hh; rw [if_neg hh] at h; exact ih h
theorem scanF_le {l : List Fd} {tb nm : ByteArray} : ∀ j : Nat, (scanF l tb nm j).2 ≤ j ∧ (scanF l tb nm j).1 ≤ j := by
  intro j
  induction j with
  | zero => exact ⟨Nat.le_refl _, Nat.le_refl _⟩
  | succ j ih =>
    unfold scanF
    cases l[j]? with
    | none => exact ⟨by have := ih.1; dsimp only; omega, by have := ih.2; dsimp only; omega⟩
    | some f =>
      dsimp only
      split
      · exact ⟨by have := ih.1; dsimp only; omega, by dsimp only; omega⟩
      · exact ⟨by have := ih.1; omega, by have := ih.2; omega⟩
/-- a column among fields: its place, the error -/
def findF (l : List Fd) (tb nm : ByteArray) : Nat × Int :=
  if (scanF l tb nm l.length).2 = 0 then (0, 6) else if (scanF l tb nm l.length).2 = 1 then ((scanF l tb nm l.length).1, 0) else (0, 7)
theorem findF_lt {l : List Fd} {tb nm : ByteArray} (h : (findF l tb nm).2 = 0) : (findF l tb nm).1 < l.length := by
  unfold findF at h ⊢
  split
  · rename_i e; rw [if_pos e] at h; cases h
  · rename_i e
    rw [if_neg e] at h
    split
    · exact scanF_lt e
    · rename_i e'; rw [if_neg e'] at h; cases h
/-- the first error -/
def firstE {α : Type} : List (α × Int) → Int
  | [] => 0
  | x :: l => if x.2 ≠ 0 then x.2 else firstE l
theorem firstE_zero {α : Type} {l : List (α × Int)} : firstE l = 0 ↔ ∀ x ∈ l, x.2 = 0 := by
  induction l with
  | nil => simp [firstE]
  | cons a l ih =>
    unfold firstE
    by_cases h : a.2 ≠ 0
    · rw [if_pos h]
      exact ⟨fun e => absurd e h, fun e => absurd (e a (List.mem_cons_self ..)) h⟩
    · rw [if_neg h, ih]
      constructor
      · intro e x hx
        rcases List.mem_cons.1 hx with rfl | hx
        · exact Classical.not_not.1 h
        · exact e x hx
      · intro e x hx
        exact e x (List.mem_cons_of_mem _ hx)
theorem firstE_at {α : Type} {l : List (α × Int)} {j : Nat} {x : α × Int} (h : l[j]? = some x) (hx : x.2 ≠ 0) (h0 : ∀ y ∈ l.take j, y.2 = 0) : firstE l = x.2 := by
  induction l generalizing j with
  | nil => simp at h
  | cons a l ih =>
    cases j with
    | zero =>
      simp only [List.getElem?_cons_zero, Option.some.injEq] at h
      subst h
      unfold firstE
      rw [if_pos hx]
    | succ j =>
      unfold firstE
      rw [if_neg (by have := h0 a (by simp); omega)]
      exact ih (by simpa using h) (fun y hy => h0 y (by simp [hy]))
/-- one kind is taken, or NULL -/
def onlyT (kind operand : Int) : Int × Int := if operand ≠ 0 ∧ operand ≠ kind then (0, 5) else (kind, 0)
/-- the kind of what an operator gives -/
def resT (op : Int) : Int := if op = 12 then 3 else if 7 ≤ op ∧ op ≤ 11 then 2 else 1
/-- a node's kind out of its parts' -/
def topT (k op : Int) (v : V) (tb nm : ByteArray) (l : List Fd) (ks : List Int) : Int × Int :=
  if k = 1 then (v.k, 0)
  else if k = 2 then (if (findF l tb nm).2 = 0 then ((l.getD (findF l tb nm).1 ⟨ByteArray.empty, ByteArray.empty, 0⟩).k, 0) else (0, (findF l tb nm).2))
  else if k = 6 ∨ k = 7 then (1, 0)
  else if k = 3 then (if fitB op (ks.getD 0 0) (ks.getD 1 0) = true then (resT op, 0) else (0, 5))
  else if k = 8 ∧ op = 1 then (2, 0)
  else if k = 8 ∧ op ≠ 2 then (ks.getD 0 0, 0)
  else if k = 4 then onlyT 1 (ks.getD 0 0)
  else onlyT 2 (ks.getD 0 0)
mutual
def typeE (g : Bool) (l : List Fd) : Ex → Int × Int
  | .mk k op v tb nm es => if k = 8 ∧ g = false then (0, 4) else if firstE (typesE g l es) ≠ 0 then (0, firstE (typesE g l es)) else topT k op v tb nm l ((typesE g l es).map (·.1))
def typesE (g : Bool) (l : List Fd) : List Ex → List (Int × Int)
  | [] => []
  | x :: es => typeE g l x :: typesE g l es
end
theorem typesE_map (g : Bool) (l : List Fd) (es : List Ex) : typesE g l es = es.map (typeE g l) := by
  induction es with
  | nil => rfl
  | cons a es ih => simp [typesE, ih]
theorem typeE_eq (g : Bool) (l : List Fd) (e : Ex) : typeE g l e = if e.k = 8 ∧ g = false then (0, 4) else if firstE (e.l.map (typeE g l)) ≠ 0 then (0, firstE (e.l.map (typeE g l))) else topT e.k e.op e.v e.tb e.nm l (e.l.map (fun x => (typeE g l x).1)) := by
  cases e
  conv => lhs; unfold typeE
  rw [typesE_map, List.map_map]
  rfl
theorem typeE_mk (g : Bool) (l : List Fd) (k op : Int) (v : V) (tb nm : ByteArray) (es : List Ex) : typeE g l (.mk k op v tb nm es) = if k = 8 ∧ g = false then (0, 4) else if firstE (es.map (typeE g l)) ≠ 0 then (0, firstE (es.map (typeE g l))) else topT k op v tb nm l (es.map (fun x => (typeE g l x).1)) := typeE_eq g l (.mk k op v tb nm es)
/-- a node's value out of its parts' -/
def topV (k op : Int) (v : V) (tb nm : ByteArray) (l : List Fd) (row : List V) (vs : List V) : V × Int :=
  if k = 1 then (v, 0)
  else if k = 2 then (if (findF l tb nm).2 = 0 then (row.getD (findF l tb nm).1 null, 0) else (null, (findF l tb nm).2))
  else if k = 3 then doV op (vs.getD 0 null) (vs.getD 1 null)
  else if k = 4 then notV (vs.getD 0 null)
  else if k = 5 then negV (vs.getD 0 null)
  else if k = 6 then (ofB (decide ((vs.getD 0 null).k = 0)), 0)
  else if k = 7 then (ofB (decide ((vs.getD 0 null).k ≠ 0)), 0)
  else (null, 4)
mutual
def evalE (l : List Fd) (row : List V) : Ex → V × Int
  | .mk k op v tb nm es => if firstE (evalsE l row es) ≠ 0 then (null, firstE (evalsE l row es)) else topV k op v tb nm l row ((evalsE l row es).map (·.1))
def evalsE (l : List Fd) (row : List V) : List Ex → List (V × Int)
  | [] => []
  | x :: es => evalE l row x :: evalsE l row es
end
theorem evalsE_map (l : List Fd) (row : List V) (es : List Ex) : evalsE l row es = es.map (evalE l row) := by
  induction es with
  | nil => rfl
  | cons a es ih => simp [evalsE, ih]
theorem evalE_eq (l : List Fd) (row : List V) (e : Ex) : evalE l row e = if firstE (e.l.map (evalE l row)) ≠ 0 then (null, firstE (e.l.map (evalE l row))) else topV e.k e.op e.v e.tb e.nm l row (e.l.map (fun x => (evalE l row x).1)) := by
  cases e
  conv => lhs; unfold evalE
  rw [evalsE_map, List.map_map]
  rfl
theorem evalE_mk (l : List Fd) (row : List V) (k op : Int) (v : V) (tb nm : ByteArray) (es : List Ex) : evalE l row (.mk k op v tb nm es) = if firstE (es.map (evalE l row)) ≠ 0 then (null, firstE (es.map (evalE l row))) else topV k op v tb nm l row (es.map (fun x => (evalE l row x).1)) := evalE_eq l row (.mk k op v tb nm es)
/-- a row that fits its fields -/
structure RowOk (l : List Fd) (row : List V) : Prop where
  len : row.length = l.length
  kinds : ∀ (i : Nat) f, l[i]? = some f → 1 ≤ f.k ∧ f.k ≤ 3
  vals : ∀ (i : Nat) f v, l[i]? = some f → row[i]? = some v → val.Good v ∧ (v.k = 0 ∨ v.k = f.k)
/-- a value of a kind, or NULL -/
def Has (k : Int) (v : V) : Prop := val.Good v ∧ (v.k = 0 ∨ v.k = k)
/-- an answer of a kind, or an error of a value -/
def Ans (k : Int) (r : V × Int) : Prop := (r.2 = 0 ∧ Has k r.1) ∨ ((r.2 = 8 ∨ r.2 = 9) ∧ r.1 = null)
theorem good_null : val.Good null := .inl ⟨rfl, rfl, rfl⟩
theorem good_ofB (b : Bool) : val.Good (ofB b) := by cases b <;> exact .inr (.inl ⟨rfl, by decide, rfl⟩)
theorem ofB_k (b : Bool) : (ofB b).k = 1 := by cases b <;> rfl
theorem gB_V {v : V} (h : gB v.k v.n v.s = true) (hn : -9223372036854775808 ≤ v.n ∧ v.n ≤ 9223372036854775807) : val.Good v := by
  obtain ⟨k, n, s⟩ := v
  dsimp only at h hn
  have he : s.toList.isEmpty = true → s = ByteArray.empty := fun h => by
    rw [List.isEmpty_iff, Lib.toList_data, Array.toList_eq_nil_iff] at h
    exact ByteArray.ext h
  unfold gB at h
  by_cases h0 : k = 0
  · subst h0
    rw [if_pos rfl, Bool.and_eq_true, beq_iff_eq] at h
    exact .inl ⟨rfl, h.1, he h.2⟩
  · rw [if_neg h0] at h
    by_cases h1 : k = 1
    · subst h1
      rw [if_pos rfl, Bool.and_eq_true, Bool.or_eq_true, beq_iff_eq, beq_iff_eq] at h
      exact .inr (.inl ⟨rfl, h.1, he h.2⟩)
    · rw [if_neg h1] at h
      by_cases h2 : k = 2
      · subst h2
        rw [if_pos rfl] at h
        exact .inr (.inr (.inl ⟨rfl, he h, hn⟩))
      · rw [if_neg h2] at h
        by_cases h3 : k = 3
        · subst h3
          rw [if_pos rfl, Bool.and_eq_true, beq_iff_eq, decide_eq_true_eq] at h
          exact .inr (.inr (.inr ⟨rfl, h.1, by have := h.2; dsimp only; omega⟩))
        · rw [if_neg h3] at h; cases h
theorem good_kind {v : V} (h : val.Good v) : 0 ≤ v.k ∧ v.k ≤ 3 := by
  rcases h with h | h | h | h <;> omega
theorem do_ans {op k0 k1 : Int} {a b : V} (h1 : 1 ≤ op ∧ op ≤ 14) (hk0 : 0 ≤ k0 ∧ k0 ≤ 3) (hk1 : 0 ≤ k1 ∧ k1 ≤ 3) (hf : fitB op k0 k1 = true) (ha : Has k0 a) (hb : Has k1 b) : Ans (resT op) (doV op a b) := by
  have hfit : fitB op a.k b.k = true := by
    unfold fitB at hf ⊢
    rcases ha.2 with e | e <;> rcases hb.2 with e' | e' <;> rw [e, e'] <;> (repeat' split) <;> simp_all
  unfold doV
  rw [if_neg (by omega), if_neg (by rw [hfit]; decide)]
  by_cases h13 : 13 ≤ op
  · rw [if_pos h13]
    have hr : resT op = 1 := by unfold resT; rw [if_neg (by omega), if_neg (by omega)]
    refine .inl ⟨rfl, ?_⟩
    rw [hr]
    unfold val.logicV
    split
    · exact ⟨good_ofB _, .inr (ofB_k _)⟩
    · split
      · exact ⟨good_null, .inl rfl⟩
      · exact ⟨good_ofB _, .inr (ofB_k _)⟩
  · rw [if_neg h13]
    by_cases h0 : a.k = 0 ∨ b.k = 0
    · rw [if_pos h0]
      exact .inl ⟨rfl, good_null, .inl rfl⟩
    · rw [if_neg h0]
      by_cases h6 : op ≤ 6
      · rw [if_pos h6]
        have hr : resT op = 1 := by unfold resT; rw [if_neg (by omega), if_neg (by omega)]
        rw [hr]
        exact .inl ⟨rfl, good_ofB _, .inr (ofB_k _)⟩
      · rw [if_neg h6]
        by_cases h12 : op = 12
        · subst h12
          rw [if_pos rfl]
          split
          · exact .inr ⟨.inl rfl, rfl⟩
          · rename_i hs
            refine .inl ⟨rfl, .inr (.inr (.inr ⟨rfl, rfl, ?_⟩)), .inr rfl⟩
            show (a.s ++ b.s).size ≤ 64
            rw [ByteArray.size_append]; omega
        · rw [if_neg h12]
          have hr : resT op = 2 := by unfold resT; rw [if_neg h12, if_pos (by omega)]
          rw [hr]
          unfold val.countV
          split
          · exact .inr ⟨.inr rfl, rfl⟩
          · split
            · rename_i hx
              exact .inl ⟨rfl, .inr (.inr (.inl ⟨rfl, rfl, hx⟩)), .inr rfl⟩
            · exact .inr ⟨.inl rfl, rfl⟩
theorem type_kind : ∀ (e : Ex) (g gg : Bool) (l : List Fd), (∀ (i : Nat) f, l[i]? = some f → 1 ≤ f.k ∧ f.k ≤ 3) → mayE e gg → Fit e → 0 ≤ (typeE g l e).1 ∧ (typeE g l e).1 ≤ 3 := by
  intro e
  induction e using Ex.ind with
  | h k op v tb nm es ih =>
    intro g gg l hl hm hft
    obtain ⟨hp, h8, hk⟩ := mayE_kids.1 hm
    have hft' := hft.self
    rw [typeE_mk]
    have K0 : ∀ j, 0 ≤ ((es.map (fun x => (typeE g l x).1)).getD j 0) ∧ ((es.map (fun x => (typeE g l x).1)).getD j 0) ≤ 3 := by
      intro j
      rw [List.getD_eq_getElem?_getD, List.getElem?_map]
      cases hj : es[j]? with
      | none => exact ⟨by simp, by simp⟩
      | some x =>
        have hx := List.mem_of_getElem? hj
        exact ih x hx g _ l hl (hk x hx) (hft.kid hx)
    split
    · exact ⟨by decide, by decide⟩
    · split
      · exact ⟨by simp, by simp⟩
      · show 0 ≤ (topT k op v tb nm l (es.map (fun x => (typeE g l x).1))).1 ∧ (topT k op v tb nm l (es.map (fun x => (typeE g l x).1))).1 ≤ 3
        generalize es.map (fun x => (typeE g l x).1) = ks at *
        unfold topT
        split
        · rename_i h1
          subst h1
          have hp' : plainP 1 op v tb nm es.length := hp
          exact good_kind (gB_V (v := v) (by unfold plainP at hp'; rcases hp' with h | h | h | h | h <;> first | exact h.2.2.2.2.2.1 | omega) hft'.2.2.2)
        · split
          · split
            · rename_i hf
              have hlt := findF_lt hf
              rw [List.getD_eq_getElem?_getD, List.getElem?_eq_getElem hlt, Option.getD_some]
              have := hl _ _ (List.getElem?_eq_getElem hlt)
              exact ⟨by omega, this.2⟩
            · exact ⟨by simp, by simp⟩
          · split
            · exact ⟨by simp, by simp⟩
            · split
              · split
                · unfold resT; dsimp only; repeat' split
                  all_goals omega
                · exact ⟨by simp, by simp⟩
              · split
                · exact ⟨by simp, by simp⟩
                · split
                  · exact K0 0
                  · split
                    · unfold onlyT; split <;> exact ⟨by simp, by simp⟩
                    · unfold onlyT; split <;> exact ⟨by simp, by simp⟩
/-- an expression that has a kind and no aggregates is of a row: a value of that kind, or NULL, or an error -/
theorem sound : ∀ (e : Ex) (g gg : Bool) (l : List Fd) (row : List V), RowOk l row → mayE e gg → Fit e → (∀ x ∈ e.parts, x.k ≠ 8) → (typeE g l e).2 = 0 → Ans (typeE g l e).1 (evalE l row e) := by
  intro e
  induction e using Ex.ind with
  | h k op v tb nm es ih =>
    intro g gg l row hr hm hft hno ht
    obtain ⟨hp, h8, hk⟩ := mayE_kids.1 hm
    have hft' := hft.self
    have hk8 : k ≠ 8 := hno (.mk k op v tb nm es) (by rw [ex.Ex.parts_eq]; exact List.mem_cons_self ..)
    rw [typeE_mk] at ht ⊢
    rw [if_neg (by rintro ⟨h, -⟩; exact hk8 h)] at ht ⊢
    have hfe : firstE (es.map (typeE g l)) = 0 := by
      false_or_by_contra
      rename_i h
      rw [if_pos h] at ht
      exact h ht
    rw [if_neg (by rw [hfe]; exact fun h => h rfl)] at ht ⊢
    have hte := fun x (hx : x ∈ es) => firstE_zero.1 hfe _ (List.mem_map_of_mem hx)
    have A : ∀ x ∈ es, Ans (typeE g l x).1 (evalE l row x) := fun x hx => ih x hx g _ l row hr (hk x hx) (hft.kid hx) (fun y hy => hno y (by
      rw [ex.Ex.parts_eq, ex.partsL_flat]
      exact List.mem_cons_of_mem _ (List.mem_flatMap.2 ⟨x, hx, hy⟩))) (hte x hx)
    have TK : ∀ x ∈ es, 0 ≤ (typeE g l x).1 ∧ (typeE g l x).1 ≤ 3 := fun x hx => type_kind x g _ l hr.kinds (hk x hx) (hft.kid hx)
    rw [evalE_mk]
    by_cases hev : firstE (es.map (evalE l row)) = 0
    · rw [if_neg (by rw [hev]; exact fun h => h rfl)]
      have hve := fun x (hx : x ∈ es) => firstE_zero.1 hev _ (List.mem_map_of_mem hx)
      have H : ∀ x ∈ es, Has (typeE g l x).1 (evalE l row x).1 := fun x hx => by
        rcases A x hx with h | ⟨h, -⟩
        · exact h.2
        · have := hve x hx; omega
      change Ans (topT k op v tb nm l (es.map (fun x => (typeE g l x).1))).1 (topV k op v tb nm l row (es.map (fun x => (evalE l row x).1)))
      change (topT k op v tb nm l (es.map (fun x => (typeE g l x).1))).2 = 0 at ht
      have hp' : plainP k op v tb nm es.length := hp
      unfold plainP at hp'
      rcases hp' with ⟨rfl, -, -, -, -, h1, -⟩ | ⟨rfl, -, -, -, -⟩ | ⟨rfl, -, -, -, hn, h1, h2⟩ | ⟨hk', -, -, -, -, hn⟩ | ⟨rfl, -⟩
      · exact .inl ⟨rfl, gB_V h1 hft'.2.2.2, .inr rfl⟩
      · have e1 : ∀ ks, topT 2 op v tb nm l ks = (if (findF l tb nm).2 = 0 then ((l.getD (findF l tb nm).1 ⟨ByteArray.empty, ByteArray.empty, 0⟩).k, 0) else (0, (findF l tb nm).2)) := fun _ => rfl
        have e2 : ∀ vs, topV 2 op v tb nm l row vs = (if (findF l tb nm).2 = 0 then (row.getD (findF l tb nm).1 null, 0) else (null, (findF l tb nm).2)) := fun _ => rfl
        rw [e1] at ht ⊢
        rw [e2]
        have hf : (findF l tb nm).2 = 0 := by
          false_or_by_contra
          rename_i h
          rw [if_neg h] at ht
          exact h ht
        rw [if_pos hf, if_pos hf]
        have hlt := findF_lt hf
        have hlt' : (findF l tb nm).1 < row.length := by rw [hr.len]; exact hlt
        rw [List.getD_eq_getElem?_getD, List.getD_eq_getElem?_getD, List.getElem?_eq_getElem hlt, List.getElem?_eq_getElem hlt']
        exact .inl ⟨rfl, hr.vals _ _ _ (List.getElem?_eq_getElem hlt) (List.getElem?_eq_getElem hlt')⟩
      · match es, hn with
        | [a, b], _ =>
          have e1 : topT 3 op v tb nm l ([a, b].map (fun x => (typeE g l x).1)) = (if fitB op (typeE g l a).1 (typeE g l b).1 = true then (resT op, 0) else (0, 5)) := rfl
          have e2 : topV 3 op v tb nm l row ([a, b].map (fun x => (evalE l row x).1)) = doV op (evalE l row a).1 (evalE l row b).1 := rfl
          rw [e1] at ht ⊢
          rw [e2]
          have hf : fitB op (typeE g l a).1 (typeE g l b).1 = true := by
            false_or_by_contra
            rename_i h
            rw [if_neg h] at ht
            cases ht
          rw [if_pos hf]
          exact do_ans ⟨h1, h2⟩ (TK a (by simp)) (TK b (by simp)) hf (H a (by simp)) (H b (by simp))
      · match es, hn with
        | [a], _ =>
          have ha := H a (by simp)
          rcases hk' with rfl | rfl | rfl | rfl
          · have e1 : topT 4 op v tb nm l ([a].map (fun x => (typeE g l x).1)) = onlyT 1 (typeE g l a).1 := rfl
            have e2 : topV 4 op v tb nm l row ([a].map (fun x => (evalE l row x).1)) = notV (evalE l row a).1 := rfl
            rw [e1] at ht ⊢
            rw [e2]
            unfold onlyT at ht ⊢
            have hc : ¬ ((typeE g l a).1 ≠ 0 ∧ (typeE g l a).1 ≠ 1) := fun h => by rw [if_pos h] at ht; cases ht
            rw [if_neg hc]
            unfold notV
            by_cases h0 : (evalE l row a).1.k = 0
            · rw [if_pos h0]; exact .inl ⟨rfl, good_null, .inl rfl⟩
            · rw [if_neg h0, if_pos (by have := ha.2; omega)]
              exact .inl ⟨rfl, good_ofB _, .inr (ofB_k _)⟩
          · have e1 : topT 5 op v tb nm l ([a].map (fun x => (typeE g l x).1)) = onlyT 2 (typeE g l a).1 := rfl
            have e2 : topV 5 op v tb nm l row ([a].map (fun x => (evalE l row x).1)) = negV (evalE l row a).1 := rfl
            rw [e1] at ht ⊢
            rw [e2]
            unfold onlyT at ht ⊢
            have hc : ¬ ((typeE g l a).1 ≠ 0 ∧ (typeE g l a).1 ≠ 2) := fun h => by rw [if_pos h] at ht; cases ht
            rw [if_neg hc]
            unfold negV
            by_cases h0 : (evalE l row a).1.k = 0
            · rw [if_pos h0]; exact .inl ⟨rfl, good_null, .inl rfl⟩
            · have h2 : (evalE l row a).1.k = 2 := by have := ha.2; omega
              rw [if_neg h0, if_neg (by omega)]
              split
              · exact .inr ⟨.inl rfl, rfl⟩
              · rename_i hn
                have hb : -9223372036854775808 ≤ (evalE l row a).1.n ∧ (evalE l row a).1.n ≤ 9223372036854775807 := by
                  rcases ha.1 with h | h | h | h <;> omega
                exact .inl ⟨rfl, .inr (.inr (.inl ⟨rfl, rfl, by show _ ≤ -(_ : Int) ∧ -(_ : Int) ≤ _; omega⟩)), .inr rfl⟩
          · exact .inl ⟨rfl, good_ofB _, .inr (ofB_k _)⟩
          · exact .inl ⟨rfl, good_ofB _, .inr (ofB_k _)⟩
      · exact absurd rfl hk8
    · rw [if_pos hev]
      refine .inr ⟨?_, rfl⟩
      show firstE (es.map (evalE l row)) = 8 ∨ firstE (es.map (evalE l row)) = 9
      have : ∀ (m : List Ex), (∀ x ∈ m, x ∈ es) → firstE (m.map (evalE l row)) = 0 ∨ firstE (m.map (evalE l row)) = 8 ∨ firstE (m.map (evalE l row)) = 9 := by
        intro m
        induction m with
        | nil => intro _; exact .inl rfl
        | cons a m ihm =>
          intro hm'
          simp only [List.map_cons, firstE]
          split
          · rcases A a (hm' a (List.mem_cons_self ..)) with h | ⟨h, -⟩
            · rename_i hx; exact absurd h.1 hx
            · exact .inr h
          · exact ihm (fun x hx => hm' x (List.mem_cons_of_mem _ hx))
      rcases this es (fun x hx => hx) with h | h
      · exact absurd h hev
      · exact h
mutual
def aggE : Ex → List Ex
  | .mk k op v tb nm es => (if k = 8 then [.mk k op v tb nm es] else []) ++ aggsE es
def aggsE : List Ex → List Ex
  | [] => []
  | x :: es => aggE x ++ aggsE es
end
theorem aggsE_flat (es : List Ex) : aggsE es = es.flatMap aggE := by
  induction es with
  | nil => rfl
  | cons a es ih => simp [aggsE, ih]
theorem aggE_parts : ∀ e : Ex, aggE e = e.parts.filter (fun x => decide (x.k = 8)) := by
  intro e
  induction e using Ex.ind with
  | h k op v tb nm es ih =>
    rw [ex.Ex.parts_eq, ex.partsL_flat, List.filter_cons]
    unfold aggE
    rw [aggsE_flat]
    have hl : ∀ m : List Ex, (∀ x ∈ m, x ∈ es) → m.flatMap aggE = (m.flatMap Ex.parts).filter (fun x => decide (x.k = 8)) := by
      intro m
      induction m with
      | nil => intro _; rfl
      | cons a m ihm =>
        intro hm
        simp only [List.flatMap_cons, List.filter_append]
        rw [ih a (hm a (List.mem_cons_self ..)), ihm (fun x hx => hm x (List.mem_cons_of_mem _ hx))]
    show _ = (if decide (k = 8) = true then _ else _)
    rw [show (Ex.mk k op v tb nm es).l = es from rfl, ← hl es (fun x hx => hx)]
    by_cases h : k = 8 <;> simp [h]
end Go.Proofs.Ytjnlimahcodomaa.ck
