/- A part of an aggregate, plain: what two are together; in any bunches the same. No program. -/
import Derived.Test.YtmbafcfoboknkaaValueD
import Derived.Test.YtmbafcfoboknkaaWide
namespace Go.Proofs.Ytmbafcfoboknkaa.agr
set_option linter.unusedVariables false
open Go.RowKit val
theorem bl_trans : ∀ x y z : List UInt8, Op.bytesLess x y = true → Op.bytesLess y z = true → Op.bytesLess x z = true
  | [], y, [], h1, h2 => by cases y <;> simp [Op.bytesLess] at h1 h2
  | [], _, c :: z, _, _ => rfl
  | a :: x, [], z, h, _ => by simp [Op.bytesLess] at h
  | a :: x, b :: y, [], _, h => by simp [Op.bytesLess] at h
  | a :: x, b :: y, c :: z, h1, h2 => by
    simp only [Op.bytesLess] at h1 h2 ⊢
    by_cases e1 : a = b
    · subst e1
      by_cases e2 : a = c
      · subst e2
        simp at h1 h2 ⊢
        exact bl_trans x y z h1 h2
      · simp [e2] at h2 ⊢; exact h2
    · simp [e1] at h1
      by_cases e2 : b = c
      · subst e2
        simp [e1]; exact h1
      · simp [e2] at h2
        have h3 : a < c := UInt8.lt_trans h1 h2
        have e3 : a ≠ c := fun e => by subst e; exact UInt8.lt_irrefl _ h3
        simp [e3]; exact h3
theorem less_trans (a b c : V) (h1 : less a b = true) (h2 : less b c = true) : less a c = true := by
  unfold less at h1 h2 ⊢
  by_cases e1 : a.k = b.k
  · rw [if_pos e1] at h1
    by_cases e2 : b.k = c.k
    · rw [if_pos e2] at h2
      rw [if_pos (e1.trans e2)]
      by_cases e3 : a.k = 3
      · rw [if_pos e3] at h1 ⊢
        rw [if_pos (by omega)] at h2
        exact bl_trans _ _ _ h1 h2
      · rw [if_neg e3] at h1 ⊢
        rw [if_neg (by omega)] at h2
        simp at h1 h2 ⊢; omega
    · rw [if_neg e2] at h2
      rw [if_neg (by omega)]
      simp at h2 ⊢; omega
  · rw [if_neg e1] at h1
    by_cases e2 : b.k = c.k
    · rw [if_neg (by omega)]; simp at h1 ⊢; omega
    · rw [if_neg e2] at h2
      simp at h1 h2
      rw [if_neg (by omega)]; simp; omega
/-- one aggregate's part: how many values, their sum, the least and the greatest -/
structure On where
  n : Int
  s : Int
  mn : V
  mx : V
def nul : V := ⟨0, 0, ⟨#[]⟩⟩
def zero : On := ⟨0, 0, nul, nul⟩
def oCell (o : On) : List Value := [.int .i64 o.n, .int .i64 (wide.hiW o.s), .int .u64 (wide.loW o.s), .int .i64 o.mn.k, .int .i64 o.mn.n, .string o.mn.s, .int .i64 o.mx.k, .int .i64 o.mx.n, .string o.mx.s]
def oCells (l : List On) : List Value := l.flatMap oCell
theorem oCells_cons (x : On) (l : List On) : oCells (x :: l) = oCell x ++ oCells l := by unfold oCells; rw [List.flatMap_cons]
theorem oCells_app (l r : List On) : oCells (l ++ r) = oCells l ++ oCells r := by unfold oCells; rw [List.flatMap_append]
theorem oCells_len (l : List On) : (oCells l).length = l.length * 9 := by
  induction l with
  | nil => rfl
  | cons x l ih => rw [oCells_cons, List.length_append, ih, List.length_cons]; simp [oCell]; omega
theorem oCells_at : ∀ (l : List On) (j : Nat) (v : On), l[j]? = some v → ∀ r, r < 9 → (oCells l)[j * 9 + r]? = (oCell v)[r]?
  | [], j, v, h, r, hr => by simp at h
  | a :: l, 0, v, h, r, hr => by
    simp at h; subst h
    rw [oCells_cons, Nat.zero_mul, Nat.zero_add, List.getElem?_append_left (by simp [oCell]; omega)]
  | a :: l, j + 1, v, h, r, hr => by
    have := oCells_at l j v (by simpa using h) r hr
    rw [oCells_cons, List.getElem?_append_right (by simp [oCell]; omega), show (j + 1) * 9 + r - (oCell a).length = j * 9 + r by simp [oCell]; omega]
    exact this
theorem set_app (a : On) (xs : List Value) (u : Value) (i k : Nat) (h : i = k + 9) : (oCell a ++ xs).set i u = oCell a ++ xs.set k u := by
  subst h
  rw [List.set_append_right _ _ (by simp [oCell])]
  congr 1
theorem oCells_set : ∀ (l : List On) (j : Nat) (o : On), j < l.length → (((((((((oCells l).set (j * 9) (.int .i64 o.n)).set (j * 9 + 1) (.int .i64 (wide.hiW o.s))).set (j * 9 + 2) (.int .u64 (wide.loW o.s))).set (j * 9 + 3) (.int .i64 o.mn.k)).set (j * 9 + 4) (.int .i64 o.mn.n)).set (j * 9 + 5) (.string o.mn.s)).set (j * 9 + 6) (.int .i64 o.mx.k)).set (j * 9 + 7) (.int .i64 o.mx.n)).set (j * 9 + 8) (.string o.mx.s) = oCells (l.set j o)
  | [], j, o, h => by simp at h
  | a :: l, 0, o, h => by rw [List.set_cons_zero, oCells_cons, oCells_cons]; simp [oCell]
  | a :: l, j + 1, o, h => by
    have ih := oCells_set l j o (by simpa using h)
    rw [List.set_cons_succ, oCells_cons, oCells_cons, ← ih]
    rw [set_app a _ _ ((j + 1) * 9) (j * 9) (by omega), set_app a _ _ ((j + 1) * 9 + 1) (j * 9 + 1) (by omega), set_app a _ _ ((j + 1) * 9 + 2) (j * 9 + 2) (by omega), set_app a _ _ ((j + 1) * 9 + 3) (j * 9 + 3) (by omega), set_app a _ _ ((j + 1) * 9 + 4) (j * 9 + 4) (by omega), set_app a _ _ ((j + 1) * 9 + 5) (j * 9 + 5) (by omega), set_app a _ _ ((j + 1) * 9 + 6) (j * 9 + 6) (by omega), set_app a _ _ ((j + 1) * 9 + 7) (j * 9 + 7) (by omega), set_app a _ _ ((j + 1) * 9 + 8) (j * 9 + 8) (by omega)]
/-- the first or the second -/
def mn2 (a b : V) : V := if cmpV b a < 0 then b else a
def mx2 (a b : V) : V := if 0 < cmpV b a then b else a
def both (a b : On) : On := if a.n = 0 then b else if b.n = 0 then a else ⟨a.n + b.n, a.s + b.s, mn2 a.mn b.mn, mx2 a.mx b.mx⟩
structure OkO (o : On) : Prop where
  z : o.n = 0 → o = zero
  p : 0 ≤ o.n
  g : val.Good o.mn ∧ val.Good o.mx
theorem good_nul : val.Good nul := .inl ⟨rfl, rfl, rfl⟩
theorem okO_zero : OkO zero := ⟨fun _ => rfl, by decide, good_nul, good_nul⟩
/-- the first by an order of which two -/
theorem pick_assoc (r : V → V → Bool) (ht : ∀ a b c, r a b = true → r b c = true → r a c = true) (a b c : V) (he : r a b = false → r b a = false → a = b) :
    (if r c (if r b a = true then b else a) = true then c else (if r b a = true then b else a)) = (if r (if r c b = true then c else b) a = true then (if r c b = true then c else b) else a) := by
  by_cases h1 : r b a = true
  · by_cases h2 : r c b = true
    · simp [h1, h2, ht c b a h2 h1]
    · simp [h1, h2]
  · by_cases h2 : r c b = true
    · simp [h1, h2]
    · have h3 : ¬ r c a = true := by
        intro h3
        cases h4 : r a b with
        | true => exact h2 (ht c a b h3 h4)
        | false => exact h2 (he h4 (by simpa using h1) ▸ h3)
      simp [h1, h2, h3]
theorem mn2_is {a b : V} (ha : val.Good a) (hb : val.Good b) : mn2 a b = if less b a = true then b else a := by
  unfold mn2
  have := (cmpV_iff b a hb ha).1
  by_cases h : cmpV b a < 0
  · rw [if_pos h, if_pos (this.1 h)]
  · rw [if_neg h, if_neg (fun e => h (this.2 e))]
theorem mx2_is {a b : V} (ha : val.Good a) (hb : val.Good b) : mx2 a b = if less a b = true then b else a := by
  unfold mx2
  have := (cmpV_iff b a hb ha).2.2
  by_cases h : 0 < cmpV b a
  · rw [if_pos h, if_pos (this.1 h)]
  · rw [if_neg h, if_neg (fun e => h (this.2 e))]
theorem mn2_good {a b : V} (ha : val.Good a) (hb : val.Good b) : val.Good (mn2 a b) := by unfold mn2; split <;> assumption
theorem mx2_good {a b : V} (ha : val.Good a) (hb : val.Good b) : val.Good (mx2 a b) := by unfold mx2; split <;> assumption
theorem mn2_assoc {a b c : V} (ha : val.Good a) (hb : val.Good b) (hc : val.Good c) : mn2 (mn2 a b) c = mn2 a (mn2 b c) := by
  rw [mn2_is (mn2_good ha hb) hc, mn2_is ha hb, mn2_is ha (mn2_good hb hc), mn2_is hb hc]
  exact pick_assoc less less_trans a b c (fun h1 h2 => less_total a b ha hb h1 h2)
theorem mx2_assoc {a b c : V} (ha : val.Good a) (hb : val.Good b) (hc : val.Good c) : mx2 (mx2 a b) c = mx2 a (mx2 b c) := by
  rw [mx2_is (mx2_good ha hb) hc, mx2_is ha hb, mx2_is ha (mx2_good hb hc), mx2_is hb hc]
  exact pick_assoc (fun x y => less y x) (fun a b c h1 h2 => less_trans c b a h2 h1) a b c (fun h1 h2 => less_total a b ha hb h2 h1)
theorem both_ok {a b : On} (ha : OkO a) (hb : OkO b) : OkO (both a b) := by
  unfold both
  split
  · exact hb
  · split
    · exact ha
    · rename_i h1 h2
      have p1 := ha.p
      have p2 := hb.p
      exact ⟨fun h => by dsimp only at h; omega, by show 0 ≤ a.n + b.n; omega, mn2_good ha.g.1 hb.g.1, mx2_good ha.g.2 hb.g.2⟩
theorem both_n (a b : On) : (both a b).n = a.n + b.n := by
  unfold both
  split
  · omega
  · split
    · omega
    · rfl
theorem both_zero {a : On} (ha : OkO a) : both a zero = a := by
  unfold both
  split
  · rename_i h; rw [ha.z h]
  · rw [if_pos (show zero.n = 0 from rfl)]
theorem zero_both (a : On) : both zero a = a := by unfold both; rw [if_pos (show zero.n = 0 from rfl)]
theorem both_assoc {a b c : On} (ha : OkO a) (hb : OkO b) (hc : OkO c) : both (both a b) c = both a (both b c) := by
  have p1 := ha.p
  have p2 := hb.p
  have p3 := hc.p
  by_cases h1 : a.n = 0
  · rw [ha.z h1, zero_both, zero_both]
  by_cases h2 : b.n = 0
  · rw [hb.z h2, zero_both, both_zero ha]
  by_cases h3 : c.n = 0
  · rw [hc.z h3, both_zero hb, both_zero (both_ok ha hb)]
  have e1 : both a b = ⟨a.n + b.n, a.s + b.s, mn2 a.mn b.mn, mx2 a.mx b.mx⟩ := by unfold both; rw [if_neg h1, if_neg h2]
  have e2 : both b c = ⟨b.n + c.n, b.s + c.s, mn2 b.mn c.mn, mx2 b.mx c.mx⟩ := by unfold both; rw [if_neg h2, if_neg h3]
  rw [e1, e2]
  unfold both
  rw [if_neg (by dsimp only; omega), if_neg h3, if_neg h1, if_neg (by dsimp only; omega)]
  simp only [On.mk.injEq]
  exact ⟨by omega, by omega, mn2_assoc ha.g.1 hb.g.1 hc.g.1, mx2_assoc ha.g.2 hb.g.2 hc.g.2⟩
theorem foldr_ok : ∀ {l : List On}, (∀ o ∈ l, OkO o) → OkO (l.foldr both zero)
  | [], _ => okO_zero
  | x :: l, h => both_ok (h x (List.mem_cons_self ..)) (foldr_ok (fun o ho => h o (List.mem_cons_of_mem _ ho)))
theorem foldl_from : ∀ {l : List On} {a : On}, OkO a → (∀ o ∈ l, OkO o) → l.foldl both a = both a (l.foldr both zero)
  | [], a, ha, _ => (both_zero ha).symm
  | x :: l, a, ha, h => by
    have hx := h x (List.mem_cons_self ..)
    have hl : ∀ o ∈ l, OkO o := fun o ho => h o (List.mem_cons_of_mem _ ho)
    rw [List.foldl_cons, foldl_from (both_ok ha hx) hl, List.foldr_cons, both_assoc ha hx (foldr_ok hl)]
theorem fold_same {l : List On} (h : ∀ o ∈ l, OkO o) : l.foldl both zero = l.foldr both zero := by
  rw [foldl_from okO_zero h, zero_both]
/-- what a value's aggregate is -/
def oneOf (v : V) : On := if v.k = 0 then zero else ⟨1, if v.k = 2 then v.n else 0, v, v⟩
theorem oneOf_ok {v : V} (h : val.Good v) : OkO (oneOf v) := by
  unfold oneOf
  split
  · exact okO_zero
  · exact ⟨fun e => (by cases e), (by show (0 : Int) ≤ 1; decide), h, h⟩
theorem oneOf_n (v : V) : 0 ≤ (oneOf v).n ∧ (oneOf v).n ≤ 1 := by
  unfold oneOf
  split
  · exact ⟨by decide, by decide⟩
  · exact ⟨by show (0 : Int) ≤ 1; decide, by show (1 : Int) ≤ 1; decide⟩
end Go.Proofs.Ytmbafcfoboknkaa.agr
