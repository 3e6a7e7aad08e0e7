/- The law AggTurns, plain: what its loop has. No program. -/
import Derived.Test.YtmbafcfoboknkaaAggH
import Derived.Test.YtmbafcfoboknkaaAggJ
namespace Go.Proofs.Ytmbafcfoboknkaa.agr
set_option linter.unusedVariables false
open Go.RowKit val
def o1 (x : Rw) : On := oneOf (ofV x.ak x.an x.ta)
def o2 (x : Rw) : On := oneOf (ofV x.bk x.bn x.tb)
def fo (f : Rw → On) (l : List Rw) : On := (l.map f).foldr both zero
def OkF (f : Rw → On) (l : List Rw) : Prop := ∀ x ∈ l, OkO (f x) ∧ 0 ≤ (f x).n ∧ (f x).n ≤ 1
theorem okf1 {l : List Rw} (h : ∀ x ∈ l, RB x) : OkF o1 l := fun x hx => ⟨oneOf_ok (ofV_good _ _ _ (h x hx).2.2.1), oneOf_n _⟩
theorem okf2 {l : List Rw} (h : ∀ x ∈ l, RB x) : OkF o2 l := fun x hx => ⟨oneOf_ok (ofV_good _ _ _ (h x hx).2.2.2.2.2.1), oneOf_n _⟩
theorem OkF.sub {f : Rw → On} {l m : List Rw} (h : OkF f l) (hs : ∀ x ∈ m, x ∈ l) : OkF f m := fun x hx => h x (hs x hx)
theorem fo_ok {f : Rw → On} {l : List Rw} (h : OkF f l) : OkO (fo f l) := foldr_ok (fun o ho => by
  obtain ⟨x, hx, rfl⟩ := List.mem_map.1 ho
  exact (h x hx).1)
theorem fo_n {f : Rw → On} : ∀ {l : List Rw}, OkF f l → 0 ≤ (fo f l).n ∧ (fo f l).n ≤ l.length
  | [], _ => ⟨Int.le_refl 0, Int.le_refl 0⟩
  | x :: l, h => by
    have ih := fo_n (l := l) (h.sub (fun y hy => List.mem_cons_of_mem _ hy))
    have hx := (h x (List.mem_cons_self ..)).2
    have e : (fo f (x :: l)).n = (f x).n + (fo f l).n := both_n _ _
    rw [e, List.length_cons]
    omega
theorem fo_cons (f : Rw → On) (x : Rw) (l : List Rw) : fo f (x :: l) = both (f x) (fo f l) := rfl
theorem fo_snoc {f : Rw → On} {l : List Rw} {x : Rw} (h : OkF f (l ++ [x])) : fo f (l ++ [x]) = both (fo f l) (f x) := by
  have hall : ∀ o ∈ (l ++ [x]).map f, OkO o := fun o ho => by
    obtain ⟨y, hy, rfl⟩ := List.mem_map.1 ho
    exact (h y hy).1
  have hl : ∀ o ∈ l.map f, OkO o := fun o ho => hall o (by rw [List.map_append]; exact List.mem_append_left _ ho)
  unfold fo
  rw [← fold_same hall, ← fold_same hl, List.map_append, List.foldl_append]
  rfl
theorem take_snoc' {l : List Rw} {i : Nat} {x : Rw} (h : l[i]? = some x) : l.take (i + 1) = l.take i ++ [x] := by rw [List.take_add_one, h]; rfl
theorem drop_cons' {l : List Rw} {m i : Nat} {x : Rw} (hl : l.length = m) (hi : i < m) (h : l[m - 1 - i]? = some x) : l.drop (m - (i + 1)) = x :: l.drop (m - i) := by
  have e : m - (i + 1) = m - 1 - i := by omega
  rw [e]
  have hlt : m - 1 - i < l.length := by omega
  rw [List.drop_eq_getElem_cons hlt]
  rw [List.getElem?_eq_getElem hlt] at h
  rw [Option.some.inj h, show m - 1 - i + 1 = m - i by omega]
/-- both aggregates of some rows -/
def fo2 (l : List Rw) : List On := [fo o1 l, fo o2 l]
def po2 (x : Rw) : List On := (valsV x).map oneOf
theorem po2_is (x : Rw) : po2 x = [o1 x, o2 x] := rfl
def packOne (r : Int) (l : List On) : ByteArray := ⟨(packB [keyR [], packP r l]).toArray⟩
theorem packOne_is (r : Int) (l : List On) (a : Option Addr) (c : Nat) : packG [gOf r l a c] = packOne r l := rfl
theorem okL {l : List Rw} (h : ∀ x ∈ l, RB x) (hn : l.length ≤ 30) : ∀ o ∈ fo2 l, inR o.n ∧ val.Good o.mn ∧ val.Good o.mx := by
  intro o ho
  simp only [fo2, List.mem_cons, List.not_mem_nil, or_false] at ho
  rcases ho with rfl | rfl
  · have h1 := fo_n (okf1 h)
    exact ⟨⟨by omega, by omega⟩, (fo_ok (okf1 h)).g⟩
  · have h1 := fo_n (okf2 h)
    exact ⟨⟨by omega, by omega⟩, (fo_ok (okf2 h)).g⟩
/-- two such parts' numbers are small -/
theorem smallN {la lb : List On} (ha : ∀ o ∈ la, 0 ≤ o.n ∧ o.n ≤ 40) (hb : ∀ o ∈ lb, 0 ≤ o.n ∧ o.n ≤ 40) : ∀ (j : Nat) (x y : On), la[j]? = some x → lb[j]? = some y → inR x.n ∧ inR (x.n + y.n) := by
  intro j x y hx hy
  have h1 := ha x (List.mem_of_getElem? hx)
  have h2 := hb y (List.mem_of_getElem? hy)
  exact ⟨⟨by omega, by omega⟩, by omega, by omega⟩
theorem small_fo {l : List Rw} (h : ∀ x ∈ l, RB x) (hn : l.length ≤ 30) : ∀ o ∈ fo2 l, 0 ≤ o.n ∧ o.n ≤ 40 := by
  intro o ho
  simp only [fo2, List.mem_cons, List.not_mem_nil, or_false] at ho
  rcases ho with rfl | rfl
  · have h1 := fo_n (okf1 h); omega
  · have h1 := fo_n (okf2 h); omega
theorem small_po {x : Rw} : ∀ o ∈ po2 x, 0 ≤ o.n ∧ o.n ≤ 40 := by
  intro o ho
  rw [po2_is] at ho
  simp only [List.mem_cons, List.not_mem_nil, or_false] at ho
  rcases ho with rfl | rfl
  · have h1 := oneOf_n (ofV x.ak x.an x.ta); unfold o1; omega
  · have h1 := oneOf_n (ofV x.bk x.bn x.tb); unfold o2; omega
theorem step_a {l : List Rw} {i : Nat} {x : Rw} (h : ∀ x ∈ l, RB x) (hx : l[i]? = some x) : List.zipWith both (fo2 (l.take i)) (po2 x) = fo2 (l.take (i + 1)) := by
  have hs : ∀ y ∈ l.take i ++ [x], RB y := by
    intro y hy
    rw [← take_snoc' hx] at hy
    exact h y (List.mem_of_mem_take hy)
  rw [take_snoc' hx, po2_is]
  simp only [fo2, List.zipWith_cons_cons, List.zipWith_nil_left]
  rw [fo_snoc (okf1 hs), fo_snoc (okf2 hs)]
theorem step_b {l : List Rw} {m i : Nat} {x : Rw} (hl : l.length = m) (hi : i < m) (hx : l[m - 1 - i]? = some x) : List.zipWith both (po2 x) (fo2 (l.drop (m - i))) = fo2 (l.drop (m - (i + 1))) := by
  rw [drop_cons' hl hi hx, po2_is]
  simp only [fo2, List.zipWith_cons_cons, List.zipWith_nil_left, fo_cons]
theorem step_c {l : List Rw} (h : ∀ x ∈ l, RB x) : List.zipWith both (fo2 l) (List.replicate 2 zero) = fo2 l := by
  show [both (fo o1 l) zero, both (fo o2 l) zero] = _
  rw [both_zero (fo_ok (okf1 h)), both_zero (fo_ok (okf2 h))]
  rfl
theorem fo_nil : fo2 [] = List.replicate 2 zero := rfl
end Go.Proofs.Ytmbafcfoboknkaa.agr
