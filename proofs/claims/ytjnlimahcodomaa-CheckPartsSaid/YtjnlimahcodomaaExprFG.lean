/- Expressions that the law builds: how many parts, how many children. Plain. -/
import Derived.Test.YtjnlimahcodomaaExprE
namespace Go.Proofs.Ytjnlimahcodomaa.ex
set_option linter.unusedVariables false
open val (V null)
theorem leaf1_parts : leaf1.parts = [leaf1] := by unfold leaf1; simp [Ex.parts, partsL]
theorem ex_parts (x : Pt) (l : List Ex) : (x.ex l).parts = x.ex l :: partsL l := by unfold Pt.ex; simp [Ex.parts]
/-- each part takes one place -/
theorem builtF_count (ps : List Pt) (f : Nat) : ∀ a, (builtF ps f a).1.parts.length + a = (builtF ps f a).2 := by
  induction f with
  | zero => intro a; show leaf1.parts.length + a = a + 1; rw [leaf1_parts]; simp; omega
  | succ f ih =>
    intro a
    unfold builtF
    cases h : ps[a]? with
    | none => show leaf1.parts.length + a = a + 1; rw [leaf1_parts]; simp; omega
    | some x =>
      have hk : ∀ n, (partsL (kids (builtF ps f) n (a + 1)).1).length + (a + 1) = (kids (builtF ps f) n (a + 1)).2 := by
        intro n
        induction n with
        | zero => simp [kids, partsL]
        | succ n ihn =>
          have := ih (kids (builtF ps f) n (a + 1)).2
          simp only [kids, partsL_snoc, List.length_append]
          omega
      have := hk x.num.toNat
      show (x.ex (kids (builtF ps f) x.num.toNat (a + 1)).1).parts.length + a = (kids (builtF ps f) x.num.toNat (a + 1)).2
      rw [ex_parts, List.length_cons]
      omega
/-- how far it goes -/
theorem builtF_span (ps : List Pt) (hps : ∀ x ∈ ps, PB x) (f : Nat) : ∀ a, (builtF ps f a).2 + 3 * min a ps.length ≤ a + 1 + 3 * min (builtF ps f a).2 ps.length := by
  induction f with
  | zero => intro a; show a + 1 + _ ≤ a + 1 + 3 * min (a + 1) _; omega
  | succ f ih =>
    intro a
    unfold builtF
    cases h : ps[a]? with
    | none => show a + 1 + _ ≤ a + 1 + 3 * min (a + 1) _; omega
    | some x =>
      have hal : a < ps.length := (List.getElem?_eq_some_iff.1 h).1
      have hn := (Pt.num_le (hps x (List.mem_of_getElem? h)))
      have hk : ∀ n, (kids (builtF ps f) n (a + 1)).2 + 3 * min (a + 1) ps.length ≤ a + 1 + n + 3 * min (kids (builtF ps f) n (a + 1)).2 ps.length := by
        intro n
        induction n with
        | zero => simp [kids]
        | succ n ihn =>
          have := ih (kids (builtF ps f) n (a + 1)).2
          show (builtF ps f (kids (builtF ps f) n (a + 1)).2).2 + _ ≤ a + 1 + (n + 1) + 3 * min (builtF ps f (kids (builtF ps f) n (a + 1)).2).2 _
          omega
      have := hk x.num.toNat
      show (kids (builtF ps f) x.num.toNat (a + 1)).2 + _ ≤ a + 1 + 3 * min (kids (builtF ps f) x.num.toNat (a + 1)).2 _
      omega
theorem builtF_few (ps : List Pt) (hps : ∀ x ∈ ps, PB x) (hl : ps.length ≤ 40) (f a : Nat) (ha : a ≤ ps.length) : (builtF ps f a).2 ≤ 121 ∧ (builtF ps f a).1.parts.length ≤ 121 := by
  have h1 := builtF_span ps hps f a
  have h2 := builtF_count ps f a
  omega
theorem slimL_snoc {l : List Ex} {x : Ex} (h : slimL l) (hx : x.slim) : slimL (l ++ [x]) := by
  induction l with
  | nil => exact ⟨hx, trivial⟩
  | cons a l ih =>
    unfold slimL at h
    exact ⟨h.1, ih h.2⟩
theorem builtF_slim (ps : List Pt) (hps : ∀ x ∈ ps, PB x) (f : Nat) : ∀ a, (builtF ps f a).1.slim := by
  induction f with
  | zero => intro a; show leaf1.slim; unfold leaf1; simp [Ex.slim, slimL]
  | succ f ih =>
    intro a
    unfold builtF
    cases h : ps[a]? with
    | none => show leaf1.slim; unfold leaf1; simp [Ex.slim, slimL]
    | some x =>
      have hn := (Pt.num_le (hps x (List.mem_of_getElem? h)))
      have hk : ∀ n, slimL (kids (builtF ps f) n (a + 1)).1 := by
        intro n
        induction n with
        | zero => simp [kids, slimL]
        | succ n ihn => exact slimL_snoc ihn (ih _)
      show (x.ex (kids (builtF ps f) x.num.toNat (a + 1)).1).slim
      unfold Pt.ex Ex.slim
      exact ⟨by rw [kids_len]; omega, hk _⟩
end Go.Proofs.Ytjnlimahcodomaa.ex
/- All parts of an expression, as the law lists them; walked. -/
namespace Go.Proofs.Ytjnlimahcodomaa.ex
set_option linter.unusedVariables false
open Go.RowKit
open val (V null veq6)
theorem infoQ : (Try.prog.info? 29).map (fun i => (i.zero, i.size, i.bytes)) = some (some (.agg #[.int .i64 0, .int .i64 0, .int .i64 0, .int .i64 0, .string ByteArray.empty, .string ByteArray.empty, .string ByteArray.empty, .slice none 0 0]), 8, 104) := by kernel_rfl
/-- a list of trees in a row -/
def RowAt (T : TypeId) (X : Nat → Prop) (B d : Nat) (v : Value) (l : List Ex) (W : World) : Prop := ∃ rs : List Er, rs.length = l.length ∧ W.ownsRow B T 8 v l.length (erCells rs) ∧ ∀ (i : Nat) x s, l[i]? = some x → rs[i]? = some s → ExAt T X d W x s
theorem RowAt.ones {T : TypeId} {X : Nat → Prop} {d : Nat} {W : World} {l : List Ex} {rs : List Er} (hl : rs.length = l.length) (h : ∀ (i : Nat) x s, l[i]? = some x → rs[i]? = some s → ExAt T X d W x s) : ∀ u ∈ erCells rs, u.oneCell' = true := by
  intro u hu
  unfold erCells at hu
  obtain ⟨s, hs, hu⟩ := List.mem_flatMap.1 hu
  obtain ⟨i, hi⟩ := List.getElem?_of_mem hs
  have hil := (List.getElem?_eq_some_iff.1 hi).1
  exact cells_one (h i l[i] s (List.getElem?_eq_getElem (by omega)) hi) u hu
theorem RowAt.later {T : TypeId} {X : Nat → Prop} {B d : Nat} {v : Value} {W W' : World} {l : List Ex} (h : RowAt T X B d v l W) (hb : Below W.heap.size W W') : RowAt T X B d v l W' := by
  obtain ⟨rs, h1, h2, h3⟩ := h
  exact ⟨rs, h1, owns_below h2 hb, fun i x s hx hs => (h3 i x s hx hs).later hb⟩
/-- an append of a whole list -/
theorem RowAt.app {T : TypeId} {X : Nat → Prop} {B d : Nat} {v v' : Value} {W W' : World} {l l' : List Ex} {rs ps : List Er} (hX : ∀ b, X b → b < B) (h1 : rs.length = l.length) (h2 : W.ownsRow B T 8 v l.length (erCells rs)) (h3 : ∀ (i : Nat) x s, l[i]? = some x → rs[i]? = some s → ExAt T X d W x s)
    (k1 : ps.length = l'.length) (k3 : ∀ (i : Nat) x s, l'[i]? = some x → ps[i]? = some s → ExAt T X d W x s) (hap : Appended B T 8 v l.length l'.length (erCells rs) (erCells ps) W v' W') : RowAt T X B d v' (l ++ l') W' := by
  have gr : ∀ {x : Ex} {s : Er}, ExAt T X d W x s → ExAt T X d W' x s := fun h => h.grown hap.grown (fun b e hb => by have := hX b hb; have := (h2.lt b e).1; omega)
  refine ⟨rs ++ ps, by rw [List.length_append, List.length_append, h1, k1], by rw [List.length_append, erCells_append]; exact hap.own, fun i x s hx hs => ?_⟩
  by_cases hi : i < l.length
  · rw [List.getElem?_append_left hi] at hx
    rw [List.getElem?_append_left (by omega)] at hs
    exact gr (h3 i x s hx hs)
  · rw [List.getElem?_append_right (by omega)] at hx
    rw [List.getElem?_append_right (by omega), h1] at hs
    exact gr (k3 _ x s hx hs)
end Go.Proofs.Ytjnlimahcodomaa.ex
