/- The program's expression of the document's: a new tree; walked. -/
import Derived.Test.YtjnlimahcodomaaExprC
import Derived.Test.YtjnlimahcodomaaSub
namespace Go.Proofs.Ytjnlimahcodomaa.ex
set_option linter.unusedVariables false
open Go.RowKit
open val (V null veq6)
mutual
/-- no node has many parts -/
def Ex.slim : Ex → Prop
  | .mk _ _ _ _ _ l => l.length ≤ 1000 ∧ slimL l
def slimL : List Ex → Prop
  | [] => True
  | x :: l => x.slim ∧ slimL l
end
theorem slimL_mem {l : List Ex} (h : slimL l) {x : Ex} (hx : x ∈ l) : x.slim := by
  induction l with
  | nil => cases hx
  | cons a l ih =>
    unfold slimL at h
    rcases List.mem_cons.1 hx with rfl | hx
    · exact h.1
    · exact ih h.2 hx
theorem Ex.slim_parts {e : Ex} (h : e.slim) : e.l.length ≤ 1000 ∧ ∀ x ∈ e.l, x.slim := by
  cases e
  unfold Ex.slim at h
  exact ⟨h.1, fun x hx => slimL_mem h.2 hx⟩
theorem infoE : (Try.prog.info? 36).map (fun i => (i.zero, i.size, i.bytes)) = some (some (.agg #[.int .i64 0, .int .i64 0, .int .i64 0, .int .i64 0, .string ByteArray.empty, .string ByteArray.empty, .string ByteArray.empty, .slice none 0 0]), 8, 104) := by kernel_rfl
theorem info_of {P : Program} {e : TypeId} {z : Value} {s b : Nat} (h : (P.info? e).map (fun i => (i.zero, i.size, i.bytes)) = some (some z, s, b)) : ∃ i, P.info? e = some i ∧ i.zero = some z ∧ i.size = s ∧ i.bytes = b := by
  cases h0 : P.info? e with
  | none => rw [h0] at h; cases h
  | some i =>
    rw [h0] at h
    simp only [Option.map_some, Option.some.injEq, Prod.mk.injEq] at h
    exact ⟨i, rfl, h.1, h.2.1, h.2.2⟩
/-- the new parts so far: their slice, and each of them; L: the slice -/
structure NewL (T : TypeId) (B d : Nat) (l : List Ex) (j : Nat) (L : Value) (ss : List Er) (W : World) : Prop where
  form : ∃ a c, L = .slice a j c
  len : ss.length = j
  row : W.ownsRow B T 8 L j (erCells ss)
  at_ : ∀ (i : Nat) x s, i < j → l[i]? = some x → ss[i]? = some s → ExAt T (fun b => B ≤ b ∧ L.ownBlock ≠ some b) d W x s
theorem NewL.no (T : TypeId) (B d : Nat) (l : List Ex) (W : World) : NewL T B d l 0 (.slice none 0 0) [] W := ⟨⟨_, _, rfl⟩, rfl, World.ownsRow_nil _ _ _ _, fun i x s h => by omega⟩
theorem NewL.grown {T : TypeId} {B d : Nat} {l : List Ex} {j : Nat} {L : Value} {ss : List Er} {W W' : World} {row : Option Nat} (h : NewL T B d l j L ss W) (hg : W.grownBy W' row) (hr : ∀ b, row = some b → b < B) : NewL T B d l j L ss W' := by
  refine ⟨h.form, h.len, h.row.kept hg ?_, fun i x s hi hx hs => (h.at_ i x s hi hx hs).grown hg (fun b e hX => by have := hr b e; have := hX.1; omega)⟩
  cases hob : L.ownBlock with
  | none => exact .inl rfl
  | some b => exact .inr fun e => by have := hr b e.symm; have := (h.row.lt b hob).1; omega
/-- what an append of one more leaves -/
theorem NewL.more {T : TypeId} {B d : Nat} {l : List Ex} {j : Nat} {L L' : Value} {ss : List Er} {W1 W2 : World} {x : Ex} {s : Er} {C : Nat} (hC : B ≤ C) (hLC : ∀ b, L.ownBlock = some b → b < C) (h : ∀ (i : Nat) x s, i < j → l[i]? = some x → ss[i]? = some s → ExAt T (fun b => B ≤ b ∧ L.ownBlock ≠ some b) d W1 x s) (hlen : ss.length = j)
    (hx : l[j]? = some x) (hs : ExAt T (fun b => C ≤ b) d W1 x s) (hap : Appended B T 8 L j 1 (erCells ss) s.cells W1 L' W2) : NewL T B d l (j + 1) L' (ss ++ [s]) W2 := by
  obtain ⟨a', c', rfl⟩ := hap.form
  have hl := hap.lies
  have up : ∀ {X : Nat → Prop} {y : Ex} {r : Er}, ExAt T X d W1 y r → (∀ b, b < W1.heap.size → X b → B ≤ b ∧ L.ownBlock ≠ some b) → ExAt T (fun b => B ≤ b ∧ (Value.slice a' (j + 1) c').ownBlock ≠ some b) d W2 y r := by
    intro X y r hy hX
    have h1 : ExAt T (fun b => (B ≤ b ∧ L.ownBlock ≠ some b) ∧ b < W1.heap.size) d W1 y r := hy.mono (Nat.le_refl _) (fun b hb hXb => ⟨hX b hb hXb, hb⟩)
    have h2 := h1.grown hap.grown (fun b e hXb => hXb.1.2 e)
    refine h2.mono (Nat.le_refl _) (fun b _ hb => ⟨hb.1.1, fun e => ?_⟩)
    rcases hl with h0 | h0 | h0
    · rw [h0] at e; cases e
    · rw [h0] at e; exact hb.1.2 e
    · rw [h0] at e; simp only [Option.some.injEq] at e; omega
  refine ⟨⟨_, _, rfl⟩, by rw [List.length_append, hlen]; rfl, by rw [erCells_append]; have := hap.own; simpa [erCells] using this, fun i y r hi hy hr => ?_⟩
  by_cases hij : i < j
  · rw [List.getElem?_append_left (by omega)] at hr
    exact up (h i y r hij hy hr) (fun b _ hb => hb)
  · have : i = j := by omega
    subst this
    rw [List.getElem?_append_right (by omega), hlen, Nat.sub_self] at hr
    rw [hx] at hy
    cases hy
    simp only [List.getElem?_cons_zero, Option.some.injEq] at hr
    subst hr
    exact up hs (fun b _ hb => ⟨by omega, fun e => by have := hLC b e; omega⟩)
/-- a call's new tree; the same in a slice of one -/
def V7 (wr : World) (d : Nat) (x : Ex) : Value → World → Prop := fun v W => ∃ s : Er, v = s.val ∧ ExAt TE (fun b => wr.heap.size ≤ b) d W x s
def V8 (wr : World) (d : Nat) (x : Ex) : Value → World → Prop := fun v W => ∃ (s : Er) (g : Nat), v = .slice (some ⟨g, 0, none⟩) 1 1 ∧ Flds W g TE s.cells ∧ wr.heap.size ≤ g ∧ ExAt TE (fun b => wr.heap.size ≤ b) d W x s
def V9 (B d : Nat) (l : List Ex) (j : Nat) (ss : List Er) : Value → World → Prop := fun v W => ∃ s : Er, NewL TE B d l (j + 1) v (ss ++ [s]) W
def T9 (B : Nat) (L : Value) (j : Nat) (ss : List Er) : (Nat → Value) → World → World → Prop := fun _ W W' => W.grownBy W' L.ownBlock ∧ W'.ownsRow B TE 8 L j (erCells ss)
def S9 (wr : World) (B : Nat) (L : Value) (j : Nat) (ss : List Er) (W : World) : Prop := wr.grownBy W L.ownBlock ∧ W.ownsRow B TE 8 L j (erCells ss)
theorem grown_any {W W' : World} {row : Option Nat} (h : Below W.heap.size W W') : W.grownBy W' row := ⟨h.os, h.tape, h.output, h.size, fun k hk _ => h.block k hk⟩
section
variable {wr W W' : World} {B d j : Nat} {x : Ex} {l : List Ex} {L v : Value} {ss : List Er} {f : Nat → Value}
theorem V7.lasts (h : V7 wr d x v W) (hb : Below W.heap.size W W') : V7 wr d x v W' := by
  obtain ⟨s, h1, h2⟩ := h
  exact ⟨s, h1, h2.later hb⟩
theorem V8.lasts (h : V8 wr d x v W) (hb : Below W.heap.size W W') : V8 wr d x v W' := by
  obtain ⟨s, g, h1, h2, h3, h4⟩ := h
  exact ⟨s, g, h1, h2.later hb, h3, h4.later hb⟩
theorem V9.lasts (h : V9 B d l j ss v W) (hb : Below W.heap.size W W') : V9 B d l j ss v W' := by
  obtain ⟨s, h1⟩ := h
  exact ⟨s, h1.grown (row := none) (grown_any hb) (fun b e => by cases e)⟩
theorem V7.app (hL : ∀ b, L.ownBlock = some b → b < wr.heap.size) (h : V7 wr d x v W) (ht : T9 B L j ss f W W') : V7 wr d x v W' := by
  obtain ⟨s, h1, h2⟩ := h
  exact ⟨s, h1, h2.grown ht.1 (fun b e hX => by have := hL b e; omega)⟩
theorem V8.app (hL : ∀ b, L.ownBlock = some b → b < wr.heap.size) (h : V8 wr d x v W) (ht : T9 B L j ss f W W') : V8 wr d x v W' := by
  obtain ⟨s, g, h1, h2, h3, h4⟩ := h
  exact ⟨s, g, h1, h2.grown ht.1 (fun e => by have := hL g e.symm; omega), h3, h4.grown ht.1 (fun b e hX => by have := hL b e; omega)⟩
theorem S9.start (h : wr.ownsRow B TE 8 L j (erCells ss)) : S9 wr B L j ss wr.drew := ⟨⟨rfl, rfl, rfl, Nat.le_refl _, fun _ _ _ => rfl⟩, h⟩
theorem S9.grew (h : S9 wr B L j ss W) (hb : Below W.heap.size W W') : S9 wr B L j ss W' := ⟨grown_two h.1 (grown_any hb), owns_below h.2 hb⟩
theorem S9.app (h : S9 wr B L j ss W) (ht : T9 B L j ss f W W') : S9 wr B L j ss W' := ⟨grown_two h.1 ht.1, ht.2⟩
theorem V7.out (h : V7 wr d x v W) : ∃ s : Er, v = s.val ∧ ExAt TE (fun b => wr.heap.size ≤ b) d W x s := h
theorem V7.mk {s : Er} (h1 : v = s.val) (h : ExAt TE (fun b => wr.heap.size ≤ b) d W x s) : V7 wr d x v W := ⟨s, h1, h⟩
theorem V8.out (h : V8 wr d x v W) : ∃ (s : Er) (g : Nat), v = .slice (some ⟨g, 0, none⟩) 1 1 ∧ Flds W g TE s.cells ∧ wr.heap.size ≤ g ∧ ExAt TE (fun b => wr.heap.size ≤ b) d W x s := h
theorem V8.mk {s : Er} {g : Nat} (h1 : v = .slice (some ⟨g, 0, none⟩) 1 1) (h2 : Flds W g TE s.cells) (h3 : wr.heap.size ≤ g) (h4 : ExAt TE (fun b => wr.heap.size ≤ b) d W x s) : V8 wr d x v W := ⟨s, g, h1, h2, h3, h4⟩
theorem V9.out (h : V9 B d l j ss v W) : ∃ s : Er, NewL TE B d l (j + 1) v (ss ++ [s]) W := h
theorem V9.mk {s : Er} (h : NewL TE B d l (j + 1) v (ss ++ [s]) W) : V9 B d l j ss v W := ⟨s, h⟩
theorem T9.mk (h1 : W.grownBy W' L.ownBlock) (h2 : W'.ownsRow B TE 8 L j (erCells ss)) : T9 B L j ss f W W' := ⟨h1, h2⟩
theorem S9.gr (h : S9 wr B L j ss W) : wr.grownBy W L.ownBlock := h.1
theorem S9.row (h : S9 wr B L j ss W) : W.ownsRow B TE 8 L j (erCells ss) := h.2
theorem cells_one {T : TypeId} {X : Nat → Prop} {s : Er} (h : ExAt T X d W x s) : ∀ u ∈ s.cells, u.oneCell' = true := by
  obtain ⟨d', rfl⟩ := h.pos
  obtain ⟨a, c, us, hlv, -⟩ := h.parts
  intro u hu
  unfold Er.cells at hu
  simp only [List.mem_cons, List.not_mem_nil, or_false] at hu
  rcases hu with rfl | rfl | rfl | rfl | rfl | rfl | rfl | rfl
  · rfl
  · rfl
  · rfl
  · rfl
  · rfl
  · rfl
  · rfl
  · rw [hlv]; rfl
end
attribute [local irreducible] V7 V8 V9 T9 S9
end Go.Proofs.Ytjnlimahcodomaa.ex
/- Expressions that the law builds: how many parts, how many children. Plain. -/
namespace Go.Proofs.Ytjnlimahcodomaa.ex
set_option linter.unusedVariables false
open val (V null)
theorem leaf1_parts : leaf1.parts = [leaf1] := by unfold leaf1; simp [Ex.parts, partsL]
theorem ex_parts (x : Pt) (l : List Ex) : (x.ex l).parts = x.ex l :: partsL l := by unfold Pt.ex; simp [Ex.parts]
/-- each part takes one place -/
theorem builtF_count (ps : List Pt) (f : Nat) : ∀ a, (builtF ps f a).1.parts.length + a = (builtF ps f a).2 := by
  induction f with
  | zero => intro a; show leaf1.parts.length + a = a + 1; rw [leaf1_parts]; simp; omega
  | succ f ih =>
    intro a
    unfold builtF
    cases h : ps[a]? with
    | none => show leaf1.parts.length + a = a + 1; rw [leaf1_parts]; simp; omega
    | some x =>
      have hk : ∀ n, (partsL (kids (builtF ps f) n (a + 1)).1).length + (a + 1) = (kids (builtF ps f) n (a + 1)).2 := by
        intro n
        induction n with
        | zero => simp [kids, partsL]
        | succ n ihn =>
          have := ih (kids (builtF ps f) n (a + 1)).2
          simp only [kids, partsL_snoc, List.length_append]
          omega
      have := hk x.num.toNat
      show (x.ex (kids (builtF ps f) x.num.toNat (a + 1)).1).parts.length + a = (kids (builtF ps f) x.num.toNat (a + 1)).2
      rw [ex_parts, List.length_cons]
      omega
/-- how far it goes -/
theorem builtF_span (ps : List Pt) (hps : ∀ x ∈ ps, PB x) (f : Nat) : ∀ a, (builtF ps f a).2 + 3 * min a ps.length ≤ a + 1 + 3 * min (builtF ps f a).2 ps.length := by
  induction f with
  | zero => intro a; show a + 1 + _ ≤ a + 1 + 3 * min (a + 1) _; omega
  | succ f ih =>
    intro a
    unfold builtF
    cases h : ps[a]? with
    | none => show a + 1 + _ ≤ a + 1 + 3 * min (a + 1) _; omega
    | some x =>
      have hal : a < ps.length := (List.getElem?_eq_some_iff.1 h).1
      have hn := (Pt.num_le (hps x (List.mem_of_getElem? h)))
      have hk : ∀ n, (kids (builtF ps f) n (a + 1)).2 + 3 * min (a + 1) ps.length ≤ a + 1 + n + 3 * min (kids (builtF ps f) n (a + 1)).2 ps.length := by
        intro n
        induction n with
        | zero => simp [kids]
        | succ n ihn =>
          have := ih (kids (builtF ps f) n (a + 1)).2
          show (builtF ps f (kids (builtF ps f) n (a + 1)).2).2 + _ ≤ a + 1 + (n + 1) + 3 * min (builtF ps f (kids (builtF ps f) n (a + 1)).2).2 _
          omega
      have := hk x.num.toNat
      show (kids (builtF ps f) x.num.toNat (a + 1)).2 + _ ≤ a + 1 + 3 * min (kids (builtF ps f) x.num.toNat (a + 1)).2 _
      omega
theorem builtF_few (ps : List Pt) (hps : ∀ x ∈ ps, PB x) (hl : ps.length ≤ 40) (f a : Nat) (ha : a ≤ ps.length) : (builtF ps f a).2 ≤ 121 ∧ (builtF ps f a).1.parts.length ≤ 121 := by
  have h1 := builtF_span ps hps f a
  have h2 := builtF_count ps f a
  omega
theorem slimL_snoc {l : List Ex} {x : Ex} (h : slimL l) (hx : x.slim) : slimL (l ++ [x]) := by
  induction l with
  | nil => exact ⟨hx, trivial⟩
  | cons a l ih =>
    unfold slimL at h
    exact ⟨h.1, ih h.2⟩
theorem builtF_slim (ps : List Pt) (hps : ∀ x ∈ ps, PB x) (f : Nat) : ∀ a, (builtF ps f a).1.slim := by
  induction f with
  | zero => intro a; show leaf1.slim; unfold leaf1; simp [Ex.slim, slimL]
  | succ f ih =>
    intro a
    unfold builtF
    cases h : ps[a]? with
    | none => show leaf1.slim; unfold leaf1; simp [Ex.slim, slimL]
    | some x =>
      have hn := (Pt.num_le (hps x (List.mem_of_getElem? h)))
      have hk : ∀ n, slimL (kids (builtF ps f) n (a + 1)).1 := by
        intro n
        induction n with
        | zero => simp [kids, slimL]
        | succ n ihn => exact slimL_snoc ihn (ih _)
      show (x.ex (kids (builtF ps f) x.num.toNat (a + 1)).1).slim
      unfold Pt.ex Ex.slim
      exact ⟨by rw [kids_len]; omega, hk _⟩
end Go.Proofs.Ytjnlimahcodomaa.ex
/- All parts of an expression, as the law lists them; walked. -/
namespace Go.Proofs.Ytjnlimahcodomaa.ex
set_option linter.unusedVariables false
open Go.RowKit
open val (V null veq6)
theorem infoQ : (Try.prog.info? 29).map (fun i => (i.zero, i.size, i.bytes)) = some (some (.agg #[.int .i64 0, .int .i64 0, .int .i64 0, .int .i64 0, .string ByteArray.empty, .string ByteArray.empty, .string ByteArray.empty, .slice none 0 0]), 8, 104) := by kernel_rfl
theorem partsL_take {l : List Ex} {j : Nat} {x : Ex} (h : l[j]? = some x) : partsL (l.take (j + 1)) = partsL (l.take j) ++ x.parts := by
  rw [List.take_add_one, h]; exact partsL_snoc _ _
/-- a list of trees in a row -/
def RowAt (T : TypeId) (X : Nat → Prop) (B d : Nat) (v : Value) (l : List Ex) (W : World) : Prop := ∃ rs : List Er, rs.length = l.length ∧ W.ownsRow B T 8 v l.length (erCells rs) ∧ ∀ (i : Nat) x s, l[i]? = some x → rs[i]? = some s → ExAt T X d W x s
theorem RowAt.ones {T : TypeId} {X : Nat → Prop} {d : Nat} {W : World} {l : List Ex} {rs : List Er} (hl : rs.length = l.length) (h : ∀ (i : Nat) x s, l[i]? = some x → rs[i]? = some s → ExAt T X d W x s) : ∀ u ∈ erCells rs, u.oneCell' = true := by
  intro u hu
  unfold erCells at hu
  obtain ⟨s, hs, hu⟩ := List.mem_flatMap.1 hu
  obtain ⟨i, hi⟩ := List.getElem?_of_mem hs
  have hil := (List.getElem?_eq_some_iff.1 hi).1
  exact cells_one (h i l[i] s (List.getElem?_eq_getElem (by omega)) hi) u hu
theorem RowAt.later {T : TypeId} {X : Nat → Prop} {B d : Nat} {v : Value} {W W' : World} {l : List Ex} (h : RowAt T X B d v l W) (hb : Below W.heap.size W W') : RowAt T X B d v l W' := by
  obtain ⟨rs, h1, h2, h3⟩ := h
  exact ⟨rs, h1, owns_below h2 hb, fun i x s hx hs => (h3 i x s hx hs).later hb⟩
/-- an append of a whole list -/
theorem RowAt.app {T : TypeId} {X : Nat → Prop} {B d : Nat} {v v' : Value} {W W' : World} {l l' : List Ex} {rs ps : List Er} (hX : ∀ b, X b → b < B) (h1 : rs.length = l.length) (h2 : W.ownsRow B T 8 v l.length (erCells rs)) (h3 : ∀ (i : Nat) x s, l[i]? = some x → rs[i]? = some s → ExAt T X d W x s)
    (k1 : ps.length = l'.length) (k3 : ∀ (i : Nat) x s, l'[i]? = some x → ps[i]? = some s → ExAt T X d W x s) (hap : Appended B T 8 v l.length l'.length (erCells rs) (erCells ps) W v' W') : RowAt T X B d v' (l ++ l') W' := by
  have gr : ∀ {x : Ex} {s : Er}, ExAt T X d W x s → ExAt T X d W' x s := fun h => h.grown hap.grown (fun b e hb => by have := hX b hb; have := (h2.lt b e).1; omega)
  refine ⟨rs ++ ps, by rw [List.length_append, List.length_append, h1, k1], by rw [List.length_append, erCells_append]; exact hap.own, fun i x s hx hs => ?_⟩
  by_cases hi : i < l.length
  · rw [List.getElem?_append_left hi] at hx
    rw [List.getElem?_append_left (by omega)] at hs
    exact gr (h3 i x s hx hs)
  · rw [List.getElem?_append_right (by omega)] at hx
    rw [List.getElem?_append_right (by omega), h1] at hs
    exact gr (k3 _ x s hx hs)
end Go.Proofs.Ytjnlimahcodomaa.ex
