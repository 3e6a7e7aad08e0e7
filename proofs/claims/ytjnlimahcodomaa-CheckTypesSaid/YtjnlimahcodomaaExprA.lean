/- Expressions in memory: a tree of slices. -/
import Derived.Test.YtjnlimahcodomaaExprP
import Derived.Test.YtjnlimahcodomaaOwn
import Derived.Test.YtjnlimahcodomaaProg
import Derived.WalkKit
namespace Go.Proofs.Ytjnlimahcodomaa.ex
set_option linter.unusedVariables false
open Go.RowKit
open val (V null)
abbrev TE : TypeId := 36
abbrev TQ : TypeId := 29
/-- an expression as a record; the slice of its parts -/
structure Er where
  k : Int
  op : Int
  v : V
  tb : ByteArray
  nm : ByteArray
  lv : Value
def Er.val (r : Er) : Value := .agg #[.int .i64 r.k, .int .i64 r.op, .int .i64 r.v.k, .int .i64 r.v.n, .string r.v.s, .string r.tb, .string r.nm, r.lv]
def Er.cells (r : Er) : List Value := [.int .i64 r.k, .int .i64 r.op, .int .i64 r.v.k, .int .i64 r.v.n, .string r.v.s, .string r.tb, .string r.nm, r.lv]
def erCells (l : List Er) : List Value := l.flatMap Er.cells
theorem erCells_cons (e : Er) (l : List Er) : erCells (e :: l) = .int .i64 e.k :: .int .i64 e.op :: .int .i64 e.v.k :: .int .i64 e.v.n :: .string e.v.s :: .string e.tb :: .string e.nm :: e.lv :: erCells l := rfl
theorem erCells_append (a b : List Er) : erCells (a ++ b) = erCells a ++ erCells b := by unfold erCells; rw [List.flatMap_append]
theorem erCells_len (l : List Er) : (erCells l).length = l.length * 8 := by
  induction l with
  | nil => rfl
  | cons a l ih => rw [erCells_cons]; simp only [List.length_cons, ih]; omega
theorem erCells_at : ∀ (l : List Er) (j : Nat) (e : Er), l[j]? = some e → (erCells l)[j * 8]? = some (.int .i64 e.k) ∧ (erCells l)[j * 8 + 1]? = some (.int .i64 e.op) ∧ (erCells l)[j * 8 + 2]? = some (.int .i64 e.v.k) ∧ (erCells l)[j * 8 + 3]? = some (.int .i64 e.v.n) ∧ (erCells l)[j * 8 + 4]? = some (.string e.v.s) ∧ (erCells l)[j * 8 + 5]? = some (.string e.tb) ∧ (erCells l)[j * 8 + 6]? = some (.string e.nm) ∧ (erCells l)[j * 8 + 7]? = some e.lv
  | [], j, e, h => by simp at h
  | a :: l, 0, e, h => by
    simp at h; subst h
    rw [erCells_cons]; simp
  | a :: l, j + 1, e, h => by
    have := erCells_at l j e (by simpa using h)
    rw [erCells_cons, show (j + 1) * 8 = j * 8 + 8 by omega]
    simpa using this
/-- an expression lies in memory, at most so deep; its slices' blocks are of a set -/
def ExAt (T : TypeId) (X : Nat → Prop) : Nat → World → Ex → Er → Prop
  | 0, _, _, _ => False
  | d + 1, W, e, r => r.k = e.k ∧ r.op = e.op ∧ r.v = e.v ∧ r.tb = e.tb ∧ r.nm = e.nm ∧ (∀ b, r.lv.ownBlock = some b → X b) ∧
    ∃ us : List Er, us.length = e.l.length ∧ W.ownsRow 0 T 8 r.lv e.l.length (erCells us) ∧ ∀ (i : Nat) x u, e.l[i]? = some x → us[i]? = some u → ExAt T X d W x u
section
variable {T : TypeId} {X Y : Nat → Prop} {W W' : World}
theorem ExAt.grown : ∀ {d : Nat} {e : Ex} {r : Er} {row : Option Nat}, ExAt T X d W e r → W.grownBy W' row → (∀ b, row = some b → ¬ X b) → ExAt T X d W' e r
  | 0, _, _, _, h, _, _ => h.elim
  | d + 1, e, r, row, ⟨h1, h2, h3, h4, h5, h6, us, h7, h8, h9⟩, hg, hr => by
    refine ⟨h1, h2, h3, h4, h5, h6, us, h7, h8.kept hg ?_, fun i x u hx hu => (h9 i x u hx hu).grown hg hr⟩
    cases hob : r.lv.ownBlock with
    | none => exact .inl rfl
    | some b => exact .inr fun e0 => hr b e0.symm (h6 b hob)
theorem ExAt.later {d : Nat} {e : Ex} {r : Er} (h : ExAt T X d W e r) (hb : Below W.heap.size W W') : ExAt T X d W' e r := h.grown (row := none) ⟨hb.os, hb.tape, hb.output, hb.size, fun k hk _ => hb.block k hk⟩ (fun b h => by cases h)
theorem ExAt.mono : ∀ {d d' : Nat} {e : Ex} {r : Er}, ExAt T X d W e r → d ≤ d' → (∀ b, b < W.heap.size → X b → Y b) → ExAt T Y d' W e r
  | 0, _, _, _, h, _, _ => h.elim
  | d + 1, 0, _, _, _, h, _ => by omega
  | d + 1, d' + 1, e, r, ⟨h1, h2, h3, h4, h5, h6, us, h7, h8, h9⟩, hd, hX =>
    ⟨h1, h2, h3, h4, h5, fun b hb => hX b (h8.lt b hb).2 (h6 b hb), us, h7, h8, fun i x u hx hu => (h9 i x u hx hu).mono (by omega) hX⟩
theorem ExAt.pos {d : Nat} {e : Ex} {r : Er} (h : ExAt T X d W e r) : ∃ d', d = d' + 1 := by
  cases d with
  | zero => exact h.elim
  | succ d => exact ⟨d, rfl⟩
/-- it is no deeper than that -/
theorem ExAt.depth : ∀ {d : Nat} {e : Ex} {r : Er}, ExAt T X d W e r → e.depth ≤ d
  | 0, _, _, h => h.elim
  | d + 1, e, r, ⟨_, _, _, _, _, _, us, h7, _, h9⟩ => by
    rw [e.depth_eq]
    have : ∀ l : List Ex, (∀ x ∈ l, x.depth ≤ d) → depthL l ≤ d := by
      intro l
      induction l with
      | nil => intro _; simp [depthL]
      | cons a l ih =>
        intro h
        have h1 := h a (List.mem_cons_self ..)
        have h2 := ih (fun x hx => h x (List.mem_cons_of_mem _ hx))
        simp only [depthL]; omega
    have := this e.l (fun x hx => by
      obtain ⟨i, hi⟩ := List.getElem?_of_mem hx
      have hil := (List.getElem?_eq_some_iff.1 hi).1
      exact (h9 i x us[i] hi (List.getElem?_eq_getElem (by omega))).depth)
    omega
end
/-- the parts of one -/
theorem ExAt.parts {T : TypeId} {X : Nat → Prop} {W : World} {d : Nat} {e : Ex} {r : Er} (h : ExAt T X (d + 1) W e r) : ∃ (a : Option Addr) (c : Nat) (us : List Er), r.lv = .slice a e.l.length c ∧ us.length = e.l.length ∧ W.ownsRow 0 T 8 (.slice a e.l.length c) e.l.length (erCells us) ∧ ∀ (i : Nat) x u, e.l[i]? = some x → us[i]? = some u → ExAt T X d W x u := by
  obtain ⟨-, -, -, -, -, -, us, h7, h8, h9⟩ := h
  obtain ⟨a, c, ha⟩ := owns_shape h8
  rw [ha] at h8
  exact ⟨a, c, us, ha, h7, h8, h9⟩
/-- the cells of one part -/
theorem part_cells {T : TypeId} {W : World} {a : Option Addr} {n c : Nat} {us : List Er} (hr : W.ownsRow 0 T 8 (.slice a n c) n (erCells us)) {i : Nat} (hi : i < n) {u : Er} (hu : us[i]? = some u) :
    ∃ g, a = some ⟨g, 0, none⟩ ∧ g < W.heap.size ∧ W.cell? ⟨g, i * 8, none⟩ = some (.int .i64 u.k) ∧ W.cell? ⟨g, i * 8 + 1, none⟩ = some (.int .i64 u.op) ∧ W.cell? ⟨g, i * 8 + 2, none⟩ = some (.int .i64 u.v.k) ∧ W.cell? ⟨g, i * 8 + 3, none⟩ = some (.int .i64 u.v.n) ∧ W.cell? ⟨g, i * 8 + 4, none⟩ = some (.string u.v.s) ∧ W.cell? ⟨g, i * 8 + 5, none⟩ = some (.string u.tb) ∧ W.cell? ⟨g, i * 8 + 6, none⟩ = some (.string u.nm) ∧ W.cell? ⟨g, i * 8 + 7, none⟩ = some u.lv := by
  obtain ⟨g, rfl, hg1, hg2, hc, -⟩ := owns_cellAt hr (by omega)
  obtain ⟨c0, c1, c2, c3, c4, c5, c6, c7⟩ := erCells_at us i u hu
  exact ⟨g, rfl, hg2, (hc _ (by omega)).trans c0, (hc _ (by omega)).trans c1, (hc _ (by omega)).trans c2, (hc _ (by omega)).trans c3, (hc _ (by omega)).trans c4, (hc _ (by omega)).trans c5, (hc _ (by omega)).trans c6, (hc _ (by omega)).trans c7⟩
end Go.Proofs.Ytjnlimahcodomaa.ex
