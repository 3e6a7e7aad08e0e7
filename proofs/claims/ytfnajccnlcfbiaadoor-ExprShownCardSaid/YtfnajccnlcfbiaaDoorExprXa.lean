/- What the law ExprTells's two ranges over All want: parts of slim trees, the kept facts; no walk. -/
import Derived.Test.YtfnajccnlcfbiaaDoorExprFJ
import Derived.Test.YtfnajccnlcfbiaaDoorAgCx
import Derived.Test.YtfnajccnlcfbiaaDoorRngX
namespace Go.Proofs.YtfnajccnlcfbiaaDoor.ex
set_option linter.unusedVariables false
open Go.RowKit
open val (V)
theorem Ex.slim_part : ∀ (e : Ex), e.slim → ∀ x ∈ e.parts, x.slim := by
  intro e
  induction e using Ex.ind with
  | h k op v tb nm l ih =>
    intro hs x hx
    obtain ⟨-, h2⟩ := Ex.slim_parts hs
    rw [Ex.parts_eq, List.mem_cons, partsL_flat, List.mem_flatMap] at hx
    rcases hx with rfl | ⟨y, hy, hx⟩
    · exact hs
    · exact ih y hy (h2 y hy) x hx
/-- the cells of a record in a row of records -/
theorem row_cells {T : TypeId} {W : World} {a : Option Addr} {B n c : Nat} {us : List Er} (hr : W.ownsRow B T 8 (.slice a n c) n (erCells us)) {i : Nat} (hi : i < n) {u : Er} (hu : us[i]? = some u) :
    ∃ g, a = some ⟨g, 0, none⟩ ∧ g < W.heap.size ∧ W.cell? ⟨g, i * 8, none⟩ = some (.int .i64 u.k) ∧ W.cell? ⟨g, i * 8 + 1, none⟩ = some (.int .i64 u.op) ∧ W.cell? ⟨g, i * 8 + 2, none⟩ = some (.int .i64 u.v.k) ∧ W.cell? ⟨g, i * 8 + 3, none⟩ = some (.int .i64 u.v.n) ∧ W.cell? ⟨g, i * 8 + 4, none⟩ = some (.string u.v.s) ∧ W.cell? ⟨g, i * 8 + 5, none⟩ = some (.string u.tb) ∧ W.cell? ⟨g, i * 8 + 6, none⟩ = some (.string u.nm) ∧ W.cell? ⟨g, i * 8 + 7, none⟩ = some u.lv := by
  obtain ⟨g, rfl, hg1, hg2, hc, -⟩ := owns_cellAt hr (by omega)
  obtain ⟨c0, c1, c2, c3, c4, c5, c6, c7⟩ := erCells_at us i u hu
  exact ⟨g, rfl, hg2, (hc _ (by omega)).trans c0, (hc _ (by omega)).trans c1, (hc _ (by omega)).trans c2, (hc _ (by omega)).trans c3, (hc _ (by omega)).trans c4, (hc _ (by omega)).trans c5, (hc _ (by omega)).trans c6, (hc _ (by omega)).trans c7⟩
/-- a counter in a box behind a world -/
def KI (Y : World) (T : TypeId) (g : Nat) (k : Nat) (W : World) : Prop := Flds W g T [.int .i64 (k : Int)] ∧ Below Y.heap.size Y W
theorem KI.own {Y : World} {T : TypeId} {g C : Nat} (hC : Y.heap.size ≤ C) : OwnFrom C (fun k W => KI Y T g k W) := by
  rintro k A Z row ⟨h1, h4⟩ hg hr
  refine ⟨h1.grown hg (fun e => ?_), h4.grown hg h4.size (fun j e => Nat.le_trans hC (hr j e).1)⟩
  obtain ⟨-, o, ho, hc⟩ := hr g e.symm
  have h1' : A.heap[g]? = _ := h1
  rw [h1'] at ho
  cases ho
  cases hc
/-- at the start 0, or 1 once a round was left -/
def KX (Y : World) (T : TypeId) (g : Nat) (c0 : Code) (c : Code) (k : Nat) (W : World) : Prop := c = c0 ∧ KI Y T g 1 W
theorem KX.own {Y : World} {T : TypeId} {g C : Nat} {c0 : Code} (hC : Y.heap.size ≤ C) (c : Code) : OwnFrom C (KX Y T g c0 c) := by
  rintro k A Z row ⟨h1, h2⟩ hg hr
  exact ⟨h1, KI.own (T := T) (g := g) hC 1 A Z row h2 hg hr⟩
/-- a counter that stands at 0 as long as no round was left -/
def KZ (Y : World) (T : TypeId) (g : Nat) (k : Nat) (W : World) : Prop := k = 0 ∧ KI Y T g 0 W
theorem KZ.own {Y : World} {T : TypeId} {g C : Nat} (hC : Y.heap.size ≤ C) : OwnFrom C (fun k W => KZ Y T g k W) := by
  rintro k A Z row ⟨h1, h2⟩ hg hr
  exact ⟨h1, KI.own (T := T) (g := g) hC 0 A Z row h2 hg hr⟩
theorem PartA.put {X P : Nat → Prop} {d : Nat} {ps : List Ex} {B k : Nat} {W : World} {xs : Array Value} {l : Nat} {o o' : Go.Obj} (hXP : ∀ b, X b → ¬ P b) (hl : B ≤ l) (h1 : W.heap[l]? = some o) (h2 : o.isCells = false) (hA : PartA X d ps k W xs) : PartA X d ps k (W.putObj l o') xs := by
  obtain ⟨x, s, e1, e2, e3⟩ := hA
  exact ⟨x, s, e1, e2, e3.onlyX hXP (OnlyX.put (B := B) W l o o' hl h1 h2)⟩
theorem PartA.one {X : Nat → Prop} {d : Nat} {ps : List Ex} {k : Nat} {W : World} {xs : Array Value} (hA : PartA X d ps k W xs) : xs.size = 1 := by
  obtain ⟨x, s, -, rfl, -⟩ := hA
  rfl
theorem keeps_b {B : Nat} {W W' : World} (h : Below W.heap.size W W') : KeepsFrom B W W' := KeepsFrom.of_grownBy (grown_of_below h) (fun _ e => by cases e)
theorem keeps_s {B : Nat} (W : World) (a : Addr) (u : Value) : KeepsFrom B W (W.setCell a u) := (KeepsOthers.setCell _ _ _).from B
theorem onlyX_s {B : Nat} {P : Nat → Prop} (W : World) (g j : Nat) (hp : P g) (u : Value) : OnlyX B P W (W.setCell ⟨g, j, none⟩ u) := .of_only ((Only.refl _ W).setCell _ _ (fun _ => hp))
/-- a record's cells, each a letter -/
structure Ev where
  k : Int
  op : Int
  vk : Int
  vn : Int
  vs : ByteArray
  tb : ByteArray
  nm : ByteArray
  a : Option Addr
  n : Nat
  c : Nat
def Ev.er (x : Ev) : Er := ⟨x.k, x.op, ⟨x.vk, x.vn, x.vs⟩, x.tb, x.nm, .slice x.a x.n x.c⟩
theorem PartA.ev {X : Nat → Prop} {d : Nat} {ps : List Ex} {k : Nat} {W : World} {xs : Array Value} (hA : PartA X (d + 1) ps k W xs) : ∃ x : Ev, xs = #[.agg #[.int .i64 x.k, .int .i64 x.op, .int .i64 x.vk, .int .i64 x.vn, .string x.vs, .string x.tb, .string x.nm, .slice x.a x.n x.c]] := by
  obtain ⟨x, s, -, rfl, h⟩ := hA
  obtain ⟨a, c, us, hl, -⟩ := h.parts
  obtain ⟨k, op, v, tb, nm, lv⟩ := s
  dsimp only at hl
  subst hl
  exact ⟨⟨k, op, v.k, v.n, v.s, tb, nm, a, x.l.length, c⟩, rfl⟩
theorem PartA.at {X : Nat → Prop} {d : Nat} {ps : List Ex} {k : Nat} {W : World} {x : Ev} (hA : PartA X (d + 1) ps k W #[.agg #[.int .i64 x.k, .int .i64 x.op, .int .i64 x.vk, .int .i64 x.vn, .string x.vs, .string x.tb, .string x.nm, .slice x.a x.n x.c]]) : ∃ y, ps[k]? = some y ∧ x.n = y.l.length ∧ ExAt TE X (d + 1) W y x.er := by
  obtain ⟨y, s, h1, h2, h⟩ := hA
  obtain ⟨a, c, us, hl, -⟩ := h.parts
  obtain ⟨k, op, ⟨vk, vn, vs⟩, tb, nm, lv⟩ := s
  obtain ⟨xk, xop, xvk, xvn, xvs, xtb, xnm, xa, xn, xc⟩ := x
  dsimp only at hl
  subst hl
  unfold Er.val at h2
  simp only [Array.mk.injEq, List.cons.injEq, and_true, Value.agg.injEq, Value.int.injEq, true_and, Value.string.injEq, Value.slice.injEq] at h2
  obtain ⟨rfl, rfl, rfl, rfl, rfl, rfl, rfl, rfl, rfl, rfl⟩ := h2
  exact ⟨y, h1, rfl, h⟩
theorem RowAt.kids {T : TypeId} {X : Nat → Prop} {B d : Nat} {a : Option Addr} {n c : Nat} {l : List Ex} {W : World} (h : RowAt T X B (d + 1) (.slice a n c) l W) (hn : l.length = n) {k : Nat} (hk : k < n) {x : Ex} (hx : l[k]? = some x) :
    ∃ (ga : Nat) (uk uop : Int) (uv : V) (utb unm : ByteArray) (ua : Option Addr) (uc : Nat), a = some ⟨ga, 0, none⟩ ∧ ExAt T X (d + 1) W x ⟨uk, uop, uv, utb, unm, .slice ua x.l.length uc⟩ ∧ ga < W.heap.size ∧ W.cell? ⟨ga, k * 8, none⟩ = some (.int .i64 uk) ∧ W.cell? ⟨ga, k * 8 + 1, none⟩ = some (.int .i64 uop) ∧ W.cell? ⟨ga, k * 8 + 2, none⟩ = some (.int .i64 uv.k) ∧ W.cell? ⟨ga, k * 8 + 3, none⟩ = some (.int .i64 uv.n) ∧ W.cell? ⟨ga, k * 8 + 4, none⟩ = some (.string uv.s) ∧ W.cell? ⟨ga, k * 8 + 5, none⟩ = some (.string utb) ∧ W.cell? ⟨ga, k * 8 + 6, none⟩ = some (.string unm) ∧ W.cell? ⟨ga, k * 8 + 7, none⟩ = some (.slice ua x.l.length uc) := by
  obtain ⟨rs, r1, r2, r3⟩ := h
  rw [hn] at r1 r2
  have hu := List.getElem?_eq_getElem (show k < rs.length by omega)
  generalize rs[k] = u at hu
  have hxu := r3 k x u hx hu
  obtain ⟨ga, rfl, hga, c0, c1, c2, c3, c4, c5, c6, c7⟩ := row_cells r2 hk hu
  obtain ⟨ua, uc, us', hul, -⟩ := hxu.parts
  obtain ⟨uk, uop, uv, utb, unm, ulv⟩ := u
  dsimp only at hul c0 c1 c2 c3 c4 c5 c6 c7
  subst hul
  exact ⟨ga, uk, uop, uv, utb, unm, ua, uc, rfl, hxu, hga, c0, c1, c2, c3, c4, c5, c6, c7⟩
end Go.Proofs.YtfnajccnlcfbiaaDoor.ex
