/- Parts of an expression as plain data, in memory. -/
import Derived.Test.YtjnlimahcodomaaExprFG
import Derived.Test.YtjnlimahcodomaaOnlyX
import Derived.Stop.RegionWithIn
import Derived.BigRegionIn
import Derived.RangeFuncNested
import Derived.RangeFuncBound
import Derived.RangeFuncCalls
import Derived.RangeFuncLeaves
import Derived.WalkKit
import Derived.RangeFuncBox
import Derived.Shelf.Abstract
import Derived.Shelf.RegionOpen
import Derived.OwnWalkIn
import Derived.TacticsInMore
import Derived.LoopNIn
import Derived.LoopIn
import Derived.Maps.AppendAt
import Derived.Sort.QuietTacIn
namespace Go.Proofs.Ytjnlimahcodomaa.ex
set_option linter.unusedVariables false
open Go.RowKit
open val (V null veq6)
abbrev TP : TypeId := 65
def pCells (l : List Pt) : List Value := l.flatMap fun x => [.int .u8 x.k, .int .u8 x.op, .int .u8 x.vk, .int .u8 x.n, .int .i64 x.x, .string x.nm, .string x.tb]
def Pt.cells (x : Pt) : List Value := [.int .u8 x.k, .int .u8 x.op, .int .u8 x.vk, .int .u8 x.n, .int .i64 x.x, .string x.nm, .string x.tb]
theorem pCells_len (l : List Pt) : (pCells l).length = l.length * 7 := by
  induction l with
  | nil => rfl
  | cons a l ih => unfold pCells at ih ⊢; rw [List.flatMap_cons, List.length_append, ih]; simp; omega
theorem pCells_cons (v : Pt) (l : List Pt) : pCells (v :: l) = .int .u8 v.k :: .int .u8 v.op :: .int .u8 v.vk :: .int .u8 v.n :: .int .i64 v.x :: .string v.nm :: .string v.tb :: pCells l := rfl
theorem pCells_at : ∀ (l : List Pt) (j : Nat) (v : Pt), l[j]? = some v → (pCells l)[j * 7]? = some (.int .u8 v.k) ∧ (pCells l)[j * 7 + 1]? = some (.int .u8 v.op) ∧ (pCells l)[j * 7 + 2]? = some (.int .u8 v.vk) ∧ (pCells l)[j * 7 + 3]? = some (.int .u8 v.n) ∧ (pCells l)[j * 7 + 4]? = some (.int .i64 v.x) ∧ (pCells l)[j * 7 + 5]? = some (.string v.nm) ∧ (pCells l)[j * 7 + 6]? = some (.string v.tb)
  | [], j, v, h => by simp at h
  | a :: l, 0, v, h => by
    simp at h; subst h
    rw [pCells_cons]; simp
  | a :: l, j + 1, v, h => by
    have := pCells_at l j v (by simpa using h)
    rw [pCells_cons, show (j + 1) * 7 = j * 7 + 7 by omega]
    simpa using this
theorem pts_at0 {w : World} {b off cap n : Nat} {xs : List Pt} {k : Nat} {x : Pt} (hv : Row w (.slice (some ⟨b, off, none⟩) n cap) 7 n (pCells xs)) (hk : k < n) (hx : xs[k]? = some x) (wq : World) (hb : Below w.heap.size w wq) :
    wq.cell? ⟨b, off + k * 7, none⟩ = some (.int .u8 x.k) ∧ wq.cell? ⟨b, off + k * 7 + 1, none⟩ = some (.int .u8 x.op) ∧ wq.cell? ⟨b, off + k * 7 + 2, none⟩ = some (.int .u8 x.vk) ∧ wq.cell? ⟨b, off + k * 7 + 3, none⟩ = some (.int .u8 x.n) ∧ wq.cell? ⟨b, off + k * 7 + 4, none⟩ = some (.int .i64 x.x) ∧ wq.cell? ⟨b, off + k * 7 + 5, none⟩ = some (.string x.nm) ∧ wq.cell? ⟨b, off + k * 7 + 6, none⟩ = some (.string x.tb) ∧ b < wq.heap.size := by
  obtain ⟨b', off', cap', ea, hcell⟩ := (hv.later hb).pos (by omega)
  simp only [Value.slice.injEq, Option.some.injEq, Addr.mk.injEq] at ea
  obtain ⟨⟨rfl, rfl, -⟩, -, rfl⟩ := ea
  obtain ⟨c0, c1, c2, c3, c4, c5, c6⟩ := pCells_at xs k _ hx
  have g0 := (hcell (k * 7) (by omega)).trans c0
  have g1 := (hcell (k * 7 + 1) (by omega)).trans c1
  have g2 := (hcell (k * 7 + 2) (by omega)).trans c2
  have g3 := (hcell (k * 7 + 3) (by omega)).trans c3
  have g4 := (hcell (k * 7 + 4) (by omega)).trans c4
  have g5 := (hcell (k * 7 + 5) (by omega)).trans c5
  have g6 := (hcell (k * 7 + 6) (by omega)).trans c6
  rw [← Nat.add_assoc] at g1 g2 g3 g4 g5 g6
  exact ⟨g0, g1, g2, g3, g4, g5, g6, World.block_lt_of_cell? wq _ g0⟩
/-- an expression's cells, spelled -/
def eC (k op vk vn : Int) (vs tb nm : ByteArray) (L : Value) : List Value := [.int .i64 k, .int .i64 op, .int .i64 vk, .int .i64 vn, .string vs, .string tb, .string nm, L]
/-- what a builder has made before its loop -/
structure Pre (w : World) (g8 g9 : Nat) (x : Pt) (fs : List Value) (W : World) : Prop where
  f6 : Flds W w.heap.size TQ (eC 0 0 0 0 ByteArray.empty ByteArray.empty ByteArray.empty (.slice none 0 0))
  f8 : Flds W g8 TP x.cells
  f9 : Flds W g9 TQ fs
  bel : Below w.heap.size w W
theorem Pre.set {w W : World} {g8 g9 : Nat} {x : Pt} {fs : List Value} (h : Pre w g8 g9 x fs W) (h8 : w.heap.size < g8) (h9 : g8 < g9) (i : Nat) (u : Value) : Pre w g8 g9 x (fs.set i u) (W.setCell ⟨g9, i, none⟩ u) :=
  ⟨h.f6.other _ _ (by show w.heap.size ≠ g9; omega), h.f8.other _ _ (by show g8 ≠ g9; omega), h.f9.set i u, h.bel.setCell (by show w.heap.size ≤ g9; omega) _⟩
theorem Pre.drew {w W : World} {g8 g9 : Nat} {x : Pt} {fs : List Value} (h : Pre w g8 g9 x fs W) : Pre w g8 g9 x fs W.drew := ⟨h.f6, h.f8, h.f9, h.bel.drew⟩
/-- two texts that are stored in any order -/
structure TwoG (w : World) (g8 g9 : Nat) (x : Pt) (f : ByteArray → ByteArray → List Value) (a1 b1 : ByteArray) (W : World) : Prop where
  go : ∃ a b, (a = ByteArray.empty ∨ a = a1) ∧ (b = ByteArray.empty ∨ b = b1) ∧ Pre w g8 g9 x (f a b) W
section
variable {w W W' : World} {g8 g9 : Nat} {x : Pt} {k op vk vn : Int} {vs a1 b1 : ByteArray} {L : Value}
/-- the texts of an expression in the making -/
def fT (k op vk vn : Int) (vs : ByteArray) (L : Value) (tb nm : ByteArray) : List Value := eC k op vk vn vs tb nm L
theorem TwoG.start (h : Pre w g8 g9 x (fT k op vk vn vs L ByteArray.empty ByteArray.empty) W) : TwoG w g8 g9 x (fT k op vk vn vs L) a1 b1 W.drew := ⟨⟨_, _, .inl rfl, .inl rfl, h.drew⟩⟩
theorem TwoG.part (h : TwoG w g8 g9 x (fT k op vk vn vs L) a1 b1 W) : W.cell? ⟨g8, 5, none⟩ = some (.string x.nm) ∧ W.cell? ⟨g8, 6, none⟩ = some (.string x.tb) ∧ g8 < W.heap.size := by
  obtain ⟨⟨a, b, -, -, hf⟩⟩ := h
  exact ⟨hf.f8.cell 5, hf.f8.cell 6, hf.f8.lt⟩
theorem TwoG.at (h : TwoG w g8 g9 x (fT k op vk vn vs L) a1 b1 W) : g9 < W.heap.size ∧ W.frozen? ⟨g9, 5, none⟩ = false ∧ W.frozen? ⟨g9, 6, none⟩ = false ∧ (∃ a, W.cell? ⟨g9, 5, none⟩ = some (.string a)) ∧ (∃ b, W.cell? ⟨g9, 6, none⟩ = some (.string b)) := by
  obtain ⟨⟨a, b, -, -, hf⟩⟩ := h
  exact ⟨hf.f9.lt, hf.f9.frozen 5, hf.f9.frozen 6, ⟨a, hf.f9.cell 5⟩, ⟨b, hf.f9.cell 6⟩⟩
theorem TwoG.set1 (h : TwoG w g8 g9 x (fT k op vk vn vs L) a1 b1 W) : (W.setCell ⟨g9, 5, none⟩ (.string a1)).cell? ⟨g9, 5, none⟩ = some (.string a1) := by
  obtain ⟨⟨a, b, -, -, hf⟩⟩ := h
  exact (hf.f9.set 5 (.string a1)).cell 5
theorem TwoG.set2 (h : TwoG w g8 g9 x (fT k op vk vn vs L) a1 b1 W) : (W.setCell ⟨g9, 6, none⟩ (.string b1)).cell? ⟨g9, 6, none⟩ = some (.string b1) := by
  obtain ⟨⟨a, b, -, -, hf⟩⟩ := h
  exact (hf.f9.set 6 (.string b1)).cell 6
theorem TwoG.st1 {u : Value} (h : W.cell? ⟨g9, 5, none⟩ = some u) {y : Value} (ht : W' = W.setCell ⟨g9, 6, none⟩ y) : W'.cell? ⟨g9, 5, none⟩ = some u := by
  rw [ht]; exact (World.cell?_setCell_other _ _ _ _ (by simp)).trans h
theorem TwoG.st2 {u : Value} (h : W.cell? ⟨g9, 6, none⟩ = some u) {y : Value} (ht : W' = W.setCell ⟨g9, 5, none⟩ y) : W'.cell? ⟨g9, 6, none⟩ = some u := by
  rw [ht]; exact (World.cell?_setCell_other _ _ _ _ (by simp)).trans h
theorem TwoG.k1 (h8 : w.heap.size < g8) (h9 : g8 < g9) (h : TwoG w g8 g9 x (fT k op vk vn vs L) a1 b1 W) (ht : W' = W.setCell ⟨g9, 5, none⟩ (.string a1)) : TwoG w g8 g9 x (fT k op vk vn vs L) a1 b1 W' := by
  obtain ⟨⟨a, b, ha, hb, hf⟩⟩ := h
  rw [ht]
  exact ⟨⟨a1, b, .inr rfl, hb, hf.set h8 h9 5 (.string a1)⟩⟩
theorem TwoG.k2 (h8 : w.heap.size < g8) (h9 : g8 < g9) (h : TwoG w g8 g9 x (fT k op vk vn vs L) a1 b1 W) (ht : W' = W.setCell ⟨g9, 6, none⟩ (.string b1)) : TwoG w g8 g9 x (fT k op vk vn vs L) a1 b1 W' := by
  obtain ⟨⟨a, b, ha, hb, hf⟩⟩ := h
  rw [ht]
  exact ⟨⟨a, b1, ha, .inr rfl, hf.set h8 h9 6 (.string b1)⟩⟩
theorem TwoG.fin (h : TwoG w g8 g9 x (fT k op vk vn vs L) a1 b1 W) (h1 : W.cell? ⟨g9, 5, none⟩ = some (.string a1)) (h2 : W.cell? ⟨g9, 6, none⟩ = some (.string b1)) : Pre w g8 g9 x (fT k op vk vn vs L a1 b1) W := by
  obtain ⟨⟨a, b, ha, hb, hf⟩⟩ := h
  have e1 := (hf.f9.cell 5).symm.trans h1
  have e2 := (hf.f9.cell 6).symm.trans h2
  unfold fT eC at e1 e2
  simp at e1 e2
  subst e1; subst e2
  exact hf
end
theorem builtF_some {ps : List Pt} {f a : Nat} {x : Pt} (h : ps[a]? = some x) : builtF ps (f + 1) a = (x.ex (kids (builtF ps f) x.num.toNat (a + 1)).1, (kids (builtF ps f) x.num.toNat (a + 1)).2) := by
  conv => lhs; unfold builtF
  rw [h]
theorem builtF_none {ps : List Pt} {f a : Nat} (h : ps.length ≤ a) : builtF ps f a = (leaf1, a + 1) := by
  cases f with
  | zero => rfl
  | succ f =>
    conv => lhs; unfold builtF
    rw [List.getElem?_eq_none h]
theorem kids_get (g : Nat → Ex × Nat) (n a j : Nat) (h : j < n) : (kids g n a).1[j]? = some (g (kids g j a).2).1 := by
  induction n with
  | zero => omega
  | succ n ih =>
    show ((kids g n a).1 ++ [(g (kids g n a).2).1])[j]? = _
    by_cases hj : j < n
    · rw [List.getElem?_append_left (by rw [kids_len]; exact hj)]; exact ih hj
    · have : j = n := by omega
      subst this
      rw [List.getElem?_append_right (by rw [kids_len]; omega), kids_len, Nat.sub_self]; rfl
theorem Pre.grown {w W W' : World} {g8 g9 : Nat} {x : Pt} {fs : List Value} {row : Option Nat} (h : Pre w g8 g9 x fs W) (hg : W.grownBy W' row) (hr : ∀ b, row = some b → w.heap.size < b ∧ g8 ≠ b ∧ g9 ≠ b) : Pre w g8 g9 x fs W' :=
  ⟨h.f6.grown hg (fun e => by have := (hr _ e.symm).1; omega), h.f8.grown hg (fun e => (hr _ e.symm).2.1 rfl), h.f9.grown hg (fun e => (hr _ e.symm).2.2 rfl), h.bel.grown hg h.bel.size (fun b e => by have := (hr b e).1; omega)⟩
theorem NewL.aside {T : TypeId} {B d : Nat} {l : List Ex} {j : Nat} {L : Value} {ss : List Er} {W W' : World} {g : Nat} (h : NewL T B d l j L ss W) (hg : W.grownBy W' (some g)) (hge : W.heap.size ≤ g) : NewL T B d l j L ss W' := by
  refine ⟨h.form, h.len, h.row.kept hg ?_, fun i x s hi hx hs => ?_⟩
  · cases hob : L.ownBlock with
    | none => exact .inl rfl
    | some b => exact .inr fun e => by have := (h.row.lt b hob).2; simp only [Option.some.injEq] at e; omega
  · have h1 := (h.at_ i x s hi hx hs).mono (Y := fun b => (B ≤ b ∧ L.ownBlock ≠ some b) ∧ b < W.heap.size) (Nat.le_refl _) (fun b hb hX => ⟨hX, hb⟩)
    exact (h1.grown hg (fun b e hX => by simp only [Option.some.injEq] at e; have := hX.2; omega)).mono (Nat.le_refl _) (fun b _ hX => hX.1)
/-- a number's last bit -/
theorem and_one (x : Int) : bits .and .i64 x 1 = x % 2 := by
  have e : (BitVec.ofInt 64 x &&& BitVec.ofInt 64 1).toNat = (x % 2).toNat := by
    rw [BitVec.toNat_and, BitVec.toNat_ofInt, BitVec.toNat_ofInt, show ((1 : Int) % ((2 ^ 64 : Nat) : Int)).toNat = 1 from by decide, Nat.and_one_is_mod]
    have h64 : ((2 ^ 64 : Nat) : Int) = 18446744073709551616 := by decide
    rw [h64]
    omega
  show IntKind.i64.wrap ((BitVec.ofInt 64 x &&& BitVec.ofInt 64 1).toNat : Int) = _
  rw [e, IntKind.wrap_i64]
  omega
theorem kids_room (ps : List Pt) (hps : ∀ x ∈ ps, PB x) (f a : Nat) (ha : a < ps.length) (n : Nat) : (kids (builtF ps f) n (a + 1)).2 + 2 ≤ n + 3 * min (kids (builtF ps f) n (a + 1)).2 ps.length := by
  have hk : ∀ n, (kids (builtF ps f) n (a + 1)).2 + 3 * min (a + 1) ps.length ≤ a + 1 + n + 3 * min (kids (builtF ps f) n (a + 1)).2 ps.length := by
    intro n
    induction n with
    | zero => simp [kids]
    | succ n ihn =>
      have := builtF_span ps hps f (kids (builtF ps f) n (a + 1)).2
      show (builtF ps f (kids (builtF ps f) n (a + 1)).2).2 + _ ≤ a + 1 + (n + 1) + 3 * min (builtF ps f (kids (builtF ps f) n (a + 1)).2).2 _
      omega
  have := hk n
  omega
end Go.Proofs.Ytjnlimahcodomaa.ex
