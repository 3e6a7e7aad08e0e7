/- Cells of a row as plain data: their fields, their values; in memory. -/
import Derived.Test.YtjnlimahcodomaaCheckG
namespace Go.Proofs.Ytjnlimahcodomaa.ck
set_option linter.unusedVariables false
open Go.RowKit
open val (V null doV fitB notV negV ofB ofN ofS gB vv ag3)
open ex (cut cut_size)
/-- a cell as plain data -/
structure Cl where
  t : Int
  nm : Int
  kd : Int
  nul : Bool
  x : Int
  s : ByteArray
def CB (x : Cl) : Prop := (0 ≤ x.t ∧ x.t ≤ 255) ∧ (0 ≤ x.nm ∧ x.nm ≤ 255) ∧ (0 ≤ x.kd ∧ x.kd ≤ 255) ∧ (-9223372036854775808 ≤ x.x ∧ x.x ≤ 9223372036854775807) ∧ x.s.size ≤ maxLen
def cCells (l : List Cl) : List Value := l.flatMap fun x => [.int .u8 x.t, .int .u8 x.nm, .int .u8 x.kd, .bool x.nul, .int .i64 x.x, .string x.s]
theorem cCells_len (l : List Cl) : (cCells l).length = l.length * 6 := by
  induction l with
  | nil => rfl
  | cons a l ih => unfold cCells at ih ⊢; rw [List.flatMap_cons, List.length_append, ih]; simp; omega
theorem cCells_cons (v : Cl) (l : List Cl) : cCells (v :: l) = .int .u8 v.t :: .int .u8 v.nm :: .int .u8 v.kd :: .bool v.nul :: .int .i64 v.x :: .string v.s :: cCells l := rfl
theorem cCells_at : ∀ (l : List Cl) (j : Nat) (v : Cl), l[j]? = some v → (cCells l)[j * 6]? = some (.int .u8 v.t) ∧ (cCells l)[j * 6 + 1]? = some (.int .u8 v.nm) ∧ (cCells l)[j * 6 + 2]? = some (.int .u8 v.kd) ∧ (cCells l)[j * 6 + 3]? = some (.bool v.nul) ∧ (cCells l)[j * 6 + 4]? = some (.int .i64 v.x) ∧ (cCells l)[j * 6 + 5]? = some (.string v.s)
  | [], j, v, h => by simp at h
  | a :: l, 0, v, h => by
    simp at h; subst h
    rw [cCells_cons]; simp
  | a :: l, j + 1, v, h => by
    have := cCells_at l j v (by simpa using h)
    rw [cCells_cons, show (j + 1) * 6 = j * 6 + 6 by omega]
    simpa using this
theorem cl_at {w : World} {a : Option Addr} {cap n : Nat} {l : List Cl} {k : Nat} {x : Cl} (hv : Row w (.slice a n cap) 6 n (cCells l)) (hk : k < n) (hx : l[k]? = some x) :
    ∃ b off, a = some ⟨b, off, none⟩ ∧ ∀ wq, Below w.heap.size w wq → wq.cell? ⟨b, off + k * 6, none⟩ = some (.int .u8 x.t) ∧ wq.cell? ⟨b, off + k * 6 + 1, none⟩ = some (.int .u8 x.nm) ∧ wq.cell? ⟨b, off + k * 6 + 2, none⟩ = some (.int .u8 x.kd) ∧ wq.cell? ⟨b, off + k * 6 + 3, none⟩ = some (.bool x.nul) ∧ wq.cell? ⟨b, off + k * 6 + 4, none⟩ = some (.int .i64 x.x) ∧ wq.cell? ⟨b, off + k * 6 + 5, none⟩ = some (.string x.s) ∧ b < wq.heap.size := by
  obtain ⟨b, off, cap', ea, hcell⟩ := hv.pos (by omega)
  simp only [Value.slice.injEq] at ea
  obtain ⟨rfl, -, rfl⟩ := ea
  refine ⟨b, off, rfl, fun wq hb => ?_⟩
  obtain ⟨c0, c1, c2, c3, c4, c5⟩ := cCells_at l k _ hx
  have g0 := cell_later hb ((hcell (k * 6) (by omega)).trans c0)
  have g1 := cell_later hb ((hcell (k * 6 + 1) (by omega)).trans c1)
  have g2 := cell_later hb ((hcell (k * 6 + 2) (by omega)).trans c2)
  have g3 := cell_later hb ((hcell (k * 6 + 3) (by omega)).trans c3)
  have g4 := cell_later hb ((hcell (k * 6 + 4) (by omega)).trans c4)
  have g5 := cell_later hb ((hcell (k * 6 + 5) (by omega)).trans c5)
  rw [← Nat.add_assoc] at g1 g2 g3 g4 g5
  exact ⟨g0, g1, g2, g3, g4, g5, World.block_lt_of_cell? wq _ g0⟩
def tabC (t : Int) : ByteArray := if t % 2 = 0 then ⟨#[116]⟩ else ⟨#[117]⟩
def nameC (n : Int) : ByteArray := if n % 4 = 0 then ⟨#[97]⟩ else if n % 4 = 1 then ⟨#[98]⟩ else if n % 4 = 2 then ⟨#[99, 49]⟩ else ⟨#[110]⟩
def fldC (x : Cl) : Fd := ⟨tabC x.t, nameC x.nm, 1 + x.kd % 3⟩
def valC (x : Cl) : V :=
  if x.nul = true then null
  else if x.kd % 3 = 0 then ⟨1, x.x % 2, ByteArray.empty⟩ else if x.kd % 3 = 1 then ⟨2, x.x, ByteArray.empty⟩ else ⟨3, 0, cut x.s 64⟩
/-- what the law makes of cells: the fields, the values -/
def fldsC (l : List Cl) : List Fd := (l.take 6).map fldC
def valsC (l : List Cl) : List V := (l.take 6).map valC
theorem valC_has {x : Cl} (h : CB x) : Has (fldC x).k (valC x) := by
  obtain ⟨h1, h2, h3, h4, h5⟩ := h
  unfold valC fldC
  dsimp only
  split
  · exact ⟨good_null, .inl rfl⟩
  · split
    · exact ⟨.inr (.inl ⟨rfl, by dsimp only; omega, rfl⟩), .inr (by dsimp only; omega)⟩
    · split
      · exact ⟨.inr (.inr (.inl ⟨rfl, rfl, h4⟩)), .inr (by dsimp only; omega)⟩
      · exact ⟨.inr (.inr (.inr ⟨rfl, rfl, cut_size x.s 64⟩)), .inr (by dsimp only; omega)⟩
theorem rowC_ok {l : List Cl} (h : ∀ x ∈ l, CB x) : RowOk (fldsC l) (valsC l) := by
  refine ⟨by unfold fldsC valsC; rw [List.length_map, List.length_map], fun i f hf => ?_, fun i f v hf hv => ?_⟩
  · unfold fldsC at hf
    rw [List.getElem?_map] at hf
    cases hx : (l.take 6)[i]? with
    | none => rw [hx] at hf; cases hf
    | some x =>
      rw [hx] at hf
      simp only [Option.map_some, Option.some.injEq] at hf
      subst hf
      have := (h x (List.mem_of_mem_take (List.mem_of_getElem? hx))).2.2.1
      unfold fldC
      dsimp only
      omega
  · unfold fldsC at hf
    unfold valsC at hv
    rw [List.getElem?_map] at hf hv
    cases hx : (l.take 6)[i]? with
    | none => rw [hx] at hf; cases hf
    | some x =>
      rw [hx] at hf hv
      simp only [Option.map_some, Option.some.injEq] at hf hv
      subst hf hv
      exact valC_has (h x (List.mem_of_mem_take (List.mem_of_getElem? hx)))
end Go.Proofs.Ytjnlimahcodomaa.ck
