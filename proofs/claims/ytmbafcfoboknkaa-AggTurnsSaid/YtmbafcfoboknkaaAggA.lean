/- The part of no rows; two aggregates' parts together; walked. -/
import Derived.Test.YtmbafcfoboknkaaAggP
import Derived.Test.YtmbafcfoboknkaaAgT
import Derived.Test.YtmbafcfoboknkaaOwn
import Derived.Test.YtmbafcfoboknkaaSub
import Derived.Test.YtmbafcfoboknkaaValueC
import Derived.OwnWalk
import Derived.BigQuiet
import Derived.StillTailTactics
import Derived.Deep.Cut
import Derived.Deep.CutBlock
namespace Go.Proofs.Ytmbafcfoboknkaa.agr
set_option linter.unusedVariables false
open Go.RowKit val
abbrev TOn : TypeId := 71
abbrev TPt : TypeId := 32
abbrev TGr : TypeId := 34
theorem info_of {P : Program} {e : TypeId} {z : Value} {s b : Nat} (h : (P.info? e).map (fun i => (i.zero, i.size, i.bytes)) = some (some z, s, b)) : ∃ i, P.info? e = some i ∧ i.zero = some z ∧ i.size = s ∧ i.bytes = b := by
  cases hi : P.info? e with
  | none => rw [hi] at h; cases h
  | some i =>
    rw [hi] at h
    simp only [Option.map_some, Option.some.injEq, Prod.mk.injEq] at h
    exact ⟨i, rfl, h.1, h.2.1, h.2.2⟩
theorem infoO : (Try.prog.info? TOn).map (fun i => (i.zero, i.size, i.bytes)) = some (some (.agg #[.int .i64 0, .int .i64 0, .int .u64 0, .int .i64 0, .int .i64 0, .string ⟨#[]⟩, .int .i64 0, .int .i64 0, .string ⟨#[]⟩]), 9, 88) := by kernel_rfl
theorem grown_two' {a b c : World} {row : Option Nat} (h : a.grownBy b row) (h' : b.grownBy c row) : a.grownBy c row :=
  ⟨h'.os.trans h.os, h'.tape.trans h.tape, h'.output.trans h.output, Nat.le_trans h.size h'.size, fun k hk hn => (h'.block k (Nat.lt_of_lt_of_le hk h.size) hn).trans (h.block k hk hn)⟩
/-- two cells are written in a box -/
theorem box2 {W : World} {g : Nat} {T : TypeId} {p q x y : Value} (h : Flds W g T [p, q]) : Flds ((W.setCell ⟨g, 0, none⟩ x).setCell ⟨g, 1, none⟩ y) g T [x, y] ∧ W.grownBy ((W.setCell ⟨g, 0, none⟩ x).setCell ⟨g, 1, none⟩ y) (some g) :=
  ⟨(h.set 0 x).set 1 y, grown_two' (grown_setCell _ ⟨g, 0, none⟩ _) (grown_setCell _ ⟨g, 1, none⟩ _)⟩
/-- a new box -/
def PV (B : Nat) (T : TypeId) (fs : List Value) : Value → World → Prop := fun v W => ∃ g, v = .pointer (some ⟨g, 0, none⟩) ∧ B ≤ g ∧ Flds W g T fs
theorem PV.lasts {B : Nat} {T : TypeId} {fs : List Value} {v : Value} {W W' : World} (h : PV B T fs v W) (hb : Below W.heap.size W W') : PV B T fs v W' := by
  obtain ⟨g, e, h1, h2⟩ := h
  exact ⟨g, e, h1, h2.later hb⟩
theorem PV.new {B : Nat} {T : TypeId} (W : World) (fs : List Value) (hB : B ≤ W.heap.size) : PV B T fs (.pointer (some ⟨W.heap.size, 0, none⟩)) (W.alloc (.cells fs.toArray T)) := ⟨_, rfl, hB, Flds.new W T fs⟩
theorem run_max_keep {P : Program} (ts : Array TypeId) (t : TypeId) (k k' : IntKind) (x y : Int) (w : World) : (Builtin.max_ ts t #[.int k x, .int k' y]).run P w = .ok (.int k (max x y)) w := by
  rw [run_max_int2]
  congr 2
  split <;> omega
def zeroV : Value := .agg #[.int .i64 0, .int .i64 0, .int .u64 0, .int .i64 0, .int .i64 0, .string ⟨#[]⟩, .int .i64 0, .int .i64 0, .string ⟨#[]⟩]
theorem zero_cell (r : Nat) (hr : r < 9) : (oCell zero)[r]? = some (zeroV.cells[r]!) := by
  have hz : wide.hiW 0 = 0 := by simp [wide.hiW, wrap64]
  rcases (by omega : r = 0 ∨ r = 1 ∨ r = 2 ∨ r = 3 ∨ r = 4 ∨ r = 5 ∨ r = 6 ∨ r = 7 ∨ r = 8) with rfl | rfl | rfl | rfl | rfl | rfl | rfl | rfl | rfl
  case inr.inl => show some (Value.int .i64 (wide.hiW 0)) = _; rw [hz]; rfl
  all_goals rfl
theorem made_zero (m : Nat) : (madeCells zeroV.cells (m * 9)).toList = oCells (List.replicate m zero) := by
  apply List.ext_getElem?
  intro i
  by_cases hi : i < m * 9
  · obtain ⟨j, r, rfl, hr⟩ : ∃ j r, i = j * 9 + r ∧ r < 9 := ⟨i / 9, i % 9, by omega, by omega⟩
    have hj : j < m := by omega
    rw [oCells_at _ j zero (by simp [hj]) r hr, zero_cell r hr]
    have hs : zeroV.cells.size = 9 := rfl
    unfold madeCells
    rw [hs]
    simp [hi, show (j * 9 + r) % 9 = r by omega]
  · rw [List.getElem?_eq_none (by simp [madeCells]; omega), List.getElem?_eq_none (by rw [oCells_len]; simp; omega)]
theorem made_zero' (m : Nat) : (madeCells (Value.agg #[.int .i64 0, .int .i64 0, .int .u64 0, .int .i64 0, .int .i64 0, .string ⟨#[]⟩, .int .i64 0, .int .i64 0, .string ⟨#[]⟩]).cells (m * 9)).toList = oCells (List.replicate m zero) := made_zero m
def NonePost (m : Nat) (w : World) (e : Ending) (w' : World) : Prop := ∃ g, e = .returned (.agg #[.int .i64 0, .slice (some ⟨g, 0, none⟩) m m]) ∧ w'.ownsRow w.heap.size TOn 9 (.slice (some ⟨g, 0, none⟩) m m) m (oCells (List.replicate m zero)) ∧ Below w.heap.size w w'
attribute [local go_sem high] run_max_keep
set_option maxRecDepth 100000 in
set_option maxHeartbeats 2000000 in
theorem none_any (m : Nat) (hm : m ≤ 1000000) (w : World) : Calls Try.prog 15 #[.int .i64 (m : Int)] w (NonePost m w) := by
  obtain ⟨i0, hi, hz0, hz1, hz2⟩ := info_of infoO
  obtain ⟨W1, hW1⟩ : ∃ W, w.alloc (.cells #[.int .i64 0, .slice none 0 0] TPt) = W := ⟨_, rfl⟩
  obtain ⟨g1, hg1⟩ : ∃ g, w.heap.size = g := ⟨_, rfl⟩
  have hb1 : Below w.heap.size w W1 := by rw [← hW1]; exact (Below.refl _ _).alloc (Nat.le_refl _) _
  have hf1 : Flds W1 g1 TPt [.int .i64 0, .slice none 0 0] := by rw [← hW1, ← hg1]; exact Flds.new w _ _
  have HF := Lib.hid hf1
  have HB1 := Lib.hid hb1
  have m0 : (0 : Int) ≤ (m : Int) := by omega
  have m1 : (m : Int) ≤ 1000000 := by omega
  have HM := Lib.hid (show max (m : Int) 0 = (m : Int) by omega)
  clear hf1 hb1
  go_enter Try.func15, Try.ntmps15
  go_upto_region 1 with fail
  try rw [hW1, hg1]
  clear hW1
  go_wp2_with (at_make; go_loud (refine wpList_make_full _ rfl _ _ 30 rfl w.heap.size TOn i0 _ 9 Try.underlying30 hi hz0 hz1 .i64 .i64 _ _ m rfl rfl (by first | rfl | exact HM.out) (by first | rfl | exact HM.out) (by rw [hz2]; omega) (by unfold maxLen; omega) HB1.out.size ?_); intro w4 hown4 hgrow4; have HB4 := Lib.hid (show Below W1.heap.size W1 w4 from ⟨hgrow4.os, hgrow4.tape, hgrow4.output, hgrow4.size, fun k hk => hgrow4.block k hk (by simp)⟩); have HO4 := Lib.hid hown4; clear hown4 hgrow4; have z0 := (HF.out.later HB4.out).cell 0; have z1 := (HF.out.later HB4.out).cell 1; have zl := (HF.out.later HB4.out).lt; have y0 := (HF.out.later HB4.out).frozen 0; have y1 := (HF.out.later HB4.out).frozen 1; simp only [List.getElem?_cons_zero, List.getElem?_cons_succ] at z0 z1)
  obtain ⟨hf5, hg5⟩ := box2 (x := .int .i64 0) (y := .slice (some ⟨W1.heap.size, 0, none⟩) m m) (HF.out.later HB4.out)
  obtain ⟨W5, hW5⟩ : ∃ W, (w4.setCell ⟨g1, 0, none⟩ (.int .i64 0)).setCell ⟨g1, 1, none⟩ (.slice (some ⟨W1.heap.size, 0, none⟩) m m) = W := ⟨_, rfl⟩
  rw [hW5] at hf5 hg5 ⊢
  have c0 := hf5.cell 0; have c1 := hf5.cell 1; have cl := hf5.lt
  simp only [List.getElem?_cons_zero, List.getElem?_cons_succ] at c0 c1
  refine bodyPost_ret (v := .agg #[.int .i64 0, .slice (some ⟨W1.heap.size, 0, none⟩) m m]) ?_ (by rfl) ?_
  · simp only [results, Try.results15]
    go_simp
  · have ho := HO4.out.kept hg5 (.inr (by show some W1.heap.size ≠ some g1; have := HF.out.lt; intro e; cases e; omega))
    rw [made_zero'] at ho
    exact ⟨_, rfl, ho, (HB1.out.trans (HB4.out.mono HB1.out.size)).grown hg5 (Nat.le_trans HB1.out.size HB4.out.size) (fun j e => by cases e; omega)⟩
end Go.Proofs.Ytmbafcfoboknkaa.agr
