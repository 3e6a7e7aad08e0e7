/- The document's catalog in memory: its tables, its views; one by its name; walked. -/
import Derived.Test.YthhcjmikkiiahaaCatJ
import Derived.Deep.Cut
namespace Go.Proofs.Ythhcjmikkiiahaa.cat
set_option linter.unusedVariables false
open Go.RowKit Go.WideShapes Go.MapKept
abbrev TRc : TypeId := 29
abbrev TRt : TypeId := 44
abbrev TRv : TypeId := 41
/-- a view as the document's catalog holds it -/
structure RV where
  nm : ByteArray
  a : Option Addr
  n : Nat
  c : Nat
def tCells (l : List TE) : List Value := l.flatMap fun x => [.string x.nm, .slice x.a x.n x.c, .int .i64 x.k]
def vCells (l : List RV) : List Value := l.flatMap fun x => [.string x.nm, .slice x.a x.n x.c]
theorem tCells_cons (x : TE) (l : List TE) : tCells (x :: l) = [.string x.nm, .slice x.a x.n x.c, .int .i64 x.k] ++ tCells l := by unfold tCells; rw [List.flatMap_cons]
theorem vCells_cons (x : RV) (l : List RV) : vCells (x :: l) = [.string x.nm, .slice x.a x.n x.c] ++ vCells l := by unfold vCells; rw [List.flatMap_cons]
theorem tCells_len (l : List TE) : (tCells l).length = l.length * 3 := by
  induction l with
  | nil => rfl
  | cons x l ih => rw [tCells_cons, List.length_append, ih, List.length_cons]; simp; omega
theorem vCells_len (l : List RV) : (vCells l).length = l.length * 2 := by
  induction l with
  | nil => rfl
  | cons x l ih => rw [vCells_cons, List.length_append, ih, List.length_cons]; simp; omega
theorem tCells_at : ∀ (l : List TE) (j : Nat) (v : TE), l[j]? = some v → (tCells l)[j * 3]? = some (.string v.nm) ∧ (tCells l)[j * 3 + 1]? = some (.slice v.a v.n v.c) ∧ (tCells l)[j * 3 + 2]? = some (.int .i64 v.k)
  | [], j, v, h => by simp at h
  | a :: l, 0, v, h => by
    simp at h; subst h
    rw [tCells_cons]; simp
  | a :: l, j + 1, v, h => by
    have := tCells_at l j v (by simpa using h)
    rw [tCells_cons, show (j + 1) * 3 = j * 3 + 3 by omega]
    simpa using this
theorem vCells_at : ∀ (l : List RV) (j : Nat) (v : RV), l[j]? = some v → (vCells l)[j * 2]? = some (.string v.nm) ∧ (vCells l)[j * 2 + 1]? = some (.slice v.a v.n v.c)
  | [], j, v, h => by simp at h
  | a :: l, 0, v, h => by
    simp at h; subst h
    rw [vCells_cons]; simp
  | a :: l, j + 1, v, h => by
    have := vCells_at l j v (by simpa using h)
    rw [vCells_cons, show (j + 1) * 2 = j * 2 + 2 by omega]
    simpa using this
theorem te_at {w : World} {a : Option Addr} {cap n : Nat} {l : List TE} {k : Nat} {x : TE} (hv : Row w (.slice a n cap) 3 n (tCells l)) (hk : k < n) (hx : l[k]? = some x) :
    ∃ b off, a = some ⟨b, off, none⟩ ∧ ∀ wq, Below w.heap.size w wq → wq.cell? ⟨b, off + k * 3, none⟩ = some (.string x.nm) ∧ wq.cell? ⟨b, off + k * 3 + 1, none⟩ = some (.slice x.a x.n x.c) ∧ wq.cell? ⟨b, off + k * 3 + 2, none⟩ = some (.int .i64 x.k) ∧ b < wq.heap.size := by
  obtain ⟨b, off, cap', ea, hcell⟩ := hv.pos (by omega)
  simp only [Value.slice.injEq] at ea
  obtain ⟨rfl, -, rfl⟩ := ea
  obtain ⟨c0, c1, c2⟩ := tCells_at l k _ hx
  refine ⟨b, off, rfl, fun wq hb => ?_⟩
  have g0 := cell_later hb ((hcell (k * 3) (by omega)).trans c0)
  have g1 := cell_later hb ((hcell (k * 3 + 1) (by omega)).trans c1)
  have g2 := cell_later hb ((hcell (k * 3 + 2) (by omega)).trans c2)
  refine ⟨g0, by rw [Nat.add_assoc]; exact g1, by rw [Nat.add_assoc]; exact g2, ?_⟩
  exact World.block_lt_of_cell? _ _ g0
theorem rv_at {w : World} {a : Option Addr} {cap n : Nat} {l : List RV} {k : Nat} {x : RV} (hv : Row w (.slice a n cap) 2 n (vCells l)) (hk : k < n) (hx : l[k]? = some x) :
    ∃ b off, a = some ⟨b, off, none⟩ ∧ ∀ wq, Below w.heap.size w wq → wq.cell? ⟨b, off + k * 2, none⟩ = some (.string x.nm) ∧ wq.cell? ⟨b, off + k * 2 + 1, none⟩ = some (.slice x.a x.n x.c) ∧ b < wq.heap.size := by
  obtain ⟨b, off, cap', ea, hcell⟩ := hv.pos (by omega)
  simp only [Value.slice.injEq] at ea
  obtain ⟨rfl, -, rfl⟩ := ea
  obtain ⟨c0, c1⟩ := vCells_at l k _ hx
  refine ⟨b, off, rfl, fun wq hb => ?_⟩
  have g0 := cell_later hb ((hcell (k * 2) (by omega)).trans c0)
  have g1 := cell_later hb ((hcell (k * 2 + 1) (by omega)).trans c1)
  refine ⟨g0, by rw [Nat.add_assoc]; exact g1, ?_⟩
  exact World.block_lt_of_cell? _ _ g0
/-- the place of a name, or -1 -/
def PlaceOf (ns : List ByteArray) (k : ByteArray) (i : Int) : Prop := (∃ j : Nat, i = (j : Int) ∧ ns[j]? = some k ∧ ∀ q : Nat, q < j → ns[q]? ≠ some k) ∨ (i = -1 ∧ k ∉ ns)
def FindPost (ns : List ByteArray) (k : ByteArray) (w : World) (en : Ending) (w' : World) : Prop := ∃ i : Int, en = .returned (.int .i64 i) ∧ PlaceOf ns k i ∧ Below w.heap.size w w'
set_option maxRecDepth 100000 in
set_option maxHeartbeats 2000000 in
theorem find_any (at_ av : Option Addr) (nt ct nv cv : Nat) (l : List TE) (hn : l.length = nt) (hn1 : nt ≤ 1000000) (k : ByteArray) (w : World) (hr : Row w (.slice at_ nt ct) 3 nt (tCells l)) :
    Calls Try.prog 34 #[.agg #[.slice at_ nt ct, .slice av nv cv], .string k] w (FindPost (l.map (·.nm)) k w) := by
  obtain ⟨W1, hW1⟩ : ∃ W, w.alloc (.cells #[.slice at_ nt ct, .slice av nv cv] TRc) = W := ⟨_, rfl⟩
  obtain ⟨g1, hg1⟩ : ∃ g, w.heap.size = g := ⟨_, rfl⟩
  have hb1 : Below w.heap.size w W1 := by rw [← hW1]; exact (Below.refl _ _).alloc (Nat.le_refl _) _
  have hf1 : Flds W1 g1 TRc [.slice at_ nt ct, .slice av nv cv] := by rw [← hW1, ← hg1]; exact Flds.new w _ _
  have HF := Lib.hid (fun (W : World) (hb : Below W1.heap.size W1 W) => And.intro ((hf1.later hb).cell 0) (And.intro ((hf1.later hb).cell 1) (hf1.later hb).lt))
  simp only [List.getElem?_cons_zero, List.getElem?_cons_succ] at HF
  have HR := Lib.hid (hr.later hb1)
  have HN := Lib.hid hn
  have HB1 := Lib.hid hb1
  have n0 : (0 : Int) ≤ (nt : Int) := by omega
  have n1 : (nt : Int) ≤ 1000000 := by omega
  clear hr hn hb1 hf1
  go_enter Try.func34, Try.ntmps34
  go_upto_region 1 with fail
  try rw [hW1, hg1]
  clear hW1 hg1
  go_wp2_with fail
  go_loopw [5] (fun iv wr => ∃ j : Nat, iv = .int .i64 (j : Int) ∧ j ≤ nt ∧ Hid (Below W1.heap.size W1 wr) ∧ Hid (∀ q x, q < j → l[q]? = some x → x.nm ≠ k)) (fun iv _ => nt - (intOf iv).toNat)
  case atStart => exact ⟨0, rfl, Nat.zero_le _, Lib.hid (Below.refl _ _), Lib.hid (fun q x hq => by omega)⟩
  case round =>
    obtain ⟨j, rfl, hj, HB, HNO⟩ := hrel
    have j0 : (0 : Int) ≤ (j : Int) := by omega
    obtain ⟨y0, y1, yl⟩ := HF.out wr HB.out
    by_cases hjn : j < nt
    · have dj : (j : Int) < (nt : Int) := by omega
      have hju : j < l.length := by rw [HN.out]; exact hjn
      have hx := List.getElem?_eq_getElem hju
      generalize l[j] = x at hx
      obtain ⟨b, off, rfl, hc⟩ := te_at HR.out hjn hx
      obtain ⟨c0, c1, c2, cl⟩ := hc wr HB.out
      have HX := Lib.hid hx
      clear hc hx
      by_cases hxk : x.nm = k
      · have hb : (x.nm.toList == k.toList) = true := by rw [hxk]; simp
        have HK := Lib.hid hxk
        clear hxk
        obtain ⟨xn, xa, xl, xc, xk⟩ := x
        dsimp only at c0 c1 hb
        go_wp2_with fail
        go_ret
        exact ⟨(j : Int), rfl, .inl ⟨j, rfl, by rw [List.getElem?_map, HX.out]; exact congrArg some HK.out, fun q hq e => by
          rw [List.getElem?_map] at e
          cases h : l[q]? with
          | none => rw [h] at e; cases e
          | some y => rw [h] at e; exact HNO.out q y hq h (Option.some.inj e)⟩, HB1.out.trans (HB.out.mono HB1.out.size)⟩
      · have hb := eq_bytes hxk
        have HK := Lib.hid hxk
        clear hxk
        obtain ⟨xn, xa, xl, xc, xk⟩ := x
        dsimp only at c0 c1 hb
        go_wp2_with fail
        go_roundw
        case rel => exact ⟨j + 1, by go_num, by omega, HB, Lib.hid (fun q y hq hy => by
          rcases (by omega : q < j ∨ q = j) with h | rfl
          · exact HNO.out q y h hy
          · rw [HX.out] at hy; cases hy; exact HK.out)⟩
        case measure => simp [intOf]; omega
    · have dj : ¬ (j : Int) < (nt : Int) := by omega
      have HJ := Lib.hid hjn
      clear hjn
      go_wp2_with fail
      go_ret
      refine ⟨-1, rfl, .inr ⟨rfl, fun hm => ?_⟩, HB1.out.trans (HB.out.mono HB1.out.size)⟩
      obtain ⟨x, hx, e⟩ := List.mem_map.1 hm
      obtain ⟨q, hq⟩ := List.getElem?_of_mem hx
      have hlt := (List.getElem?_eq_some_iff.1 hq).1
      exact HNO.out q x (by have := HN.out; have := HJ.out; omega) hq e
set_option maxRecDepth 100000 in
set_option maxHeartbeats 2000000 in
theorem findV_any (at_ av : Option Addr) (nt ct nv cv : Nat) (l : List RV) (hn : l.length = nv) (hn1 : nv ≤ 1000000) (k : ByteArray) (w : World) (hr : Row w (.slice av nv cv) 2 nv (vCells l)) :
    Calls Try.prog 38 #[.agg #[.slice at_ nt ct, .slice av nv cv], .string k] w (FindPost (l.map (·.nm)) k w) := by
  obtain ⟨W1, hW1⟩ : ∃ W, w.alloc (.cells #[.slice at_ nt ct, .slice av nv cv] TRc) = W := ⟨_, rfl⟩
  obtain ⟨g1, hg1⟩ : ∃ g, w.heap.size = g := ⟨_, rfl⟩
  have hb1 : Below w.heap.size w W1 := by rw [← hW1]; exact (Below.refl _ _).alloc (Nat.le_refl _) _
  have hf1 : Flds W1 g1 TRc [.slice at_ nt ct, .slice av nv cv] := by rw [← hW1, ← hg1]; exact Flds.new w _ _
  have HF := Lib.hid (fun (W : World) (hb : Below W1.heap.size W1 W) => And.intro ((hf1.later hb).cell 0) (And.intro ((hf1.later hb).cell 1) (hf1.later hb).lt))
  simp only [List.getElem?_cons_zero, List.getElem?_cons_succ] at HF
  have HR := Lib.hid (hr.later hb1)
  have HN := Lib.hid hn
  have HB1 := Lib.hid hb1
  have n0 : (0 : Int) ≤ (nv : Int) := by omega
  have n1 : (nv : Int) ≤ 1000000 := by omega
  clear hr hn hb1 hf1
  go_enter Try.func38, Try.ntmps38
  go_upto_region 1 with fail
  try rw [hW1, hg1]
  clear hW1 hg1
  go_wp2_with fail
  go_loopw [5] (fun iv wr => ∃ j : Nat, iv = .int .i64 (j : Int) ∧ j ≤ nv ∧ Hid (Below W1.heap.size W1 wr) ∧ Hid (∀ q x, q < j → l[q]? = some x → x.nm ≠ k)) (fun iv _ => nv - (intOf iv).toNat)
  case atStart => exact ⟨0, rfl, Nat.zero_le _, Lib.hid (Below.refl _ _), Lib.hid (fun q x hq => by omega)⟩
  case round =>
    obtain ⟨j, rfl, hj, HB, HNO⟩ := hrel
    have j0 : (0 : Int) ≤ (j : Int) := by omega
    obtain ⟨y0, y1, yl⟩ := HF.out wr HB.out
    by_cases hjn : j < nv
    · have dj : (j : Int) < (nv : Int) := by omega
      have hju : j < l.length := by rw [HN.out]; exact hjn
      have hx := List.getElem?_eq_getElem hju
      generalize l[j] = x at hx
      obtain ⟨b, off, rfl, hc⟩ := rv_at HR.out hjn hx
      obtain ⟨c0, c1, cl⟩ := hc wr HB.out
      have HX := Lib.hid hx
      clear hc hx
      by_cases hxk : x.nm = k
      · have hb : (x.nm.toList == k.toList) = true := by rw [hxk]; simp
        have HK := Lib.hid hxk
        clear hxk
        obtain ⟨xn, xa, xl, xc⟩ := x
        dsimp only at c0 c1 hb
        go_wp2_with fail
        go_ret
        exact ⟨(j : Int), rfl, .inl ⟨j, rfl, by rw [List.getElem?_map, HX.out]; exact congrArg some HK.out, fun q hq e => by
          rw [List.getElem?_map] at e
          cases h : l[q]? with
          | none => rw [h] at e; cases e
          | some y => rw [h] at e; exact HNO.out q y hq h (Option.some.inj e)⟩, HB1.out.trans (HB.out.mono HB1.out.size)⟩
      · have hb := eq_bytes hxk
        have HK := Lib.hid hxk
        clear hxk
        obtain ⟨xn, xa, xl, xc⟩ := x
        dsimp only at c0 c1 hb
        go_wp2_with fail
        go_roundw
        case rel => exact ⟨j + 1, by go_num, by omega, HB, Lib.hid (fun q y hq hy => by
          rcases (by omega : q < j ∨ q = j) with h | rfl
          · exact HNO.out q y h hy
          · rw [HX.out] at hy; cases hy; exact HK.out)⟩
        case measure => simp [intOf]; omega
    · have dj : ¬ (j : Int) < (nv : Int) := by omega
      have HJ := Lib.hid hjn
      clear hjn
      go_wp2_with fail
      go_ret
      refine ⟨-1, rfl, .inr ⟨rfl, fun hm => ?_⟩, HB1.out.trans (HB.out.mono HB1.out.size)⟩
      obtain ⟨x, hx, e⟩ := List.mem_map.1 hm
      obtain ⟨q, hq⟩ := List.getElem?_of_mem hx
      have hlt := (List.getElem?_eq_some_iff.1 hq).1
      exact HNO.out q x (by have := HN.out; have := HJ.out; omega) hq e
end Go.Proofs.Ythhcjmikkiiahaa.cat
