/- The key of a row, walked. -/
import Derived.Test.YtmbafcfoboknkaaRowD
import Derived.OwnWalk
namespace Go.Proofs.Ytmbafcfoboknkaa.val
set_option linter.unusedVariables false
open Go.RowKit
/-- the cells of a row -/
def vCells (l : List V) : List Value := l.flatMap fun v => [.int .i64 v.k, .int .i64 v.n, .string v.s]
theorem vCells_cons (v : V) (l : List V) : vCells (v :: l) = .int .i64 v.k :: .int .i64 v.n :: .string v.s :: vCells l := rfl
theorem vCells_at : ∀ (l : List V) (j : Nat) (v : V), l[j]? = some v → (vCells l)[j * 3]? = some (.int .i64 v.k) ∧ (vCells l)[j * 3 + 1]? = some (.int .i64 v.n) ∧ (vCells l)[j * 3 + 2]? = some (.string v.s)
  | [], j, v, h => by simp at h
  | u :: l, 0, v, h => by simp at h; subst h; exact ⟨rfl, rfl, rfl⟩
  | u :: l, j + 1, v, h => by
    have := vCells_at l j v (by simpa using h)
    rw [vCells_cons, show (j + 1) * 3 = j * 3 + 1 + 1 + 1 by omega]
    exact this
/-- a slice that reads as a row -/
abbrev IsRow (w : World) (v : Value) (l : List V) : Prop := Row w v 3 l.length (vCells l)
theorem take_map_snoc {α β : Type} (f : α → β) (l : List α) (k : Nat) (h : k < l.length) : (l.take (k + 1)).map f = (l.take k).map f ++ [f l[k]] := by
  rw [List.take_succ_eq_append_getElem h, List.map_append]; rfl
theorem below_grown {w w' : World} (h : w.grownBy w' none) : Below w.heap.size w w' := ⟨h.os, h.tape, h.output, h.size, fun k hk => h.block k hk (by simp)⟩
set_option maxRecDepth 100000 in
set_option maxHeartbeats 2000000 in
theorem key_any (v : Value) (l : List V) (hg : ∀ x ∈ l, Good x) (hm : l.length ≤ 1000000) (w : World) (hv : IsRow w v l) :
    Calls Try.prog 9 #[v] w fun e w' => e = .returned (.string ⟨(keyB l).toArray⟩) ∧ Below w.heap.size w w' := by
  obtain ⟨i0, hi, hz0, hz1, hz2⟩ := info_parts infoStr
  have HV := Lib.hid hv
  have HG := Lib.hid hg
  obtain ⟨a, cap, rfl, -⟩ := hv
  have hn0 : (0 : Int) ≤ (l.length : Int) := by omega
  have hn1 : (l.length : Int) ≤ 1000000 := by omega
  clear hg
  go_enter Try.func9, Try.ntmps9
  go_wp2_with (at_make; refine wpList_make_own _ rfl _ _ 80 rfl w.heap.size 9 i0 (.string ⟨#[]⟩) 1 Try.underlying80 hi hz0 hz1 .i64 .i64 _ l.length rfl rfl rfl (by rw [hz2]; omega) (by unfold maxLen; omega) (Nat.le_refl _) ?_; intro w0 hown0 hgrow0)
  have hB0 := below_grown hgrow0
  go_loopw [3, 11] (fun sv i wr => ∃ k : Nat, i = .int .i64 (k : Int) ∧ k ≤ l.length ∧ Hid (wr.ownsRow w.heap.size 9 1 sv k (((l.take k).map encS).map Value.string)) ∧ Hid (Below w.heap.size w wr)) (fun _ i _ => l.length - (intOf i).toNat)
  case atStart => exact ⟨0, rfl, by omega, Lib.hid hown0, Lib.hid hB0⟩
  case round =>
    obtain ⟨k, rfl, hk, HO, HB⟩ := hrel
    have hd0 : (0 : Int) ≤ (k : Int) := by omega
    by_cases h1 : k < l.length
    · have d1 : (k : Int) < (l.length : Int) := by omega
      obtain ⟨b, off, cap', ea, hcell⟩ := (HV.out.later HB.out).pos (by omega)
      simp only [Value.slice.injEq] at ea
      obtain ⟨rfl, -, rfl⟩ := ea
      obtain ⟨c0, c1, c2⟩ := vCells_at l k _ (List.getElem?_eq_getElem h1)
      have g0 := (hcell (k * 3) (by omega)).trans c0
      have g1 := (hcell (k * 3 + 1) (by omega)).trans c1
      have g2 := (hcell (k * 3 + 2) (by omega)).trans c2
      rw [← Nat.add_assoc] at g1 g2
      have HGk := Lib.hid (HG.out _ (List.getElem_mem h1))
      have HT := Lib.hid (take_map_snoc encS l k h1)
      generalize l[k] = x at *
      obtain ⟨xk, xn, xs⟩ := x
      dsimp only at g0 g1 g2
      clear hcell c0 c1 c2
      go_wp2_with (first | (go_at_call 29; (with_reducible refine (encode_any _ _ _ HGk.out _).mono ?_); rintro e w1 ⟨rfl, hb1⟩; have hown1 := owns_below (HO.out.alloc _) hb1) | (at_builtin; refine wpList_append_own _ rfl _ _ 80 rfl w.heap.size 9 i0 (.string ⟨#[]⟩) 1 16 Try.underlying80 hi hz0 hz1 hz2 rfl (by decide) _ _ _ rfl (hown1.alloc _) ⟨w1.heap.size, 0, none⟩ 1 1 [.string (encS ⟨xk, xn, xs⟩)] rfl rfl (cell_one_new _ _ _) ?c2 ?c3 ?c4 ?c5 ?_))
      case c2 => intro u hu; simp at hu; subst hu; rfl
      case c3 => unfold maxLen; omega
      case c4 => omega
      case c5 => have := hb1.size; have := HB.out.size; simp at *; omega
      intro v' w2 hown' hgrow _
      have hB2 : Below w.heap.size w w2 := (((HB.out.alloc (by have := HB.out.size; omega) _).trans (hb1.mono (by have := HB.out.size; simp only [World.size_alloc]; omega))).alloc (by have := hb1.size; have := HB.out.size; simp only [World.size_alloc] at *; omega) _).grown hgrow (by have := hb1.size; have := HB.out.size; simp only [World.size_alloc] at *; omega) (fun k hk => (hown1.lt k hk).1)
      have HO2 := Lib.hid hown'
      have HB2 := Lib.hid hB2
      clear hown1 hown' hgrow hb1 hB2
      go_wp2
      go_roundw
      case rel => exact ⟨k + 1, by go_num, by omega, Lib.hid (by rw [HT.out, List.map_append]; simpa using HO2.out), HB2⟩
      case measure => simp [intOf]; omega
    · have d1 : ¬ (k : Int) < (l.length : Int) := by omega
      have hk2 : k = l.length := by omega
      subst hk2
      have HR : Hid (Row wr _ 1 (l.map encS).length ((l.map encS).map Value.string)) := Lib.hid (by have h := Row.of_owns HO.out; rw [List.take_length] at h; rwa [List.length_map])
      have HL := Lib.hid (keyB_len l HG.out)
      go_wp2_with (go_at_call 30; (with_reducible refine (pack_any _ (l.map encS) _ (by rw [List.length_map]; omega) HR.out (by have := HL.out; unfold keyB at this; omega)).mono ?_); rintro e w1 ⟨rfl, hb1⟩)
      go_ret
      exact ⟨rfl, HB.out.trans (hb1.mono HB.out.size)⟩
end Go.Proofs.Ytmbafcfoboknkaa.val
