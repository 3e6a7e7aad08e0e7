/- The reference's arena: Set, Free and Alloc, where there is something to do. -/
import Derived.Test.YtbaepjjanjhliaaRef01Set
import Derived.Test.YtbaepjjanjhliaaOwn
import Derived.Deep.RegionHeld3
import Derived.Deep.DrawnRows
import Derived.Outline
namespace Go.Proofs.Ytbaepjjanjhliaa.ref01
set_option linter.unusedVariables false
open Go.RowKit
attribute [local go_sem ↓] Go.wp_at_zero Go.wp_at_succ
attribute [local go_sem] ag.upon_value ag.upon_skip ag.upon_enter

abbrev TR : TypeId := 29
theorem infoBool : (Try.prog.info? 4).map (fun i => (i.zero, i.size, i.bytes)) = some (some (.bool false), 1, 1) := by kernel_rfl

/-- a slice that lies in a block made since -/
def New (w : World) (_ a' : Option Addr) : Prop := ∀ x, a' = some x → w.heap.size ≤ x.block
theorem New.fresh {w : World} {a : Option Addr} {g o : Nat} (h : w.heap.size ≤ g) : New w a (some ⟨g, o, none⟩) := fun x e => by cases e; exact h

theorem one_int (l : List Int) : ∀ u ∈ l.map (Value.int .i64), u.oneCell' = true := by
  intro u hu; obtain ⟨x, -, rfl⟩ := List.mem_map.1 hu; rfl
theorem one_bool (l : List Bool) : ∀ u ∈ l.map Value.bool, u.oneCell' = true := by
  intro u hu; obtain ⟨x, -, rfl⟩ := List.mem_map.1 hu; rfl

theorem row_set {w : World} {g n k : Nat} {xs : List Value} (hc : ∀ j, j < n * 1 → w.cell? ⟨g, j, none⟩ = xs[j]?) (hl : xs.length = n) (hk : k < n) (u : Value) : ∀ j, j < n * 1 → (w.setCell ⟨g, k, none⟩ u).cell? ⟨g, j, none⟩ = (xs.set k u)[j]? := by
  intro j hj
  by_cases e : k = j
  · subst e
    have h := hc k hj
    rw [List.getElem?_eq_getElem (by omega)] at h
    rw [World.cell?_setCell_same _ _ _ h, List.getElem?_set_self (by omega)]
  · rw [World.cell?_setCell_other _ _ _ _ (by intro h; cases h; exact e rfl), hc j hj, List.getElem?_set_ne e]
theorem far_set {w : World} {p : Addr} {u : Value} {g n : Nat} {xs : List Value} (hc : ∀ j, j < n * 1 → w.cell? ⟨g, j, none⟩ = xs[j]?) (hne : p.block ≠ g) : ∀ j, j < n * 1 → (w.setCell p u).cell? ⟨g, j, none⟩ = xs[j]? :=
  fun j hj => (World.cell?_setCell_other _ _ _ _ (by intro h; subst h; exact hne rfl)).trans (hc j hj)
theorem row_of_cells {w : World} {g n c : Nat} {xs : List Value} (hl : xs.length = n) (hc : ∀ j, j < n * 1 → w.cell? ⟨g, j, none⟩ = xs[j]?) : Row w (.slice (some ⟨g, 0, none⟩) n c) 1 n xs :=
  ⟨_, _, rfl, by omega, .inr ⟨g, 0, rfl, fun j hj => by rw [Nat.zero_add]; exact hc j hj⟩⟩

set_option maxRecDepth 100000 in
set_option maxHeartbeats 800000 in
theorem set_yes (room : Int) (aT : Option Addr) (ts : List Int) (cT : Nat) (aU : Option Addr) (us : List Bool) (cU : Nat) (aF : Option Addr) (nF cF : Nat) (w : World)
    (hT : Row w (.slice aT us.length cT) 1 us.length (ts.map (Value.int .i64)))
    (hr : Row w (.slice aU us.length cU) 1 us.length (us.map Value.bool)) (hm : us.length ≤ 1048576) (k : Nat) (hk : k < us.length) (x : Int) (hb : has us k = true) :
    Calls Try.prog 15 #[st room aT us.length cT aU us.length cU aF nF cF, .int .i64 k, .int .i64 x] w fun e w' =>
      (∃ aT' cT', e = .returned (.tuple #[st room aT' us.length cT' aU us.length cU aF nF cF, .bool true]) ∧ Row w' (.slice aT' us.length cT') 1 us.length ((ts.set k x).map (Value.int .i64)) ∧ New w aT aT') ∧ Below w.heap.size w w' := by
  obtain ⟨i0, hi, hz0, hz1, hz2⟩ := info_parts infoInt
  have hH := fun W (hB : Below w.heap.size w W) => has_any room aT us.length cT aU us cU aF nF cF W (hr.later hB) hm k
  rw [hb] at hH
  have HH := Lib.hid hH; have HT := Lib.hid hT
  have hd0 : (0 : Int) ≤ (k : Int) := by omega
  have hd1 : (k : Int) < (us.length : Int) := by omega
  have h63 : 0 + us.length ≤ maxLen := by unfold maxLen; omega
  have h64 : (0 + us.length) * 8 ≤ 140737488355328 := by omega
  clear hH hT hr
  go_enter Try.func15, Try.ntmps15
  go_wp2_with (first
    | (go_at_call 14; refine (HH.out _ (((Below.refl _ _).alloc (Nat.le_refl _) _).alloc (by simp) _)).mono ?_; rintro e w1 ⟨rfl, hb1⟩; obtain ⟨B1, B2⟩ := boxes _ _ _ _ _ _ _ _ _ hb1; have c0 := B1.cell 0; have c1 := B1.cell 1; have c2 := B1.cell 2; have c3 := B1.cell 3; have z0 := B2.cell 0; have z1 := B2.cell 1; have z2 := B2.cell 2; have z3 := B2.cell 3; have y0 := B2.frozen 0; have y1 := B2.frozen 1; have y2 := B2.frozen 2; have y3 := B2.frozen 3; have x1 := B1.frozen 1; have hz := B2.lt; have hzz := B1.lt; simp only [List.getElem?_cons_zero, List.getElem?_cons_succ] at c0 c1 c2 c3 z0 z1 z2 z3; have HB2 := Lib.hid B2; have HB1 := Lib.hid hb1; clear B1 B2 hb1)
    | (at_builtin; go_loud (refine wpList_append_row _ rfl (.tmp 14) (.tmp 16) 26 (by rfl) w1.heap.size 3 i0 (.int .i64 0) 1 8 Try.underlying26 hi hz0 hz1 hz2 rfl (by decide) (.slice (some ⟨w1.heap.size, 0, none⟩) 0 0) 0 [] (by rfl) (owns_of_flds (m := 0) (Flds.new w1 3 []) rfl (Nat.le_refl _) (by decide)) (.slice aT us.length cT) us.length (ts.map (Value.int .i64)) (by rfl) ?crow (one_int ts) h63 h64 ?cbase ?_)))
  case crow => exact HT.out.later (((Below.refl _ w).alloc (Nat.le_refl _) _).alloc (by simp) _ |>.trans (HB1.out.mono (by simp; omega)) |>.alloc (by omega) _)
  case cbase => simp
  intro a' cap' w2 hap
  have hb2 : Below w1.heap.size w1 w2 := ((Below.refl _ w1).alloc (Nat.le_refl _) _).trans ((hap.full (fun a c e => by cases e; exact Nat.le_refl _)).mono (by simp))
  obtain ⟨g, rfl, hg1, hg2, hgc, hgf⟩ := owns_cellAt (show w2.ownsRow w1.heap.size 3 1 (.slice a' us.length cap') us.length (ts.map (Value.int .i64)) by simpa using hap.own) (by omega)
  have hlts : ts.length = us.length := by have := HT.out.len; simpa using this
  have gk := (hgc k (by omega)).trans (show (ts.map (Value.int .i64))[k]? = some (.int .i64 ts[k]) by rw [List.getElem?_map, List.getElem?_eq_getElem (by omega)]; rfl)
  have gf := hgf k
  have c0' := cell_later hb2 c0; have c1' := cell_later hb2 c1; have c2' := cell_later hb2 c2; have c3' := cell_later hb2 c3
  have z0' := cell_later hb2 z0; have z1' := cell_later hb2 z1; have z2' := cell_later hb2 z2; have z3' := cell_later hb2 z3
  have y0' := (hb2.frozen (p := ⟨w.heap.size + 1, 0, none⟩) hz).trans y0
  have y1' := (hb2.frozen (p := ⟨w.heap.size + 1, 1, none⟩) hz).trans y1
  have y2' := (hb2.frozen (p := ⟨w.heap.size + 1, 2, none⟩) hz).trans y2
  have y3' := (hb2.frozen (p := ⟨w.heap.size + 1, 3, none⟩) hz).trans y3
  have x1' := (hb2.frozen (p := ⟨w.heap.size, 1, none⟩) hzz).trans x1
  have HB2' := Lib.hid hb2; have HGC := Lib.hid hgc; have HAP := Lib.hid hap
  have hne1 : w.heap.size ≠ g := by omega
  have hne2 : w.heap.size + 1 ≠ g := by omega
  clear hb2 hgc hgf hap c0 c1 c2 c3 z0 z1 z2 z3 y0 y1 y2 y3 x1
  go_wp2
  have hB1 : Below w.heap.size w w1 := (((Below.refl _ w).alloc (Nat.le_refl _) _).alloc (by simp) _).trans (HB1.out.mono (by simp; omega))
  have hB2 : Below w.heap.size w w2 := hB1.trans (HB2'.out.mono hB1.size)
  refine bodyPost_ret (v := .tuple #[st room (some ⟨g, 0, none⟩) us.length cap' aU us.length cU aF nF cF, .bool true]) (by simp [results, Try.results15, go_sem, z0', z1', z2', z3']) rfl ⟨⟨_, _, rfl, ?_, New.fresh (by omega)⟩, ?_⟩
  · have h := row_set HGC.out (by simp [hlts]) hk (.int .i64 x)
    rw [← List.map_set] at h
    exact row_of_cells (by simp [hlts]) (far_set (far_set (far_set (far_set (far_set h hne1) hne2) hne2) hne2) hne2)
  · exact (((((hB2.setCell (p := ⟨g, k, none⟩) (by simp; omega) _).setCell (p := ⟨w.heap.size, 1, none⟩) (by simp) _).setCell (p := ⟨w.heap.size + 1, 0, none⟩) (by simp) _).setCell (p := ⟨w.heap.size + 1, 1, none⟩) (by simp) _).setCell (p := ⟨w.heap.size + 1, 2, none⟩) (by simp) _).setCell (p := ⟨w.heap.size + 1, 3, none⟩) (by simp) _

end Go.Proofs.Ytbaepjjanjhliaa.ref01
