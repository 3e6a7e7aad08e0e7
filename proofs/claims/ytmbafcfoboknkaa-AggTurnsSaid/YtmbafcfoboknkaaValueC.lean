/- The program's operators on values, walked: arithmetic, comparisons, all of Do. -/
import Derived.Test.YtmbafcfoboknkaaValueW
import Derived.Test.YtmbafcfoboknkaaAg
import Derived.Deep.RegionHeld3
import Derived.Deep.CutBlock
import Derived.Deep.DeepCutAuto
namespace Go.Proofs.Ytmbafcfoboknkaa.val
set_option linter.unusedVariables false
open Go.RowKit
attribute [local go_sem high] run_eqlV run_neqV
attribute [local go_sem] ag.upon_value ag.upon_skip ag.upon_enter
attribute [local go_sem] Oper.semAt_some
/-! ### cmp's -/
theorem isNaN_int (x : Int) (W : World) : Calls Try.prog 72 #[.int .i64 x] W fun e w' => e = .returned (.bool false) ∧ W = w' := by
  go_enter Try.func72, Try.ntmps72
  go_wp2
  all_goals go_ret
  all_goals exact ⟨ret_bool (by simp), rfl⟩
theorem isNaN_int64 (x : Int) (W : World) : Calls Try.prog 73 #[.int .i64 x] W fun e w' => e = .returned (.bool false) ∧ W = w' := by
  go_enter Try.func73, Try.ntmps73
  go_wp2
  all_goals go_ret
  all_goals exact ⟨ret_bool (by simp), rfl⟩
theorem isNaN_str (x : ByteArray) (W : World) : Calls Try.prog 74 #[.string x] W fun e w' => e = .returned (.bool false) ∧ W = w' := by
  go_enter Try.func74, Try.ntmps74
  go_wp2
  all_goals go_ret
  all_goals exact ⟨ret_bool (by simp), rfl⟩
/-- the order of two numbers -/
def cmpI (a b : Int) : Int := if a < b then -1 else if b < a then 1 else 0
def cmpS (a b : ByteArray) : Int := if Op.bytesLess a.toList b.toList = true then -1 else if Op.bytesLess b.toList a.toList = true then 1 else 0
def cmpV (a b : V) : Int := if cmpI a.k b.k ≠ 0 then cmpI a.k b.k else if cmpI a.n b.n ≠ 0 then cmpI a.n b.n else cmpS a.s b.s
theorem cmp_int (a b : Int) (W : World) : Calls Try.prog 58 #[.int .i64 a, .int .i64 b] W fun e w' => e = .returned (.int .i64 (cmpI a b)) ∧ W = w' := by
  go_enter Try.func58, Try.ntmps58
  go_wp2_with (go_at_call 72; (refine (isNaN_int _ _).mono ?_; rintro e w1 ⟨rfl, rfl⟩))
  all_goals go_ret
  all_goals exact ⟨ret_i64 (by unfold cmpI; (repeat' split) <;> omega), rfl⟩
theorem cmp_int64 (a b : Int) (W : World) : Calls Try.prog 59 #[.int .i64 a, .int .i64 b] W fun e w' => e = .returned (.int .i64 (cmpI a b)) ∧ W = w' := by
  go_enter Try.func59, Try.ntmps59
  go_wp2_with (go_at_call 73; (refine (isNaN_int64 _ _).mono ?_; rintro e w1 ⟨rfl, rfl⟩))
  all_goals go_ret
  all_goals exact ⟨ret_i64 (by unfold cmpI; (repeat' split) <;> omega), rfl⟩
theorem cmp_str (a b : ByteArray) (W : World) : Calls Try.prog 60 #[.string a, .string b] W fun e w' => e = .returned (.int .i64 (cmpS a b)) ∧ W = w' := by
  go_enter Try.func60, Try.ntmps60
  go_wp2_with (go_at_call 74; (refine (isNaN_str _ _).mono ?_; rintro e w1 ⟨rfl, rfl⟩))
  all_goals go_ret
  · exact ⟨ret_i64 (by unfold cmpS; rw [if_pos ‹_›]), rfl⟩
  · have h1 : Op.bytesLess a.toList b.toList = false := by assumption
    have h2 : (!a.toList == b.toList) = true := by assumption
    have h3 : Op.bytesLess b.toList a.toList = true := by
      cases h : Op.bytesLess b.toList a.toList
      · have := bl_total _ _ h1 h
        rw [this] at h2; simp at h2
      · rfl
    exact ⟨ret_i64 (by unfold cmpS; rw [if_neg (by rw [h1]; decide), if_pos h3]), rfl⟩
  · have h2 : (!a.toList == b.toList) = false := by assumption
    have h3 : a.toList = b.toList := by simpa using h2
    exact ⟨ret_i64 (by unfold cmpS; rw [h3, bl_irrefl]; rfl), rfl⟩
/-- cmp.Or of three: the first that is not 0. -/
def or3 (x y z : Int) : Int := if x ≠ 0 then x else if y ≠ 0 then y else z
theorem or_three (x y z : Int) (W : World) (g : Nat) (hx : W.cell? ⟨g, 0, none⟩ = some (.int .i64 x)) (hy : W.cell? ⟨g, 1, none⟩ = some (.int .i64 y)) (hz : W.cell? ⟨g, 2, none⟩ = some (.int .i64 z)) (cap : Nat) :
    Calls Try.prog 57 #[.slice (some ⟨g, 0, none⟩) 3 cap] W fun e w' => e = .returned (.int .i64 (or3 x y z)) ∧ W = w' := by
  by_cases h1 : x = 0
  · subst h1
    by_cases h2 : y = 0
    · subst h2
      by_cases h3 : z = 0
      · subst h3
        go_enter Try.func57, Try.ntmps57
        go_wp2
        refine wp_loop_rounds 4 ?_
        rw [rounds_succ]
        go_wp2
        rw [rounds_succ]
        go_wp2
        rw [rounds_succ]
        go_wp2
        rw [rounds_succ]
        go_wp2
        go_ret
        exact ⟨rfl, rfl⟩
      · have z0 : (z == 0) = false := by simpa using h3
        have z1 : (z != 0) = true := by simpa using h3
        clear h3
        go_enter Try.func57, Try.ntmps57
        go_wp2
        refine wp_loop_rounds 4 ?_
        rw [rounds_succ]
        go_wp2
        rw [rounds_succ]
        go_wp2
        rw [rounds_succ]
        go_wp2
        go_ret
        exact ⟨ret_i64 (by unfold or3; simp), rfl⟩
    · have y0 : (y == 0) = false := by simpa using h2
      have y1 : (y != 0) = true := by simpa using h2
      have E := Lib.hid h2
      clear h2
      go_enter Try.func57, Try.ntmps57
      go_wp2
      refine wp_loop_rounds 4 ?_
      rw [rounds_succ]
      go_wp2
      rw [rounds_succ]
      go_wp2
      go_ret
      exact ⟨ret_i64 (by unfold or3; simp [E.out]), rfl⟩
  · have x0 : (x == 0) = false := by simpa using h1
    have x1 : (x != 0) = true := by simpa using h1
    have E := Lib.hid h1
    clear h1
    go_enter Try.func57, Try.ntmps57
    go_wp2
    refine wp_loop_rounds 4 ?_
    rw [rounds_succ]
    go_wp2
    go_ret
    exact ⟨ret_i64 (by unfold or3; simp [E.out]), rfl⟩
/-- three numbers in a new row -/
def three (x y z : Int) (v : Value) (w : World) : Prop := ∃ g cap, v = .slice (some ⟨g, 0, none⟩) 3 cap ∧ w.cell? ⟨g, 0, none⟩ = some (.int .i64 x) ∧ w.cell? ⟨g, 1, none⟩ = some (.int .i64 y) ∧ w.cell? ⟨g, 2, none⟩ = some (.int .i64 z)
set_option maxRecDepth 100000 in
set_option maxHeartbeats 2000000 in
theorem compare_any (ka na kb nb : Int) (sa sb : ByteArray) (W : World) : Calls Try.prog 39 #[ag3 ka na sa, ag3 kb nb sb] W fun e w' => e = .returned (.int .i64 (cmpV ⟨ka, na, sa⟩ ⟨kb, nb, sb⟩)) ∧ Below W.heap.size W w' := by
  have e : or3 (cmpI ka kb) (cmpI na nb) (cmpS sa sb) = cmpV ⟨ka, na, sa⟩ ⟨kb, nb, sb⟩ := rfl
  rw [← e]
  clear e
  obtain ⟨x, hx⟩ : ∃ x, cmpI ka kb = x := ⟨_, rfl⟩
  obtain ⟨y, hy⟩ : ∃ y, cmpI na nb = y := ⟨_, rfl⟩
  obtain ⟨z, hz⟩ : ∃ z, cmpS sa sb = z := ⟨_, rfl⟩
  rw [hx, hy, hz]
  have Hx := Lib.hid hx; have Hy := Lib.hid hy; have Hz := Lib.hid hz
  clear hx hy hz
  go_enter Try.func39, Try.ntmps39
  go_wp2
  have hb1 : ∀ i v, [Value.int .i64 kb, .int .i64 nb, .string sb][i]? = some v → ((W.alloc (.cells #[.int .i64 ka, .int .i64 na, .string sa] TV)).alloc (.cells #[.int .i64 kb, .int .i64 nb, .string sb] TV)).cell? ⟨W.heap.size + 1, i, none⟩ = some v := fun i v h => by
    have := cells_new (W.alloc (.cells #[.int .i64 ka, .int .i64 na, .string sa] TV)) [Value.int .i64 kb, .int .i64 nb, .string sb] TV i
    rw [World.size_alloc] at this
    exact this.trans h
  have hb0 : ∀ i v, [Value.int .i64 ka, .int .i64 na, .string sa][i]? = some v → ((W.alloc (.cells #[.int .i64 ka, .int .i64 na, .string sa] TV)).alloc (.cells #[.int .i64 kb, .int .i64 nb, .string sb] TV)).cell? ⟨W.heap.size, i, none⟩ = some v := fun i v h => by
    exact cell_later ((Below.refl _ _).alloc (Nat.le_refl _) _) ((cells_new W [Value.int .i64 ka, .int .i64 na, .string sa] TV i).trans h)
  have HC00 := Lib.hid (hb0 0 _ rfl); have HC10 := Lib.hid (hb0 1 _ rfl); have HC20 := Lib.hid (hb0 2 _ rfl)
  have HC01 := Lib.hid (hb1 0 _ rfl); have HC11 := Lib.hid (hb1 1 _ rfl); have HC21 := Lib.hid (hb1 2 _ rfl)
  have HBB := Lib.hid (below_alloc2 W (.cells #[.int .i64 ka, .int .i64 na, .string sa] TV) (.cells #[.int .i64 kb, .int .i64 nb, .string sb] TV))
  clear hb0 hb1
  generalize (W.alloc (.cells #[.int .i64 ka, .int .i64 na, .string sa] TV)).alloc (.cells #[.int .i64 kb, .int .i64 nb, .string sb] TV) = X at *
  refine ag.region_ag (fun W1 => Below X.heap.size X W1) (fun _ _ _ _ => True)
    [.val (.pointer (some ⟨W.heap.size, 0, none⟩)), .val (.int .i64 ka), .val (.pointer (some ⟨W.heap.size + 1, 0, none⟩)), .val (.int .i64 kb), .val (.int .i64 x), .val (.pointer (some ⟨W.heap.size, 1, none⟩)), .val (.int .i64 na), .val (.pointer (some ⟨W.heap.size + 1, 1, none⟩)), .val (.int .i64 nb), .val (.int .i64 y), .val (.pointer (some ⟨W.heap.size, 2, none⟩)), .val (.string sa), .val (.pointer (some ⟨W.heap.size + 1, 2, none⟩)), .val (.string sb), .val (.int .i64 z), .sat (three x y z) (fun _ w w' => Below w.heap.size w w'), .val (.int .i64 (or3 x y z)), .val (.int .i64 (or3 x y z))]
    (by kernel_rfl) (by kernel_rfl) rfl (⟨rfl, rfl, rfl, Nat.le_refl _, fun _ _ => rfl⟩) ?hst ?hk ?hwalk
  case hst =>
    simp only [ag.Stab, ag.Row2, ag.Ok2, and_true]
    repeat' apply And.intro
    all_goals first
      | exact fun h => absurd rfl h
      | trivial
  case hk =>
    simp only [ag.Keeps, and_true]
    exact fun f W1 W2 hS _ ht => hS.trans (ht.mono hS.size)
  case hwalk =>
    refine ag.walk_val (by rfl) (fun W1 hS hE => ?_) ?_
    rotate_left; simp only [Act.put, List.setIfInBounds_toArray, List.set_cons_zero, List.set_cons_succ]; rotate_left
    · clear hS hE
      unfold ag.does
      go_simp
      try exact ⟨rfl, rfl⟩
    refine ag.walk_val (by rfl) (fun W1 hS hE => ?_) ?_
    rotate_left; simp only [Act.put, List.setIfInBounds_toArray, List.set_cons_zero, List.set_cons_succ]; rotate_left
    · have c0 := cell_later hS HC00.out
      clear hS hE
      unfold ag.does
      go_simp
      try exact ⟨rfl, rfl⟩
    refine ag.walk_val (by rfl) (fun W1 hS hE => ?_) ?_
    rotate_left; simp only [Act.put, List.setIfInBounds_toArray, List.set_cons_zero, List.set_cons_succ]; rotate_left
    · clear hS hE
      unfold ag.does
      go_simp
      try exact ⟨rfl, rfl⟩
    refine ag.walk_val (by rfl) (fun W1 hS hE => ?_) ?_
    rotate_left; simp only [Act.put, List.setIfInBounds_toArray, List.set_cons_zero, List.set_cons_succ]; rotate_left
    · have c0 := cell_later hS HC01.out
      clear hS hE
      unfold ag.does
      go_simp
      try exact ⟨rfl, rfl⟩
    refine ag.walk_val (by rfl) (fun W1 hS hE => ?_) ?_
    rotate_left; simp only [Act.put, List.setIfInBounds_toArray, List.set_cons_zero, List.set_cons_succ]; rotate_left
    · clear hS hE
      unfold ag.does
      go_simp
      refine (cmp_int _ _ _).mono ?_
      rintro e w9 ⟨rfl, rfl⟩
      exact ⟨_, rfl, by rw [Hx.out], rfl⟩
    refine ag.walk_val (by rfl) (fun W1 hS hE => ?_) ?_
    rotate_left; simp only [Act.put, List.setIfInBounds_toArray, List.set_cons_zero, List.set_cons_succ]; rotate_left
    · clear hS hE
      unfold ag.does
      go_simp
      try exact ⟨rfl, rfl⟩
    refine ag.walk_val (by rfl) (fun W1 hS hE => ?_) ?_
    rotate_left; simp only [Act.put, List.setIfInBounds_toArray, List.set_cons_zero, List.set_cons_succ]; rotate_left
    · have c0 := cell_later hS HC10.out
      clear hS hE
      unfold ag.does
      go_simp
      try exact ⟨rfl, rfl⟩
    refine ag.walk_val (by rfl) (fun W1 hS hE => ?_) ?_
    rotate_left; simp only [Act.put, List.setIfInBounds_toArray, List.set_cons_zero, List.set_cons_succ]; rotate_left
    · clear hS hE
      unfold ag.does
      go_simp
      try exact ⟨rfl, rfl⟩
    refine ag.walk_val (by rfl) (fun W1 hS hE => ?_) ?_
    rotate_left; simp only [Act.put, List.setIfInBounds_toArray, List.set_cons_zero, List.set_cons_succ]; rotate_left
    · have c0 := cell_later hS HC11.out
      clear hS hE
      unfold ag.does
      go_simp
      try exact ⟨rfl, rfl⟩
    refine ag.walk_val (by rfl) (fun W1 hS hE => ?_) ?_
    rotate_left; simp only [Act.put, List.setIfInBounds_toArray, List.set_cons_zero, List.set_cons_succ]; rotate_left
    · clear hS hE
      unfold ag.does
      go_simp
      refine (cmp_int64 _ _ _).mono ?_
      rintro e w9 ⟨rfl, rfl⟩
      exact ⟨_, rfl, by rw [Hy.out], rfl⟩
    refine ag.walk_val (by rfl) (fun W1 hS hE => ?_) ?_
    rotate_left; simp only [Act.put, List.setIfInBounds_toArray, List.set_cons_zero, List.set_cons_succ]; rotate_left
    · clear hS hE
      unfold ag.does
      go_simp
      try exact ⟨rfl, rfl⟩
    refine ag.walk_val (by rfl) (fun W1 hS hE => ?_) ?_
    rotate_left; simp only [Act.put, List.setIfInBounds_toArray, List.set_cons_zero, List.set_cons_succ]; rotate_left
    · have c0 := cell_later hS HC20.out
      clear hS hE
      unfold ag.does
      go_simp
      try exact ⟨rfl, rfl⟩
    refine ag.walk_val (by rfl) (fun W1 hS hE => ?_) ?_
    rotate_left; simp only [Act.put, List.setIfInBounds_toArray, List.set_cons_zero, List.set_cons_succ]; rotate_left
    · clear hS hE
      unfold ag.does
      go_simp
      try exact ⟨rfl, rfl⟩
    refine ag.walk_val (by rfl) (fun W1 hS hE => ?_) ?_
    rotate_left; simp only [Act.put, List.setIfInBounds_toArray, List.set_cons_zero, List.set_cons_succ]; rotate_left
    · have c0 := cell_later hS HC21.out
      clear hS hE
      unfold ag.does
      go_simp
      try exact ⟨rfl, rfl⟩
    refine ag.walk_val (by rfl) (fun W1 hS hE => ?_) ?_
    rotate_left; simp only [Act.put, List.setIfInBounds_toArray, List.set_cons_zero, List.set_cons_succ]; rotate_left
    · clear hS hE
      unfold ag.does
      go_simp
      refine (cmp_str _ _ _).mono ?_
      rintro e w9 ⟨rfl, rfl⟩
      exact ⟨_, rfl, by rw [Hz.out], rfl⟩
    refine ag.walk_sat (by rfl) (fun W1 hS hE => ?_) (fun y1 => ?_)
    rotate_left; simp only [Act.put, List.setIfInBounds_toArray, List.set_cons_zero, List.set_cons_succ]; rotate_left
    · clear hS hE
      unfold ag.does
      go_simp
      exact ⟨⟨_, 3, rfl, cells_new W1 [_, _, _] _ 0, cells_new W1 [_, _, _] _ 1, cells_new W1 [_, _, _] _ 2⟩, (Below.refl _ _).alloc (Nat.le_refl _) _, ag.News.none (fun _ _ => trivial) _ _⟩
    refine ag.walk_val (by rfl) (fun W1 hS hE => ?_) ?_
    rotate_left; simp only [Act.put, List.setIfInBounds_toArray, List.set_cons_zero, List.set_cons_succ]; rotate_left
    · have h3 : three x y z y1 W1 := hE.get (by kernel_rfl)
      clear hS hE
      obtain ⟨g, cap, rfl, q0, q1, q2⟩ := h3
      unfold ag.does
      go_simp
      (with_reducible refine (or_three x y z W1 g q0 q1 q2 cap).mono ?_)
      rintro e w9 ⟨rfl, rfl⟩
      exact ⟨_, rfl, rfl, rfl⟩
    refine ag.walk_val (by rfl) (fun W1 hS hE => ?_) ?_
    rotate_left; simp only [Act.put, List.setIfInBounds_toArray, List.set_cons_zero, List.set_cons_succ]; rotate_left
    · clear hS hE
      unfold ag.does
      go_simp
      try exact ⟨rfl, rfl⟩
    refine ag.walk_nil (fun w7 hS hF' hP => ?_)
    clear hF' hP
    have HS := Lib.hid hS
    clear hS
    go_wp2
    go_ret
    exact ⟨rfl, HBB.out.trans (HS.out.mono HBB.out.size)⟩
end Go.Proofs.Ytmbafcfoboknkaa.val
