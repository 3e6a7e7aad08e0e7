/- The law ValueLaws, walked. -/
import Derived.Test.YtpkkhbmlclicfaaDoorValueM
import Derived.RegionTactic
import Derived.LoopN
import Derived.BigRegion
import Derived.Test.YtpkkhbmlclicfaaDoorObj
import Derived.Test.YtpkkhbmlclicfaaDoorAgS
namespace Go.Proofs.YtpkkhbmlclicfaaDoor.val
set_option linter.unusedVariables false
open Go.RowKit
attribute [local go_sem high] run_eqlV run_neqV
attribute [local go_sem] ag.upon_value ag.upon_skip ag.upon_enter ags.upon_value ags.upon_skip ags.upon_enter ags.uponS_skip
attribute [local go_sem] Oper.semAt_some

/-- the cells of a value -/
abbrev fl (v : V) : List Value := [.int .i64 v.k, .int .i64 v.n, .string v.s]
/-- a place for a value, new since X -/
def VP (X : World) (v : Value) (w : World) : Prop := ∃ g, v = .pointer (some ⟨g, 0, none⟩) ∧ X.heap.size ≤ g ∧ ∃ x y z, Flds w g TV [x, y, z]
/-- such a place, with a value in it -/
def VF (X : World) (b : V) (v : Value) (w : World) : Prop := ∃ g, v = .pointer (some ⟨g, 0, none⟩) ∧ X.heap.size ≤ g ∧ Flds w g TV (fl b)
def stores (b : V) (w : World) (g : Nat) : World := ((w.setCell ⟨g, 0, none⟩ (.int .i64 b.k)).setCell ⟨g, 1, none⟩ (.int .i64 b.n)).setCell ⟨g, 2, none⟩ (.string b.s)
/-- the step of a store through the pointer that operation d yielded -/
def TS (X : World) (b : V) (d : Nat) (f : Nat → Value) (w w' : World) : Prop := ∃ g, f d = .pointer (some ⟨g, 0, none⟩) ∧ X.heap.size ≤ g ∧ w' = stores b w g
theorem stores_below {X w : World} {b : V} {g : Nat} (h : Below X.heap.size X w) (hg : X.heap.size ≤ g) : Below X.heap.size X (stores b w g) :=
  ((h.setCell (p := ⟨g, 0, none⟩) hg _).setCell (p := ⟨g, 1, none⟩) hg _).setCell (p := ⟨g, 2, none⟩) hg _
theorem stores_self {w : World} {b : V} {g : Nat} {x y z : Value} (h : Flds w g TV [x, y, z]) : Flds (stores b w g) g TV (fl b) := ((h.set 0 _).set 1 _).set 2 _
theorem stores_other {w : World} {b : V} {g g' : Nat} {fs : List Value} (h : Flds w g' TV fs) (hne : g' ≠ g) : Flds (stores b w g) g' TV fs := ((h.other ⟨g, 0, none⟩ _ hne).other ⟨g, 1, none⟩ _ hne).other ⟨g, 2, none⟩ _ hne
theorem _root_.Go.Proofs.YtpkkhbmlclicfaaDoor.Flds.three {w : World} {g : Nat} {v : V} (h : Flds w g TV (fl v)) : w.cell? ⟨g, 0, none⟩ = some (.int .i64 v.k) ∧ w.cell? ⟨g, 1, none⟩ = some (.int .i64 v.n) ∧ w.cell? ⟨g, 2, none⟩ = some (.string v.s) := ⟨h.cell 0, h.cell 1, h.cell 2⟩
theorem _root_.Go.Proofs.YtpkkhbmlclicfaaDoor.Flds.cells3 {w : World} {g : Nat} {x y z : Value} (h : Flds w g TV [x, y, z]) : w.cell? ⟨g, 0, none⟩ = some x ∧ w.cell? ⟨g, 1, none⟩ = some y ∧ w.cell? ⟨g, 2, none⟩ = some z := ⟨h.cell 0, h.cell 1, h.cell 2⟩
theorem VP.later {X w w' : World} {v : Value} (h : VP X v w) (hb : Below w.heap.size w w') : VP X v w' := by
  obtain ⟨g, e, hg, x, y, z, hf⟩ := h
  exact ⟨g, e, hg, x, y, z, hf.later hb⟩
theorem VF.later {X w w' : World} {b : V} {v : Value} (h : VF X b v w) (hb : Below w.heap.size w w') : VF X b v w' := by
  obtain ⟨g, e, hg, hf⟩ := h
  exact ⟨g, e, hg, hf.later hb⟩
theorem VP.stored {X w w' : World} {b : V} {d : Nat} {f : Nat → Value} {v : Value} (h : VP X v w) (ht : TS X b d f w w') : VP X v w' := by
  obtain ⟨g, e, hg, x, y, z, hf⟩ := h
  obtain ⟨g', e', hg', rfl⟩ := ht
  by_cases hne : g = g'
  · subst hne; exact ⟨g, e, hg, _, _, _, stores_self hf⟩
  · exact ⟨g, e, hg, x, y, z, stores_other hf hne⟩
theorem VF.stored {X w w' : World} {b b' : V} {d : Nat} {f : Nat → Value} {v : Value} (h : VF X b v w) (ht : TS X b' d f w w') (hne : v ≠ f d) : VF X b v w' := by
  obtain ⟨g, e, hg, hf⟩ := h
  obtain ⟨g', e', hg', rfl⟩ := ht
  exact ⟨g, e, hg, stores_other hf (fun h => hne (by rw [e, e', h]))⟩
theorem stores_below3 {W w : World} (b : V) {g : Nat} (h : Below W.heap.size W w) (hg : W.heap.size ≤ g) : Below W.heap.size W (stores b w g) := stores_below h hg
/-- of two places and two stores: the places are two, and each store is into its own -/
def R4 (i j : Nat) (v u : Value) : Prop :=
  if (i = 10 ∧ j = 11) ∨ (i = 11 ∧ j = 10) ∨ (i = 12 ∧ j = 11) ∨ (i = 11 ∧ j = 12) then v ≠ u
  else if (i = 12 ∧ j = 10) ∨ (i = 10 ∧ j = 12) ∨ (i = 13 ∧ j = 11) ∨ (i = 11 ∧ j = 13) then v = u else True
theorem R4.ne {i j : Nat} {v u : Value} (h : (i = 10 ∧ j = 11) ∨ (i = 11 ∧ j = 10) ∨ (i = 12 ∧ j = 11) ∨ (i = 11 ∧ j = 12)) (hv : v ≠ u) : R4 i j v u := by unfold R4; rw [if_pos h]; exact hv
theorem R4.neq {i j : Nat} {v u : Value} (r : R4 i j v u) (h : (i = 10 ∧ j = 11) ∨ (i = 11 ∧ j = 10) ∨ (i = 12 ∧ j = 11) ∨ (i = 11 ∧ j = 12)) : v ≠ u := by unfold R4 at r; rwa [if_pos h] at r
theorem R4.eq {i j : Nat} {v u : Value} (h : (i = 12 ∧ j = 10) ∨ (i = 10 ∧ j = 12) ∨ (i = 13 ∧ j = 11) ∨ (i = 11 ∧ j = 13)) (hv : v = u) : R4 i j v u := by unfold R4; rw [if_neg (by omega), if_pos h]; exact hv
theorem R4.same {i j : Nat} {v u : Value} (r : R4 i j v u) (h : (i = 12 ∧ j = 10) ∨ (i = 10 ∧ j = 12) ∨ (i = 13 ∧ j = 11) ∨ (i = 11 ∧ j = 13)) : v = u := by unfold R4 at r; rwa [if_neg (by omega), if_pos h] at r
theorem R4.none {i j : Nat} {v u : Value} (h : ¬ ((i = 10 ∧ j = 11) ∨ (i = 11 ∧ j = 10) ∨ (i = 12 ∧ j = 11) ∨ (i = 11 ∧ j = 12)) ∧ ¬ ((i = 12 ∧ j = 10) ∨ (i = 10 ∧ j = 12) ∨ (i = 13 ∧ j = 11) ∨ (i = 11 ∧ j = 13))) : R4 i j v u := by unfold R4; rw [if_neg h.1, if_neg h.2]; trivial
theorem VP.fresh {X w : World} {u : Value} (h : VP X u w) : (Value.pointer (some ⟨w.heap.size, 0, none⟩)) ≠ u := by
  obtain ⟨g, e, hg, x, y, z, hf⟩ := h
  have := hf.lt
  rw [e]
  intro h
  simp only [Value.pointer.injEq, Option.some.injEq, Addr.mk.injEq] at h
  omega

set_option maxRecDepth 100000 in
set_option maxHeartbeats 2000000 in
theorem laws_walk (kx nx ky ny a b : Int) (ha : -9223372036854775808 ≤ a ∧ a ≤ 9223372036854775807) (hb : -9223372036854775808 ≤ b ∧ b ≤ 9223372036854775807) (sx sy : ByteArray) (m : Int) (W : World) (hm : W.cell? ⟨gMax, 0, none⟩ = some (.int .i64 m)) :
    Calls Tryd.prog 6 #[.agg #[.int .u8 kx, .int .i64 nx, .string sx, .int .u8 ky, .int .i64 ny, .string sy, .int .i64 a, .int .i64 b]] W fun e w' => e = .returned (.bool true) ∧ Below W.heap.size W w' := by
  have HM := Lib.hid hm
  clear hm
  go_enter Tryd.func6, Tryd.ntmps6
  go_wp2_with fail
  (with_reducible refine (speaks m _ (cell_later (below_alloc1 _ _) HM.out)).mono ?_); rintro e w1 ⟨rfl, hb1⟩
  have hcs : ∀ i v, [Value.int .u8 kx, .int .i64 nx, .string sx, .int .u8 ky, .int .i64 ny, .string sy, .int .i64 a, .int .i64 b][i]? = some v → w1.cell? ⟨W.heap.size, i, none⟩ = some v := fun i v h => cell_later hb1 ((cells_new W _ _ i).trans h)
  have p0 := hcs 0 _ rfl; have p1 := hcs 1 _ rfl; have p2 := hcs 2 _ rfl; have p3 := hcs 3 _ rfl; have p4 := hcs 4 _ rfl; have p5 := hcs 5 _ rfl; have p6 := hcs 6 _ rfl; have p7 := hcs 7 _ rfl
  have hz : W.heap.size < w1.heap.size := by have := hb1.size; simp at this; omega
  have HB1 := Lib.hid (after (below_alloc1 W _) hb1)
  clear hcs hb1
  go_upto_region 3 with fail
  go_cut [3, 4, 5, 6] from 32 to 39 (fun s3 s4 s5 s6 wx => ∃ g3 g4 : Nat, (s3 = .pointer (some ⟨g3, 0, none⟩) ∧ s4 = .pointer (some ⟨g4, 0, none⟩) ∧ s5 = .int .i64 a ∧ s6 = .int .i64 b) ∧ (wx.cell? ⟨g3, 0, none⟩ = some (.int .u8 kx) ∧ wx.cell? ⟨g3, 1, none⟩ = some (.int .i64 nx)) ∧ (wx.cell? ⟨g4, 0, none⟩ = some (.int .u8 ky) ∧ wx.cell? ⟨g4, 1, none⟩ = some (.int .i64 ny)) ∧ Below W.heap.size W wx)
  case first =>
    go_region
    · go_wp2_with fail
      go_meet
      refine ⟨w1.heap.size, w1.heap.size + 1, ⟨rfl, rfl, rfl, rfl⟩, ⟨?_, ?_⟩, ⟨?_, ?_⟩, ?_⟩
      · go_simp
      · go_simp
      · go_simp
      · go_simp
      · exact (after HB1.out (below_alloc2 w1 _ _)).drew
    · go_wp2_with fail
      go_meet
      refine ⟨w1.heap.size + 1, w1.heap.size, ⟨rfl, rfl, rfl, rfl⟩, ⟨?_, ?_⟩, ⟨?_, ?_⟩, ?_⟩
      · go_simp
      · go_simp
      · go_simp
      · go_simp
      · exact (after HB1.out (below_alloc2 w1 _ _)).drew
  case rest =>
    obtain ⟨g3, g4, ⟨rfl, rfl, rfl, rfl⟩, ⟨q0, q1⟩, ⟨r0, r1⟩, hbc⟩ := hcut
    have hq1 : Hid (wc.cell? ⟨g3, 1, none⟩ = some (.int .i64 nx)) := Lib.hid q1
    obtain ⟨X, hX⟩ : ∃ X, wc = X := ⟨_, rfl⟩
    subst hX
    have Q0 := Lib.hid q0; have Q1 := Lib.hid q1; have Q2 := Lib.hid r0; have Q3 := Lib.hid r1; have HBC := Lib.hid hbc
    clear q0 q1 r0 r1 hbc hq1
    go_wp2_with fail
    refine ags.region_ag (fun W1 => Below wc.heap.size wc W1) (R4)
      [.val (.pointer (some ⟨g3, 1, none⟩)), .val (.int .i64 nx), .val (.int .i64 (bits .and .i64 nx 1)), .val (.bool (bits .and .i64 nx 1 == 1)), .sat (fun v _ => v = vv (ofB (bits .and .i64 nx 1 == 1))) (fun _ w w' => Below w.heap.size w w'), .val (.pointer (some ⟨g4, 1, none⟩)), .val (.int .i64 ny), .val (.int .i64 (bits .and .i64 ny 1)), .val (.bool (bits .and .i64 ny 1 == 1)), .sat (fun v _ => v = vv (ofB (bits .and .i64 ny 1 == 1))) (fun _ w w' => Below w.heap.size w w'), .sat (VP wc) (fun _ w w' => Below w.heap.size w w'), .sat (VP wc) (fun _ w w' => Below w.heap.size w w'), .sat (VF wc (ofB (bits .and .i64 nx 1 == 1))) (TS wc (ofB (bits .and .i64 nx 1 == 1)) 10), .sat (VF wc (ofB (bits .and .i64 ny 1 == 1))) (TS wc (ofB (bits .and .i64 ny 1 == 1)) 11)]
      (by kernel_rfl) (by kernel_rfl) rfl (⟨rfl, rfl, rfl, Nat.le_refl _, fun _ _ => rfl⟩) ?hst ?hk ?hwalk
    case hst =>
      simp only [ags.Stab, ags.Row2, ags.Ok2, and_true]
      repeat' apply And.intro
      all_goals first
        | exact fun h => absurd rfl h
        | exact fun _ _ f v W W' hS hv _ ht => hv
        | exact fun _ _ f v W W' hS hv _ ht => hv.later ht
        | exact fun _ _ f v W W' hS hv _ ht => hv.stored ht
        | exact fun _ _ f v W W' hS hv hr ht => hv.stored ht (fun e => ((hr 11 (by kernel_rfl) _ _ rfl).1 (by decide)).elim (fun r => r.neq (by omega) e.symm) (fun r => r.neq (by omega) e))
        | exact fun _ h => (Bool.false_ne_true (h.symm.trans (by kernel_rfl))).elim
        | trivial
    case hk =>
      simp only [ags.Keeps, and_true]
      repeat' apply And.intro
      all_goals first
        | exact fun f W1 W2 hS _ ht => hS.trans (ht.mono hS.size)
        | exact fun f W1 W2 hS _ ⟨g, _, hg, e⟩ => e ▸ stores_below hS hg
    case hwalk =>
      refine ags.walk_val (by rfl) (fun W1 hS hE => ?_) ?_
      rotate_left; simp only [Act.put, List.setIfInBounds_toArray, List.set_cons_zero, List.set_cons_succ]; rotate_left
      · clear hS hE
        refine ags.reg ?_
        go_simp
        try exact ⟨rfl, rfl⟩
      refine ags.walk_val (by rfl) (fun W1 hS hE => ?_) ?_
      rotate_left; simp only [Act.put, List.setIfInBounds_toArray, List.set_cons_zero, List.set_cons_succ]; rotate_left
      · have c0 := cell_later hS Q1.out
        clear hS hE
        refine ags.reg ?_
        go_simp
        try exact ⟨rfl, rfl⟩
      refine ags.walk_val (by rfl) (fun W1 hS hE => ?_) ?_
      rotate_left; simp only [Act.put, List.setIfInBounds_toArray, List.set_cons_zero, List.set_cons_succ]; rotate_left
      · clear hS hE
        refine ags.reg ?_
        go_simp
        try exact ⟨rfl, rfl⟩
      refine ags.walk_val (by rfl) (fun W1 hS hE => ?_) ?_
      rotate_left; simp only [Act.put, List.setIfInBounds_toArray, List.set_cons_zero, List.set_cons_succ]; rotate_left
      · clear hS hE
        refine ags.reg ?_
        go_simp
        try exact ⟨rfl, rfl⟩
      refine ags.walk_sat (by rfl) (fun W1 hS hE => ?_) (fun y1 => ?_)
      rotate_left; simp only [Act.put, List.setIfInBounds_toArray, List.set_cons_zero, List.set_cons_succ]; rotate_left
      · clear hS hE
        refine ags.reg ?_
        go_simp
        refine (ofBool_any _ _).mono ?_
        rintro e W2 ⟨rfl, hb⟩
        exact ⟨_, rfl, rfl, hb, fun h => absurd rfl h, fun _ _ u _ _ _ => R4.none (by omega), fun _ _ u _ _ _ => R4.none (by omega), fun _ _ u _ _ _ => R4.none (by omega), fun _ _ u _ _ _ => R4.none (by omega), fun _ _ u _ _ _ => R4.none (by omega), trivial⟩
      refine ags.walk_val (by rfl) (fun W1 hS hE => ?_) ?_
      rotate_left; simp only [Act.put, List.setIfInBounds_toArray, List.set_cons_zero, List.set_cons_succ]; rotate_left
      · clear hS hE
        refine ags.reg ?_
        go_simp
        try exact ⟨rfl, rfl⟩
      refine ags.walk_val (by rfl) (fun W1 hS hE => ?_) ?_
      rotate_left; simp only [Act.put, List.setIfInBounds_toArray, List.set_cons_zero, List.set_cons_succ]; rotate_left
      · have c0 := cell_later hS Q3.out
        clear hS hE
        refine ags.reg ?_
        go_simp
        try exact ⟨rfl, rfl⟩
      refine ags.walk_val (by rfl) (fun W1 hS hE => ?_) ?_
      rotate_left; simp only [Act.put, List.setIfInBounds_toArray, List.set_cons_zero, List.set_cons_succ]; rotate_left
      · clear hS hE
        refine ags.reg ?_
        go_simp
        try exact ⟨rfl, rfl⟩
      refine ags.walk_val (by rfl) (fun W1 hS hE => ?_) ?_
      rotate_left; simp only [Act.put, List.setIfInBounds_toArray, List.set_cons_zero, List.set_cons_succ]; rotate_left
      · clear hS hE
        refine ags.reg ?_
        go_simp
        try exact ⟨rfl, rfl⟩
      refine ags.walk_sat (by rfl) (fun W1 hS hE => ?_) (fun y2 => ?_)
      rotate_left; simp only [Act.put, List.setIfInBounds_toArray, List.set_cons_zero, List.set_cons_succ]; rotate_left
      · clear hS hE
        refine ags.reg ?_
        go_simp
        refine (ofBool_any _ _).mono ?_
        rintro e W2 ⟨rfl, hb⟩
        exact ⟨_, rfl, rfl, hb, fun _ _ u _ _ _ => R4.none (by omega), fun h => absurd rfl h, fun _ _ u _ _ _ => R4.none (by omega), fun _ _ u _ _ _ => R4.none (by omega), fun _ _ u _ _ _ => R4.none (by omega), fun _ _ u _ _ _ => R4.none (by omega), trivial⟩
      refine ags.walk_sat (by rfl) (fun W1 hS hE => ?_) (fun y3 => ?_)
      rotate_left; simp only [Act.put, List.setIfInBounds_toArray, List.set_cons_zero, List.set_cons_succ]; rotate_left
      · have hz := hS.size
        clear hE hS
        refine ags.reg ?_
        go_simp
        exact ⟨⟨W1.heap.size, rfl, hz, _, _, _, Flds.new W1 TV [_, _, _]⟩, below_alloc1 _ _, fun _ _ u _ _ _ => R4.none (by omega), fun _ _ u _ _ _ => R4.none (by omega), fun h => absurd rfl h, fun _ _ u hu _ _ => R4.ne (by omega) hu.fresh, fun _ h => (Bool.false_ne_true (Eq.trans (Eq.symm (by kernel_rfl)) h)).elim, fun _ h => (Bool.false_ne_true (Eq.trans (Eq.symm (by kernel_rfl)) h)).elim, trivial⟩
      refine ags.walk_sat (by rfl) (fun W1 hS hE => ?_) (fun y4 => ?_)
      rotate_left; simp only [Act.put, List.setIfInBounds_toArray, List.set_cons_zero, List.set_cons_succ]; rotate_left
      · have hz := hS.size
        clear hE hS
        refine ags.reg ?_
        go_simp
        exact ⟨⟨W1.heap.size, rfl, hz, _, _, _, Flds.new W1 TV [_, _, _]⟩, below_alloc1 _ _, fun _ _ u _ _ _ => R4.none (by omega), fun _ _ u _ _ _ => R4.none (by omega), fun _ _ u hu _ _ => R4.ne (by omega) hu.fresh, fun h => absurd rfl h, fun _ h => (Bool.false_ne_true (Eq.trans (Eq.symm (by kernel_rfl)) h)).elim, fun _ h => (Bool.false_ne_true (Eq.trans (Eq.symm (by kernel_rfl)) h)).elim, trivial⟩
      refine ags.walk_sat (by rfl) (fun W1 hS hE => ?_) (fun y5 => ?_)
      rotate_left; simp only [Act.put, List.setIfInBounds_toArray, List.set_cons_zero, List.set_cons_succ]; rotate_left
      · have h10 : VP wc y3 W1 := hE.tail.get (by kernel_rfl)
        have hb : y1 = vv (ofB (bits .and .i64 nx 1 == 1)) := hE.tail.tail.tail.get (by kernel_rfl)
        clear hE
        subst hb
        obtain ⟨g, rfl, hg, x, y, z, hf⟩ := h10
        have f0 := hf.cell 0; have f1 := hf.cell 1; have f2 := hf.cell 2
        have z0 := hf.frozen 0; have z1 := hf.frozen 1; have z2 := hf.frozen 2
        simp only [List.getElem?_cons_zero, List.getElem?_cons_succ] at f0 f1 f2
        have lg := hf.lt
        have HF := Lib.hid hf
        clear hS hf
        refine ags.sto (.pointer (some ⟨g, 0, none⟩)) rfl ?_
        go_simp
        exact ⟨⟨g, rfl, hg, stores_self HF.out⟩, ⟨g, (ags.lookX_filter (by kernel_rfl) _).trans rfl, hg, rfl⟩, fun _ _ u _ _ _ => R4.none (by omega), fun _ _ u _ _ _ => R4.none (by omega), fun _ _ u _ _ he => R4.eq (by omega) (he (10, .pointer (some ⟨g, 0, none⟩)) (List.mem_filter.2 ⟨by simp, by kernel_rfl⟩) rfl).symm, fun _ _ u _ hd he => R4.ne (by omega) (fun h => (hd (10, .pointer (some ⟨g, 0, none⟩)) (List.mem_filter.2 ⟨by simp, by kernel_rfl⟩) (show (10 : Nat) ≠ 11 by decide)).elim (fun r => r.neq (by omega) h) (fun r => r.neq (by omega) h.symm)), fun h => absurd rfl h, fun _ _ u _ _ _ => R4.none (by omega), trivial⟩
      refine ags.walk_sat (by rfl) (fun W1 hS hE => ?_) (fun y6 => ?_)
      rotate_left; simp only [Act.put, List.setIfInBounds_toArray, List.set_cons_zero, List.set_cons_succ]; rotate_left
      · have h10 : VP wc y4 W1 := hE.tail.get (by kernel_rfl)
        have hb : y2 = vv (ofB (bits .and .i64 ny 1 == 1)) := hE.tail.tail.tail.get (by kernel_rfl)
        clear hE
        subst hb
        obtain ⟨g, rfl, hg, x, y, z, hf⟩ := h10
        have f0 := hf.cell 0; have f1 := hf.cell 1; have f2 := hf.cell 2
        have z0 := hf.frozen 0; have z1 := hf.frozen 1; have z2 := hf.frozen 2
        simp only [List.getElem?_cons_zero, List.getElem?_cons_succ] at f0 f1 f2
        have lg := hf.lt
        have HF := Lib.hid hf
        clear hS hf
        refine ags.sto (.pointer (some ⟨g, 0, none⟩)) rfl ?_
        go_simp
        exact ⟨⟨g, rfl, hg, stores_self HF.out⟩, ⟨g, (ags.lookX_filter (by kernel_rfl) _).trans rfl, hg, rfl⟩, fun _ _ u _ _ _ => R4.none (by omega), fun _ _ u _ _ _ => R4.none (by omega), fun _ _ u _ _ _ => R4.none (by omega), fun _ _ u _ _ he => R4.eq (by omega) (he (11, .pointer (some ⟨g, 0, none⟩)) (List.mem_filter.2 ⟨by simp, by kernel_rfl⟩) rfl).symm, fun _ _ u _ _ _ => R4.none (by omega), fun h => absurd rfl h, trivial⟩
      refine ags.walk_nil (fun w7 hS hF' hP => ?_)
      have hF9 := hF'
      have hP9 := hP
      clear hF' hP
      have HS := Lib.hid hS
      clear hS
      obtain ⟨h13, h12, h11, h10, h9, h4, -⟩ := hF9
      have s1 := hP9.1 (11, y4) (by simp)
      have s2 := hP9.2.1 (10, y3) (by simp)
      have s3 := hP9.2.2.1 (10, y3) (by simp)
      have e1 : y6 = y4 := s1.elim (fun r => r.same (by omega)) (fun r => (r.same (by omega)).symm)
      have e2 : y5 = y3 := s2.elim (fun r => r.same (by omega)) (fun r => (r.same (by omega)).symm)
      have e3 : y4 ≠ y3 := s3.elim (fun r => r.neq (by omega)) (fun r => (r.neq (by omega)).symm)
      clear hP9 s1 s2 s3 h11 h10
      subst h9 h4 e1 e2
      obtain ⟨g7, rfl, lg7, hf7⟩ := h12
      obtain ⟨g8, rfl, lg8, hf8⟩ := h13
      have hne : g8 ≠ g7 := fun e => e3 (by rw [e])
      have q3 := cell_later HS.out Q0.out
      have q4 := cell_later HS.out Q2.out
      have hbx := after HBC.out HS.out
      have hmx := cell_later hbx HM.out
      have hP1 : isP (ofB (bits .and .i64 nx 1 == 1)) := .inr ⟨_, rfl⟩
      have hP2 : isP (ofB (bits .and .i64 ny 1 == 1)) := .inr ⟨_, rfl⟩
      revert hf7 hf8 hP1 hP2
      generalize ofB (bits .and .i64 nx 1 == 1) = p0
      generalize ofB (bits .and .i64 ny 1 == 1) = r0
      intro hf7 hf8 hP1 hP2
      have c70 := hf7.cell 0; have c71 := hf7.cell 1; have c72 := hf7.cell 2
      have c80 := hf8.cell 0; have c81 := hf8.cell 1; have c82 := hf8.cell 2
      have z70 := hf7.frozen 0; have z71 := hf7.frozen 1; have z72 := hf7.frozen 2
      have z80 := hf8.frozen 0; have z81 := hf8.frozen 1; have z82 := hf8.frozen 2
      simp only [List.getElem?_cons_zero, List.getElem?_cons_succ] at c70 c71 c72 c80 c81 c82
      have l7 := hf7.lt; have l8 := hf8.lt
      have l4 : g4 < wc.heap.size := World.block_lt_of_cell? wc ⟨g4, 0, none⟩ Q2.out
      have lw := HBC.out.size
      have HF7 := Lib.hid hf7; have HF8 := Lib.hid hf8; have HP1 := Lib.hid hP1; have HP2 := Lib.hid hP2; have HBX := Lib.hid hbx
      clear hf7 hf8 hP1 hP2 hbx hmx e3
      go_upto_if 53 with fail
      go_cut [53] from 54 to 54 (fun s53 wx => ∃ p, isP p ∧ Flds wx g7 TV (fl p) ∧ Flds wx g8 TV (fl r0) ∧ wx.cell? ⟨g4, 0, none⟩ = some (.int .u8 ky) ∧ Below W.heap.size W wx)
      case first =>
        go_wp2_with fail
        · go_meet
          exact ⟨null, .inl rfl, stores_self (b := null) HF7.out, stores_other (b := null) HF8.out hne, (World.cell?_of_block ((stores_below (b := null) HS.out lg7).block g4 l4)).trans ((World.cell?_of_block (HS.out.block g4 l4)).symm.trans q4), stores_below3 null HBX.out (by omega)⟩
        · go_meet
          exact ⟨p0, HP1.out, HF7.out, HF8.out, q4, HBX.out⟩
      case rest =>
        obtain ⟨p, hp, hf7, hf8, q4, hbx⟩ := hcut
        have c80 := hf8.cell 0; have c81 := hf8.cell 1; have c82 := hf8.cell 2
        have z80 := hf8.frozen 0; have z81 := hf8.frozen 1; have z82 := hf8.frozen 2
        simp only [List.getElem?_cons_zero, List.getElem?_cons_succ] at c80 c81 c82
        have l7 := hf7.lt; have l8 := hf8.lt
        have lg7' : W.heap.size ≤ g7 := by omega
        have lg8' : W.heap.size ≤ g8 := by omega
        have HF7 := Lib.hid hf7; have HF8 := Lib.hid hf8; have HP := Lib.hid hp; have HBX := Lib.hid hbx
        clear hf7 hf8 hp hbx
        go_upto_if 58 with fail
        go_cut [58] from 59 to 59 (fun s58 wx => ∃ q, isP q ∧ Flds wx g7 TV (fl p) ∧ Flds wx g8 TV (fl q) ∧ Below W.heap.size W wx)
        case first =>
          go_wp2_with fail
          · go_meet
            exact ⟨null, .inl rfl, stores_other (b := null) HF7.out (fun e => hne e.symm), stores_self (b := null) HF8.out, stores_below3 null HBX.out lg8'⟩
          · go_meet
            exact ⟨r0, HP2.out, HF7.out, HF8.out, HBX.out⟩
        case rest =>
          obtain ⟨q, hq, hf7, hf8, hbx⟩ := hcut
          obtain ⟨c, o, r, s, h1, h2, h3, h4, h5⟩ : ∃ c o r s, (∀ W, Calls Tryd.prog 12 #[.int .i64 13, vv p, vv q] W fun e w' => e = .returned (.tuple #[vv c, .int .i64 0]) ∧ Below W.heap.size W w') ∧ (∀ W, Calls Tryd.prog 24 #[vv c] W fun e w' => e = .returned (.tuple #[vv o, .int .i64 0]) ∧ Below W.heap.size W w') ∧ (∀ W, Calls Tryd.prog 24 #[vv p] W fun e w' => e = .returned (.tuple #[vv r, .int .i64 0]) ∧ Below W.heap.size W w') ∧ (∀ W, Calls Tryd.prog 24 #[vv q] W fun e w' => e = .returned (.tuple #[vv s, .int .i64 0]) ∧ Below W.heap.size W w') ∧ (∀ W, Calls Tryd.prog 12 #[.int .i64 14, vv r, vv s] W fun e w' => e = .returned (.tuple #[vv o, .int .i64 0]) ∧ Below W.heap.size W w') := by
            have hp := HP.out
            have hc := isP_logic 13 p q hp hq
            refine ⟨logicV 13 p q, notP (logicV 13 p q), notP p, notP q, fun W => ?_, fun W => ?_, fun W => ?_, fun W => ?_, fun W => ?_⟩
            · have := do_ab 13 p q W hp.good hq.good; rw [do_isP 13 p q (.inl rfl) hp hq] at this; exact this
            · have := not_any (logicV 13 p q).k (logicV 13 p q).n (logicV 13 p q).s W; rw [not_isP _ hc] at this; exact this
            · have := not_any p.k p.n p.s W; rw [not_isP p hp] at this; exact this
            · have := not_any q.k q.n q.s W; rw [not_isP q hq] at this; exact this
            · have := do_ab 14 (notP p) (notP q) W (isP_not p hp).good (isP_not q hq).good; rw [do_isP 14 _ _ (.inr rfl) (isP_not p hp) (isP_not q hq), ← morgan p q hp hq] at this; exact this
          have H1 := Lib.hid h1; have H2 := Lib.hid h2; have H3 := Lib.hid h3; have H4 := Lib.hid h4; have H5 := Lib.hid h5
          have hv : veq6 o.k o.n o.s o.k o.n o.s = true := veq_self o
          obtain ⟨t70, t71, t72⟩ := hf7.three
          obtain ⟨t80, t81, t82⟩ := hf8.three
          have l7 := hf7.lt; have l8 := hf8.lt
          have HF7 := Lib.hid hf7; have HF8 := Lib.hid hf8; have HBX := Lib.hid hbx
          clear h1 h2 h3 h4 h5 hf7 hf8 hbx hq
          go_wp2_with fail
          (with_reducible refine (H1.out _).mono ?_); rintro e w1 ⟨rfl, hw1⟩
          go_wp2_with fail
          (with_reducible refine (H2.out _).mono ?_); rintro e w2 ⟨rfl, hw2⟩
          obtain ⟨a70, a71, a72⟩ := ((HF7.out.later hw1).later (after (below_alloc1 w1 _) hw2)).three
          have l7b := ((HF7.out.later hw1).later (after (below_alloc1 w1 _) hw2)).lt
          have hb2 := after (after (after HBX.out hw1) (below_alloc1 w1 _)) hw2
          have HF8b := Lib.hid ((HF8.out.later hw1).later (after (below_alloc1 w1 _) hw2))
          have HB2 := Lib.hid hb2
          clear hw1 hw2 hb2
          go_wp2_with fail
          (with_reducible refine (H3.out _).mono ?_); rintro e w3 ⟨rfl, hw3⟩
          obtain ⟨b80, b81, b82⟩ := (HF8b.out.later (after (below_alloc1 w2 _) hw3)).three
          have l8b := (HF8b.out.later (after (below_alloc1 w2 _) hw3)).lt
          have ho := Lib.hid ((Flds.new w2 TV (fl o)).later hw3)
          have HB3 := Lib.hid (after (after HB2.out (below_alloc1 w2 _)) hw3)
          clear hw3
          go_wp2_with fail
          (with_reducible refine (H4.out _).mono ?_); rintro e w4 ⟨rfl, hw4⟩
          obtain ⟨d0, d1, d2⟩ := ((Flds.new w3 TV (fl r)).later hw4).three
          have ld := ((Flds.new w3 TV (fl r)).later hw4).lt
          have ho4 := Lib.hid (ho.out.later (after (below_alloc1 w3 _) hw4))
          have HB4 := Lib.hid (after (after HB3.out (below_alloc1 w3 _)) hw4)
          clear hw4
          go_wp2_with fail
          (with_reducible refine (H5.out _).mono ?_); rintro e w5 ⟨rfl, hw5⟩
          obtain ⟨f0, f1, f2⟩ := (ho4.out.later (after (below_alloc1 w4 _) hw5)).three
          have lf := (ho4.out.later (after (below_alloc1 w4 _) hw5)).lt
          have HB5 := Lib.hid (after (after HB4.out (below_alloc1 w4 _)) hw5)
          clear hw5
          go_wp2_with fail
          obtain ⟨x7, e7, n1, n2⟩ : ∃ x7 e7, (∀ W, Calls Tryd.prog 12 #[.int .i64 7, ag3 2 a ByteArray.empty, ag3 2 b ByteArray.empty] W fun e w' => e = .returned (.tuple #[vv x7, .int .i64 e7]) ∧ Below W.heap.size W w') ∧ (∀ W, Calls Tryd.prog 12 #[.int .i64 7, ag3 2 b ByteArray.empty, ag3 2 a ByteArray.empty] W fun e w' => e = .returned (.tuple #[vv x7, .int .i64 e7]) ∧ Below W.heap.size W w') := by
            refine ⟨(doV 7 (ofN a) (ofN b)).1, (doV 7 (ofN a) (ofN b)).2, fun W => do_ab 7 (ofN a) (ofN b) W (good_ofN a ha) (good_ofN b hb), fun W => ?_⟩
            rw [num_comm 7 a b (.inl rfl)]
            exact do_ab 7 (ofN b) (ofN a) W (good_ofN b hb) (good_ofN a ha)
          obtain ⟨x9, e9, n3, n4⟩ : ∃ x9 e9, (∀ W, Calls Tryd.prog 12 #[.int .i64 9, ag3 2 a ByteArray.empty, ag3 2 b ByteArray.empty] W fun e w' => e = .returned (.tuple #[vv x9, .int .i64 e9]) ∧ Below W.heap.size W w') ∧ (∀ W, Calls Tryd.prog 12 #[.int .i64 9, ag3 2 b ByteArray.empty, ag3 2 a ByteArray.empty] W fun e w' => e = .returned (.tuple #[vv x9, .int .i64 e9]) ∧ Below W.heap.size W w') := by
            refine ⟨(doV 9 (ofN a) (ofN b)).1, (doV 9 (ofN a) (ofN b)).2, fun W => do_ab 9 (ofN a) (ofN b) W (good_ofN a ha) (good_ofN b hb), fun W => ?_⟩
            rw [num_comm 9 a b (.inr rfl)]
            exact do_ab 9 (ofN b) (ofN a) W (good_ofN b hb) (good_ofN a ha)
          have N1 := Lib.hid n1; have N2 := Lib.hid n2; have N3 := Lib.hid n3; have N4 := Lib.hid n4
          have hv7 : veq6 x7.k x7.n x7.s x7.k x7.n x7.s = true := veq_self x7
          have hv9 : veq6 x9.k x9.n x9.s x9.k x9.n x9.s = true := veq_self x9
          clear n1 n2 n3 n4 d0 d1 d2 b80 b81 b82 a70 a71 a72 t70 t71 t72 t80 t81 t82 f0 f1 f2 hv H1 H2 H3 H4 H5 HF7 HF8 HF8b ho ho4 HB2 HB3 HB4 HP HP1 HP2 HBX
          (with_reducible refine (ofInt_any a _).mono ?_); rintro e w6 ⟨rfl, hw6⟩
          go_wp2_with fail
          (with_reducible refine (ofInt_any b _).mono ?_); rintro e w7 ⟨rfl, hw7⟩
          have hb7 := after (after (after HB5.out (below_alloc1 w5 _)) hw6) hw7
          clear hw6 hw7
          have HA0 : Hid (Flds ((w7.alloc (.cells #[.int .i64 2, .int .i64 a, .string ByteArray.empty] TV)).alloc (.cells #[.int .i64 2, .int .i64 b, .string ByteArray.empty] TV)) w7.heap.size TV [.int .i64 2, .int .i64 a, .string ByteArray.empty]) := Lib.hid ((Flds.new w7 TV [_, _, _]).alloc _)
          have HB0 : Hid (Flds ((w7.alloc (.cells #[.int .i64 2, .int .i64 a, .string ByteArray.empty] TV)).alloc (.cells #[.int .i64 2, .int .i64 b, .string ByteArray.empty] TV)) (w7.heap.size + 1) TV [.int .i64 2, .int .i64 b, .string ByteArray.empty]) := by
            have := Flds.new (w7.alloc (.cells #[.int .i64 2, .int .i64 a, .string ByteArray.empty] TV)) TV [.int .i64 2, .int .i64 b, .string ByteArray.empty]
            rw [World.size_alloc] at this
            exact Lib.hid this
          have HW0 := Lib.hid (after hb7 (below_alloc2 w7 (.cells #[.int .i64 2, .int .i64 a, .string ByteArray.empty] TV) (.cells #[.int .i64 2, .int .i64 b, .string ByteArray.empty] TV)))
          clear hb7 HB5
          go_wp2_with fail
          generalize (w7.alloc (.cells #[.int .i64 2, .int .i64 a, .string ByteArray.empty] TV)).alloc (.cells #[.int .i64 2, .int .i64 b, .string ByteArray.empty] TV) = Y at *
          generalize w7.heap.size + 1 = gb at *
          generalize w7.heap.size = ga at *
          obtain ⟨u0, u1, u2⟩ := HA0.out.cells3
          obtain ⟨v0, v1, v2⟩ := HB0.out.cells3
          have lu := HA0.out.lt
          have lv := HB0.out.lt
          refine wp_loop_rounds 3 ?_
          rw [rounds_succ]
          go_wp2_with fail
          (with_reducible refine (N1.out _).mono ?_); rintro e w8a ⟨rfl, hw8a⟩
          obtain ⟨u0, u1, u2⟩ := (HA0.out.later hw8a).cells3
          obtain ⟨v0, v1, v2⟩ := (HB0.out.later hw8a).cells3
          have lu := (HA0.out.later hw8a).lt
          have lv := (HB0.out.later hw8a).lt
          have HAm := Lib.hid (HA0.out.later hw8a); have HBm := Lib.hid (HB0.out.later hw8a)
          have HWm := Lib.hid (after HW0.out hw8a)
          clear hw8a
          go_wp2_with fail
          (with_reducible refine (N2.out _).mono ?_); rintro e w8 ⟨rfl, hw8⟩
          obtain ⟨s0, s1, s2⟩ := ((Flds.new w8a TV (fl x7)).later hw8).three
          have ls := ((Flds.new w8a TV (fl x7)).later hw8).lt
          have HAw8' := Lib.hid ((HAm.out.later (below_alloc1 w8a _)).later hw8); have HBw8' := Lib.hid ((HBm.out.later (below_alloc1 w8a _)).later hw8)
          have HWw8' := Lib.hid (after (after HWm.out (below_alloc1 w8a _)) hw8)
          clear hw8 HAm HBm HWm u0 u1 u2 v0 v1 v2
          go_wp2_with fail
          have HAw8 := Lib.hid (HAw8'.out.later (below_alloc1 w8 (.cells #[.int .i64 x7.k, .int .i64 x7.n, .string x7.s] TV))); have HBw8 := Lib.hid (HBw8'.out.later (below_alloc1 w8 (.cells #[.int .i64 x7.k, .int .i64 x7.n, .string x7.s] TV))); have HWw8 := Lib.hid (after HWw8'.out (below_alloc1 w8 (.cells #[.int .i64 x7.k, .int .i64 x7.n, .string x7.s] TV)))
          obtain ⟨u0, u1, u2⟩ := HAw8.out.cells3
          obtain ⟨v0, v1, v2⟩ := HBw8.out.cells3
          have lu := HAw8.out.lt
          have lv := HBw8.out.lt
          rw [rounds_succ]
          go_wp2_with fail
          (with_reducible refine (N3.out _).mono ?_); rintro e w9a ⟨rfl, hw9a⟩
          obtain ⟨u0, u1, u2⟩ := (HAw8.out.later hw9a).cells3
          obtain ⟨v0, v1, v2⟩ := (HBw8.out.later hw9a).cells3
          have lu := (HAw8.out.later hw9a).lt
          have lv := (HBw8.out.later hw9a).lt
          have HAm := Lib.hid (HAw8.out.later hw9a); have HBm := Lib.hid (HBw8.out.later hw9a)
          have HWm := Lib.hid (after HWw8.out hw9a)
          clear hw9a
          go_wp2_with fail
          (with_reducible refine (N4.out _).mono ?_); rintro e w9 ⟨rfl, hw9⟩
          obtain ⟨s0, s1, s2⟩ := ((Flds.new w9a TV (fl x9)).later hw9).three
          have ls := ((Flds.new w9a TV (fl x9)).later hw9).lt
          have HAw9' := Lib.hid ((HAm.out.later (below_alloc1 w9a _)).later hw9); have HBw9' := Lib.hid ((HBm.out.later (below_alloc1 w9a _)).later hw9)
          have HWw9' := Lib.hid (after (after HWm.out (below_alloc1 w9a _)) hw9)
          clear hw9 HAm HBm HWm u0 u1 u2 v0 v1 v2
          go_wp2_with fail
          have HAw9 := Lib.hid (HAw9'.out.later (below_alloc1 w9 (.cells #[.int .i64 x9.k, .int .i64 x9.n, .string x9.s] TV))); have HBw9 := Lib.hid (HBw9'.out.later (below_alloc1 w9 (.cells #[.int .i64 x9.k, .int .i64 x9.n, .string x9.s] TV))); have HWw9 := Lib.hid (after HWw9'.out (below_alloc1 w9 (.cells #[.int .i64 x9.k, .int .i64 x9.n, .string x9.s] TV)))
          obtain ⟨u0, u1, u2⟩ := HAw9.out.cells3
          obtain ⟨v0, v1, v2⟩ := HBw9.out.cells3
          have lu := HAw9.out.lt
          have lv := HBw9.out.lt
          rw [rounds_succ]
          go_wp2_with fail
          clear N1 N2 N3 N4 HM
          by_cases hb0 : b = 0
          · subst hb0
            have z1 := do_z 10 a (.inl rfl)
            have z2 := do_z 11 a (.inr rfl)
            have m1 : ∀ W, Calls Tryd.prog 12 #[.int .i64 10, ag3 2 a ByteArray.empty, ag3 2 0 ByteArray.empty] W fun e w' => e = .returned (.tuple #[ag3 0 0 ByteArray.empty, .int .i64 9]) ∧ Below W.heap.size W w' := fun W => by have := do_ab 10 (ofN a) (ofN 0) W (good_ofN a ha) (good_ofN 0 hb); rw [z1] at this; exact this
            have m2 : ∀ W, Calls Tryd.prog 12 #[.int .i64 11, ag3 2 a ByteArray.empty, ag3 2 0 ByteArray.empty] W fun e w' => e = .returned (.tuple #[ag3 0 0 ByteArray.empty, .int .i64 9]) ∧ Below W.heap.size W w' := fun W => by have := do_ab 11 (ofN a) (ofN 0) W (good_ofN a ha) (good_ofN 0 hb); rw [z2] at this; exact this
            have M1 := Lib.hid m1; have M2 := Lib.hid m2
            clear m1 m2
            (with_reducible refine (M1.out _).mono ?_); rintro e v1 ⟨rfl, hv1⟩
            obtain ⟨u0, u1, u2⟩ := (HAw9.out.later hv1).cells3
            obtain ⟨v0, v1', v2⟩ := (HBw9.out.later hv1).cells3
            have lu := (HAw9.out.later hv1).lt
            have lv := (HBw9.out.later hv1).lt
            have HV1 := Lib.hid (after HWw9.out hv1)
            clear hv1
            go_wp2_with fail
            (with_reducible refine (M2.out _).mono ?_); rintro e v2w ⟨rfl, hv2⟩
            obtain ⟨k0, k1, k2⟩ := ((Flds.new v1 TV [_, _, _]).later hv2 : Flds v2w v1.heap.size TV [.int .i64 0, .int .i64 0, .string ByteArray.empty]).cells3
            have lk := ((Flds.new v1 TV [.int .i64 0, .int .i64 0, .string ByteArray.empty]).later hv2).lt
            have HV2 := Lib.hid (after (after HV1.out (below_alloc1 v1 _)) hv2)
            clear hv2
            go_wp2_with fail
            have HVX := Lib.hid (after HV2.out (below_alloc1 v2w (.cells #[.int .i64 0, .int .i64 0, .string ByteArray.empty] TV)))
            generalize v2w.alloc (.cells #[.int .i64 0, .int .i64 0, .string ByteArray.empty] TV) = Z at *
            refine ag.region_ag (fun W1 => Below Z.heap.size Z W1) (fun _ _ _ _ => True)
              [.val (.int .i64 0), .val (.bool true), .val (.bool true), .val (.int .i64 9), .val (.bool true), .val (.bool true), .val (.bool true), .val undef, .val undef, .val undef, .val undef, .val undef, .val undef, .val undef, .val undef, .val undef, .val undef, .val undef, .val undef, .val undef, .val undef, .val undef, .val (.bool true), .val (.bool true)]
              (by kernel_rfl) (by kernel_rfl) rfl (⟨rfl, rfl, rfl, Nat.le_refl _, fun _ _ => rfl⟩) ?hstz ?hkz ?hwalkz
            case hstz =>
              simp only [ag.Stab, ag.Row2, ag.Ok2, and_true]
              repeat' apply And.intro
              all_goals first
                | exact fun h => absurd rfl h
                | exact fun _ _ f v W W' hS hv _ ht => hv
                | trivial
            case hkz =>
              simp only [ag.Keeps, and_true]
            case hwalkz =>
              refine ag.walk_val (by rfl) (fun W1 hS hE => ?_) ?_
              rotate_left; simp only [Act.put, List.setIfInBounds_toArray, List.set_cons_zero, List.set_cons_succ]; rotate_left
              · clear hS hE
                unfold ag.does
                go_simp
                try exact ⟨rfl, rfl⟩
              refine ag.walk_val (by rfl) (fun W1 hS hE => ?_) ?_
              rotate_left; simp only [Act.put, List.setIfInBounds_toArray, List.set_cons_zero, List.set_cons_succ]; rotate_left
              · clear hS hE
                unfold ag.does
                go_simp
                try exact ⟨rfl, rfl⟩
              refine ag.walk_val (by rfl) (fun W1 hS hE => ?_) ?_
              rotate_left; simp only [Act.put, List.setIfInBounds_toArray, List.set_cons_zero, List.set_cons_succ]; rotate_left
              · clear hS hE
                unfold ag.does
                go_simp
                try exact ⟨rfl, rfl⟩
              refine ag.walk_val (by rfl) (fun W1 hS hE => ?_) ?_
              rotate_left; simp only [Act.put, List.setIfInBounds_toArray, List.set_cons_zero, List.set_cons_succ]; rotate_left
              · clear hS hE
                unfold ag.does
                go_simp
                try exact ⟨rfl, rfl⟩
              refine ag.walk_val (by rfl) (fun W1 hS hE => ?_) ?_
              rotate_left; simp only [Act.put, List.setIfInBounds_toArray, List.set_cons_zero, List.set_cons_succ]; rotate_left
              · clear hS hE
                unfold ag.does
                go_simp
                try exact ⟨rfl, rfl⟩
              refine ag.walk_val (by rfl) (fun W1 hS hE => ?_) ?_
              rotate_left; simp only [Act.put, List.setIfInBounds_toArray, List.set_cons_zero, List.set_cons_succ]; rotate_left
              · clear hS hE
                unfold ag.does
                go_simp
                try exact ⟨rfl, rfl⟩
              refine ag.walk_val (by rfl) (fun W1 hS hE => ?_) ?_
              rotate_left; simp only [Act.put, List.setIfInBounds_toArray, List.set_cons_zero, List.set_cons_succ]; rotate_left
              · clear hS hE
                unfold ag.does
                go_simp
                try exact ⟨rfl, rfl⟩
              refine ag.walk_skip (by rfl) ?_
              simp only [Act.put, List.setIfInBounds_toArray, List.set_cons_zero, List.set_cons_succ]
              refine ag.walk_skip (by rfl) ?_
              simp only [Act.put, List.setIfInBounds_toArray, List.set_cons_zero, List.set_cons_succ]
              refine ag.walk_skip (by rfl) ?_
              simp only [Act.put, List.setIfInBounds_toArray, List.set_cons_zero, List.set_cons_succ]
              refine ag.walk_skip (by rfl) ?_
              simp only [Act.put, List.setIfInBounds_toArray, List.set_cons_zero, List.set_cons_succ]
              refine ag.walk_skip (by rfl) ?_
              simp only [Act.put, List.setIfInBounds_toArray, List.set_cons_zero, List.set_cons_succ]
              refine ag.walk_skip (by rfl) ?_
              simp only [Act.put, List.setIfInBounds_toArray, List.set_cons_zero, List.set_cons_succ]
              refine ag.walk_skip (by rfl) ?_
              simp only [Act.put, List.setIfInBounds_toArray, List.set_cons_zero, List.set_cons_succ]
              refine ag.walk_skip (by rfl) ?_
              simp only [Act.put, List.setIfInBounds_toArray, List.set_cons_zero, List.set_cons_succ]
              refine ag.walk_skip (by rfl) ?_
              simp only [Act.put, List.setIfInBounds_toArray, List.set_cons_zero, List.set_cons_succ]
              refine ag.walk_skip (by rfl) ?_
              simp only [Act.put, List.setIfInBounds_toArray, List.set_cons_zero, List.set_cons_succ]
              refine ag.walk_skip (by rfl) ?_
              simp only [Act.put, List.setIfInBounds_toArray, List.set_cons_zero, List.set_cons_succ]
              refine ag.walk_skip (by rfl) ?_
              simp only [Act.put, List.setIfInBounds_toArray, List.set_cons_zero, List.set_cons_succ]
              refine ag.walk_skip (by rfl) ?_
              simp only [Act.put, List.setIfInBounds_toArray, List.set_cons_zero, List.set_cons_succ]
              refine ag.walk_skip (by rfl) ?_
              simp only [Act.put, List.setIfInBounds_toArray, List.set_cons_zero, List.set_cons_succ]
              refine ag.walk_skip (by rfl) ?_
              simp only [Act.put, List.setIfInBounds_toArray, List.set_cons_zero, List.set_cons_succ]
              refine ag.walk_val (by rfl) (fun W1 hS hE => ?_) ?_
              rotate_left; simp only [Act.put, List.setIfInBounds_toArray, List.set_cons_zero, List.set_cons_succ]; rotate_left
              · clear hS hE
                unfold ag.does
                go_simp
                try exact ⟨rfl, rfl⟩
              refine ag.walk_val (by rfl) (fun W1 hS hE => ?_) ?_
              rotate_left; simp only [Act.put, List.setIfInBounds_toArray, List.set_cons_zero, List.set_cons_succ]; rotate_left
              · clear hS hE
                unfold ag.does
                go_simp
                try exact ⟨rfl, rfl⟩
              refine ag.walk_nil (fun w7 hS hF' hP => ?_)
              clear hF' hP
              have HS := Lib.hid hS
              clear hS
              go_wp2
              go_ret
              exact ⟨rfl, after HVX.out HS.out⟩
          · by_cases hm1 : a = -9223372036854775808 ∧ b = -1
            · obtain ⟨rfl, rfl⟩ := hm1
              have z1 := do_m10
              have z2 := do_m11
              have HVZ := Lib.hid (veq_same 2 0 ByteArray.empty)
              have m1 : ∀ W, Calls Tryd.prog 12 #[.int .i64 10, ag3 2 (-9223372036854775808) ByteArray.empty, ag3 2 (-1) ByteArray.empty] W fun e w' => e = .returned (.tuple #[ag3 0 0 ByteArray.empty, .int .i64 8]) ∧ Below W.heap.size W w' := fun W => by have := do_ab 10 (ofN (-9223372036854775808)) (ofN (-1)) W (good_ofN _ ha) (good_ofN _ hb); rw [z1] at this; exact this
              have m2 : ∀ W, Calls Tryd.prog 12 #[.int .i64 11, ag3 2 (-9223372036854775808) ByteArray.empty, ag3 2 (-1) ByteArray.empty] W fun e w' => e = .returned (.tuple #[ag3 2 0 ByteArray.empty, .int .i64 0]) ∧ Below W.heap.size W w' := fun W => by have := do_ab 11 (ofN (-9223372036854775808)) (ofN (-1)) W (good_ofN _ ha) (good_ofN _ hb); rw [z2] at this; exact this
              have M1 := Lib.hid m1; have M2 := Lib.hid m2
              clear m1 m2
              (with_reducible refine (M1.out _).mono ?_); rintro e v1 ⟨rfl, hv1⟩
              obtain ⟨u0, u1, u2⟩ := (HAw9.out.later hv1).cells3
              obtain ⟨v0, v1', v2⟩ := (HBw9.out.later hv1).cells3
              have lu := (HAw9.out.later hv1).lt
              have lv := (HBw9.out.later hv1).lt
              have HV1 := Lib.hid (after HWw9.out hv1)
              clear hv1
              go_wp2_with fail
              (with_reducible refine (M2.out _).mono ?_); rintro e v2w ⟨rfl, hv2⟩
              obtain ⟨k0, k1, k2⟩ := ((Flds.new v1 TV [_, _, _]).later hv2 : Flds v2w v1.heap.size TV [.int .i64 0, .int .i64 0, .string ByteArray.empty]).cells3
              have lk := ((Flds.new v1 TV [.int .i64 0, .int .i64 0, .string ByteArray.empty]).later hv2).lt
              have HV2 := Lib.hid (after (after HV1.out (below_alloc1 v1 _)) hv2)
              clear hv2
              go_wp2_with fail
              have HVX := Lib.hid (after HV2.out (below_alloc1 v2w (.cells #[.int .i64 2, .int .i64 0, .string ByteArray.empty] TV)))
              have hnew := Flds.new v2w TV [.int .i64 2, .int .i64 0, .string ByteArray.empty]
              have K0 := Lib.hid hnew.cells3.1; have K1 := Lib.hid hnew.cells3.2.1; have K2 := Lib.hid hnew.cells3.2.2
              clear hnew
              generalize v2w.alloc (.cells #[.int .i64 2, .int .i64 0, .string ByteArray.empty] TV) = Z at *
              generalize v2w.heap.size = gz at *
              refine ag.region_ag (fun W1 => Below Z.heap.size Z W1) (fun _ _ _ _ => True)
                [.val (.int .i64 (-1)), .val (.bool false), .val (.bool false), .val undef, .val undef, .val (.bool false), .val (.bool false), .val (.int .i64 (-1)), .val (.bool true), .val (.bool true), .val (.int .i64 8), .val (.bool true), .val (.bool true), .val (.bool true), .val (.int .i64 0), .val (.bool true), .val (.bool true), .val (.bool true), .val (ag3 2 0 ByteArray.empty), .sat (fun v _ => v = ag3 2 0 ByteArray.empty) (fun _ w w' => Below w.heap.size w w'), .val (.bool true), .val (.bool true), .val (.bool true), .val (.bool true)]
                (by kernel_rfl) (by kernel_rfl) rfl (⟨rfl, rfl, rfl, Nat.le_refl _, fun _ _ => rfl⟩) ?hstm ?hkm ?hwalkm
              case hstm =>
                simp only [ag.Stab, ag.Row2, ag.Ok2, and_true]
                repeat' apply And.intro
                all_goals first
                  | exact fun h => absurd rfl h
                  | exact fun _ _ f v W W' hS hv _ ht => hv
                  | trivial
              case hkm =>
                simp only [ag.Keeps, and_true]
                exact fun f W1 W2 hS _ ht => hS.trans (ht.mono hS.size)
              case hwalkm =>
                refine ag.walk_val (by rfl) (fun W1 hS hE => ?_) ?_
                rotate_left; simp only [Act.put, List.setIfInBounds_toArray, List.set_cons_zero, List.set_cons_succ]; rotate_left
                · clear hS hE
                  unfold ag.does
                  go_simp
                  try exact ⟨rfl, rfl⟩
                refine ag.walk_val (by rfl) (fun W1 hS hE => ?_) ?_
                rotate_left; simp only [Act.put, List.setIfInBounds_toArray, List.set_cons_zero, List.set_cons_succ]; rotate_left
                · clear hS hE
                  unfold ag.does
                  go_simp
                  try exact ⟨rfl, rfl⟩
                refine ag.walk_val (by rfl) (fun W1 hS hE => ?_) ?_
                rotate_left; simp only [Act.put, List.setIfInBounds_toArray, List.set_cons_zero, List.set_cons_succ]; rotate_left
                · clear hS hE
                  unfold ag.does
                  go_simp
                  try exact ⟨rfl, rfl⟩
                refine ag.walk_skip (by rfl) ?_
                simp only [Act.put, List.setIfInBounds_toArray, List.set_cons_zero, List.set_cons_succ]
                refine ag.walk_skip (by rfl) ?_
                simp only [Act.put, List.setIfInBounds_toArray, List.set_cons_zero, List.set_cons_succ]
                refine ag.walk_val (by rfl) (fun W1 hS hE => ?_) ?_
                rotate_left; simp only [Act.put, List.setIfInBounds_toArray, List.set_cons_zero, List.set_cons_succ]; rotate_left
                · clear hS hE
                  unfold ag.does
                  go_simp
                  try exact ⟨rfl, rfl⟩
                refine ag.walk_val (by rfl) (fun W1 hS hE => ?_) ?_
                rotate_left; simp only [Act.put, List.setIfInBounds_toArray, List.set_cons_zero, List.set_cons_succ]; rotate_left
                · clear hS hE
                  unfold ag.does
                  go_simp
                  try exact ⟨rfl, rfl⟩
                refine ag.walk_val (by rfl) (fun W1 hS hE => ?_) ?_
                rotate_left; simp only [Act.put, List.setIfInBounds_toArray, List.set_cons_zero, List.set_cons_succ]; rotate_left
                · clear hS hE
                  unfold ag.does
                  go_simp
                  try exact ⟨rfl, rfl⟩
                refine ag.walk_val (by rfl) (fun W1 hS hE => ?_) ?_
                rotate_left; simp only [Act.put, List.setIfInBounds_toArray, List.set_cons_zero, List.set_cons_succ]; rotate_left
                · clear hS hE
                  unfold ag.does
                  go_simp
                  try exact ⟨rfl, rfl⟩
                refine ag.walk_val (by rfl) (fun W1 hS hE => ?_) ?_
                rotate_left; simp only [Act.put, List.setIfInBounds_toArray, List.set_cons_zero, List.set_cons_succ]; rotate_left
                · clear hS hE
                  unfold ag.does
                  go_simp
                  try exact ⟨rfl, rfl⟩
                refine ag.walk_val (by rfl) (fun W1 hS hE => ?_) ?_
                rotate_left; simp only [Act.put, List.setIfInBounds_toArray, List.set_cons_zero, List.set_cons_succ]; rotate_left
                · clear hS hE
                  unfold ag.does
                  go_simp
                  try exact ⟨rfl, rfl⟩
                refine ag.walk_val (by rfl) (fun W1 hS hE => ?_) ?_
                rotate_left; simp only [Act.put, List.setIfInBounds_toArray, List.set_cons_zero, List.set_cons_succ]; rotate_left
                · clear hS hE
                  unfold ag.does
                  go_simp
                  try exact ⟨rfl, rfl⟩
                refine ag.walk_val (by rfl) (fun W1 hS hE => ?_) ?_
                rotate_left; simp only [Act.put, List.setIfInBounds_toArray, List.set_cons_zero, List.set_cons_succ]; rotate_left
                · clear hS hE
                  unfold ag.does
                  go_simp
                  try exact ⟨rfl, rfl⟩
                refine ag.walk_val (by rfl) (fun W1 hS hE => ?_) ?_
                rotate_left; simp only [Act.put, List.setIfInBounds_toArray, List.set_cons_zero, List.set_cons_succ]; rotate_left
                · clear hS hE
                  unfold ag.does
                  go_simp
                  try exact ⟨rfl, rfl⟩
                refine ag.walk_val (by rfl) (fun W1 hS hE => ?_) ?_
                rotate_left; simp only [Act.put, List.setIfInBounds_toArray, List.set_cons_zero, List.set_cons_succ]; rotate_left
                · clear hS hE
                  unfold ag.does
                  go_simp
                  try exact ⟨rfl, rfl⟩
                refine ag.walk_val (by rfl) (fun W1 hS hE => ?_) ?_
                rotate_left; simp only [Act.put, List.setIfInBounds_toArray, List.set_cons_zero, List.set_cons_succ]; rotate_left
                · clear hS hE
                  unfold ag.does
                  go_simp
                  try exact ⟨rfl, rfl⟩
                refine ag.walk_val (by rfl) (fun W1 hS hE => ?_) ?_
                rotate_left; simp only [Act.put, List.setIfInBounds_toArray, List.set_cons_zero, List.set_cons_succ]; rotate_left
                · clear hS hE
                  unfold ag.does
                  go_simp
                  try exact ⟨rfl, rfl⟩
                refine ag.walk_val (by rfl) (fun W1 hS hE => ?_) ?_
                rotate_left; simp only [Act.put, List.setIfInBounds_toArray, List.set_cons_zero, List.set_cons_succ]; rotate_left
                · clear hS hE
                  unfold ag.does
                  go_simp
                  try exact ⟨rfl, rfl⟩
                refine ag.walk_val (by rfl) (fun W1 hS hE => ?_) ?_
                rotate_left; simp only [Act.put, List.setIfInBounds_toArray, List.set_cons_zero, List.set_cons_succ]; rotate_left
                · have c0 := cell_later hS K0.out; have c1 := cell_later hS K1.out; have c2 := cell_later hS K2.out
                  clear hS hE
                  unfold ag.does
                  go_simp
                  try exact ⟨rfl, rfl⟩
                refine ag.walk_sat (by rfl) (fun W1 hS hE => ?_) (fun y1 => ?_)
                rotate_left; simp only [Act.put, List.setIfInBounds_toArray, List.set_cons_zero, List.set_cons_succ]; rotate_left
                · clear hS hE
                  unfold ag.does
                  go_simp
                  refine (ofInt_any 0 _).mono ?_
                  rintro e W2 ⟨rfl, hb⟩
                  exact ⟨_, rfl, rfl, hb, ag.News.none (fun _ _ => trivial) _ _⟩
                refine ag.walk_val (by rfl) (fun W1 hS hE => ?_) ?_
                rotate_left; simp only [Act.put, List.setIfInBounds_toArray, List.set_cons_zero, List.set_cons_succ]; rotate_left
                · have h1 : y1 = ag3 2 0 ByteArray.empty := hE.get (by kernel_rfl)
                  subst h1
                  clear hS hE
                  unfold ag.does
                  go_simp
                  first | exact HVZ.out | exact ⟨HVZ.out, rfl⟩
                refine ag.walk_val (by rfl) (fun W1 hS hE => ?_) ?_
                rotate_left; simp only [Act.put, List.setIfInBounds_toArray, List.set_cons_zero, List.set_cons_succ]; rotate_left
                · clear hS hE
                  unfold ag.does
                  go_simp
                  try exact ⟨rfl, rfl⟩
                refine ag.walk_val (by rfl) (fun W1 hS hE => ?_) ?_
                rotate_left; simp only [Act.put, List.setIfInBounds_toArray, List.set_cons_zero, List.set_cons_succ]; rotate_left
                · clear hS hE
                  unfold ag.does
                  go_simp
                  try exact ⟨rfl, rfl⟩
                refine ag.walk_val (by rfl) (fun W1 hS hE => ?_) ?_
                rotate_left; simp only [Act.put, List.setIfInBounds_toArray, List.set_cons_zero, List.set_cons_succ]; rotate_left
                · clear hS hE
                  unfold ag.does
                  go_simp
                  try exact ⟨rfl, rfl⟩
                refine ag.walk_nil (fun w7 hS hF' hP => ?_)
                clear hF' hP
                have HS := Lib.hid hS
                clear hS
                go_wp2
                go_ret
                exact ⟨rfl, after HVX.out HS.out⟩
            · have z1 := do_d ha hb0 hm1
              have z2 := do_r (a := a) hb hb0
              have hds := div_sum (b := b) ha
              have HDS := Lib.hid hds
              clear hds
              have m1 : ∀ W, Calls Tryd.prog 12 #[.int .i64 10, ag3 2 a ByteArray.empty, ag3 2 b ByteArray.empty] W fun e w' => e = .returned (.tuple #[ag3 2 (a.tdiv b) ByteArray.empty, .int .i64 0]) ∧ Below W.heap.size W w' := fun W => by have := do_ab 10 (ofN a) (ofN b) W (good_ofN a ha) (good_ofN b hb); rw [z1] at this; exact this
              have m2 : ∀ W, Calls Tryd.prog 12 #[.int .i64 11, ag3 2 a ByteArray.empty, ag3 2 b ByteArray.empty] W fun e w' => e = .returned (.tuple #[ag3 2 (a.tmod b) ByteArray.empty, .int .i64 0]) ∧ Below W.heap.size W w' := fun W => by have := do_ab 11 (ofN a) (ofN b) W (good_ofN a ha) (good_ofN b hb); rw [z2] at this; exact this
              have M1 := Lib.hid m1; have M2 := Lib.hid m2
              clear m1 m2
              (with_reducible refine (M1.out _).mono ?_); rintro e v1 ⟨rfl, hv1⟩
              obtain ⟨u0, u1, u2⟩ := (HAw9.out.later hv1).cells3
              obtain ⟨v0, v1', v2⟩ := (HBw9.out.later hv1).cells3
              have lu := (HAw9.out.later hv1).lt
              have lv := (HBw9.out.later hv1).lt
              have HV1 := Lib.hid (after HWw9.out hv1)
              clear hv1
              go_wp2_with fail
              (with_reducible refine (M2.out _).mono ?_); rintro e v2w ⟨rfl, hv2⟩
              obtain ⟨k0, k1, k2⟩ := ((Flds.new v1 TV [_, _, _]).later hv2 : Flds v2w v1.heap.size TV [.int .i64 2, .int .i64 (a.tdiv b), .string ByteArray.empty]).cells3
              have lk := ((Flds.new v1 TV [.int .i64 2, .int .i64 (a.tdiv b), .string ByteArray.empty]).later hv2).lt
              have HV2 := Lib.hid (after (after HV1.out (below_alloc1 v1 _)) hv2)
              clear hv2
              go_wp2_with fail
              have HVX := Lib.hid (after HV2.out (below_alloc1 v2w (.cells #[.int .i64 2, .int .i64 (a.tmod b), .string ByteArray.empty] TV)))
              go_ret
              exact ⟨ret_bool (by rw [HDS.out.1, HDS.out.2]; simp), HVX.out⟩

end Go.Proofs.YtpkkhbmlclicfaaDoor.val
