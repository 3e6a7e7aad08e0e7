/- Two rows compared, walked. -/
import Derived.Test.YtpkkhbmlclicfaaME
import Derived.Sort.Grow
namespace Go.Proofs.Ytpkkhbmlclicfaa.val
set_option linter.unusedVariables false
open Go.RowKit
attribute [local go_sem] ag.upon_value ag.upon_skip ag.upon_enter
attribute [local go_sem] Oper.semAt_some
/-- draws and new blocks, nothing else -/
def Grows (W W' : World) : Prop := Below W.heap.size W W' ∧ W.drawn ≤ W'.drawn
theorem Grows.refl (W : World) : Grows W W := ⟨Below.refl _ _, Nat.le_refl _⟩
theorem Grows.trans {a b c : World} (h : Grows a b) (k : Grows b c) : Grows a c := ⟨h.1.trans (k.1.mono h.1.size), Nat.le_trans h.2 k.2⟩
theorem Grows.alloc {a b : World} (h : Grows a b) (o : Go.Obj) : Grows a (b.alloc o) := ⟨h.1.alloc h.1.size o, h.2⟩
theorem Grows.drew {a b : World} (h : Grows a b) : Grows a b.drew := ⟨h.1.drew, Nat.le_succ_of_le h.2⟩
theorem grows_alloc2 (W : World) (o o' : Go.Obj) : Grows W ((W.alloc o).alloc o') := ((Grows.refl W).alloc o).alloc o'
theorem Grows.form {W W' : World} (h : Grows W W') : ∃ q os, W' = Go.Sort.grow (W.drewN q) os := by
  obtain ⟨⟨h1, h2, h3, h4, h5⟩, h6⟩ := h
  refine ⟨W'.drawn - W.drawn, W'.heap.extract W.heap.size W'.heap.size, ?_⟩
  have e : W'.heap = W.heap ++ W'.heap.extract W.heap.size W'.heap.size := by
    apply Array.ext_getElem?
    intro k
    by_cases hk : k < W.heap.size
    · rw [Array.getElem?_append_left hk, h5 k hk]
    · rw [Array.getElem?_append_right (by omega), Array.getElem?_extract]
      by_cases hk2 : k < W'.heap.size
      · rw [if_pos (by omega), show W.heap.size + (k - W.heap.size) = k by omega]
      · rw [if_neg (by omega), Array.getElem?_eq_none (by omega)]
  have e2 : W'.drawn = W.drawn + (W'.drawn - W.drawn) := by omega
  cases W' with | mk heap tape drawn os output =>
  dsimp only at *
  unfold Go.Sort.grow World.drewN
  simp only [World.mk.injEq]
  exact ⟨e, h2, e2, h1, h3⟩
set_option maxRecDepth 100000 in
set_option maxHeartbeats 2000000 in
theorem compare_grows (ka na kb nb : Int) (sa sb : ByteArray) (W : World) : Calls Try.prog 39 #[ag3 ka na sa, ag3 kb nb sb] W fun e w' => e = .returned (.int .i64 (cmpV ⟨ka, na, sa⟩ ⟨kb, nb, sb⟩)) ∧ Grows W w' := by
  have e : or3 (cmpI ka kb) (cmpI na nb) (cmpS sa sb) = cmpV ⟨ka, na, sa⟩ ⟨kb, nb, sb⟩ := rfl
  rw [← e]
  clear e
  obtain ⟨x, hx⟩ : ∃ x, cmpI ka kb = x := ⟨_, rfl⟩
  obtain ⟨y, hy⟩ : ∃ y, cmpI na nb = y := ⟨_, rfl⟩
  obtain ⟨z, hz⟩ : ∃ z, cmpS sa sb = z := ⟨_, rfl⟩
  rw [hx, hy, hz]
  have Hx := Lib.hid hx; have Hy := Lib.hid hy; have Hz := Lib.hid hz
  clear hx hy hz
  go_enter Try.func39, Try.ntmps39
  go_wp2
  have hb1 : ∀ i v, [Value.int .i64 kb, .int .i64 nb, .string sb][i]? = some v → ((W.alloc (.cells #[.int .i64 ka, .int .i64 na, .string sa] TV)).alloc (.cells #[.int .i64 kb, .int .i64 nb, .string sb] TV)).cell? ⟨W.heap.size + 1, i, none⟩ = some v := fun i v h => by
    have := cells_new (W.alloc (.cells #[.int .i64 ka, .int .i64 na, .string sa] TV)) [Value.int .i64 kb, .int .i64 nb, .string sb] TV i
    rw [World.size_alloc] at this
    exact this.trans h
  have hb0 : ∀ i v, [Value.int .i64 ka, .int .i64 na, .string sa][i]? = some v → ((W.alloc (.cells #[.int .i64 ka, .int .i64 na, .string sa] TV)).alloc (.cells #[.int .i64 kb, .int .i64 nb, .string sb] TV)).cell? ⟨W.heap.size, i, none⟩ = some v := fun i v h => by
    exact cell_later ((Below.refl _ _).alloc (Nat.le_refl _) _) ((cells_new W [Value.int .i64 ka, .int .i64 na, .string sa] TV i).trans h)
  have HC00 := Lib.hid (hb0 0 _ rfl); have HC10 := Lib.hid (hb0 1 _ rfl); have HC20 := Lib.hid (hb0 2 _ rfl)
  have HC01 := Lib.hid (hb1 0 _ rfl); have HC11 := Lib.hid (hb1 1 _ rfl); have HC21 := Lib.hid (hb1 2 _ rfl)
  have HBB := Lib.hid (grows_alloc2 W (.cells #[.int .i64 ka, .int .i64 na, .string sa] TV) (.cells #[.int .i64 kb, .int .i64 nb, .string sb] TV))
  clear hb0 hb1
  generalize (W.alloc (.cells #[.int .i64 ka, .int .i64 na, .string sa] TV)).alloc (.cells #[.int .i64 kb, .int .i64 nb, .string sb] TV) = X at *
  refine ag.region_ag (fun W1 => Grows X W1) (fun _ _ _ _ => True)
    [.val (.pointer (some ⟨W.heap.size, 0, none⟩)), .val (.int .i64 ka), .val (.pointer (some ⟨W.heap.size + 1, 0, none⟩)), .val (.int .i64 kb), .val (.int .i64 x), .val (.pointer (some ⟨W.heap.size, 1, none⟩)), .val (.int .i64 na), .val (.pointer (some ⟨W.heap.size + 1, 1, none⟩)), .val (.int .i64 nb), .val (.int .i64 y), .val (.pointer (some ⟨W.heap.size, 2, none⟩)), .val (.string sa), .val (.pointer (some ⟨W.heap.size + 1, 2, none⟩)), .val (.string sb), .val (.int .i64 z), .sat (three x y z) (fun _ w w' => Grows w w'), .val (.int .i64 (or3 x y z)), .val (.int .i64 (or3 x y z))]
    (by kernel_rfl) (by kernel_rfl) rfl ((Grows.refl X).drew) ?hst ?hk ?hwalk
  case hst =>
    simp only [ag.Stab, ag.Row2, ag.Ok2, and_true]
    repeat' apply And.intro
    all_goals first
      | exact fun h => absurd rfl h
      | trivial
  case hk =>
    simp only [ag.Keeps, and_true]
    exact fun f W1 W2 hS _ ht => hS.trans ht
  case hwalk =>
    refine ag.walk_val (by rfl) (fun W1 hS hE => ?_) ?_
    rotate_left; simp only [Act.put, List.setIfInBounds_toArray, List.set_cons_zero, List.set_cons_succ]; rotate_left
    · clear hS hE
      unfold ag.does
      go_simp
      try exact ⟨rfl, rfl⟩
    refine ag.walk_val (by rfl) (fun W1 hS hE => ?_) ?_
    rotate_left; simp only [Act.put, List.setIfInBounds_toArray, List.set_cons_zero, List.set_cons_succ]; rotate_left
    · have c0 := cell_later hS.1 HC00.out
      clear hS hE
      unfold ag.does
      go_simp
      try exact ⟨rfl, rfl⟩
    refine ag.walk_val (by rfl) (fun W1 hS hE => ?_) ?_
    rotate_left; simp only [Act.put, List.setIfInBounds_toArray, List.set_cons_zero, List.set_cons_succ]; rotate_left
    · clear hS hE
      unfold ag.does
      go_simp
      try exact ⟨rfl, rfl⟩
    refine ag.walk_val (by rfl) (fun W1 hS hE => ?_) ?_
    rotate_left; simp only [Act.put, List.setIfInBounds_toArray, List.set_cons_zero, List.set_cons_succ]; rotate_left
    · have c0 := cell_later hS.1 HC01.out
      clear hS hE
      unfold ag.does
      go_simp
      try exact ⟨rfl, rfl⟩
    refine ag.walk_val (by rfl) (fun W1 hS hE => ?_) ?_
    rotate_left; simp only [Act.put, List.setIfInBounds_toArray, List.set_cons_zero, List.set_cons_succ]; rotate_left
    · clear hS hE
      unfold ag.does
      go_simp
      refine (cmp_int _ _ _).mono ?_
      rintro e w9 ⟨rfl, rfl⟩
      exact ⟨_, rfl, by rw [Hx.out], rfl⟩
    refine ag.walk_val (by rfl) (fun W1 hS hE => ?_) ?_
    rotate_left; simp only [Act.put, List.setIfInBounds_toArray, List.set_cons_zero, List.set_cons_succ]; rotate_left
    · clear hS hE
      unfold ag.does
      go_simp
      try exact ⟨rfl, rfl⟩
    refine ag.walk_val (by rfl) (fun W1 hS hE => ?_) ?_
    rotate_left; simp only [Act.put, List.setIfInBounds_toArray, List.set_cons_zero, List.set_cons_succ]; rotate_left
    · have c0 := cell_later hS.1 HC10.out
      clear hS hE
      unfold ag.does
      go_simp
      try exact ⟨rfl, rfl⟩
    refine ag.walk_val (by rfl) (fun W1 hS hE => ?_) ?_
    rotate_left; simp only [Act.put, List.setIfInBounds_toArray, List.set_cons_zero, List.set_cons_succ]; rotate_left
    · clear hS hE
      unfold ag.does
      go_simp
      try exact ⟨rfl, rfl⟩
    refine ag.walk_val (by rfl) (fun W1 hS hE => ?_) ?_
    rotate_left; simp only [Act.put, List.setIfInBounds_toArray, List.set_cons_zero, List.set_cons_succ]; rotate_left
    · have c0 := cell_later hS.1 HC11.out
      clear hS hE
      unfold ag.does
      go_simp
      try exact ⟨rfl, rfl⟩
    refine ag.walk_val (by rfl) (fun W1 hS hE => ?_) ?_
    rotate_left; simp only [Act.put, List.setIfInBounds_toArray, List.set_cons_zero, List.set_cons_succ]; rotate_left
    · clear hS hE
      unfold ag.does
      go_simp
      refine (cmp_int64 _ _ _).mono ?_
      rintro e w9 ⟨rfl, rfl⟩
      exact ⟨_, rfl, by rw [Hy.out], rfl⟩
    refine ag.walk_val (by rfl) (fun W1 hS hE => ?_) ?_
    rotate_left; simp only [Act.put, List.setIfInBounds_toArray, List.set_cons_zero, List.set_cons_succ]; rotate_left
    · clear hS hE
      unfold ag.does
      go_simp
      try exact ⟨rfl, rfl⟩
    refine ag.walk_val (by rfl) (fun W1 hS hE => ?_) ?_
    rotate_left; simp only [Act.put, List.setIfInBounds_toArray, List.set_cons_zero, List.set_cons_succ]; rotate_left
    · have c0 := cell_later hS.1 HC20.out
      clear hS hE
      unfold ag.does
      go_simp
      try exact ⟨rfl, rfl⟩
    refine ag.walk_val (by rfl) (fun W1 hS hE => ?_) ?_
    rotate_left; simp only [Act.put, List.setIfInBounds_toArray, List.set_cons_zero, List.set_cons_succ]; rotate_left
    · clear hS hE
      unfold ag.does
      go_simp
      try exact ⟨rfl, rfl⟩
    refine ag.walk_val (by rfl) (fun W1 hS hE => ?_) ?_
    rotate_left; simp only [Act.put, List.setIfInBounds_toArray, List.set_cons_zero, List.set_cons_succ]; rotate_left
    · have c0 := cell_later hS.1 HC21.out
      clear hS hE
      unfold ag.does
      go_simp
      try exact ⟨rfl, rfl⟩
    refine ag.walk_val (by rfl) (fun W1 hS hE => ?_) ?_
    rotate_left; simp only [Act.put, List.setIfInBounds_toArray, List.set_cons_zero, List.set_cons_succ]; rotate_left
    · clear hS hE
      unfold ag.does
      go_simp
      refine (cmp_str _ _ _).mono ?_
      rintro e w9 ⟨rfl, rfl⟩
      exact ⟨_, rfl, by rw [Hz.out], rfl⟩
    refine ag.walk_sat (by rfl) (fun W1 hS hE => ?_) (fun y1 => ?_)
    rotate_left; simp only [Act.put, List.setIfInBounds_toArray, List.set_cons_zero, List.set_cons_succ]; rotate_left
    · clear hS hE
      unfold ag.does
      go_simp
      exact ⟨⟨_, 3, rfl, cells_new W1 [_, _, _] _ 0, cells_new W1 [_, _, _] _ 1, cells_new W1 [_, _, _] _ 2⟩, (Grows.refl _).alloc _, ag.News.none (fun _ _ => trivial) _ _⟩
    refine ag.walk_val (by rfl) (fun W1 hS hE => ?_) ?_
    rotate_left; simp only [Act.put, List.setIfInBounds_toArray, List.set_cons_zero, List.set_cons_succ]; rotate_left
    · have h3 : three x y z y1 W1 := hE.get (by kernel_rfl)
      clear hS hE
      obtain ⟨g, cap, rfl, q0, q1, q2⟩ := h3
      unfold ag.does
      go_simp
      (with_reducible refine (or_three x y z W1 g q0 q1 q2 cap).mono ?_)
      rintro e w9 ⟨rfl, rfl⟩
      exact ⟨_, rfl, rfl, rfl⟩
    refine ag.walk_val (by rfl) (fun W1 hS hE => ?_) ?_
    rotate_left; simp only [Act.put, List.setIfInBounds_toArray, List.set_cons_zero, List.set_cons_succ]; rotate_left
    · clear hS hE
      unfold ag.does
      go_simp
      try exact ⟨rfl, rfl⟩
    refine ag.walk_nil (fun w7 hS hF' hP => ?_)
    clear hF' hP
    have HS := Lib.hid hS
    clear hS
    go_wp2
    go_ret
    exact ⟨rfl, HBB.out.trans HS.out⟩
/-- the order of two rows -/
def cmpL : List V → List V → Int
  | [], [] => 0
  | [], _ :: _ => -1
  | _ :: _, [] => 1
  | a :: l, b :: m => if cmpV a b = 0 then cmpL l m else cmpV a b
theorem cmpL_end {l m : List V} (k : Nat) (h : l.length ≤ k) (hk : k ≤ m.length) : cmpL (l.drop k) (m.drop k) = if k < m.length then -1 else 0 := by
  rw [List.drop_eq_nil_iff.2 h]
  by_cases h2 : k < m.length
  · rw [if_pos h2, List.drop_eq_getElem_cons h2]; rfl
  · rw [if_neg h2, List.drop_eq_nil_iff.2 (by omega)]; rfl
theorem cmpL_short {l m : List V} (k : Nat) (h : k < l.length) (hk : m.length ≤ k) : cmpL (l.drop k) (m.drop k) = 1 := by
  rw [List.drop_eq_getElem_cons h, List.drop_eq_nil_iff.2 hk]; rfl
theorem cmpL_step {l m : List V} (k : Nat) (h : k < l.length) (hk : k < m.length) : cmpL (l.drop k) (m.drop k) = if cmpV l[k] m[k] = 0 then cmpL (l.drop (k + 1)) (m.drop (k + 1)) else cmpV l[k] m[k] := by
  rw [List.drop_eq_getElem_cons h, List.drop_eq_getElem_cons hk]; rfl
set_option maxRecDepth 100000 in
set_option maxHeartbeats 2000000 in
theorem cmpf_any (va vb : Value) (l m : List V) (hl : l.length ≤ 9223372036854775807) (hm : m.length ≤ 9223372036854775807) (w : World) (ha : IsRow w va l) (hb : IsRow w vb m) :
    Calls Try.prog 38 #[va, vb, .func (.func 39) #[] #[]] w fun e w' => e = .returned (.int .i64 (cmpL l m)) ∧ Grows w w' := by
  have HA := Lib.hid ha; have HB := Lib.hid hb
  obtain ⟨aa, ca, rfl, -⟩ := ha
  obtain ⟨ab, cb, rfl, -⟩ := hb
  obtain ⟨R, hR⟩ : ∃ R, cmpL l m = R := ⟨_, rfl⟩
  have HR := Lib.hid hR
  rw [hR]
  clear hR
  have hn0 : (0 : Int) ≤ (l.length : Int) := by omega
  have hn1 : (l.length : Int) ≤ 9223372036854775807 := by omega
  have ho0 : (0 : Int) ≤ (m.length : Int) := by omega
  have ho1 : (m.length : Int) ≤ 9223372036854775807 := by omega
  go_enter Try.func38, Try.ntmps38
  go_wp2
  go_loopw [13] (fun i wr => ∃ k : Nat, i = .int .i64 (k : Int) ∧ k ≤ l.length ∧ k ≤ m.length ∧ Hid (cmpL (l.drop k) (m.drop k) = R) ∧ Hid (Grows w wr)) (fun i _ => l.length - (intOf i).toNat)
  case atStart => exact ⟨0, rfl, by omega, by omega, HR, Lib.hid (Grows.refl _)⟩
  case round =>
    obtain ⟨k, rfl, hk, hk2, HC, HG⟩ := hrel
    have hd0 : (0 : Int) ≤ (k : Int) := by omega
    by_cases h1 : k < l.length
    · have d1 : (k : Int) < (l.length : Int) := by omega
      obtain ⟨b, off, cap', ea, hcell⟩ := (HA.out.later HG.out.1).pos (by omega)
      simp only [Value.slice.injEq] at ea
      obtain ⟨rfl, -, rfl⟩ := ea
      obtain ⟨c0, c1, c2⟩ := vCells_at l k _ (List.getElem?_eq_getElem h1)
      have g0 := (hcell (k * 3) (by omega)).trans c0
      have g1 := (hcell (k * 3 + 1) (by omega)).trans c1
      have g2 := (hcell (k * 3 + 2) (by omega)).trans c2
      rw [← Nat.add_assoc] at g1 g2
      clear hcell c0 c1 c2
      by_cases h2 : k < m.length
      · have d2 : (k : Int) < (m.length : Int) := by omega
        obtain ⟨b', off', cap', ea, hcell⟩ := (HB.out.later HG.out.1).pos (by omega)
        simp only [Value.slice.injEq] at ea
        obtain ⟨rfl, -, rfl⟩ := ea
        obtain ⟨c0, c1, c2⟩ := vCells_at m k _ (List.getElem?_eq_getElem h2)
        have g3 := (hcell (k * 3) (by omega)).trans c0
        have g4 := (hcell (k * 3 + 1) (by omega)).trans c1
        have g5 := (hcell (k * 3 + 2) (by omega)).trans c2
        rw [← Nat.add_assoc] at g4 g5
        clear hcell c0 c1 c2
        have HS := Lib.hid (cmpL_step k h1 h2)
        generalize l[k] = x at *
        generalize m[k] = y at *
        obtain ⟨xk, xn, xs⟩ := x
        obtain ⟨yk, yn, ys⟩ := y
        dsimp only at g0 g1 g2 g3 g4 g5
        have lb := World.block_lt_of_cell? wr _ g0
        have lb' := World.block_lt_of_cell? wr _ g3
        dsimp only at lb lb'
        obtain ⟨c, hc⟩ : ∃ c, cmpV ⟨xk, xn, xs⟩ ⟨yk, yn, ys⟩ = c := ⟨_, rfl⟩
        have HX := Lib.hid (fun W => by have h := compare_grows xk xn yk yn xs ys W; rwa [hc] at h)
        rw [hc] at HS
        clear hc
        by_cases hc0 : c = 0
        · subst hc0
          go_wp2_with (go_at_call 39; (with_reducible refine (HX.out _).mono ?_); rintro e w1 ⟨rfl, hb1⟩; have HB1 := Lib.hid hb1; clear hb1)
          go_roundw
          case rel => exact ⟨k + 1, by go_num, by omega, by omega, Lib.hid (by rw [← HC.out, HS.out]; rfl), Lib.hid (HG.out.trans ((grows_alloc2 _ _ _).trans HB1.out))⟩
          case measure => simp [intOf]; omega
        · have e1 : (c != 0) = true := by simpa using hc0
          have HC0 := Lib.hid hc0
          clear hc0
          go_wp2_with (go_at_call 39; (with_reducible refine (HX.out _).mono ?_); rintro e w1 ⟨rfl, hb1⟩; have HB1 := Lib.hid hb1; clear hb1)
          go_ret
          exact ⟨ret_i64 (by rw [← HC.out, HS.out, if_neg HC0.out]), HG.out.trans ((grows_alloc2 _ _ _).trans HB1.out)⟩
      · have d2 : (k : Int) ≥ (m.length : Int) := by omega
        have HS := Lib.hid (cmpL_short k h1 (by omega : m.length ≤ k))
        generalize l[k] = x at *
        go_wp2_with fail
        go_ret
        exact ⟨ret_i64 (by rw [← HC.out, HS.out]), (HG.out).alloc _⟩
    · have d1 : ¬ (k : Int) < (l.length : Int) := by omega
      have HS := Lib.hid (cmpL_end (l := l) (m := m) k (by omega) hk2)
      have hkl : k = l.length := by omega
      subst hkl
      by_cases h2 : l.length < m.length
      · have d2 : (l.length : Int) < (m.length : Int) := by omega
        go_wp2_with fail
        go_ret
        exact ⟨ret_i64 (by rw [← HC.out, HS.out, if_pos h2]), HG.out⟩
      · have d2 : ¬ (l.length : Int) < (m.length : Int) := by omega
        go_wp2_with fail
        go_ret
        exact ⟨ret_i64 (by rw [← HC.out, HS.out, if_neg h2]), HG.out⟩
theorem rcompare_any (va vb : Value) (l m : List V) (hl : l.length ≤ 9223372036854775807) (hm : m.length ≤ 9223372036854775807) (w : World) (ha : IsRow w va l) (hb : IsRow w vb m) :
    Calls Try.prog 21 #[va, vb] w fun e w' => e = .returned (.int .i64 (cmpL l m)) ∧ Grows w w' := by
  have H := Lib.hid (cmpf_any va vb l m hl hm w ha hb)
  clear ha hb
  go_enter Try.func21, Try.ntmps21
  go_wp2_with (go_at_call 38; (with_reducible refine (H.out).mono ?_); rintro e w1 ⟨rfl, hb1⟩; have HB1 := Lib.hid hb1; clear hb1)
  go_ret
  exact ⟨rfl, HB1.out⟩
end Go.Proofs.Ytpkkhbmlclicfaa.val
