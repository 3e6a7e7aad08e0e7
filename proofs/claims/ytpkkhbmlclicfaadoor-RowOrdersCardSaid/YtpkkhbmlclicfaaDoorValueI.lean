/- Which values may be, by both texts; other signs. -/
import Derived.Test.YtpkkhbmlclicfaaDoorValueH
import Derived.Deep.RegionHeld3
namespace Go.Proofs.YtpkkhbmlclicfaaDoor.val
set_option linter.unusedVariables false
open Go.RowKit

attribute [local go_sem high] run_eqlV run_neqV
abbrev nob : ByteArray := ⟨#[]⟩
/-- three cells kept, and what was there -/
theorem keep3 {w W W' : World} {p q r : Addr} {a b c : Value} (hh : W.cell? p = some a ∧ W.cell? q = some b ∧ W.cell? r = some c ∧ Below w.heap.size w W) (hb : Below W.heap.size W W') : W'.cell? p = some a ∧ W'.cell? q = some b ∧ W'.cell? r = some c ∧ Below w.heap.size w W' :=
  ⟨cell_later hb hh.1, cell_later hb hh.2.1, cell_later hb hh.2.2.1, hh.2.2.2.trans (hb.mono hh.2.2.2.size)⟩
theorem ofF_lit (W : World) : Calls Tryd.prog 23 #[.bool false] W fun e w' => e = .returned (ag3 1 0 nob) ∧ Below W.heap.size W w' := ofBool_any false W
theorem ofT_lit (W : World) : Calls Tryd.prog 23 #[.bool true] W fun e w' => e = .returned (ag3 1 1 nob) ∧ Below W.heap.size W w' := ofBool_any true W
theorem ofI_lit (n : Int) (W : World) : Calls Tryd.prog 22 #[.int .i64 n] W fun e w' => e = .returned (ag3 2 n nob) ∧ Below W.heap.size W w' := ofInt_any n W
theorem ofS_lit (s : ByteArray) (W : World) : Calls Tryd.prog 21 #[.string s] W fun e w' => e = .returned (ag3 3 0 s) ∧ Below W.heap.size W w' := ofText_any s W
set_option maxHeartbeats 1000000 in
theorem good_0 (n : Int) (s : ByteArray) (W : World) : Calls Tryd.prog 16 #[ag3 0 n s] W fun e w' => e = .returned (.bool (veq6 0 n s 0 0 nob)) ∧ Below W.heap.size W w' := by
  go_enter Tryd.func16, Tryd.ntmps16
  go_wp2
  go_ret
  exact ⟨rfl, below_alloc1 _ _⟩
set_option maxRecDepth 100000 in
set_option maxHeartbeats 2000000 in
theorem good_1 (n : Int) (s : ByteArray) (W : World) : Calls Tryd.prog 16 #[ag3 1 n s] W fun e w' => e = .returned (.bool (veq6 1 n s 1 0 nob || veq6 1 n s 1 1 nob)) ∧ Below W.heap.size W w' := by
  obtain ⟨p, hp⟩ : ∃ p, veq6 1 n s 1 0 nob = p := ⟨_, rfl⟩
  obtain ⟨q, hq⟩ : ∃ q, veq6 1 n s 1 1 nob = q := ⟨_, rfl⟩
  rw [hp, hq]
  have HP := Lib.hid hp
  have HQ := Lib.hid hq
  clear hp hq
  cases p
  · skip
    go_enter Tryd.func16, Tryd.ntmps16
    go_wp2
    have HC := Lib.hid (fun (W' : World) (hS : Below (W.alloc (.cells #[.int .i64 1, .int .i64 n, .string s] TV)).heap.size (W.alloc (.cells #[.int .i64 1, .int .i64 n, .string s] TV)) W') => box_later W 1 n s W' hS)
    have HBB := Lib.hid (below_alloc1 W (.cells #[.int .i64 1, .int .i64 n, .string s] TV))
    generalize W.alloc (.cells #[.int .i64 1, .int .i64 n, .string s] TV) = X at *
    refine ag.region_ag (fun W1 => Below X.heap.size X W1) (fun _ _ _ _ => True)
      [.val (ag3 1 n s), .sat (fun v _ => v = ag3 1 0 nob) (fun _ w w' => Below w.heap.size w w'), .val (.bool false), .val (.bool false), .val (ag3 1 n s), .sat (fun v _ => v = ag3 1 1 nob) (fun _ w w' => Below w.heap.size w w'), .val (.bool q), .val (.bool q), .val (.bool q)]
      (by kernel_rfl) (by kernel_rfl) rfl (⟨rfl, rfl, rfl, Nat.le_refl _, fun _ _ => rfl⟩) ?hst1f ?hk1f ?hwalk1f
    case hst1f =>
      simp only [ag.Stab, ag.Row2, ag.Ok2, and_true]
      repeat' apply And.intro
      all_goals first
        | exact fun h => absurd rfl h
        | exact fun _ _ f v W W' hS hv _ ht => hv
        | trivial
    case hk1f =>
      simp only [ag.Keeps, and_true]
      exact ⟨fun f W1 W2 hS _ ht => hS.trans (ht.mono hS.size), fun f W1 W2 hS _ ht => hS.trans (ht.mono hS.size)⟩
    case hwalk1f =>
      refine ag.walk_val (by rfl) (fun W1 hS hE => ?_) ?_
      rotate_left; simp only [Act.put, List.setIfInBounds_toArray, List.set_cons_zero, List.set_cons_succ]; rotate_left
      · have c3 := HC.out W1 hS
        obtain ⟨c0, c1, c2⟩ := c3
        clear hS hE
        unfold ag.does
        go_simp
        try exact ⟨rfl, rfl⟩
      refine ag.walk_sat (by rfl) (fun W1 hS hE => ?_) (fun y1 => ?_)
      rotate_left; simp only [Act.put, List.setIfInBounds_toArray, List.set_cons_zero, List.set_cons_succ]; rotate_left
      · clear hS hE
        unfold ag.does
        go_simp
        refine (ofF_lit _).mono ?_
        rintro e W2 ⟨rfl, hb⟩
        exact ⟨_, rfl, rfl, hb, ag.News.none (fun _ _ => trivial) _ _⟩
      refine ag.walk_val (by rfl) (fun W1 hS hE => ?_) ?_
      rotate_left; simp only [Act.put, List.setIfInBounds_toArray, List.set_cons_zero, List.set_cons_succ]; rotate_left
      · have hy1 : y1 = ag3 1 0 nob := hE.get (by kernel_rfl)
        subst hy1
        clear hS hE
        unfold ag.does
        go_simp
        exact ⟨congrArg Value.bool HP.out, rfl⟩
      refine ag.walk_val (by rfl) (fun W1 hS hE => ?_) ?_
      rotate_left; simp only [Act.put, List.setIfInBounds_toArray, List.set_cons_zero, List.set_cons_succ]; rotate_left
      · clear hS hE
        unfold ag.does
        go_simp
        try exact ⟨rfl, rfl⟩
      refine ag.walk_val (by rfl) (fun W1 hS hE => ?_) ?_
      rotate_left; simp only [Act.put, List.setIfInBounds_toArray, List.set_cons_zero, List.set_cons_succ]; rotate_left
      · have c3 := HC.out W1 hS
        obtain ⟨c0, c1, c2⟩ := c3
        clear hS hE
        unfold ag.does
        go_simp
        try exact ⟨rfl, rfl⟩
      refine ag.walk_sat (by rfl) (fun W1 hS hE => ?_) (fun y2 => ?_)
      rotate_left; simp only [Act.put, List.setIfInBounds_toArray, List.set_cons_zero, List.set_cons_succ]; rotate_left
      · clear hS hE
        unfold ag.does
        go_simp
        refine (ofT_lit _).mono ?_
        rintro e W2 ⟨rfl, hb⟩
        exact ⟨_, rfl, rfl, hb, ag.News.none (fun _ _ => trivial) _ _⟩
      refine ag.walk_val (by rfl) (fun W1 hS hE => ?_) ?_
      rotate_left; simp only [Act.put, List.setIfInBounds_toArray, List.set_cons_zero, List.set_cons_succ]; rotate_left
      · have hy2 : y2 = ag3 1 1 nob := hE.get (by kernel_rfl)
        subst hy2
        clear hS hE
        unfold ag.does
        go_simp
        exact ⟨congrArg Value.bool HQ.out, rfl⟩
      refine ag.walk_val (by rfl) (fun W1 hS hE => ?_) ?_
      rotate_left; simp only [Act.put, List.setIfInBounds_toArray, List.set_cons_zero, List.set_cons_succ]; rotate_left
      · clear hS hE
        unfold ag.does
        go_simp
        try exact ⟨rfl, rfl⟩
      refine ag.walk_val (by rfl) (fun W1 hS hE => ?_) ?_
      rotate_left; simp only [Act.put, List.setIfInBounds_toArray, List.set_cons_zero, List.set_cons_succ]; rotate_left
      · clear hS hE
        unfold ag.does
        go_simp
        try exact ⟨rfl, rfl⟩
      refine ag.walk_nil (fun w7 hS hF' hP => ?_)
      clear hF' hP
      have HS := Lib.hid hS
      clear hS
      go_wp2
      go_ret
      exact ⟨rfl, HBB.out.trans (HS.out.mono HBB.out.size)⟩
  · skip
    go_enter Tryd.func16, Tryd.ntmps16
    go_wp2
    have HC := Lib.hid (fun (W' : World) (hS : Below (W.alloc (.cells #[.int .i64 1, .int .i64 n, .string s] TV)).heap.size (W.alloc (.cells #[.int .i64 1, .int .i64 n, .string s] TV)) W') => box_later W 1 n s W' hS)
    have HBB := Lib.hid (below_alloc1 W (.cells #[.int .i64 1, .int .i64 n, .string s] TV))
    generalize W.alloc (.cells #[.int .i64 1, .int .i64 n, .string s] TV) = X at *
    refine ag.region_ag (fun W1 => Below X.heap.size X W1) (fun _ _ _ _ => True)
      [.val (ag3 1 n s), .sat (fun v _ => v = ag3 1 0 nob) (fun _ w w' => Below w.heap.size w w'), .val (.bool true), .val (.bool true), .val undef, .val undef, .val undef, .val (.bool true), .val (.bool true)]
      (by kernel_rfl) (by kernel_rfl) rfl (⟨rfl, rfl, rfl, Nat.le_refl _, fun _ _ => rfl⟩) ?hst1t ?hk1t ?hwalk1t
    case hst1t =>
      simp only [ag.Stab, ag.Row2, ag.Ok2, and_true]
      repeat' apply And.intro
      all_goals first
        | exact fun h => absurd rfl h
        | exact fun _ _ f v W W' hS hv _ ht => hv
        | trivial
    case hk1t =>
      simp only [ag.Keeps, and_true]
      exact fun f W1 W2 hS _ ht => hS.trans (ht.mono hS.size)
    case hwalk1t =>
      refine ag.walk_val (by rfl) (fun W1 hS hE => ?_) ?_
      rotate_left; simp only [Act.put, List.setIfInBounds_toArray, List.set_cons_zero, List.set_cons_succ]; rotate_left
      · have c3 := HC.out W1 hS
        obtain ⟨c0, c1, c2⟩ := c3
        clear hS hE
        unfold ag.does
        go_simp
        try exact ⟨rfl, rfl⟩
      refine ag.walk_sat (by rfl) (fun W1 hS hE => ?_) (fun y1 => ?_)
      rotate_left; simp only [Act.put, List.setIfInBounds_toArray, List.set_cons_zero, List.set_cons_succ]; rotate_left
      · clear hS hE
        unfold ag.does
        go_simp
        refine (ofF_lit _).mono ?_
        rintro e W2 ⟨rfl, hb⟩
        exact ⟨_, rfl, rfl, hb, ag.News.none (fun _ _ => trivial) _ _⟩
      refine ag.walk_val (by rfl) (fun W1 hS hE => ?_) ?_
      rotate_left; simp only [Act.put, List.setIfInBounds_toArray, List.set_cons_zero, List.set_cons_succ]; rotate_left
      · have hy1 : y1 = ag3 1 0 nob := hE.get (by kernel_rfl)
        subst hy1
        clear hS hE
        unfold ag.does
        go_simp
        exact ⟨congrArg Value.bool HP.out, rfl⟩
      refine ag.walk_val (by rfl) (fun W1 hS hE => ?_) ?_
      rotate_left; simp only [Act.put, List.setIfInBounds_toArray, List.set_cons_zero, List.set_cons_succ]; rotate_left
      · clear hS hE
        unfold ag.does
        go_simp
        try exact ⟨rfl, rfl⟩
      refine ag.walk_skip (by rfl) ?_
      simp only [Act.put, List.setIfInBounds_toArray, List.set_cons_zero, List.set_cons_succ]
      refine ag.walk_skip (by rfl) ?_
      simp only [Act.put, List.setIfInBounds_toArray, List.set_cons_zero, List.set_cons_succ]
      refine ag.walk_skip (by rfl) ?_
      simp only [Act.put, List.setIfInBounds_toArray, List.set_cons_zero, List.set_cons_succ]
      refine ag.walk_val (by rfl) (fun W1 hS hE => ?_) ?_
      rotate_left; simp only [Act.put, List.setIfInBounds_toArray, List.set_cons_zero, List.set_cons_succ]; rotate_left
      · clear hS hE
        unfold ag.does
        go_simp
        try exact ⟨rfl, rfl⟩
      refine ag.walk_val (by rfl) (fun W1 hS hE => ?_) ?_
      rotate_left; simp only [Act.put, List.setIfInBounds_toArray, List.set_cons_zero, List.set_cons_succ]; rotate_left
      · clear hS hE
        unfold ag.does
        go_simp
        try exact ⟨rfl, rfl⟩
      refine ag.walk_nil (fun w7 hS hF' hP => ?_)
      clear hF' hP
      have HS := Lib.hid hS
      clear hS
      go_wp2
      go_ret
      exact ⟨rfl, HBB.out.trans (HS.out.mono HBB.out.size)⟩
set_option maxHeartbeats 1000000 in
theorem good_2 (n : Int) (s : ByteArray) (W : World) : Calls Tryd.prog 16 #[ag3 2 n s] W fun e w' => e = .returned (.bool (veq6 2 n s 2 n nob)) ∧ Below W.heap.size W w' := by
  obtain ⟨p, hp⟩ : ∃ p, veq6 2 n s 2 n nob = p := ⟨_, rfl⟩
  rw [hp]
  go_enter Tryd.func16, Tryd.ntmps16
  go_wp2
  go_region_held3 (fun X => X.cell? ⟨W.heap.size, 0, none⟩ = some (.int .i64 2) ∧ X.cell? ⟨W.heap.size, 1, none⟩ = some (.int .i64 n) ∧ X.cell? ⟨W.heap.size, 2, none⟩ = some (.string s) ∧ Below W.heap.size W X)
    (first | exact ⟨cells_new W [_, _, _] _ 0, cells_new W [_, _, _] _ 1, cells_new W [_, _, _] _ 2, ((Below.refl _ _).alloc (Nat.le_refl _) _).drew⟩ | exact keep3 (by assumption) hb')
    (first | (go_at_call 22; refine (ofI_lit _ _).mono ?_; rintro e w' ⟨rfl, hb'⟩))
  go_wp2
  go_ret
  exact ⟨rfl, And.right (And.right (And.right (by assumption)))⟩
set_option maxRecDepth 100000 in
set_option maxHeartbeats 2000000 in
theorem good_3 (n : Int) (s : ByteArray) (W : World) : Calls Tryd.prog 16 #[ag3 3 n s] W fun e w' => e = .returned (.bool (veq6 3 n s 3 0 s && decide ((s.size : Int) ≤ 64))) ∧ Below W.heap.size W w' := by
  obtain ⟨p, hp⟩ : ∃ p, veq6 3 n s 3 0 s = p := ⟨_, rfl⟩
  rw [hp]
  have HP := Lib.hid hp
  clear hp
  cases p
  · skip
    go_enter Tryd.func16, Tryd.ntmps16
    go_wp2
    have HC := Lib.hid (fun (W' : World) (hS : Below (W.alloc (.cells #[.int .i64 3, .int .i64 n, .string s] TV)).heap.size (W.alloc (.cells #[.int .i64 3, .int .i64 n, .string s] TV)) W') => box_later W 3 n s W' hS)
    have HBB := Lib.hid (below_alloc1 W (.cells #[.int .i64 3, .int .i64 n, .string s] TV))
    generalize W.alloc (.cells #[.int .i64 3, .int .i64 n, .string s] TV) = X at *
    refine ag.region_ag (fun W1 => Below X.heap.size X W1) (fun _ _ _ _ => True)
      [.val (ag3 3 n s), .val (.pointer (some ⟨W.heap.size, 2, none⟩)), .val (.string s), .sat (fun v _ => v = ag3 3 0 s) (fun _ w w' => Below w.heap.size w w'), .val (.bool false), .val (.bool false), .val undef, .val undef, .val undef, .val undef, .val (.bool false), .val (.bool false)]
      (by kernel_rfl) (by kernel_rfl) rfl (⟨rfl, rfl, rfl, Nat.le_refl _, fun _ _ => rfl⟩) ?hst3f ?hk3f ?hwalk3f
    case hst3f =>
      simp only [ag.Stab, ag.Row2, ag.Ok2, and_true]
      repeat' apply And.intro
      all_goals first
        | exact fun h => absurd rfl h
        | exact fun _ _ f v W W' hS hv _ ht => hv
        | trivial
    case hk3f =>
      simp only [ag.Keeps, and_true]
      exact fun f W1 W2 hS _ ht => hS.trans (ht.mono hS.size)
    case hwalk3f =>
      refine ag.walk_val (by rfl) (fun W1 hS hE => ?_) ?_
      rotate_left; simp only [Act.put, List.setIfInBounds_toArray, List.set_cons_zero, List.set_cons_succ]; rotate_left
      · have c3 := HC.out W1 hS
        obtain ⟨c0, c1, c2⟩ := c3
        clear hS hE
        unfold ag.does
        go_simp
        try exact ⟨rfl, rfl⟩
      refine ag.walk_val (by rfl) (fun W1 hS hE => ?_) ?_
      rotate_left; simp only [Act.put, List.setIfInBounds_toArray, List.set_cons_zero, List.set_cons_succ]; rotate_left
      · clear hS hE
        unfold ag.does
        go_simp
        try exact ⟨rfl, rfl⟩
      refine ag.walk_val (by rfl) (fun W1 hS hE => ?_) ?_
      rotate_left; simp only [Act.put, List.setIfInBounds_toArray, List.set_cons_zero, List.set_cons_succ]; rotate_left
      · have c3 := HC.out W1 hS
        obtain ⟨c0, c1, c2⟩ := c3
        clear hS hE
        unfold ag.does
        go_simp
        try exact ⟨rfl, rfl⟩
      refine ag.walk_sat (by rfl) (fun W1 hS hE => ?_) (fun y1 => ?_)
      rotate_left; simp only [Act.put, List.setIfInBounds_toArray, List.set_cons_zero, List.set_cons_succ]; rotate_left
      · clear hS hE
        unfold ag.does
        go_simp
        refine (ofS_lit _ _).mono ?_
        rintro e W2 ⟨rfl, hb⟩
        exact ⟨_, rfl, rfl, hb, ag.News.none (fun _ _ => trivial) _ _⟩
      refine ag.walk_val (by rfl) (fun W1 hS hE => ?_) ?_
      rotate_left; simp only [Act.put, List.setIfInBounds_toArray, List.set_cons_zero, List.set_cons_succ]; rotate_left
      · have hy1 : y1 = ag3 3 0 s := hE.get (by kernel_rfl)
        subst hy1
        clear hS hE
        unfold ag.does
        go_simp
        exact ⟨congrArg Value.bool HP.out, rfl⟩
      refine ag.walk_val (by rfl) (fun W1 hS hE => ?_) ?_
      rotate_left; simp only [Act.put, List.setIfInBounds_toArray, List.set_cons_zero, List.set_cons_succ]; rotate_left
      · clear hS hE
        unfold ag.does
        go_simp
        try exact ⟨rfl, rfl⟩
      refine ag.walk_skip (by rfl) ?_
      simp only [Act.put, List.setIfInBounds_toArray, List.set_cons_zero, List.set_cons_succ]
      refine ag.walk_skip (by rfl) ?_
      simp only [Act.put, List.setIfInBounds_toArray, List.set_cons_zero, List.set_cons_succ]
      refine ag.walk_skip (by rfl) ?_
      simp only [Act.put, List.setIfInBounds_toArray, List.set_cons_zero, List.set_cons_succ]
      refine ag.walk_skip (by rfl) ?_
      simp only [Act.put, List.setIfInBounds_toArray, List.set_cons_zero, List.set_cons_succ]
      refine ag.walk_val (by rfl) (fun W1 hS hE => ?_) ?_
      rotate_left; simp only [Act.put, List.setIfInBounds_toArray, List.set_cons_zero, List.set_cons_succ]; rotate_left
      · clear hS hE
        unfold ag.does
        go_simp
        try exact ⟨rfl, rfl⟩
      refine ag.walk_val (by rfl) (fun W1 hS hE => ?_) ?_
      rotate_left; simp only [Act.put, List.setIfInBounds_toArray, List.set_cons_zero, List.set_cons_succ]; rotate_left
      · clear hS hE
        unfold ag.does
        go_simp
        try exact ⟨rfl, rfl⟩
      refine ag.walk_nil (fun w7 hS hF' hP => ?_)
      clear hF' hP
      have HS := Lib.hid hS
      clear hS
      go_wp2
      go_ret
      exact ⟨rfl, HBB.out.trans (HS.out.mono HBB.out.size)⟩
  · skip
    go_enter Tryd.func16, Tryd.ntmps16
    go_wp2
    have HC := Lib.hid (fun (W' : World) (hS : Below (W.alloc (.cells #[.int .i64 3, .int .i64 n, .string s] TV)).heap.size (W.alloc (.cells #[.int .i64 3, .int .i64 n, .string s] TV)) W') => box_later W 3 n s W' hS)
    have HBB := Lib.hid (below_alloc1 W (.cells #[.int .i64 3, .int .i64 n, .string s] TV))
    generalize W.alloc (.cells #[.int .i64 3, .int .i64 n, .string s] TV) = X at *
    refine ag.region_ag (fun W1 => Below X.heap.size X W1) (fun _ _ _ _ => True)
      [.val (ag3 3 n s), .val (.pointer (some ⟨W.heap.size, 2, none⟩)), .val (.string s), .sat (fun v _ => v = ag3 3 0 s) (fun _ w w' => Below w.heap.size w w'), .val (.bool true), .val (.bool true), .val (.pointer (some ⟨W.heap.size, 2, none⟩)), .val (.string s), .val (.int .i64 (s.size : Int)), .val (.bool (decide ((s.size : Int) ≤ 64))), .val (.bool (decide ((s.size : Int) ≤ 64))), .val (.bool (decide ((s.size : Int) ≤ 64)))]
      (by kernel_rfl) (by kernel_rfl) rfl (⟨rfl, rfl, rfl, Nat.le_refl _, fun _ _ => rfl⟩) ?hst3t ?hk3t ?hwalk3t
    case hst3t =>
      simp only [ag.Stab, ag.Row2, ag.Ok2, and_true]
      repeat' apply And.intro
      all_goals first
        | exact fun h => absurd rfl h
        | exact fun _ _ f v W W' hS hv _ ht => hv
        | trivial
    case hk3t =>
      simp only [ag.Keeps, and_true]
      exact fun f W1 W2 hS _ ht => hS.trans (ht.mono hS.size)
    case hwalk3t =>
      refine ag.walk_val (by rfl) (fun W1 hS hE => ?_) ?_
      rotate_left; simp only [Act.put, List.setIfInBounds_toArray, List.set_cons_zero, List.set_cons_succ]; rotate_left
      · have c3 := HC.out W1 hS
        obtain ⟨c0, c1, c2⟩ := c3
        clear hS hE
        unfold ag.does
        go_simp
        try exact ⟨rfl, rfl⟩
      refine ag.walk_val (by rfl) (fun W1 hS hE => ?_) ?_
      rotate_left; simp only [Act.put, List.setIfInBounds_toArray, List.set_cons_zero, List.set_cons_succ]; rotate_left
      · clear hS hE
        unfold ag.does
        go_simp
        try exact ⟨rfl, rfl⟩
      refine ag.walk_val (by rfl) (fun W1 hS hE => ?_) ?_
      rotate_left; simp only [Act.put, List.setIfInBounds_toArray, List.set_cons_zero, List.set_cons_succ]; rotate_left
      · have c3 := HC.out W1 hS
        obtain ⟨c0, c1, c2⟩ := c3
        clear hS hE
        unfold ag.does
        go_simp
        try exact ⟨rfl, rfl⟩
      refine ag.walk_sat (by rfl) (fun W1 hS hE => ?_) (fun y1 => ?_)
      rotate_left; simp only [Act.put, List.setIfInBounds_toArray, List.set_cons_zero, List.set_cons_succ]; rotate_left
      · clear hS hE
        unfold ag.does
        go_simp
        refine (ofS_lit _ _).mono ?_
        rintro e W2 ⟨rfl, hb⟩
        exact ⟨_, rfl, rfl, hb, ag.News.none (fun _ _ => trivial) _ _⟩
      refine ag.walk_val (by rfl) (fun W1 hS hE => ?_) ?_
      rotate_left; simp only [Act.put, List.setIfInBounds_toArray, List.set_cons_zero, List.set_cons_succ]; rotate_left
      · have hy1 : y1 = ag3 3 0 s := hE.get (by kernel_rfl)
        subst hy1
        clear hS hE
        unfold ag.does
        go_simp
        exact ⟨congrArg Value.bool HP.out, rfl⟩
      refine ag.walk_val (by rfl) (fun W1 hS hE => ?_) ?_
      rotate_left; simp only [Act.put, List.setIfInBounds_toArray, List.set_cons_zero, List.set_cons_succ]; rotate_left
      · clear hS hE
        unfold ag.does
        go_simp
        try exact ⟨rfl, rfl⟩
      refine ag.walk_val (by rfl) (fun W1 hS hE => ?_) ?_
      rotate_left; simp only [Act.put, List.setIfInBounds_toArray, List.set_cons_zero, List.set_cons_succ]; rotate_left
      · clear hS hE
        unfold ag.does
        go_simp
        try exact ⟨rfl, rfl⟩
      refine ag.walk_val (by rfl) (fun W1 hS hE => ?_) ?_
      rotate_left; simp only [Act.put, List.setIfInBounds_toArray, List.set_cons_zero, List.set_cons_succ]; rotate_left
      · have c3 := HC.out W1 hS
        obtain ⟨c0, c1, c2⟩ := c3
        clear hS hE
        unfold ag.does
        go_simp
        try exact ⟨rfl, rfl⟩
      refine ag.walk_val (by rfl) (fun W1 hS hE => ?_) ?_
      rotate_left; simp only [Act.put, List.setIfInBounds_toArray, List.set_cons_zero, List.set_cons_succ]; rotate_left
      · clear hS hE
        unfold ag.does
        go_simp
        try exact ⟨rfl, rfl⟩
      refine ag.walk_val (by rfl) (fun W1 hS hE => ?_) ?_
      rotate_left; simp only [Act.put, List.setIfInBounds_toArray, List.set_cons_zero, List.set_cons_succ]; rotate_left
      · clear hS hE
        unfold ag.does
        go_simp
        try exact ⟨rfl, rfl⟩
      refine ag.walk_val (by rfl) (fun W1 hS hE => ?_) ?_
      rotate_left; simp only [Act.put, List.setIfInBounds_toArray, List.set_cons_zero, List.set_cons_succ]; rotate_left
      · clear hS hE
        unfold ag.does
        go_simp
        try exact ⟨rfl, rfl⟩
      refine ag.walk_val (by rfl) (fun W1 hS hE => ?_) ?_
      rotate_left; simp only [Act.put, List.setIfInBounds_toArray, List.set_cons_zero, List.set_cons_succ]; rotate_left
      · clear hS hE
        unfold ag.does
        go_simp
        try exact ⟨rfl, rfl⟩
      refine ag.walk_nil (fun w7 hS hF' hP => ?_)
      clear hF' hP
      have HS := Lib.hid hS
      clear hS
      go_wp2
      go_ret
      exact ⟨rfl, HBB.out.trans (HS.out.mono HBB.out.size)⟩
set_option maxHeartbeats 1000000 in
theorem good_4 (k n : Int) (s : ByteArray) (h : k ≠ 0 ∧ k ≠ 1 ∧ k ≠ 2 ∧ k ≠ 3) (W : World) : Calls Tryd.prog 16 #[ag3 k n s] W fun e w' => e = .returned (.bool false) ∧ Below W.heap.size W w' := by
  have k0 : (k == 0) = false := by simpa using h.1
  have k1 : (k == 1) = false := by simpa using h.2.1
  have k2 : (k == 2) = false := by simpa using h.2.2.1
  have k3 : (k == 3) = false := by simpa using h.2.2.2
  clear h
  go_enter Tryd.func16, Tryd.ntmps16
  go_wp2
  go_ret
  exact ⟨rfl, below_alloc1 _ _⟩
end Go.Proofs.YtpkkhbmlclicfaaDoor.val
