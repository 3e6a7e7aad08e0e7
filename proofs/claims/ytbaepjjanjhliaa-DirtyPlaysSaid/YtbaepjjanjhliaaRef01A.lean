/- The reference's arena: Alloc. -/
import Derived.Test.YtbaepjjanjhliaaRef01F
namespace Go.Proofs.Ytbaepjjanjhliaa.ref01
set_option linter.unusedVariables false
open Go.RowKit
attribute [local go_sem ↓] Go.wp_at_zero Go.wp_at_succ
attribute [local go_sem] ag.upon_value ag.upon_skip ag.upon_enter

theorem Mid.made (w : World) (room : Int) (vT vU vF : Value) : Mid w ((w.alloc (.cells #[.int .i64 room, vT, vU, vF] TR)).alloc (.cells #[.int .i64 0, .slice none 0 0, .slice none 0 0, .slice none 0 0] TR)) room vT vU vF ((w.alloc (.cells #[.int .i64 room, vT, vU, vF] TR)).alloc (.cells #[.int .i64 0, .slice none 0 0, .slice none 0 0, .slice none 0 0] TR)).drew := by
  have h1 : Flds ((w.alloc (.cells #[.int .i64 room, vT, vU, vF] TR)).alloc (.cells #[.int .i64 0, .slice none 0 0, .slice none 0 0, .slice none 0 0] TR)) w.heap.size TR [.int .i64 room, vT, vU, vF] := (Flds.new w TR [.int .i64 room, vT, vU, vF]).alloc _
  have h2 := Flds.new (w.alloc (.cells #[.int .i64 room, vT, vU, vF] TR)) TR [.int .i64 0, .slice none 0 0, .slice none 0 0, .slice none 0 0]
  rw [World.size_alloc] at h2
  exact ⟨⟨h1.cell 0, h1.cell 1, h1.cell 2, h1.cell 3⟩, ⟨_, _, _, _, h2.drew 1⟩, Nat.le_refl _, (((Below.refl _ w).alloc (Nat.le_refl _) _).alloc (by simp) _).drew⟩

set_option maxRecDepth 100000 in
set_option maxHeartbeats 800000 in
theorem alloc_full (room : Int) (aT : Option Addr) (cT : Nat) (aU : Option Addr) (us : List Bool) (cU : Nat) (aF : Option Addr) (nF cF : Nat) (x : Int) (w : World)
    (hr : Row w (.slice aU us.length cU) 1 us.length (us.map Value.bool)) (hm : us.length ≤ 1048576) (hfull : room ≤ (count us : Int)) :
    Calls Try.prog 18 #[st room aT us.length cT aU us.length cU aF nF cF, .int .i64 x] w fun e w' =>
      e = .returned (.tuple #[st room aT us.length cT aU us.length cU aF nF cF, .int .i64 0, .bool false]) ∧ Below w.heap.size w w' := by
  have hL := fun W (hB : Below w.heap.size w W) => live_any room aT us.length cT aU us cU aF nF cF W (hr.later hB) hm
  have HL := Lib.hid hL
  have hd : decide (room ≤ (count us : Int)) = true := by simp; exact hfull
  clear hL hr hfull
  go_enter Try.func18, Try.ntmps18
  go_wp2
  obtain ⟨W0, hW0⟩ : ∃ W0, (w.alloc (.cells #[.int .i64 room, .slice aT us.length cT, .slice aU us.length cU, .slice aF nF cF] TR)).alloc (.cells #[.int .i64 0, .slice none 0 0, .slice none 0 0, .slice none 0 0] TR) = W0 := ⟨_, rfl⟩
  have hm0 : Mid w W0 room (.slice aT us.length cT) (.slice aU us.length cU) (.slice aF nF cF) W0.drew := by rw [← hW0]; exact Mid.made w _ _ _ _
  have hs0 : W0.heap.size = w.heap.size + 2 := by rw [← hW0]; simp
  rw [hW0]
  have HM0 := Lib.hid hm0
  clear hW0 hm0
  refine ag.region_ag (Mid w W0 room (.slice aT us.length cT) (.slice aU us.length cU) (.slice aF nF cF)) (fun _ _ _ _ => True)
    [.val (st room aT us.length cT aU us.length cU aF nF cF), .sat (fun v _ => v = .int .i64 (count us : Int)) calm, .val (.pointer (some ⟨w.heap.size, 0, none⟩)), .val (.int .i64 room), .val (.bool true)]
    (by kernel_rfl) (by kernel_rfl) rfl HM0.out ?hst ?hk ?hwalk
  case hst =>
    simp only [ag.Stab, ag.Row2, ag.Ok2, and_true]
    repeat' apply And.intro
    all_goals first
      | exact fun h => absurd rfl h
      | trivial
  case hk => exact ⟨fun f W W' hS _ ht => hS.later ht, trivial⟩
  case hwalk =>
    iterate 1
      refine ag.walk_val (by rfl) (fun W hS hE => ?_) ?_
      rotate_left; simp only [Act.put, List.setIfInBounds_toArray, List.set_cons_zero, List.set_cons_succ]; rotate_left
      · obtain ⟨hc0, hc1, hc2, hc3⟩ := hS.1
        clear hS hE
        unfold ag.does
        go_simp
        try exact ⟨rfl, rfl⟩
    refine ag.walk_sat (by rfl) (fun W hS hE => ?_) (fun x1 => ?_)
    rotate_left; simp only [Act.put, List.setIfInBounds_toArray, List.set_cons_zero, List.set_cons_succ]; rotate_left
    · have hl := HL.out W hS.2.2.2
      have HLL := Lib.hid hl
      clear hE hS hl
      unfold ag.does
      go_simp
      refine HLL.out.mono ?_
      rintro e W' ⟨rfl, hb'⟩
      exact ⟨_, rfl, rfl, hb', ag.News.none (fun _ _ => trivial) _ _⟩
    iterate 2
      refine ag.walk_val (by rfl) (fun W hS hE => ?_) ?_
      rotate_left; simp only [Act.put, List.setIfInBounds_toArray, List.set_cons_zero, List.set_cons_succ]; rotate_left
      · obtain ⟨hc0, hc1, hc2, hc3⟩ := hS.1
        clear hS hE
        unfold ag.does
        go_simp
        try exact ⟨rfl, rfl⟩
    refine ag.walk_val (by rfl) (fun W hS hE => ?_) ?_
    rotate_left; simp only [Act.put, List.setIfInBounds_toArray, List.set_cons_zero, List.set_cons_succ]; rotate_left
    · have h1 : x1 = .int .i64 (count us : Int) := hE.get (by kernel_rfl)
      clear hS hE
      subst h1
      unfold ag.does
      go_simp
      try exact ⟨rfl, rfl⟩
    refine ag.walk_nil (fun W1 hS hF' hP => ?_)
    clear hF' hP HM0
    obtain ⟨⟨c0, c1, c2, c3⟩, ⟨q0, q1, q2, q3, hfl⟩, h5, h6⟩ := hS
    have z0 := hfl.cell 0; have z1 := hfl.cell 1; have z2 := hfl.cell 2; have z3 := hfl.cell 3
    have y0 := hfl.frozen 0; have y1 := hfl.frozen 1; have y2 := hfl.frozen 2; have y3 := hfl.frozen 3
    simp only [List.getElem?_cons_zero, List.getElem?_cons_succ] at z0 z1 z2 z3
    have H6 := Lib.hid h6
    clear hfl h6
    go_wp2
    refine bodyPost_ret (v := .tuple #[st room aT us.length cT aU us.length cU aF nF cF, .int .i64 0, .bool false]) (by simp [results, Try.results18, go_sem, z0, z1, z2, z3]) rfl ⟨rfl, ?_⟩
    exact (((H6.out.setCell (p := ⟨w.heap.size + 1, 0, none⟩) (by simp) _).setCell (p := ⟨w.heap.size + 1, 1, none⟩) (by simp) _).setCell (p := ⟨w.heap.size + 1, 2, none⟩) (by simp) _).setCell (p := ⟨w.heap.size + 1, 3, none⟩) (by simp) _

def vOut (b : Nat) (v0 v1 v2 v3 : Value) (_ : Value) (W : World) : Prop := Flds W b TR [v0, v1, v2, v3]
set_option maxRecDepth 100000 in
set_option maxHeartbeats 1600000 in
theorem alloc_again (room : Int) (aT : Option Addr) (ts : List Int) (cT : Nat) (aU : Option Addr) (us : List Bool) (cU : Nat) (aF : Option Addr) (m cF : Nat) (fr : List Int) (k : Nat) (x : Int) (w : World)
    (hT : Row w (.slice aT us.length cT) 1 us.length (ints ts)) (hr : Row w (.slice aU us.length cU) 1 us.length (us.map Value.bool)) (hF : Row w (.slice aF (m + 1) cF) 1 (m + 1) (ints fr)) (hlast : fr[m]? = some (k : Int)) (hcF : m + 1 ≤ cF) (hm : us.length ≤ 1048576) (hmF : m ≤ 1048576) (hk : k < us.length) (hroom : (count us : Int) < room) :
    Calls Try.prog 18 #[st room aT us.length cT aU us.length cU aF (m + 1) cF, .int .i64 x] w fun e w' =>
      (∃ aT' cT' aU' cU', e = .returned (.tuple #[st room aT' us.length cT' aU' us.length cU' aF m cF, .int .i64 k, .bool true]) ∧ Row w' (.slice aT' us.length cT') 1 us.length (ints (ts.set k x)) ∧ New w aT aT' ∧
        Row w' (.slice aU' us.length cU') 1 us.length ((us.set k true).map Value.bool) ∧ New w aU aU') ∧ Below w.heap.size w w' := by
  obtain ⟨i0, hi, hz0, hz1, hz2⟩ := info_parts infoInt
  obtain ⟨j0, hj, hy0, hy1, hy2⟩ := info_parts infoBool
  have hL := fun W (hB : Below w.heap.size w W) => live_any room aT us.length cT aU us cU aF (m + 1) cF W (hr.later hB) hm
  have HL := Lib.hid hL; have HT := Lib.hid hT; have HU := Lib.hid hr
  have hd : decide (room ≤ (count us : Int)) = false := by simp; omega
  have h63 : 0 + us.length ≤ maxLen := by unfold maxLen; omega
  have h64 : (0 + us.length) * 8 ≤ 140737488355328 := by omega
  have h65 : 0 + us.length ≤ maxLen := by unfold maxLen; omega
  have h66 : (0 + us.length) * 1 ≤ 140737488355328 := by omega
  obtain ⟨bF, oF, capF, eF, hcellF⟩ := hF.pos (by omega)
  simp only [Value.slice.injEq] at eF
  obtain ⟨rfl, -, rfl⟩ := eF
  have gF := (hcellF m (by omega)).trans (show (ints fr)[m]? = some (.int .i64 (k : Int)) by rw [List.getElem?_map, hlast]; rfl)
  have GF := Lib.hid gF
  have hd0 : (0 : Int) ≤ (k : Int) := by omega
  have hd1 : (k : Int) < (us.length : Int) := by omega
  have hd2 : (0 : Int) ≤ (m : Int) := by omega
  have hd3 : (m : Int) ≤ (cF : Int) := by omega
  have hd4 : (m : Int) ≤ 1048576 := by omega
  clear hL hr hT hF gF hcellF hlast hroom
  go_enter Try.func18, Try.ntmps18
  go_wp2
  obtain ⟨W0, hW0⟩ : ∃ W0, (w.alloc (.cells #[.int .i64 room, .slice aT us.length cT, .slice aU us.length cU, .slice (some ⟨bF, oF, none⟩) (m + 1) cF] TR)).alloc (.cells #[.int .i64 0, .slice none 0 0, .slice none 0 0, .slice none 0 0] TR) = W0 := ⟨_, rfl⟩
  have hm0 : Mid w W0 room (.slice aT us.length cT) (.slice aU us.length cU) (.slice (some ⟨bF, oF, none⟩) (m + 1) cF) W0.drew := by rw [← hW0]; exact Mid.made w _ _ _ _
  have hs0 : W0.heap.size = w.heap.size + 2 := by rw [← hW0]; simp
  rw [hW0]
  have HM0 := Lib.hid hm0
  clear hW0 hm0
  refine ag.region_ag (Mid w W0 room (.slice aT us.length cT) (.slice aU us.length cU) (.slice (some ⟨bF, oF, none⟩) (m + 1) cF)) (fun _ _ _ _ => True)
    [.val (st room aT us.length cT aU us.length cU (some ⟨bF, oF, none⟩) (m + 1) cF), .sat (fun v _ => v = .int .i64 (count us : Int)) calm, .val (.pointer (some ⟨w.heap.size, 0, none⟩)), .val (.int .i64 room), .val (.bool false)]
    (by kernel_rfl) (by kernel_rfl) rfl HM0.out ?hst ?hk ?hwalk
  case hst =>
    simp only [ag.Stab, ag.Row2, ag.Ok2, and_true]
    repeat' apply And.intro
    all_goals first
      | exact fun h => absurd rfl h
      | trivial
  case hk => exact ⟨fun f W W' hS _ ht => hS.later ht, trivial⟩
  case hwalk =>
    iterate 1
      refine ag.walk_val (by rfl) (fun W hS hE => ?_) ?_
      rotate_left; simp only [Act.put, List.setIfInBounds_toArray, List.set_cons_zero, List.set_cons_succ]; rotate_left
      · obtain ⟨hc0, hc1, hc2, hc3⟩ := hS.1
        clear hS hE
        unfold ag.does
        go_simp
        try exact ⟨rfl, rfl⟩
    refine ag.walk_sat (by rfl) (fun W hS hE => ?_) (fun x1 => ?_)
    rotate_left; simp only [Act.put, List.setIfInBounds_toArray, List.set_cons_zero, List.set_cons_succ]; rotate_left
    · have hl := HL.out W hS.2.2.2
      have HLL := Lib.hid hl
      clear hE hS hl
      unfold ag.does
      go_simp
      refine HLL.out.mono ?_
      rintro e W' ⟨rfl, hb'⟩
      exact ⟨_, rfl, rfl, hb', ag.News.none (fun _ _ => trivial) _ _⟩
    iterate 2
      refine ag.walk_val (by rfl) (fun W hS hE => ?_) ?_
      rotate_left; simp only [Act.put, List.setIfInBounds_toArray, List.set_cons_zero, List.set_cons_succ]; rotate_left
      · obtain ⟨hc0, hc1, hc2, hc3⟩ := hS.1
        clear hS hE
        unfold ag.does
        go_simp
        try exact ⟨rfl, rfl⟩
    refine ag.walk_val (by rfl) (fun W hS hE => ?_) ?_
    rotate_left; simp only [Act.put, List.setIfInBounds_toArray, List.set_cons_zero, List.set_cons_succ]; rotate_left
    · have h1 : x1 = .int .i64 (count us : Int) := hE.get (by kernel_rfl)
      clear hS hE
      subst h1
      unfold ag.does
      go_simp
      try exact ⟨rfl, rfl⟩
    refine ag.walk_nil (fun W1 hS hF' hP => ?_)
    clear hF' hP HM0
    have hw1 : w.heap.size + 1 < W1.heap.size := by have := hS.2.2.1; omega
    have hm1 : Mid w W1 room (.slice aT us.length cT) (.slice aU us.length cU) (.slice (some ⟨bF, oF, none⟩) (m + 1) cF) W1.drew := by
      obtain ⟨h1, ⟨a, b, c, d, h2⟩, -, h4⟩ := hS
      exact ⟨h1, ⟨a, b, c, d, h2.drew 1⟩, Nat.le_refl _, h4.drew⟩
    have HM1 := Lib.hid hm1
    clear hS hm1
    go_wp2
    refine ag.region_ag (Mid w W1 room (.slice aT us.length cT) (.slice aU us.length cU) (.slice (some ⟨bF, oF, none⟩) (m + 1) cF)) (fun _ _ _ _ => True)
      [.sat (vBox W1 3 0 []) calm, .val (.pointer (some ⟨w.heap.size, 1, none⟩)), .val (.slice aT us.length cT), .sat (vRow W1 3 (0 + us.length) (ints ts)) calm, .sat (vBox W1 4 0 []) calm, .val (.pointer (some ⟨w.heap.size, 2, none⟩)), .val (.slice aU us.length cU), .sat (vRow W1 4 (0 + us.length) (us.map Value.bool)) calm, .cpy 3, .cpy 7]
      (by kernel_rfl) (by kernel_rfl) rfl HM1.out ?hst2 ?hk2 ?hwalk2
    case hst2 =>
      simp only [ag.Stab, ag.Row2, ag.Ok2, and_true]
      repeat' apply And.intro
      all_goals first
        | exact fun h => absurd rfl h
        | exact fun _ _ f v W W' hS hv _ ht => hv.later ht
        | trivial
    case hk2 =>
      simp only [ag.Keeps, and_true]
      repeat' apply And.intro
      all_goals exact fun f W W' hS _ ht => hS.later ht
    case hwalk2 =>
      refine ag.walk_sat (by rfl) (fun W hS hE => ?_) (fun y0 => ?_)
      rotate_left; simp only [Act.put, List.setIfInBounds_toArray, List.set_cons_zero, List.set_cons_succ]; rotate_left
      · clear hE
        unfold ag.does
        go_simp
        exact ⟨⟨_, rfl, Flds.new W 3 [], hS.2.2.1⟩, (Below.refl _ _).alloc (Nat.le_refl _) _, ag.News.none (fun _ _ => trivial) _ _⟩
      iterate 2
        refine ag.walk_val (by rfl) (fun W hS hE => ?_) ?_
        rotate_left; simp only [Act.put, List.setIfInBounds_toArray, List.set_cons_zero, List.set_cons_succ]; rotate_left
        · obtain ⟨hc0, hc1, hc2, hc3⟩ := hS.1
          clear hS hE
          unfold ag.does
          go_simp
          try exact ⟨rfl, rfl⟩
      refine ag.walk_sat (by rfl) (fun W hS hE => ?_) (fun y3 => ?_)
      rotate_left; simp only [Act.put, List.setIfInBounds_toArray, List.set_cons_zero, List.set_cons_succ]; rotate_left
      · obtain ⟨g5, e5, hF5, hg5⟩ : vBox W1 3 0 [] y0 W := hE.get (by kernel_rfl)
        clear hE
        subst e5
        refine does_append (.tmp 17) (.tmp 19) 26 (by rfl) W1.heap.size 3 i0 (.int .i64 0) 1 8 Try.underlying26 hi hz0 hz1 hz2 rfl (by decide) (.slice (some ⟨g5, 0, none⟩) 0 0) 0 [] (by rfl) (owns_of_flds (m := 0) hF5 rfl hg5 (by decide))
          (.slice aT us.length cT) us.length (ints ts) (by rfl) (HT.out.later hS.2.2.2) (one_int ts) h63 h64 hS.2.2.1 (fun v' W' hap => ?_)
        refine ⟨⟨hap.form, hap.own, fun g' hv => ?_⟩, hap.full (fun a c e => by cases e; exact Nat.le_refl _), ag.News.none (fun _ _ => trivial) _ _⟩
        rcases hap.lies with h | h | h
        · rw [h] at hv; cases hv
        · rw [h] at hv; cases hv; exact hg5
        · rw [h] at hv; cases hv; exact hS.2.2.1
      refine ag.walk_sat (by rfl) (fun W hS hE => ?_) (fun y4 => ?_)
      rotate_left; simp only [Act.put, List.setIfInBounds_toArray, List.set_cons_zero, List.set_cons_succ]; rotate_left
      · clear hE
        unfold ag.does
        go_simp
        exact ⟨⟨_, rfl, Flds.new W 4 [], hS.2.2.1⟩, (Below.refl _ _).alloc (Nat.le_refl _) _, ag.News.none (fun _ _ => trivial) _ _⟩
      iterate 2
        refine ag.walk_val (by rfl) (fun W hS hE => ?_) ?_
        rotate_left; simp only [Act.put, List.setIfInBounds_toArray, List.set_cons_zero, List.set_cons_succ]; rotate_left
        · obtain ⟨hc0, hc1, hc2, hc3⟩ := hS.1
          clear hS hE
          unfold ag.does
          go_simp
          try exact ⟨rfl, rfl⟩
      refine ag.walk_sat (by rfl) (fun W hS hE => ?_) (fun y7 => ?_)
      rotate_left; simp only [Act.put, List.setIfInBounds_toArray, List.set_cons_zero, List.set_cons_succ]; rotate_left
      · obtain ⟨g5, e5, hF5, hg5⟩ : vBox W1 4 0 [] y4 W := hE.get (by kernel_rfl)
        clear hE
        subst e5
        refine does_append (.tmp 21) (.tmp 23) 27 (by rfl) W1.heap.size 4 j0 (.bool false) 1 1 Try.underlying27 hj hy0 hy1 hy2 rfl (by decide) (.slice (some ⟨g5, 0, none⟩) 0 0) 0 [] (by rfl) (owns_of_flds (m := 0) hF5 rfl hg5 (by decide))
          (.slice aU us.length cU) us.length (us.map Value.bool) (by rfl) (HU.out.later hS.2.2.2) (one_bool us) h65 h66 hS.2.2.1 (fun v' W' hap => ?_)
        refine ⟨⟨hap.form, hap.own, fun g' hv => ?_⟩, hap.full (fun a c e => by cases e; exact Nat.le_refl _), ag.News.none (fun _ _ => trivial) _ _⟩
        rcases hap.lies with h | h | h
        · rw [h] at hv; cases hv
        · rw [h] at hv; cases hv; exact hg5
        · rw [h] at hv; cases hv; exact hS.2.2.1
      iterate 2
        refine ag.walk_cpy (by kernel_rfl) (by rfl) (by rfl) (fun W hS hE => ?_) ?_
        rotate_left; simp only [Act.put, List.setIfInBounds_toArray, List.set_cons_zero, List.set_cons_succ]; rotate_left
        · clear hS hE
          unfold ag.does
          go_simp
          rfl
      simp only [ag.lookX, Nat.reduceAdd, Nat.reduceEqDiff, if_false, if_true]
      refine ag.walk_nil (fun W2 hS hF' hP => ?_)
      obtain ⟨-, -, f7, -, f3, -⟩ := hF'
      obtain ⟨⟨a3, c3, rfl⟩, o3, l3⟩ := f3
      obtain ⟨⟨a7, c7, rfl⟩, o7, l7⟩ := f7
      simp only [Nat.zero_add] at o3 o7 l3 l7 ⊢
      have hm2 : Mid w W2 room (.slice aT us.length cT) (.slice aU us.length cU) (.slice (some ⟨bF, oF, none⟩) (m + 1) cF) W2 := ⟨hS.1, hS.2.1, Nat.le_refl _, hS.2.2.2⟩
      have hw2 : w.heap.size + 1 < W2.heap.size := Nat.lt_of_lt_of_le hw1 hS.2.2.1
      have HW12 := Lib.hid hS.2.2.1
      have hap : Ap (.slice a3 us.length c3) (.slice a7 us.length c7) := by
        intro g hg hug
        rcases owns_ne_owns o3 o7 (by decide) with h | h
        · rw [h] at hg; cases hg
        · exact h (hg.trans hug.symm)
      have HM2 := Lib.hid hm2; have O3 := Lib.hid o3; have O7 := Lib.hid o7; have L3 := Lib.hid l3; have L7 := Lib.hid l7; have HAP := Lib.hid hap
      clear hS hP HM1 hm2 o3 o7 l3 l7 hap
      obtain ⟨g3, e3, hg3, hg3', hc3, hf3⟩ := owns_cellAt O3.out (by omega)
      obtain ⟨g7, e7, hg7, hg7', hc7, hf7⟩ := owns_cellAt O7.out (by omega)
      subst e3 e7
      have hne37 : g3 ≠ g7 := fun e => HAP.out g3 rfl (by rw [e]; rfl)
      have hlts : ts.length = us.length := by have := HT.out.len; simpa using this
      obtain ⟨⟨c0, c1, c2, c3'⟩, -, -, hbW⟩ := HM2.out
      have gF := cell_later hbW GF.out
      have gk3 := (hc3 k (by omega)).trans (show (ints ts)[k]? = some (.int .i64 ts[k]) by rw [List.getElem?_map, List.getElem?_eq_getElem (by omega)]; rfl)
      have gk7 := (hc7 k (by omega)).trans (show (us.map Value.bool)[k]? = some (.bool us[k]) by rw [List.getElem?_map, List.getElem?_eq_getElem (by omega)]; rfl)
      have gf3 := hf3 k
      have gf7 := hf7 k
      have hsz : ((W2.setCell ⟨g3, k, none⟩ (.int .i64 x)).setCell ⟨g7, k, none⟩ (.bool true)).heap.size = W2.heap.size := by simp [World.setCell]
      have hmid : Mid w W2 room (.slice aT us.length cT) (.slice aU us.length cU) (.slice (some ⟨bF, oF, none⟩) (m + 1) cF) ((W2.setCell ⟨g3, k, none⟩ (.int .i64 x)).setCell ⟨g7, k, none⟩ (.bool true)).drew := by
        obtain ⟨⟨q0, q1, q2, q3⟩, ⟨a, b, c, d, hfl⟩, -, hb⟩ := HM2.out
        have hc : ∀ o v, W2.cell? ⟨w.heap.size, o, none⟩ = some v → ((W2.setCell ⟨g3, k, none⟩ (.int .i64 x)).setCell ⟨g7, k, none⟩ (.bool true)).cell? ⟨w.heap.size, o, none⟩ = some v := fun o v h =>
          (World.cell?_setCell_other _ _ _ _ (by intro e; cases e; omega)).trans ((World.cell?_setCell_other _ _ _ _ (by intro e; cases e; omega)).trans h)
        exact ⟨⟨hc _ _ q0, hc _ _ q1, hc _ _ q2, hc _ _ q3⟩, ⟨a, b, c, d, ((hfl.other _ _ (by show _ ≠ g3; omega)).other _ _ (by show _ ≠ g7; omega)).drew 1⟩, by show _ ≤ ((W2.setCell _ _).setCell _ _).heap.size; rw [hsz]; exact Nat.le_refl _, ((hb.setCell (p := ⟨g3, k, none⟩) (by show w.heap.size ≤ g3; omega) _).setCell (p := ⟨g7, k, none⟩) (by show w.heap.size ≤ g7; omega) _).drew⟩
      have hra3 : RowAt g3 us.length (ints (ts.set k x)) ((W2.setCell ⟨g3, k, none⟩ (.int .i64 x)).setCell ⟨g7, k, none⟩ (.bool true)).drew := by
        refine ⟨by show g3 < ((W2.setCell _ _).setCell _ _).heap.size; rw [hsz]; exact hg3', ?_⟩
        have h := row_set hc3 (by simp [hlts]) hk (.int .i64 x)
        rw [← List.map_set] at h
        exact far_set h (Ne.symm hne37)
      have hra7 : RowAt g7 us.length ((us.set k true).map Value.bool) ((W2.setCell ⟨g3, k, none⟩ (.int .i64 x)).setCell ⟨g7, k, none⟩ (.bool true)).drew := by
        refine ⟨by show g7 < ((W2.setCell _ _).setCell _ _).heap.size; rw [hsz]; exact hg7', ?_⟩
        have h := row_set (far_set (p := ⟨g3, k, none⟩) (u := .int .i64 x) hc7 hne37) (by simp) hk (.bool true)
        rw [← List.map_set] at h
        exact h
      have hmw : IntKind.i64.wrap (m : Int) = m := IntWalk.i64_in _ ⟨by omega, by omega⟩
      have HMX := Lib.hid hmid; have HR3 := Lib.hid hra3; have HR7 := Lib.hid hra7
      have hb3 : w.heap.size + 1 ≠ g3 := by omega
      have hb7 : w.heap.size + 1 ≠ g7 := by omega
      have hgb3 : w.heap.size ≤ g3 := by omega
      have hgb7 : w.heap.size ≤ g7 := by omega
      clear hmid hra3 hra7 hsz hbW hc3 hc7 hf3 hf7 HM2 O3 O7 L3 L7 HAP HL HT HU
      go_wp2
      refine ag.region_ag (fun W => Mid w W2 room (.slice aT us.length cT) (.slice aU us.length cU) (.slice (some ⟨bF, oF, none⟩) (m + 1) cF) W ∧ RowAt g3 us.length (ints (ts.set k x)) W ∧ RowAt g7 us.length ((us.set k true).map Value.bool) W) (fun _ _ _ _ => True)
        [.val (.pointer (some ⟨w.heap.size, 0, none⟩)), .val (.int .i64 room), .val (.slice (some ⟨g3, 0, none⟩) us.length c3), .val (.slice (some ⟨g7, 0, none⟩) us.length c7), .val (.pointer (some ⟨w.heap.size, 3, none⟩)), .val (.slice (some ⟨bF, oF, none⟩) (m + 1) cF), .val (.int .i64 ((m : Int) + 1)), .val (.int .i64 m), .val (.slice (some ⟨bF, oF, none⟩) m cF),
          .val (st room (some ⟨g3, 0, none⟩) us.length c3 (some ⟨g7, 0, none⟩) us.length c7 (some ⟨bF, oF, none⟩) m cF), .val (.int .i64 k), .sat (vOut (w.heap.size + 1) (.int .i64 room) (.slice (some ⟨g3, 0, none⟩) us.length c3) (.slice (some ⟨g7, 0, none⟩) us.length c7) (.slice (some ⟨bF, oF, none⟩) m cF)) (tRes w), .val (.int .i64 k), .val (.bool true)]
        (by kernel_rfl) (by kernel_rfl) rfl ⟨HMX.out, HR3.out, HR7.out⟩ ?hst4 ?hk4 ?hwalk4
      case hst4 =>
        simp only [ag.Stab, ag.Row2, ag.Ok2, and_true]
        exact fun h => absurd rfl h
      case hk4 => exact ⟨fun f W W' hS _ ht => ⟨hS.1.res ht, hS.2.1.grown ht.1 (by simp; omega), hS.2.2.grown ht.1 (by simp; omega)⟩, trivial⟩
      case hwalk4 =>
        iterate 11
          refine ag.walk_val (by rfl) (fun W hS hE => ?_) ?_
          rotate_left; simp only [Act.put, List.setIfInBounds_toArray, List.set_cons_zero, List.set_cons_succ]; rotate_left
          · obtain ⟨hc0, hc1, hc2, hc3⟩ := hS.1.1
            clear hS hE
            unfold ag.does
            go_simp
            try exact ⟨rfl, rfl⟩
        refine ag.walk_sat (by rfl) (fun W hS hE => ?_) (fun y11 => ?_)
        rotate_left; simp only [Act.put]; rotate_left
        · clear hE
          obtain ⟨q0, q1, q2, q3, hfl⟩ := hS.1.2.1
          have z0 := hfl.cell 0; have z1 := hfl.cell 1; have z2 := hfl.cell 2; have z3 := hfl.cell 3
          have y0 := hfl.frozen 0; have y1 := hfl.frozen 1; have y2 := hfl.frozen 2; have y3 := hfl.frozen 3
          simp only [List.getElem?_cons_zero, List.getElem?_cons_succ] at z0 z1 z2 z3
          have HFL := Lib.hid hfl
          clear hfl hS
          unfold ag.does
          go_simp
          have ht := tRes_of HFL.out (.int .i64 room) (.slice (some ⟨g3, 0, none⟩) us.length c3) (.slice (some ⟨g7, 0, none⟩) us.length c7) (.slice (some ⟨bF, oF, none⟩) m cF)
          exact ⟨ht.2, ⟨ht.1, _, _, _, _, ht.2⟩, ag.News.none (fun _ _ => trivial) _ _⟩
        iterate 2
          refine ag.walk_val (by rfl) (fun W hS hE => ?_) ?_
          rotate_left; simp only [Act.put, List.setIfInBounds_toArray, List.set_cons_zero, List.set_cons_succ]; rotate_left
          · obtain ⟨hc0, hc1, hc2, hc3⟩ := hS.1.1
            clear hS hE
            unfold ag.does
            go_simp
            try exact ⟨rfl, rfl⟩
        refine ag.walk_nil (fun W3 hS hF' hP => ?_)
        obtain ⟨hfl, -⟩ := hF'
        have hfl : Flds W3 (w.heap.size + 1) TR [.int .i64 room, .slice (some ⟨g3, 0, none⟩) us.length c3, .slice (some ⟨g7, 0, none⟩) us.length c7, .slice (some ⟨bF, oF, none⟩) m cF] := hfl
        have z0 := hfl.cell 0; have z1 := hfl.cell 1; have z2 := hfl.cell 2; have z3 := hfl.cell 3
        simp only [List.getElem?_cons_zero, List.getElem?_cons_succ] at z0 z1 z2 z3
        have HS := Lib.hid hS
        clear hfl hS hP HMX HR3 HR7
        go_wp2
        refine bodyPost_ret (v := .tuple #[st room (some ⟨g3, 0, none⟩) us.length c3 (some ⟨g7, 0, none⟩) us.length c7 (some ⟨bF, oF, none⟩) m cF, .int .i64 k, .bool true]) (by simp [results, Try.results18, go_sem, z0, z1, z2, z3]) rfl ⟨⟨_, _, _, _, rfl, ?_, New.fresh hgb3, ?_, New.fresh hgb7⟩, HS.out.1.2.2.2⟩
        · exact row_of_cells (by simp [hlts]) HS.out.2.1.2
        · exact row_of_cells (by simp) HS.out.2.2.2

def vGrow (W1 wr : World) (va : Value) (T : TypeId) (m : Nat) (xs : List Value) (v : Value) (W : World) : Prop :=
  (∃ a c, v = .slice a m c) ∧ W.ownsRow W1.heap.size T 1 v m xs ∧ ∀ g, v.ownBlock = some g → va.ownBlock = some g ∨ wr.heap.size ≤ g
def tGrow (W1 : World) (va : Value) (T : TypeId) (n : Nat) (xs : List Value) (_ : Nat → Value) (W W' : World) : Prop := W'.ownsRow W1.heap.size T 1 va n xs ∧ W.grownBy W' va.ownBlock
theorem vGrow.later {W1 wr : World} {va : Value} {T : TypeId} {m : Nat} {xs : List Value} {v : Value} {W W' : World} (h : vGrow W1 wr va T m xs v W) (hb : Below W.heap.size W W') : vGrow W1 wr va T m xs v W' := ⟨h.1, owns_below h.2.1 hb, h.2.2⟩
theorem vGrow.grown {W1 wr : World} {va vb : Value} {T T' : TypeId} {m n : Nat} {xs ys : List Value} {v : Value} {f : Nat → Value} {W W' : World} (h : vGrow W1 wr va T m xs v W) (ht : tGrow W1 vb T' n ys f W W') (hab : Ap va vb) (hlt : ∀ g, vb.ownBlock = some g → g < wr.heap.size) : vGrow W1 wr va T m xs v W' := by
  refine ⟨h.1, h.2.1.kept ht.2 ?_, h.2.2⟩
  cases hv : v.ownBlock with
  | none => exact .inl rfl
  | some g =>
    right
    intro e
    rcases h.2.2 g hv with h1 | h1
    · exact hab g h1 e.symm
    · have := hlt g e.symm; omega
theorem vBox.far {W1 wr : World} {vb : Value} {T T' : TypeId} {m n : Nat} {xs ys : List Value} {v : Value} {f : Nat → Value} {W W' : World} (h : vBox wr T m xs v W) (ht : tGrow W1 vb T' n ys f W W') (hlt : ∀ g, vb.ownBlock = some g → g < wr.heap.size) : vBox wr T m xs v W' := by
  obtain ⟨g, e, hf, hg⟩ := h
  exact ⟨g, e, hf.grown ht.2 (fun e => by have := hlt g e.symm; omega), hg⟩
theorem vGrow.res {w W1 wr : World} {va : Value} {T : TypeId} {m : Nat} {xs : List Value} {v : Value} {f : Nat → Value} {W W' : World} (h : vGrow W1 wr va T m xs v W) (ht : tRes w f W W') (hw : w.heap.size + 1 < W1.heap.size) : vGrow W1 wr va T m xs v W' := by
  refine ⟨h.1, h.2.1.kept ht.1 ?_, h.2.2⟩
  cases hv : v.ownBlock with
  | none => exact .inl rfl
  | some g => right; have := (h.2.1.lt g hv).1; simp; omega
def vAgg2 (W1 wr : World) (va vb : Value) (v0 v3 : Value) (m : Nat) (xs ys : List Value) (v : Value) (W : World) : Prop :=
  ∃ a c a' c', v = .agg #[v0, .slice a m c, .slice a' m c', v3] ∧ vGrow W1 wr va 3 m xs (.slice a m c) W ∧ vGrow W1 wr vb 4 m ys (.slice a' m c') W
theorem vAgg2.later {W1 wr : World} {va vb v0 v3 : Value} {m : Nat} {xs ys : List Value} {v : Value} {W W' : World} (h : vAgg2 W1 wr va vb v0 v3 m xs ys v W) (hb : Below W.heap.size W W') : vAgg2 W1 wr va vb v0 v3 m xs ys v W' := by
  obtain ⟨a, c, a', c', e, h1, h2⟩ := h; exact ⟨a, c, a', c', e, h1.later hb, h2.later hb⟩
theorem vAgg2.res {w W1 wr : World} {va vb v0 v3 : Value} {m : Nat} {xs ys : List Value} {v : Value} {f : Nat → Value} {W W' : World} (h : vAgg2 W1 wr va vb v0 v3 m xs ys v W) (ht : tRes w f W W') (hw : w.heap.size + 1 < W1.heap.size) : vAgg2 W1 wr va vb v0 v3 m xs ys v W' := by
  obtain ⟨a, c, a', c', e, h1, h2⟩ := h; exact ⟨a, c, a', c', e, h1.res ht hw, h2.res ht hw⟩
def vRes2 (w W1 wr : World) (va vb : Value) (v0 v3 : Value) (m : Nat) (xs ys : List Value) (_ : Value) (W : World) : Prop :=
  ∃ a c a' c', Flds W (w.heap.size + 1) TR [v0, .slice a m c, .slice a' m c', v3] ∧ vGrow W1 wr va 3 m xs (.slice a m c) W ∧ vGrow W1 wr vb 4 m ys (.slice a' m c') W
theorem vRes2.later {w W1 wr : World} {va vb v0 v3 : Value} {m : Nat} {xs ys : List Value} {v : Value} {W W' : World} (h : vRes2 w W1 wr va vb v0 v3 m xs ys v W) (hb : Below W.heap.size W W') : vRes2 w W1 wr va vb v0 v3 m xs ys v W' := by
  obtain ⟨a, c, a', c', e, h1, h2⟩ := h; exact ⟨a, c, a', c', e.later hb, h1.later hb, h2.later hb⟩

set_option maxRecDepth 100000 in
set_option maxHeartbeats 1600000 in
theorem alloc_more (room : Int) (aT : Option Addr) (ts : List Int) (cT : Nat) (aU : Option Addr) (us : List Bool) (cU : Nat) (aF : Option Addr) (cF : Nat) (x : Int) (w : World)
    (hT : Row w (.slice aT us.length cT) 1 us.length (ints ts)) (hr : Row w (.slice aU us.length cU) 1 us.length (us.map Value.bool)) (hm : us.length ≤ 1048576) (hroom : (count us : Int) < room) :
    Calls Try.prog 18 #[st room aT us.length cT aU us.length cU aF 0 cF, .int .i64 x] w fun e w' =>
      (∃ aT' cT' aU' cU', e = .returned (.tuple #[st room aT' (us.length + 1) cT' aU' (us.length + 1) cU' aF 0 cF, .int .i64 us.length, .bool true]) ∧ Row w' (.slice aT' (us.length + 1) cT') 1 (us.length + 1) (ints (ts ++ [x])) ∧ New w aT aT' ∧
        Row w' (.slice aU' (us.length + 1) cU') 1 (us.length + 1) ((us ++ [true]).map Value.bool) ∧ New w aU aU') ∧ Below w.heap.size w w' := by
  obtain ⟨i0, hi, hz0, hz1, hz2⟩ := info_parts infoInt
  obtain ⟨j0, hj, hy0, hy1, hy2⟩ := info_parts infoBool
  have hL := fun W (hB : Below w.heap.size w W) => live_any room aT us.length cT aU us cU aF 0 cF W (hr.later hB) hm
  have HL := Lib.hid hL; have HT := Lib.hid hT; have HU := Lib.hid hr
  have hd : decide (room ≤ (count us : Int)) = false := by simp; omega
  have h63 : 0 + us.length ≤ maxLen := by unfold maxLen; omega
  have h64 : (0 + us.length) * 8 ≤ 140737488355328 := by omega
  have h65 : 0 + us.length ≤ maxLen := by unfold maxLen; omega
  have h66 : (0 + us.length) * 1 ≤ 140737488355328 := by omega
  have h71 : us.length + 1 ≤ maxLen := by unfold maxLen; omega
  have h72 : (us.length + 1) * 8 ≤ 140737488355328 := by omega
  have h73 : (us.length + 1) * 1 ≤ 140737488355328 := by omega
  clear hL hr hT hroom
  go_enter Try.func18, Try.ntmps18
  go_wp2
  obtain ⟨W0, hW0⟩ : ∃ W0, (w.alloc (.cells #[.int .i64 room, .slice aT us.length cT, .slice aU us.length cU, .slice aF 0 cF] TR)).alloc (.cells #[.int .i64 0, .slice none 0 0, .slice none 0 0, .slice none 0 0] TR) = W0 := ⟨_, rfl⟩
  have hm0 : Mid w W0 room (.slice aT us.length cT) (.slice aU us.length cU) (.slice aF 0 cF) W0.drew := by rw [← hW0]; exact Mid.made w _ _ _ _
  have hs0 : W0.heap.size = w.heap.size + 2 := by rw [← hW0]; simp
  rw [hW0]
  have HM0 := Lib.hid hm0
  clear hW0 hm0
  refine ag.region_ag (Mid w W0 room (.slice aT us.length cT) (.slice aU us.length cU) (.slice aF 0 cF)) (fun _ _ _ _ => True)
    [.val (st room aT us.length cT aU us.length cU aF 0 cF), .sat (fun v _ => v = .int .i64 (count us : Int)) calm, .val (.pointer (some ⟨w.heap.size, 0, none⟩)), .val (.int .i64 room), .val (.bool false)]
    (by kernel_rfl) (by kernel_rfl) rfl HM0.out ?hst ?hk ?hwalk
  case hst =>
    simp only [ag.Stab, ag.Row2, ag.Ok2, and_true]
    repeat' apply And.intro
    all_goals first
      | exact fun h => absurd rfl h
      | trivial
  case hk => exact ⟨fun f W W' hS _ ht => hS.later ht, trivial⟩
  case hwalk =>
    iterate 1
      refine ag.walk_val (by rfl) (fun W hS hE => ?_) ?_
      rotate_left; simp only [Act.put, List.setIfInBounds_toArray, List.set_cons_zero, List.set_cons_succ]; rotate_left
      · obtain ⟨hc0, hc1, hc2, hc3⟩ := hS.1
        clear hS hE
        unfold ag.does
        go_simp
        try exact ⟨rfl, rfl⟩
    refine ag.walk_sat (by rfl) (fun W hS hE => ?_) (fun x1 => ?_)
    rotate_left; simp only [Act.put, List.setIfInBounds_toArray, List.set_cons_zero, List.set_cons_succ]; rotate_left
    · have hl := HL.out W hS.2.2.2
      have HLL := Lib.hid hl
      clear hE hS hl
      unfold ag.does
      go_simp
      refine HLL.out.mono ?_
      rintro e W' ⟨rfl, hb'⟩
      exact ⟨_, rfl, rfl, hb', ag.News.none (fun _ _ => trivial) _ _⟩
    iterate 2
      refine ag.walk_val (by rfl) (fun W hS hE => ?_) ?_
      rotate_left; simp only [Act.put, List.setIfInBounds_toArray, List.set_cons_zero, List.set_cons_succ]; rotate_left
      · obtain ⟨hc0, hc1, hc2, hc3⟩ := hS.1
        clear hS hE
        unfold ag.does
        go_simp
        try exact ⟨rfl, rfl⟩
    refine ag.walk_val (by rfl) (fun W hS hE => ?_) ?_
    rotate_left; simp only [Act.put, List.setIfInBounds_toArray, List.set_cons_zero, List.set_cons_succ]; rotate_left
    · have h1 : x1 = .int .i64 (count us : Int) := hE.get (by kernel_rfl)
      clear hS hE
      subst h1
      unfold ag.does
      go_simp
      try exact ⟨rfl, rfl⟩
    refine ag.walk_nil (fun W1 hS hF' hP => ?_)
    clear hF' hP HM0
    have hw1 : w.heap.size + 1 < W1.heap.size := by have := hS.2.2.1; omega
    have hm1 : Mid w W1 room (.slice aT us.length cT) (.slice aU us.length cU) (.slice aF 0 cF) W1.drew := by
      obtain ⟨h1, ⟨a, b, c, d, h2⟩, -, h4⟩ := hS
      exact ⟨h1, ⟨a, b, c, d, h2.drew 1⟩, Nat.le_refl _, h4.drew⟩
    have HM1 := Lib.hid hm1
    clear hS hm1
    go_wp2
    refine ag.region_ag (Mid w W1 room (.slice aT us.length cT) (.slice aU us.length cU) (.slice aF 0 cF)) (fun _ _ _ _ => True)
      [.sat (vBox W1 3 0 []) calm, .val (.pointer (some ⟨w.heap.size, 1, none⟩)), .val (.slice aT us.length cT), .sat (vRow W1 3 (0 + us.length) (ints ts)) calm, .sat (vBox W1 4 0 []) calm, .val (.pointer (some ⟨w.heap.size, 2, none⟩)), .val (.slice aU us.length cU), .sat (vRow W1 4 (0 + us.length) (us.map Value.bool)) calm, .cpy 3, .cpy 7]
      (by kernel_rfl) (by kernel_rfl) rfl HM1.out ?hst2 ?hk2 ?hwalk2
    case hst2 =>
      simp only [ag.Stab, ag.Row2, ag.Ok2, and_true]
      repeat' apply And.intro
      all_goals first
        | exact fun h => absurd rfl h
        | exact fun _ _ f v W W' hS hv _ ht => hv.later ht
        | trivial
    case hk2 =>
      simp only [ag.Keeps, and_true]
      repeat' apply And.intro
      all_goals exact fun f W W' hS _ ht => hS.later ht
    case hwalk2 =>
      refine ag.walk_sat (by rfl) (fun W hS hE => ?_) (fun y0 => ?_)
      rotate_left; simp only [Act.put, List.setIfInBounds_toArray, List.set_cons_zero, List.set_cons_succ]; rotate_left
      · clear hE
        unfold ag.does
        go_simp
        exact ⟨⟨_, rfl, Flds.new W 3 [], hS.2.2.1⟩, (Below.refl _ _).alloc (Nat.le_refl _) _, ag.News.none (fun _ _ => trivial) _ _⟩
      iterate 2
        refine ag.walk_val (by rfl) (fun W hS hE => ?_) ?_
        rotate_left; simp only [Act.put, List.setIfInBounds_toArray, List.set_cons_zero, List.set_cons_succ]; rotate_left
        · obtain ⟨hc0, hc1, hc2, hc3⟩ := hS.1
          clear hS hE
          unfold ag.does
          go_simp
          try exact ⟨rfl, rfl⟩
      refine ag.walk_sat (by rfl) (fun W hS hE => ?_) (fun y3 => ?_)
      rotate_left; simp only [Act.put, List.setIfInBounds_toArray, List.set_cons_zero, List.set_cons_succ]; rotate_left
      · obtain ⟨g5, e5, hF5, hg5⟩ : vBox W1 3 0 [] y0 W := hE.get (by kernel_rfl)
        clear hE
        subst e5
        refine does_append (.tmp 17) (.tmp 19) 26 (by rfl) W1.heap.size 3 i0 (.int .i64 0) 1 8 Try.underlying26 hi hz0 hz1 hz2 rfl (by decide) (.slice (some ⟨g5, 0, none⟩) 0 0) 0 [] (by rfl) (owns_of_flds (m := 0) hF5 rfl hg5 (by decide))
          (.slice aT us.length cT) us.length (ints ts) (by rfl) (HT.out.later hS.2.2.2) (one_int ts) h63 h64 hS.2.2.1 (fun v' W' hap => ?_)
        refine ⟨⟨hap.form, hap.own, fun g' hv => ?_⟩, hap.full (fun a c e => by cases e; exact Nat.le_refl _), ag.News.none (fun _ _ => trivial) _ _⟩
        rcases hap.lies with h | h | h
        · rw [h] at hv; cases hv
        · rw [h] at hv; cases hv; exact hg5
        · rw [h] at hv; cases hv; exact hS.2.2.1
      refine ag.walk_sat (by rfl) (fun W hS hE => ?_) (fun y4 => ?_)
      rotate_left; simp only [Act.put, List.setIfInBounds_toArray, List.set_cons_zero, List.set_cons_succ]; rotate_left
      · clear hE
        unfold ag.does
        go_simp
        exact ⟨⟨_, rfl, Flds.new W 4 [], hS.2.2.1⟩, (Below.refl _ _).alloc (Nat.le_refl _) _, ag.News.none (fun _ _ => trivial) _ _⟩
      iterate 2
        refine ag.walk_val (by rfl) (fun W hS hE => ?_) ?_
        rotate_left; simp only [Act.put, List.setIfInBounds_toArray, List.set_cons_zero, List.set_cons_succ]; rotate_left
        · obtain ⟨hc0, hc1, hc2, hc3⟩ := hS.1
          clear hS hE
          unfold ag.does
          go_simp
          try exact ⟨rfl, rfl⟩
      refine ag.walk_sat (by rfl) (fun W hS hE => ?_) (fun y7 => ?_)
      rotate_left; simp only [Act.put, List.setIfInBounds_toArray, List.set_cons_zero, List.set_cons_succ]; rotate_left
      · obtain ⟨g5, e5, hF5, hg5⟩ : vBox W1 4 0 [] y4 W := hE.get (by kernel_rfl)
        clear hE
        subst e5
        refine does_append (.tmp 21) (.tmp 23) 27 (by rfl) W1.heap.size 4 j0 (.bool false) 1 1 Try.underlying27 hj hy0 hy1 hy2 rfl (by decide) (.slice (some ⟨g5, 0, none⟩) 0 0) 0 [] (by rfl) (owns_of_flds (m := 0) hF5 rfl hg5 (by decide))
          (.slice aU us.length cU) us.length (us.map Value.bool) (by rfl) (HU.out.later hS.2.2.2) (one_bool us) h65 h66 hS.2.2.1 (fun v' W' hap => ?_)
        refine ⟨⟨hap.form, hap.own, fun g' hv => ?_⟩, hap.full (fun a c e => by cases e; exact Nat.le_refl _), ag.News.none (fun _ _ => trivial) _ _⟩
        rcases hap.lies with h | h | h
        · rw [h] at hv; cases hv
        · rw [h] at hv; cases hv; exact hg5
        · rw [h] at hv; cases hv; exact hS.2.2.1
      iterate 2
        refine ag.walk_cpy (by kernel_rfl) (by rfl) (by rfl) (fun W hS hE => ?_) ?_
        rotate_left; simp only [Act.put, List.setIfInBounds_toArray, List.set_cons_zero, List.set_cons_succ]; rotate_left
        · clear hS hE
          unfold ag.does
          go_simp
          rfl
      simp only [ag.lookX, Nat.reduceAdd, Nat.reduceEqDiff, if_false, if_true]
      refine ag.walk_nil (fun W2 hS hF' hP => ?_)
      obtain ⟨-, -, f7, -, f3, -⟩ := hF'
      obtain ⟨⟨a3, c3, rfl⟩, o3, l3⟩ := f3
      obtain ⟨⟨a7, c7, rfl⟩, o7, l7⟩ := f7
      simp only [Nat.zero_add] at o3 o7 l3 l7 ⊢
      have hm2 : Mid w W2 room (.slice aT us.length cT) (.slice aU us.length cU) (.slice aF 0 cF) W2 := ⟨hS.1, hS.2.1, Nat.le_refl _, hS.2.2.2⟩
      have hw2 : w.heap.size + 1 < W2.heap.size := Nat.lt_of_lt_of_le hw1 hS.2.2.1
      have HW12 := Lib.hid hS.2.2.1
      have hap : Ap (.slice a3 us.length c3) (.slice a7 us.length c7) := by
        intro g hg hug
        rcases owns_ne_owns o3 o7 (by decide) with h | h
        · rw [h] at hg; cases hg
        · exact h (hg.trans hug.symm)
      have HM2 := Lib.hid hm2; have O3 := Lib.hid o3; have O7 := Lib.hid o7; have L3 := Lib.hid l3; have L7 := Lib.hid l7; have HAP := Lib.hid hap
      clear hS hP HM1 hm2 o3 o7 l3 l7 hap
      obtain ⟨⟨c0, c1, c2, c3'⟩, -, -, -⟩ := HM2.out
      obtain ⟨v3, hv3⟩ : ∃ v, Value.slice a3 us.length c3 = v := ⟨_, rfl⟩
      obtain ⟨v7, hv7⟩ : ∃ v, Value.slice a7 us.length c7 = v := ⟨_, rfl⟩
      have hlt3 : ∀ g, v3.ownBlock = some g → g < W2.heap.size := fun g hg => (O3.out.lt g (hv3 ▸ hg)).2
      have hlt7 : ∀ g, v7.ownBlock = some g → g < W2.heap.size := fun g hg => (O7.out.lt g (hv7 ▸ hg)).2
      have hmid : (Mid w W1 room (.slice aT us.length cT) (.slice aU us.length cU) (.slice aF 0 cF) W2.drew) ∧ (W2.drew.ownsRow W1.heap.size 3 1 v3 us.length (ints ts) ∧ W2.drew.ownsRow W1.heap.size 4 1 v7 us.length (us.map Value.bool)) ∧ W2.heap.size ≤ W2.drew.heap.size := by
        obtain ⟨q, ⟨a, b, c, d, hfl⟩, h1, h2⟩ := HM2.out
        exact ⟨⟨q, ⟨a, b, c, d, hfl.drew 1⟩, HW12.out, h2.drew⟩, ⟨hv3 ▸ O3.out, hv7 ▸ O7.out⟩, Nat.le_refl _⟩
      have ap37 : Ap v3 v7 := by rw [← hv3, ← hv7]; exact HAP.out
      have HMX := Lib.hid hmid; have HAP' := Lib.hid ap37; have H3 := Lib.hid hlt3; have H7 := Lib.hid hlt7
      have hx1 : W1.heap.size ≤ W2.heap.size := HW12.out
      clear hmid ap37 hlt3 hlt7 HM2 O3 O7 L3 L7 HAP HL
      rw [hv3, hv7]
      clear hv3 hv7
      go_wp2
      refine ag.region_ag (fun W => Mid w W1 room (.slice aT us.length cT) (.slice aU us.length cU) (.slice aF 0 cF) W ∧ (W.ownsRow W1.heap.size 3 1 v3 us.length (ints ts) ∧ W.ownsRow W1.heap.size 4 1 v7 us.length (us.map Value.bool)) ∧ W2.heap.size ≤ W.heap.size) (fun _ _ _ _ => True)
        [.val (.pointer (some ⟨w.heap.size, 0, none⟩)), .val (.int .i64 room), .val v3, .val (.int .i64 x), .sat (vBox W2 3 1 [.int .i64 x]) calm, .sat (vGrow W1 W2 v3 3 (us.length + 1) (ints ts ++ [.int .i64 x])) (tGrow W1 v3 3 us.length (ints ts)), .val v7, .sat (vBox W2 4 1 [.bool true]) calm, .sat (vGrow W1 W2 v7 4 (us.length + 1) (us.map Value.bool ++ [.bool true])) (tGrow W1 v7 4 us.length (us.map Value.bool)),
          .val (.pointer (some ⟨w.heap.size, 3, none⟩)), .val (.slice aF 0 cF), .sat (vAgg2 W1 W2 v3 v7 (.int .i64 room) (.slice aF 0 cF) (us.length + 1) (ints ts ++ [.int .i64 x]) (us.map Value.bool ++ [.bool true])) calm, .val (.pointer (some ⟨w.heap.size, 1, none⟩)), .val (.slice aT us.length cT), .val (.int .i64 us.length),
          .sat (vRes2 w W1 W2 v3 v7 (.int .i64 room) (.slice aF 0 cF) (us.length + 1) (ints ts ++ [.int .i64 x]) (us.map Value.bool ++ [.bool true])) (tRes w), .val (.int .i64 us.length), .val (.bool true)]
        (by kernel_rfl) (by kernel_rfl) rfl HMX.out ?hst4 ?hk4 ?hwalk4
      case hst4 =>
        simp only [ag.Stab, ag.Row2, ag.Ok2, and_true]
        repeat' apply And.intro
        all_goals first
          | exact fun h => absurd rfl h
          | exact fun _ _ f v W W' hS hv _ ht => hv.later ht
          | exact fun _ _ f v W W' hS hv _ ht => hv.res ht (by omega)
          | exact fun _ _ f v W W' hS hv _ ht => hv.far ht H3.out
          | exact fun _ _ f v W W' hS hv _ ht => hv.far ht H7.out
          | exact fun _ _ f v W W' hS hv _ ht => hv.grown ht HAP'.out H7.out
          | exact fun _ _ f v W W' hS hv _ ht => hv.grown ht HAP'.out.symm H3.out
          | exact fun _ h => absurd (h.symm.trans (show _ = true by kernel_rfl)) (by decide)
          | trivial
      case hk4 =>
        simp only [ag.Keeps, and_true]
        repeat' apply And.intro
        all_goals first
          | exact fun f W W' hS _ ht => ⟨hS.1.later ht, ⟨owns_below hS.2.1.1 ht, owns_below hS.2.1.2 ht⟩, Nat.le_trans hS.2.2 (Below.size ht)⟩
          | exact fun f W W' hS _ ht => ⟨hS.1.res ht, ⟨owns_res hS.2.1.1 ht hw1, owns_res hS.2.1.2 ht hw1⟩, Nat.le_trans hS.2.2 ht.1.size⟩
          | exact fun f W W' hS _ ht => ⟨hS.1.grown ht.2 (fun g e => (hS.2.1.1.lt g e).1) hw1, ⟨ht.1, hS.2.1.2.kept ht.2 (Ap.or HAP'.out.symm)⟩, Nat.le_trans hS.2.2 ht.2.size⟩
          | exact fun f W W' hS _ ht => ⟨hS.1.grown ht.2 (fun g e => (hS.2.1.2.lt g e).1) hw1, ⟨hS.2.1.1.kept ht.2 (Ap.or HAP'.out), ht.1⟩, Nat.le_trans hS.2.2 ht.2.size⟩
      case hwalk4 =>
        iterate 4
          refine ag.walk_val (by rfl) (fun W hS hE => ?_) ?_
          rotate_left; simp only [Act.put, List.setIfInBounds_toArray, List.set_cons_zero, List.set_cons_succ]; rotate_left
          · obtain ⟨hc0, hc1, hc2, hc3⟩ := hS.1.1
            clear hS hE
            unfold ag.does
            go_simp
            try exact ⟨rfl, rfl⟩
        refine ag.walk_sat (by rfl) (fun W hS hE => ?_) (fun z4 => ?_)
        rotate_left; simp only [Act.put, List.setIfInBounds_toArray, List.set_cons_zero, List.set_cons_succ]; rotate_left
        · clear hE
          unfold ag.does
          go_simp
          exact ⟨⟨_, rfl, Flds.new W 3 [.int .i64 x], hS.2.2⟩, (Below.refl _ _).alloc (Nat.le_refl _) _, ag.News.none (fun _ _ => trivial) _ _⟩
        refine ag.walk_sat (by rfl) (fun W hS hE => ?_) (fun z5 => ?_)
        rotate_left; simp only [Act.put, List.setIfInBounds_toArray, List.set_cons_zero, List.set_cons_succ]; rotate_left
        · obtain ⟨g5, e5, hF5, hg5⟩ : vBox W2 3 1 [.int .i64 x] z4 W := hE.get (by kernel_rfl)
          clear hE
          subst e5
          refine does_append (.tmp 56) (.tmp 58) 26 (by rfl) W1.heap.size 3 i0 (.int .i64 0) 1 8 Try.underlying26 hi hz0 hz1 hz2 rfl (by decide) v3 us.length (ints ts) (by rfl) hS.2.1.1
            (.slice (some ⟨g5, 0, none⟩) 1 1) 1 [.int .i64 x] (by rfl) (Row.of_flds hF5 rfl 1) (one_int [x]) h71 h72 (Nat.le_trans hx1 hS.2.2) (fun v' W' hap => ?_)
          refine ⟨⟨hap.form, hap.own, fun g' hv => ?_⟩, ⟨hap.old, hap.grown⟩, ag.News.none (fun _ _ => trivial) _ _⟩
          rcases hap.lies with h | h | h
          · rw [h] at hv; cases hv
          · rw [h] at hv; exact .inl hv
          · rw [h] at hv; cases hv; exact .inr hS.2.2
        iterate 1
          refine ag.walk_val (by rfl) (fun W hS hE => ?_) ?_
          rotate_left; simp only [Act.put, List.setIfInBounds_toArray, List.set_cons_zero, List.set_cons_succ]; rotate_left
          · obtain ⟨hc0, hc1, hc2, hc3⟩ := hS.1.1
            clear hS hE
            unfold ag.does
            go_simp
            try exact ⟨rfl, rfl⟩
        refine ag.walk_sat (by rfl) (fun W hS hE => ?_) (fun z7 => ?_)
        rotate_left; simp only [Act.put, List.setIfInBounds_toArray, List.set_cons_zero, List.set_cons_succ]; rotate_left
        · clear hE
          unfold ag.does
          go_simp
          exact ⟨⟨_, rfl, Flds.new W 4 [.bool true], hS.2.2⟩, (Below.refl _ _).alloc (Nat.le_refl _) _, ag.News.none (fun _ _ => trivial) _ _⟩
        refine ag.walk_sat (by rfl) (fun W hS hE => ?_) (fun z8 => ?_)
        rotate_left; simp only [Act.put, List.setIfInBounds_toArray, List.set_cons_zero, List.set_cons_succ]; rotate_left
        · obtain ⟨g5, e5, hF5, hg5⟩ : vBox W2 4 1 [.bool true] z7 W := hE.get (by kernel_rfl)
          clear hE
          subst e5
          refine does_append (.tmp 60) (.tmp 61) 27 (by rfl) W1.heap.size 4 j0 (.bool false) 1 1 Try.underlying27 hj hy0 hy1 hy2 rfl (by decide) v7 us.length (us.map Value.bool) (by rfl) hS.2.1.2
            (.slice (some ⟨g5, 0, none⟩) 1 1) 1 [.bool true] (by rfl) (Row.of_flds hF5 rfl 1) (one_bool [true]) h71 h73 (Nat.le_trans hx1 hS.2.2) (fun v' W' hap => ?_)
          refine ⟨⟨hap.form, hap.own, fun g' hv => ?_⟩, ⟨hap.old, hap.grown⟩, ag.News.none (fun _ _ => trivial) _ _⟩
          rcases hap.lies with h | h | h
          · rw [h] at hv; cases hv
          · rw [h] at hv; exact .inl hv
          · rw [h] at hv; cases hv; exact .inr hS.2.2
        iterate 2
          refine ag.walk_val (by rfl) (fun W hS hE => ?_) ?_
          rotate_left; simp only [Act.put, List.setIfInBounds_toArray, List.set_cons_zero, List.set_cons_succ]; rotate_left
          · obtain ⟨hc0, hc1, hc2, hc3⟩ := hS.1.1
            clear hS hE
            unfold ag.does
            go_simp
            try exact ⟨rfl, rfl⟩
        refine ag.walk_sat (by rfl) (fun W hS hE => ?_) (fun z11 => ?_)
        rotate_left; simp only [Act.put, List.setIfInBounds_toArray, List.set_cons_zero, List.set_cons_succ]; rotate_left
        · have h8 : vGrow W1 W2 v7 4 (us.length + 1) (us.map Value.bool ++ [.bool true]) z8 W := hE.get (by kernel_rfl)
          have h5 : vGrow W1 W2 v3 3 (us.length + 1) (ints ts ++ [.int .i64 x]) z5 W := hE.tail.tail.get (by kernel_rfl)
          clear hE
          obtain ⟨a, c, e⟩ := h5.1
          obtain ⟨a', c', e'⟩ := h8.1
          subst e e'
          have H5 := Lib.hid h5; have H8 := Lib.hid h8
          clear h5 h8
          unfold ag.does
          go_simp
          exact ⟨⟨a, c, a', c', rfl, H5.out, H8.out⟩, Below.refl _ _, ag.News.none (fun _ _ => trivial) _ _⟩
        iterate 3
          refine ag.walk_val (by rfl) (fun W hS hE => ?_) ?_
          rotate_left; simp only [Act.put, List.setIfInBounds_toArray, List.set_cons_zero, List.set_cons_succ]; rotate_left
          · obtain ⟨hc0, hc1, hc2, hc3⟩ := hS.1.1
            clear hS hE
            unfold ag.does
            go_simp
            try exact ⟨rfl, rfl⟩
        refine ag.walk_sat (by rfl) (fun W hS hE => ?_) (fun z15 => ?_)
        rotate_left; simp only [Act.put]; rotate_left
        · obtain ⟨a, c, a', c', e, h5, h8⟩ : vAgg2 W1 W2 v3 v7 (.int .i64 room) (.slice aF 0 cF) (us.length + 1) (ints ts ++ [.int .i64 x]) (us.map Value.bool ++ [.bool true]) z11 W := hE.get (by kernel_rfl)
          clear hE
          subst e
          obtain ⟨q0, q1, q2, q3, hfl⟩ := hS.1.2.1
          have z0 := hfl.cell 0; have z1 := hfl.cell 1; have z2 := hfl.cell 2; have z3 := hfl.cell 3
          have y0 := hfl.frozen 0; have y1 := hfl.frozen 1; have y2 := hfl.frozen 2; have y3 := hfl.frozen 3
          simp only [List.getElem?_cons_zero, List.getElem?_cons_succ] at z0 z1 z2 z3
          have HFL := Lib.hid hfl; have H5 := Lib.hid h5; have H8 := Lib.hid h8
          clear hfl h5 h8 hS
          unfold ag.does
          go_simp
          have ht := tRes_of HFL.out (.int .i64 room) (.slice a (us.length + 1) c) (.slice a' (us.length + 1) c') (.slice aF 0 cF)
          exact ⟨⟨a, c, a', c', ht.2, H5.out.res (f := fun _ => undef) ⟨ht.1, _, _, _, _, ht.2⟩ hw1, H8.out.res (f := fun _ => undef) ⟨ht.1, _, _, _, _, ht.2⟩ hw1⟩, ⟨ht.1, _, _, _, _, ht.2⟩, ag.News.none (fun _ _ => trivial) _ _⟩
        iterate 2
          refine ag.walk_val (by rfl) (fun W hS hE => ?_) ?_
          rotate_left; simp only [Act.put, List.setIfInBounds_toArray, List.set_cons_zero, List.set_cons_succ]; rotate_left
          · obtain ⟨hc0, hc1, hc2, hc3⟩ := hS.1.1
            clear hS hE
            unfold ag.does
            go_simp
            try exact ⟨rfl, rfl⟩
        refine ag.walk_nil (fun W3 hS hF' hP => ?_)
        obtain ⟨⟨a, c, a', c', hfl, h5, h8⟩, -⟩ := hF'
        have z0 := hfl.cell 0; have z1 := hfl.cell 1; have z2 := hfl.cell 2; have z3 := hfl.cell 3
        simp only [List.getElem?_cons_zero, List.getElem?_cons_succ] at z0 z1 z2 z3
        have HS := Lib.hid hS; have H5 := Lib.hid h5; have H8 := Lib.hid h8
        clear hfl hS hP HMX h5 h8
        go_wp2
        refine bodyPost_ret (v := .tuple #[st room a (us.length + 1) c a' (us.length + 1) c' aF 0 cF, .int .i64 us.length, .bool true]) (by simp [results, Try.results18, go_sem, z0, z1, z2, z3]) rfl ⟨⟨_, _, _, _, rfl, ?_, ?_, ?_, ?_⟩, HS.out.1.2.2.2⟩
        · have := Row.of_owns H5.out.2.1
          rw [show ints ts ++ [Value.int .i64 x] = ints (ts ++ [x]) by simp] at this
          exact this
        · rintro ⟨b, o, sp⟩ rfl
          have := (H5.out.2.1.lt b rfl).1; show w.heap.size ≤ b; omega
        · have := Row.of_owns H8.out.2.1
          rw [show us.map Value.bool ++ [Value.bool true] = (us ++ [true]).map Value.bool by simp] at this
          exact this
        · rintro ⟨b, o, sp⟩ rfl
          have := (H8.out.2.1.lt b rfl).1; show w.heap.size ≤ b; omega

end Go.Proofs.Ytbaepjjanjhliaa.ref01
