/- Two aggregates' parts together; walked. -/
import Derived.Test.YtmbafcfoboknkaaAggA
import Derived.Test.YtmbafcfoboknkaaWide
namespace Go.Proofs.Ytmbafcfoboknkaa.agr
set_option linter.unusedVariables false
open Go.RowKit val
abbrev oV (o : On) : Value := .agg #[.int .i64 o.n, .int .i64 (wide.hiW o.s), .int .u64 (wide.loW o.s), .int .i64 o.mn.k, .int .i64 o.mn.n, .string o.mn.s, .int .i64 o.mx.k, .int .i64 o.mx.n, .string o.mx.s]
/-- nine cells are written in a box -/
theorem box9 {W : World} {g : Nat} {T : TypeId} {a0 a1 a2 a3 a4 a5 a6 a7 a8 b0 b1 b2 b3 b4 b5 b6 b7 b8 : Value} (h : Flds W g T [a0, a1, a2, a3, a4, a5, a6, a7, a8]) : Flds (((((((((W.setCell ⟨g, 0, none⟩ (b0)).setCell ⟨g, 1, none⟩ (b1)).setCell ⟨g, 2, none⟩ (b2)).setCell ⟨g, 3, none⟩ (b3)).setCell ⟨g, 4, none⟩ (b4)).setCell ⟨g, 5, none⟩ (b5)).setCell ⟨g, 6, none⟩ (b6)).setCell ⟨g, 7, none⟩ (b7)).setCell ⟨g, 8, none⟩ (b8)) g T [b0, b1, b2, b3, b4, b5, b6, b7, b8] ∧ W.grownBy (((((((((W.setCell ⟨g, 0, none⟩ (b0)).setCell ⟨g, 1, none⟩ (b1)).setCell ⟨g, 2, none⟩ (b2)).setCell ⟨g, 3, none⟩ (b3)).setCell ⟨g, 4, none⟩ (b4)).setCell ⟨g, 5, none⟩ (b5)).setCell ⟨g, 6, none⟩ (b6)).setCell ⟨g, 7, none⟩ (b7)).setCell ⟨g, 8, none⟩ (b8)) (some g) :=
  ⟨(((((((((h.set 0 b0).set 1 b1).set 2 b2).set 3 b3).set 4 b4).set 5 b5).set 6 b6).set 7 b7).set 8 b8), grown_two' (grown_two' (grown_two' (grown_two' (grown_two' (grown_two' (grown_two' (grown_two' (grown_setCell _ ⟨g, 0, none⟩ _) (grown_setCell _ ⟨g, 1, none⟩ _)) (grown_setCell _ ⟨g, 2, none⟩ _)) (grown_setCell _ ⟨g, 3, none⟩ _)) (grown_setCell _ ⟨g, 4, none⟩ _)) (grown_setCell _ ⟨g, 5, none⟩ _)) (grown_setCell _ ⟨g, 6, none⟩ _)) (grown_setCell _ ⟨g, 7, none⟩ _)) (grown_setCell _ ⟨g, 8, none⟩ _)⟩
theorem box3 {W : World} {g : Nat} {x y z : Value} {fs : List Value} {T : TypeId} (h : Flds W g T fs) (i : Nat) : Flds (((W.setCell ⟨g, i, none⟩ x).setCell ⟨g, i + 1, none⟩ y).setCell ⟨g, i + 2, none⟩ z) g T (((fs.set i x).set (i + 1) y).set (i + 2) z) ∧ W.grownBy (((W.setCell ⟨g, i, none⟩ x).setCell ⟨g, i + 1, none⟩ y).setCell ⟨g, i + 2, none⟩ z) (some g) :=
  ⟨((h.set i x).set (i + 1) y).set (i + 2) z, grown_two' (grown_two' (grown_setCell _ ⟨g, i, none⟩ _) (grown_setCell _ ⟨g, i + 1, none⟩ _)) (grown_setCell _ ⟨g, i + 2, none⟩ _)⟩
def BothPost (a b : On) (w : World) (e : Ending) (w' : World) : Prop := e = .returned (oV (both a b)) ∧ Below w.heap.size w w'
/-- a slice of two wide numbers -/
def W2V (l : List Int) : Value → World → Prop := fun v W => ∃ g, v = .slice (some ⟨g, 0, none⟩) l.length l.length ∧ Row W (.slice (some ⟨g, 0, none⟩) l.length l.length) 2 l.length (wide.cells l)
theorem W2V.lasts {l : List Int} {v : Value} {W W' : World} (h : W2V l v W) (hb : Below W.heap.size W W') : W2V l v W' := by
  obtain ⟨g, e, h1⟩ := h
  exact ⟨g, e, h1.later hb⟩

set_option maxRecDepth 100000 in
set_option maxHeartbeats 4000000 in
theorem both_any (a b : On) (hn : -9223372036854775808 ≤ a.n + b.n ∧ a.n + b.n ≤ 9223372036854775807) (w : World) : Calls Try.prog 40 #[oV a, oV b] w (BothPost a b w) := by
  obtain ⟨W1, hW1⟩ : ∃ W, w.alloc (.cells #[.int .i64 a.n, .int .i64 (wide.hiW a.s), .int .u64 (wide.loW a.s), .int .i64 a.mn.k, .int .i64 a.mn.n, .string a.mn.s, .int .i64 a.mx.k, .int .i64 a.mx.n, .string a.mx.s] TOn) = W := ⟨_, rfl⟩
  obtain ⟨g1, hg1⟩ : ∃ g, w.heap.size = g := ⟨_, rfl⟩
  have hb1 : Below w.heap.size w W1 := by rw [← hW1]; exact (Below.refl _ _).alloc (Nat.le_refl _) _
  have hf1 : Flds W1 g1 TOn [.int .i64 a.n, .int .i64 (wide.hiW a.s), .int .u64 (wide.loW a.s), .int .i64 a.mn.k, .int .i64 a.mn.n, .string a.mn.s, .int .i64 a.mx.k, .int .i64 a.mx.n, .string a.mx.s] := by rw [← hW1, ← hg1]; exact Flds.new w _ _
  obtain ⟨W2, hW2⟩ : ∃ W, W1.alloc (.cells #[.int .i64 b.n, .int .i64 (wide.hiW b.s), .int .u64 (wide.loW b.s), .int .i64 b.mn.k, .int .i64 b.mn.n, .string b.mn.s, .int .i64 b.mx.k, .int .i64 b.mx.n, .string b.mx.s] TOn) = W := ⟨_, rfl⟩
  obtain ⟨g2, hg2⟩ : ∃ g, W1.heap.size = g := ⟨_, rfl⟩
  have hb2 : Below W1.heap.size W1 W2 := by rw [← hW2]; exact (Below.refl _ _).alloc (Nat.le_refl _) _
  have hf2 : Flds W2 g2 TOn [.int .i64 b.n, .int .i64 (wide.hiW b.s), .int .u64 (wide.loW b.s), .int .i64 b.mn.k, .int .i64 b.mn.n, .string b.mn.s, .int .i64 b.mx.k, .int .i64 b.mx.n, .string b.mx.s] := by rw [← hW2, ← hg2]; exact Flds.new W1 _ _
  obtain ⟨W3, hW3⟩ : ∃ W, W2.alloc (.cells #[.int .i64 0, .int .i64 0, .int .u64 0, .int .i64 0, .int .i64 0, .string ⟨#[]⟩, .int .i64 0, .int .i64 0, .string ⟨#[]⟩] TOn) = W := ⟨_, rfl⟩
  obtain ⟨g4, hg4⟩ : ∃ g, W2.heap.size = g := ⟨_, rfl⟩
  have hb3 : Below W2.heap.size W2 W3 := by rw [← hW3]; exact (Below.refl _ _).alloc (Nat.le_refl _) _
  have hf3 : Flds W3 g4 TOn [.int .i64 0, .int .i64 0, .int .u64 0, .int .i64 0, .int .i64 0, .string ⟨#[]⟩, .int .i64 0, .int .i64 0, .string ⟨#[]⟩] := by rw [← hW3, ← hg4]; exact Flds.new W2 _ _
  have hbw : Below w.heap.size w W3 := (hb1.trans (hb2.mono hb1.size)).trans (hb3.mono (Nat.le_trans hb1.size hb2.size))
  have hf1' := (hf1.later hb2).later hb3
  have hf2' := hf2.later hb3
  have HG4 := Lib.hid (show w.heap.size ≤ g4 by have := hb1.size; have := hb2.size; omega)
  have HBW := Lib.hid hbw
  have HF4 := Lib.hid hf3
  have HA := Lib.hid (fun (W : World) (hb : Below W3.heap.size W3 W) => And.intro ((hf1'.later hb).cell 0) (And.intro ((hf1'.later hb).cell 1) (And.intro ((hf1'.later hb).cell 2) (And.intro ((hf1'.later hb).cell 3) (And.intro ((hf1'.later hb).cell 4) (And.intro ((hf1'.later hb).cell 5) (And.intro ((hf1'.later hb).cell 6) (And.intro ((hf1'.later hb).cell 7) (And.intro ((hf1'.later hb).cell 8) ((hf1'.later hb).lt))))))))))
  have HB := Lib.hid (fun (W : World) (hb : Below W3.heap.size W3 W) => And.intro ((hf2'.later hb).cell 0) (And.intro ((hf2'.later hb).cell 1) (And.intro ((hf2'.later hb).cell 2) (And.intro ((hf2'.later hb).cell 3) (And.intro ((hf2'.later hb).cell 4) (And.intro ((hf2'.later hb).cell 5) (And.intro ((hf2'.later hb).cell 6) (And.intro ((hf2'.later hb).cell 7) (And.intro ((hf2'.later hb).cell 8) ((hf2'.later hb).lt))))))))))
  have HZ := Lib.hid (fun (W : World) (hb : Below W3.heap.size W3 W) => And.intro ((hf3.later hb).cell 0) (And.intro ((hf3.later hb).cell 1) (And.intro ((hf3.later hb).cell 2) (And.intro ((hf3.later hb).cell 3) (And.intro ((hf3.later hb).cell 4) (And.intro ((hf3.later hb).cell 5) (And.intro ((hf3.later hb).cell 6) (And.intro ((hf3.later hb).cell 7) (And.intro ((hf3.later hb).cell 8) (And.intro ((hf3.later hb).lt) (And.intro ((hf3.later hb).frozen 0) (And.intro ((hf3.later hb).frozen 1) (And.intro ((hf3.later hb).frozen 2) (And.intro ((hf3.later hb).frozen 3) (And.intro ((hf3.later hb).frozen 4) (And.intro ((hf3.later hb).frozen 5) (And.intro ((hf3.later hb).frozen 6) (And.intro ((hf3.later hb).frozen 7) ((hf3.later hb).frozen 8)))))))))))))))))))
  simp only [List.getElem?_cons_zero, List.getElem?_cons_succ] at HA HB HZ
  clear hf1 hf2 hf3 hf1' hf2' hb1 hb2 hb3 hbw
  obtain ⟨an, au, ⟨ak, am, at_⟩, ⟨ax, ay, az⟩⟩ := a
  obtain ⟨bn, bu, ⟨bk, bm, bt_⟩, ⟨bx, by_, bz⟩⟩ := b
  dsimp only at hn HA HB hW1 hW2
  have hw1 : (an : Int) + bn = an + bn := rfl
  obtain ⟨p0, p1, p2, p3, p4, p5, p6, p7, p8, pl⟩ := HA.out W3 (Below.refl _ _)
  obtain ⟨q0, q1, q2, q3, q4, q5, q6, q7, q8, ql⟩ := HB.out W3 (Below.refl _ _)
  obtain ⟨r0, r1, r2, r3, r4, r5, r6, r7, r8, rl, y0, y1, y2, y3, y4, y5, y6, y7, y8⟩ := HZ.out W3 (Below.refl _ _)
  go_enter Try.func40, Try.ntmps40
  go_upto_region 1 with fail
  try rw [hW1, hg1]
  try rw [hW2, hg2]
  try rw [hW3, hg4]
  clear hW1 hg1 hW2 hg2 hW3 hg4
  by_cases h1 : an = 0
  · have d1 : (an == 0) = true := by simp [h1]
    have HE := Lib.hid (show both ⟨an, au, ⟨ak, am, at_⟩, ⟨ax, ay, az⟩⟩ ⟨bn, bu, ⟨bk, bm, bt_⟩, ⟨bx, by_, bz⟩⟩ = ⟨bn, bu, ⟨bk, bm, bt_⟩, ⟨bx, by_, bz⟩⟩ from by unfold both; rw [if_pos h1])
    go_wp2_with fail
    obtain ⟨hf5, hg5⟩ := @box9 W3 g4 TOn (.int .i64 0) (.int .i64 0) (.int .u64 0) (.int .i64 0) (.int .i64 0) (.string ⟨#[]⟩) (.int .i64 0) (.int .i64 0) (.string ⟨#[]⟩) (.int .i64 bn) (.int .i64 (wide.hiW bu)) (.int .u64 (wide.loW bu)) (.int .i64 bk) (.int .i64 bm) (.string bt_) (.int .i64 bx) (.int .i64 by_) (.string bz) HF4.out
    obtain ⟨W5, hW5⟩ : ∃ W, (((((((((W3.setCell ⟨g4, 0, none⟩ (.int .i64 bn)).setCell ⟨g4, 1, none⟩ (.int .i64 (wide.hiW bu))).setCell ⟨g4, 2, none⟩ (.int .u64 (wide.loW bu))).setCell ⟨g4, 3, none⟩ (.int .i64 bk)).setCell ⟨g4, 4, none⟩ (.int .i64 bm)).setCell ⟨g4, 5, none⟩ (.string bt_)).setCell ⟨g4, 6, none⟩ (.int .i64 bx)).setCell ⟨g4, 7, none⟩ (.int .i64 by_)).setCell ⟨g4, 8, none⟩ (.string bz)) = W := ⟨_, rfl⟩
    rw [hW5] at hf5 hg5 ⊢
    have c0 := hf5.cell 0; have c1 := hf5.cell 1; have c2 := hf5.cell 2; have c3 := hf5.cell 3; have c4 := hf5.cell 4; have c5 := hf5.cell 5; have c6 := hf5.cell 6; have c7 := hf5.cell 7; have c8 := hf5.cell 8; have cl := hf5.lt
    simp only [List.getElem?_cons_zero, List.getElem?_cons_succ] at c0 c1 c2 c3 c4 c5 c6 c7 c8
    refine bodyPost_ret (v := .agg #[.int .i64 bn, .int .i64 (wide.hiW bu), .int .u64 (wide.loW bu), .int .i64 bk, .int .i64 bm, .string bt_, .int .i64 bx, .int .i64 by_, .string bz]) ?_ (by rfl) ?_
    · simp only [results, Try.results40]
      go_simp
    · exact ⟨by first | (rw [HE.out]; done) | simp [both], HBW.out.grown hg5 HBW.out.size (fun j e => by cases e; exact HG4.out)⟩
  · have d1 : (an == 0) = false := by simp [h1]
    have H1 := Lib.hid h1
    by_cases h2 : bn = 0
    · have d2 : (bn == 0) = true := by simp [h2]
      have HE := Lib.hid (show both ⟨an, au, ⟨ak, am, at_⟩, ⟨ax, ay, az⟩⟩ ⟨bn, bu, ⟨bk, bm, bt_⟩, ⟨bx, by_, bz⟩⟩ = ⟨an, au, ⟨ak, am, at_⟩, ⟨ax, ay, az⟩⟩ from by unfold both; rw [if_neg h1, if_pos h2])
      go_wp2_with fail
      obtain ⟨hf5, hg5⟩ := @box9 W3 g4 TOn (.int .i64 0) (.int .i64 0) (.int .u64 0) (.int .i64 0) (.int .i64 0) (.string ⟨#[]⟩) (.int .i64 0) (.int .i64 0) (.string ⟨#[]⟩) (.int .i64 an) (.int .i64 (wide.hiW au)) (.int .u64 (wide.loW au)) (.int .i64 ak) (.int .i64 am) (.string at_) (.int .i64 ax) (.int .i64 ay) (.string az) HF4.out
      obtain ⟨W5, hW5⟩ : ∃ W, (((((((((W3.setCell ⟨g4, 0, none⟩ (.int .i64 an)).setCell ⟨g4, 1, none⟩ (.int .i64 (wide.hiW au))).setCell ⟨g4, 2, none⟩ (.int .u64 (wide.loW au))).setCell ⟨g4, 3, none⟩ (.int .i64 ak)).setCell ⟨g4, 4, none⟩ (.int .i64 am)).setCell ⟨g4, 5, none⟩ (.string at_)).setCell ⟨g4, 6, none⟩ (.int .i64 ax)).setCell ⟨g4, 7, none⟩ (.int .i64 ay)).setCell ⟨g4, 8, none⟩ (.string az)) = W := ⟨_, rfl⟩
      rw [hW5] at hf5 hg5 ⊢
      have c0 := hf5.cell 0; have c1 := hf5.cell 1; have c2 := hf5.cell 2; have c3 := hf5.cell 3; have c4 := hf5.cell 4; have c5 := hf5.cell 5; have c6 := hf5.cell 6; have c7 := hf5.cell 7; have c8 := hf5.cell 8; have cl := hf5.lt
      simp only [List.getElem?_cons_zero, List.getElem?_cons_succ] at c0 c1 c2 c3 c4 c5 c6 c7 c8
      refine bodyPost_ret (v := .agg #[.int .i64 an, .int .i64 (wide.hiW au), .int .u64 (wide.loW au), .int .i64 ak, .int .i64 am, .string at_, .int .i64 ax, .int .i64 ay, .string az]) ?_ (by rfl) ?_
      · simp only [results, Try.results40]
        go_simp
      · exact ⟨by first | (rw [HE.out]; done) | simp [both, H1.out], HBW.out.grown hg5 HBW.out.size (fun j e => by cases e; exact HG4.out)⟩
    · have d2 : (bn == 0) = false := by simp [h2]
      have HE := Lib.hid (show both ⟨an, au, ⟨ak, am, at_⟩, ⟨ax, ay, az⟩⟩ ⟨bn, bu, ⟨bk, bm, bt_⟩, ⟨bx, by_, bz⟩⟩ = ⟨an + bn, au + bu, mn2 ⟨ak, am, at_⟩ ⟨bk, bm, bt_⟩, mx2 ⟨ax, ay, az⟩ ⟨bx, by_, bz⟩⟩ from by unfold both; rw [if_neg h1, if_neg h2])
      have hsum : [au, bu].sum = au + bu := by simp
      obtain ⟨hn1, hn2⟩ := hn
      have hwr : IntKind.i64.wrap (an + bn) = an + bn := by first | (rw [IntKind.wrap_i64]; omega) | (show wrap64 (an + bn) = _; rw [wide.wrap64_eq]; omega)
      go_upto_region 5 with fail
      clear p0 p1 p2 p3 p4 p5 p6 p7 p8 pl q0 q1 q2 q3 q4 q5 q6 q7 q8 ql r0 r1 r2 r3 r4 r5 r6 r7 r8 rl y0 y1 y2 y3 y4 y5 y6 y7 y8
      apply ag.region_calm_tail 17 (ag.Spec.val _ :: ag.Spec.val _ :: ag.Spec.val _ :: ag.Spec.val _ :: ag.Spec.val (.int .i64 (an + bn)) :: ag.Spec.val _ :: ag.Spec.val _ :: ag.Spec.val _ :: ag.Spec.val _ :: ag.Spec.sat (W2V [au, bu]) ag.grew :: ag.Spec.sat (fun v _ => v = .agg #[.int .i64 (wide.hiW (au + bu)), .int .u64 (wide.loW (au + bu))]) ag.grew :: ag.Spec.val _ :: ag.Spec.val _ :: ag.Spec.val _ :: ag.Spec.val _ :: ag.Spec.val _ :: ag.Spec.sat (PV W3.heap.size TOn [.int .i64 0, .int .i64 0, .int .u64 0, .int .i64 0, .int .i64 0, .string ⟨#[]⟩, .int .i64 0, .int .i64 0, .string ⟨#[]⟩]) ag.grew :: [])
      case hm => kernel_rfl
      case hB => kernel_rfl
      case hlen => rfl
      case hc => exact ⟨⟨(fun v W W' h hb => W2V.lasts h hb), rfl⟩, ⟨ag.lasts_eq _, rfl⟩, ⟨(fun v W W' h hb => PV.lasts h hb), rfl⟩, trivial⟩
      simp only [List.take_succ_cons, List.take_zero, List.drop_succ_cons, List.drop_zero]
      apply ag.walk_val
      · rfl
      · intro W1 hS hE
        clear hS hE
        unfold ag.does
        go_simp
        first | done | exact ⟨rfl, rfl⟩ | rfl | (exact ⟨by go_num, rfl⟩) | (simp; done) | trace_state
      simp only [Act.put, List.setIfInBounds_toArray, List.set_cons_zero, List.set_cons_succ]
      apply ag.walk_val
      · rfl
      · intro W1 hS hE
        obtain ⟨p0, p1, p2, p3, p4, p5, p6, p7, p8, pl⟩ := HA.out W1 hS
        clear hS hE
        unfold ag.does
        go_simp
        first | done | exact ⟨rfl, rfl⟩ | rfl | (exact ⟨by go_num, rfl⟩) | (simp; done) | trace_state
      simp only [Act.put, List.setIfInBounds_toArray, List.set_cons_zero, List.set_cons_succ]
      apply ag.walk_val
      · rfl
      · intro W1 hS hE
        clear hS hE
        unfold ag.does
        go_simp
        first | done | exact ⟨rfl, rfl⟩ | rfl | (exact ⟨by go_num, rfl⟩) | (simp; done) | trace_state
      simp only [Act.put, List.setIfInBounds_toArray, List.set_cons_zero, List.set_cons_succ]
      apply ag.walk_val
      · rfl
      · intro W1 hS hE
        obtain ⟨q0, q1, q2, q3, q4, q5, q6, q7, q8, ql⟩ := HB.out W1 hS
        clear hS hE
        unfold ag.does
        go_simp
        first | done | exact ⟨rfl, rfl⟩ | rfl | (exact ⟨by go_num, rfl⟩) | (simp; done) | trace_state
      simp only [Act.put, List.setIfInBounds_toArray, List.set_cons_zero, List.set_cons_succ]
      apply ag.walk_val
      · rfl
      · intro W1 hS hE
        clear hS hE
        unfold ag.does
        go_simp
        first | done | exact ⟨rfl, rfl⟩ | rfl | (exact ⟨by go_num, rfl⟩) | (simp; done) | ((rw [hwr]; exact ⟨rfl, rfl⟩)) | trace_state
      simp only [Act.put, List.setIfInBounds_toArray, List.set_cons_zero, List.set_cons_succ]
      apply ag.walk_val
      · rfl
      · intro W1 hS hE
        clear hS hE
        unfold ag.does
        go_simp
        first | done | exact ⟨rfl, rfl⟩ | rfl | (exact ⟨by go_num, rfl⟩) | (simp; done) | trace_state
      simp only [Act.put, List.setIfInBounds_toArray, List.set_cons_zero, List.set_cons_succ]
      apply ag.walk_val
      · rfl
      · intro W1 hS hE
        obtain ⟨p0, p1, p2, p3, p4, p5, p6, p7, p8, pl⟩ := HA.out W1 hS
        clear hS hE
        unfold ag.does
        go_simp
        first | done | exact ⟨rfl, rfl⟩ | rfl | (exact ⟨by go_num, rfl⟩) | (simp; done) | trace_state
      simp only [Act.put, List.setIfInBounds_toArray, List.set_cons_zero, List.set_cons_succ]
      apply ag.walk_val
      · rfl
      · intro W1 hS hE
        clear hS hE
        unfold ag.does
        go_simp
        first | done | exact ⟨rfl, rfl⟩ | rfl | (exact ⟨by go_num, rfl⟩) | (simp; done) | trace_state
      simp only [Act.put, List.setIfInBounds_toArray, List.set_cons_zero, List.set_cons_succ]
      apply ag.walk_val
      · rfl
      · intro W1 hS hE
        obtain ⟨q0, q1, q2, q3, q4, q5, q6, q7, q8, ql⟩ := HB.out W1 hS
        clear hS hE
        unfold ag.does
        go_simp
        first | done | exact ⟨rfl, rfl⟩ | rfl | (exact ⟨by go_num, rfl⟩) | (simp; done) | trace_state
      simp only [Act.put, List.setIfInBounds_toArray, List.set_cons_zero, List.set_cons_succ]
      refine ag.walk_such (by rfl) (fun W1 hS hE => ?_) (fun y9 => ?_)
      · clear hE
        unfold ag.does
        go_simp
        first | done | (exact ⟨⟨_, rfl, Row.of_flds (Flds.new W1 69 [.int .i64 (wide.hiW au), .int .u64 (wide.loW au), .int .i64 (wide.hiW bu), .int .u64 (wide.loW bu)]) rfl 2⟩, (Below.refl _ _).alloc (Nat.le_refl _) _⟩)
      simp only [Act.put, List.setIfInBounds_toArray, List.set_cons_zero, List.set_cons_succ]
      refine ag.walk_such (by rfl) (fun W1 hS hE => ?_) (fun y10 => ?_)
      · have f9 := hE.of 9 (by kernel_rfl)
        simp only [ag.lookE, if_true, Nat.reduceEqDiff, if_false] at f9
        clear hE
        obtain ⟨gW, rfl, hrw⟩ := f9
        have hk := wide.plus_any (some ⟨gW, 0, none⟩) 2 [au, bu] W1 hrw (by simp)
        rw [hsum] at hk
        unfold ag.does
        go_simp
        first | done | (exact hk.mono (fun e w' h => ⟨_, h.1, rfl, h.2⟩))
      simp only [Act.put, List.setIfInBounds_toArray, List.set_cons_zero, List.set_cons_succ]
      apply ag.walk_val
      · rfl
      · intro W1 hS hE
        clear hS hE
        unfold ag.does
        go_simp
        first | done | exact ⟨rfl, rfl⟩ | rfl | (exact ⟨by go_num, rfl⟩) | (simp; done) | trace_state
      simp only [Act.put, List.setIfInBounds_toArray, List.set_cons_zero, List.set_cons_succ]
      apply ag.walk_val
      · rfl
      · intro W1 hS hE
        obtain ⟨p0, p1, p2, p3, p4, p5, p6, p7, p8, pl⟩ := HA.out W1 hS
        clear hS hE
        unfold ag.does
        go_simp
        first | done | exact ⟨rfl, rfl⟩ | rfl | (exact ⟨by go_num, rfl⟩) | (simp; done) | trace_state
      simp only [Act.put, List.setIfInBounds_toArray, List.set_cons_zero, List.set_cons_succ]
      apply ag.walk_val
      · rfl
      · intro W1 hS hE
        clear hS hE
        unfold ag.does
        go_simp
        first | done | exact ⟨rfl, rfl⟩ | rfl | (exact ⟨by go_num, rfl⟩) | (simp; done) | trace_state
      simp only [Act.put, List.setIfInBounds_toArray, List.set_cons_zero, List.set_cons_succ]
      apply ag.walk_val
      · rfl
      · intro W1 hS hE
        obtain ⟨p0, p1, p2, p3, p4, p5, p6, p7, p8, pl⟩ := HA.out W1 hS
        clear hS hE
        unfold ag.does
        go_simp
        first | done | exact ⟨rfl, rfl⟩ | rfl | (exact ⟨by go_num, rfl⟩) | (simp; done) | trace_state
      simp only [Act.put, List.setIfInBounds_toArray, List.set_cons_zero, List.set_cons_succ]
      apply ag.walk_val
      · rfl
      · intro W1 hS hE
        have f10 := hE.of 10 (by kernel_rfl)
        simp only [ag.lookE, if_true, Nat.reduceEqDiff, if_false] at f10
        subst f10
        clear hS hE
        unfold ag.does
        go_simp
        first | done | exact ⟨rfl, rfl⟩ | rfl | (exact ⟨by go_num, rfl⟩) | (simp; done) | trace_state
      simp only [Act.put, List.setIfInBounds_toArray, List.set_cons_zero, List.set_cons_succ]
      refine ag.walk_such (by rfl) (fun W1 hS hE => ?_) (fun y16 => ?_)
      · have hX := hS.size
        clear hE
        unfold ag.does
        go_simp
        first | done | (exact ⟨PV.new W1 _ hX, (Below.refl _ _).alloc (Nat.le_refl _) _⟩)
      simp only [Act.put, List.setIfInBounds_toArray, List.set_cons_zero, List.set_cons_succ]
      refine ag.walk_nil (fun w9 hS hF hP => ?_)
      clear hP
      have f16 := hF.of 16
      simp only [ag.lookE, Nat.reduceEqDiff, if_false, if_true] at f16
      obtain ⟨g5, rfl, hg5, hf5⟩ := f16
      have r0 := hf5.cell 0
      have r1 := hf5.cell 1
      have r2 := hf5.cell 2
      have r3 := hf5.cell 3
      have r4 := hf5.cell 4
      have r5 := hf5.cell 5
      have r6 := hf5.cell 6
      have r7 := hf5.cell 7
      have r8 := hf5.cell 8
      have zl := hf5.lt
      have y0 := hf5.frozen 0
      have y1 := hf5.frozen 1
      have y2 := hf5.frozen 2
      have y3 := hf5.frozen 3
      have y4 := hf5.frozen 4
      have y5 := hf5.frozen 5
      have y6 := hf5.frozen 6
      have y7 := hf5.frozen 7
      have y8 := hf5.frozen 8
      simp only [List.getElem?_cons_zero, List.getElem?_cons_succ] at r0 r1 r2 r3 r4 r5 r6 r7 r8
      obtain ⟨hf6, hg6⟩ := @box9 w9 g5 TOn (.int .i64 0) (.int .i64 0) (.int .u64 0) (.int .i64 0) (.int .i64 0) (.string ⟨#[]⟩) (.int .i64 0) (.int .i64 0) (.string ⟨#[]⟩) (.int .i64 (an + bn)) (.int .i64 (wide.hiW (au + bu))) (.int .u64 (wide.loW (au + bu))) (.int .i64 ak) (.int .i64 am) (.string at_) (.int .i64 ax) (.int .i64 ay) (.string az) hf5
      have HB6 := Lib.hid (hS.grown hg6 hS.size (fun j e => by cases e; exact hg5))
      have HG5 := Lib.hid hg5
      clear hF hS hf5 hg6
      go_upto_region 6 with fail
      obtain ⟨W6, hW6⟩ : ∃ W, (((((((((w9.setCell ⟨g5, 0, none⟩ (.int .i64 (an + bn))).setCell ⟨g5, 1, none⟩ (.int .i64 (wide.hiW (au + bu)))).setCell ⟨g5, 2, none⟩ (.int .u64 (wide.loW (au + bu)))).setCell ⟨g5, 3, none⟩ (.int .i64 ak)).setCell ⟨g5, 4, none⟩ (.int .i64 am)).setCell ⟨g5, 5, none⟩ (.string at_)).setCell ⟨g5, 6, none⟩ (.int .i64 ax)).setCell ⟨g5, 7, none⟩ (.int .i64 ay)).setCell ⟨g5, 8, none⟩ (.string az)) = W := ⟨_, rfl⟩
      rw [hW6] at hf6 HB6 ⊢
      have HF6 := Lib.hid hf6
      clear hW6 hf6 hg5 r0 r1 r2 r3 r4 r5 r6 r7 r8 zl y0 y1 y2 y3 y4 y5 y6 y7 y8
      obtain ⟨p0, p1, p2, p3, p4, p5, p6, p7, p8, pl⟩ := HA.out W6 HB6.out
      obtain ⟨q0, q1, q2, q3, q4, q5, q6, q7, q8, ql⟩ := HB.out W6 HB6.out
      obtain ⟨C0, hC0⟩ : ∃ C, cmpV ⟨bk, bm, bt_⟩ ⟨ak, am, at_⟩ = C := ⟨_, rfl⟩
      have HCM0 := Lib.hid (compare_any bk bm ak am bt_ at_ W6)
      rw [hC0] at HCM0
      by_cases h3 : C0 < 0
      · have d3 : C0 < 0 := by omega
        have HM0 := Lib.hid (show mn2 ⟨ak, am, at_⟩ ⟨bk, bm, bt_⟩ = ⟨bk, bm, bt_⟩ from by unfold mn2; rw [hC0, if_pos h3])
        clear h3 hC0
        go_upto_region 8 with (go_at_call 39; refine HCM0.out.mono ?_; rintro ee w6c ⟨rfl, hbc⟩; clear p0 p1 p2 p3 p4 p5 p6 p7 p8 pl q0 q1 q2 q3 q4 q5 q6 q7 q8 ql; have e0 := (HF6.out.later hbc).cell 0; have e1 := (HF6.out.later hbc).cell 1; have e2 := (HF6.out.later hbc).cell 2; have e3 := (HF6.out.later hbc).cell 3; have e4 := (HF6.out.later hbc).cell 4; have e5 := (HF6.out.later hbc).cell 5; have e6 := (HF6.out.later hbc).cell 6; have e7 := (HF6.out.later hbc).cell 7; have e8 := (HF6.out.later hbc).cell 8; have el := (HF6.out.later hbc).lt; have u0 := (HF6.out.later hbc).frozen 0; have u1 := (HF6.out.later hbc).frozen 1; have u2 := (HF6.out.later hbc).frozen 2; have u3 := (HF6.out.later hbc).frozen 3; have u4 := (HF6.out.later hbc).frozen 4; have u5 := (HF6.out.later hbc).frozen 5; have u6 := (HF6.out.later hbc).frozen 6; have u7 := (HF6.out.later hbc).frozen 7; have u8 := (HF6.out.later hbc).frozen 8; simp only [List.getElem?_cons_zero, List.getElem?_cons_succ] at e0 e1 e2 e3 e4 e5 e6 e7 e8; obtain ⟨p0, p1, p2, p3, p4, p5, p6, p7, p8, pl⟩ := HA.out w6c (HB6.out.trans (hbc.mono HB6.out.size)); obtain ⟨q0, q1, q2, q3, q4, q5, q6, q7, q8, ql⟩ := HB.out w6c (HB6.out.trans (hbc.mono HB6.out.size)); have HBc := Lib.hid hbc; clear hbc)
        obtain ⟨hfz, hgz⟩ := box3 (x := .int .i64 bk) (y := .int .i64 bm) (z := .string bt_) (HF6.out.later HBc.out) 3
        have HBW7 := Lib.hid ((HB6.out.trans (HBc.out.mono HB6.out.size)).grown hgz (Nat.le_trans HB6.out.size HBc.out.size) (fun j e => by cases e; exact HG5.out))
        obtain ⟨W7, hW7⟩ : ∃ W, (((w6c.setCell ⟨g5, 3, none⟩ (.int .i64 bk)).setCell ⟨g5, 4, none⟩ (.int .i64 bm)).setCell ⟨g5, 5, none⟩ (.string bt_)) = W := ⟨_, rfl⟩
        rw [hW7] at hfz HBW7 ⊢
        have HFW7 := Lib.hid (show Flds W7 g5 TOn [.int .i64 (an + bn), .int .i64 (wide.hiW (au + bu)), .int .u64 (wide.loW (au + bu)), .int .i64 bk, .int .i64 bm, .string bt_, .int .i64 ax, .int .i64 ay, .string az] from hfz)
        clear hW7 hfz hgz p0 p1 p2 p3 p4 p5 p6 p7 p8 pl q0 q1 q2 q3 q4 q5 q6 q7 q8 ql e0 e1 e2 e3 e4 e5 e6 e7 e8 el u0 u1 u2 u3 u4 u5 u6 u7 u8
        obtain ⟨p0, p1, p2, p3, p4, p5, p6, p7, p8, pl⟩ := HA.out W7 HBW7.out
        obtain ⟨q0, q1, q2, q3, q4, q5, q6, q7, q8, ql⟩ := HB.out W7 HBW7.out
        obtain ⟨C1, hC1⟩ : ∃ C, cmpV ⟨bx, by_, bz⟩ ⟨ax, ay, az⟩ = C := ⟨_, rfl⟩
        have HCM1 := Lib.hid (compare_any bx by_ ax ay bz az W7)
        rw [hC1] at HCM1
        by_cases h4 : 0 < C1
        · have d4 : 0 < C1 := by omega
          have HM1 := Lib.hid (show mx2 ⟨ax, ay, az⟩ ⟨bx, by_, bz⟩ = ⟨bx, by_, bz⟩ from by unfold mx2; rw [hC1, if_pos h4])
          clear h4 hC1
          go_upto_region 10 with (go_at_call 39; refine HCM1.out.mono ?_; rintro ee w8c ⟨rfl, hbc⟩; clear p0 p1 p2 p3 p4 p5 p6 p7 p8 pl q0 q1 q2 q3 q4 q5 q6 q7 q8 ql; have e0 := (HFW7.out.later hbc).cell 0; have e1 := (HFW7.out.later hbc).cell 1; have e2 := (HFW7.out.later hbc).cell 2; have e3 := (HFW7.out.later hbc).cell 3; have e4 := (HFW7.out.later hbc).cell 4; have e5 := (HFW7.out.later hbc).cell 5; have e6 := (HFW7.out.later hbc).cell 6; have e7 := (HFW7.out.later hbc).cell 7; have e8 := (HFW7.out.later hbc).cell 8; have el := (HFW7.out.later hbc).lt; have u0 := (HFW7.out.later hbc).frozen 0; have u1 := (HFW7.out.later hbc).frozen 1; have u2 := (HFW7.out.later hbc).frozen 2; have u3 := (HFW7.out.later hbc).frozen 3; have u4 := (HFW7.out.later hbc).frozen 4; have u5 := (HFW7.out.later hbc).frozen 5; have u6 := (HFW7.out.later hbc).frozen 6; have u7 := (HFW7.out.later hbc).frozen 7; have u8 := (HFW7.out.later hbc).frozen 8; simp only [List.getElem?_cons_zero, List.getElem?_cons_succ] at e0 e1 e2 e3 e4 e5 e6 e7 e8; obtain ⟨p0, p1, p2, p3, p4, p5, p6, p7, p8, pl⟩ := HA.out w8c (HBW7.out.trans (hbc.mono HBW7.out.size)); obtain ⟨q0, q1, q2, q3, q4, q5, q6, q7, q8, ql⟩ := HB.out w8c (HBW7.out.trans (hbc.mono HBW7.out.size)); have HBc := Lib.hid hbc; clear hbc)
          obtain ⟨hfz, hgz⟩ := box3 (x := .int .i64 bx) (y := .int .i64 by_) (z := .string bz) (HFW7.out.later HBc.out) 6
          have HBW9 := Lib.hid ((HBW7.out.trans (HBc.out.mono HBW7.out.size)).grown hgz (Nat.le_trans HBW7.out.size HBc.out.size) (fun j e => by cases e; exact HG5.out))
          obtain ⟨W9, hW9⟩ : ∃ W, (((w8c.setCell ⟨g5, 6, none⟩ (.int .i64 bx)).setCell ⟨g5, 7, none⟩ (.int .i64 by_)).setCell ⟨g5, 8, none⟩ (.string bz)) = W := ⟨_, rfl⟩
          rw [hW9] at hfz HBW9 ⊢
          have HFW9 := Lib.hid (show Flds W9 g5 TOn [.int .i64 (an + bn), .int .i64 (wide.hiW (au + bu)), .int .u64 (wide.loW (au + bu)), .int .i64 bk, .int .i64 bm, .string bt_, .int .i64 bx, .int .i64 by_, .string bz] from hfz)
          clear hW9 hfz hgz p0 p1 p2 p3 p4 p5 p6 p7 p8 pl q0 q1 q2 q3 q4 q5 q6 q7 q8 ql e0 e1 e2 e3 e4 e5 e6 e7 e8 el u0 u1 u2 u3 u4 u5 u6 u7 u8
          obtain ⟨p0, p1, p2, p3, p4, p5, p6, p7, p8, pl⟩ := HA.out W9 HBW9.out
          obtain ⟨q0, q1, q2, q3, q4, q5, q6, q7, q8, ql⟩ := HB.out W9 HBW9.out
          have e0 := HFW9.out.cell 0; have e1 := HFW9.out.cell 1; have e2 := HFW9.out.cell 2; have e3 := HFW9.out.cell 3; have e4 := HFW9.out.cell 4; have e5 := HFW9.out.cell 5; have e6 := HFW9.out.cell 6; have e7 := HFW9.out.cell 7; have e8 := HFW9.out.cell 8; have el := HFW9.out.lt
          simp only [List.getElem?_cons_zero, List.getElem?_cons_succ] at e0 e1 e2 e3 e4 e5 e6 e7 e8
          obtain ⟨r0, r1, r2, r3, r4, r5, r6, r7, r8, rl, y0, y1, y2, y3, y4, y5, y6, y7, y8⟩ := HZ.out W9 HBW9.out
          go_wp2_with fail
          obtain ⟨hf5, hg5⟩ := @box9 W9 g4 TOn (.int .i64 0) (.int .i64 0) (.int .u64 0) (.int .i64 0) (.int .i64 0) (.string ⟨#[]⟩) (.int .i64 0) (.int .i64 0) (.string ⟨#[]⟩) (.int .i64 (an + bn)) (.int .i64 (wide.hiW (au + bu))) (.int .u64 (wide.loW (au + bu))) (.int .i64 bk) (.int .i64 bm) (.string bt_) (.int .i64 bx) (.int .i64 by_) (.string bz) (HF4.out.later HBW9.out)
          obtain ⟨W5, hW5⟩ : ∃ W, (((((((((W9.setCell ⟨g4, 0, none⟩ (.int .i64 (an + bn))).setCell ⟨g4, 1, none⟩ (.int .i64 (wide.hiW (au + bu)))).setCell ⟨g4, 2, none⟩ (.int .u64 (wide.loW (au + bu)))).setCell ⟨g4, 3, none⟩ (.int .i64 bk)).setCell ⟨g4, 4, none⟩ (.int .i64 bm)).setCell ⟨g4, 5, none⟩ (.string bt_)).setCell ⟨g4, 6, none⟩ (.int .i64 bx)).setCell ⟨g4, 7, none⟩ (.int .i64 by_)).setCell ⟨g4, 8, none⟩ (.string bz)) = W := ⟨_, rfl⟩
          rw [hW5] at hf5 hg5 ⊢
          have c0 := hf5.cell 0; have c1 := hf5.cell 1; have c2 := hf5.cell 2; have c3 := hf5.cell 3; have c4 := hf5.cell 4; have c5 := hf5.cell 5; have c6 := hf5.cell 6; have c7 := hf5.cell 7; have c8 := hf5.cell 8; have cl := hf5.lt
          simp only [List.getElem?_cons_zero, List.getElem?_cons_succ] at c0 c1 c2 c3 c4 c5 c6 c7 c8
          refine bodyPost_ret (v := .agg #[.int .i64 (an + bn), .int .i64 (wide.hiW (au + bu)), .int .u64 (wide.loW (au + bu)), .int .i64 bk, .int .i64 bm, .string bt_, .int .i64 bx, .int .i64 by_, .string bz]) ?_ (by rfl) ?_
          · simp only [results, Try.results40]
            go_simp
          · exact ⟨by rw [HE.out, HM0.out, HM1.out], (HBW.out.trans (HBW9.out.mono HBW.out.size)).grown hg5 (Nat.le_trans HBW.out.size HBW9.out.size) (fun j e => by cases e; exact HG4.out)⟩
        · have d4 : ¬ 0 < C1 := by omega
          have HM1 := Lib.hid (show mx2 ⟨ax, ay, az⟩ ⟨bx, by_, bz⟩ = ⟨ax, ay, az⟩ from by unfold mx2; rw [hC1, if_neg h4])
          clear h4 hC1
          go_upto_region 10 with (go_at_call 39; refine HCM1.out.mono ?_; rintro ee w8c ⟨rfl, hbc⟩; clear p0 p1 p2 p3 p4 p5 p6 p7 p8 pl q0 q1 q2 q3 q4 q5 q6 q7 q8 ql; have e0 := (HFW7.out.later hbc).cell 0; have e1 := (HFW7.out.later hbc).cell 1; have e2 := (HFW7.out.later hbc).cell 2; have e3 := (HFW7.out.later hbc).cell 3; have e4 := (HFW7.out.later hbc).cell 4; have e5 := (HFW7.out.later hbc).cell 5; have e6 := (HFW7.out.later hbc).cell 6; have e7 := (HFW7.out.later hbc).cell 7; have e8 := (HFW7.out.later hbc).cell 8; have el := (HFW7.out.later hbc).lt; have u0 := (HFW7.out.later hbc).frozen 0; have u1 := (HFW7.out.later hbc).frozen 1; have u2 := (HFW7.out.later hbc).frozen 2; have u3 := (HFW7.out.later hbc).frozen 3; have u4 := (HFW7.out.later hbc).frozen 4; have u5 := (HFW7.out.later hbc).frozen 5; have u6 := (HFW7.out.later hbc).frozen 6; have u7 := (HFW7.out.later hbc).frozen 7; have u8 := (HFW7.out.later hbc).frozen 8; simp only [List.getElem?_cons_zero, List.getElem?_cons_succ] at e0 e1 e2 e3 e4 e5 e6 e7 e8; obtain ⟨p0, p1, p2, p3, p4, p5, p6, p7, p8, pl⟩ := HA.out w8c (HBW7.out.trans (hbc.mono HBW7.out.size)); obtain ⟨q0, q1, q2, q3, q4, q5, q6, q7, q8, ql⟩ := HB.out w8c (HBW7.out.trans (hbc.mono HBW7.out.size)); have HBc := Lib.hid hbc; clear hbc)
          have HFW9 := Lib.hid (HFW7.out.later HBc.out)
          have HBW9 := Lib.hid (HBW7.out.trans (HBc.out.mono HBW7.out.size))
          clear p0 p1 p2 p3 p4 p5 p6 p7 p8 pl q0 q1 q2 q3 q4 q5 q6 q7 q8 ql e0 e1 e2 e3 e4 e5 e6 e7 e8 el u0 u1 u2 u3 u4 u5 u6 u7 u8
          obtain ⟨p0, p1, p2, p3, p4, p5, p6, p7, p8, pl⟩ := HA.out w8c HBW9.out
          obtain ⟨q0, q1, q2, q3, q4, q5, q6, q7, q8, ql⟩ := HB.out w8c HBW9.out
          have e0 := HFW9.out.cell 0; have e1 := HFW9.out.cell 1; have e2 := HFW9.out.cell 2; have e3 := HFW9.out.cell 3; have e4 := HFW9.out.cell 4; have e5 := HFW9.out.cell 5; have e6 := HFW9.out.cell 6; have e7 := HFW9.out.cell 7; have e8 := HFW9.out.cell 8; have el := HFW9.out.lt
          simp only [List.getElem?_cons_zero, List.getElem?_cons_succ] at e0 e1 e2 e3 e4 e5 e6 e7 e8
          obtain ⟨r0, r1, r2, r3, r4, r5, r6, r7, r8, rl, y0, y1, y2, y3, y4, y5, y6, y7, y8⟩ := HZ.out w8c HBW9.out
          go_wp2_with fail
          obtain ⟨hf5, hg5⟩ := @box9 w8c g4 TOn (.int .i64 0) (.int .i64 0) (.int .u64 0) (.int .i64 0) (.int .i64 0) (.string ⟨#[]⟩) (.int .i64 0) (.int .i64 0) (.string ⟨#[]⟩) (.int .i64 (an + bn)) (.int .i64 (wide.hiW (au + bu))) (.int .u64 (wide.loW (au + bu))) (.int .i64 bk) (.int .i64 bm) (.string bt_) (.int .i64 ax) (.int .i64 ay) (.string az) (HF4.out.later HBW9.out)
          obtain ⟨W5, hW5⟩ : ∃ W, (((((((((w8c.setCell ⟨g4, 0, none⟩ (.int .i64 (an + bn))).setCell ⟨g4, 1, none⟩ (.int .i64 (wide.hiW (au + bu)))).setCell ⟨g4, 2, none⟩ (.int .u64 (wide.loW (au + bu)))).setCell ⟨g4, 3, none⟩ (.int .i64 bk)).setCell ⟨g4, 4, none⟩ (.int .i64 bm)).setCell ⟨g4, 5, none⟩ (.string bt_)).setCell ⟨g4, 6, none⟩ (.int .i64 ax)).setCell ⟨g4, 7, none⟩ (.int .i64 ay)).setCell ⟨g4, 8, none⟩ (.string az)) = W := ⟨_, rfl⟩
          rw [hW5] at hf5 hg5 ⊢
          have c0 := hf5.cell 0; have c1 := hf5.cell 1; have c2 := hf5.cell 2; have c3 := hf5.cell 3; have c4 := hf5.cell 4; have c5 := hf5.cell 5; have c6 := hf5.cell 6; have c7 := hf5.cell 7; have c8 := hf5.cell 8; have cl := hf5.lt
          simp only [List.getElem?_cons_zero, List.getElem?_cons_succ] at c0 c1 c2 c3 c4 c5 c6 c7 c8
          refine bodyPost_ret (v := .agg #[.int .i64 (an + bn), .int .i64 (wide.hiW (au + bu)), .int .u64 (wide.loW (au + bu)), .int .i64 bk, .int .i64 bm, .string bt_, .int .i64 ax, .int .i64 ay, .string az]) ?_ (by rfl) ?_
          · simp only [results, Try.results40]
            go_simp
          · exact ⟨by rw [HE.out, HM0.out, HM1.out], (HBW.out.trans (HBW9.out.mono HBW.out.size)).grown hg5 (Nat.le_trans HBW.out.size HBW9.out.size) (fun j e => by cases e; exact HG4.out)⟩
      · have d3 : ¬ C0 < 0 := by omega
        have HM0 := Lib.hid (show mn2 ⟨ak, am, at_⟩ ⟨bk, bm, bt_⟩ = ⟨ak, am, at_⟩ from by unfold mn2; rw [hC0, if_neg h3])
        clear h3 hC0
        go_upto_region 8 with (go_at_call 39; refine HCM0.out.mono ?_; rintro ee w6c ⟨rfl, hbc⟩; clear p0 p1 p2 p3 p4 p5 p6 p7 p8 pl q0 q1 q2 q3 q4 q5 q6 q7 q8 ql; have e0 := (HF6.out.later hbc).cell 0; have e1 := (HF6.out.later hbc).cell 1; have e2 := (HF6.out.later hbc).cell 2; have e3 := (HF6.out.later hbc).cell 3; have e4 := (HF6.out.later hbc).cell 4; have e5 := (HF6.out.later hbc).cell 5; have e6 := (HF6.out.later hbc).cell 6; have e7 := (HF6.out.later hbc).cell 7; have e8 := (HF6.out.later hbc).cell 8; have el := (HF6.out.later hbc).lt; have u0 := (HF6.out.later hbc).frozen 0; have u1 := (HF6.out.later hbc).frozen 1; have u2 := (HF6.out.later hbc).frozen 2; have u3 := (HF6.out.later hbc).frozen 3; have u4 := (HF6.out.later hbc).frozen 4; have u5 := (HF6.out.later hbc).frozen 5; have u6 := (HF6.out.later hbc).frozen 6; have u7 := (HF6.out.later hbc).frozen 7; have u8 := (HF6.out.later hbc).frozen 8; simp only [List.getElem?_cons_zero, List.getElem?_cons_succ] at e0 e1 e2 e3 e4 e5 e6 e7 e8; obtain ⟨p0, p1, p2, p3, p4, p5, p6, p7, p8, pl⟩ := HA.out w6c (HB6.out.trans (hbc.mono HB6.out.size)); obtain ⟨q0, q1, q2, q3, q4, q5, q6, q7, q8, ql⟩ := HB.out w6c (HB6.out.trans (hbc.mono HB6.out.size)); have HBc := Lib.hid hbc; clear hbc)
        have HFW7 := Lib.hid (HF6.out.later HBc.out)
        have HBW7 := Lib.hid (HB6.out.trans (HBc.out.mono HB6.out.size))
        clear p0 p1 p2 p3 p4 p5 p6 p7 p8 pl q0 q1 q2 q3 q4 q5 q6 q7 q8 ql e0 e1 e2 e3 e4 e5 e6 e7 e8 el u0 u1 u2 u3 u4 u5 u6 u7 u8
        obtain ⟨p0, p1, p2, p3, p4, p5, p6, p7, p8, pl⟩ := HA.out w6c HBW7.out
        obtain ⟨q0, q1, q2, q3, q4, q5, q6, q7, q8, ql⟩ := HB.out w6c HBW7.out
        obtain ⟨C1, hC1⟩ : ∃ C, cmpV ⟨bx, by_, bz⟩ ⟨ax, ay, az⟩ = C := ⟨_, rfl⟩
        have HCM1 := Lib.hid (compare_any bx by_ ax ay bz az w6c)
        rw [hC1] at HCM1
        by_cases h4 : 0 < C1
        · have d4 : 0 < C1 := by omega
          have HM1 := Lib.hid (show mx2 ⟨ax, ay, az⟩ ⟨bx, by_, bz⟩ = ⟨bx, by_, bz⟩ from by unfold mx2; rw [hC1, if_pos h4])
          clear h4 hC1
          go_upto_region 10 with (go_at_call 39; refine HCM1.out.mono ?_; rintro ee w8c ⟨rfl, hbc⟩; clear p0 p1 p2 p3 p4 p5 p6 p7 p8 pl q0 q1 q2 q3 q4 q5 q6 q7 q8 ql; have e0 := (HFW7.out.later hbc).cell 0; have e1 := (HFW7.out.later hbc).cell 1; have e2 := (HFW7.out.later hbc).cell 2; have e3 := (HFW7.out.later hbc).cell 3; have e4 := (HFW7.out.later hbc).cell 4; have e5 := (HFW7.out.later hbc).cell 5; have e6 := (HFW7.out.later hbc).cell 6; have e7 := (HFW7.out.later hbc).cell 7; have e8 := (HFW7.out.later hbc).cell 8; have el := (HFW7.out.later hbc).lt; have u0 := (HFW7.out.later hbc).frozen 0; have u1 := (HFW7.out.later hbc).frozen 1; have u2 := (HFW7.out.later hbc).frozen 2; have u3 := (HFW7.out.later hbc).frozen 3; have u4 := (HFW7.out.later hbc).frozen 4; have u5 := (HFW7.out.later hbc).frozen 5; have u6 := (HFW7.out.later hbc).frozen 6; have u7 := (HFW7.out.later hbc).frozen 7; have u8 := (HFW7.out.later hbc).frozen 8; simp only [List.getElem?_cons_zero, List.getElem?_cons_succ] at e0 e1 e2 e3 e4 e5 e6 e7 e8; obtain ⟨p0, p1, p2, p3, p4, p5, p6, p7, p8, pl⟩ := HA.out w8c (HBW7.out.trans (hbc.mono HBW7.out.size)); obtain ⟨q0, q1, q2, q3, q4, q5, q6, q7, q8, ql⟩ := HB.out w8c (HBW7.out.trans (hbc.mono HBW7.out.size)); have HBc := Lib.hid hbc; clear hbc)
          obtain ⟨hfz, hgz⟩ := box3 (x := .int .i64 bx) (y := .int .i64 by_) (z := .string bz) (HFW7.out.later HBc.out) 6
          have HBW9 := Lib.hid ((HBW7.out.trans (HBc.out.mono HBW7.out.size)).grown hgz (Nat.le_trans HBW7.out.size HBc.out.size) (fun j e => by cases e; exact HG5.out))
          obtain ⟨W9, hW9⟩ : ∃ W, (((w8c.setCell ⟨g5, 6, none⟩ (.int .i64 bx)).setCell ⟨g5, 7, none⟩ (.int .i64 by_)).setCell ⟨g5, 8, none⟩ (.string bz)) = W := ⟨_, rfl⟩
          rw [hW9] at hfz HBW9 ⊢
          have HFW9 := Lib.hid (show Flds W9 g5 TOn [.int .i64 (an + bn), .int .i64 (wide.hiW (au + bu)), .int .u64 (wide.loW (au + bu)), .int .i64 ak, .int .i64 am, .string at_, .int .i64 bx, .int .i64 by_, .string bz] from hfz)
          clear hW9 hfz hgz p0 p1 p2 p3 p4 p5 p6 p7 p8 pl q0 q1 q2 q3 q4 q5 q6 q7 q8 ql e0 e1 e2 e3 e4 e5 e6 e7 e8 el u0 u1 u2 u3 u4 u5 u6 u7 u8
          obtain ⟨p0, p1, p2, p3, p4, p5, p6, p7, p8, pl⟩ := HA.out W9 HBW9.out
          obtain ⟨q0, q1, q2, q3, q4, q5, q6, q7, q8, ql⟩ := HB.out W9 HBW9.out
          have e0 := HFW9.out.cell 0; have e1 := HFW9.out.cell 1; have e2 := HFW9.out.cell 2; have e3 := HFW9.out.cell 3; have e4 := HFW9.out.cell 4; have e5 := HFW9.out.cell 5; have e6 := HFW9.out.cell 6; have e7 := HFW9.out.cell 7; have e8 := HFW9.out.cell 8; have el := HFW9.out.lt
          simp only [List.getElem?_cons_zero, List.getElem?_cons_succ] at e0 e1 e2 e3 e4 e5 e6 e7 e8
          obtain ⟨r0, r1, r2, r3, r4, r5, r6, r7, r8, rl, y0, y1, y2, y3, y4, y5, y6, y7, y8⟩ := HZ.out W9 HBW9.out
          go_wp2_with fail
          obtain ⟨hf5, hg5⟩ := @box9 W9 g4 TOn (.int .i64 0) (.int .i64 0) (.int .u64 0) (.int .i64 0) (.int .i64 0) (.string ⟨#[]⟩) (.int .i64 0) (.int .i64 0) (.string ⟨#[]⟩) (.int .i64 (an + bn)) (.int .i64 (wide.hiW (au + bu))) (.int .u64 (wide.loW (au + bu))) (.int .i64 ak) (.int .i64 am) (.string at_) (.int .i64 bx) (.int .i64 by_) (.string bz) (HF4.out.later HBW9.out)
          obtain ⟨W5, hW5⟩ : ∃ W, (((((((((W9.setCell ⟨g4, 0, none⟩ (.int .i64 (an + bn))).setCell ⟨g4, 1, none⟩ (.int .i64 (wide.hiW (au + bu)))).setCell ⟨g4, 2, none⟩ (.int .u64 (wide.loW (au + bu)))).setCell ⟨g4, 3, none⟩ (.int .i64 ak)).setCell ⟨g4, 4, none⟩ (.int .i64 am)).setCell ⟨g4, 5, none⟩ (.string at_)).setCell ⟨g4, 6, none⟩ (.int .i64 bx)).setCell ⟨g4, 7, none⟩ (.int .i64 by_)).setCell ⟨g4, 8, none⟩ (.string bz)) = W := ⟨_, rfl⟩
          rw [hW5] at hf5 hg5 ⊢
          have c0 := hf5.cell 0; have c1 := hf5.cell 1; have c2 := hf5.cell 2; have c3 := hf5.cell 3; have c4 := hf5.cell 4; have c5 := hf5.cell 5; have c6 := hf5.cell 6; have c7 := hf5.cell 7; have c8 := hf5.cell 8; have cl := hf5.lt
          simp only [List.getElem?_cons_zero, List.getElem?_cons_succ] at c0 c1 c2 c3 c4 c5 c6 c7 c8
          refine bodyPost_ret (v := .agg #[.int .i64 (an + bn), .int .i64 (wide.hiW (au + bu)), .int .u64 (wide.loW (au + bu)), .int .i64 ak, .int .i64 am, .string at_, .int .i64 bx, .int .i64 by_, .string bz]) ?_ (by rfl) ?_
          · simp only [results, Try.results40]
            go_simp
          · exact ⟨by rw [HE.out, HM0.out, HM1.out], (HBW.out.trans (HBW9.out.mono HBW.out.size)).grown hg5 (Nat.le_trans HBW.out.size HBW9.out.size) (fun j e => by cases e; exact HG4.out)⟩
        · have d4 : ¬ 0 < C1 := by omega
          have HM1 := Lib.hid (show mx2 ⟨ax, ay, az⟩ ⟨bx, by_, bz⟩ = ⟨ax, ay, az⟩ from by unfold mx2; rw [hC1, if_neg h4])
          clear h4 hC1
          go_upto_region 10 with (go_at_call 39; refine HCM1.out.mono ?_; rintro ee w8c ⟨rfl, hbc⟩; clear p0 p1 p2 p3 p4 p5 p6 p7 p8 pl q0 q1 q2 q3 q4 q5 q6 q7 q8 ql; have e0 := (HFW7.out.later hbc).cell 0; have e1 := (HFW7.out.later hbc).cell 1; have e2 := (HFW7.out.later hbc).cell 2; have e3 := (HFW7.out.later hbc).cell 3; have e4 := (HFW7.out.later hbc).cell 4; have e5 := (HFW7.out.later hbc).cell 5; have e6 := (HFW7.out.later hbc).cell 6; have e7 := (HFW7.out.later hbc).cell 7; have e8 := (HFW7.out.later hbc).cell 8; have el := (HFW7.out.later hbc).lt; have u0 := (HFW7.out.later hbc).frozen 0; have u1 := (HFW7.out.later hbc).frozen 1; have u2 := (HFW7.out.later hbc).frozen 2; have u3 := (HFW7.out.later hbc).frozen 3; have u4 := (HFW7.out.later hbc).frozen 4; have u5 := (HFW7.out.later hbc).frozen 5; have u6 := (HFW7.out.later hbc).frozen 6; have u7 := (HFW7.out.later hbc).frozen 7; have u8 := (HFW7.out.later hbc).frozen 8; simp only [List.getElem?_cons_zero, List.getElem?_cons_succ] at e0 e1 e2 e3 e4 e5 e6 e7 e8; obtain ⟨p0, p1, p2, p3, p4, p5, p6, p7, p8, pl⟩ := HA.out w8c (HBW7.out.trans (hbc.mono HBW7.out.size)); obtain ⟨q0, q1, q2, q3, q4, q5, q6, q7, q8, ql⟩ := HB.out w8c (HBW7.out.trans (hbc.mono HBW7.out.size)); have HBc := Lib.hid hbc; clear hbc)
          have HFW9 := Lib.hid (HFW7.out.later HBc.out)
          have HBW9 := Lib.hid (HBW7.out.trans (HBc.out.mono HBW7.out.size))
          clear p0 p1 p2 p3 p4 p5 p6 p7 p8 pl q0 q1 q2 q3 q4 q5 q6 q7 q8 ql e0 e1 e2 e3 e4 e5 e6 e7 e8 el u0 u1 u2 u3 u4 u5 u6 u7 u8
          obtain ⟨p0, p1, p2, p3, p4, p5, p6, p7, p8, pl⟩ := HA.out w8c HBW9.out
          obtain ⟨q0, q1, q2, q3, q4, q5, q6, q7, q8, ql⟩ := HB.out w8c HBW9.out
          have e0 := HFW9.out.cell 0; have e1 := HFW9.out.cell 1; have e2 := HFW9.out.cell 2; have e3 := HFW9.out.cell 3; have e4 := HFW9.out.cell 4; have e5 := HFW9.out.cell 5; have e6 := HFW9.out.cell 6; have e7 := HFW9.out.cell 7; have e8 := HFW9.out.cell 8; have el := HFW9.out.lt
          simp only [List.getElem?_cons_zero, List.getElem?_cons_succ] at e0 e1 e2 e3 e4 e5 e6 e7 e8
          obtain ⟨r0, r1, r2, r3, r4, r5, r6, r7, r8, rl, y0, y1, y2, y3, y4, y5, y6, y7, y8⟩ := HZ.out w8c HBW9.out
          go_wp2_with fail
          obtain ⟨hf5, hg5⟩ := @box9 w8c g4 TOn (.int .i64 0) (.int .i64 0) (.int .u64 0) (.int .i64 0) (.int .i64 0) (.string ⟨#[]⟩) (.int .i64 0) (.int .i64 0) (.string ⟨#[]⟩) (.int .i64 (an + bn)) (.int .i64 (wide.hiW (au + bu))) (.int .u64 (wide.loW (au + bu))) (.int .i64 ak) (.int .i64 am) (.string at_) (.int .i64 ax) (.int .i64 ay) (.string az) (HF4.out.later HBW9.out)
          obtain ⟨W5, hW5⟩ : ∃ W, (((((((((w8c.setCell ⟨g4, 0, none⟩ (.int .i64 (an + bn))).setCell ⟨g4, 1, none⟩ (.int .i64 (wide.hiW (au + bu)))).setCell ⟨g4, 2, none⟩ (.int .u64 (wide.loW (au + bu)))).setCell ⟨g4, 3, none⟩ (.int .i64 ak)).setCell ⟨g4, 4, none⟩ (.int .i64 am)).setCell ⟨g4, 5, none⟩ (.string at_)).setCell ⟨g4, 6, none⟩ (.int .i64 ax)).setCell ⟨g4, 7, none⟩ (.int .i64 ay)).setCell ⟨g4, 8, none⟩ (.string az)) = W := ⟨_, rfl⟩
          rw [hW5] at hf5 hg5 ⊢
          have c0 := hf5.cell 0; have c1 := hf5.cell 1; have c2 := hf5.cell 2; have c3 := hf5.cell 3; have c4 := hf5.cell 4; have c5 := hf5.cell 5; have c6 := hf5.cell 6; have c7 := hf5.cell 7; have c8 := hf5.cell 8; have cl := hf5.lt
          simp only [List.getElem?_cons_zero, List.getElem?_cons_succ] at c0 c1 c2 c3 c4 c5 c6 c7 c8
          refine bodyPost_ret (v := .agg #[.int .i64 (an + bn), .int .i64 (wide.hiW (au + bu)), .int .u64 (wide.loW (au + bu)), .int .i64 ak, .int .i64 am, .string at_, .int .i64 ax, .int .i64 ay, .string az]) ?_ (by rfl) ?_
          · simp only [results, Try.results40]
            go_simp
          · exact ⟨by rw [HE.out, HM0.out, HM1.out], (HBW.out.trans (HBW9.out.mono HBW.out.size)).grown hg5 (Nat.le_trans HBW.out.size HBW9.out.size) (fun j e => by cases e; exact HG4.out)⟩
end Go.Proofs.Ytmbafcfoboknkaa.agr
