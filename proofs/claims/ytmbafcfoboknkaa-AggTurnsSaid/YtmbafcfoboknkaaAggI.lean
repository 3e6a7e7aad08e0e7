/- What a part tells: a sum, the number of its rows; walked. -/
import Derived.Test.YtmbafcfoboknkaaAggF
import Derived.Test.YtmbafcfoboknkaaValueW
namespace Go.Proofs.Ytmbafcfoboknkaa.agr
set_option linter.unusedVariables false
open Go.RowKit val
abbrev vV' (v : V) : Value := .agg #[.int .i64 v.k, .int .i64 v.n, .string v.s]
def sumF (o : On) : V × Int := if o.n = 0 then (nul, 0) else if wide.isInt (wide.hiW o.s) (wide.loW o.s) = true then (⟨2, wrap64 (wide.loW o.s), ⟨#[]⟩⟩, 0) else (nul, 8)
set_option maxRecDepth 100000 in
set_option maxHeartbeats 4000000 in
theorem sum_any (o : On) (w : World) : Calls Try.prog 42 #[oV o] w fun e w' => e = .returned (.tuple #[vV' (sumF o).1, .int .i64 (sumF o).2]) ∧ Below w.heap.size w w' := by
  obtain ⟨on, os, ⟨ak, am, at_⟩, ⟨bk, bm, bt_⟩⟩ := o
  obtain ⟨W1, hW1⟩ : ∃ W, w.alloc (.cells #[.int .i64 on, .int .i64 (wide.hiW os), .int .u64 (wide.loW os), .int .i64 ak, .int .i64 am, .string at_, .int .i64 bk, .int .i64 bm, .string bt_] TOn) = W := ⟨_, rfl⟩
  obtain ⟨g1, hg1⟩ : ∃ g, w.heap.size = g := ⟨_, rfl⟩
  have hb1 : Below w.heap.size w W1 := by rw [← hW1]; exact (Below.refl _ _).alloc (Nat.le_refl _) _
  have hf1 : Flds W1 g1 TOn [.int .i64 on, .int .i64 (wide.hiW os), .int .u64 (wide.loW os), .int .i64 ak, .int .i64 am, .string at_, .int .i64 bk, .int .i64 bm, .string bt_] := by rw [← hW1, ← hg1]; exact Flds.new w _ _
  obtain ⟨W2, hW2⟩ : ∃ W, W1.alloc (.cells #[.int .i64 0, .int .i64 0, .string ⟨#[]⟩] TV) = W := ⟨_, rfl⟩
  obtain ⟨g2, hg2⟩ : ∃ g, W1.heap.size = g := ⟨_, rfl⟩
  have hb2 : Below W1.heap.size W1 W2 := by rw [← hW2]; exact (Below.refl _ _).alloc (Nat.le_refl _) _
  have hf2 : Flds W2 g2 TV [.int .i64 0, .int .i64 0, .string ⟨#[]⟩] := by rw [← hW2, ← hg2]; exact Flds.new W1 _ _
  have HG := Lib.hid (show w.heap.size ≤ g2 by have := hb1.size; omega)
  have HBW := Lib.hid (hb1.trans (hb2.mono hb1.size))
  have HF2 := Lib.hid hf2
  have hf1' := hf1.later hb2
  have HA := Lib.hid (fun (W : World) (hb : Below W2.heap.size W2 W) => And.intro ((hf1'.later hb).cell 0) (And.intro ((hf1'.later hb).cell 1) (And.intro ((hf1'.later hb).cell 2) (And.intro ((hf1'.later hb).cell 3) (And.intro ((hf1'.later hb).cell 4) (And.intro ((hf1'.later hb).cell 5) (And.intro ((hf1'.later hb).cell 6) (And.intro ((hf1'.later hb).cell 7) (And.intro ((hf1'.later hb).cell 8) ((hf1'.later hb).lt))))))))))
  have HZ := Lib.hid (fun (W : World) (hb : Below W2.heap.size W2 W) => And.intro ((hf2.later hb).cell 0) (And.intro ((hf2.later hb).cell 1) (And.intro ((hf2.later hb).cell 2) (And.intro (hf2.later hb).lt (And.intro ((hf2.later hb).frozen 0) (And.intro ((hf2.later hb).frozen 1) ((hf2.later hb).frozen 2)))))))
  simp only [List.getElem?_cons_zero, List.getElem?_cons_succ] at HA HZ
  obtain ⟨p0, p1, p2, p3, p4, p5, p6, p7, p8, pl⟩ := HA.out W2 (Below.refl _ _)
  obtain ⟨z0, z1, z2, zl, y0, y1, y2⟩ := HZ.out W2 (Below.refl _ _)
  have HI := Lib.hid (wide.int_any (wide.hiW os) (wide.loW os) (wide.loW_bd os) W2)
  clear hb1 hf1 hb2 hf2 hf1'
  go_enter Try.func42, Try.ntmps42
  go_upto_region 1 with fail
  try rw [hW1, hg1]
  try rw [hW2, hg2]
  clear hW1 hg1 hW2 hg2
  by_cases h1 : on = 0
  · have d1 : (on == 0) = true := by simp [h1]
    have HE : Hid (∀ os ak am at_ bk bm bt_, sumF ⟨on, os, ⟨ak, am, at_⟩, ⟨bk, bm, bt_⟩⟩ = (nul, 0)) := Lib.hid (fun os ak am at_ bk bm bt_ => by unfold sumF; rw [if_pos h1])
    go_wp2_with fail
    obtain ⟨hf5, hg5⟩ := box3 (x := .int .i64 0) (y := .int .i64 0) (z := .string ⟨#[]⟩) (HF2.out) 0
    obtain ⟨W5, hW5⟩ : ∃ W, (((W2.setCell ⟨g2, 0, none⟩ (.int .i64 0)).setCell ⟨g2, 1, none⟩ (.int .i64 0)).setCell ⟨g2, 2, none⟩ (.string ⟨#[]⟩)) = W := ⟨_, rfl⟩
    rw [show 0 + 1 = 1 from rfl, show 0 + 2 = 2 from rfl] at hf5 hg5
    rw [hW5] at hf5 hg5 ⊢
    have c0 := hf5.cell 0; have c1 := hf5.cell 1; have c2 := hf5.cell 2; have cl := hf5.lt
    simp only [List.set_cons_zero, List.set_cons_succ, List.getElem?_cons_zero, List.getElem?_cons_succ] at c0 c1 c2
    refine bodyPost_ret (v := .tuple #[.agg #[.int .i64 0, .int .i64 0, .string ⟨#[]⟩], .int .i64 0]) ?_ (by rfl) ?_
    · simp only [results, Try.results42]
      go_simp
    · exact ⟨by first | (rw [HE.out]; rfl) | (simp [sumF]; rfl) | rfl, HBW.out.grown hg5 (Nat.le_trans HBW.out.size (Nat.le_refl _)) (fun j e => by cases e; exact HG.out)⟩
  · have d1 : (on == 0) = false := by simp [h1]
    have H1 := Lib.hid h1
    go_upto_region 4 with (go_at_call 62; refine HI.out.mono ?_; rintro ee w3 ⟨rfl, hb3⟩; have HB3 := Lib.hid hb3; clear hb3 p0 p1 p2 p3 p4 p5 p6 p7 p8 pl z0 z1 z2 zl y0 y1 y2)
    obtain ⟨z0, z1, z2, zl, y0, y1, y2⟩ := HZ.out w3 HB3.out
    obtain ⟨I, hI⟩ : ∃ I, wide.isInt (wide.hiW os) (wide.loW os) = I := ⟨_, rfl⟩
    rw [hI]
    cases I
    · have HE := Lib.hid (show sumF ⟨on, os, ⟨ak, am, at_⟩, ⟨bk, bm, bt_⟩⟩ = (nul, 8) from by unfold sumF; rw [if_neg H1.out]; dsimp only; rw [hI]; rfl)
      clear h1
      go_wp2_with fail
      obtain ⟨hf5, hg5⟩ := box3 (x := .int .i64 0) (y := .int .i64 0) (z := .string ⟨#[]⟩) (HF2.out.later HB3.out) 0
      obtain ⟨W5, hW5⟩ : ∃ W, (((w3.setCell ⟨g2, 0, none⟩ (.int .i64 0)).setCell ⟨g2, 1, none⟩ (.int .i64 0)).setCell ⟨g2, 2, none⟩ (.string ⟨#[]⟩)) = W := ⟨_, rfl⟩
      rw [show 0 + 1 = 1 from rfl, show 0 + 2 = 2 from rfl] at hf5 hg5
      rw [hW5] at hf5 hg5 ⊢
      have c0 := hf5.cell 0; have c1 := hf5.cell 1; have c2 := hf5.cell 2; have cl := hf5.lt
      simp only [List.set_cons_zero, List.set_cons_succ, List.getElem?_cons_zero, List.getElem?_cons_succ] at c0 c1 c2
      refine bodyPost_ret (v := .tuple #[.agg #[.int .i64 0, .int .i64 0, .string ⟨#[]⟩], .int .i64 8]) ?_ (by rfl) ?_
      · simp only [results, Try.results42]
        go_simp
      · exact ⟨by rw [HE.out]; rfl, (HBW.out.trans (HB3.out.mono HBW.out.size)).grown hg5 (Nat.le_trans HBW.out.size (HB3.out.size)) (fun j e => by cases e; exact HG.out)⟩
    · have HE := Lib.hid (show sumF ⟨on, os, ⟨ak, am, at_⟩, ⟨bk, bm, bt_⟩⟩ = (⟨2, wrap64 (wide.loW os), ⟨#[]⟩⟩, 0) from by unfold sumF; rw [if_neg H1.out]; dsimp only; rw [hI]; rfl)
      clear h1
      rw [if_pos rfl]
      have HO := Lib.hid (ofInt_any (wrap64 (wide.loW os)) w3)
      go_wp2_with (go_at_call 19; refine HO.out.mono ?_; rintro ee w4 ⟨rfl, hb4⟩; have HB4 := Lib.hid (HB3.out.trans (hb4.mono HB3.out.size)); clear hb4 z0 z1 z2 zl y0 y1 y2; obtain ⟨z0, z1, z2, zl, y0, y1, y2⟩ := HZ.out w4 HB4.out)
      obtain ⟨hf5, hg5⟩ := box3 (x := .int .i64 2) (y := .int .i64 (wrap64 (wide.loW os))) (z := .string ByteArray.empty) (HF2.out.later HB4.out) 0
      obtain ⟨W5, hW5⟩ : ∃ W, (((w4.setCell ⟨g2, 0, none⟩ (.int .i64 2)).setCell ⟨g2, 1, none⟩ (.int .i64 (wrap64 (wide.loW os)))).setCell ⟨g2, 2, none⟩ (.string ByteArray.empty)) = W := ⟨_, rfl⟩
      rw [show 0 + 1 = 1 from rfl, show 0 + 2 = 2 from rfl] at hf5 hg5
      rw [hW5] at hf5 hg5 ⊢
      have c0 := hf5.cell 0; have c1 := hf5.cell 1; have c2 := hf5.cell 2; have cl := hf5.lt
      simp only [List.set_cons_zero, List.set_cons_succ, List.getElem?_cons_zero, List.getElem?_cons_succ] at c0 c1 c2
      refine bodyPost_ret (v := .tuple #[.agg #[.int .i64 2, .int .i64 (wrap64 (wide.loW os)), .string ByteArray.empty], .int .i64 0]) ?_ (by rfl) ?_
      · simp only [results, Try.results42]
        go_simp
      · exact ⟨by rw [HE.out]; rfl, (HBW.out.trans (HB4.out.mono HBW.out.size)).grown hg5 (Nat.le_trans HBW.out.size (HB4.out.size)) (fun j e => by cases e; exact HG.out)⟩
set_option maxRecDepth 100000 in
set_option maxHeartbeats 4000000 in
theorem final_count (r : Int) (a : Option Addr) (m c : Nat) (w : World) : Calls Try.prog 20 #[.agg #[.int .i64 r, .slice a m c], .int .i64 1, .int .i64 (-1)] w fun e w' => e = .returned (.tuple #[.agg #[.int .i64 2, .int .i64 r, .string ByteArray.empty], .int .i64 0]) ∧ Below w.heap.size w w' := by
  obtain ⟨W1, hW1⟩ : ∃ W, w.alloc (.cells #[.int .i64 r, .slice a m c] TPt) = W := ⟨_, rfl⟩
  obtain ⟨g1, hg1⟩ : ∃ g, w.heap.size = g := ⟨_, rfl⟩
  have hb1 : Below w.heap.size w W1 := by rw [← hW1]; exact (Below.refl _ _).alloc (Nat.le_refl _) _
  have hf1 : Flds W1 g1 TPt [.int .i64 r, .slice a m c] := by rw [← hW1, ← hg1]; exact Flds.new w _ _
  obtain ⟨W2, hW2⟩ : ∃ W, W1.alloc (.cells #[.int .i64 0, .int .i64 0, .string ⟨#[]⟩] TV) = W := ⟨_, rfl⟩
  obtain ⟨g2, hg2⟩ : ∃ g, W1.heap.size = g := ⟨_, rfl⟩
  have hb2 : Below W1.heap.size W1 W2 := by rw [← hW2]; exact (Below.refl _ _).alloc (Nat.le_refl _) _
  have hf2 : Flds W2 g2 TV [.int .i64 0, .int .i64 0, .string ⟨#[]⟩] := by rw [← hW2, ← hg2]; exact Flds.new W1 _ _
  have HG := Lib.hid (show w.heap.size ≤ g2 by have := hb1.size; omega)
  have HBW := Lib.hid (hb1.trans (hb2.mono hb1.size))
  have HF2 := Lib.hid hf2
  have hf1' := hf1.later hb2
  have HZ := Lib.hid (fun (W : World) (hb : Below W2.heap.size W2 W) => And.intro ((hf2.later hb).cell 0) (And.intro ((hf2.later hb).cell 1) (And.intro ((hf2.later hb).cell 2) (And.intro (hf2.later hb).lt (And.intro ((hf2.later hb).frozen 0) (And.intro ((hf2.later hb).frozen 1) ((hf2.later hb).frozen 2)))))))
  have p0 := hf1'.cell 0; have p1 := hf1'.cell 1; have pl := hf1'.lt
  simp only [List.getElem?_cons_zero, List.getElem?_cons_succ] at HZ p0 p1
  have HO := Lib.hid (ofInt_any r W2)
  clear hb1 hf1 hb2 hf2 hf1'
  go_enter Try.func20, Try.ntmps20
  go_upto_region 1 with fail
  try rw [hW1, hg1]
  try rw [hW2, hg2]
  clear hW1 hg1 hW2 hg2
  go_wp2_with (go_at_call 19; refine HO.out.mono ?_; rintro ee w4 ⟨rfl, hb4⟩; have HB4 := Lib.hid hb4; clear hb4 p0 p1 pl; obtain ⟨z0, z1, z2, zl, y0, y1, y2⟩ := HZ.out w4 HB4.out)
  obtain ⟨hf5, hg5⟩ := box3 (x := .int .i64 2) (y := .int .i64 r) (z := .string ByteArray.empty) (HF2.out.later HB4.out) 0
  obtain ⟨W5, hW5⟩ : ∃ W, (((w4.setCell ⟨g2, 0, none⟩ (.int .i64 2)).setCell ⟨g2, 1, none⟩ (.int .i64 r)).setCell ⟨g2, 2, none⟩ (.string ByteArray.empty)) = W := ⟨_, rfl⟩
  rw [show 0 + 1 = 1 from rfl, show 0 + 2 = 2 from rfl] at hf5 hg5
  rw [hW5] at hf5 hg5 ⊢
  have c0 := hf5.cell 0; have c1 := hf5.cell 1; have c2 := hf5.cell 2; have cl := hf5.lt
  simp only [List.set_cons_zero, List.set_cons_succ, List.getElem?_cons_zero, List.getElem?_cons_succ] at c0 c1 c2
  refine bodyPost_ret (v := .tuple #[.agg #[.int .i64 2, .int .i64 r, .string ByteArray.empty], .int .i64 0]) ?_ (by rfl) ?_
  · simp only [results, Try.results20]
    go_simp
  · exact ⟨rfl, (HBW.out.trans (HB4.out.mono HBW.out.size)).grown hg5 (Nat.le_trans HBW.out.size (HB4.out.size)) (fun j e => by cases e; exact HG.out)⟩
set_option maxRecDepth 100000 in
set_option maxHeartbeats 4000000 in
theorem final_sum (r : Int) (a : Option Addr) (c : Nat) (x : On) (w : World) (hr : Row w (.slice a 1 c) 9 1 (oCells [x])) : Calls Try.prog 20 #[.agg #[.int .i64 r, .slice a 1 c], .int .i64 2, .int .i64 0] w fun e w' => e = .returned (.tuple #[vV' (sumF x).1, .int .i64 (sumF x).2]) ∧ Below w.heap.size w w' := by
  obtain ⟨b8, off8, ea, hcy⟩ := on_at hr (k := 0) (by decide) rfl
  subst ea
  obtain ⟨W1, hW1⟩ : ∃ W, w.alloc (.cells #[.int .i64 r, .slice (some ⟨b8, off8, none⟩) 1 c] TPt) = W := ⟨_, rfl⟩
  obtain ⟨g1, hg1⟩ : ∃ g, w.heap.size = g := ⟨_, rfl⟩
  have hb1 : Below w.heap.size w W1 := by rw [← hW1]; exact (Below.refl _ _).alloc (Nat.le_refl _) _
  have hf1 : Flds W1 g1 TPt [.int .i64 r, .slice (some ⟨b8, off8, none⟩) 1 c] := by rw [← hW1, ← hg1]; exact Flds.new w _ _
  obtain ⟨W2, hW2⟩ : ∃ W, W1.alloc (.cells #[.int .i64 0, .int .i64 0, .string ⟨#[]⟩] TV) = W := ⟨_, rfl⟩
  obtain ⟨g2, hg2⟩ : ∃ g, W1.heap.size = g := ⟨_, rfl⟩
  have hb2 : Below W1.heap.size W1 W2 := by rw [← hW2]; exact (Below.refl _ _).alloc (Nat.le_refl _) _
  have hf2 : Flds W2 g2 TV [.int .i64 0, .int .i64 0, .string ⟨#[]⟩] := by rw [← hW2, ← hg2]; exact Flds.new W1 _ _
  have HG := Lib.hid (show w.heap.size ≤ g2 by have := hb1.size; omega)
  have hbw := hb1.trans (hb2.mono hb1.size)
  have HBW := Lib.hid hbw
  have HF2 := Lib.hid hf2
  have hf1' := hf1.later hb2
  have HZ := Lib.hid (fun (W : World) (hb : Below W2.heap.size W2 W) => And.intro ((hf2.later hb).cell 0) (And.intro ((hf2.later hb).cell 1) (And.intro ((hf2.later hb).cell 2) (And.intro (hf2.later hb).lt (And.intro ((hf2.later hb).frozen 0) (And.intro ((hf2.later hb).frozen 1) ((hf2.later hb).frozen 2)))))))
  have p0 := hf1'.cell 0; have p1 := hf1'.cell 1; have pl := hf1'.lt
  obtain ⟨f0, f1, f2, f3, f4, f5, f6, f7, f8, fl⟩ := hcy W2 hbw
  simp only [List.getElem?_cons_zero, List.getElem?_cons_succ] at HZ p0 p1
  simp only [Nat.zero_mul, Nat.add_zero] at f0 f1 f2 f3 f4 f5 f6 f7 f8
  have HSM := Lib.hid (fun W => sum_any x W)
  obtain ⟨S1, hS1⟩ : ∃ S, sumF x = S := ⟨_, rfl⟩
  simp only [hS1] at HSM ⊢
  clear hS1
  obtain ⟨⟨s1, s2, s3⟩, s4⟩ := S1
  dsimp only [oV] at HSM ⊢
  obtain ⟨xn, xs, ⟨xk, xm, xt⟩, ⟨xa, xb, xc⟩⟩ := x
  dsimp only at f0 f1 f2 f3 f4 f5 f6 f7 f8 HSM
  clear hb1 hf1 hb2 hf2 hf1' hcy hr hbw
  go_enter Try.func20, Try.ntmps20
  go_upto_region 1 with fail
  try rw [hW1, hg1]
  try rw [hW2, hg2]
  clear hW1 hg1 hW2 hg2
  go_upto_region 6 with fail
  obtain ⟨W3, hW3⟩ : ∃ W, W2.alloc (.cells #[.int .i64 xn, .int .i64 (wide.hiW xs), .int .u64 (wide.loW xs), .int .i64 xk, .int .i64 xm, .string xt, .int .i64 xa, .int .i64 xb, .string xc] TOn) = W := ⟨_, rfl⟩
  obtain ⟨g3, hg3⟩ : ∃ g, W2.heap.size = g := ⟨_, rfl⟩
  have hb3 : Below W2.heap.size W2 W3 := by rw [← hW3]; exact (Below.refl _ _).alloc (Nat.le_refl _) _
  have hf3 : Flds W3 g3 TOn [.int .i64 xn, .int .i64 (wide.hiW xs), .int .u64 (wide.loW xs), .int .i64 xk, .int .i64 xm, .string xt, .int .i64 xa, .int .i64 xb, .string xc] := by rw [← hW3, ← hg3]; exact Flds.new W2 _ _
  have y0 := hf3.cell 0; have y1 := hf3.cell 1; have y2 := hf3.cell 2; have y3 := hf3.cell 3; have y4 := hf3.cell 4; have y5 := hf3.cell 5; have y6 := hf3.cell 6; have y7 := hf3.cell 7; have y8 := hf3.cell 8; have yl := hf3.lt
  simp only [List.getElem?_cons_zero, List.getElem?_cons_succ] at y0 y1 y2 y3 y4 y5 y6 y7 y8
  have HB3 := Lib.hid hb3
  rw [hW3, hg3]
  clear hW3 hg3 hb3 hf3 f0 f1 f2 f3 f4 f5 f6 f7 f8 fl p0 p1 pl
  go_wp2_with (go_at_call 42; refine (HSM.out W3).mono ?_; rintro ee w4 ⟨rfl, hb4⟩; have HB4 := Lib.hid (HB3.out.trans (hb4.mono HB3.out.size)); clear hb4 y0 y1 y2 y3 y4 y5 y6 y7 y8 yl; obtain ⟨z0, z1, z2, zl, u0, u1, u2⟩ := HZ.out w4 HB4.out)
  obtain ⟨hf5, hg5⟩ := box3 (x := .int .i64 s1) (y := .int .i64 s2) (z := .string s3) (HF2.out.later HB4.out) 0
  obtain ⟨W5, hW5⟩ : ∃ W, (((w4.setCell ⟨g2, 0, none⟩ (.int .i64 s1)).setCell ⟨g2, 1, none⟩ (.int .i64 s2)).setCell ⟨g2, 2, none⟩ (.string s3)) = W := ⟨_, rfl⟩
  rw [show 0 + 1 = 1 from rfl, show 0 + 2 = 2 from rfl] at hf5 hg5
  rw [hW5] at hf5 hg5 ⊢
  have c0 := hf5.cell 0; have c1 := hf5.cell 1; have c2 := hf5.cell 2; have cl := hf5.lt
  simp only [List.set_cons_zero, List.set_cons_succ, List.getElem?_cons_zero, List.getElem?_cons_succ] at c0 c1 c2
  refine bodyPost_ret (v := .tuple #[.agg #[.int .i64 s1, .int .i64 s2, .string s3], .int .i64 s4]) ?_ (by rfl) ?_
  · simp only [results, Try.results20]
    go_simp
  · exact ⟨rfl, (HBW.out.trans (HB4.out.mono HBW.out.size)).grown hg5 (Nat.le_trans HBW.out.size (HB4.out.size)) (fun j e => by cases e; exact HG.out)⟩
end Go.Proofs.Ytmbafcfoboknkaa.agr
