/- The part of a row; walked. -/
import Derived.Test.YtmbafcfoboknkaaAggC
import Derived.Test.YtmbafcfoboknkaaRowK
namespace Go.Proofs.Ytmbafcfoboknkaa.agr
set_option linter.unusedVariables false
open Go.RowKit val
theorem hi0 : wide.hiW 0 = 0 := by simp [wide.hiW, wrap64]
theorem lo0 : wide.loW 0 = 0 := by simp [wide.loW]
theorem oCells_sum : ∀ (l : List On) (j : Nat) (x : On) (s : Int), l[j]? = some x → ((oCells l).set (j * 9 + 1) (.int .i64 (wide.hiW s))).set (j * 9 + 2) (.int .u64 (wide.loW s)) = oCells (l.set j ⟨x.n, s, x.mn, x.mx⟩)
  | [], j, x, s, h => by simp at h
  | a :: l, 0, x, s, h => by
    simp at h; subst h
    rw [List.set_cons_zero, oCells_cons, oCells_cons]; simp [oCell]
  | a :: l, j + 1, x, s, h => by
    have ih := oCells_sum l j x s (by simpa using h)
    rw [List.set_cons_succ, oCells_cons, oCells_cons, ← ih]
    rw [set_app a _ _ ((j + 1) * 9 + 1) (j * 9 + 1) (by omega), set_app a _ _ ((j + 1) * 9 + 2) (j * 9 + 2) (by omega)]
theorem box9g {W : World} {gp j : Nat} {a0 a1 a2 a3 a4 a5 a6 a7 a8 : Value} : W.grownBy (((((((((W.setCell ⟨gp, j * 9, none⟩ (a0)).setCell ⟨gp, j * 9 + 1, none⟩ (a1)).setCell ⟨gp, j * 9 + 2, none⟩ (a2)).setCell ⟨gp, j * 9 + 3, none⟩ (a3)).setCell ⟨gp, j * 9 + 4, none⟩ (a4)).setCell ⟨gp, j * 9 + 5, none⟩ (a5)).setCell ⟨gp, j * 9 + 6, none⟩ (a6)).setCell ⟨gp, j * 9 + 7, none⟩ (a7)).setCell ⟨gp, j * 9 + 8, none⟩ (a8)) (some gp) := grown_two' (grown_two' (grown_two' (grown_two' (grown_two' (grown_two' (grown_two' (grown_two' (grown_setCell _ ⟨gp, j * 9, none⟩ _) (grown_setCell _ ⟨gp, j * 9 + 1, none⟩ _)) (grown_setCell _ ⟨gp, j * 9 + 2, none⟩ _)) (grown_setCell _ ⟨gp, j * 9 + 3, none⟩ _)) (grown_setCell _ ⟨gp, j * 9 + 4, none⟩ _)) (grown_setCell _ ⟨gp, j * 9 + 5, none⟩ _)) (grown_setCell _ ⟨gp, j * 9 + 6, none⟩ _)) (grown_setCell _ ⟨gp, j * 9 + 7, none⟩ _)) (grown_setCell _ ⟨gp, j * 9 + 8, none⟩ _)
/-- the state of the loop of Of -/
structure OfS (w : World) (gp g3 g2 m : Nat) (f3 f2 : List Value) (cur : List On) (W : World) : Prop where
  own : W.ownsRow w.heap.size TOn 9 (.slice (some ⟨gp, 0, none⟩) m m) m (oCells cur)
  b3 : Flds W g3 TPt f3
  b2 : Flds W g2 TPt f2
  bel : Below w.heap.size w W
section
variable {w W W' : World} {gp g3 g2 m : Nat} {f3 f2 : List Value} {cur : List On}
theorem OfS.later (h : OfS w gp g3 g2 m f3 f2 cur W) (hb : Below W.heap.size W W') : OfS w gp g3 g2 m f3 f2 cur W' :=
  ⟨owns_below h.own hb, h.b3.later hb, h.b2.later hb, h.bel.trans (hb.mono h.bel.size)⟩
theorem OfS.stored (h : OfS w gp g3 g2 m f3 f2 cur W) {j : Nat} (hj : j < m) (hl : cur.length = m) (z : On) : OfS w gp g3 g2 m f3 f2 (cur.set j z) (((((((((W.setCell ⟨gp, j * 9, none⟩ (.int .i64 z.n)).setCell ⟨gp, j * 9 + 1, none⟩ (.int .i64 (wide.hiW z.s))).setCell ⟨gp, j * 9 + 2, none⟩ (.int .u64 (wide.loW z.s))).setCell ⟨gp, j * 9 + 3, none⟩ (.int .i64 z.mn.k)).setCell ⟨gp, j * 9 + 4, none⟩ (.int .i64 z.mn.n)).setCell ⟨gp, j * 9 + 5, none⟩ (.string z.mn.s)).setCell ⟨gp, j * 9 + 6, none⟩ (.int .i64 z.mx.k)).setCell ⟨gp, j * 9 + 7, none⟩ (.int .i64 z.mx.n)).setCell ⟨gp, j * 9 + 8, none⟩ (.string z.mx.s)) := by
  have hg : W.grownBy (((((((((W.setCell ⟨gp, j * 9, none⟩ (.int .i64 z.n)).setCell ⟨gp, j * 9 + 1, none⟩ (.int .i64 (wide.hiW z.s))).setCell ⟨gp, j * 9 + 2, none⟩ (.int .u64 (wide.loW z.s))).setCell ⟨gp, j * 9 + 3, none⟩ (.int .i64 z.mn.k)).setCell ⟨gp, j * 9 + 4, none⟩ (.int .i64 z.mn.n)).setCell ⟨gp, j * 9 + 5, none⟩ (.string z.mn.s)).setCell ⟨gp, j * 9 + 6, none⟩ (.int .i64 z.mx.k)).setCell ⟨gp, j * 9 + 7, none⟩ (.int .i64 z.mx.n)).setCell ⟨gp, j * 9 + 8, none⟩ (.string z.mx.s)) (some gp) := grown_two' (grown_two' (grown_two' (grown_two' (grown_two' (grown_two' (grown_two' (grown_two' (grown_setCell _ ⟨gp, j * 9, none⟩ _) (grown_setCell _ ⟨gp, j * 9 + 1, none⟩ _)) (grown_setCell _ ⟨gp, j * 9 + 2, none⟩ _)) (grown_setCell _ ⟨gp, j * 9 + 3, none⟩ _)) (grown_setCell _ ⟨gp, j * 9 + 4, none⟩ _)) (grown_setCell _ ⟨gp, j * 9 + 5, none⟩ _)) (grown_setCell _ ⟨gp, j * 9 + 6, none⟩ _)) (grown_setCell _ ⟨gp, j * 9 + 7, none⟩ _)) (grown_setCell _ ⟨gp, j * 9 + 8, none⟩ _)
  have ho := owns_put (owns_put (owns_put (owns_put (owns_put (owns_put (owns_put (owns_put (owns_put h.own (i := j * 9) (by omega) (.int .i64 z.n)) (i := j * 9 + 1) (by omega) (.int .i64 (wide.hiW z.s))) (i := j * 9 + 2) (by omega) (.int .u64 (wide.loW z.s))) (i := j * 9 + 3) (by omega) (.int .i64 z.mn.k)) (i := j * 9 + 4) (by omega) (.int .i64 z.mn.n)) (i := j * 9 + 5) (by omega) (.string z.mn.s)) (i := j * 9 + 6) (by omega) (.int .i64 z.mx.k)) (i := j * 9 + 7) (by omega) (.int .i64 z.mx.n)) (i := j * 9 + 8) (by omega) (.string z.mx.s)
  rw [oCells_set cur j z (by omega)] at ho
  have hne : ∀ {b : Nat} {fs : List Value}, Flds W b TPt fs → some b ≠ some gp := fun hf e => owns_ne_obj h.own hf (by decide) e.symm
  exact ⟨ho, h.b3.grown hg (hne h.b3), h.b2.grown hg (hne h.b2), h.bel.grown hg h.bel.size (fun k e => by cases e; exact (h.own.lt gp rfl).1)⟩
theorem OfS.summed (h : OfS w gp g3 g2 m f3 f2 cur W) {j : Nat} (hj : j < m) {x : On} (hx : cur[j]? = some x) (s : Int) : OfS w gp g3 g2 m f3 f2 (cur.set j ⟨x.n, s, x.mn, x.mx⟩) ((W.setCell ⟨gp, j * 9 + 1, none⟩ (.int .i64 (wide.hiW s))).setCell ⟨gp, j * 9 + 2, none⟩ (.int .u64 (wide.loW s))) := by
  have hg : W.grownBy ((W.setCell ⟨gp, j * 9 + 1, none⟩ (.int .i64 (wide.hiW s))).setCell ⟨gp, j * 9 + 2, none⟩ (.int .u64 (wide.loW s))) (some gp) := grown_two' (grown_setCell _ ⟨gp, j * 9 + 1, none⟩ _) (grown_setCell _ ⟨gp, j * 9 + 2, none⟩ _)
  have ho := owns_put (owns_put h.own (i := j * 9 + 1) (by omega) (.int .i64 (wide.hiW s))) (i := j * 9 + 2) (by omega) (.int .u64 (wide.loW s))
  rw [oCells_sum cur j x s hx] at ho
  have hne : ∀ {b : Nat} {fs : List Value}, Flds W b TPt fs → some b ≠ some gp := fun hf e => owns_ne_obj h.own hf (by decide) e.symm
  exact ⟨ho, h.b3.grown hg (hne h.b3), h.b2.grown hg (hne h.b2), h.bel.grown hg h.bel.size (fun k e => by cases e; exact (h.own.lt gp rfl).1)⟩
end
theorem v_at {w : World} {a : Option Addr} {cap n : Nat} {l : List V} {k : Nat} {x : V} (hv : Row w (.slice a n cap) 3 n (vCells l)) (hk : k < n) (hx : l[k]? = some x) :
    ∃ b off, a = some ⟨b, off, none⟩ ∧ ∀ wq, Below w.heap.size w wq → wq.cell? ⟨b, off + k * 3, none⟩ = some (.int .i64 x.k) ∧ wq.cell? ⟨b, off + k * 3 + 1, none⟩ = some (.int .i64 x.n) ∧ wq.cell? ⟨b, off + k * 3 + 2, none⟩ = some (.string x.s) ∧ b < wq.heap.size := by
  obtain ⟨b, off, cap', ea, hcell⟩ := hv.pos (by omega)
  simp only [Value.slice.injEq] at ea
  obtain ⟨rfl, -, rfl⟩ := ea
  obtain ⟨c0, c1, c2⟩ := vCells_at l k _ hx
  refine ⟨b, off, rfl, fun wq hb => ?_⟩
  have g0 := cell_later hb ((hcell (k * 3) (by omega)).trans c0)
  have g1 := cell_later hb ((hcell (k * 3 + 1) (by omega)).trans c1)
  have g2 := cell_later hb ((hcell (k * 3 + 2) (by omega)).trans c2)
  exact ⟨g0, by rw [Nat.add_assoc]; exact g1, by rw [Nat.add_assoc]; exact g2, World.block_lt_of_cell? _ _ g0⟩
set_option maxRecDepth 100000 in
set_option maxHeartbeats 8000000 in
theorem ofp_any (m : Nat) (hm : m ≤ 1000000) (a : Option Addr) (c : Nat) (l : List V) (w : World) (hl : l.length = m) (hr : Row w (.slice a m c) 3 m (vCells l)) (hg : ∀ v ∈ l, v.k = 2 → inR v.n) :
    Calls Try.prog 18 #[.slice a m c] w (PlusPost 1 (l.map oneOf) w) := by
  obtain ⟨W1, hW1⟩ : ∃ W, w.alloc (.cells #[.int .i64 0, .slice none 0 0] TPt) = W := ⟨_, rfl⟩
  obtain ⟨g2, hg2⟩ : ∃ g, w.heap.size = g := ⟨_, rfl⟩
  have hb1 : Below w.heap.size w W1 := by rw [← hW1]; exact (Below.refl _ _).alloc (Nat.le_refl _) _
  have hf1 : Flds W1 g2 TPt [.int .i64 0, .slice none 0 0] := by rw [← hW1, ← hg2]; exact Flds.new w _ _
  have HR := Lib.hid hr
  have HL := Lib.hid hl
  have HG := Lib.hid hg
  have HB1 := Lib.hid hb1
  have HF2 := Lib.hid hf1
  have HG2 := Lib.hid (Nat.le_of_eq hg2)
  have m0 : (0 : Int) ≤ (m : Int) := by omega
  have m1 : (m : Int) ≤ 1000000 := by omega
  have HNO := Lib.hid (none_any m hm W1)
  clear hr hl hg hb1 hf1
  go_enter Try.func18, Try.ntmps18
  go_upto_region 1 with fail
  try rw [hW1, hg2]
  clear hW1 hg2
  go_upto_region 2 with (go_at_call 15; refine HNO.out.mono ?_; rintro ee w4 ⟨gp, rfl, ho4, hb4⟩; have HO4 := Lib.hid ho4; have HB4 := Lib.hid hb4; clear ho4 hb4)
  obtain ⟨W5, hW5⟩ : ∃ W, w4.alloc (.cells #[.int .i64 0, .slice (some ⟨gp, 0, none⟩) m m] TPt) = W := ⟨_, rfl⟩
  obtain ⟨g3, hg3⟩ : ∃ g, w4.heap.size = g := ⟨_, rfl⟩
  have hb5 : Below w4.heap.size w4 W5 := by rw [← hW5]; exact (Below.refl _ _).alloc (Nat.le_refl _) _
  have hf5 : Flds W5 g3 TPt [.int .i64 0, .slice (some ⟨gp, 0, none⟩) m m] := by rw [← hW5, ← hg3]; exact Flds.new w4 _ _
  rw [hW5, hg3]
  have c0 := hf5.cell 0; have cl := hf5.lt; have u0 := hf5.frozen 0
  simp only [List.getElem?_cons_zero, List.getElem?_cons_succ] at c0
  have hf6 := hf5.set 0 (.int .i64 1)
  have hb6 : Below w4.heap.size w4 (W5.setCell ⟨g3, 0, none⟩ (.int .i64 1)) := hb5.grown (grown_setCell W5 ⟨g3, 0, none⟩ _) hb5.size (fun j e => by cases e; exact Nat.le_of_eq hg3)
  clear hW5 hb5 hf5
  go_upto_region 3 with fail
  obtain ⟨W6, hW6⟩ : ∃ W, W5.setCell ⟨g3, 0, none⟩ (.int .i64 1) = W := ⟨_, rfl⟩
  rw [hW6] at hf6 hb6 ⊢
  have HP0 := Lib.hid (show OfS w gp g3 g2 m [.int .i64 1, .slice (some ⟨gp, 0, none⟩) m m] [.int .i64 0, .slice none 0 0] (List.replicate m zero) W6 from
    ⟨owns_base (owns_below HO4.out hb6) (fun g hg => Nat.le_trans HB1.out.size (HO4.out.lt g hg).1), hf6, (HF2.out.later HB4.out).later hb6, HB1.out.trans ((HB4.out.trans (hb6.mono HB4.out.size)).mono HB1.out.size)⟩)
  clear hW6 hf6 hb6 c0 cl u0 HO4 HB4 HF2 hg3 HNO HB1
  go_wp2_with fail
  go_loopw [12] (fun jv wr => ∃ j : Nat, jv = .int .i64 (j : Int) ∧ j ≤ m ∧ Hid (OfS w gp g3 g2 m [.int .i64 1, .slice (some ⟨gp, 0, none⟩) m m] [.int .i64 0, .slice none 0 0] ((l.map oneOf).take j ++ (List.replicate m zero).drop j) wr)) (fun jv _ => m - (intOf jv).toNat)
  case atStart => exact ⟨0, rfl, Nat.zero_le _, Lib.hid (by simpa using HP0.out)⟩
  case round =>
    obtain ⟨j, rfl, hj, HQ⟩ := hrel
    have j0 : (0 : Int) ≤ (j : Int) := by omega
    have hs0 : (List.replicate m zero).length = m := by simp
    have hs1 : (l.map oneOf).length = m := by rw [List.length_map, HL.out]
    by_cases hjm : j < m
    · have dj : (j : Int) < (m : Int) := by omega
      have hju : j < l.length := by rw [HL.out]; exact hjm
      have hx := List.getElem?_eq_getElem hju
      generalize l[j] = x at hx
      have hz : (l.map oneOf)[j]? = some (oneOf x) := by rw [List.getElem?_map, hx]; rfl
      have HCX := Lib.hid (show ((l.map oneOf).take j ++ (List.replicate m zero).drop j)[j]? = some zero from by rw [cur_at hs0 hs1 hjm]; simp [hjm])
      have HCS := Lib.hid (cur_set hs0 hs1 hjm hz)
      have HCL := Lib.hid (show ((l.map oneOf).take j ++ (List.replicate m zero).drop j).length = m by rw [List.length_append, List.length_take, List.length_drop]; omega)
      have HIN := Lib.hid (HG.out x (List.mem_of_getElem? hx))
      obtain ⟨b8, off8, ea, hcy⟩ := v_at HR.out hjm hx
      subst ea
      obtain ⟨f0, f1, f2, fl⟩ := hcy wr HQ.out.bel
      clear hx hz hcy hs0 hs1 hju
      generalize (l.map oneOf).take j ++ (List.replicate m zero).drop j = cur at HQ HCS HCL HCX
      obtain ⟨vk, vn, vs⟩ := x
      dsimp only at f0 f1 f2 HIN
      go_upto_region 6 with fail
      obtain ⟨W9, hW9⟩ : ∃ W, wr.alloc (.cells #[.int .i64 vk, .int .i64 vn, .string vs] 63) = W := ⟨_, rfl⟩
      obtain ⟨g9, hg9⟩ : ∃ g, wr.heap.size = g := ⟨_, rfl⟩
      have hb9 : Below wr.heap.size wr W9 := by rw [← hW9]; exact (Below.refl _ _).alloc (Nat.le_refl _) _
      have hf9 : Flds W9 g9 63 [.int .i64 vk, .int .i64 vn, .string vs] := by rw [← hW9, ← hg9]; exact Flds.new wr _ _
      have HP9 := Lib.hid (HQ.out.later hb9)
      have y0 := hf9.cell 0; have y1 := hf9.cell 1; have y2 := hf9.cell 2; have yl := hf9.lt
      simp only [List.getElem?_cons_zero, List.getElem?_cons_succ] at y0 y1 y2
      have HF9 := Lib.hid hf9
      rw [hW9, hg9]
      clear hW9 hg9 hb9 hf9 HQ f0 f1 f2 fl
      by_cases hk0 : vk = 0
      · have d0 : (vk == 0) = true := by simp [hk0]
        have HE := Lib.hid (show oneOf ⟨vk, vn, vs⟩ = zero from by unfold oneOf; rw [if_pos hk0])
        have HST := Lib.hid (show OfS w gp g3 g2 m [.int .i64 1, .slice (some ⟨gp, 0, none⟩) m m] [.int .i64 0, .slice none 0 0] ((l.map oneOf).take (j + 1) ++ (List.replicate m zero).drop (j + 1)) W9 from by
          rw [← HCS.out, HE.out]
          have e : cur.set j zero = cur := by
            obtain ⟨hlt, e1⟩ := List.getElem?_eq_some_iff.1 HCX.out
            rw [← e1]; exact List.set_getElem_self hlt
          rw [e]; exact HP9.out)
        go_wp2_with fail
        go_roundw
        case rel => exact ⟨j + 1, by go_num, by omega, HST⟩
        case measure => simp [intOf]; omega
      · have d0 : (vk == 0) = false := by simp [hk0]
        have q0 := HP9.out.b3.cell 0; have q1 := HP9.out.b3.cell 1; have ql := HP9.out.b3.lt
        simp only [List.getElem?_cons_zero, List.getElem?_cons_succ] at q0 q1
        obtain ⟨bo, fo, eo, hco⟩ := on_at (Row.of_owns HP9.out.own) hjm HCX.out
        simp only [Option.some.injEq, Addr.mk.injEq, and_true] at eo
        obtain ⟨rfl, rfl⟩ := eo
        simp only [Nat.zero_add] at hco
        obtain ⟨x0, x1, x2, x3, x4, x5, x6, x7, x8, xl⟩ := hco W9 (Below.refl _ _)
        obtain ⟨gq, eq, -, -, hcz, hfz⟩ := owns_cellAt HP9.out.own (by omega)
        simp only [Option.some.injEq, Addr.mk.injEq, and_true] at eq
        subst eq
        have u0 := hfz (j * 9)
        have u1 := hfz (j * 9 + 1)
        have u2 := hfz (j * 9 + 2)
        have u3 := hfz (j * 9 + 3)
        have u4 := hfz (j * 9 + 4)
        have u5 := hfz (j * 9 + 5)
        have u6 := hfz (j * 9 + 6)
        have u7 := hfz (j * 9 + 7)
        have u8 := hfz (j * 9 + 8)
        have hst := HP9.out.stored hjm HCL.out ⟨1, 0, ⟨vk, vn, vs⟩, ⟨vk, vn, vs⟩⟩
        dsimp only at hst
        rw [hi0, lo0] at hst
        have HST := Lib.hid hst
        have HC2 := Lib.hid (show (cur.set j ⟨1, 0, ⟨vk, vn, vs⟩, ⟨vk, vn, vs⟩⟩)[j]? = some ⟨1, 0, ⟨vk, vn, vs⟩, ⟨vk, vn, vs⟩⟩ from by rw [List.getElem?_set_self (by rw [HCL.out]; exact hjm)])
        have hgr := box9g (W := W9) (gp := gp) (j := j) (a0 := .int .i64 1) (a1 := .int .i64 0) (a2 := .int .u64 0) (a3 := .int .i64 vk) (a4 := .int .i64 vn) (a5 := .string vs) (a6 := .int .i64 vk) (a7 := .int .i64 vn) (a8 := .string vs)
        have HF10 := Lib.hid (HF9.out.grown hgr (fun e => owns_ne_obj HP9.out.own HF9.out (by decide) e.symm))
        clear hcz hfz hco hst hgr
        go_upto_region 8 with fail
        obtain ⟨W11, hW11⟩ : ∃ W, (((((((((W9.setCell ⟨gp, j * 9, none⟩ (.int .i64 1)).setCell ⟨gp, j * 9 + 1, none⟩ (.int .i64 0)).setCell ⟨gp, j * 9 + 2, none⟩ (.int .u64 0)).setCell ⟨gp, j * 9 + 3, none⟩ (.int .i64 vk)).setCell ⟨gp, j * 9 + 4, none⟩ (.int .i64 vn)).setCell ⟨gp, j * 9 + 5, none⟩ (.string vs)).setCell ⟨gp, j * 9 + 6, none⟩ (.int .i64 vk)).setCell ⟨gp, j * 9 + 7, none⟩ (.int .i64 vn)).setCell ⟨gp, j * 9 + 8, none⟩ (.string vs)) = W := ⟨_, rfl⟩
        rw [hW11] at HST HF10 ⊢
        clear hW11 x0 x1 x2 x3 x4 x5 x6 x7 x8 xl u0 u1 u2 u3 u4 u5 u6 u7 u8 y0 y1 y2 yl q0 q1 ql
        by_cases hk2 : vk = 2
        · have d2 : (vk == 2) = true := by simp [hk2]
          have HE := Lib.hid (show oneOf ⟨vk, vn, vs⟩ = ⟨1, vn, ⟨vk, vn, vs⟩, ⟨vk, vn, vs⟩⟩ from by unfold oneOf; rw [if_neg hk0, if_pos hk2])
          have HV := Lib.hid (HIN.out hk2)
          have y0 := HF10.out.cell 0; have yl := HF10.out.lt
          simp only [List.getElem?_cons_zero, List.getElem?_cons_succ] at y0
          clear hk0 hk2
          go_upto_region 9 with fail
          clear y0 yl
          apply ag.region_calm_tail 8 (ag.Spec.val _ :: ag.Spec.val _ :: ag.Spec.val _ :: ag.Spec.val _ :: ag.Spec.val _ :: ag.Spec.sat (fun v _ => v = .agg #[.int .i64 (wide.hiW vn), .int .u64 (wide.loW vn)]) ag.grew :: ag.Spec.val _ :: ag.Spec.val _ :: [])
          case hm => kernel_rfl
          case hB => kernel_rfl
          case hlen => rfl
          case hc => exact ⟨⟨ag.lasts_eq _, rfl⟩, trivial⟩
          simp only [List.take_succ_cons, List.take_zero, List.drop_succ_cons, List.drop_zero]
          apply ag.walk_val
          · rfl
          · intro W1 hS hE
            clear hS hE
            unfold ag.does
            go_simp
            first | done | exact ⟨rfl, rfl⟩ | rfl | (exact ⟨by go_num, rfl⟩) | (simp; done) | trace_state
          simp only [Act.put, List.setIfInBounds_toArray, List.set_cons_zero, List.set_cons_succ]
          apply ag.walk_val
          · rfl
          · intro W1 hS hE
            have q0 := (HST.out.later hS).b3.cell 0
            have q1 := (HST.out.later hS).b3.cell 1
            have ql := (HST.out.later hS).b3.lt
            simp only [List.getElem?_cons_zero, List.getElem?_cons_succ] at q0 q1
            clear hS hE
            unfold ag.does
            go_simp
            first | done | exact ⟨rfl, rfl⟩ | rfl | (exact ⟨by go_num, rfl⟩) | (simp; done) | trace_state
          simp only [Act.put, List.setIfInBounds_toArray, List.set_cons_zero, List.set_cons_succ]
          apply ag.walk_val
          · rfl
          · intro W1 hS hE
            clear hS hE
            unfold ag.does
            go_simp
            first | done | exact ⟨rfl, rfl⟩ | rfl | (exact ⟨by go_num, rfl⟩) | (simp; done) | trace_state
          simp only [Act.put, List.setIfInBounds_toArray, List.set_cons_zero, List.set_cons_succ]
          apply ag.walk_val
          · rfl
          · intro W1 hS hE
            clear hS hE
            unfold ag.does
            go_simp
            first | done | exact ⟨rfl, rfl⟩ | rfl | (exact ⟨by go_num, rfl⟩) | (simp; done) | trace_state
          simp only [Act.put, List.setIfInBounds_toArray, List.set_cons_zero, List.set_cons_succ]
          apply ag.walk_val
          · rfl
          · intro W1 hS hE
            have y0 := (HF10.out.later hS).cell 0
            have y1 := (HF10.out.later hS).cell 1
            have y2 := (HF10.out.later hS).cell 2
            have yl := (HF10.out.later hS).lt
            simp only [List.getElem?_cons_zero, List.getElem?_cons_succ] at y0 y1 y2
            clear hS hE
            unfold ag.does
            go_simp
            first | done | exact ⟨rfl, rfl⟩ | rfl | (exact ⟨by go_num, rfl⟩) | (simp; done) | trace_state
          simp only [Act.put, List.setIfInBounds_toArray, List.set_cons_zero, List.set_cons_succ]
          refine ag.walk_such (by rfl) (fun W1 hS hE => ?_) (fun y5 => ?_)
          · have hk := wide.of_any vn W1 HV.out
            clear hE
            unfold ag.does
            go_simp
            first | done | (exact hk.mono (fun e w' h => ⟨_, h.1, rfl, h.2⟩))
          simp only [Act.put, List.setIfInBounds_toArray, List.set_cons_zero, List.set_cons_succ]
          apply ag.walk_val
          · rfl
          · intro W1 hS hE
            clear hS hE
            unfold ag.does
            go_simp
            first | done | exact ⟨rfl, rfl⟩ | rfl | (exact ⟨by go_num, rfl⟩) | (simp; done) | trace_state
          simp only [Act.put, List.setIfInBounds_toArray, List.set_cons_zero, List.set_cons_succ]
          apply ag.walk_val
          · rfl
          · intro W1 hS hE
            clear hS hE
            unfold ag.does
            go_simp
            first | done | exact ⟨rfl, rfl⟩ | rfl | (exact ⟨by go_num, rfl⟩) | (simp; done) | trace_state
          simp only [Act.put, List.setIfInBounds_toArray, List.set_cons_zero, List.set_cons_succ]
          refine ag.walk_nil (fun w12 hS hF hP => ?_)
          clear hP
          have f5 := hF.of 5
          simp only [ag.lookE, Nat.reduceEqDiff, if_false, if_true] at f5
          subst f5
          obtain ⟨bo, fo, eo, hco⟩ := on_at (Row.of_owns (HST.out.later hS).own) hjm HC2.out
          simp only [Option.some.injEq, Addr.mk.injEq, and_true] at eo
          obtain ⟨rfl, rfl⟩ := eo
          simp only [Nat.zero_add] at hco
          obtain ⟨x0, x1, x2, x3, x4, x5, x6, x7, x8, xl⟩ := hco w12 (Below.refl _ _)
          obtain ⟨gq, eq, -, -, hcz, hfz⟩ := owns_cellAt (HST.out.later hS).own (by omega)
          simp only [Option.some.injEq, Addr.mk.injEq, and_true] at eq
          subst eq
          have u1 := hfz (j * 9 + 1)
          have u2 := hfz (j * 9 + 2)
          have hst := (HST.out.later hS).summed hjm HC2.out vn
          dsimp only at hst
          rw [List.set_set, ← HE.out, HCS.out] at hst
          have HSU := Lib.hid hst
          clear hcz hfz hco hst hF hS
          go_upto_region 10 with fail
          obtain ⟨W13, hW13⟩ : ∃ W, (w12.setCell ⟨gp, j * 9 + 1, none⟩ (.int .i64 (wide.hiW vn))).setCell ⟨gp, j * 9 + 2, none⟩ (.int .u64 (wide.loW vn)) = W := ⟨_, rfl⟩
          rw [hW13] at HSU ⊢
          clear hW13 x0 x1 x2 x3 x4 x5 x6 x7 x8 xl u1 u2
          go_wp2_with fail
          go_roundw
          case rel => exact ⟨j + 1, by go_num, by omega, HSU⟩
          case measure => simp [intOf]; omega
        · have d2 : (vk == 2) = false := by simp [hk2]
          have HE := Lib.hid (show oneOf ⟨vk, vn, vs⟩ = ⟨1, 0, ⟨vk, vn, vs⟩, ⟨vk, vn, vs⟩⟩ from by unfold oneOf; rw [if_neg hk0, if_neg hk2])
          have y0 := HF10.out.cell 0; have yl := HF10.out.lt
          simp only [List.getElem?_cons_zero, List.getElem?_cons_succ] at y0
          have HSU := Lib.hid (show OfS w gp g3 g2 m [.int .i64 1, .slice (some ⟨gp, 0, none⟩) m m] [.int .i64 0, .slice none 0 0] ((l.map oneOf).take (j + 1) ++ (List.replicate m zero).drop (j + 1)) W11 from by rw [← HCS.out, HE.out]; exact HST.out)
          clear hk0 hk2
          go_wp2_with fail
          go_roundw
          case rel => exact ⟨j + 1, by go_num, by omega, HSU⟩
          case measure => simp [intOf]; omega
    · have dj : ¬ (j : Int) < (m : Int) := by omega
      have ej : j = m := by omega
      subst ej
      have he := HQ.out
      rw [List.take_of_length_le (by omega), List.drop_of_length_le (by omega), List.append_nil] at he
      have t0 := he.b3.cell 0; have t1 := he.b3.cell 1; have tl := he.b3.lt
      have v0 := he.b2.cell 0; have v1 := he.b2.cell 1; have vl := he.b2.lt; have u0 := he.b2.frozen 0; have u1 := he.b2.frozen 1
      simp only [List.getElem?_cons_zero, List.getElem?_cons_succ] at t0 t1 v0 v1
      have HE := Lib.hid he
      have HS1 := Lib.hid hs1
      clear hjm he hs0 hs1
      go_wp2_with fail
      obtain ⟨hf9, hg9⟩ := box2 (x := .int .i64 1) (y := .slice (some ⟨gp, 0, none⟩) j j) HE.out.b2
      obtain ⟨W9, hW9⟩ : ∃ W, (wr.setCell ⟨g2, 0, none⟩ (.int .i64 1)).setCell ⟨g2, 1, none⟩ (.slice (some ⟨gp, 0, none⟩) j j) = W := ⟨_, rfl⟩
      rw [hW9] at hf9 hg9 ⊢
      have c0 := hf9.cell 0; have c1 := hf9.cell 1; have cl := hf9.lt
      simp only [List.getElem?_cons_zero, List.getElem?_cons_succ] at c0 c1
      refine bodyPost_ret (v := .agg #[.int .i64 1, .slice (some ⟨gp, 0, none⟩) j j]) ?_ (by rfl) ?_
      · simp only [results, Try.results18]
        go_simp
      · have ho := HE.out.own.kept hg9 (.inr (owns_ne_obj HE.out.own HE.out.b2 (by decide)))
        refine ⟨gp, by rw [HS1.out], ?_, HE.out.bel.grown hg9 HE.out.bel.size (fun j e => by cases e; exact HG2.out)⟩
        rw [HS1.out]
        exact Row.of_owns ho
end Go.Proofs.Ytmbafcfoboknkaa.agr
