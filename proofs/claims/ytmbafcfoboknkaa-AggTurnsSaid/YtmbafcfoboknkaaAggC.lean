/- Two parts together; walked. -/
import Derived.Test.YtmbafcfoboknkaaAggB
namespace Go.Proofs.Ytmbafcfoboknkaa.agr
set_option linter.unusedVariables false
open Go.RowKit val
/-- an aggregate's part in a row -/
theorem on_at {w : World} {a : Option Addr} {cap n : Nat} {l : List On} {k : Nat} {x : On} (hv : Row w (.slice a n cap) 9 n (oCells l)) (hk : k < n) (hx : l[k]? = some x) :
    ∃ b off, a = some ⟨b, off, none⟩ ∧ ∀ wq, Below w.heap.size w wq → wq.cell? ⟨b, off + k * 9, none⟩ = some (.int .i64 x.n) ∧ wq.cell? ⟨b, off + k * 9 + 1, none⟩ = some (.int .i64 (wide.hiW x.s)) ∧ wq.cell? ⟨b, off + k * 9 + 2, none⟩ = some (.int .u64 (wide.loW x.s)) ∧ wq.cell? ⟨b, off + k * 9 + 3, none⟩ = some (.int .i64 x.mn.k) ∧ wq.cell? ⟨b, off + k * 9 + 4, none⟩ = some (.int .i64 x.mn.n) ∧ wq.cell? ⟨b, off + k * 9 + 5, none⟩ = some (.string x.mn.s) ∧ wq.cell? ⟨b, off + k * 9 + 6, none⟩ = some (.int .i64 x.mx.k) ∧ wq.cell? ⟨b, off + k * 9 + 7, none⟩ = some (.int .i64 x.mx.n) ∧ wq.cell? ⟨b, off + k * 9 + 8, none⟩ = some (.string x.mx.s) ∧ b < wq.heap.size := by
  obtain ⟨b, off, cap', ea, hcell⟩ := hv.pos (by omega)
  simp only [Value.slice.injEq] at ea
  obtain ⟨rfl, -, rfl⟩ := ea
  refine ⟨b, off, rfl, fun wq hb => ?_⟩
  have g := fun r (hr : r < 9) => cell_later hb ((hcell (k * 9 + r) (by omega)).trans ((oCells_at l k _ hx r hr).trans (List.getElem?_eq_getElem (by simpa [oCell] using hr))))
  have g0 := g 0 (by decide)
  refine ⟨by first | exact g 0 (by decide) | (have h := g 0 (by decide); rw [← Nat.add_assoc] at h; exact h), by first | exact g 1 (by decide) | (have h := g 1 (by decide); rw [← Nat.add_assoc] at h; exact h), by first | exact g 2 (by decide) | (have h := g 2 (by decide); rw [← Nat.add_assoc] at h; exact h), by first | exact g 3 (by decide) | (have h := g 3 (by decide); rw [← Nat.add_assoc] at h; exact h), by first | exact g 4 (by decide) | (have h := g 4 (by decide); rw [← Nat.add_assoc] at h; exact h), by first | exact g 5 (by decide) | (have h := g 5 (by decide); rw [← Nat.add_assoc] at h; exact h), by first | exact g 6 (by decide) | (have h := g 6 (by decide); rw [← Nat.add_assoc] at h; exact h), by first | exact g 7 (by decide) | (have h := g 7 (by decide); rw [← Nat.add_assoc] at h; exact h), by first | exact g 8 (by decide) | (have h := g 8 (by decide); rw [← Nat.add_assoc] at h; exact h), World.block_lt_of_cell? _ _ g0⟩

/-- the state of the loops of Plus -/
structure PlS (w : World) (gp g5 g4 g26 m : Nat) (R ra rb : Int) (va vb : Value) (cur : List On) (W : World) : Prop where
  own : W.ownsRow w.heap.size TOn 9 (.slice (some ⟨gp, 0, none⟩) m m) m (oCells cur)
  f5 : Flds W g5 TPt [.int .i64 R, .slice (some ⟨gp, 0, none⟩) m m]
  f4 : Flds W g4 TPt [.int .i64 0, .slice none 0 0]
  f26 : Flds W g26 TPt [.int .i64 ra, va, .int .i64 rb, vb]
  bel : Below w.heap.size w W
section
variable {w W W' : World} {gp g5 g4 g26 m : Nat} {R ra rb : Int} {va vb : Value} {cur : List On}
theorem PlS.later (h : PlS w gp g5 g4 g26 m R ra rb va vb cur W) (hb : Below W.heap.size W W') : PlS w gp g5 g4 g26 m R ra rb va vb cur W' :=
  ⟨owns_below h.own hb, h.f5.later hb, h.f4.later hb, h.f26.later hb, h.bel.trans (hb.mono h.bel.size)⟩
theorem PlS.stored (h : PlS w gp g5 g4 g26 m R ra rb va vb cur W) {j : Nat} (hj : j < m) (hl : cur.length = m) (z : On) : PlS w gp g5 g4 g26 m R ra rb va vb (cur.set j z) (((((((((W.setCell ⟨gp, j * 9, none⟩ (.int .i64 z.n)).setCell ⟨gp, j * 9 + 1, none⟩ (.int .i64 (wide.hiW z.s))).setCell ⟨gp, j * 9 + 2, none⟩ (.int .u64 (wide.loW z.s))).setCell ⟨gp, j * 9 + 3, none⟩ (.int .i64 z.mn.k)).setCell ⟨gp, j * 9 + 4, none⟩ (.int .i64 z.mn.n)).setCell ⟨gp, j * 9 + 5, none⟩ (.string z.mn.s)).setCell ⟨gp, j * 9 + 6, none⟩ (.int .i64 z.mx.k)).setCell ⟨gp, j * 9 + 7, none⟩ (.int .i64 z.mx.n)).setCell ⟨gp, j * 9 + 8, none⟩ (.string z.mx.s)) := by
  have hg : W.grownBy (((((((((W.setCell ⟨gp, j * 9, none⟩ (.int .i64 z.n)).setCell ⟨gp, j * 9 + 1, none⟩ (.int .i64 (wide.hiW z.s))).setCell ⟨gp, j * 9 + 2, none⟩ (.int .u64 (wide.loW z.s))).setCell ⟨gp, j * 9 + 3, none⟩ (.int .i64 z.mn.k)).setCell ⟨gp, j * 9 + 4, none⟩ (.int .i64 z.mn.n)).setCell ⟨gp, j * 9 + 5, none⟩ (.string z.mn.s)).setCell ⟨gp, j * 9 + 6, none⟩ (.int .i64 z.mx.k)).setCell ⟨gp, j * 9 + 7, none⟩ (.int .i64 z.mx.n)).setCell ⟨gp, j * 9 + 8, none⟩ (.string z.mx.s)) (some gp) := grown_two' (grown_two' (grown_two' (grown_two' (grown_two' (grown_two' (grown_two' (grown_two' (grown_setCell _ ⟨gp, j * 9, none⟩ _) (grown_setCell _ ⟨gp, j * 9 + 1, none⟩ _)) (grown_setCell _ ⟨gp, j * 9 + 2, none⟩ _)) (grown_setCell _ ⟨gp, j * 9 + 3, none⟩ _)) (grown_setCell _ ⟨gp, j * 9 + 4, none⟩ _)) (grown_setCell _ ⟨gp, j * 9 + 5, none⟩ _)) (grown_setCell _ ⟨gp, j * 9 + 6, none⟩ _)) (grown_setCell _ ⟨gp, j * 9 + 7, none⟩ _)) (grown_setCell _ ⟨gp, j * 9 + 8, none⟩ _)
  have ho := owns_put (owns_put (owns_put (owns_put (owns_put (owns_put (owns_put (owns_put (owns_put h.own (i := j * 9) (by omega) (.int .i64 z.n)) (i := j * 9 + 1) (by omega) (.int .i64 (wide.hiW z.s))) (i := j * 9 + 2) (by omega) (.int .u64 (wide.loW z.s))) (i := j * 9 + 3) (by omega) (.int .i64 z.mn.k)) (i := j * 9 + 4) (by omega) (.int .i64 z.mn.n)) (i := j * 9 + 5) (by omega) (.string z.mn.s)) (i := j * 9 + 6) (by omega) (.int .i64 z.mx.k)) (i := j * 9 + 7) (by omega) (.int .i64 z.mx.n)) (i := j * 9 + 8) (by omega) (.string z.mx.s)
  rw [oCells_set cur j z (by omega)] at ho
  have hne : ∀ {b : Nat} {fs : List Value}, Flds W b TPt fs → some b ≠ some gp := fun hf e => owns_ne_obj h.own hf (by decide) e.symm
  exact ⟨ho, h.f5.grown hg (hne h.f5), h.f4.grown hg (hne h.f4), h.f26.grown hg (hne h.f26), h.bel.grown hg h.bel.size (fun k e => by cases e; exact (h.own.lt gp rfl).1)⟩
end
def stepL (m : Nat) (la lb : List On) (k : Nat) : List On := if k = 0 then List.replicate m zero else if k = 1 then la else List.zipWith both la lb
def fromL (la lb : List On) (k : Nat) : List On := if k = 0 then la else lb
def inR (x : Int) : Prop := -9223372036854775808 ≤ x ∧ x ≤ 9223372036854775807
theorem step_len {m : Nat} {la lb : List On} (ha : la.length = m) (hb : lb.length = m) (k : Nat) : (stepL m la lb k).length = m := by
  unfold stepL
  split
  · simp
  · split
    · exact ha
    · simp [ha, hb]
theorem from_len {m : Nat} {la lb : List On} (ha : la.length = m) (hb : lb.length = m) (k : Nat) : (fromL la lb k).length = m := by
  unfold fromL; split <;> assumption
theorem step_at {m : Nat} {la lb : List On} (ha : la.length = m) (hb : lb.length = m) {k j : Nat} (hk : k < 2) (hj : j < m) {x y : On} (hx : (stepL m la lb k)[j]? = some x) (hy : (fromL la lb k)[j]? = some y) : (stepL m la lb (k + 1))[j]? = some (both x y) := by
  rcases (by omega : k = 0 ∨ k = 1) with rfl | rfl
  · unfold stepL at hx ⊢
    unfold fromL at hy
    simp only [if_pos, if_neg, Nat.zero_add, Nat.one_ne_zero, if_false] at hx hy ⊢
    have : x = zero := by simp [hj] at hx; exact hx.symm
    subst this
    rw [zero_both]; exact hy
  · unfold stepL at hx ⊢
    unfold fromL at hy
    simp only [Nat.one_ne_zero, if_false, if_true, Nat.reduceAdd, Nat.reduceEqDiff] at hx hy ⊢
    rw [List.getElem?_zipWith, hx, hy]
theorem cur_set {l r : List On} {j m : Nat} (hl : l.length = m) (hr : r.length = m) (hj : j < m) {z : On} (hz : r[j]? = some z) : (r.take j ++ l.drop j).set j z = r.take (j + 1) ++ l.drop (j + 1) := by
  have e1 : (r.take j).length = j := by rw [List.length_take]; omega
  rw [List.set_append_right _ _ (by omega), e1, Nat.sub_self]
  rw [List.drop_eq_getElem_cons (by omega : j < l.length), List.set_cons_zero, List.take_add_one, hz, List.append_assoc]
  rfl
theorem cur_at {l r : List On} {j m : Nat} (hl : l.length = m) (hr : r.length = m) (hj : j < m) : (r.take j ++ l.drop j)[j]? = l[j]? := by
  have e1 : (r.take j).length = j := by rw [List.length_take]; omega
  rw [List.getElem?_append_right (by omega), e1, Nat.sub_self, List.getElem?_drop, Nat.add_zero]
def PlusPost (r : Int) (l : List On) (w : World) (e : Ending) (w' : World) : Prop := ∃ g, e = .returned (.agg #[.int .i64 r, .slice (some ⟨g, 0, none⟩) l.length l.length]) ∧ Row w' (.slice (some ⟨g, 0, none⟩) l.length l.length) 9 l.length (oCells l) ∧ Below w.heap.size w w'
attribute [local go_sem high] run_max_keep
set_option maxRecDepth 100000 in
set_option maxHeartbeats 8000000 in
theorem plus_any (m : Nat) (hm : m ≤ 1000000) (ra rb : Int) (aa ab : Option Addr) (ca cb : Nat) (la lb : List On) (w : World) (hla : la.length = m) (hlb : lb.length = m) (hra : Row w (.slice aa m ca) 9 m (oCells la)) (hrb : Row w (.slice ab m cb) 9 m (oCells lb)) (hR : inR (ra + rb)) (hN : ∀ (j : Nat) (x y : On), la[j]? = some x → lb[j]? = some y → inR x.n ∧ inR (x.n + y.n)) :
    Calls Try.prog 16 #[.agg #[.int .i64 ra, .slice aa m ca], .agg #[.int .i64 rb, .slice ab m cb]] w (PlusPost (ra + rb) (List.zipWith both la lb) w) := by
  obtain ⟨W1, hW1⟩ : ∃ W, w.alloc (.cells #[.int .i64 ra, .slice aa m ca] TPt) = W := ⟨_, rfl⟩
  obtain ⟨g1, hg1⟩ : ∃ g, w.heap.size = g := ⟨_, rfl⟩
  have hb1 : Below w.heap.size w W1 := by rw [← hW1]; exact (Below.refl _ _).alloc (Nat.le_refl _) _
  have hf1 : Flds W1 g1 TPt [.int .i64 ra, .slice aa m ca] := by rw [← hW1, ← hg1]; exact Flds.new w _ _
  obtain ⟨W2, hW2⟩ : ∃ W, W1.alloc (.cells #[.int .i64 rb, .slice ab m cb] TPt) = W := ⟨_, rfl⟩
  obtain ⟨g2, hg2⟩ : ∃ g, W1.heap.size = g := ⟨_, rfl⟩
  have hb2 : Below W1.heap.size W1 W2 := by rw [← hW2]; exact (Below.refl _ _).alloc (Nat.le_refl _) _
  have hf2 : Flds W2 g2 TPt [.int .i64 rb, .slice ab m cb] := by rw [← hW2, ← hg2]; exact Flds.new W1 _ _
  obtain ⟨W3, hW3⟩ : ∃ W, W2.alloc (.cells #[.int .i64 0, .slice none 0 0] TPt) = W := ⟨_, rfl⟩
  obtain ⟨g4, hg4⟩ : ∃ g, W2.heap.size = g := ⟨_, rfl⟩
  have hb3 : Below W2.heap.size W2 W3 := by rw [← hW3]; exact (Below.refl _ _).alloc (Nat.le_refl _) _
  have hf3 : Flds W3 g4 TPt [.int .i64 0, .slice none 0 0] := by rw [← hW3, ← hg4]; exact Flds.new W2 _ _
  have hbw : Below w.heap.size w W3 := (hb1.trans (hb2.mono hb1.size)).trans (hb3.mono (Nat.le_trans hb1.size hb2.size))
  have hf1' := (hf1.later hb2).later hb3
  have hf2' := hf2.later hb3
  have HBW := Lib.hid hbw
  have HF4 := Lib.hid hf3
  have HG := Lib.hid (show w.heap.size ≤ g4 by have := hb1.size; have := hb2.size; omega)
  have HA := Lib.hid (fun (W : World) (hb : Below W3.heap.size W3 W) => And.intro ((hf1'.later hb).cell 0) (And.intro ((hf1'.later hb).cell 1) (hf1'.later hb).lt))
  have HB := Lib.hid (fun (W : World) (hb : Below W3.heap.size W3 W) => And.intro ((hf2'.later hb).cell 0) (And.intro ((hf2'.later hb).cell 1) (hf2'.later hb).lt))
  simp only [List.getElem?_cons_zero, List.getElem?_cons_succ] at HA HB
  have HRA := Lib.hid hra
  have HRB := Lib.hid hrb
  have HLA := Lib.hid hla
  have HLB := Lib.hid hlb
  have HN := Lib.hid hN
  have hR1 := hR.1
  have hR2 := hR.2
  have m0 : (0 : Int) ≤ (m : Int) := by omega
  have m1 : (m : Int) ≤ 1000000 := by omega
  have HNO := Lib.hid (none_any m hm W3)
  clear hf1 hf2 hf3 hf1' hf2' hb1 hb2 hb3 hbw hra hrb hla hlb hN hR
  obtain ⟨p0, p1, pl⟩ := HA.out W3 (Below.refl _ _)
  obtain ⟨q0, q1, ql⟩ := HB.out W3 (Below.refl _ _)
  go_enter Try.func16, Try.ntmps16
  go_upto_region 1 with fail
  try rw [hW1, hg1]
  try rw [hW2, hg2]
  try rw [hW3, hg4]
  clear hW1 hg1 hW2 hg2 hW3 hg4
  go_upto_region 2 with (go_at_call 15; refine HNO.out.mono ?_; rintro ee w4 ⟨gp, rfl, ho4, hb4⟩; have HO4 := Lib.hid ho4; have HB4 := Lib.hid hb4; clear ho4 hb4 p0 p1 pl q0 q1 ql)
  obtain ⟨W5, hW5⟩ : ∃ W, w4.alloc (.cells #[.int .i64 0, .slice (some ⟨gp, 0, none⟩) m m] TPt) = W := ⟨_, rfl⟩
  obtain ⟨g5, hg5⟩ : ∃ g, w4.heap.size = g := ⟨_, rfl⟩
  have hb5 : Below w4.heap.size w4 W5 := by rw [← hW5]; exact (Below.refl _ _).alloc (Nat.le_refl _) _
  have hf5 : Flds W5 g5 TPt [.int .i64 0, .slice (some ⟨gp, 0, none⟩) m m] := by rw [← hW5, ← hg5]; exact Flds.new w4 _ _
  rw [hW5, hg5]
  have HB5 := Lib.hid (HB4.out.trans (hb5.mono HB4.out.size))
  obtain ⟨p0, p1, pl⟩ := HA.out W5 HB5.out
  obtain ⟨q0, q1, ql⟩ := HB.out W5 HB5.out
  have c0 := hf5.cell 0; have c1 := hf5.cell 1; have cl := hf5.lt; have u0 := hf5.frozen 0
  simp only [List.getElem?_cons_zero, List.getElem?_cons_succ] at c0 c1
  have hf6 := hf5.set 0 (.int .i64 (ra + rb))
  have hb6 : Below w4.heap.size w4 (W5.setCell ⟨g5, 0, none⟩ (.int .i64 (ra + rb))) := hb5.grown (grown_setCell W5 ⟨g5, 0, none⟩ _) hb5.size (fun j e => by cases e; exact Nat.le_of_eq hg5)
  clear hW5 hb5 hf5
  go_upto_region 3 with fail
  obtain ⟨W6, hW6⟩ : ∃ W, W5.setCell ⟨g5, 0, none⟩ (.int .i64 (ra + rb)) = W := ⟨_, rfl⟩
  rw [hW6] at hf6 hb6 ⊢
  have HF6 := Lib.hid (show Flds W6 g5 TPt [.int .i64 (ra + rb), .slice (some ⟨gp, 0, none⟩) m m] from hf6)
  have HB6 := Lib.hid (HB4.out.trans (hb6.mono HB4.out.size))
  clear hW6 p0 p1 pl q0 q1 ql c0 c1 cl u0 hf6
  obtain ⟨p0, p1, pl⟩ := HA.out W6 HB6.out
  obtain ⟨q0, q1, ql⟩ := HB.out W6 HB6.out
  go_wp2_with fail
  obtain ⟨W7, hW7⟩ : ∃ W, W6.alloc (.cells #[.int .i64 ra, .slice aa m ca, .int .i64 rb, .slice ab m cb] TPt) = W := ⟨_, rfl⟩
  obtain ⟨g26, hg26⟩ : ∃ g, W6.heap.size = g := ⟨_, rfl⟩
  have hb7 : Below W6.heap.size W6 W7 := by rw [← hW7]; exact (Below.refl _ _).alloc (Nat.le_refl _) _
  have hf7 : Flds W7 g26 TPt [.int .i64 ra, .slice aa m ca, .int .i64 rb, .slice ab m cb] := by rw [← hW7, ← hg26]; exact Flds.new W6 _ _
  have HP0 := Lib.hid (show PlS w gp g5 g4 g26 m (ra + rb) ra rb (.slice aa m ca) (.slice ab m cb) (stepL m la lb 0) W7 from
    ⟨owns_base (owns_below HO4.out (hb6.trans (hb7.mono hb6.size))) (fun g hg => Nat.le_trans HBW.out.size (HO4.out.lt g hg).1), HF6.out.later hb7, (HF4.out.later HB6.out).later hb7, hf7, HBW.out.trans ((HB6.out.trans (hb7.mono HB6.out.size)).mono HBW.out.size)⟩)
  rw [hW7, hg26]
  clear hW7 hg26 hb6 hb7 hf7 p0 p1 pl q0 q1 ql HO4 HF6 HB6 HB5 HF4 HA HB HB4 hg5 HNO
  go_loopw [28] (fun kv wr => ∃ k : Nat, kv = .int .i64 (k : Int) ∧ k ≤ 2 ∧ Hid (PlS w gp g5 g4 g26 m (ra + rb) ra rb (.slice aa m ca) (.slice ab m cb) (stepL m la lb k) wr)) (fun kv _ => 2 - (intOf kv).toNat)
  case atStart => exact ⟨0, rfl, Nat.zero_le _, HP0⟩
  case round =>
    obtain ⟨k, rfl, hk, HP⟩ := hrel
    rcases (by omega : k = 0 ∨ k = 1 ∨ k = 2) with rfl | rfl | rfl
    · have t0 := HP.out.f26.cell 0; have t1 := HP.out.f26.cell 1; have tl := HP.out.f26.lt
      simp only [List.getElem?_cons_zero, List.getElem?_cons_succ] at t0 t1
      go_upto_region 6 with fail
      obtain ⟨W8, hW8⟩ : ∃ W, wr.alloc (.cells #[.int .i64 ra, .slice aa m ca] TPt) = W := ⟨_, rfl⟩
      obtain ⟨g7, hg7⟩ : ∃ g, wr.heap.size = g := ⟨_, rfl⟩
      have hb8 : Below wr.heap.size wr W8 := by rw [← hW8]; exact (Below.refl _ _).alloc (Nat.le_refl _) _
      have hf8 : Flds W8 g7 TPt [.int .i64 ra, .slice aa m ca] := by rw [← hW8, ← hg7]; exact Flds.new wr _ _
      have HP8 := Lib.hid (HP.out.later hb8)
      rw [hW8, hg7]
      have v0 := hf8.cell 0; have v1 := hf8.cell 1; have vl := hf8.lt
      simp only [List.getElem?_cons_zero, List.getElem?_cons_succ] at v0 v1
      clear hW8 hg7 hb8 hf8 t0 t1 tl HP
      go_wp2_with fail
      clear v0 v1 vl
      go_loopw [35] (fun jv wq => ∃ j : Nat, jv = .int .i64 (j : Int) ∧ j ≤ m ∧ Hid (PlS w gp g5 g4 g26 m (ra + rb) ra rb (.slice aa m ca) (.slice ab m cb) ((stepL m la lb (0 + 1)).take j ++ (stepL m la lb 0).drop j) wq)) (fun jv _ => m - (intOf jv).toNat)
      case atStart => exact ⟨0, rfl, Nat.zero_le _, Lib.hid (by simpa using HP8.out)⟩
      case round =>
        obtain ⟨j, rfl, hj, HQ⟩ := hrel
        have j0 : (0 : Int) ≤ (j : Int) := by omega
        by_cases hjm : j < m
        · have dj : (j : Int) < (m : Int) := by omega
          have hs0 := step_len HLA.out HLB.out 0
          have hs1 := step_len HLA.out HLB.out (0 + 1)
          have hfl := from_len HLA.out HLB.out 0
          have hx := List.getElem?_eq_getElem (show j < (stepL m la lb 0).length by omega)
          generalize (stepL m la lb 0)[j] = x at hx
          have hy := List.getElem?_eq_getElem (show j < (fromL la lb 0).length by omega)
          generalize (fromL la lb 0)[j] = y at hy
          have hz := step_at HLA.out HLB.out (by decide) hjm hx hy
          have hcx : ((stepL m la lb (0 + 1)).take j ++ (stepL m la lb 0).drop j)[j]? = some x := by rw [cur_at hs0 hs1 hjm]; exact hx
          have hnx : inR (x.n + y.n) := by have e : x = zero := (by unfold stepL at hx; simp [hjm] at hx; exact hx.symm); subst e; show inR (0 + y.n); rw [Int.zero_add]; have hlb9 := List.getElem?_eq_getElem (show j < lb.length by rw [HLB.out]; exact hjm); exact (HN.out j y _ hy hlb9).1
          obtain ⟨b8, off8, ea, hcy⟩ := on_at HRA.out hjm (show la[j]? = some y from hy)
          subst ea
          obtain ⟨f0, f1, f2, f3, f4, f5, f6, f7, f8, fl⟩ := hcy _ HQ.out.bel
          have HCS := Lib.hid (cur_set hs0 hs1 hjm hz)
          have HCL := Lib.hid (show ((stepL m la lb (0 + 1)).take j ++ (stepL m la lb 0).drop j).length = m by rw [List.length_append, List.length_take, List.length_drop]; omega)
          have HCX := Lib.hid hcx
          have HBO := Lib.hid (fun W => both_any x y hnx W)
          clear hcx hx hy hz hcy hs0 hs1 hfl hnx
          generalize (stepL m la lb (0 + 1)).take j ++ (stepL m la lb 0).drop j = cur at HQ HCS HCL HCX
          obtain ⟨xn, xs, ⟨xk, xm, xt⟩, ⟨xa, xb, xc⟩⟩ := x
          obtain ⟨yn, ys, ⟨yk, ym, yt⟩, ⟨ya, yb, yc⟩⟩ := y
          dsimp only at f0 f1 f2 f3 f4 f5 f6 f7 f8
          go_upto_region 9 with fail
          obtain ⟨W9, hW9⟩ : ∃ W, wr.alloc (.cells #[.int .i64 yn, .int .i64 (wide.hiW ys), .int .u64 (wide.loW ys), .int .i64 yk, .int .i64 ym, .string yt, .int .i64 ya, .int .i64 yb, .string yc] TOn) = W := ⟨_, rfl⟩
          obtain ⟨g9, hg9⟩ : ∃ g, wr.heap.size = g := ⟨_, rfl⟩
          have hb9 : Below wr.heap.size wr W9 := by rw [← hW9]; exact (Below.refl _ _).alloc (Nat.le_refl _) _
          have hf9 : Flds W9 g9 TOn [.int .i64 yn, .int .i64 (wide.hiW ys), .int .u64 (wide.loW ys), .int .i64 yk, .int .i64 ym, .string yt, .int .i64 ya, .int .i64 yb, .string yc] := by rw [← hW9, ← hg9]; exact Flds.new wr _ _
          have HP9 := Lib.hid (HQ.out.later hb9)
          have HY := Lib.hid (fun (W : World) (hb : Below W9.heap.size W9 W) => And.intro ((hf9.later hb).cell 0) (And.intro ((hf9.later hb).cell 1) (And.intro ((hf9.later hb).cell 2) (And.intro ((hf9.later hb).cell 3) (And.intro ((hf9.later hb).cell 4) (And.intro ((hf9.later hb).cell 5) (And.intro ((hf9.later hb).cell 6) (And.intro ((hf9.later hb).cell 7) (And.intro ((hf9.later hb).cell 8) ((hf9.later hb).lt))))))))))
          have H5 := Lib.hid (fun (W : World) (hb : Below W9.heap.size W9 W) => And.intro ((HP9.out.later hb).f5.cell 0) (And.intro ((HP9.out.later hb).f5.cell 1) (HP9.out.later hb).f5.lt))
          simp only [List.getElem?_cons_zero, List.getElem?_cons_succ] at HY H5
          obtain ⟨bo, fo, eo, hco⟩ := on_at (Row.of_owns HP9.out.own) hjm HCX.out
          simp only [Option.some.injEq, Addr.mk.injEq, and_true] at eo
          obtain ⟨rfl, rfl⟩ := eo
          simp only [Nat.zero_add] at hco
          have HXO := Lib.hid hco
          have HGP := Lib.hid (fun (W : World) (hb : Below W9.heap.size W9 W) => (HP9.out.later hb).own.lt gp rfl)
          have HFZ := Lib.hid (fun (W : World) (hb : Below W9.heap.size W9 W) => owns_cellAt (HP9.out.later hb).own (by omega))
          rw [hW9, hg9]
          clear hW9 hg9 hb9 hf9 hco HQ HCX f0 f1 f2 f3 f4 f5 f6 f7 f8 fl
          obtain ⟨z, hz⟩ : ∃ z, both ⟨xn, xs, ⟨xk, xm, xt⟩, ⟨xa, xb, xc⟩⟩ ⟨yn, ys, ⟨yk, ym, yt⟩, ⟨ya, yb, yc⟩⟩ = z := ⟨_, rfl⟩
          unfold BothPost at HBO
          rw [hz] at HCS HBO
          clear hz
          obtain ⟨zn, zs, ⟨zk, zm, zt⟩, ⟨za, zb, zc⟩⟩ := z
          simp only [oV] at HBO
          apply ag.region_calm_tail 11 (ag.Spec.val _ :: ag.Spec.val _ :: ag.Spec.val _ :: ag.Spec.val _ :: ag.Spec.val _ :: ag.Spec.val _ :: ag.Spec.val _ :: ag.Spec.val _ :: ag.Spec.val _ :: ag.Spec.sat (fun v _ => v = .agg #[.int .i64 zn, .int .i64 (wide.hiW zs), .int .u64 (wide.loW zs), .int .i64 zk, .int .i64 zm, .string zt, .int .i64 za, .int .i64 zb, .string zc]) ag.grew :: ag.Spec.val _ :: [])
          case hm => kernel_rfl
          case hB => kernel_rfl
          case hlen => rfl
          case hc => exact ⟨⟨ag.lasts_eq _, rfl⟩, trivial⟩
          simp only [List.take_succ_cons, List.take_zero, List.drop_succ_cons, List.drop_zero]
          apply ag.walk_val
          · rfl
          · intro W1 hS hE
            clear hS hE
            unfold ag.does
            go_simp
            first | done | exact ⟨rfl, rfl⟩ | rfl | (exact ⟨by go_num, rfl⟩) | (simp; done) | trace_state
          simp only [Act.put, List.setIfInBounds_toArray, List.set_cons_zero, List.set_cons_succ]
          apply ag.walk_val
          · rfl
          · intro W1 hS hE
            obtain ⟨h0, h1, hl⟩ := H5.out W1 hS
            clear hS hE
            unfold ag.does
            go_simp
            first | done | exact ⟨rfl, rfl⟩ | rfl | (exact ⟨by go_num, rfl⟩) | (simp; done) | trace_state
          simp only [Act.put, List.setIfInBounds_toArray, List.set_cons_zero, List.set_cons_succ]
          apply ag.walk_val
          · rfl
          · intro W1 hS hE
            clear hS hE
            unfold ag.does
            go_simp
            first | done | exact ⟨rfl, rfl⟩ | rfl | (exact ⟨by go_num, rfl⟩) | (simp; done) | trace_state
          simp only [Act.put, List.setIfInBounds_toArray, List.set_cons_zero, List.set_cons_succ]
          apply ag.walk_val
          · rfl
          · intro W1 hS hE
            clear hS hE
            unfold ag.does
            go_simp
            first | done | exact ⟨rfl, rfl⟩ | rfl | (exact ⟨by go_num, rfl⟩) | (simp; done) | trace_state
          simp only [Act.put, List.setIfInBounds_toArray, List.set_cons_zero, List.set_cons_succ]
          apply ag.walk_val
          · rfl
          · intro W1 hS hE
            obtain ⟨h0, h1, hl⟩ := H5.out W1 hS
            clear hS hE
            unfold ag.does
            go_simp
            first | done | exact ⟨rfl, rfl⟩ | rfl | (exact ⟨by go_num, rfl⟩) | (simp; done) | trace_state
          simp only [Act.put, List.setIfInBounds_toArray, List.set_cons_zero, List.set_cons_succ]
          apply ag.walk_val
          · rfl
          · intro W1 hS hE
            clear hS hE
            unfold ag.does
            go_simp
            first | done | exact ⟨rfl, rfl⟩ | rfl | (exact ⟨by go_num, rfl⟩) | (simp; done) | trace_state
          simp only [Act.put, List.setIfInBounds_toArray, List.set_cons_zero, List.set_cons_succ]
          apply ag.walk_val
          · rfl
          · intro W1 hS hE
            clear hS hE
            unfold ag.does
            go_simp
            first | done | exact ⟨rfl, rfl⟩ | rfl | (exact ⟨by go_num, rfl⟩) | (simp; done) | trace_state
          simp only [Act.put, List.setIfInBounds_toArray, List.set_cons_zero, List.set_cons_succ]
          apply ag.walk_val
          · rfl
          · intro W1 hS hE
            obtain ⟨x0, x1, x2, x3, x4, x5, x6, x7, x8, xl⟩ := HXO.out W1 hS
            clear hS hE
            unfold ag.does
            go_simp
            first | done | exact ⟨rfl, rfl⟩ | rfl | (exact ⟨by go_num, rfl⟩) | (simp; done) | trace_state
          simp only [Act.put, List.setIfInBounds_toArray, List.set_cons_zero, List.set_cons_succ]
          apply ag.walk_val
          · rfl
          · intro W1 hS hE
            obtain ⟨y0, y1, y2, y3, y4, y5, y6, y7, y8, yl⟩ := HY.out W1 hS
            clear hS hE
            unfold ag.does
            go_simp
            first | done | exact ⟨rfl, rfl⟩ | rfl | (exact ⟨by go_num, rfl⟩) | (simp; done) | trace_state
          simp only [Act.put, List.setIfInBounds_toArray, List.set_cons_zero, List.set_cons_succ]
          refine ag.walk_such (by rfl) (fun W1 hS hE => ?_) (fun y9 => ?_)
          · have hk := HBO.out W1
            clear hE
            unfold ag.does
            go_simp
            first | done | (exact hk.mono (fun e w' h => ⟨_, h.1, rfl, h.2⟩))
          simp only [Act.put, List.setIfInBounds_toArray, List.set_cons_zero, List.set_cons_succ]
          apply ag.walk_val
          · rfl
          · intro W1 hS hE
            clear hS hE
            unfold ag.does
            go_simp
            first | done | exact ⟨rfl, rfl⟩ | rfl | (exact ⟨by go_num, rfl⟩) | (simp; done) | trace_state
          simp only [Act.put, List.setIfInBounds_toArray, List.set_cons_zero, List.set_cons_succ]
          refine ag.walk_nil (fun w10 hS hF hP => ?_)
          clear hP
          have f9 := hF.of 9
          simp only [ag.lookE, Nat.reduceEqDiff, if_false, if_true] at f9
          subst f9
          obtain ⟨x0, x1, x2, x3, x4, x5, x6, x7, x8, xl⟩ := HXO.out w10 hS
          obtain ⟨gq, eq, -, -, hcz, hfz⟩ := HFZ.out w10 hS
          simp only [Option.some.injEq, Addr.mk.injEq, and_true] at eq
          subst eq
          have u0 := hfz (j * 9)
          have u1 := hfz (j * 9 + 1)
          have u2 := hfz (j * 9 + 2)
          have u3 := hfz (j * 9 + 3)
          have u4 := hfz (j * 9 + 4)
          have u5 := hfz (j * 9 + 5)
          have u6 := hfz (j * 9 + 6)
          have u7 := hfz (j * 9 + 7)
          have u8 := hfz (j * 9 + 8)
          have hst := (HP9.out.later hS).stored hjm HCL.out ⟨zn, zs, ⟨zk, zm, zt⟩, ⟨za, zb, zc⟩⟩
          rw [HCS.out] at hst
          have HST := Lib.hid hst
          clear hcz hfz hF hS hst
          go_upto_region 10 with fail
          obtain ⟨W11, hW11⟩ : ∃ W, (((((((((w10.setCell ⟨gp, j * 9, none⟩ (.int .i64 zn)).setCell ⟨gp, j * 9 + 1, none⟩ (.int .i64 (wide.hiW zs))).setCell ⟨gp, j * 9 + 2, none⟩ (.int .u64 (wide.loW zs))).setCell ⟨gp, j * 9 + 3, none⟩ (.int .i64 zk)).setCell ⟨gp, j * 9 + 4, none⟩ (.int .i64 zm)).setCell ⟨gp, j * 9 + 5, none⟩ (.string zt)).setCell ⟨gp, j * 9 + 6, none⟩ (.int .i64 za)).setCell ⟨gp, j * 9 + 7, none⟩ (.int .i64 zb)).setCell ⟨gp, j * 9 + 8, none⟩ (.string zc)) = W := ⟨_, rfl⟩
          rw [hW11] at HST ⊢
          clear hW11 x0 x1 x2 x3 x4 x5 x6 x7 x8 xl u0 u1 u2 u3 u4 u5 u6 u7 u8
          go_wp2_with fail
          go_roundw
          case rel => exact ⟨j + 1, by go_num, by omega, HST⟩
          case measure => simp [intOf]; omega
        · have dj : ¬ (j : Int) < (m : Int) := by omega
          have ej : j = m := by omega
          subst ej
          have he := HQ.out
          rw [List.take_of_length_le (by rw [step_len HLA.out HLB.out]; omega), List.drop_of_length_le (by rw [step_len HLA.out HLB.out]; omega), List.append_nil] at he
          have HE := Lib.hid he
          clear he
          clear hjm
          go_wp2_with fail
          go_roundw
          case rel => exact ⟨0 + 1, by go_num, by decide, HE⟩
          case measure => simp [intOf]
    · have t0 := HP.out.f26.cell 2; have t1 := HP.out.f26.cell 3; have tl := HP.out.f26.lt
      simp only [List.getElem?_cons_zero, List.getElem?_cons_succ] at t0 t1
      go_upto_region 6 with fail
      obtain ⟨W8, hW8⟩ : ∃ W, wr.alloc (.cells #[.int .i64 rb, .slice ab m cb] TPt) = W := ⟨_, rfl⟩
      obtain ⟨g7, hg7⟩ : ∃ g, wr.heap.size = g := ⟨_, rfl⟩
      have hb8 : Below wr.heap.size wr W8 := by rw [← hW8]; exact (Below.refl _ _).alloc (Nat.le_refl _) _
      have hf8 : Flds W8 g7 TPt [.int .i64 rb, .slice ab m cb] := by rw [← hW8, ← hg7]; exact Flds.new wr _ _
      have HP8 := Lib.hid (HP.out.later hb8)
      rw [hW8, hg7]
      have v0 := hf8.cell 0; have v1 := hf8.cell 1; have vl := hf8.lt
      simp only [List.getElem?_cons_zero, List.getElem?_cons_succ] at v0 v1
      clear hW8 hg7 hb8 hf8 t0 t1 tl HP
      go_wp2_with fail
      clear v0 v1 vl
      go_loopw [35] (fun jv wq => ∃ j : Nat, jv = .int .i64 (j : Int) ∧ j ≤ m ∧ Hid (PlS w gp g5 g4 g26 m (ra + rb) ra rb (.slice aa m ca) (.slice ab m cb) ((stepL m la lb (1 + 1)).take j ++ (stepL m la lb 1).drop j) wq)) (fun jv _ => m - (intOf jv).toNat)
      case atStart => exact ⟨0, rfl, Nat.zero_le _, Lib.hid (by simpa using HP8.out)⟩
      case round =>
        obtain ⟨j, rfl, hj, HQ⟩ := hrel
        have j0 : (0 : Int) ≤ (j : Int) := by omega
        by_cases hjm : j < m
        · have dj : (j : Int) < (m : Int) := by omega
          have hs0 := step_len HLA.out HLB.out 1
          have hs1 := step_len HLA.out HLB.out (1 + 1)
          have hfl := from_len HLA.out HLB.out 1
          have hx := List.getElem?_eq_getElem (show j < (stepL m la lb 1).length by omega)
          generalize (stepL m la lb 1)[j] = x at hx
          have hy := List.getElem?_eq_getElem (show j < (fromL la lb 1).length by omega)
          generalize (fromL la lb 1)[j] = y at hy
          have hz := step_at HLA.out HLB.out (by decide) hjm hx hy
          have hcx : ((stepL m la lb (1 + 1)).take j ++ (stepL m la lb 1).drop j)[j]? = some x := by rw [cur_at hs0 hs1 hjm]; exact hx
          have hnx : inR (x.n + y.n) := (HN.out j x y hx hy).2
          obtain ⟨b8, off8, ea, hcy⟩ := on_at HRB.out hjm (show lb[j]? = some y from hy)
          subst ea
          obtain ⟨f0, f1, f2, f3, f4, f5, f6, f7, f8, fl⟩ := hcy _ HQ.out.bel
          have HCS := Lib.hid (cur_set hs0 hs1 hjm hz)
          have HCL := Lib.hid (show ((stepL m la lb (1 + 1)).take j ++ (stepL m la lb 1).drop j).length = m by rw [List.length_append, List.length_take, List.length_drop]; omega)
          have HCX := Lib.hid hcx
          have HBO := Lib.hid (fun W => both_any x y hnx W)
          clear hcx hx hy hz hcy hs0 hs1 hfl hnx
          generalize (stepL m la lb (1 + 1)).take j ++ (stepL m la lb 1).drop j = cur at HQ HCS HCL HCX
          obtain ⟨xn, xs, ⟨xk, xm, xt⟩, ⟨xa, xb, xc⟩⟩ := x
          obtain ⟨yn, ys, ⟨yk, ym, yt⟩, ⟨ya, yb, yc⟩⟩ := y
          dsimp only at f0 f1 f2 f3 f4 f5 f6 f7 f8
          go_upto_region 9 with fail
          obtain ⟨W9, hW9⟩ : ∃ W, wr.alloc (.cells #[.int .i64 yn, .int .i64 (wide.hiW ys), .int .u64 (wide.loW ys), .int .i64 yk, .int .i64 ym, .string yt, .int .i64 ya, .int .i64 yb, .string yc] TOn) = W := ⟨_, rfl⟩
          obtain ⟨g9, hg9⟩ : ∃ g, wr.heap.size = g := ⟨_, rfl⟩
          have hb9 : Below wr.heap.size wr W9 := by rw [← hW9]; exact (Below.refl _ _).alloc (Nat.le_refl _) _
          have hf9 : Flds W9 g9 TOn [.int .i64 yn, .int .i64 (wide.hiW ys), .int .u64 (wide.loW ys), .int .i64 yk, .int .i64 ym, .string yt, .int .i64 ya, .int .i64 yb, .string yc] := by rw [← hW9, ← hg9]; exact Flds.new wr _ _
          have HP9 := Lib.hid (HQ.out.later hb9)
          have HY := Lib.hid (fun (W : World) (hb : Below W9.heap.size W9 W) => And.intro ((hf9.later hb).cell 0) (And.intro ((hf9.later hb).cell 1) (And.intro ((hf9.later hb).cell 2) (And.intro ((hf9.later hb).cell 3) (And.intro ((hf9.later hb).cell 4) (And.intro ((hf9.later hb).cell 5) (And.intro ((hf9.later hb).cell 6) (And.intro ((hf9.later hb).cell 7) (And.intro ((hf9.later hb).cell 8) ((hf9.later hb).lt))))))))))
          have H5 := Lib.hid (fun (W : World) (hb : Below W9.heap.size W9 W) => And.intro ((HP9.out.later hb).f5.cell 0) (And.intro ((HP9.out.later hb).f5.cell 1) (HP9.out.later hb).f5.lt))
          simp only [List.getElem?_cons_zero, List.getElem?_cons_succ] at HY H5
          obtain ⟨bo, fo, eo, hco⟩ := on_at (Row.of_owns HP9.out.own) hjm HCX.out
          simp only [Option.some.injEq, Addr.mk.injEq, and_true] at eo
          obtain ⟨rfl, rfl⟩ := eo
          simp only [Nat.zero_add] at hco
          have HXO := Lib.hid hco
          have HGP := Lib.hid (fun (W : World) (hb : Below W9.heap.size W9 W) => (HP9.out.later hb).own.lt gp rfl)
          have HFZ := Lib.hid (fun (W : World) (hb : Below W9.heap.size W9 W) => owns_cellAt (HP9.out.later hb).own (by omega))
          rw [hW9, hg9]
          clear hW9 hg9 hb9 hf9 hco HQ HCX f0 f1 f2 f3 f4 f5 f6 f7 f8 fl
          obtain ⟨z, hz⟩ : ∃ z, both ⟨xn, xs, ⟨xk, xm, xt⟩, ⟨xa, xb, xc⟩⟩ ⟨yn, ys, ⟨yk, ym, yt⟩, ⟨ya, yb, yc⟩⟩ = z := ⟨_, rfl⟩
          unfold BothPost at HBO
          rw [hz] at HCS HBO
          clear hz
          obtain ⟨zn, zs, ⟨zk, zm, zt⟩, ⟨za, zb, zc⟩⟩ := z
          simp only [oV] at HBO
          apply ag.region_calm_tail 11 (ag.Spec.val _ :: ag.Spec.val _ :: ag.Spec.val _ :: ag.Spec.val _ :: ag.Spec.val _ :: ag.Spec.val _ :: ag.Spec.val _ :: ag.Spec.val _ :: ag.Spec.val _ :: ag.Spec.sat (fun v _ => v = .agg #[.int .i64 zn, .int .i64 (wide.hiW zs), .int .u64 (wide.loW zs), .int .i64 zk, .int .i64 zm, .string zt, .int .i64 za, .int .i64 zb, .string zc]) ag.grew :: ag.Spec.val _ :: [])
          case hm => kernel_rfl
          case hB => kernel_rfl
          case hlen => rfl
          case hc => exact ⟨⟨ag.lasts_eq _, rfl⟩, trivial⟩
          simp only [List.take_succ_cons, List.take_zero, List.drop_succ_cons, List.drop_zero]
          apply ag.walk_val
          · rfl
          · intro W1 hS hE
            clear hS hE
            unfold ag.does
            go_simp
            first | done | exact ⟨rfl, rfl⟩ | rfl | (exact ⟨by go_num, rfl⟩) | (simp; done) | trace_state
          simp only [Act.put, List.setIfInBounds_toArray, List.set_cons_zero, List.set_cons_succ]
          apply ag.walk_val
          · rfl
          · intro W1 hS hE
            obtain ⟨h0, h1, hl⟩ := H5.out W1 hS
            clear hS hE
            unfold ag.does
            go_simp
            first | done | exact ⟨rfl, rfl⟩ | rfl | (exact ⟨by go_num, rfl⟩) | (simp; done) | trace_state
          simp only [Act.put, List.setIfInBounds_toArray, List.set_cons_zero, List.set_cons_succ]
          apply ag.walk_val
          · rfl
          · intro W1 hS hE
            clear hS hE
            unfold ag.does
            go_simp
            first | done | exact ⟨rfl, rfl⟩ | rfl | (exact ⟨by go_num, rfl⟩) | (simp; done) | trace_state
          simp only [Act.put, List.setIfInBounds_toArray, List.set_cons_zero, List.set_cons_succ]
          apply ag.walk_val
          · rfl
          · intro W1 hS hE
            clear hS hE
            unfold ag.does
            go_simp
            first | done | exact ⟨rfl, rfl⟩ | rfl | (exact ⟨by go_num, rfl⟩) | (simp; done) | trace_state
          simp only [Act.put, List.setIfInBounds_toArray, List.set_cons_zero, List.set_cons_succ]
          apply ag.walk_val
          · rfl
          · intro W1 hS hE
            obtain ⟨h0, h1, hl⟩ := H5.out W1 hS
            clear hS hE
            unfold ag.does
            go_simp
            first | done | exact ⟨rfl, rfl⟩ | rfl | (exact ⟨by go_num, rfl⟩) | (simp; done) | trace_state
          simp only [Act.put, List.setIfInBounds_toArray, List.set_cons_zero, List.set_cons_succ]
          apply ag.walk_val
          · rfl
          · intro W1 hS hE
            clear hS hE
            unfold ag.does
            go_simp
            first | done | exact ⟨rfl, rfl⟩ | rfl | (exact ⟨by go_num, rfl⟩) | (simp; done) | trace_state
          simp only [Act.put, List.setIfInBounds_toArray, List.set_cons_zero, List.set_cons_succ]
          apply ag.walk_val
          · rfl
          · intro W1 hS hE
            clear hS hE
            unfold ag.does
            go_simp
            first | done | exact ⟨rfl, rfl⟩ | rfl | (exact ⟨by go_num, rfl⟩) | (simp; done) | trace_state
          simp only [Act.put, List.setIfInBounds_toArray, List.set_cons_zero, List.set_cons_succ]
          apply ag.walk_val
          · rfl
          · intro W1 hS hE
            obtain ⟨x0, x1, x2, x3, x4, x5, x6, x7, x8, xl⟩ := HXO.out W1 hS
            clear hS hE
            unfold ag.does
            go_simp
            first | done | exact ⟨rfl, rfl⟩ | rfl | (exact ⟨by go_num, rfl⟩) | (simp; done) | trace_state
          simp only [Act.put, List.setIfInBounds_toArray, List.set_cons_zero, List.set_cons_succ]
          apply ag.walk_val
          · rfl
          · intro W1 hS hE
            obtain ⟨y0, y1, y2, y3, y4, y5, y6, y7, y8, yl⟩ := HY.out W1 hS
            clear hS hE
            unfold ag.does
            go_simp
            first | done | exact ⟨rfl, rfl⟩ | rfl | (exact ⟨by go_num, rfl⟩) | (simp; done) | trace_state
          simp only [Act.put, List.setIfInBounds_toArray, List.set_cons_zero, List.set_cons_succ]
          refine ag.walk_such (by rfl) (fun W1 hS hE => ?_) (fun y9 => ?_)
          · have hk := HBO.out W1
            clear hE
            unfold ag.does
            go_simp
            first | done | (exact hk.mono (fun e w' h => ⟨_, h.1, rfl, h.2⟩))
          simp only [Act.put, List.setIfInBounds_toArray, List.set_cons_zero, List.set_cons_succ]
          apply ag.walk_val
          · rfl
          · intro W1 hS hE
            clear hS hE
            unfold ag.does
            go_simp
            first | done | exact ⟨rfl, rfl⟩ | rfl | (exact ⟨by go_num, rfl⟩) | (simp; done) | trace_state
          simp only [Act.put, List.setIfInBounds_toArray, List.set_cons_zero, List.set_cons_succ]
          refine ag.walk_nil (fun w10 hS hF hP => ?_)
          clear hP
          have f9 := hF.of 9
          simp only [ag.lookE, Nat.reduceEqDiff, if_false, if_true] at f9
          subst f9
          obtain ⟨x0, x1, x2, x3, x4, x5, x6, x7, x8, xl⟩ := HXO.out w10 hS
          obtain ⟨gq, eq, -, -, hcz, hfz⟩ := HFZ.out w10 hS
          simp only [Option.some.injEq, Addr.mk.injEq, and_true] at eq
          subst eq
          have u0 := hfz (j * 9)
          have u1 := hfz (j * 9 + 1)
          have u2 := hfz (j * 9 + 2)
          have u3 := hfz (j * 9 + 3)
          have u4 := hfz (j * 9 + 4)
          have u5 := hfz (j * 9 + 5)
          have u6 := hfz (j * 9 + 6)
          have u7 := hfz (j * 9 + 7)
          have u8 := hfz (j * 9 + 8)
          have hst := (HP9.out.later hS).stored hjm HCL.out ⟨zn, zs, ⟨zk, zm, zt⟩, ⟨za, zb, zc⟩⟩
          rw [HCS.out] at hst
          have HST := Lib.hid hst
          clear hcz hfz hF hS hst
          go_upto_region 10 with fail
          obtain ⟨W11, hW11⟩ : ∃ W, (((((((((w10.setCell ⟨gp, j * 9, none⟩ (.int .i64 zn)).setCell ⟨gp, j * 9 + 1, none⟩ (.int .i64 (wide.hiW zs))).setCell ⟨gp, j * 9 + 2, none⟩ (.int .u64 (wide.loW zs))).setCell ⟨gp, j * 9 + 3, none⟩ (.int .i64 zk)).setCell ⟨gp, j * 9 + 4, none⟩ (.int .i64 zm)).setCell ⟨gp, j * 9 + 5, none⟩ (.string zt)).setCell ⟨gp, j * 9 + 6, none⟩ (.int .i64 za)).setCell ⟨gp, j * 9 + 7, none⟩ (.int .i64 zb)).setCell ⟨gp, j * 9 + 8, none⟩ (.string zc)) = W := ⟨_, rfl⟩
          rw [hW11] at HST ⊢
          clear hW11 x0 x1 x2 x3 x4 x5 x6 x7 x8 xl u0 u1 u2 u3 u4 u5 u6 u7 u8
          go_wp2_with fail
          go_roundw
          case rel => exact ⟨j + 1, by go_num, by omega, HST⟩
          case measure => simp [intOf]; omega
        · have dj : ¬ (j : Int) < (m : Int) := by omega
          have ej : j = m := by omega
          subst ej
          have he := HQ.out
          rw [List.take_of_length_le (by rw [step_len HLA.out HLB.out]; omega), List.drop_of_length_le (by rw [step_len HLA.out HLB.out]; omega), List.append_nil] at he
          have HE := Lib.hid he
          clear he
          clear hjm
          go_wp2_with fail
          go_roundw
          case rel => exact ⟨1 + 1, by go_num, by decide, HE⟩
          case measure => simp [intOf]
    · have HZ := Lib.hid (show stepL m la lb 2 = List.zipWith both la lb from rfl)
      have hzl : (List.zipWith both la lb).length = m := by rw [List.length_zipWith, HLA.out, HLB.out]; omega
      have t0 := HP.out.f5.cell 0; have t1 := HP.out.f5.cell 1; have tl := HP.out.f5.lt
      have v0 := HP.out.f4.cell 0; have v1 := HP.out.f4.cell 1; have vl := HP.out.f4.lt; have u0 := HP.out.f4.frozen 0; have u1 := HP.out.f4.frozen 1
      simp only [List.getElem?_cons_zero, List.getElem?_cons_succ] at t0 t1 v0 v1
      have HZL := Lib.hid hzl
      clear hzl
      go_wp2_with fail
      obtain ⟨hf9, hg9⟩ := box2 (x := .int .i64 (ra + rb)) (y := .slice (some ⟨gp, 0, none⟩) m m) HP.out.f4
      obtain ⟨W9, hW9⟩ : ∃ W, (wr.setCell ⟨g4, 0, none⟩ (.int .i64 (ra + rb))).setCell ⟨g4, 1, none⟩ (.slice (some ⟨gp, 0, none⟩) m m) = W := ⟨_, rfl⟩
      rw [hW9] at hf9 hg9 ⊢
      have c0 := hf9.cell 0; have c1 := hf9.cell 1; have cl := hf9.lt
      simp only [List.getElem?_cons_zero, List.getElem?_cons_succ] at c0 c1
      refine bodyPost_ret (v := .agg #[.int .i64 (ra + rb), .slice (some ⟨gp, 0, none⟩) m m]) ?_ (by rfl) ?_
      · simp only [results, Try.results16]
        go_simp
      · have ho := HP.out.own.kept hg9 (.inr (owns_ne_obj HP.out.own HP.out.f4 (by decide)))
        rw [HZ.out] at ho
        refine ⟨gp, by rw [HZL.out], ?_, HP.out.bel.grown hg9 HP.out.bel.size (fun j e => by cases e; exact HG.out)⟩
        rw [HZL.out]
        exact Row.of_owns ho
end Go.Proofs.Ytmbafcfoboknkaa.agr
