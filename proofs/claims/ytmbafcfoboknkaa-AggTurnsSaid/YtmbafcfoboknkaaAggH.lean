/- A row of a group, told; walked. -/
import Derived.Test.YtmbafcfoboknkaaAggG
import Derived.Test.YtmbafcfoboknkaaAggE
namespace Go.Proofs.Ytmbafcfoboknkaa.agr
set_option linter.unusedVariables false
open Go.RowKit val
abbrev TRv : TypeId := 72
abbrev TDr : TypeId := 38
/-- a region that writes a box: what the box holds begins with a slice; of what was there nothing else turns -/
def TS2 (g2 : Nat) (W9 W : World) : Prop := (∃ (a : Option Addr) (n c : Nat) (c1 c2 : Value), Flds W g2 TGr [.slice a n c, c1, c2]) ∧ Only (fun k => k = g2) W9 W
def T15 (g2 : Nat) : (Nat → Value) → World → World → Prop := fun _ W W' => Only (fun k => k = g2) W W' ∧ ∃ (a : Option Addr) (n c : Nat) (c1 c2 : Value), Flds W' g2 TGr [.slice a n c, c1, c2]
theorem TS2.grew {g2 : Nat} {W9 W W' : World} {f : Nat → Value} (h : TS2 g2 W9 W) (hb : ag.grew f W W') : TS2 g2 W9 W' := by
  obtain ⟨⟨a, n, c, c1, c2, hf⟩, ho⟩ := h
  exact ⟨⟨a, n, c, c1, c2, hf.later hb⟩, ho.trans (Only.of_below (own := fun k => k = g2) hb) (fun k _ h => h)⟩
theorem TS2.drew {g2 : Nat} {W9 W : World} (h : TS2 g2 W9 W) : TS2 g2 W9 W.drew := TS2.grew (f := fun _ => .int .i64 0) h ((Below.refl W.heap.size W).drew)
theorem TS2.app {g2 : Nat} {W9 W W' : World} {f : Nat → Value} (h : TS2 g2 W9 W) (ht : T15 g2 f W W') : TS2 g2 W9 W' := ⟨ht.2, h.2.trans ht.1 (fun k _ h => h)⟩
theorem row_only0 {T : TypeId} {rest : List Value} {a : Option Addr} {n c : Nat} {g2 g k sz : Nat} {W W' : World} {xs : List Value} {q : IntKind} {z : Int} (hf : Flds W g2 T (.slice a n c :: rest)) (hr : Row W (.slice (some ⟨g, 0, none⟩) k k) sz k xs) (h0 : xs[0]? = some (.int q z)) (ho : Only (fun k => k = g2) W W') : Row W' (.slice (some ⟨g, 0, none⟩) k k) sz k xs := by
  refine hr.only ho (fun b hb => ?_)
  simp only [Value.ownBlock, Option.some.injEq] at hb
  subst hb
  rintro rfl
  obtain ⟨a', cap', e, hl, h⟩ := hr
  rcases h with rfl | ⟨b, off, ea, hc⟩
  · rw [Nat.zero_mul] at hl
    rw [List.length_eq_zero_iff.1 hl] at h0; cases h0
  · simp only [Value.slice.injEq] at e
    rw [← e.1] at ea
    simp only [Option.some.injEq, Addr.mk.injEq, and_true] at ea
    obtain ⟨rfl, rfl⟩ := ea
    have hpos : 0 < k * sz := by rw [← hl]; have := (List.getElem?_eq_some_iff.1 h0).1; omega
    have h1 := hc 0 hpos
    rw [h0, hf.cell] at h1
    simp at h1
theorem row_only {g2 g k sz : Nat} {W9 W W' : World} {xs : List Value} {q : IntKind} {z : Int} (hs : TS2 g2 W9 W) (hr : Row W (.slice (some ⟨g, 0, none⟩) k k) sz k xs) (h0 : xs[0]? = some (.int q z)) (ho : Only (fun k => k = g2) W W') : Row W' (.slice (some ⟨g, 0, none⟩) k k) sz k xs := by
  obtain ⟨⟨a, n, c, c1, c2, hf⟩, -⟩ := hs
  exact row_only0 hf hr h0 ho
def RV3 (k : Nat) (cs : List Value) : Value → World → Prop := fun v W => ∃ g, v = .slice (some ⟨g, 0, none⟩) k k ∧ Row W (.slice (some ⟨g, 0, none⟩) k k) 3 k cs
theorem RV3.lasts {k : Nat} {cs : List Value} : ag.Lasts (RV3 k cs) := fun v w w' h hb => by
  obtain ⟨g, h1, h2⟩ := h
  exact ⟨g, h1, h2.later hb⟩
theorem RV3.only {k g2 : Nat} {W9 W W' : World} {cs : List Value} {v : Value} {q : IntKind} {z : Int} {f : Nat → Value} (hs : TS2 g2 W9 W) (h : RV3 k (.int q z :: cs) v W) (ht : T15 g2 f W W') : RV3 k (.int q z :: cs) v W' := by
  obtain ⟨g, h1, h2⟩ := h
  exact ⟨g, h1, row_only hs h2 rfl ht.1⟩
def PtV (l : List On) : Value → World → Prop := fun v W => ∃ g, v = .agg #[.int .i64 1, .slice (some ⟨g, 0, none⟩) 2 2] ∧ Row W (.slice (some ⟨g, 0, none⟩) 2 2) 9 2 (oCells l)
theorem PtV.lasts {l : List On} : ag.Lasts (PtV l) := fun v w w' h hb => by
  obtain ⟨g, h1, h2⟩ := h
  exact ⟨g, h1, h2.later hb⟩
theorem PtV.only {g2 : Nat} {W9 W W' : World} {o : On} {l : List On} {v : Value} {f : Nat → Value} (hs : TS2 g2 W9 W) (h : PtV (o :: l) v W) (ht : T15 g2 f W W') : PtV (o :: l) v W' := by
  obtain ⟨g, h1, h2⟩ := h
  exact ⟨g, h1, row_only hs h2 (by rw [oCells_cons]; rfl) ht.1⟩
/-- a group and its row, as an argument -/
def G2V (G : Int) (l : List On) : Value → World → Prop := fun v W => ∃ g g', v = .agg #[.slice (some ⟨g, 0, none⟩) 1 1, .int .i64 1, .slice (some ⟨g', 0, none⟩) 2 2] ∧ Row W (.slice (some ⟨g, 0, none⟩) 1 1) 3 1 [.int .i64 2, .int .i64 G, .string ⟨#[]⟩] ∧ Row W (.slice (some ⟨g', 0, none⟩) 2 2) 9 2 (oCells l)
theorem G2V.lasts {G : Int} {l : List On} : ag.Lasts (G2V G l) := fun v w w' h hb => by
  obtain ⟨g, g', h1, h2, h3⟩ := h
  exact ⟨g, g', h1, h2.later hb, h3.later hb⟩
theorem G2V.only {g2 : Nat} {W9 W W' : World} {G : Int} {o : On} {l : List On} {v : Value} {f : Nat → Value} (hs : TS2 g2 W9 W) (h : G2V G (o :: l) v W) (ht : T15 g2 f W W') : G2V G (o :: l) v W' := by
  obtain ⟨g, g', h1, h2, h3⟩ := h
  exact ⟨g, g', h1, row_only hs h2 rfl ht.1, row_only hs h3 (by rw [oCells_cons]; rfl) ht.1⟩
def D2V (G : Int) (cs : List Value) : Value → World → Prop := fun v W => ∃ g g', v = .agg #[.slice (some ⟨g, 0, none⟩) 1 1, .slice (some ⟨g', 0, none⟩) 2 2] ∧ Row W (.slice (some ⟨g, 0, none⟩) 1 1) 3 1 [.int .i64 2, .int .i64 G, .string ⟨#[]⟩] ∧ Row W (.slice (some ⟨g', 0, none⟩) 2 2) 3 2 cs
theorem D2V.lasts {G : Int} {cs : List Value} : ag.Lasts (D2V G cs) := fun v w w' h hb => by
  obtain ⟨g, g', h1, h2, h3⟩ := h
  exact ⟨g, g', h1, h2.later hb, h3.later hb⟩
theorem D2V.only {g2 : Nat} {W9 W W' : World} {G : Int} {cs : List Value} {v : Value} {q : IntKind} {z : Int} {f : Nat → Value} (hs : TS2 g2 W9 W) (h : D2V G (.int q z :: cs) v W) (ht : T15 g2 f W W') : D2V G (.int q z :: cs) v W' := by
  obtain ⟨g, g', h1, h2, h3⟩ := h
  exact ⟨g, g', h1, row_only hs h2 rfl ht.1, row_only hs h3 rfl ht.1⟩
/-- the group in its box -/
def B2V (g2 : Nat) (G : Int) (l : List On) : Value → World → Prop := fun _ W => ∃ g g', Flds W g2 TGr [.slice (some ⟨g, 0, none⟩) 1 1, .int .i64 1, .slice (some ⟨g', 0, none⟩) 2 2] ∧ Row W (.slice (some ⟨g, 0, none⟩) 1 1) 3 1 [.int .i64 2, .int .i64 G, .string ⟨#[]⟩] ∧ Row W (.slice (some ⟨g', 0, none⟩) 2 2) 9 2 (oCells l)
theorem B2V.lasts {g2 : Nat} {G : Int} {l : List On} : ag.Lasts (B2V g2 G l) := fun v w w' h hb => by
  obtain ⟨g, g', h1, h2, h3⟩ := h
  exact ⟨g, g', h1.later hb, h2.later hb, h3.later hb⟩
theorem only_set (W : World) (g2 : Nat) (x y z : Value) : Only (fun k => k = g2) W (((W.setCell ⟨g2, 0, none⟩ x).setCell ⟨g2, 1, none⟩ y).setCell ⟨g2, 2, none⟩ z) := by
  have h := Only.refl (fun k => k = g2) W
  exact ((h.setCell ⟨g2, 0, none⟩ x (fun _ => rfl)).setCell ⟨g2, 1, none⟩ y (fun _ => rfl)).setCell ⟨g2, 2, none⟩ z (fun _ => rfl)
theorem only_set2 (W : World) (g2 : Nat) (x y : Value) : Only (fun k => k = g2) W ((W.setCell ⟨g2, 0, none⟩ x).setCell ⟨g2, 1, none⟩ y) := by
  have h := Only.refl (fun k => k = g2) W
  exact (h.setCell ⟨g2, 0, none⟩ x (fun _ => rfl)).setCell ⟨g2, 1, none⟩ y (fun _ => rfl)
theorem b2v_set {g2 ga gb : Nat} {W9 W : World} {G : Int} {o : On} {l : List On} {p q r v : Value} (hs : TS2 g2 W9 W) (hf : Flds W g2 TGr [p, q, r]) (r1 : Row W (.slice (some ⟨ga, 0, none⟩) 1 1) 3 1 [.int .i64 2, .int .i64 G, .string ⟨#[]⟩]) (r2 : Row W (.slice (some ⟨gb, 0, none⟩) 2 2) 9 2 (oCells (o :: l))) :
    B2V g2 G (o :: l) v (((W.setCell ⟨g2, 0, none⟩ (.slice (some ⟨ga, 0, none⟩) 1 1)).setCell ⟨g2, 1, none⟩ (.int .i64 1)).setCell ⟨g2, 2, none⟩ (.slice (some ⟨gb, 0, none⟩) 2 2)) :=
  ⟨ga, gb, ((hf.set 0 _).set 1 _).set 2 _, row_only hs r1 rfl (only_set _ _ _ _ _), row_only hs r2 (by rw [oCells_cons]; rfl) (only_set _ _ _ _ _)⟩
theorem t15_set {g2 n c : Nat} {W : World} {a : Option Addr} {p q r y z : Value} {f : Nat → Value} (hf : Flds W g2 TGr [p, q, r]) : T15 g2 f W (((W.setCell ⟨g2, 0, none⟩ (.slice a n c)).setCell ⟨g2, 1, none⟩ y).setCell ⟨g2, 2, none⟩ z) :=
  ⟨only_set _ _ _ _ _, a, n, c, y, z, ((hf.set 0 _).set 1 _).set 2 _⟩
def GrV (row : List V) (l : List On) : Value → World → Prop := fun v W => ∃ g g', v = .agg #[.slice (some ⟨g, 0, none⟩) row.length row.length, .int .i64 1, .slice (some ⟨g', 0, none⟩) l.length l.length] ∧ Row W (.slice (some ⟨g, 0, none⟩) row.length row.length) 3 row.length (vCells row) ∧ Row W (.slice (some ⟨g', 0, none⟩) l.length l.length) 9 l.length (oCells l)
theorem GrV.lasts {row : List V} {l : List On} : ag.Lasts (GrV row l) := fun v w w' h hb => by
  obtain ⟨g, g', h1, h2, h3⟩ := h
  exact ⟨g, g', h1, h2.later hb, h3.later hb⟩
def DrV (row vals : List V) : Value → World → Prop := fun v W => ∃ g g', v = .agg #[.slice (some ⟨g, 0, none⟩) row.length row.length, .slice (some ⟨g', 0, none⟩) vals.length vals.length] ∧ Row W (.slice (some ⟨g, 0, none⟩) row.length row.length) 3 row.length (vCells row) ∧ Row W (.slice (some ⟨g', 0, none⟩) vals.length vals.length) 3 vals.length (vCells vals)
theorem DrV.lasts {row vals : List V} : ag.Lasts (DrV row vals) := fun v w w' h hb => by
  obtain ⟨g, g', h1, h2, h3⟩ := h
  exact ⟨g, g', h1, h2.later hb, h3.later hb⟩
theorem good_n {v : V} (h : val.Good v) (hk : v.k = 2) : inR v.n := by
  rcases h with h | h | h | h
  · omega
  · omega
  · exact h.2.2
  · omega
def rowV (g : Int) : List V := [⟨2, g % 4, ⟨#[]⟩⟩]
def valsV (x : Rw) : List V := [ofV x.ak x.an x.ta, ofV x.bk x.bn x.tb]
def ToldPost (x : Rw) (w : World) (e : Ending) (w' : World) : Prop := ∃ v d, e = .returned (.tuple #[v, d]) ∧ GrV (rowV x.g) ((valsV x).map oneOf) v w' ∧ DrV (rowV x.g) (valsV x) d w' ∧ Below w.heap.size w w'
set_option maxRecDepth 100000 in
set_option maxHeartbeats 4000000 in
theorem told_any (x : Rw) (hx : RB x) (w : World) : Calls Try.prog 6 #[.agg #[.int .u8 x.g, .int .u8 x.ak, .int .i64 x.an, .string x.ta, .int .u8 x.bk, .int .i64 x.bn, .string x.tb]] w (ToldPost x w) := by
  obtain ⟨⟨h1, h2⟩, h3, h4, h5, h6, h7, h8⟩ := hx
  obtain ⟨W1, hW1⟩ : ∃ W, w.alloc (.cells #[.int .u8 x.g, .int .u8 x.ak, .int .i64 x.an, .string x.ta, .int .u8 x.bk, .int .i64 x.bn, .string x.tb] 44) = W := ⟨_, rfl⟩
  obtain ⟨g1, hg1⟩ : ∃ g, w.heap.size = g := ⟨_, rfl⟩
  have hb1 : Below w.heap.size w W1 := by rw [← hW1]; exact (Below.refl _ _).alloc (Nat.le_refl _) _
  have hf1 : Flds W1 g1 44 [.int .u8 x.g, .int .u8 x.ak, .int .i64 x.an, .string x.ta, .int .u8 x.bk, .int .i64 x.bn, .string x.tb] := by rw [← hW1, ← hg1]; exact Flds.new w _ _
  obtain ⟨W2, hW2⟩ : ∃ W, W1.alloc (.cells #[.slice none 0 0, .int .i64 0, .slice none 0 0] TGr) = W := ⟨_, rfl⟩
  obtain ⟨g2, hg2⟩ : ∃ g, W1.heap.size = g := ⟨_, rfl⟩
  have hb2 : Below W1.heap.size W1 W2 := by rw [← hW2]; exact (Below.refl _ _).alloc (Nat.le_refl _) _
  have hf2 : Flds W2 g2 TGr [.slice none 0 0, .int .i64 0, .slice none 0 0] := by rw [← hW2, ← hg2]; exact Flds.new W1 _ _
  obtain ⟨W3, hW3⟩ : ∃ W, W2.alloc (.cells #[.slice none 0 0, .slice none 0 0] TDr) = W := ⟨_, rfl⟩
  obtain ⟨g3, hg3⟩ : ∃ g, W2.heap.size = g := ⟨_, rfl⟩
  have hb3 : Below W2.heap.size W2 W3 := by rw [← hW3]; exact (Below.refl _ _).alloc (Nat.le_refl _) _
  have hf3 : Flds W3 g3 TDr [.slice none 0 0, .slice none 0 0] := by rw [← hW3, ← hg3]; exact Flds.new W2 _ _
  have hbw := (hb1.trans (hb2.mono hb1.size)).trans (hb3.mono (Nat.le_trans hb1.size hb2.size))
  have hfa := (hf1.later hb2).later hb3
  have hfb := hf2.later hb3
  have HBW := Lib.hid hbw
  have HFB := Lib.hid hfb
  have HFC := Lib.hid hf3
  have HG := Lib.hid (show w.heap.size ≤ g2 ∧ w.heap.size ≤ g3 by have := hb1.size; have := hb2.size; omega)
  have HA := Lib.hid (fun (W : World) (hb : Below W3.heap.size W3 W) => And.intro ((hfa.later hb).cell 0) (And.intro ((hfa.later hb).cell 1) (And.intro ((hfa.later hb).cell 2) (And.intro ((hfa.later hb).cell 3) (And.intro ((hfa.later hb).cell 4) (And.intro ((hfa.later hb).cell 5) (And.intro ((hfa.later hb).cell 6) (hfa.later hb).lt)))))))
  simp only [List.getElem?_cons_zero, List.getElem?_cons_succ] at HA
  have HO1 := Lib.hid (of_any x.ak x.an x.ta h3 h5 W3)
  have HO2 := Lib.hid (fun W => of_any x.bk x.bn x.tb h6 h8 W)
  have HV1 := Lib.hid (ofV_good x.ak x.an x.ta h4)
  have HV2 := Lib.hid (ofV_good x.bk x.bn x.tb h7)
  have HPV : Hid (valsV x = [ofV x.ak x.an x.ta, ofV x.bk x.bn x.tb]) := Lib.hid rfl
  obtain ⟨p0, p1, p2, p3, p4, p5, p6, pl⟩ := HA.out W3 (Below.refl _ _)
  clear hb1 hf1 hb2 hf2 hb3 hf3 hbw hfa hfb h3 h4 h5 h6 h7 h8
  generalize ofV x.ak x.an x.ta = va at *
  generalize ofV x.bk x.bn x.tb = vb at *
  obtain ⟨ak, am, at_⟩ := va
  obtain ⟨bk, bm, bt_⟩ := vb
  go_enter Try.func6, Try.ntmps6
  go_upto_region 1 with fail
  try rw [hW1, hg1]
  try rw [hW2, hg2]
  try rw [hW3, hg3]
  clear hW1 hg1 hW2 hg2 hW3 hg3
  go_upto_region 2 with (go_at_call 21; refine HO1.out.mono ?_; rintro ee w4 ⟨rfl, hb4⟩; have HB4 := Lib.hid hb4; clear hb4 p0 p1 p2 p3 p4 p5 p6 pl)
  obtain ⟨W5, hW5⟩ : ∃ W, w4.alloc (.cells #[.int .i64 ak, .int .i64 am, .string at_] TV) = W := ⟨_, rfl⟩
  obtain ⟨g4, hg4⟩ : ∃ g, w4.heap.size = g := ⟨_, rfl⟩
  obtain ⟨W6, hW6⟩ : ∃ W, W5.alloc (.cells #[.int .i64 ak, .int .i64 am, .string at_] TRv) = W := ⟨_, rfl⟩
  obtain ⟨g5, hg5⟩ : ∃ g, g4 + 1 = g := ⟨_, rfl⟩
  have hb5 : Below w4.heap.size w4 W5 := by rw [← hW5]; exact (Below.refl _ _).alloc (Nat.le_refl _) _
  have hf5 : Flds W5 g4 TV [.int .i64 ak, .int .i64 am, .string at_] := by rw [← hW5, ← hg4]; exact Flds.new w4 _ _
  have hb6 : Below W5.heap.size W5 W6 := by rw [← hW6]; exact (Below.refl _ _).alloc (Nat.le_refl _) _
  have hf6 : Flds W6 g5 TRv [.int .i64 ak, .int .i64 am, .string at_] := by
    have e : W5.heap.size = g5 := by rw [← hW5, World.size_alloc, hg4]; exact hg5
    rw [← hW6, ← e]; exact Flds.new W5 _ _
  have HFAa := Lib.hid (hf5.later hb6)
  have HFAb := Lib.hid hf6
  have HBA := Lib.hid (HB4.out.trans ((hb5.trans (hb6.mono hb5.size)).mono HB4.out.size))
  rw [hW5, hW6, hg4, hg5]
  clear hW5 hg4 hW6 hg5 hb5 hf5 hb6 hf6
  obtain ⟨p0, p1, p2, p3, p4, p5, p6, pl⟩ := HA.out W6 HBA.out
  go_upto_region 3 with (go_at_call 21; refine (HO2.out W6).mono ?_; rintro ee w7 ⟨rfl, hb7⟩; have HB7 := Lib.hid (HBA.out.trans (hb7.mono HBA.out.size)); have HB67 := Lib.hid hb7; clear hb7 p0 p1 p2 p3 p4 p5 p6 pl)
  obtain ⟨W8, hW8⟩ : ∃ W, w7.alloc (.cells #[.int .i64 bk, .int .i64 bm, .string bt_] TV) = W := ⟨_, rfl⟩
  obtain ⟨g6, hg6⟩ : ∃ g, w7.heap.size = g := ⟨_, rfl⟩
  obtain ⟨W9, hW9⟩ : ∃ W, W8.alloc (.cells #[.int .i64 bk, .int .i64 bm, .string bt_] TRv) = W := ⟨_, rfl⟩
  obtain ⟨g7, hg7⟩ : ∃ g, g6 + 1 = g := ⟨_, rfl⟩
  have hb5 : Below w7.heap.size w7 W8 := by rw [← hW8]; exact (Below.refl _ _).alloc (Nat.le_refl _) _
  have hf5 : Flds W8 g6 TV [.int .i64 bk, .int .i64 bm, .string bt_] := by rw [← hW8, ← hg6]; exact Flds.new w7 _ _
  have hb6 : Below W8.heap.size W8 W9 := by rw [← hW9]; exact (Below.refl _ _).alloc (Nat.le_refl _) _
  have hf6 : Flds W9 g7 TRv [.int .i64 bk, .int .i64 bm, .string bt_] := by
    have e : W8.heap.size = g7 := by rw [← hW8, World.size_alloc, hg6]; exact hg7
    rw [← hW9, ← e]; exact Flds.new W8 _ _
  have HFBa := Lib.hid (hf5.later hb6)
  have HFBb := Lib.hid hf6
  have HFAa := Lib.hid (((HFAa.out.later HB67.out).later hb5).later hb6)
  have HFAb := Lib.hid (((HFAb.out.later HB67.out).later hb5).later hb6)
  have HBB := Lib.hid (HB7.out.trans ((hb5.trans (hb6.mono hb5.size)).mono HB7.out.size))
  rw [hW8, hW9, hg6, hg7]
  clear hW8 hg6 hW9 hg7 hb5 hf5 hb6 hf6
  obtain ⟨p0, p1, p2, p3, p4, p5, p6, pl⟩ := HA.out W9 HBB.out
  go_upto_region 4 with fail
  clear p0 p1 p2 p3 p4 p5 p6 pl
  obtain ⟨G, hG⟩ : ∃ G, x.g % 4 = G := ⟨_, rfl⟩
  have HGG := Lib.hid (show rowV x.g = [⟨2, G, ⟨#[]⟩⟩] from by unfold rowV; rw [hG])
  try rw [hG]
  clear hG
  have HOF := Lib.hid (fun (W : World) (g : Nat) (hr : Row W (.slice (some ⟨g, 0, none⟩) 2 2) 3 2 (vCells [⟨ak, am, at_⟩, ⟨bk, bm, bt_⟩])) => ofp_any 2 (by decide) (some ⟨g, 0, none⟩) 2 [⟨ak, am, at_⟩, ⟨bk, bm, bt_⟩] W rfl hr (fun v hv hk => by
    simp only [List.mem_cons, List.not_mem_nil, or_false] at hv
    rcases hv with rfl | rfl
    · exact good_n HV1.out hk
    · exact good_n HV2.out hk))
  have HL2 : Hid ((valsV x).map oneOf = [⟨ak, am, at_⟩, ⟨bk, bm, bt_⟩].map oneOf) := Lib.hid (by rw [HPV.out])
  obtain ⟨oa, ob, hL⟩ : ∃ oa ob, [(⟨ak, am, at_⟩ : V), ⟨bk, bm, bt_⟩].map oneOf = [oa, ob] := ⟨_, _, rfl⟩
  unfold PlusPost at HOF
  rw [hL] at HOF HL2
  rw [show [oa, ob].length = 2 from rfl] at HOF
  clear hL
  have HTS := Lib.hid (show TS2 g2 W9 W9 from ⟨⟨none, 0, 0, _, _, HFB.out.later HBB.out⟩, Only.refl _ _⟩)
  have HN9 := Lib.hid (show g2 < W9.heap.size from (HFB.out.later HBB.out).lt)
  have HFAa' := Lib.hid (fun (W : World) (hs : TS2 g2 W9 W) => HFAa.out.only hs.2 (fun e => by have h1 := HFAa.out; have h2 := HFB.out.later HBB.out; have e1 : W9.heap[g4]? = _ := h1; have e2 : W9.heap[g2]? = _ := h2; rw [e, e2] at e1; simp at e1))
  have HFBa' := Lib.hid (fun (W : World) (hs : TS2 g2 W9 W) => HFBa.out.only hs.2 (fun e => by have h1 := HFBa.out; have h2 := HFB.out.later HBB.out; have e1 : W9.heap[g6]? = _ := h1; have e2 : W9.heap[g2]? = _ := h2; rw [e, e2] at e1; simp at e1))
  have HFAb' := Lib.hid (fun (W : World) (hs : TS2 g2 W9 W) => HFAb.out.only hs.2 (fun e => by have h1 := HFAb.out; have h2 := HFB.out.later HBB.out; have e1 : W9.heap[g5]? = _ := h1; have e2 : W9.heap[g2]? = _ := h2; rw [e, e2] at e1; simp at e1))
  have HFBb' := Lib.hid (fun (W : World) (hs : TS2 g2 W9 W) => HFBb.out.only hs.2 (fun e => by have h1 := HFBb.out; have h2 := HFB.out.later HBB.out; have e1 : W9.heap[g7]? = _ := h1; have e2 : W9.heap[g2]? = _ := h2; rw [e, e2] at e1; simp at e1))
  have HFC' := Lib.hid (fun (W : World) (hs : TS2 g2 W9 W) => (HFC.out.later HBB.out).only hs.2 (fun e => by have h1 := HFC.out.later HBB.out; have h2 := HFB.out.later HBB.out; have e1 : W9.heap[g3]? = _ := h1; have e2 : W9.heap[g2]? = _ := h2; rw [e, e2] at e1; simp at e1))
  apply ag.region_ag_tail 16  (fun W1' => TS2 g2 W9 W1') (fun _ _ _ _ => True) (ag.Spec.val _ :: ag.Spec.sat (fun v _ => v = .agg #[.int .i64 2, .int .i64 G, .string ⟨#[]⟩]) (ag.grew) :: ag.Spec.sat (RV3 1 [.int .i64 2, .int .i64 G, .string ⟨#[]⟩]) (ag.grew) :: ag.Spec.val _ :: ag.Spec.val _ :: ag.Spec.sat (RV3 2 [.int .i64 ak, .int .i64 am, .string at_, .int .i64 bk, .int .i64 bm, .string bt_]) (ag.grew) :: ag.Spec.sat (PtV [oa, ob]) (ag.grew) :: ag.Spec.sat (G2V G [oa, ob]) (ag.grew) :: ag.Spec.val _ :: ag.Spec.val _ :: ag.Spec.sat (RV3 1 [.int .i64 2, .int .i64 G, .string ⟨#[]⟩]) (ag.grew) :: ag.Spec.val _ :: ag.Spec.val _ :: ag.Spec.sat (RV3 2 [.int .i64 ak, .int .i64 am, .string at_, .int .i64 bk, .int .i64 bm, .string bt_]) (ag.grew) :: ag.Spec.sat (D2V G [.int .i64 ak, .int .i64 am, .string at_, .int .i64 bk, .int .i64 bm, .string bt_]) (ag.grew) :: ag.Spec.sat (B2V g2 G [oa, ob]) (T15 g2) :: [])
  case hm => kernel_rfl
  case hT => kernel_rfl
  case hlen => rfl
  case hS => exact HTS.out.drew
  case hst =>
    simp only [List.take_succ_cons, List.take_zero]
    simp only [ag.Stab, ag.Row2, ag.Ok2, and_true]
    repeat' apply And.intro
    all_goals first
      | exact fun h => absurd rfl h
      | (exact fun _ _ f v W W' _ hv _ ht => hv)
      | (exact fun _ _ f v W W' _ hv _ ht => RV3.lasts v W W' hv ht)
      | (exact fun _ _ f v W W' _ hv _ ht => PtV.lasts v W W' hv ht)
      | (exact fun _ _ f v W W' _ hv _ ht => G2V.lasts v W W' hv ht)
      | (exact fun _ _ f v W W' _ hv _ ht => D2V.lasts v W W' hv ht)
      | (exact fun _ _ f v W W' _ hv _ ht => B2V.lasts v W W' hv ht)
      | (exact fun _ _ f v W W' hs hv _ ht => RV3.only hs hv ht)
      | (exact fun _ _ f v W W' hs hv _ ht => PtV.only hs hv ht)
      | (exact fun _ _ f v W W' hs hv _ ht => G2V.only hs hv ht)
      | (exact fun _ _ f v W W' hs hv _ ht => D2V.only hs hv ht)
      | trivial
      | exact fun _ h => absurd (h.symm.trans (show _ = true by kernel_rfl)) (by decide)
  case hk =>
    simp only [List.take_succ_cons, List.take_zero]
    simp only [ag.Keeps, and_true]
    repeat' apply And.intro
    all_goals first
      | (exact fun f W W' hS _ ht => TS2.grew hS ht)
      | (exact fun f W W' hS _ ht => TS2.app hS ht)
      | trivial
  simp only [List.take_succ_cons, List.take_zero, List.drop_succ_cons, List.drop_zero]
  apply ag.walk_val
  · rfl
  · intro W1 hS hE
    clear hS hE
    all_goals unfold ag.does
    all_goals go_simp
    all_goals first | done | exact ⟨rfl, rfl⟩ | rfl | (exact ⟨by go_num, rfl⟩) | (simp; done) | trace_state
  simp only [Act.put, List.setIfInBounds_toArray, List.set_cons_zero, List.set_cons_succ]
  refine ag.walk_sat (by rfl) (fun W1 hS hE => ?_) (fun y1 => ?_)
  · have hk := ofInt_any G W1
    clear hS hE
    all_goals unfold ag.does
    all_goals go_simp
    all_goals first | done | (exact hk.mono (fun e w' h => ⟨_, h.1, rfl, h.2, ag.News.none (fun _ _ => trivial) _ _⟩))
  simp only [Act.put, List.setIfInBounds_toArray, List.set_cons_zero, List.set_cons_succ]
  refine ag.walk_sat (by rfl) (fun W1 hS hE => ?_) (fun y2 => ?_)
  · have f1 := hE.of 1 (by kernel_rfl)
    simp only [ag.lookE, if_true, Nat.reduceEqDiff, if_false] at f1
    subst f1
    clear hS hE
    all_goals unfold ag.does
    all_goals go_simp
    all_goals first | done | (exact ⟨⟨_, rfl, Row.of_flds (Flds.new W1 TV [.int .i64 2, .int .i64 G, .string ⟨#[]⟩]) rfl 1⟩, (Below.refl _ _).alloc (Nat.le_refl _) _, ag.News.none (fun _ _ => trivial) _ _⟩)
  simp only [Act.put, List.setIfInBounds_toArray, List.set_cons_zero, List.set_cons_succ]
  apply ag.walk_val
  · rfl
  · intro W1 hS hE
    have q0 := (HFAa'.out W1 hS).cell 0
    have q1 := (HFAa'.out W1 hS).cell 1
    have q2 := (HFAa'.out W1 hS).cell 2
    have ql := (HFAa'.out W1 hS).lt
    simp only [List.getElem?_cons_zero, List.getElem?_cons_succ] at q0 q1 q2
    clear hS hE
    all_goals unfold ag.does
    all_goals go_simp
    all_goals first | done | exact ⟨rfl, rfl⟩ | rfl | (exact ⟨by go_num, rfl⟩) | (simp; done) | trace_state
  simp only [Act.put, List.setIfInBounds_toArray, List.set_cons_zero, List.set_cons_succ]
  apply ag.walk_val
  · rfl
  · intro W1 hS hE
    have q0 := (HFBa'.out W1 hS).cell 0
    have q1 := (HFBa'.out W1 hS).cell 1
    have q2 := (HFBa'.out W1 hS).cell 2
    have ql := (HFBa'.out W1 hS).lt
    simp only [List.getElem?_cons_zero, List.getElem?_cons_succ] at q0 q1 q2
    clear hS hE
    all_goals unfold ag.does
    all_goals go_simp
    all_goals first | done | exact ⟨rfl, rfl⟩ | rfl | (exact ⟨by go_num, rfl⟩) | (simp; done) | trace_state
  simp only [Act.put, List.setIfInBounds_toArray, List.set_cons_zero, List.set_cons_succ]
  refine ag.walk_sat (by rfl) (fun W1 hS hE => ?_) (fun y5 => ?_)
  · clear hS hE
    all_goals unfold ag.does
    all_goals go_simp
    all_goals first | done | (exact ⟨⟨_, rfl, Row.of_flds (Flds.new W1 TV [.int .i64 ak, .int .i64 am, .string at_, .int .i64 bk, .int .i64 bm, .string bt_]) rfl 2⟩, (Below.refl _ _).alloc (Nat.le_refl _) _, ag.News.none (fun _ _ => trivial) _ _⟩)
  simp only [Act.put, List.setIfInBounds_toArray, List.set_cons_zero, List.set_cons_succ]
  refine ag.walk_sat (by rfl) (fun W1 hS hE => ?_) (fun y6 => ?_)
  · have f5 := hE.of 5 (by kernel_rfl)
    simp only [ag.lookE, if_true, Nat.reduceEqDiff, if_false] at f5
    obtain ⟨gN, e5, hrN⟩ := f5
    subst e5
    have hk := HOF.out W1 gN hrN
    clear hS hE
    all_goals unfold ag.does
    all_goals go_simp
    all_goals first | done | (exact hk.mono (fun e w' h => by obtain ⟨g, h1, h2, h3⟩ := h; exact ⟨_, h1, ⟨g, rfl, h2⟩, h3, ag.News.none (fun _ _ => trivial) _ _⟩))
  simp only [Act.put, List.setIfInBounds_toArray, List.set_cons_zero, List.set_cons_succ]
  refine ag.walk_sat (by rfl) (fun W1 hS hE => ?_) (fun y7 => ?_)
  · have f2 := hE.of 2 (by kernel_rfl)
    have f6 := hE.of 6 (by kernel_rfl)
    simp only [ag.lookE, if_true, Nat.reduceEqDiff, if_false] at f2 f6
    obtain ⟨gN, e5, hrN⟩ := f2
    obtain ⟨gM, e6, hrM⟩ := f6
    subst e5 e6
    clear hS hE
    all_goals unfold ag.does
    all_goals go_simp
    all_goals first | done | (exact ⟨⟨gN, gM, rfl, hrN, hrM⟩, Below.refl _ _, ag.News.none (fun _ _ => trivial) _ _⟩)
  simp only [Act.put, List.setIfInBounds_toArray, List.set_cons_zero, List.set_cons_succ]
  apply ag.walk_val
  · rfl
  · intro W1 hS hE
    clear hS hE
    all_goals unfold ag.does
    all_goals go_simp
    all_goals first | done | exact ⟨rfl, rfl⟩ | rfl | (exact ⟨by go_num, rfl⟩) | (simp; done) | trace_state
  simp only [Act.put, List.setIfInBounds_toArray, List.set_cons_zero, List.set_cons_succ]
  apply ag.walk_val
  · rfl
  · intro W1 hS hE
    clear hS hE
    all_goals unfold ag.does
    all_goals go_simp
    all_goals first | done | exact ⟨rfl, rfl⟩ | rfl | (exact ⟨by go_num, rfl⟩) | (simp; done) | trace_state
  simp only [Act.put, List.setIfInBounds_toArray, List.set_cons_zero, List.set_cons_succ]
  refine ag.walk_sat (by rfl) (fun W1 hS hE => ?_) (fun y10 => ?_)
  · clear hS hE
    all_goals unfold ag.does
    all_goals go_simp
    all_goals first | done | (exact ⟨⟨_, rfl, Row.of_flds (Flds.new W1 TRv [.int .i64 2, .int .i64 G, .string ⟨#[]⟩]) rfl 1⟩, (Below.refl _ _).alloc (Nat.le_refl _) _, ag.News.none (fun _ _ => trivial) _ _⟩)
  simp only [Act.put, List.setIfInBounds_toArray, List.set_cons_zero, List.set_cons_succ]
  apply ag.walk_val
  · rfl
  · intro W1 hS hE
    have q0 := (HFAb'.out W1 hS).cell 0
    have q1 := (HFAb'.out W1 hS).cell 1
    have q2 := (HFAb'.out W1 hS).cell 2
    have ql := (HFAb'.out W1 hS).lt
    simp only [List.getElem?_cons_zero, List.getElem?_cons_succ] at q0 q1 q2
    clear hS hE
    all_goals unfold ag.does
    all_goals go_simp
    all_goals first | done | exact ⟨rfl, rfl⟩ | rfl | (exact ⟨by go_num, rfl⟩) | (simp; done) | trace_state
  simp only [Act.put, List.setIfInBounds_toArray, List.set_cons_zero, List.set_cons_succ]
  apply ag.walk_val
  · rfl
  · intro W1 hS hE
    have q0 := (HFBb'.out W1 hS).cell 0
    have q1 := (HFBb'.out W1 hS).cell 1
    have q2 := (HFBb'.out W1 hS).cell 2
    have ql := (HFBb'.out W1 hS).lt
    simp only [List.getElem?_cons_zero, List.getElem?_cons_succ] at q0 q1 q2
    clear hS hE
    all_goals unfold ag.does
    all_goals go_simp
    all_goals first | done | exact ⟨rfl, rfl⟩ | rfl | (exact ⟨by go_num, rfl⟩) | (simp; done) | trace_state
  simp only [Act.put, List.setIfInBounds_toArray, List.set_cons_zero, List.set_cons_succ]
  refine ag.walk_sat (by rfl) (fun W1 hS hE => ?_) (fun y13 => ?_)
  · clear hS hE
    all_goals unfold ag.does
    all_goals go_simp
    all_goals first | done | (exact ⟨⟨_, rfl, Row.of_flds (Flds.new W1 TRv [.int .i64 ak, .int .i64 am, .string at_, .int .i64 bk, .int .i64 bm, .string bt_]) rfl 2⟩, (Below.refl _ _).alloc (Nat.le_refl _) _, ag.News.none (fun _ _ => trivial) _ _⟩)
  simp only [Act.put, List.setIfInBounds_toArray, List.set_cons_zero, List.set_cons_succ]
  refine ag.walk_sat (by rfl) (fun W1 hS hE => ?_) (fun y14 => ?_)
  · have f2 := hE.of 10 (by kernel_rfl)
    have f6 := hE.of 13 (by kernel_rfl)
    simp only [ag.lookE, if_true, Nat.reduceEqDiff, if_false] at f2 f6
    obtain ⟨gN, e5, hrN⟩ := f2
    obtain ⟨gM, e6, hrM⟩ := f6
    subst e5 e6
    clear hS hE
    all_goals unfold ag.does
    all_goals go_simp
    all_goals first | done | (exact ⟨⟨gN, gM, rfl, hrN, hrM⟩, Below.refl _ _, ag.News.none (fun _ _ => trivial) _ _⟩)
  simp only [Act.put, List.setIfInBounds_toArray, List.set_cons_zero, List.set_cons_succ]
  refine ag.walk_sat (by rfl) (fun W1 hS hE => ?_) (fun y15 => ?_)
  · have f7 := hE.of 7 (by kernel_rfl)
    simp only [ag.lookE, if_true, Nat.reduceEqDiff, if_false] at f7
    obtain ⟨ga, gb, e7, r1, r2⟩ := f7
    subst e7
    have HSS := Lib.hid hS
    obtain ⟨⟨qa, qn, qc, qx, qy, hq⟩, -⟩ := hS
    have z0 := hq.cell 0
    have z1 := hq.cell 1
    have z2 := hq.cell 2
    have zl := hq.lt
    have y0 := hq.frozen 0
    have y1 := hq.frozen 1
    have y2 := hq.frozen 2
    simp only [List.getElem?_cons_zero, List.getElem?_cons_succ] at z0 z1 z2
    have HQ := Lib.hid hq
    have HR12 := Lib.hid (And.intro r1 r2)
    clear hE hq r1 r2
    all_goals unfold ag.does
    all_goals go_simp
    all_goals first | done | (exact ⟨b2v_set HSS.out HQ.out HR12.out.1 HR12.out.2, t15_set HQ.out, ag.News.none (fun _ _ => trivial) _ _⟩)
  simp only [Act.put, List.setIfInBounds_toArray, List.set_cons_zero, List.set_cons_succ]
  refine ag.walk_nil (fun w10 hS hF hP => ?_)
  clear hP
  have f15 := hF.of 15
  have f14 := hF.of 14
  simp only [ag.lookE, Nat.reduceEqDiff, if_false, if_true] at f15 f14
  obtain ⟨ga, gb, hb2, r1, r2⟩ := f15
  obtain ⟨gc, gd, e14, r3, r4⟩ := f14
  subst e14
  have hf3 := HFC'.out w10 hS
  have u0 := hf3.cell 0; have u1 := hf3.cell 1; have ul := hf3.lt; have x0 := hf3.frozen 0; have x1 := hf3.frozen 1
  have z0 := hb2.cell 0; have z1 := hb2.cell 1; have z2 := hb2.cell 2; have zl := hb2.lt
  simp only [List.getElem?_cons_zero, List.getElem?_cons_succ] at u0 u1 z0 z1 z2
  have hne : g2 ≠ g3 := fun e => by have e1 : w10.heap[g3]? = _ := hf3; have e2 : w10.heap[g2]? = _ := hb2; rw [e, e1] at e2; simp at e2
  have ho := only_set2 w10 g3 (.slice (some ⟨gc, 0, none⟩) 1 1) (.slice (some ⟨gd, 0, none⟩) 2 2)
  have r1' := row_only0 hf3 r1 rfl ho
  have r2' := row_only0 hf3 r2 (by rw [oCells_cons]; rfl) ho
  have r3' := row_only0 hf3 r3 rfl ho
  have r4' := row_only0 hf3 r4 rfl ho
  have hg2' := hb2.only ho hne
  obtain ⟨hg3', -⟩ := box2 (x := .slice (some ⟨gc, 0, none⟩) 1 1) (y := .slice (some ⟨gd, 0, none⟩) 2 2) hf3
  have hbel : Below w.heap.size w ((w10.setCell ⟨g3, 0, none⟩ (.slice (some ⟨gc, 0, none⟩) 1 1)).setCell ⟨g3, 1, none⟩ (.slice (some ⟨gd, 0, none⟩) 2 2)) := by
    have h1 := HBW.out.trans (HBB.out.mono HBW.out.size)
    have h2 := hS.2.below h1.size (fun k hk => by subst hk; exact HG.out.1)
    have h3 := ho.below (Nat.le_trans h1.size h2.size) (fun k hk => by subst hk; exact HG.out.2)
    exact (h1.trans h2).trans h3
  have HF := Lib.hid (And.intro hg2' (And.intro hg3' (And.intro r1' (And.intro r2' (And.intro r3' (And.intro r4' hbel))))))
  clear hF hS ho r1 r2 r3 r4 r1' r2' r3' r4' hg2' hg3' hbel hb2 hf3 hne
  go_wp2_with fail
  obtain ⟨W11, hW11⟩ : ∃ W, (w10.setCell ⟨g3, 0, none⟩ (.slice (some ⟨gc, 0, none⟩) 1 1)).setCell ⟨g3, 1, none⟩ (.slice (some ⟨gd, 0, none⟩) 2 2) = W := ⟨_, rfl⟩
  rw [hW11] at HF ⊢
  clear u0 u1 ul x0 x1 z0 z1 z2 zl
  obtain ⟨q2, q3, s1, s2, s3, s4, s5⟩ := HF.out
  have c0 := q2.cell 0; have c1 := q2.cell 1; have c2 := q2.cell 2; have cl := q2.lt
  have d0 := q3.cell 0; have d1 := q3.cell 1; have dl := q3.lt
  simp only [List.getElem?_cons_zero, List.getElem?_cons_succ] at c0 c1 c2 d0 d1
  refine bodyPost_ret (v := .tuple #[.agg #[.slice (some ⟨ga, 0, none⟩) 1 1, .int .i64 1, .slice (some ⟨gb, 0, none⟩) 2 2], .agg #[.slice (some ⟨gc, 0, none⟩) 1 1, .slice (some ⟨gd, 0, none⟩) 2 2]]) ?_ (by rfl) ?_
  · simp only [results, Try.results6]
    go_simp
  · refine ⟨_, _, rfl, ?_, ?_, s5⟩
    · rw [HGG.out, HL2.out]
      exact ⟨ga, gb, rfl, s1, s2⟩
    · rw [HGG.out, HPV.out]
      exact ⟨gc, gd, rfl, s3, s4⟩
end Go.Proofs.Ytmbafcfoboknkaa.agr
