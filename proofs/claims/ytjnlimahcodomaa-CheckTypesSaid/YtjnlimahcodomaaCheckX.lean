/- The law's sum of a text: regraterlaw20.speaks, walked. -/
import Derived.Test.YtjnlimahcodomaaCheckG
import Derived.Test.YtjnlimahcodomaaCheckU
import Derived.Test.YtjnlimahcodomaaCheckV
import Derived.Test.YtjnlimahcodomaaCheckN
import Derived.Test.YtjnlimahcodomaaAgIJ
namespace Go.Proofs.Ytjnlimahcodomaa.ck
set_option linter.unusedVariables false
open Go.RowKit
open val (V null TV TR ag3 vv ofS)
open ex (Ex Er TE ExAt erCells of_fe Fit FitN mayE)
/-- the parts of speaks' expression, in memory -/
def spU (v : V) : List Er := [⟨2, 0, null, ByteArray.empty, ⟨#[97]⟩, .slice none 0 0⟩, ⟨1, 0, v, ByteArray.empty, ByteArray.empty, .slice none 0 0⟩]
def spR (op : Int) (g : Nat) : Er := ⟨3, op, null, ByteArray.empty, ByteArray.empty, .slice (some ⟨g, 0, none⟩) 2 2⟩
def spE (op : Int) (v : V) : Ex := .mk 3 op null ByteArray.empty ByteArray.empty [colA, .mk 1 0 v ByteArray.empty ByteArray.empty []]
theorem leaf_at {T : TypeId} {X : Nat → Prop} {W : World} (k op : Int) (v : V) (tb nm : ByteArray) : ExAt T X 1 W (.mk k op v tb nm []) ⟨k, op, v, tb, nm, .slice none 0 0⟩ :=
  ⟨rfl, rfl, rfl, rfl, rfl, (fun b hb => by cases hb), [], rfl, World.ownsRow_nil _ _ _ _, fun i x u hx hu => by simp at hu⟩
theorem sp_at {W : World} {g : Nat} (op : Int) (v : V) (h : Flds W g TE (erCells (spU v))) : ExAt TE (fun _ => True) 2 W (spE op v) (spR op g) := by
  refine ⟨rfl, rfl, rfl, rfl, rfl, fun _ _ => trivial, spU v, rfl, owns_of_flds h rfl (Nat.zero_le _) (by decide), fun i x u hx hu => ?_⟩
  unfold spE Ex.l at hx
  unfold spU at hu
  cases i with
  | zero =>
    simp only [List.getElem?_cons_zero, Option.some.injEq] at hx hu
    subst hx; subst hu
    exact leaf_at _ _ _ _ _
  | succ i =>
    cases i with
    | zero =>
      simp only [List.getElem?_cons_zero, List.getElem?_cons_succ, Option.some.injEq] at hx hu
      subst hx; subst hu
      exact leaf_at _ _ _ _ _
    | succ i => simp at hx
theorem sp_slim (op : Int) (v : V) : (spE op v).slim := by
  unfold spE colA
  simp [ex.Ex.slim, ex.slimL]
theorem sp_fit (op : Int) (v : V) (hv : v.s.size ≤ 1000 ∧ -9223372036854775808 ≤ v.n ∧ v.n ≤ 9223372036854775807) : Fit (spE op v) := by
  have key : ∀ (k op : Int) (u : V) (nm : ByteArray) (es : List Ex), u.s.size ≤ 1000 → (-9223372036854775808 ≤ u.n ∧ u.n ≤ 9223372036854775807) → nm.size ≤ 1000 → FitN (.mk k op u ByteArray.empty nm es) := fun k op u nm es h1 h2 h3 => ⟨h3, (by decide : ByteArray.empty.size ≤ 1000), h1, h2.1, h2.2⟩
  intro x hx
  unfold spE colA at hx
  simp only [ex.Ex.parts_eq, ex.partsL_flat, ex.Ex.l, List.flatMap_cons, List.flatMap_nil, List.append_nil, List.mem_cons, List.mem_append, List.not_mem_nil, or_false] at hx
  rcases hx with rfl | rfl | rfl
  · exact key _ _ _ _ _ (by decide) (by decide) (by decide)
  · exact key _ _ _ _ _ (by decide) (by decide) (by decide)
  · exact key _ _ _ _ _ hv.1 hv.2 (by decide)
theorem sp_parts (op : Int) (v : V) : ∀ x ∈ (spE op v).parts, x.k ≠ 8 := by
  intro x hx
  unfold spE colA at hx
  simp only [ex.Ex.parts_eq, ex.partsL_flat, ex.Ex.l, List.flatMap_cons, List.flatMap_nil, List.append_nil, List.mem_cons, List.mem_append, List.not_mem_nil, or_false] at hx
  rcases hx with rfl | rfl | rfl
  · show ¬ (3 : Int) = 8; decide
  · show ¬ (2 : Int) = 8; decide
  · show ¬ (1 : Int) = 8; decide
theorem sp_kinds : ∀ (i : Nat) f, spL[i]? = some f → 1 ≤ f.k ∧ f.k ≤ 3 := sp_ok.kinds
/-- what region 7's operations give: f4: the call has come up; f9: the store has -/
def spP (X : World) (ev lv : Value) (f4 f9 : Bool) : Nat → Value → World → Prop
  | 0, v, _ => v = ev
  | 1, v, _ => v = lv
  | 2, v, _ => v = ag3 3 0 ⟨#[121]⟩
  | 3, v, W => ∃ g, v = .slice (some ⟨g, 0, none⟩) 1 1 ∧ (f4 = false → Row W (.slice (some ⟨g, 0, none⟩) 1 1) 3 1 (vCells [ofS ⟨#[121]⟩]))
  | 4, v, _ => v = .tuple #[ag3 3 0 ⟨#[121, 120]⟩, .int .i64 0]
  | 5, v, _ => v = .tuple #[ag3 3 0 ⟨#[121, 120]⟩, .int .i64 0]
  | 6, v, _ => v = ag3 3 0 ⟨#[121, 120]⟩
  | 7, v, _ => v = .int .i64 0
  | 8, v, W => ∃ g, v = .pointer (some ⟨g, 0, none⟩) ∧ X.heap.size ≤ g ∧ Flds W g TV (if f9 then [.int .i64 3, .int .i64 0, .string ⟨#[121, 120]⟩] else [.int .i64 0, .int .i64 0, .string ByteArray.empty])
  | 10, v, _ => v = .int .i64 0
  | _, _, _ => True
theorem spP.later {X : World} {ev lv : Value} {f4 f9 : Bool} {W W' : World} (hb : Below W.heap.size W W') : ∀ {j : Nat} {v : Value}, spP X ev lv f4 f9 j v W → spP X ev lv f4 f9 j v W'
  | 0, _, h | 1, _, h | 2, _, h | 4, _, h | 5, _, h | 6, _, h | 7, _, h | 10, _, h => h
  | 9, _, h => trivial
  | 3, _, ⟨g, h, hr⟩ => ⟨g, h, fun e => (hr e).later hb⟩
  | 8, _, ⟨g, h, hg, hf⟩ => ⟨g, h, hg, hf.later hb⟩
  | k + 11, _, h => trivial
theorem spP.call {X : World} {ev lv : Value} {f4 f9 : Bool} {W : World} : ∀ {j : Nat} {v : Value}, spP X ev lv f4 f9 j v W → spP X ev lv true f9 j v W
  | 0, _, h | 1, _, h | 2, _, h | 4, _, h | 5, _, h | 6, _, h | 7, _, h | 10, _, h => h
  | 9, _, h => trivial
  | 3, _, ⟨g, h, hr⟩ => ⟨g, h, fun e => by cases e⟩
  | 8, _, h => h
  | k + 11, _, h => trivial
def SpJ (X : World) (ev lv : Value) (b : Nat → Bool) (xs : Nat → Value) (W : World) : Prop :=
  Below X.heap.size X W ∧ (b 9 = true → b 4 = true ∧ b 8 = true) ∧ ∀ j, b j = true → spP X ev lv (b 4) (b 9) j (xs j) W
theorem SpJ.at {X : World} {ev lv : Value} {b : Nat → Bool} {xs : Nat → Value} {W : World} (h : SpJ X ev lv b xs W) {j : Nat} (hj : b j = true) : spP X ev lv (b 4) (b 9) j (xs j) W := h.2.2 j hj
theorem SpJ.zero {X : World} {ev lv : Value} {W : World} (hb : Below X.heap.size X W) : SpJ X ev lv (fun j => decide (11 ≤ j)) (fun _ => undef) W := by
  refine ⟨hb, fun h => absurd h (by decide), fun j hj => ?_⟩
  have hj' : 11 ≤ j := of_decide_eq_true hj
  obtain ⟨k, rfl⟩ : ∃ k, j = k + 11 := ⟨j - 11, by omega⟩
  trivial
theorem SpJ.step {X : World} {ev lv : Value} {b : Nat → Bool} {xs : Nat → Value} {W W' : World} {v : Value} (h : SpJ X ev lv b xs W) (i : Nat) (hi4 : i ≠ 4) (hi9 : i ≠ 9) (hb : Below W.heap.size W W') (hv : spP X ev lv (b 4) (b 9) i v W') : SpJ X ev lv (ag.updB b i) (ag.upd xs i v) W' := by
  obtain ⟨h1, h2, h3⟩ := h
  have e4 : ag.updB b i 4 = b 4 := by unfold ag.updB; rw [if_neg (Ne.symm hi4)]
  have e9 : ag.updB b i 9 = b 9 := by unfold ag.updB; rw [if_neg (Ne.symm hi9)]
  refine ⟨h1.trans (hb.mono h1.size), fun h => ?_, fun j hj => ?_⟩
  · rw [e9] at h
    rw [e4]
    refine ⟨(h2 h).1, ?_⟩
    unfold ag.updB
    split
    · rfl
    · exact (h2 h).2
  · rw [e4, e9]
    unfold ag.updB at hj
    unfold ag.upd
    split
    · rename_i e; subst e; exact hv
    · rename_i e
      rw [if_neg e] at hj
      exact (h3 j hj).later hb
theorem SpJ.step4 {X : World} {ev lv : Value} {b : Nat → Bool} {xs : Nat → Value} {W W' : World} {v : Value} (h : SpJ X ev lv b xs W) (hb : Below W.heap.size W W') (hv : v = .tuple #[ag3 3 0 ⟨#[121, 120]⟩, .int .i64 0]) : SpJ X ev lv (ag.updB b 4) (ag.upd xs 4 v) W' := by
  obtain ⟨h1, h2, h3⟩ := h
  refine ⟨h1.trans (hb.mono h1.size), fun h => ⟨rfl, (h2 h).2⟩, fun j hj => ?_⟩
  show spP X ev lv true (b 9) j _ W'
  unfold ag.updB at hj
  unfold ag.upd
  split
  · rename_i e; subst e; exact hv
  · rename_i e
    rw [if_neg e] at hj
    exact ((h3 j hj).later hb).call
theorem SpJ.step9 {X : World} {ev lv : Value} {b : Nat → Bool} {xs : Nat → Value} {W W' : World} {v : Value} (h : SpJ X ev lv b xs W) (h4 : b 4 = true) (h8 : b 8 = true) {g : Nat} (hx : xs 8 = .pointer (some ⟨g, 0, none⟩)) (hg : X.heap.size ≤ g) (hgr : W.grownBy W' (some g)) (hf : Flds W' g TV [.int .i64 3, .int .i64 0, .string ⟨#[121, 120]⟩]) : SpJ X ev lv (ag.updB b 9) (ag.upd xs 9 v) W' := by
  obtain ⟨h1, h2, h3⟩ := h
  refine ⟨h1.grown hgr h1.size (fun k hk => by cases hk; exact hg), fun _ => ⟨h4, h8⟩, fun j hj => ?_⟩
  show spP X ev lv (b 4) true j _ W'
  rw [h4] at h3 ⊢
  unfold ag.updB at hj
  unfold ag.upd
  split
  · rename_i e; subst e; trivial
  · rename_i e
    rw [if_neg e] at hj
    have h := h3 j hj
    match j, h with
    | 0, h | 1, h | 2, h | 4, h | 5, h | 6, h | 7, h | 10, h => exact h
    | 9, _ => trivial
    | 3, ⟨g', h, hr⟩ => exact ⟨g', h, fun e => by cases e⟩
    | 8, _ => exact ⟨g, hx, hg, hf⟩
    | k + 11, _ => trivial
set_option maxRecDepth 100000 in
set_option maxHeartbeats 20000000 in
theorem speaks_any (w : World) : Calls Try.prog 5 #[] w fun en w' => en = .returned (.bool true) ∧ Below w.heap.size w w' := by
  have HOI := Lib.hid (fun W => val.ofInt_any 1 W)
  have HOX := Lib.hid (fun W => val.ofText_any ⟨#[120]⟩ W)
  have HOY := Lib.hid (fun W => val.ofText_any ⟨#[121]⟩ W)
  have HOZ := Lib.hid (fun W => val.ofText_any ⟨#[121, 120]⟩ W)
  unfold ag3 at HOI HOX HOY HOZ
  go_enter Try.func5, Try.ntmps5
  go_upto_region 2 with fail
  obtain ⟨w1, hw1⟩ : ∃ W, w.alloc (.cells #[.string ⟨#[116]⟩, .string ⟨#[97]⟩, .int .i64 3] TFp) = W := ⟨_, rfl⟩
  obtain ⟨gl, hgl⟩ : ∃ g, w.heap.size = g := ⟨_, rfl⟩
  have hfl : Flds w1 gl TFp [.string ⟨#[116]⟩, .string ⟨#[97]⟩, .int .i64 3] := by rw [← hw1, ← hgl]; exact Flds.new w TFp _
  have hb1 : Below w.heap.size w w1 := by rw [← hw1]; exact (Below.refl _ _).alloc (Nat.le_refl _) _
  rw [hw1, hgl]
  have HL : Hid (∀ W, Below w1.heap.size w1 W → Row W (.slice (some ⟨gl, 0, none⟩) 1 1) 3 1 (fCells spL)) := Lib.hid (fun W hb => Row.of_flds (hfl.later hb) rfl 1)
  have HB1 := Lib.hid hb1
  clear hw1 hgl hfl hb1
  go_upto_region 3 with (go_at_call 19; refine (HOI.out _).mono ?_; rintro en w2 ⟨rfl, hb2⟩; have HB2 := Lib.hid hb2; clear hb2)
  obtain ⟨Wb, hW1⟩ : ∃ Wb, (w2.alloc (.cells #[.int .i64 2, .int .i64 0, .int .i64 0, .int .i64 0, .string (ByteArray.mk #[]), .string (ByteArray.mk #[]), .string (ByteArray.mk #[97]), .slice none 0 0, .int .i64 1, .int .i64 0, .int .i64 2, .int .i64 1, .string ByteArray.empty, .string (ByteArray.mk #[]), .string (ByteArray.mk #[]), .slice none 0 0] TE)).alloc (.cells #[.int .i64 3, .int .i64 7, .int .i64 0, .int .i64 0, .string (ByteArray.mk #[]), .string (ByteArray.mk #[]), .string (ByteArray.mk #[]), .slice (some ⟨w2.heap.size, 0, none⟩) 2 2] TE) = Wb := ⟨_, rfl⟩
  obtain ⟨gS, hgS⟩ : ∃ gS, w2.heap.size = gS := ⟨_, rfl⟩
  obtain ⟨ge, hge⟩ : ∃ g1, w2.heap.size + 1 = g1 := ⟨_, rfl⟩
  have hf16 : Flds Wb gS TE (erCells (spU ⟨2, 1, ByteArray.empty⟩)) := by rw [← hW1, ← hgS]; exact (Flds.new w2 TE _).alloc _
  have hf8 : Flds Wb ge TE [.int .i64 3, .int .i64 7, .int .i64 0, .int .i64 0, .string ByteArray.empty, .string ByteArray.empty, .string ByteArray.empty, .slice (some ⟨gS, 0, none⟩) 2 2] := by
    rw [← hW1, ← hge, ← hgS]
    have := Flds.new (w2.alloc (.cells #[.int .i64 2, .int .i64 0, .int .i64 0, .int .i64 0, .string (ByteArray.mk #[]), .string (ByteArray.mk #[]), .string (ByteArray.mk #[97]), .slice none 0 0, .int .i64 1, .int .i64 0, .int .i64 2, .int .i64 1, .string ByteArray.empty, .string (ByteArray.mk #[]), .string (ByteArray.mk #[]), .slice none 0 0] TE)) TE [.int .i64 3, .int .i64 7, .int .i64 0, .int .i64 0, .string ByteArray.empty, .string ByteArray.empty, .string ByteArray.empty, .slice (some ⟨w2.heap.size, 0, none⟩) 2 2]
    rw [World.size_alloc] at this; exact this
  have hb3 : Below w2.heap.size w2 Wb := by rw [← hW1]; exact ((Below.refl _ _).alloc (Nat.le_refl _) _).alloc (by simp) _
  have hne : gS ≠ ge := by omega
  have hge1 : w2.heap.size ≤ ge := by omega
  have hge2 : w2.heap.size ≤ gS := by omega
  rw [hW1, hge]
  have HT1 := Lib.hid (fun (W : World) (hb : Below Wb.heap.size Wb W) => type_any (some ⟨gl, 0, none⟩) 1 1 spL rfl (by decide) sp_kinds false 2 (by decide) _ sp1 _ false W (sp_slim _ _) (sp_fit _ _ (by decide)) sp1_may (sp_at 7 ⟨2, 1, ByteArray.empty⟩ (hf16.later hb)) (HL.out W (HB2.out.trans ((hb3.trans (hb.mono hb3.size)).mono HB2.out.size))))
  rw [sp1_type] at HT1
  unfold spR Er.val null at HT1
  dsimp only at HT1
  have HF16 := Lib.hid hf16; have HF8 := Lib.hid hf8; have HB3 := Lib.hid hb3
  clear hf16 hf8 hb3 hW1 hgS hge
  obtain ⟨y0, y1, y2, y3, y4, y5, y6, y7, l3⟩ := of_fe HF8.out
  go_upto_region 4 with (go_at_call 10; refine (HT1.out _ (Below.refl _ _)).mono ?_; rintro en w3 ⟨rfl, hb⟩; have HC3 := Lib.hid hb; clear hb)
  clear y0 y1 y2 y3 y4 y5 y6 y7 l3 HT1
  have hf8 := HF8.out.later HC3.out
  obtain ⟨y0, y1, y2, y3, y4, y5, y6, y7, l3⟩ := of_fe hf8
  have z1 := hf8.frozen 1
  go_upto_region 5 with fail
  obtain ⟨W4, hW4⟩ : ∃ W, w3.setCell ⟨ge, 1, none⟩ (.int .i64 12) = W := ⟨_, rfl⟩
  have hg8 : Flds W4 ge TE [.int .i64 3, .int .i64 12, .int .i64 0, .int .i64 0, .string ByteArray.empty, .string ByteArray.empty, .string ByteArray.empty, .slice (some ⟨gS, 0, none⟩) 2 2] := by rw [← hW4]; exact hf8.set 1 _
  have hg16 : Flds W4 gS TE (erCells (spU ⟨2, 1, ByteArray.empty⟩)) := by rw [← hW4]; exact (HF16.out.later HC3.out).other _ _ hne
  have hb4 : Below w2.heap.size w2 W4 := by
    rw [← hW4]
    exact (HB3.out.trans (HC3.out.mono HB3.out.size)).grown (grown_setCell _ _ _) (Nat.le_trans HB3.out.size HC3.out.size) (fun k hk => by cases hk; exact hge1)
  rw [hW4]
  clear hf8 y0 y1 y2 y3 y4 y5 y6 y7 l3 z1 hW4
  have HG8 := Lib.hid hg8; have HG16 := Lib.hid hg16; have HB4 := Lib.hid hb4
  clear hg8 hg16 hb4 HF16 HF8 HC3 HB3
  trace_state
  apply ag.region_calm_tail 5 (ag.Spec.val _ :: ag.Spec.val _ :: ag.Spec.sat (fun v _ => v = .agg #[.int .i64 3, .int .i64 0, .string ⟨#[120]⟩]) ag.grew :: ag.Spec.val _ :: ag.Spec.val _ :: [])
  case hm => kernel_rfl
  case hB => kernel_rfl
  case hlen => rfl
  case hc => exact ⟨⟨ag.lasts_eq _, rfl⟩, trivial⟩
  simp only [List.take_succ_cons, List.take_zero, List.drop_succ_cons, List.drop_zero]
  apply ag.walk_val
  · rfl
  · intro W1 hS hE
    clear hS hE
    unfold ag.does
    go_simp
    first | done | exact ⟨rfl, rfl⟩ | rfl | (exact ⟨by go_num, rfl⟩) | (simp; done) | trace_state
  simp only [Act.put, List.setIfInBounds_toArray, List.set_cons_zero, List.set_cons_succ]
  apply ag.walk_val
  · rfl
  · intro W1 hS hE
    obtain ⟨y0, y1, y2, y3, y4, y5, y6, y7, l3⟩ := of_fe (HG8.out.later hS)
    clear hS hE
    unfold ag.does
    go_simp
    first | done | exact ⟨rfl, rfl⟩ | rfl | (exact ⟨by go_num, rfl⟩) | (simp; done) | trace_state
  simp only [Act.put, List.setIfInBounds_toArray, List.set_cons_zero, List.set_cons_succ]
  refine ag.walk_such (by rfl) (fun W1 hS hE => ?_) (fun y2 => ?_)
  · have hc := HOX.out W1
    clear hE
    unfold ag.does
    go_simp
    first | done | (exact hc.mono (fun e w' h => ⟨_, h.1, rfl, h.2⟩))
  simp only [Act.put, List.setIfInBounds_toArray, List.set_cons_zero, List.set_cons_succ]
  apply ag.walk_val
  · rfl
  · intro W1 hS hE
    clear hS hE
    unfold ag.does
    go_simp
    first | done | exact ⟨rfl, rfl⟩ | rfl | (exact ⟨by go_num, rfl⟩) | (simp; done) | trace_state
  simp only [Act.put, List.setIfInBounds_toArray, List.set_cons_zero, List.set_cons_succ]
  apply ag.walk_val
  · rfl
  · intro W1 hS hE
    clear hS hE
    unfold ag.does
    go_simp
    first | done | exact ⟨rfl, rfl⟩ | rfl | (exact ⟨by go_num, rfl⟩) | (simp; done) | trace_state
  simp only [Act.put, List.setIfInBounds_toArray, List.set_cons_zero, List.set_cons_succ]
  refine ag.walk_nil (fun w5 hS hF hP => ?_)
  clear hP
  have f2 : y2 = .agg #[.int .i64 3, .int .i64 0, .string ⟨#[120]⟩] := hF.of 2
  subst f2
  clear hF
  have hf16 := HG16.out.later hS
  have q10 := hf16.cell 10; have q11 := hf16.cell 11; have q12 := hf16.cell 12
  have z10 := hf16.frozen 10; have z11 := hf16.frozen 11; have z12 := hf16.frozen 12
  have ll := hf16.lt
  unfold spU erCells at q10 q11 q12
  simp [Er.cells] at q10 q11 q12
  go_upto_region 6 with fail
  obtain ⟨W6, hW6⟩ : ∃ W, ((w5.setCell ⟨gS, 10, none⟩ (.int .i64 3)).setCell ⟨gS, 11, none⟩ (.int .i64 0)).setCell ⟨gS, 12, none⟩ (.string ⟨#[120]⟩) = W := ⟨_, rfl⟩
  have hg8 : Flds W6 ge TE [.int .i64 3, .int .i64 12, .int .i64 0, .int .i64 0, .string ByteArray.empty, .string ByteArray.empty, .string ByteArray.empty, .slice (some ⟨gS, 0, none⟩) 2 2] := by rw [← hW6]; exact (((HG8.out.later hS).other _ _ hne.symm).other _ _ hne.symm).other _ _ hne.symm
  have hg16 : Flds W6 gS TE (erCells (spU ⟨3, 0, ⟨#[120]⟩⟩)) := by rw [← hW6]; exact ((hf16.set 10 _).set 11 _).set 12 _
  have hs5 : w2.heap.size ≤ w5.heap.size := Nat.le_trans HB4.out.size hS.size
  have hb6 : Below w2.heap.size w2 W6 := by
    rw [← hW6]
    exact (((HB4.out.trans (hS.mono HB4.out.size)).grown (grown_setCell _ _ _) hs5 (fun k hk => by cases hk; exact hge2)).grown (grown_setCell _ _ _) (by simpa [World.setCell] using hs5) (fun k hk => by cases hk; exact hge2)).grown (grown_setCell _ _ _) (by simpa [World.setCell] using hs5) (fun k hk => by cases hk; exact hge2)
  rw [hW6]
  clear hf16 q10 q11 q12 z10 z11 z12 ll hW6 hS hs5
  have HT2 := Lib.hid (fun (W : World) (hb : Below W6.heap.size W6 W) => type_any (some ⟨gl, 0, none⟩) 1 1 spL rfl (by decide) sp_kinds false 2 (by decide) _ sp2 _ false W (sp_slim _ _) (sp_fit _ _ (by decide)) sp2_may (sp_at 12 ⟨3, 0, ⟨#[120]⟩⟩ (hg16.later hb)) (HL.out W (HB2.out.trans ((hb6.trans (hb.mono hb6.size)).mono HB2.out.size))))
  have HE2 := Lib.hid (fun (W : World) (hb : Below W6.heap.size W6 W) (aR : Option Addr) (hr : Row W (.slice aR 1 1) 3 1 (vCells [ofS ⟨#[121]⟩])) => eval_any (some ⟨gl, 0, none⟩) 1 1 spL rfl (by decide) aR 1 [ofS ⟨#[121]⟩] sp_ok false 2 (by decide) _ sp2 _ false W (sp_slim _ _) (sp_fit _ _ (by decide)) sp2_may (sp_parts _ _) (by rw [sp2_type]) (sp_at 12 ⟨3, 0, ⟨#[120]⟩⟩ (hg16.later hb)) (HL.out W (HB2.out.trans ((hb6.trans (hb.mono hb6.size)).mono HB2.out.size))) hr)
  rw [sp2_type] at HT2
  rw [sp2_eval] at HE2
  unfold spR Er.val null at HT2 HE2
  dsimp only at HT2 HE2
  have HG8' := Lib.hid hg8; have HB6 := Lib.hid hb6
  clear hg8 hg16 hb6 HG8 HG16 HB4 HL HOI HOX
  obtain ⟨y0, y1, y2, y3, y4, y5, y6, y7, l3⟩ := of_fe HG8'.out
  go_upto_region 7 with (go_at_call 10; refine (HT2.out _ (Below.refl _ _)).mono ?_; rintro en w7 ⟨rfl, hb⟩; have HC7 := Lib.hid hb; clear hb)
  clear y0 y1 y2 y3 y4 y5 y6 y7 l3 HT2
  refine ag.region_J (SpJ w7 (.agg #[.int .i64 3, .int .i64 12, .int .i64 0, .int .i64 0, .string ByteArray.empty, .string ByteArray.empty, .string ByteArray.empty, .slice (some ⟨gS, 0, none⟩) 2 2]) (.slice (some ⟨gl, 0, none⟩) 1 1)) (by kernel_rfl) (by kernel_rfl) ?h0 ?hI ?hend
  case h0 => exact SpJ.zero (Below.refl _ _).drew
  case hI =>
   intro xs
   unfold ag.ObJ
   refine ⟨fun b W hb hw hJ => ⟨by rfl, ?_⟩, ?_⟩
   · obtain ⟨y0, y1, y2, y3, y4, y5, y6, y7, l3⟩ := of_fe (HG8'.out.later (HC7.out.trans (hJ.1.mono HC7.out.size)))
     unfold ag.does
     go_simp
     exact hJ.step 0 (by decide) (by decide) (Below.refl _ _) rfl
   simp only [Act.put, List.setIfInBounds_toArray, List.set_cons_zero, List.set_cons_succ, Nat.reduceAdd]
   unfold ag.ObJ
   refine ⟨fun b W hb hw hJ => ⟨by rfl, ?_⟩, ?_⟩
   · unfold ag.does
     go_simp
     exact hJ.step 1 (by decide) (by decide) (Below.refl _ _) rfl
   simp only [Act.put, List.setIfInBounds_toArray, List.set_cons_zero, List.set_cons_succ, Nat.reduceAdd]
   unfold ag.ObJ
   refine ⟨fun b W hb hw hJ => ⟨by rfl, ?_⟩, ?_⟩
   · unfold ag.does
     go_simp
     refine (HOY.out W).mono (fun e w' h => ⟨_, h.1, hJ.step 2 (by decide) (by decide) h.2 rfl⟩)
   simp only [Act.put, List.setIfInBounds_toArray, List.set_cons_zero, List.set_cons_succ, Nat.reduceAdd]
   unfold ag.ObJ
   refine ⟨fun b W hb hw hJ => ⟨by rfl, ?_⟩, ?_⟩
   · have e2 : xs 2 = ag3 3 0 ⟨#[121]⟩ := hJ.at (hw 2 (by kernel_rfl))
     unfold ag3 at e2
     rw [e2]
     unfold ag.does
     go_simp
     exact hJ.step 3 (by decide) (by decide) ((Below.refl _ _).alloc (Nat.le_refl _) _) ⟨_, rfl, fun _ => Row.of_flds (Flds.new W TV _) rfl 1⟩
   simp only [Act.put, List.setIfInBounds_toArray, List.set_cons_zero, List.set_cons_succ, Nat.reduceAdd]
   unfold ag.ObJ
   refine ⟨fun b W hb hw hJ => ⟨by rfl, ?_⟩, ?_⟩
   · have hw0 := hw 0 (by kernel_rfl)
     have hw1 := hw 1 (by kernel_rfl)
     have hw3 := hw 3 (by kernel_rfl)
     have e0 := hJ.at hw0
     have e1 := hJ.at hw1
     obtain ⟨g3, e3, hr⟩ := hJ.at hw3
     have hr' := hr hb
     have e0' : xs 0 = _ := e0
     have e1' : xs 1 = _ := e1
     rw [e0', e1', e3]
     unfold ag.does
     go_simp
     exact ((HE2.out W (HC7.out.trans (hJ.1.mono HC7.out.size)) _ hr').mono (fun e w' h => ⟨_, h.1, hJ.step4 h.2 rfl⟩))
   simp only [Act.put, List.setIfInBounds_toArray, List.set_cons_zero, List.set_cons_succ, Nat.reduceAdd]
   unfold ag.ObJ
   refine ⟨fun b W hb hw hJ => ⟨by rfl, ?_⟩, ?_⟩
   · have e4 : xs 4 = _ := hJ.at (hw 4 (by kernel_rfl))
     rw [e4]
     unfold ag.does
     go_simp
     exact hJ.step 5 (by decide) (by decide) (Below.refl _ _) rfl
   simp only [Act.put, List.setIfInBounds_toArray, List.set_cons_zero, List.set_cons_succ, Nat.reduceAdd]
   unfold ag.ObJ
   refine ⟨fun b W hb hw hJ => ⟨by rfl, ?_⟩, ?_⟩
   · have e5 : xs 5 = _ := hJ.at (hw 5 (by kernel_rfl))
     rw [e5]
     unfold ag.does
     go_simp
     exact hJ.step 6 (by decide) (by decide) (Below.refl _ _) rfl
   simp only [Act.put, List.setIfInBounds_toArray, List.set_cons_zero, List.set_cons_succ, Nat.reduceAdd]
   unfold ag.ObJ
   refine ⟨fun b W hb hw hJ => ⟨by rfl, ?_⟩, ?_⟩
   · have e5 : xs 5 = _ := hJ.at (hw 5 (by kernel_rfl))
     rw [e5]
     unfold ag.does
     go_simp
     exact hJ.step 7 (by decide) (by decide) (Below.refl _ _) rfl
   simp only [Act.put, List.setIfInBounds_toArray, List.set_cons_zero, List.set_cons_succ, Nat.reduceAdd]
   unfold ag.ObJ
   refine ⟨fun b W hb hw hJ => ⟨by rfl, ?_⟩, ?_⟩
   · have h9 : b 9 = false := by cases h : b 9 with | false => rfl | true => exact absurd (hJ.2.1 h).2 (by rw [hb]; decide)
     unfold ag.does
     go_simp
     exact hJ.step 8 (by decide) (by decide) ((Below.refl _ _).alloc (Nat.le_refl _) _) ⟨_, rfl, hJ.1.size, by rw [h9]; exact Flds.new W TV _⟩
   simp only [Act.put, List.setIfInBounds_toArray, List.set_cons_zero, List.set_cons_succ, Nat.reduceAdd]
   unfold ag.ObJ
   refine ⟨fun b W hb hw hJ => ⟨by rfl, ?_⟩, ?_⟩
   · have hw4 := hw 4 (by kernel_rfl)
     have hw8 := hw 8 (by kernel_rfl)
     have e6 : xs 6 = _ := hJ.at (hw 6 (by kernel_rfl))
     obtain ⟨g8, e8, hg8, hf⟩ := hJ.at hw8
     have hb' : b 9 = false := hb
     rw [hb', if_neg (by decide)] at hf
     unfold ag3 at e6
     rw [e6, e8]
     obtain ⟨c0, c1, c2, -, lc⟩ := fd3 hf
     have z0 := hf.frozen 0
     have z1 := hf.frozen 1
     have z2 := hf.frozen 2
     unfold ag.does
     go_simp
     exact hJ.step9 hw4 hw8 e8 hg8 (grown_two (grown_two (grown_setCell _ ⟨g8, 0, none⟩ _) (grown_setCell _ ⟨g8, 1, none⟩ _)) (grown_setCell _ ⟨g8, 2, none⟩ _)) (((hf.set 0 _).set 1 _).set 2 _)
   simp only [Act.put, List.setIfInBounds_toArray, List.set_cons_zero, List.set_cons_succ, Nat.reduceAdd]
   unfold ag.ObJ
   refine ⟨fun b W hb hw hJ => ⟨by rfl, ?_⟩, ?_⟩
   · have e7 : xs 7 = _ := hJ.at (hw 7 (by kernel_rfl))
     rw [e7]
     unfold ag.does
     go_simp
     exact hJ.step 10 (by decide) (by decide) (Below.refl _ _) rfl
   simp only [Act.put, List.setIfInBounds_toArray, List.set_cons_zero, List.set_cons_succ, Nat.reduceAdd]
   unfold ag.ObJ
   trivial
  case hend =>
    intro b xs W hb hJ
    have e0 : xs 0 = _ := hJ.at (hb 0 (by decide))
    have e1 : xs 1 = _ := hJ.at (hb 1 (by decide))
    have e2 : xs 2 = _ := hJ.at (hb 2 (by decide))
    obtain ⟨g3, e3, -⟩ := hJ.at (hb 3 (by decide))
    have e4 : xs 4 = _ := hJ.at (hb 4 (by decide))
    have e5 : xs 5 = _ := hJ.at (hb 5 (by decide))
    have e6 : xs 6 = _ := hJ.at (hb 6 (by decide))
    have e7 : xs 7 = _ := hJ.at (hb 7 (by decide))
    obtain ⟨g8, e8, hg8, hf⟩ := hJ.at (hb 8 (by decide))
    have e10 : xs 10 = _ := hJ.at (hb 10 (by decide))
    rw [hb 9 (by decide), if_pos rfl] at hf
    have HBW := Lib.hid hJ.1
    have HFB := Lib.hid hf
    clear hf hJ hb
    simp only [ag.frameJ, Act.put, List.setIfInBounds_toArray, List.set_cons_zero, List.set_cons_succ, Nat.reduceAdd]
    rw [e0, e1, e2, e3, e4, e5, e6, e7, e8, e10]
    clear e0 e1 e2 e3 e4 e5 e6 e7 e8 e10
    unfold ag3
    go_upto_region 8 with fail
    apply ag.region_calm (ag.Spec.val _ :: ag.Spec.val _ :: ag.Spec.val _ :: ag.Spec.val _ :: ag.Spec.val _ :: ag.Spec.val _ :: ag.Spec.val _ :: ag.Spec.val _ :: ag.Spec.val _ :: ag.Spec.val _ :: ag.Spec.val _ :: ag.Spec.val _ :: ag.Spec.val _ :: ag.Spec.val _ :: ag.Spec.val _ :: ag.Spec.val _ :: ag.Spec.sat (fun v _ => v = .agg #[.int .i64 3, .int .i64 0, .string ⟨#[121, 120]⟩]) ag.grew :: ag.Spec.val (.bool true) :: ag.Spec.val _ :: ag.Spec.val _ :: [])
    case hm => kernel_rfl
    case hB => kernel_rfl
    case hlen => rfl
    case hc => exact ⟨⟨ag.lasts_eq _, rfl⟩, trivial⟩
    apply ag.walk_val
    · rfl
    · intro W1 hS hE
      clear hS hE
      unfold ag.does
      go_simp
      first | done | exact ⟨rfl, rfl⟩ | rfl | (exact ⟨by go_num, rfl⟩) | (simp; done) | trace_state
    simp only [Act.put, List.setIfInBounds_toArray, List.set_cons_zero, List.set_cons_succ]
    apply ag.walk_val
    · rfl
    · intro W1 hS hE
      clear hS hE
      unfold ag.does
      go_simp
      first | done | exact ⟨rfl, rfl⟩ | rfl | (exact ⟨by go_num, rfl⟩) | (simp; done) | trace_state
    simp only [Act.put, List.setIfInBounds_toArray, List.set_cons_zero, List.set_cons_succ]
    apply ag.walk_val
    · rfl
    · intro W1 hS hE
      clear hS hE
      unfold ag.does
      go_simp
      first | done | exact ⟨rfl, rfl⟩ | rfl | (exact ⟨by go_num, rfl⟩) | (simp; done) | trace_state
    simp only [Act.put, List.setIfInBounds_toArray, List.set_cons_zero, List.set_cons_succ]
    apply ag.walk_val
    · rfl
    · intro W1 hS hE
      clear hS hE
      unfold ag.does
      go_simp
      first | done | exact ⟨rfl, rfl⟩ | rfl | (exact ⟨by go_num, rfl⟩) | (simp; done) | trace_state
    simp only [Act.put, List.setIfInBounds_toArray, List.set_cons_zero, List.set_cons_succ]
    apply ag.walk_val
    · rfl
    · intro W1 hS hE
      clear hS hE
      unfold ag.does
      go_simp
      first | done | exact ⟨rfl, rfl⟩ | rfl | (exact ⟨by go_num, rfl⟩) | (simp; done) | trace_state
    simp only [Act.put, List.setIfInBounds_toArray, List.set_cons_zero, List.set_cons_succ]
    apply ag.walk_val
    · rfl
    · intro W1 hS hE
      clear hS hE
      unfold ag.does
      go_simp
      first | done | exact ⟨rfl, rfl⟩ | rfl | (exact ⟨by go_num, rfl⟩) | (simp; done) | trace_state
    simp only [Act.put, List.setIfInBounds_toArray, List.set_cons_zero, List.set_cons_succ]
    apply ag.walk_val
    · rfl
    · intro W1 hS hE
      clear hS hE
      unfold ag.does
      go_simp
      first | done | exact ⟨rfl, rfl⟩ | rfl | (exact ⟨by go_num, rfl⟩) | (simp; done) | trace_state
    simp only [Act.put, List.setIfInBounds_toArray, List.set_cons_zero, List.set_cons_succ]
    apply ag.walk_val
    · rfl
    · intro W1 hS hE
      clear hS hE
      unfold ag.does
      go_simp
      first | done | exact ⟨rfl, rfl⟩ | rfl | (exact ⟨by go_num, rfl⟩) | (simp; done) | trace_state
    simp only [Act.put, List.setIfInBounds_toArray, List.set_cons_zero, List.set_cons_succ]
    apply ag.walk_val
    · rfl
    · intro W1 hS hE
      clear hS hE
      unfold ag.does
      go_simp
      first | done | exact ⟨rfl, rfl⟩ | rfl | (exact ⟨by go_num, rfl⟩) | (simp; done) | trace_state
    simp only [Act.put, List.setIfInBounds_toArray, List.set_cons_zero, List.set_cons_succ]
    apply ag.walk_val
    · rfl
    · intro W1 hS hE
      clear hS hE
      unfold ag.does
      go_simp
      first | done | exact ⟨rfl, rfl⟩ | rfl | (exact ⟨by go_num, rfl⟩) | (simp; done) | trace_state
    simp only [Act.put, List.setIfInBounds_toArray, List.set_cons_zero, List.set_cons_succ]
    apply ag.walk_val
    · rfl
    · intro W1 hS hE
      clear hS hE
      unfold ag.does
      go_simp
      first | done | exact ⟨rfl, rfl⟩ | rfl | (exact ⟨by go_num, rfl⟩) | (simp; done) | trace_state
    simp only [Act.put, List.setIfInBounds_toArray, List.set_cons_zero, List.set_cons_succ]
    apply ag.walk_val
    · rfl
    · intro W1 hS hE
      clear hS hE
      unfold ag.does
      go_simp
      first | done | exact ⟨rfl, rfl⟩ | rfl | (exact ⟨by go_num, rfl⟩) | (simp; done) | trace_state
    simp only [Act.put, List.setIfInBounds_toArray, List.set_cons_zero, List.set_cons_succ]
    apply ag.walk_val
    · rfl
    · intro W1 hS hE
      clear hS hE
      unfold ag.does
      go_simp
      first | done | exact ⟨rfl, rfl⟩ | rfl | (exact ⟨by go_num, rfl⟩) | (simp; done) | trace_state
    simp only [Act.put, List.setIfInBounds_toArray, List.set_cons_zero, List.set_cons_succ]
    apply ag.walk_val
    · rfl
    · intro W1 hS hE
      clear hS hE
      unfold ag.does
      go_simp
      first | done | exact ⟨rfl, rfl⟩ | rfl | (exact ⟨by go_num, rfl⟩) | (simp; done) | trace_state
    simp only [Act.put, List.setIfInBounds_toArray, List.set_cons_zero, List.set_cons_succ]
    apply ag.walk_val
    · rfl
    · intro W1 hS hE
      clear hS hE
      unfold ag.does
      go_simp
      first | done | exact ⟨rfl, rfl⟩ | rfl | (exact ⟨by go_num, rfl⟩) | (simp; done) | trace_state
    simp only [Act.put, List.setIfInBounds_toArray, List.set_cons_zero, List.set_cons_succ]
    apply ag.walk_val
    · rfl
    · intro W1 hS hE
      obtain ⟨c0, c1, c2, -, lc⟩ := fd3 (HFB.out.later hS)
      clear hS hE
      unfold ag.does
      go_simp
      first | done | exact ⟨rfl, rfl⟩ | rfl | (exact ⟨by go_num, rfl⟩) | (simp; done) | trace_state
    simp only [Act.put, List.setIfInBounds_toArray, List.set_cons_zero, List.set_cons_succ]
    refine ag.walk_such (by rfl) (fun W1 hS hE => ?_) (fun y16 => ?_)
    · have hc := HOZ.out W1
      clear hE
      unfold ag.does
      go_simp
      first | done | (exact hc.mono (fun e w' h => ⟨_, h.1, rfl, h.2⟩))
    simp only [Act.put, List.setIfInBounds_toArray, List.set_cons_zero, List.set_cons_succ]
    apply ag.walk_val
    · rfl
    · intro W1 hS hE
      have e16 : y16 = .agg #[.int .i64 3, .int .i64 0, .string ⟨#[121, 120]⟩] := hE.of 16 (by kernel_rfl)
      subst e16
      clear hS hE
      unfold ag.does
      go_simp
      first | done | exact ⟨rfl, rfl⟩ | rfl | (exact ⟨by go_num, rfl⟩) | (simp; done) | trace_state
    simp only [Act.put, List.setIfInBounds_toArray, List.set_cons_zero, List.set_cons_succ]
    apply ag.walk_val
    · rfl
    · intro W1 hS hE
      clear hS hE
      unfold ag.does
      go_simp
      first | done | exact ⟨rfl, rfl⟩ | rfl | (exact ⟨by go_num, rfl⟩) | (simp; done) | trace_state
    simp only [Act.put, List.setIfInBounds_toArray, List.set_cons_zero, List.set_cons_succ]
    apply ag.walk_val
    · rfl
    · intro W1 hS hE
      clear hS hE
      unfold ag.does
      go_simp
      first | done | exact ⟨rfl, rfl⟩ | rfl | (exact ⟨by go_num, rfl⟩) | (simp; done) | trace_state
    simp only [Act.put, List.setIfInBounds_toArray, List.set_cons_zero, List.set_cons_succ]
    refine ag.walk_nil (fun w9 hS hF hP => ?_)
    clear hP
    clear hF
    have HS9 := Lib.hid hS
    clear hS
    go_wp2_with fail
    go_ret
    have b1 : Below w.heap.size w w2 := HB1.out.trans (HB2.out.mono HB1.out.size)
    have b2 : Below w.heap.size w W6 := b1.trans (HB6.out.mono b1.size)
    have b3 : Below w.heap.size w w7 := b2.trans (HC7.out.mono b2.size)
    have b4 : Below w.heap.size w W := b3.trans (HBW.out.mono b3.size)
    exact ⟨rfl, b4.trans (HS9.out.mono b4.size)⟩
end Go.Proofs.Ytjnlimahcodomaa.ck
