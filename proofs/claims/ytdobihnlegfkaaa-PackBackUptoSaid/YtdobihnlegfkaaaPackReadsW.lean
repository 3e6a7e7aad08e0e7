/- The law PackReads, walked. -/
import Derived.Test.YtdobihnlegfkaaaPackL
import Derived.Test.YtdobihnlegfkaaaAllW
import Derived.Test.YtdobihnlegfkaaaRefSplit
namespace Go.Proofs.Ytdobihnlegfkaaa
set_option linter.unusedVariables false
open Go.RowKit Go.Shelf
attribute [local go_sem] Oper.semAt_some

theorem splitF_length : ∀ (f : Nat) (s : ByteArray), (splitF f s).1.length ≤ f
  | 0, s => Nat.le_refl 0
  | f + 1, s => by
    rw [splitF]
    split
    · exact Nat.zero_le _
    · have := splitF_length f (s.extract (4 + cutN s) s.size)
      simp only [List.length_cons]; omega
theorem splitS_length (s : ByteArray) : (splitS s).1.length ≤ s.size := splitF_length _ s

set_option maxRecDepth 100000 in
set_option maxHeartbeats 4000000 in
theorem reads_in (s : ByteArray) (hs : s.size ≤ 9223372036854775807) (w : World) :
    CallsIn Fence.wide 3 Try.prog 4 #[.string s] w fun e w' => e = .returned (.bool true) ∧ Below w.heap.size w w' := by
  refine callsIn_of_wp_marks Try.func4 rfl trivial ?_ rfl
  simp only [Try.ntmps4, List.size_toArray, List.length_cons, List.length_nil, Nat.reduceAdd, Nat.reduceSub, Array.replicate_succ, Array.replicate_zero, List.push_toArray, List.append_toArray, List.nil_append, List.cons_append]
  gi_wp2_with (refine ⟨trivial, ?_⟩; gi_at_call 10; refine (callsIn_wide.2 (pack_speaks _)).mono ?_; rintro e w1 ⟨rfl, hb1⟩)
  obtain ⟨X, hX, eX⟩ : ∃ X : ByteArray, X.size ≤ 200 ∧ s.extract 0 (min (s.size : Int) 200).toNat = X := ⟨_, by rw [ByteArray.size_extract]; omega, rfl⟩
  rw [eX]
  clear eX
  refine ⟨trivial, ?_⟩
  refine (callsIn_wide.2 (refSplit_any X _ (by omega))).mono ?_
  rintro e w2 ⟨vw, rfl, hown2, hb2⟩
  obtain ⟨aw, cw, rfl⟩ := owns_form hown2
  gi_wp2_with fail
  obtain ⟨W2, hW2, hB2, c3, c4⟩ : ∃ W2, (w2.alloc (.cells #[.slice aw (splitS X).1.length cw] 22)).alloc (.cells #[.bool (splitS X).2] 4) = W2 ∧ Below w2.heap.size w2 W2 ∧ W2.cell? ⟨w2.heap.size, 0, none⟩ = some (.slice aw (splitS X).1.length cw) ∧ W2.cell? ⟨w2.heap.size + 1, 0, none⟩ = some (.bool (splitS X).2) :=
    ⟨_, rfl, ((Below.refl _ _).alloc (Nat.le_refl _) _).alloc (by simp) _, cell_later ((Below.refl _ _).alloc (Nat.le_refl _) _) (cells_new _ [_] _ 0), by rw [show w2.heap.size + 1 = (w2.alloc (.cells #[.slice aw (splitS X).1.length cw] 22)).heap.size by simp]; exact cells_new _ [_] _ 0⟩
  rw [hW2]
  clear hW2
  refine ⟨trivial, ?_⟩
  refine (callsIn_wide.2 (split_any X _ (by omega))).mono ?_
  rintro e w3 ⟨vl, rfl, hown3, hb3⟩
  obtain ⟨al, nl, cl, rfl, hnl, hrow⟩ : ∃ al nl cl, vl = .slice al nl cl ∧ ((splitS X).2 = false → nl = 0) ∧ ((splitS X).2 = true → nl = (splitS X).1.length ∧ Row w3 vl 1 nl ((splitS X).1.map Value.string)) := by
    cases hb : (splitS X).2
    · rw [hb, if_neg (by decide)] at hown3
      exact ⟨_, _, _, hown3, fun _ => rfl, fun h => by cases h⟩
    · rw [hb, if_pos rfl] at hown3
      obtain ⟨a, c, rfl⟩ := owns_form hown3
      exact ⟨_, _, _, rfl, fun h => (by cases h), fun _ => ⟨rfl, Row.of_owns hown3⟩⟩
  clear hown3
  have hrw : Row w3 (.slice aw (splitS X).1.length cw) 1 (splitS X).1.length ((splitS X).1.map Value.string) := ((Row.of_owns hown2).later hB2).later hb3
  have d3 := cell_later hb3 c3
  have d4 := cell_later hb3 c4
  have hBw : Below w.heap.size w w3 := ((((Below.refl _ w).alloc (Nat.le_refl _) _).trans (hb1.mono (by simp))).trans (hb2.mono (by have := hb1.size; simp at this; omega))).trans ((hB2.mono (by have := hb1.size; have := hb2.size; simp at *; omega)).trans (hb3.mono (by have := hb1.size; have := hb2.size; have := hB2.size; simp at *; omega)))
  have cr : Boxed w3 w.heap.size 4 (.bool false) := boxed_later (boxed_later (boxed_later (boxed_later (Boxed.new w _ _) hb1) hb2) hB2) hb3
  clear c3 c4 hown2 hb1 hb2 hB2 hb3
  have hN := splitS_length X
  have d3a : ∀ o, (w3.alloc o).cell? ⟨w2.heap.size, 0, none⟩ = some (.slice aw (splitS X).1.length cw) := fun o => cell_later ((Below.refl _ _).alloc (Nat.le_refl _) o) d3
  have d4a : ∀ o, (w3.alloc o).cell? ⟨w2.heap.size + 1, 0, none⟩ = some (.bool (splitS X).2) := fun o => cell_later ((Below.refl _ _).alloc (Nat.le_refl _) o) d4
  have HN := Lib.hid hN
  have hlo : (0 : Int) ≤ ((splitS X).1.length : Int) := by omega
  have hhi : ((splitS X).1.length : Int) ≤ 200 := by omega
  clear hN
  cases hb : (splitS X).2
  · rw [hb] at d4a d4
    have h0 := hnl hb
    subst h0
    clear hrow hnl
    have HRW := Lib.hid hrw
    clear hrw
    gi_wp2_with fail
    any_goals first | (cases ‹some undef = some (Value.bool _)›; done) | skip
    clear d3a d4a
    obtain ⟨W5, hW5⟩ : ∃ W5, w3.alloc (.cells #[.slice al 0 cl] 22) = W5 := ⟨_, rfl⟩
    have hB5 : Below w3.heap.size w3 W5 := by rw [← hW5]; exact (Below.refl _ _).alloc (Nat.le_refl _) _
    have c5 : W5.cell? ⟨w3.heap.size, 0, none⟩ = some (.slice al 0 cl) := by rw [← hW5]; exact cells_new w3 [_] _ 0
    have c3 := cell_later hB5 d3
    have c4 := cell_later hB5 d4
    have cr5 := boxed_later cr hB5
    have HRW5 := Lib.hid (HRW.out.later hB5)
    have hBw5 : Below w.heap.size w W5 := hBw.trans (hB5.mono hBw.size)
    have hz : w3.heap.size + 1 = W5.heap.size := by rw [← hW5]; simp
    rw [hW5, hz]
    clear hz hW5 hB5 HRW cr d3 d4 hBw
    refine ⟨trivial, ?_⟩
    refine (all_in _ _ _).mono ?_
    rintro e w6 ⟨rfl, rfl⟩
    gi_wp2
    have bN := Boxed.new W5 3 (.int .i64 0)
    have bS : ((W5.alloc (.cells #[.int .i64 0] 3)).alloc (.cells #[.string X] 9)).cell? ⟨(W5.alloc (.cells #[.int .i64 0] 3)).heap.size, 0, none⟩ = some (.string X) := cells_new _ [_] _ 0
    have hB0 : Below W5.heap.size W5 ((W5.alloc (.cells #[.int .i64 0] 3)).alloc (.cells #[.string X] 9)) := ((Below.refl _ _).alloc (Nat.le_refl _) _).alloc (by simp) _
    rw [World.size_alloc] at bS
    refine range_idx rfl (by decide) (gf := 38) (lb := #[.pointer (some ⟨W5.heap.size + 1, 0, none⟩)]) rfl trivial (enters_of Try.func38 (by kernel_rfl) rfl)
      (all_idx _ (by decide) (W5.heap.size + 1) X (by omega) _ bS) (fun _ _ => trivial) (fun _ _ _ _ _ _ _ _ => trivial) (fun _ => rfl)
      (fun k W => (W.cell? ⟨W5.heap.size, 0, none⟩ = some (.int .i64 (k : Int)) ∧ W.frozen? ⟨W5.heap.size, 0, none⟩ = false) ∧ Below W5.heap.size W5 W)
      (fun _ _ _ => False)
      (OwnFrom.and (Own.from (fun s A B row hs hg hr => ⟨cell_kept hs.1 hg hr, (frozen_kept hs.1 hg hr).trans hs.2⟩) _) (ownFrom_below (Nat.le_refl _) (by simp; omega)))
      (fun _ _ _ _ _ hs _ _ => hs)
      ⟨⟨(bN.alloc _).cell, (bN.alloc _).frozen⟩, hB0⟩ ?a1 ?assign ?body ?done ?stop
    case assign =>
      intro l k W K hk hI hK
      clear hk hI
      unfold allArgs
      gi_wp2
      exact hK
    case body =>
      rintro l k W hk ⟨⟨hc, hf⟩, hB⟩
      obtain ⟨bw, ow, cw', ew, hcw⟩ := HRW5.out.pos (by omega)
      simp only [Value.slice.injEq] at ew
      obtain ⟨rfl, -, rfl⟩ := ew
      have g3 := cell_later hB c3
      have g4 := cell_later hB c4
      have g5 := cell_later hB c5
      have hitem : ((splitS X).1.map Value.string)[k]? = some (.string ((splitS X).1[k]?.getD ByteArray.empty)) := by
        rw [List.getElem?_map, List.getElem?_eq_getElem hk]; rfl
      have gw := cell_later hB ((hcw k (by omega)).trans hitem)
      clear hcw hitem
      have hk1 : (k : Int) < ((splitS X).1.length : Int) := by omega
      have hk2 : (0 : Int) ≤ (k : Int) := by omega
      generalize (splitS X).1[k]?.getD ByteArray.empty = T at *
      gi_wp2
      refine ⟨(KeepsOthers.setCell _ _ _).from _, trivial, ⟨?_, ?_⟩, hB.setCell (p := ⟨W5.heap.size, 0, none⟩) (Nat.le_refl _) _⟩
      · exact World.cell?_setCell_same' _ _ _ (by rw [hc]; rfl)
      · rw [World.frozen?_setCell]; exact hf
    case done =>
      rintro D W hD ⟨⟨hc, hf⟩, hB⟩ hK
      have g3 := cell_later hB c3
      have gr := boxed_later cr5 hB
      have gr1 := gr.cell
      have gr2 := gr.frozen
      gi_wp2
      have hK' := (KeepsOthers.setCell W ⟨w.heap.size, 0, none⟩ (.bool true)).same D _ hK rfl
      refine ⟨by simp, .inl ⟨_, _, rfl, run_takeDeferred hK', ?_⟩⟩
      have hc5 := cell_kept (World.cell?_setCell_same' W ⟨w.heap.size, 0, none⟩ (.bool true) (by rw [gr1]; rfl)) (grownBy_putObj' _ D (.deferred none)) (fun r e => by cases e; exact ⟨_, hK', rfl⟩)
      refine ⟨.bool true, ?_, rfl, ((hBw5.trans (hB.mono hBw5.size)).setCell (p := ⟨w.heap.size, 0, none⟩) (Nat.le_refl _) _).trans (belowK_b (w := w) (Nat.le_refl _) _ D _ _ (by have := hBw5.size; simp at hD; omega) hK' rfl rfl)⟩
      simp [results, Try.f4, go_sem, hc5]
    case stop =>
      rintro D c k W _ _ h _
      exact h.elim
  · rw [hb] at d4a d4
    obtain ⟨rfl, hrl⟩ := hrow hb
    clear hrow hnl
    have HRL := Lib.hid hrl; have HRW := Lib.hid hrw
    clear hrl hrw
    gi_wp2_with fail
    any_goals first | (cases ‹some undef = some (Value.bool _)›; done) | skip
    clear d3a d4a
    obtain ⟨W5, hW5⟩ : ∃ W5, w3.alloc (.cells #[.slice al (splitS X).1.length cl] 22) = W5 := ⟨_, rfl⟩
    have hB5 : Below w3.heap.size w3 W5 := by rw [← hW5]; exact (Below.refl _ _).alloc (Nat.le_refl _) _
    have c5 : W5.cell? ⟨w3.heap.size, 0, none⟩ = some (.slice al (splitS X).1.length cl) := by rw [← hW5]; exact cells_new w3 [_] _ 0
    have c3 := cell_later hB5 d3
    have c4 := cell_later hB5 d4
    have cr5 := boxed_later cr hB5
    have HRL5 := Lib.hid (HRL.out.later hB5)
    have HRW5 := Lib.hid (HRW.out.later hB5)
    have hBw5 : Below w.heap.size w W5 := hBw.trans (hB5.mono hBw.size)
    have hz : w3.heap.size + 1 = W5.heap.size := by rw [← hW5]; simp
    rw [hW5, hz]
    clear hz hW5 hB5 HRL HRW cr d3 d4 hBw
    refine ⟨trivial, ?_⟩
    refine (all_in _ _ _).mono ?_
    rintro e w6 ⟨rfl, rfl⟩
    gi_wp2
    have bN := Boxed.new W5 3 (.int .i64 0)
    have bS : ((W5.alloc (.cells #[.int .i64 0] 3)).alloc (.cells #[.string X] 9)).cell? ⟨(W5.alloc (.cells #[.int .i64 0] 3)).heap.size, 0, none⟩ = some (.string X) := cells_new _ [_] _ 0
    have hB0 : Below W5.heap.size W5 ((W5.alloc (.cells #[.int .i64 0] 3)).alloc (.cells #[.string X] 9)) := ((Below.refl _ _).alloc (Nat.le_refl _) _).alloc (by simp) _
    rw [World.size_alloc] at bS
    refine range_idx rfl (by decide) (gf := 38) (lb := #[.pointer (some ⟨W5.heap.size + 1, 0, none⟩)]) rfl trivial (enters_of Try.func38 (by kernel_rfl) rfl)
      (all_idx _ (by decide) (W5.heap.size + 1) X (by omega) _ bS) (fun _ _ => trivial) (fun _ _ _ _ _ _ _ _ => trivial) (fun _ => rfl)
      (fun k W => (W.cell? ⟨W5.heap.size, 0, none⟩ = some (.int .i64 (k : Int)) ∧ W.frozen? ⟨W5.heap.size, 0, none⟩ = false) ∧ Below W5.heap.size W5 W)
      (fun _ _ _ => False)
      (OwnFrom.and (Own.from (fun s A B row hs hg hr => ⟨cell_kept hs.1 hg hr, (frozen_kept hs.1 hg hr).trans hs.2⟩) _) (ownFrom_below (Nat.le_refl _) (by simp; omega)))
      (fun _ _ _ _ _ hs _ _ => hs)
      ⟨⟨(bN.alloc _).cell, (bN.alloc _).frozen⟩, hB0⟩ ?a2 ?assign2 ?body2 ?done2 ?stop2
    case assign2 =>
      intro l k W K hk hI hK
      clear hk hI
      unfold allArgs
      gi_wp2
      exact hK
    case body2 =>
      rintro l k W hk ⟨⟨hc, hf⟩, hB⟩
      obtain ⟨bl, ol, cl', el, hcl⟩ := HRL5.out.pos (by omega)
      obtain ⟨bw, ow, cw', ew, hcw⟩ := HRW5.out.pos (by omega)
      simp only [Value.slice.injEq] at el ew
      obtain ⟨rfl, -, rfl⟩ := el
      obtain ⟨rfl, -, rfl⟩ := ew
      have g3 := cell_later hB c3
      have g4 := cell_later hB c4
      have g5 := cell_later hB c5
      have hitem : ((splitS X).1.map Value.string)[k]? = some (.string ((splitS X).1[k]?.getD ByteArray.empty)) := by
        rw [List.getElem?_map, List.getElem?_eq_getElem hk]; rfl
      have gl := cell_later hB ((hcl k (by omega)).trans hitem)
      have gw := cell_later hB ((hcw k (by omega)).trans hitem)
      clear hcl hcw hitem
      have hk1 : (k : Int) < ((splitS X).1.length : Int) := by omega
      have hk2 : (0 : Int) ≤ (k : Int) := by omega
      generalize (splitS X).1[k]?.getD ByteArray.empty = T at *
      gi_wp2
      refine ⟨(KeepsOthers.setCell _ _ _).from _, trivial, ⟨?_, ?_⟩, hB.setCell (p := ⟨W5.heap.size, 0, none⟩) (Nat.le_refl _) _⟩
      · exact World.cell?_setCell_same' _ _ _ (by rw [hc]; rfl)
      · rw [World.frozen?_setCell]; exact hf
    case done2 =>
      rintro D W hD ⟨⟨hc, hf⟩, hB⟩ hK
      have g3 := cell_later hB c3
      have gr := boxed_later cr5 hB
      have gr1 := gr.cell
      have gr2 := gr.frozen
      gi_wp2
      have hK' := (KeepsOthers.setCell W ⟨w.heap.size, 0, none⟩ (.bool true)).same D _ hK rfl
      refine ⟨by simp, .inl ⟨_, _, rfl, run_takeDeferred hK', ?_⟩⟩
      have hc5 := cell_kept (World.cell?_setCell_same' W ⟨w.heap.size, 0, none⟩ (.bool true) (by rw [gr1]; rfl)) (grownBy_putObj' _ D (.deferred none)) (fun r e => by cases e; exact ⟨_, hK', rfl⟩)
      refine ⟨.bool true, ?_, rfl, ((hBw5.trans (hB.mono hBw5.size)).setCell (p := ⟨w.heap.size, 0, none⟩) (Nat.le_refl _) _).trans (belowK_b (w := w) (Nat.le_refl _) _ D _ _ (by have := hBw5.size; simp at hD; omega) hK' rfl rfl)⟩
      simp [results, Try.f4, go_sem, hc5]
    case stop2 =>
      rintro D c k W _ _ h _
      exact h.elim

theorem reads_walk (s : ByteArray) (hs : s.size ≤ 9223372036854775807) (w : World) :
    Calls Try.prog 4 #[.string s] w fun e w' => e = .returned (.bool true) ∧ Below w.heap.size w w' :=
  callsIn_wide.1 (reads_in s hs w)

end Go.Proofs.Ytdobihnlegfkaaa
