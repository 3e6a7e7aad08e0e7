/- A list that grows by one copied record: what a region that makes room, copies and stores leaves. No walk but of one store. -/
import Derived.Test.YtjnlimahcodomaaCheckY
import Derived.Test.YtjnlimahcodomaaCheckK
import Derived.Test.YtjnlimahcodomaaAgInJ
import Derived.Test.YtjnlimahcodomaaRngBXa
import Derived.Test.YtjnlimahcodomaaCheckR
namespace Go.Proofs.Ytjnlimahcodomaa.ck
set_option linter.unusedVariables false
open Go.RowKit
open val (V null)
open ex (Ex Er TE ExAt NewL erCells rowOf OnlyL OnlyL.of_below)
abbrev TL : TypeId := 34
def zE : List Value := [.int .i64 0, .int .i64 0, .int .i64 0, .int .i64 0, .string (ByteArray.mk #[]), .string (ByteArray.mk #[]), .string (ByteArray.mk #[]), .slice none 0 0]
/-- behind the append: f7: the copy is stored; f8: the list is back in its box -/
structure F5 (X : World) (B gL d m : Nat) (L : Value) (l : List Ex) (ss : List Er) (x : Ex) (s : Er) (L' : Value) (f7 f8 : Bool) (W : World) : Prop where
  os : W.os = X.os
  tape : W.tape = X.tape
  output : W.output = X.output
  size : X.heap.size ≤ W.heap.size
  kept : ∀ k o, X.heap[k]? = some o → k ≠ gL → L.ownBlock ≠ some k → W.heap[k]? = some o
  form : ∃ a c, L' = .slice a (m + 1) c
  row : W.ownsRow B TE 8 L' (m + 1) (erCells ss ++ (if f7 then s.cells else zE))
  lies : L'.ownBlock = L.ownBlock ∨ ∀ k, L'.ownBlock = some k → X.heap.size ≤ k
  trees : ∀ (i : Nat) y r, l[i]? = some y → ss[i]? = some r → ExAt TE (fun b => B ≤ b ∧ L'.ownBlock ≠ some b) d W y r
  tree : ExAt TE (fun b => B ≤ b ∧ L'.ownBlock ≠ some b) d W x s
  box : Flds W gL TL [if f8 then L' else L]
section
variable {X W W1 W' : World} {B gL d m : Nat} {L L' : Value} {l : List Ex} {ss : List Er} {x : Ex} {s : Er} {f7 f8 : Bool}
theorem F5.start (hN : NewL TE B d l m L ss X) (hlm : l.length = m) (hbx : Flds X gL TL [L]) (hgB : gL < B) (hBX : B ≤ X.heap.size) (hb : Below X.heap.size X W1) (hs : ExAt TE (fun b => X.heap.size ≤ b) d W1 x s) (hap : Appended B TE 8 L m 1 (erCells ss) zE W1 L' W) : F5 X B gL d m L l ss x s L' false false W := by
  have hLX : ∀ b, L.ownBlock = some b → B ≤ b ∧ b < X.heap.size := fun b e => hN.row.lt b e
  have hl := hap.lies
  have up : ∀ {Y : Nat → Prop} {y : Ex} {r : Er}, ExAt TE Y d W1 y r → (∀ b, b < W1.heap.size → Y b → B ≤ b ∧ L.ownBlock ≠ some b) → ExAt TE (fun b => B ≤ b ∧ L'.ownBlock ≠ some b) d W y r := by
    intro Y y r hy hY
    have h1 : ExAt TE (fun b => (B ≤ b ∧ L.ownBlock ≠ some b) ∧ b < W1.heap.size) d W1 y r := hy.mono (Nat.le_refl _) (fun b hb hXb => ⟨hY b hb hXb, hb⟩)
    have h2 := h1.grown hap.grown (fun b e hXb => hXb.1.2 e)
    refine h2.mono (Nat.le_refl _) (fun b _ hb => ⟨hb.1.1, fun e => ?_⟩)
    rcases hl with h0 | h0 | h0
    · rw [h0] at e; cases e
    · rw [h0] at e; exact hb.1.2 e
    · rw [h0] at e; simp only [Option.some.injEq] at e; omega
  have hg := hap.grown
  refine ⟨hg.os.trans hb.os, hg.tape.trans hb.tape, hg.output.trans hb.output, Nat.le_trans hb.size hg.size, fun k o ho hk hL => ?_, hap.form, hap.own, ?_, fun i y r hy hr => ?_, up hs (fun b _ hbX => ⟨Nat.le_trans hBX hbX, fun e => by have := (hLX b e).2; omega⟩), ?_⟩
  · have hlt := (Array.getElem?_eq_some_iff.1 ho).1
    exact (hg.block k (Nat.lt_of_lt_of_le hlt hb.size) (fun e => hL e.symm)).trans ((hb.block k hlt).trans ho)
  · rcases hl with h0 | h0 | h0
    · exact .inr (fun k e => by rw [h0] at e; cases e)
    · exact .inl h0
    · exact .inr (fun k e => by rw [h0] at e; simp only [Option.some.injEq] at e; have := hb.size; omega)
  · have hi : i < m := by rw [← hlm]; exact (List.getElem?_eq_some_iff.1 hy).1
    exact up ((hN.at_ i y r hi hy hr).later hb) (fun b _ hb => hb)
  · exact (hbx.later hb).grown hg (fun e => by have := (hLX gL e.symm).1; omega)
theorem F5.stored (h : F5 X B gL d m L l ss x s L' false f8 W) (hgB : gL < B) (hg : W.grownBy W' L'.ownBlock) (hr : W'.ownsRow B TE 8 L' (m + 1) (erCells ss ++ s.cells)) : F5 X B gL d m L l ss x s L' true f8 W' := by
  refine ⟨hg.os.trans h.os, hg.tape.trans h.tape, hg.output.trans h.output, Nat.le_trans h.size hg.size, fun k o ho hk hL => ?_, h.form, hr, h.lies, fun i y r hy hr => (h.trees i y r hy hr).grown hg (fun b e hX => hX.2 e), h.tree.grown hg (fun b e hX => hX.2 e), h.box.grown hg (fun e => by have := (h.row.lt gL e.symm).1; omega)⟩
  have hW := h.kept k o ho hk hL
  refine (hg.block k (Array.getElem?_eq_some_iff.1 hW).1 (fun e => ?_)).trans hW
  have hlt := (Array.getElem?_eq_some_iff.1 ho).1
  rcases h.lies with h1 | h1
  · rw [h1] at e; exact hL e.symm
  · have := h1 k e.symm; omega
theorem F5.boxed (h : F5 X B gL d m L l ss x s L' f7 false W) (hgB : gL < B) : F5 X B gL d m L l ss x s L' f7 true (W.setCell ⟨gL, 0, none⟩ L') := by
  have hg := grown_setCell W ⟨gL, 0, none⟩ L'
  refine ⟨hg.os.trans h.os, hg.tape.trans h.tape, hg.output.trans h.output, Nat.le_trans h.size hg.size, fun k o ho hk hL => ?_, h.form, owns_setCell h.row _ _ (fun e => by have := (h.row.lt gL e).1; omega), h.lies, fun i y r hy hr => (h.trees i y r hy hr).grown hg (fun b e hX => by simp only [Option.some.injEq] at e; omega), h.tree.grown hg (fun b e hX => by simp only [Option.some.injEq] at e; omega), h.box.set 0 L'⟩
  have hW := h.kept k o ho hk hL
  exact (hg.block k (Array.getElem?_eq_some_iff.1 hW).1 (fun e => by simp only [Option.some.injEq] at e; exact hk e)).trans hW
/-- at the end: the list of one more -/
theorem F5.done (h : F5 X B gL d m L l ss x s L' true true W) (hN : NewL TE B d l m L ss X) (hlm : l.length = m) : NewL TE B d (l ++ [x]) (m + 1) L' (ss ++ [s]) W := by
  have hrow := h.row
  rw [if_pos rfl] at hrow
  refine ⟨h.form, by rw [List.length_append, hN.len]; rfl, by rw [ex.erCells_append]; simpa [erCells] using hrow, fun i y r hi hy hr => ?_⟩
  by_cases hij : i < m
  · rw [List.getElem?_append_left (by omega)] at hy
    rw [List.getElem?_append_left (by have := hN.len; omega)] at hr
    exact h.trees i y r hy hr
  · have : i = m := by omega
    subst this
    rw [List.getElem?_append_right (by omega), hlm, Nat.sub_self] at hy
    rw [List.getElem?_append_right (by have := hN.len; omega), hN.len, Nat.sub_self] at hr
    simp only [List.getElem?_cons_zero, Option.some.injEq] at hy hr
    subst hy hr
    exact h.tree
theorem F5.only (h : F5 X B gL d m L l ss x s L' true true W) (hbx : Flds X gL TL [L]) : OnlyL gL X W := by
  have hb : Flds W gL TL [L'] := by have := h.box; rw [if_pos rfl] at this; exact this
  have r0 := ex.rowOf_flds hbx
  have r1 := ex.rowOf_flds hb
  exact ⟨h.os, h.tape, h.output, h.size, fun _ k o ho _ hk hr => h.kept k o ho hk (by rw [r0] at hr; exact hr), fun _ => by rw [r0, r1]; exact h.lies, fun _ _ k e => by rw [r1] at e; exact (h.row.lt k e).2⟩
theorem F5.keeps {C : Nat} (h : F5 X B gL d m L l ss x s L' true true W) (hbx : Flds X gL TL [L]) (hN : X.ownsRow B TE 8 L m (erCells ss)) : KeepsFrom C X W := by
  refine ⟨h.size, fun k o _ ho hc => h.kept k o ho (fun e => ?_) (fun e => ?_)⟩
  · have hb : X.heap[gL]? = _ := hbx
    rw [← e, ho] at hb
    cases hb; cases hc
  · rcases hN.2 with ⟨h1, -⟩ | ⟨g, cap, cur, h1, -, hg, -⟩
    · rw [h1] at e; simp [Value.ownBlock] at e
    · rw [h1] at e
      simp only [Value.ownBlock, Option.some.injEq] at e
      subst e
      rw [hg] at ho
      cases ho; cases hc
end
/-- the first five operations' values -/
def pA (X : World) (d m : Nat) (L ev : Value) (x : Ex) : Nat → Value → World → Prop
  | 0, v, _ => v = L
  | 1, v, _ => v = ev
  | 2, v, W => ∃ s : Er, v = s.val ∧ ExAt TE (fun b => X.heap.size ≤ b) d W x s
  | 3, v, _ => v = .int .i64 (m : Int)
  | 4, v, W => ∃ g, v = .slice (some ⟨g, 0, none⟩) 1 1 ∧ Flds W g TE zE
  | _, _, _ => True
theorem pA.later {X W W' : World} {d m : Nat} {L ev : Value} {x : Ex} (hb : Below W.heap.size W W') : ∀ {j : Nat} {v : Value}, pA X d m L ev x j v W → pA X d m L ev x j v W'
  | 0, _, h | 1, _, h | 3, _, h => h
  | 2, _, ⟨s, h, hx⟩ => ⟨s, h, hx.later hb⟩
  | 4, _, ⟨g, h, hf⟩ => ⟨g, h, hf.later hb⟩
  | k + 5, _, h => trivial
structure J5 (X : World) (B gL d m : Nat) (L ev : Value) (l : List Ex) (ss : List Er) (x : Ex) (b : Nat → Bool) (xs : Nat → Value) (W : World) : Prop where
  c5 : b 5 = true → ∀ j, j ≤ 4 → b j = true
  c6 : b 6 = true → b 5 = true
  c7 : b 7 = true → b 5 = true
  c8 : b 8 = true → b 5 = true
  fst : b 5 = false → Below X.heap.size X W ∧ ∀ j, j ≤ 4 → b j = true → pA X d m L ev x j (xs j) W
  snd : b 5 = true → ∃ s : Er, xs 2 = s.val ∧ xs 3 = .int .i64 (m : Int) ∧ F5 X B gL d m L l ss x s (xs 5) (b 7) (b 8) W ∧ (b 6 = true → ∃ g, (xs 5).ownBlock = some g ∧ xs 6 = .pointer (some ⟨g, m * 8, none⟩))
section
variable {X W W' : World} {B gL d m : Nat} {L ev v : Value} {l : List Ex} {ss : List Er} {x : Ex} {b : Nat → Bool} {xs : Nat → Value}
theorem upB_ne {i j : Nat} (h : j ≠ i) : ag.updB b i j = b j := by unfold ag.updB; rw [if_neg h]
theorem upB_eq {i : Nat} : ag.updB b i i = true := by unfold ag.updB; rw [if_pos rfl]
theorem up_ne {i j : Nat} (h : j ≠ i) : ag.upd xs i v j = xs j := by unfold ag.upd; rw [if_neg h]
theorem up_eq {i : Nat} : ag.upd xs i v i = v := by unfold ag.upd; rw [if_pos rfl]
theorem J5.zero (hb : Below X.heap.size X W) : J5 X B gL d m L ev l ss x (fun j => decide (9 ≤ j)) (fun _ => undef) W :=
  ⟨fun h => absurd h (by decide), fun h => absurd h (by decide), fun h => absurd h (by decide), fun h => absurd h (by decide), fun _ => ⟨hb, fun j hj h => absurd (of_decide_eq_true h) (by omega)⟩, fun h => absurd h (by decide)⟩
theorem J5.off (h : J5 X B gL d m L ev l ss x b xs W) {i : Nat} (hi : i ≤ 4) (hbi : b i = false) : b 5 = false := by
  cases h5 : b 5 with
  | false => rfl
  | true => have := h.c5 h5 i hi; rw [hbi] at this; cases this
theorem J5.stepA (h : J5 X B gL d m L ev l ss x b xs W) (i : Nat) (hi : i ≤ 4) (hbi : b i = false) (hb : Below W.heap.size W W') (hv : pA X d m L ev x i v W') : J5 X B gL d m L ev l ss x (ag.updB b i) (ag.upd xs i v) W' := by
  have h5 := h.off hi hbi
  have e5 : ag.updB b i 5 = b 5 := upB_ne (by omega)
  have e6 : ag.updB b i 6 = b 6 := upB_ne (by omega)
  have e7 : ag.updB b i 7 = b 7 := upB_ne (by omega)
  have e8 : ag.updB b i 8 = b 8 := upB_ne (by omega)
  obtain ⟨h1, h2⟩ := h.fst h5
  refine ⟨fun e => (by rw [e5, h5] at e; cases e), fun e => (by rw [e6] at e; rw [e5]; exact h.c6 e), fun e => (by rw [e7] at e; rw [e5]; exact h.c7 e), fun e => (by rw [e8] at e; rw [e5]; exact h.c8 e), fun _ => ⟨h1.trans (hb.mono h1.size), fun j hj hbj => ?_⟩, fun e => (by rw [e5, h5] at e; cases e)⟩
  by_cases e : j = i
  · subst e; rw [up_eq]; exact hv
  · rw [upB_ne e] at hbj
    rw [up_ne e]
    exact (h2 j hj hbj).later hb
theorem J5.step5 (h : J5 X B gL d m L ev l ss x b xs W) (hbi : b 5 = false) (hall : ∀ j, j ≤ 4 → b j = true) {s : Er} (h2 : xs 2 = s.val) (h3 : xs 3 = .int .i64 (m : Int)) (hF : F5 X B gL d m L l ss x s v false false W') : J5 X B gL d m L ev l ss x (ag.updB b 5) (ag.upd xs 5 v) W' := by
  have e6 : b 6 = false := by cases e : b 6 with | false => rfl | true => have := h.c6 e; rw [hbi] at this; cases this
  have e7 : b 7 = false := by cases e : b 7 with | false => rfl | true => have := h.c7 e; rw [hbi] at this; cases this
  have e8 : b 8 = false := by cases e : b 8 with | false => rfl | true => have := h.c8 e; rw [hbi] at this; cases this
  refine ⟨fun _ j hj => by rw [upB_ne (by omega)]; exact hall j hj, fun _ => upB_eq, fun _ => upB_eq, fun _ => upB_eq, fun e => (by rw [upB_eq] at e; cases e), fun _ => ⟨s, (by rw [up_ne (by decide)]; exact h2), (by rw [up_ne (by decide)]; exact h3), ?_, fun e => ?_⟩⟩
  · rw [up_eq, upB_ne (by decide), upB_ne (by decide), e7, e8]; exact hF
  · rw [upB_ne (by decide), e6] at e; cases e
theorem J5.step6 (h : J5 X B gL d m L ev l ss x b xs W) (h5 : b 5 = true) {g : Nat} (hg : (xs 5).ownBlock = some g) (hv : v = .pointer (some ⟨g, m * 8, none⟩)) : J5 X B gL d m L ev l ss x (ag.updB b 6) (ag.upd xs 6 v) W := by
  obtain ⟨s, h2, h3, hF, -⟩ := h.snd h5
  have e5 : ag.updB b 6 5 = true := by rw [upB_ne (by decide)]; exact h5
  refine ⟨fun _ j hj => by rw [upB_ne (by omega)]; exact h.c5 h5 j hj, fun _ => e5, fun _ => e5, fun _ => e5, fun e => (by rw [e5] at e; cases e), fun _ => ⟨s, (by rw [up_ne (by decide)]; exact h2), (by rw [up_ne (by decide)]; exact h3), ?_, fun _ => ⟨g, (by rw [up_ne (by decide)]; exact hg), (by rw [up_eq]; exact hv)⟩⟩⟩
  rw [up_ne (by decide), upB_ne (by decide), upB_ne (by decide)]; exact hF
theorem J5.step7 (h : J5 X B gL d m L ev l ss x b xs W) (h5 : b 5 = true) {s : Er} (h2 : xs 2 = s.val) (h3 : xs 3 = .int .i64 (m : Int)) (h6 : b 6 = true → ∃ g, (xs 5).ownBlock = some g ∧ xs 6 = .pointer (some ⟨g, m * 8, none⟩)) (hF : F5 X B gL d m L l ss x s (xs 5) true (b 8) W') : J5 X B gL d m L ev l ss x (ag.updB b 7) (ag.upd xs 7 v) W' := by
  have e5 : ag.updB b 7 5 = true := by rw [upB_ne (by decide)]; exact h5
  refine ⟨fun _ j hj => by rw [upB_ne (by omega)]; exact h.c5 h5 j hj, fun _ => e5, fun _ => e5, fun _ => e5, fun e => (by rw [e5] at e; cases e), fun _ => ⟨s, (by rw [up_ne (by decide)]; exact h2), (by rw [up_ne (by decide)]; exact h3), ?_, fun e => ?_⟩⟩
  · rw [up_ne (by decide), upB_eq, upB_ne (by decide)]; exact hF
  · rw [upB_ne (by decide)] at e
    rw [up_ne (by decide), up_ne (by decide)]
    exact h6 e
theorem J5.step8 (h : J5 X B gL d m L ev l ss x b xs W) (h5 : b 5 = true) {s : Er} (h2 : xs 2 = s.val) (h3 : xs 3 = .int .i64 (m : Int)) (h6 : b 6 = true → ∃ g, (xs 5).ownBlock = some g ∧ xs 6 = .pointer (some ⟨g, m * 8, none⟩)) (hF : F5 X B gL d m L l ss x s (xs 5) (b 7) true W') : J5 X B gL d m L ev l ss x (ag.updB b 8) (ag.upd xs 8 v) W' := by
  have e5 : ag.updB b 8 5 = true := by rw [upB_ne (by decide)]; exact h5
  refine ⟨fun _ j hj => by rw [upB_ne (by omega)]; exact h.c5 h5 j hj, fun _ => e5, fun _ => e5, fun _ => e5, fun e => (by rw [e5] at e; cases e), fun _ => ⟨s, (by rw [up_ne (by decide)]; exact h2), (by rw [up_ne (by decide)]; exact h3), ?_, fun e => ?_⟩⟩
  · rw [up_ne (by decide), upB_ne (by decide), upB_eq]; exact hF
  · rw [upB_ne (by decide)] at e
    rw [up_ne (by decide), up_ne (by decide)]
    exact h6 e
end
theorem does_mono {P : Program} {o : Oper} {a : Act} {w : World} {K K' : Value → World → Prop} (h : ag.does P o a w K) (hk : ∀ v w', K v w' → K' v w') : ag.does P o a w K' := by
  unfold ag.does at h ⊢
  generalize (execOp a.eval o).run P w = r at *
  cases r with
  | halt x w' => exact h.elim
  | ok x w' =>
    cases x with
    | value u => exact hk _ _ h
    | skip => exact hk _ _ h
    | enter f args => exact (show Calls P f args w' _ from h).mono (fun e w'' h => by obtain ⟨v, h1, h2⟩ := h; exact ⟨v, h1, hk _ _ h2⟩)
    | _ => exact h.elim
/-- a row's last record, set -/
theorem owns_last {w : World} {B : Nat} {g m c : Nat} {xs : List Value} {u0 u1 u2 u3 u4 u5 u6 u7 : Value} {l : List Value} (h : w.ownsRow B TE 8 (.slice (some ⟨g, 0, none⟩) (m + 1) c) (m + 1) (xs ++ l)) (hx : xs.length = m * 8) (hl : l.length = 8) :
    ((((((((w.setCell ⟨g, m * 8, none⟩ u0).setCell ⟨g, m * 8 + 1, none⟩ u1).setCell ⟨g, m * 8 + 2, none⟩ u2).setCell ⟨g, m * 8 + 3, none⟩ u3).setCell ⟨g, m * 8 + 4, none⟩ u4).setCell ⟨g, m * 8 + 5, none⟩ u5).setCell ⟨g, m * 8 + 6, none⟩ u6).setCell ⟨g, m * 8 + 7, none⟩ u7).ownsRow B TE 8 (.slice (some ⟨g, 0, none⟩) (m + 1) c) (m + 1) (xs ++ [u0, u1, u2, u3, u4, u5, u6, u7]) := by
  have h8 := owns_put (owns_put (owns_put (owns_put (owns_put (owns_put (owns_put (owns_put h (i := m * 8) (by omega) u0) (i := m * 8 + 1) (by omega) u1) (i := m * 8 + 2) (by omega) u2) (i := m * 8 + 3) (by omega) u3) (i := m * 8 + 4) (by omega) u4) (i := m * 8 + 5) (by omega) u5) (i := m * 8 + 6) (by omega) u6) (i := m * 8 + 7) (by omega) u7
  match l, hl with
  | [v0, v1, v2, v3, v4, v5, v6, v7], _ =>
    have e : ∀ (ys : List Value) (j : Nat) (u : Value), (xs ++ ys).set (m * 8 + j) u = xs ++ ys.set j u := fun ys j u => by
      rw [List.set_append_right (m * 8 + j) u (by omega : xs.length ≤ m * 8 + j), hx, Nat.add_sub_cancel_left]
    have e0 := e [v0, v1, v2, v3, v4, v5, v6, v7] 0 u0
    rw [Nat.add_zero] at e0
    rw [e0, e, e, e, e, e, e, e] at h8
    exact h8
theorem grown_last {w : World} {g q : Nat} {u0 u1 u2 u3 u4 u5 u6 u7 : Value} : w.grownBy ((((((((w.setCell ⟨g, q, none⟩ u0).setCell ⟨g, q + 1, none⟩ u1).setCell ⟨g, q + 2, none⟩ u2).setCell ⟨g, q + 3, none⟩ u3).setCell ⟨g, q + 4, none⟩ u4).setCell ⟨g, q + 5, none⟩ u5).setCell ⟨g, q + 6, none⟩ u6).setCell ⟨g, q + 7, none⟩ u7) (some g) :=
  grown_two (grown_two (grown_two (grown_two (grown_two (grown_two (grown_two (grown_setCell _ ⟨g, _, none⟩ _) (grown_setCell _ ⟨g, _, none⟩ _)) (grown_setCell _ ⟨g, _, none⟩ _)) (grown_setCell _ ⟨g, _, none⟩ _)) (grown_setCell _ ⟨g, _, none⟩ _)) (grown_setCell _ ⟨g, _, none⟩ _)) (grown_setCell _ ⟨g, _, none⟩ _)) (grown_setCell _ ⟨g, _, none⟩ _)
set_option maxRecDepth 100000 in
set_option maxHeartbeats 4000000 in
/-- a record stored at its place in a row -/
theorem does_store_at {o : Oper} {a : Act} {w : World} {g q t1 t2 : Nat} {y0 y1 y2 y3 y4 y5 y6 y7 : Value} (c0 : w.cell? ⟨g, q, none⟩ = some y0) (c1 : w.cell? ⟨g, q + 1, none⟩ = some y1) (c2 : w.cell? ⟨g, q + 2, none⟩ = some y2) (c3 : w.cell? ⟨g, q + 3, none⟩ = some y3) (c4 : w.cell? ⟨g, q + 4, none⟩ = some y4) (c5 : w.cell? ⟨g, q + 5, none⟩ = some y5) (c6 : w.cell? ⟨g, q + 6, none⟩ = some y6) (c7 : w.cell? ⟨g, q + 7, none⟩ = some y7)
    (z : ∀ j, w.frozen? ⟨g, j, none⟩ = false) (hl : g < w.heap.size) (s : Er) (sa : Option Addr) (sn sc : Nat) (hs : s.lv = .slice sa sn sc) (ho : o.op = .store TE (.tmp t1) (.tmp t2)) (h1 : a.tmps[t1]?.getD undef = .pointer (some ⟨g, q, none⟩)) (h2 : a.tmps[t2]?.getD undef = s.val) :
    ag.does Try.prog o a w (fun _ w' => w' = (((((((w.setCell ⟨g, q, none⟩ (.int .i64 s.k)).setCell ⟨g, q + 1, none⟩ (.int .i64 s.op)).setCell ⟨g, q + 2, none⟩ (.int .i64 s.v.k)).setCell ⟨g, q + 3, none⟩ (.int .i64 s.v.n)).setCell ⟨g, q + 4, none⟩ (.string s.v.s)).setCell ⟨g, q + 5, none⟩ (.string s.tb)).setCell ⟨g, q + 6, none⟩ (.string s.nm)).setCell ⟨g, q + 7, none⟩ s.lv) := by
  have z0 := z q; have z1 := z (q + 1); have z2 := z (q + 2); have z3 := z (q + 3); have z4 := z (q + 4); have z5 := z (q + 5); have z6 := z (q + 6); have z7 := z (q + 7)
  obtain ⟨sk, sop, sv, stb, snm, slv⟩ := s
  dsimp only at hs
  subst hs
  unfold Er.val at h2
  dsimp only at h2
  obtain ⟨op⟩ := o
  dsimp only at ho
  subst ho
  clear z
  unfold ag.does
  go_simp
  first | done | rfl | trace_state
end Go.Proofs.Ytjnlimahcodomaa.ck
/- The program's list of an expression's aggregates; walked. -/
namespace Go.Proofs.Ytjnlimahcodomaa.ck
set_option linter.unusedVariables false
open Go.RowKit
open val (V null)
open ex (Ex Er TE ExAt NewL erCells rowOf OnlyL of_fe PartA Ev all_any all_seqL keeps_b info_of infoE exat_fields)
attribute [local go_sem] Oper.semAt_some
theorem zE_one : ∀ u ∈ zE, u.oneCell' = true := by
  intro u hu
  unfold zE at hu
  simp only [List.mem_cons, List.not_mem_nil, or_false] at hu
  rcases hu with rfl | rfl | rfl | rfl | rfl | rfl | rfl | rfl <;> rfl
/-- what lies below stays -/
theorem f5_below {Y X W : World} {B gL d m : Nat} {L L' : Value} {l : List Ex} {ss : List Er} {x : Ex} {s : Er} {f7 f8 : Bool} (h : F5 X B gL d m L l ss x s L' f7 f8 W) (hY : Y.heap.size ≤ X.heap.size) (hg : Y.heap.size ≤ gL) (hB : Y.heap.size ≤ B) (hr : X.ownsRow B TE 8 L m (erCells ss)) : Below Y.heap.size X W :=
  ⟨h.os, h.tape, h.output, h.size, fun k hk => by
    have hX := Array.getElem?_eq_getElem (show k < X.heap.size by omega)
    rw [hX]
    exact h.kept k _ hX (by omega) (fun e => by have := (hr.lt k e).1; omega)⟩
def aggK (ps : List Ex) (k : Nat) : List Ex := (ps.take k).filter (fun x => decide (x.k = 8))
theorem aggK_no {ps : List Ex} {k : Nat} {x : Ex} (h : ps[k]? = some x) (hx : x.k ≠ 8) : aggK ps (k + 1) = aggK ps k := by
  unfold aggK
  rw [List.take_add_one, h, List.filter_append]
  simp [hx]
theorem aggK_yes {ps : List Ex} {k : Nat} {x : Ex} (h : ps[k]? = some x) (hx : x.k = 8) : aggK ps (k + 1) = aggK ps k ++ [x] := by
  unfold aggK
  rw [List.take_add_one, h, List.filter_append]
  simp [hx]
theorem aggK_all (e : Ex) : aggK e.parts e.parts.length = aggE e := by
  unfold aggK
  rw [List.take_length, aggE_parts]
theorem aggK_le (ps : List Ex) (k : Nat) : (aggK ps k).length ≤ ps.length := by
  unfold aggK
  exact Nat.le_trans (List.length_filter_le ..) (by rw [List.length_take]; omega)
/-- the list so far, in its box -/
def AgS (Y : World) (B gL d : Nat) (l : List Ex) (W : World) : Prop := ∃ (a : Option Addr) (c : Nat) (ss : List Er), Flds W gL TL [.slice a l.length c] ∧ NewL TE B d l l.length (.slice a l.length c) ss W ∧ Below Y.heap.size Y W
theorem newL_onlyX {B0 B d j : Nat} {l : List Ex} {L : Value} {ss : List Er} {W W' : World} (h : NewL TE B d l j L ss W) (ho : OnlyX B0 (fun _ => False) W W') : NewL TE B d l j L ss W' :=
  ⟨h.form, h.len, owns_onlyX h.row ho (fun _ _ h => h), fun i x s hi hx hs => (h.at_ i x s hi hx hs).onlyX (fun _ _ h => h) ho⟩
theorem AgS.own {Y : World} {B gL d C : Nat} {ps : List Ex} (hC : Y.heap.size ≤ C) : OwnFrom C (fun k W => AgS Y B gL d (aggK ps k) W) := by
  rintro k A Z row ⟨a, c, ss, hf, hn, hb⟩ hg hr
  have ho : OnlyX 0 (fun _ => False) A Z := ⟨hg.os, hg.tape, hg.output, hg.size, fun k hk _ _ => absurd hk (by omega), fun k o ho hc _ => (hg.block k (Array.getElem?_eq_some_iff.1 ho).1 (fun e => by
    obtain ⟨-, o', ho', hc'⟩ := hr k e.symm
    rw [ho] at ho'
    cases ho'
    rw [hc] at hc'; cases hc')).trans ho⟩
  exact ⟨a, c, ss, ex.Flds.onlyX hf ho (fun h => h), newL_onlyX hn ho, hb.grown hg hb.size (fun j e => Nat.le_trans hC (hr j e).1)⟩
theorem newL_base {B B' d j : Nat} {l : List Ex} {L : Value} {ss : List Er} {W : World} (h : NewL TE B d l j L ss W) (hB : B' ≤ B) : NewL TE B' d l j L ss W :=
  ⟨h.form, h.len, owns_base h.row (fun g e => Nat.le_trans hB (h.row.lt g e).1), fun i x s hi hx hs => (h.at_ i x s hi hx hs).mono (Nat.le_refl _) (fun b _ hb => ⟨Nat.le_trans hB hb.1, hb.2⟩)⟩
set_option maxRecDepth 100000 in
set_option maxHeartbeats 8000000 in
theorem aggs_any (d : Nat) (hd : d + 1 ≤ 1000) (X : Nat → Prop) (e : Ex) (r : Er) (w : World) (hX : ∀ b, X b → b < w.heap.size) (hpl : e.parts.length ≤ 100000) (hsl : e.slim) (h : ExAt TE X (d + 1) w e r) :
    Calls Try.prog 12 #[r.val] w fun en w' => ∃ a c ss, en = .returned (.slice a (aggE e).length c) ∧ NewL TE w.heap.size (d + 1) (aggE e) (aggE e).length (.slice a (aggE e).length c) ss w' ∧ Below w.heap.size w w' := by
  obtain ⟨av, cv, us, hlv, -⟩ := h.parts
  obtain ⟨n, hn⟩ : ∃ n, e.l.length = n := ⟨_, rfl⟩
  rw [hn] at hlv
  obtain ⟨rk, rop, rv, rtb, rnm, rlv⟩ := r
  dsimp only at hlv
  subst hlv
  obtain ⟨i0, hi, hz0, hz1, hz2⟩ := info_of infoE
  obtain ⟨W0, hW0⟩ : ∃ W, w.alloc (.cells #[.int .i64 rk, .int .i64 rop, .int .i64 rv.k, .int .i64 rv.n, .string rv.s, .string rtb, .string rnm, .slice av n cv] TE) = W := ⟨_, rfl⟩
  obtain ⟨WB, hWB⟩ : ∃ W, W0.alloc (.cells #[.slice none 0 0] TL) = W := ⟨_, rfl⟩
  obtain ⟨WD, hWD⟩ : ∃ W, WB.alloc (.cells #[.int .i64 rk, .int .i64 rop, .int .i64 rv.k, .int .i64 rv.n, .string rv.s, .string rtb, .string rnm, .slice av n cv] TE) = W := ⟨_, rfl⟩
  obtain ⟨g0, hg0⟩ : ∃ g, w.heap.size = g := ⟨_, rfl⟩
  obtain ⟨gL, hgL⟩ : ∃ g, g0 + 1 = g := ⟨_, rfl⟩
  obtain ⟨gA, hgA⟩ : ∃ g, gL + 1 = g := ⟨_, rfl⟩
  have s0 : W0.heap.size = gL := by rw [← hW0, World.size_alloc, hg0, hgL]
  have sB : WB.heap.size = gA := by rw [← hWB, World.size_alloc, s0, hgA]
  have sD : WD.heap.size = gA + 1 := by rw [← hWD, World.size_alloc, sB]
  have bb0 : Below w.heap.size w W0 := by rw [← hW0]; exact (Below.refl _ _).alloc (Nat.le_refl _) _
  have bbB : Below W0.heap.size W0 WB := by rw [← hWB]; exact (Below.refl _ _).alloc (Nat.le_refl _) _
  have bbD : Below WB.heap.size WB WD := by rw [← hWD]; exact (Below.refl _ _).alloc (Nat.le_refl _) _
  have b0B : Below w.heap.size w WB := bb0.trans (bbB.mono bb0.size)
  have b0D : Below w.heap.size w WD := b0B.trans (bbD.mono b0B.size)
  have hf0 : Flds WB g0 TE [.int .i64 rk, .int .i64 rop, .int .i64 rv.k, .int .i64 rv.n, .string rv.s, .string rtb, .string rnm, .slice av n cv] := (by rw [← hW0, ← hg0]; exact Flds.new w TE _ : Flds W0 g0 TE [.int .i64 rk, .int .i64 rop, .int .i64 rv.k, .int .i64 rv.n, .string rv.s, .string rtb, .string rnm, .slice av n cv]).later bbB
  have hfL : Flds WD gL TL [.slice none 0 0] := (by rw [← hWB, ← s0]; exact Flds.new W0 TL _ : Flds WB gL TL [.slice none 0 0]).later bbD
  have hfA : Flds WD gA TE [.int .i64 rk, .int .i64 rop, .int .i64 rv.k, .int .i64 rv.n, .string rv.s, .string rtb, .string rnm, .slice av n cv] := by rw [← hWD, ← sB]; exact Flds.new WB TE _
  have haa := all_any ⟨rk, rop, rv, rtb, rnm, .slice av n cv⟩ av n cv rfl WB
  unfold Er.val Er.cells at haa
  dsimp only at haa
  rw [hWD, sB] at haa
  have HAA := Lib.hid haa
  have HI0 : Hid (AgS w (gA + 1) gL (d + 1) (aggK e.parts 0) WD) := Lib.hid ⟨none, 0, [], hfL, NewL.no TE _ _ _ _, b0D⟩
  have HEX : Hid (ExAt TE (fun b => b < g0) (d + 1) WD e ⟨rk, rop, rv, rtb, rnm, .slice av n cv⟩) := Lib.hid ((h.later b0D).mono (Nat.le_refl _) (fun b _ hb => by have := hX b hb; omega))
  have HFA := Lib.hid hfA
  have HRO : Hid (gL < WD.heap.size ∧ rowOf gL WD = none) := Lib.hid ⟨hfL.lt, ex.rowOf_flds hfL⟩
  have HZ : Hid (w.heap.size = g0 ∧ g0 + 1 = gL ∧ gL + 1 = gA ∧ WD.heap.size = gA + 1) := Lib.hid ⟨hg0, hgL, hgA, sD⟩
  have HPL := Lib.hid hpl
  have HSL := Lib.hid hsl
  obtain ⟨y0, y1, y2, y3, y4, y5, y6, y7, ly⟩ := of_fe hf0
  unfold Er.val
  dsimp only
  refine callsIn_wide.1 (callsIn_of_wp_marks (n := 3) Try.func12 rfl trivial (wpIn_wide.2 ?_) rfl)
  simp only [Try.ntmps12, List.size_toArray, List.length_cons, List.length_nil, Nat.reduceAdd, Nat.reduceSub, Array.replicate_succ, Array.replicate_zero, List.push_toArray, List.append_toArray, List.nil_append, List.cons_append]
  go_upto_region 2 with fail
  try rw [hW0, hWB, s0, hg0]
  clear h hX hpl hsl hf0 hfL hfA haa bb0 bbB bbD b0B b0D hW0 hWB hWD s0 sB sD hg0 hgL hgA
  go_wp2_with (go_at_call 27; refine HAA.out.mono ?_; rintro ee wz ⟨rfl, rfl⟩)
  clear y0 y1 y2 y3 y4 y5 y6 y7 ly
  refine (wpIn_wide (n := 3)).1 ?_
  refine' range_box rfl (by decide) (gf := 44) (lb := #[.pointer (some ⟨gA, 0, none⟩)]) rfl trivial (enters_of Try.func44 (by kernel_rfl) rfl)
    (all_seqL _ gA (d := d + 1) hd (gL := gL) (X := fun b => b < g0) HEX.out HSL.out (fun b hb => by have := HZ.out; omega) HRO.out HFA.out (by have := HZ.out; omega))
    (fun k W xs l o1 o2 hl h1 h2 _ hA => PartA.put (P := fun _ => False) (B := 0) (fun b _ h => h) (Nat.zero_le _) h1 h2 hA) (fun {A B C} h h' => OnlyL.trans h h') (fun W l o1 o2 hl h1 h2 _ => OnlyL.put W l o1 o2 (by have := HZ.out; omega) h1 h2) rfl
    (fun k W W' xs hb hA => by obtain ⟨x, s, e1, e2, e3⟩ := hA; exact ⟨x, s, e1, e2, e3.later hb⟩) (fun {W W'} hb => OnlyL.of_below hb)
    (fun k W => AgS w (gA + 1) gL (d + 1) (aggK e.parts k) W) (fun _ _ _ => False) (AgS.own (by have := HZ.out; omega)) (fun _ _ _ _ _ hs _ _ => hs)
    HI0.out (fun x : Ev => .agg #[.int .i64 x.k, .int .i64 x.op, .int .i64 x.vk, .int .i64 x.vn, .string x.vs, .string x.tb, .string x.nm, .slice x.a x.n x.c]) (fun x : Ev => [.int .i64 x.k, .int .i64 x.op, .int .i64 x.vk, .int .i64 x.vn, .string x.vs, .string x.tb, .string x.nm, .slice x.a x.n x.c]) TE _ (fun k W xs hA => hA.ev) ?assign ?body ?done ?stop
  case stop =>
    rintro D c k W _ _ h _
    exact h.elim
  case assign =>
    rintro l k W s gx K hk hI hA hgx hgx2 hK
    clear hk hI hA
    gi_wp2
    exact hK
  case body =>
    rintro l k W s gx hk hI hA hgx hf4
    obtain ⟨x, hxk, hxn, hs⟩ := hA.at
    obtain ⟨xk, xop, xvk, xvn, xvs, xtb, xnm, xa, xn, xc⟩ := s
    unfold Ev.er at hs
    dsimp only at hs hf4 hxn ⊢
    subst hxn
    obtain ⟨a, c, ss, hfL, hN, hbY⟩ := hI
    have hxk8 : x.k = xk := (exat_fields hs).1.symm
    have hxs := ex.Ex.slim_part e HSL.out x (List.mem_of_getElem? hxk)
    have hcl := fun (W1 : World) (hb : Below W.heap.size W W1) => clone_any (d + 1) hd _ x _ W1 hxs (hs.later hb)
    unfold Er.val CopyPost at hcl
    dsimp only at hcl
    have HCL := Lib.hid hcl
    have HN := Lib.hid hN; have HFL := Lib.hid hfL; have HF4 := Lib.hid hf4; have HBY := Lib.hid hbY
    have HXK := Lib.hid hxk
    have HB : Hid (gA + 1 ≤ W.heap.size ∧ (aggK e.parts k).length ≤ 100000) := Lib.hid ⟨by have := HZ.out; have h2 := hgx; have h3 := hf4.lt; omega, Nat.le_trans (aggK_le _ _) HPL.out⟩
    obtain ⟨l0, hl0⟩ : ∃ l0, aggK e.parts k = l0 := ⟨_, rfl⟩
    rw [hl0] at HN HFL HB
    obtain ⟨m, hm⟩ : ∃ m, l0.length = m := ⟨_, rfl⟩
    rw [hm] at HN HFL HB
    have HL0 := Lib.hid hl0; have HM := Lib.hid hm
    clear hcl hN hfL hf4 hbY hs hxs hA hk hl0 hm
    obtain ⟨q0, q1, q2, q3, q4, q5, q6, q7, lq⟩ := of_fe HF4.out
    by_cases h8 : xk = 8
    · subst h8
      gi_wp2
      refine ag.region_J_in _ _ (J5 W (gA + 1) gL (d + 1) m (.slice a m c) (.agg #[.int .i64 8, .int .i64 xop, .int .i64 xvk, .int .i64 xvn, .string xvs, .string xtb, .string xnm, .slice xa x.l.length xc]) l0 ss x) rfl (by kernel_rfl) (by kernel_rfl) ?h0 ?hI ?hend
      case h0 => exact J5.zero (Below.refl _ _).drew
      case hI =>
       clear q0 q1 q2 q3 q4 q5 q6 q7 lq
       intro xs
       unfold ag.ObJ
       refine ⟨fun b W1 hb hw hJ => ⟨by rfl, ?_⟩, ?_⟩
       · have h5 := hJ.off (by decide) hb
         obtain ⟨hB1, hA1⟩ := hJ.fst h5
         have hf := HFL.out.later hB1
         have z0 := hf.cell 0
         have z1 := hf.lt
         simp only [List.getElem?_cons_zero] at z0
         unfold ag.does
         go_simp
         exact hJ.stepA 0 (by decide) hb (Below.refl _ _) rfl
       simp only [Act.put, List.setIfInBounds_toArray, List.set_cons_zero, List.set_cons_succ, Nat.reduceAdd]
       unfold ag.ObJ
       refine ⟨fun b W1 hb hw hJ => ⟨by rfl, ?_⟩, ?_⟩
       · have h5 := hJ.off (by decide) hb
         obtain ⟨hB1, hA1⟩ := hJ.fst h5
         obtain ⟨y0, y1, y2, y3, y4, y5, y6, y7, ly⟩ := of_fe (HF4.out.later hB1)
         unfold ag.does
         go_simp
         exact hJ.stepA 1 (by decide) hb (Below.refl _ _) rfl
       simp only [Act.put, List.setIfInBounds_toArray, List.set_cons_zero, List.set_cons_succ, Nat.reduceAdd]
       unfold ag.ObJ
       refine ⟨fun b W1 hb hw hJ => ⟨by rfl, ?_⟩, ?_⟩
       · have h5 := hJ.off (by decide) hb
         obtain ⟨hB1, hA1⟩ := hJ.fst h5
         have e1 : xs 1 = _ := hA1 1 (by decide) (hw 1 (by kernel_rfl))
         rw [e1]
         unfold ag.does
         go_simp
         refine (HCL.out W1 hB1).mono (fun e w' h => ?_)
         obtain ⟨s, h1, h2, h3⟩ := h
         exact ⟨s.val, h1, hJ.stepA 2 (by decide) hb h3 ⟨s, rfl, h2.mono (Nat.le_refl _) (fun b _ hb' => Nat.le_trans hB1.size hb')⟩⟩
       simp only [Act.put, List.setIfInBounds_toArray, List.set_cons_zero, List.set_cons_succ, Nat.reduceAdd]
       unfold ag.ObJ
       refine ⟨fun b W1 hb hw hJ => ⟨by rfl, ?_⟩, ?_⟩
       · have h5 := hJ.off (by decide) hb
         obtain ⟨hB1, hA1⟩ := hJ.fst h5
         have e0 : xs 0 = _ := hA1 0 (by decide) (hw 0 (by kernel_rfl))
         rw [e0]
         unfold ag.does
         go_simp
         exact hJ.stepA 3 (by decide) hb (Below.refl _ _) rfl
       simp only [Act.put, List.setIfInBounds_toArray, List.set_cons_zero, List.set_cons_succ, Nat.reduceAdd]
       unfold ag.ObJ
       refine ⟨fun b W1 hb hw hJ => ⟨by rfl, ?_⟩, ?_⟩
       · unfold ag.does
         go_simp
         exact hJ.stepA 4 (by decide) hb ((Below.refl _ _).alloc (Nat.le_refl _) _) ⟨_, rfl, Flds.new W1 TE zE⟩
       simp only [Act.put, List.setIfInBounds_toArray, List.set_cons_zero, List.set_cons_succ, Nat.reduceAdd]
       unfold ag.ObJ
       refine ⟨fun b W1 hb hw hJ => ⟨by rfl, ?_⟩, ?_⟩
       · have h5 : b 5 = false := hb
         obtain ⟨hB1, hA1⟩ := hJ.fst h5
         have w0 := hw 0 (by kernel_rfl)
         have w1 := hw 1 (by kernel_rfl)
         have w2 := hw 2 (by kernel_rfl)
         have w3 := hw 3 (by kernel_rfl)
         have w4 := hw 4 (by kernel_rfl)
         have hall : ∀ j, j ≤ 4 → b j = true := fun j hj => by rcases (by omega : j = 0 ∨ j = 1 ∨ j = 2 ∨ j = 3 ∨ j = 4) with rfl | rfl | rfl | rfl | rfl <;> assumption
         have e0 : xs 0 = _ := hA1 0 (by decide) w0
         obtain ⟨s, e2, hs⟩ := hA1 2 (by decide) w2
         have e3 : xs 3 = _ := hA1 3 (by decide) w3
         obtain ⟨g4, e4, hf4⟩ := hA1 4 (by decide) w4
         rw [e0, e4]
         exact does_append (.tmp 11) (.tmp 15) 34 (by rfl) (gA + 1) TE i0 _ 8 104 Try.underlying34 hi hz0 hz1 hz2 rfl (by decide) (.slice a m c) m (erCells ss) (by rfl) (owns_below HN.out.row hB1) (.slice (some ⟨g4, 0, none⟩) 1 1) 1 zE (by rfl) (Row.of_flds hf4 rfl 1) zE_one (by have := HB.out.2; simp only [maxLen]; omega) (by have := HB.out.2; omega) (by have := HB.out.1; have := hB1.size; omega) (fun v' W' hap => hJ.step5 h5 hall e2 e3 (F5.start HN.out HM.out HFL.out (by have := HZ.out; omega) HB.out.1 hB1 hs hap))
       simp only [Act.put, List.setIfInBounds_toArray, List.set_cons_zero, List.set_cons_succ, Nat.reduceAdd]
       unfold ag.ObJ
       refine ⟨fun b W1 hb hw hJ => ⟨by rfl, ?_⟩, ?_⟩
       · have h5 := hw 5 (by kernel_rfl)
         obtain ⟨s, e2, e3, hF, h6⟩ := hJ.snd h5
         obtain ⟨a', c', e5⟩ := hF.form
         have hrow := hF.row
         rw [e5] at hrow
         obtain ⟨g5, rfl, -⟩ := owns_cellAt hrow (by omega)
         have hst := hJ.step6 (v := .pointer (some ⟨g5, m * 8, none⟩)) h5 (by rw [e5]; rfl) rfl
         rw [e5, e3]
         have im : (m : Int) < (m : Int) + 1 := by omega
         have im0 : (0 : Int) ≤ (m : Int) := by omega
         unfold ag.does
         go_simp
         exact hst
       simp only [Act.put, List.setIfInBounds_toArray, List.set_cons_zero, List.set_cons_succ, Nat.reduceAdd]
       unfold ag.ObJ
       refine ⟨fun b W1 hb hw hJ => ⟨by rfl, ?_⟩, ?_⟩
       · have h5 := hw 5 (by kernel_rfl)
         obtain ⟨s, e2, e3, hF, h6⟩ := hJ.snd h5
         have hb7 : b 7 = false := hb
         rw [hb7] at hF
         obtain ⟨g6, hg6, e6⟩ := h6 (hw 6 (by kernel_rfl))
         obtain ⟨a', c', e5⟩ := hF.form
         have hrow := hF.row
         rw [if_neg (by decide)] at hrow
         rw [e5] at hrow
         obtain ⟨g5, rfl, -, hlt, hc, hz⟩ := owns_cellAt hrow (by omega)
         have hg56 : g5 = g6 := by rw [e5] at hg6; simpa [Value.ownBlock] using hg6
         subst hg56
         obtain ⟨sa, sc, us', hul', -⟩ := hF.tree.parts
         have hlen : (erCells ss).length = m * 8 := by rw [ex.erCells_len, HN.out.len]
         have cz : ∀ j, j < 8 → W1.cell? ⟨g5, m * 8 + j, none⟩ = zE[j]? := fun j hj => by rw [hc (m * 8 + j) (by omega), List.getElem?_append_right (by omega), hlen, Nat.add_sub_cancel_left]
         refine does_mono (does_store_at (cz 0 (by decide)) (cz 1 (by decide)) (cz 2 (by decide)) (cz 3 (by decide)) (cz 4 (by decide)) (cz 5 (by decide)) (cz 6 (by decide)) (cz 7 (by decide)) hz hlt s sa _ sc hul' rfl e6 e2) (fun v w' h => ?_)
         subst h
         refine hJ.step7 h5 e2 e3 h6 (hF.stored (by have := HZ.out; omega) (by rw [e5]; exact grown_last) ?_)
         rw [e5]
         exact owns_last hrow hlen rfl
       simp only [Act.put, List.setIfInBounds_toArray, List.set_cons_zero, List.set_cons_succ, Nat.reduceAdd]
       unfold ag.ObJ
       refine ⟨fun b W1 hb hw hJ => ⟨by rfl, ?_⟩, ?_⟩
       · have h5 := hw 5 (by kernel_rfl)
         obtain ⟨s, e2, e3, hF, h6⟩ := hJ.snd h5
         have hb8 : b 8 = false := hb
         rw [hb8] at hF
         have hbox := hF.box
         rw [if_neg (by decide)] at hbox
         have z0 := hbox.cell 0
         have zf := hbox.frozen 0
         have z1 := hbox.lt
         simp only [List.getElem?_cons_zero] at z0
         obtain ⟨a', c', e5⟩ := hF.form
         have hst := hJ.step8 (v := undef) h5 e2 e3 h6 (hF.boxed (by have := HZ.out; omega))
         rw [e5] at hst ⊢
         unfold ag.does
         go_simp
         exact hst
       simp only [Act.put, List.setIfInBounds_toArray, List.set_cons_zero, List.set_cons_succ, Nat.reduceAdd]
       unfold ag.ObJ
       trivial
      case hend =>
        intro b xs W' hb hJ
        obtain ⟨s, e2, e3, hF, -⟩ := hJ.snd (hb 5 (by decide))
        rw [hb 7 (by decide), hb 8 (by decide)] at hF
        obtain ⟨a', c', e5⟩ := hF.form
        have P1 := Lib.hid (hF.keeps (C := wz.heap.size) HFL.out HN.out.row)
        have P2 := Lib.hid (hF.only HFL.out)
        have hbox := hF.box
        rw [if_pos rfl, e5] at hbox
        have hdn := hF.done HN.out HM.out
        rw [e5] at hdn
        have P3 : Hid (AgS w (gA + 1) gL (d + 1) (aggK e.parts (k + 1)) W') := Lib.hid (by
          rw [aggK_yes HXK.out hxk8, HL0.out]
          have hl : (l0 ++ [x]).length = m + 1 := by rw [List.length_append, HM.out]; rfl
          refine ⟨a', c', ss ++ [s], ?_, ?_, ?_⟩
          · rw [hl]; exact hbox
          · rw [hl]; exact hdn
          · exact HBY.out.trans (f5_below hF HBY.out.size (by have := HZ.out; omega) (by have := HZ.out; omega) HN.out.row))
        clear hF hbox hdn hJ hb
        gi_wp2
        exact ⟨P1.out, P2.out, P3.out⟩
    · have d8 : decide (xk = 8) = false := by simp; exact h8
      gi_wp2
      refine ⟨KeepsFrom.refl _ _, OnlyL.of_below (Below.refl _ _), ?_⟩
      show AgS w (gA + 1) gL (d + 1) (aggK e.parts (k + 1)) W
      rw [aggK_no HXK.out (by rw [hxk8]; exact h8), HL0.out]
      refine ⟨a, c, ss, ?_, ?_, HBY.out⟩
      · rw [HM.out]; exact HFL.out
      · rw [HM.out]; exact HN.out
  case done =>
    rintro D W hD hI hK
    obtain ⟨a, c, ss, hf, hn, hb⟩ := hI
    rw [aggK_all] at hf hn
    obtain ⟨M, hM⟩ : ∃ M, (aggE e).length = M := ⟨_, rfl⟩
    rw [hM] at hf hn
    have HLN := Lib.hid hM
    have HNW := Lib.hid (newL_base hn (B' := w.heap.size) (by have := HZ.out; omega))
    have HBW := Lib.hid hb
    have z0 := hf.cell 0
    have z1 := hf.lt
    simp only [List.getElem?_cons_zero] at z0
    clear hf hn hb hM
    go_wp2_with fail
    refine ⟨by simp, .inl ⟨_, _, rfl, run_takeDeferred hK, ?_⟩⟩
    have hn4 := newL_onlyX HNW.out (OnlyX.put (B := 0) (P := fun _ => False) W D _ (.deferred none) (Nat.zero_le _) hK rfl)
    have hb4 : Below w.heap.size w (W.putObj D (.deferred none)) := HBW.out.trans (belowK_b (w := w) (Nat.le_refl _) _ D _ _ (by have := HZ.out; omega) hK rfl rfl)
    generalize W.putObj D (.deferred none) = W4 at *
    refine ⟨.slice a M c, by simp [results, Try.results12, go_sem], ?_⟩
    rw [HLN.out]
    exact ⟨a, c, ss, rfl, hn4, hb4⟩
end Go.Proofs.Ytjnlimahcodomaa.ck
