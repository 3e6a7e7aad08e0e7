/- Two trees told in one region, in whatever order: an invariant of what has come up. -/
import Derived.Test.YtfnajccnlcfbiaaDoorExprW
import Derived.Test.YtfnajccnlcfbiaaDoorAgCx
namespace Go.Proofs.YtfnajccnlcfbiaaDoor.ex
set_option linter.unusedVariables false
open Go.RowKit
open ag (updB)
/-- a box for a record: g; full once it is stored -/
def Bx (w : World) (g : Nat) (full : Bool) (s : Er) : Prop := ∃ x0 x1 x2 x3 x4 x5 x6 x7, Flds w g TE [x0, x1, x2, x3, x4, x5, x6, x7] ∧ (full = true → [x0, x1, x2, x3, x4, x5, x6, x7] = s.cells)
theorem Bx.grown {w w' : World} {g : Nat} {f : Bool} {s : Er} {row : Option Nat} (h : Bx w g f s) (hg : w.grownBy w' row) (hr : row ≠ some g) : Bx w' g f s := by
  obtain ⟨x0, x1, x2, x3, x4, x5, x6, x7, h1, h2⟩ := h
  exact ⟨x0, x1, x2, x3, x4, x5, x6, x7, h1.grown hg (fun e => hr e.symm), h2⟩
theorem Bx.later {w w' : World} {g : Nat} {f : Bool} {s : Er} (h : Bx w g f s) (hb : Below w.heap.size w w') : Bx w' g f s := h.grown (row := none) (grown_any hb) (by simp)
theorem Bx.lt {w : World} {g : Nat} {f : Bool} {s : Er} (h : Bx w g f s) : g < w.heap.size := by
  obtain ⟨x0, x1, x2, x3, x4, x5, x6, x7, h1, -⟩ := h
  exact h1.lt
structure TI (X : World) (em en : Ex) (rm rn : Er) (A1 A2 : Nat → Prop) (g9 g10 : Nat) (s1 s2 : Er) (b : Nat → Bool) (v36 v37 v38 v39 v9 v10 : Value) (w : World) : Prop where
  bel : Below X.heap.size X w
  v0 : b 0 = true → v36 = rm.val
  v2 : b 2 = true → v38 = rn.val
  v1 : b 1 = true → v37 = s1.val ∧ ExAt TE A1 26 w em s1
  v3 : b 3 = true → v39 = s2.val ∧ ExAt TE A2 26 w en s2
  p4 : b 4 = true → v9 = .pointer (some ⟨g9, 0, none⟩) ∧ X.heap.size ≤ g9 ∧ Bx w g9 (b 6) s1 ∧ ¬ A1 g9 ∧ ¬ A2 g9
  p5 : b 5 = true → v10 = .pointer (some ⟨g10, 0, none⟩) ∧ X.heap.size ≤ g10 ∧ Bx w g10 (b 7) s2 ∧ ¬ A1 g10 ∧ ¬ A2 g10
  ne : b 4 = true → b 5 = true → g9 ≠ g10
  a1 : ∀ k, A1 k → X.heap.size ≤ k ∧ k < w.heap.size
  a2 : ∀ k, A2 k → X.heap.size ≤ k ∧ k < w.heap.size
section
variable {X : World} {em en : Ex} {rm rn : Er} {A1 A2 : Nat → Prop} {g9 g10 : Nat} {s1 s2 : Er} {b : Nat → Bool} {v36 v37 v38 v39 v9 v10 : Value} {w w' : World}
theorem TI.zero : TI X em en rm rn (fun _ => False) (fun _ => False) 0 0 s1 s2 (fun j => decide (8 ≤ j)) v36 v37 v38 v39 v9 v10 X.drew :=
  ⟨(Below.refl _ _).drew, (fun h => by simp at h), (fun h => by simp at h), (fun h => by simp at h), (fun h => by simp at h), (fun h => by simp at h), (fun h => by simp at h), (fun h => by simp at h), (fun k h => h.elim), (fun k h => h.elim)⟩
theorem TI.op0 (h : TI X em en rm rn A1 A2 g9 g10 s1 s2 b v36 v37 v38 v39 v9 v10 w) : TI X em en rm rn A1 A2 g9 g10 s1 s2 (updB b 0) rm.val v37 v38 v39 v9 v10 w :=
  ⟨h.bel, fun _ => rfl, h.v2, h.v1, h.v3, h.p4, h.p5, h.ne, h.a1, h.a2⟩
theorem TI.op2 (h : TI X em en rm rn A1 A2 g9 g10 s1 s2 b v36 v37 v38 v39 v9 v10 w) : TI X em en rm rn A1 A2 g9 g10 s1 s2 (updB b 2) v36 v37 rn.val v39 v9 v10 w :=
  ⟨h.bel, h.v0, fun _ => rfl, h.v1, h.v3, h.p4, h.p5, h.ne, h.a1, h.a2⟩
theorem TI.op1 (h : TI X em en rm rn A1 A2 g9 g10 s1 s2 b v36 v37 v38 v39 v9 v10 w) (h6 : b 6 = false) {s : Er} (hb : Below w.heap.size w w') (ht : ExAt TE (fun k => w.heap.size ≤ k) 26 w' em s) :
    TI X em en rm rn (fun k => w.heap.size ≤ k ∧ k < w'.heap.size) A2 g9 g10 s s2 (updB b 1) v36 s.val v38 v39 v9 v10 w' :=
  ⟨h.bel.trans (hb.mono h.bel.size), h.v0, h.v2, fun _ => ⟨rfl, ht.mono (Nat.le_refl _) (fun k hk hx => ⟨hx, hk⟩)⟩, fun e => ⟨(h.v3 e).1, (h.v3 e).2.later hb⟩,
    fun e => by
      obtain ⟨q1, q2, q3, q4, q5⟩ := h.p4 e
      have hl := q3.lt
      obtain ⟨x0, x1, x2, x3, x4, x5, x6, x7, u1, -⟩ := q3.later hb
      exact ⟨q1, q2, ⟨x0, x1, x2, x3, x4, x5, x6, x7, u1, fun e6 => by have : b 6 = true := e6; rw [h6] at this; cases this⟩, fun hk => by omega, q5⟩,
    fun e => by
      obtain ⟨q1, q2, q3, q4, q5⟩ := h.p5 e
      have hl := q3.lt
      exact ⟨q1, q2, q3.later hb, fun hk => by omega, q5⟩,
    h.ne, fun k hk => ⟨Nat.le_trans h.bel.size hk.1, hk.2⟩, fun k hk => ⟨(h.a2 k hk).1, Nat.lt_of_lt_of_le (h.a2 k hk).2 hb.size⟩⟩
theorem TI.op3 (h : TI X em en rm rn A1 A2 g9 g10 s1 s2 b v36 v37 v38 v39 v9 v10 w) (h7 : b 7 = false) {s : Er} (hb : Below w.heap.size w w') (ht : ExAt TE (fun k => w.heap.size ≤ k) 26 w' en s) :
    TI X em en rm rn A1 (fun k => w.heap.size ≤ k ∧ k < w'.heap.size) g9 g10 s1 s (updB b 3) v36 v37 v38 s.val v9 v10 w' :=
  ⟨h.bel.trans (hb.mono h.bel.size), h.v0, h.v2, fun e => ⟨(h.v1 e).1, (h.v1 e).2.later hb⟩, fun _ => ⟨rfl, ht.mono (Nat.le_refl _) (fun k hk hx => ⟨hx, hk⟩)⟩,
    fun e => by
      obtain ⟨q1, q2, q3, q4, q5⟩ := h.p4 e
      have hl := q3.lt
      exact ⟨q1, q2, q3.later hb, q4, fun hk => by omega⟩,
    fun e => by
      obtain ⟨q1, q2, q3, q4, q5⟩ := h.p5 e
      have hl := q3.lt
      obtain ⟨x0, x1, x2, x3, x4, x5, x6, x7, u1, -⟩ := q3.later hb
      exact ⟨q1, q2, ⟨x0, x1, x2, x3, x4, x5, x6, x7, u1, fun e6 => by have : b 7 = true := e6; rw [h7] at this; cases this⟩, q4, fun hk => by omega⟩,
    h.ne, fun k hk => ⟨(h.a1 k hk).1, Nat.lt_of_lt_of_le (h.a1 k hk).2 hb.size⟩, fun k hk => ⟨Nat.le_trans h.bel.size hk.1, hk.2⟩⟩
theorem TI.op4 (h : TI X em en rm rn A1 A2 g9 g10 s1 s2 b v36 v37 v38 v39 v9 v10 w) (h6 : b 6 = false) (x0 x1 x2 x3 x4 x5 x6 x7 : Value) :
    TI X em en rm rn A1 A2 w.heap.size g10 s1 s2 (updB b 4) v36 v37 v38 v39 (.pointer (some ⟨w.heap.size, 0, none⟩)) v10 (w.alloc (.cells #[x0, x1, x2, x3, x4, x5, x6, x7] TE)) := by
  have hb : Below w.heap.size w (w.alloc (.cells #[x0, x1, x2, x3, x4, x5, x6, x7] TE)) := (Below.refl _ _).alloc (Nat.le_refl _) _
  have hf : Flds (w.alloc (.cells #[x0, x1, x2, x3, x4, x5, x6, x7] TE)) w.heap.size TE [x0, x1, x2, x3, x4, x5, x6, x7] := Flds.new w TE _
  refine ⟨h.bel.trans (hb.mono h.bel.size), h.v0, h.v2, fun e => ⟨(h.v1 e).1, (h.v1 e).2.later hb⟩, fun e => ⟨(h.v3 e).1, (h.v3 e).2.later hb⟩, fun _ => ⟨rfl, h.bel.size, ⟨x0, x1, x2, x3, x4, x5, x6, x7, hf, fun e6 => by have : b 6 = true := e6; rw [h6] at this; cases this⟩, fun hk => by have := (h.a1 _ hk).2; omega, fun hk => by have := (h.a2 _ hk).2; omega⟩, fun e => ?_, fun _ e5 => ?_, fun k hk => ⟨(h.a1 k hk).1, Nat.lt_of_lt_of_le (h.a1 k hk).2 hb.size⟩, fun k hk => ⟨(h.a2 k hk).1, Nat.lt_of_lt_of_le (h.a2 k hk).2 hb.size⟩⟩
  · obtain ⟨q1, q2, q3, q4, q5⟩ := h.p5 e
    exact ⟨q1, q2, q3.later hb, q4, q5⟩
  · have := (h.p5 e5).2.2.1.lt; omega
theorem TI.op5 (h : TI X em en rm rn A1 A2 g9 g10 s1 s2 b v36 v37 v38 v39 v9 v10 w) (h7 : b 7 = false) (x0 x1 x2 x3 x4 x5 x6 x7 : Value) :
    TI X em en rm rn A1 A2 g9 w.heap.size s1 s2 (updB b 5) v36 v37 v38 v39 v9 (.pointer (some ⟨w.heap.size, 0, none⟩)) (w.alloc (.cells #[x0, x1, x2, x3, x4, x5, x6, x7] TE)) := by
  have hb : Below w.heap.size w (w.alloc (.cells #[x0, x1, x2, x3, x4, x5, x6, x7] TE)) := (Below.refl _ _).alloc (Nat.le_refl _) _
  have hf : Flds (w.alloc (.cells #[x0, x1, x2, x3, x4, x5, x6, x7] TE)) w.heap.size TE [x0, x1, x2, x3, x4, x5, x6, x7] := Flds.new w TE _
  refine ⟨h.bel.trans (hb.mono h.bel.size), h.v0, h.v2, fun e => ⟨(h.v1 e).1, (h.v1 e).2.later hb⟩, fun e => ⟨(h.v3 e).1, (h.v3 e).2.later hb⟩, fun e => ?_, fun _ => ⟨rfl, h.bel.size, ⟨x0, x1, x2, x3, x4, x5, x6, x7, hf, fun e6 => by have : b 7 = true := e6; rw [h7] at this; cases this⟩, fun hk => by have := (h.a1 _ hk).2; omega, fun hk => by have := (h.a2 _ hk).2; omega⟩, fun e4 _ => ?_, fun k hk => ⟨(h.a1 k hk).1, Nat.lt_of_lt_of_le (h.a1 k hk).2 hb.size⟩, fun k hk => ⟨(h.a2 k hk).1, Nat.lt_of_lt_of_le (h.a2 k hk).2 hb.size⟩⟩
  · obtain ⟨q1, q2, q3, q4, q5⟩ := h.p4 e
    exact ⟨q1, q2, q3.later hb, q4, q5⟩
  · have := (h.p4 e4).2.2.1.lt; omega
/-- a box is stored into -/
theorem TI.op6 (h : TI X em en rm rn A1 A2 g9 g10 s1 s2 b v36 v37 v38 v39 v9 v10 w) (h4 : b 4 = true) (h5 : b 5 = true) (hg : w.grownBy w' (some g9)) (hf : Flds w' g9 TE s1.cells) :
    TI X em en rm rn A1 A2 g9 g10 s1 s2 (updB b 6) v36 v37 v38 v39 v9 v10 w' := by
  obtain ⟨q1, q2, q3, q4, q5⟩ := h.p4 h4
  obtain ⟨p1, p2, p3, p4', p5'⟩ := h.p5 h5
  have hne := h.ne h4 h5
  refine ⟨h.bel.grown hg h.bel.size (fun k e => by simp only [Option.some.injEq] at e; omega), h.v0, h.v2, fun e => ⟨(h.v1 e).1, (h.v1 e).2.grown hg (fun k e hk => by simp only [Option.some.injEq] at e; subst e; exact q4 hk)⟩, fun e => ⟨(h.v3 e).1, (h.v3 e).2.grown hg (fun k e hk => by simp only [Option.some.injEq] at e; subst e; exact q5 hk)⟩, fun _ => ⟨q1, q2, ?_, q4, q5⟩, fun _ => ⟨p1, p2, p3.grown hg (by simp only [ne_eq, Option.some.injEq]; exact hne), p4', p5'⟩, h.ne, fun k hk => ⟨(h.a1 k hk).1, Nat.lt_of_lt_of_le (h.a1 k hk).2 hg.size⟩, fun k hk => ⟨(h.a2 k hk).1, Nat.lt_of_lt_of_le (h.a2 k hk).2 hg.size⟩⟩
  exact ⟨_, _, _, _, _, _, _, _, hf, fun _ => rfl⟩
theorem TI.op7 (h : TI X em en rm rn A1 A2 g9 g10 s1 s2 b v36 v37 v38 v39 v9 v10 w) (h4 : b 4 = true) (h5 : b 5 = true) (hg : w.grownBy w' (some g10)) (hf : Flds w' g10 TE s2.cells) :
    TI X em en rm rn A1 A2 g9 g10 s1 s2 (updB b 7) v36 v37 v38 v39 v9 v10 w' := by
  obtain ⟨q1, q2, q3, q4, q5⟩ := h.p4 h4
  obtain ⟨p1, p2, p3, p4', p5'⟩ := h.p5 h5
  have hne := h.ne h4 h5
  refine ⟨h.bel.grown hg h.bel.size (fun k e => by simp only [Option.some.injEq] at e; omega), h.v0, h.v2, fun e => ⟨(h.v1 e).1, (h.v1 e).2.grown hg (fun k e hk => by simp only [Option.some.injEq] at e; subst e; exact p4' hk)⟩, fun e => ⟨(h.v3 e).1, (h.v3 e).2.grown hg (fun k e hk => by simp only [Option.some.injEq] at e; subst e; exact p5' hk)⟩, fun _ => ⟨q1, q2, q3.grown hg (by simp only [ne_eq, Option.some.injEq]; exact fun e => hne e.symm), q4, q5⟩, fun _ => ⟨p1, p2, ?_, p4', p5'⟩, h.ne, fun k hk => ⟨(h.a1 k hk).1, Nat.lt_of_lt_of_le (h.a1 k hk).2 hg.size⟩, fun k hk => ⟨(h.a2 k hk).1, Nat.lt_of_lt_of_le (h.a2 k hk).2 hg.size⟩⟩
  exact ⟨_, _, _, _, _, _, _, _, hf, fun _ => rfl⟩
end
/-- an operation that comes up, by what it does -/
theorem wpOp_does {P : Program} {ops : Array Oper} {Q : Exit → Act → World → Prop} {i : Nat} {o : Oper} {a : Act} {w : World} {K : Value → World → Prop} {K' : Act → World → Prop} (ho : ops[i]? = some o) (hw : Region.wanted o (yielded ops a.tmps) = true) (h : ag.does P o a w K) (hk : ∀ v w', K v w' → K' (a.put o.dst v) w') : wpOp P ops Q i K' a w := by
  unfold wpOp
  rw [ho]
  simp only [hw, if_true]
  exact .inl (ag.wp_of_does h hk)
def put6 (d0 d1 d2 d3 d4 d5 : Tmp) (a0 : Act) (u0 u1 u2 u3 u4 u5 : Value) : Act := (((((a0.put (some d0) u0).put (some d1) u1).put (some d2) u2).put (some d3) u3).put (some d4) u4).put (some d5) u5
theorem region_two {P : Program} {id : Nat} {Q : Exit → Act → World → Prop} {a0 : Act} {l : List Oper} (d0 d1 d2 d3 d4 d5 : Tmp) (X : World) (em en : Ex) (rm rn : Er) (hm : P.follows .mixedOrders = true) (hB : Region.lexB .any l.toArray = true) (hl : l.length = 8)
    (h0 : ∃ u0 u1 u2 u3 u4 u5, a0 = put6 d0 d1 d2 d3 d4 d5 a0 u0 u1 u2 u3 u4 u5)
    (hI : ∀ (b : Nat → Bool) (i : Nat) (o : Oper) (u0 u1 u2 u3 u4 u5 : Value) (w : World) (A1 A2 : Nat → Prop) (g9 g10 : Nat) (s1 s2 : Er), i < 8 → l[i]? = some o → l.toArray[i]? = some o → b i = false → ag.Closed l.toArray b → (∀ k, ag.waits o k = true → b k = true) → TI X em en rm rn A1 A2 g9 g10 s1 s2 b u0 u1 u2 u3 u4 u5 w →
      wpOp P l.toArray Q i (fun a' w' => ∃ u0 u1 u2 u3 u4 u5, a' = put6 d0 d1 d2 d3 d4 d5 a0 u0 u1 u2 u3 u4 u5 ∧ ∃ A1 A2 g9 g10 s1 s2, TI X em en rm rn A1 A2 g9 g10 s1 s2 (updB b i) u0 u1 u2 u3 u4 u5 w') (put6 d0 d1 d2 d3 d4 d5 a0 u0 u1 u2 u3 u4 u5) w)
    (hend : ∀ (u0 u2 : Value) (w : World) (g9 g10 : Nat) (s1 s2 : Er), g9 ≠ g10 → X.heap.size ≤ g9 → X.heap.size ≤ g10 → Flds w g9 TE s1.cells → Flds w g10 TE s2.cells → ExAt TE (fun k => X.heap.size ≤ k ∧ k ≠ g9 ∧ k ≠ g10) 26 w em s1 → ExAt TE (fun k => X.heap.size ≤ k ∧ k ≠ g9 ∧ k ≠ g10) 26 w en s2 → Below X.heap.size X w →
      Q .normal (put6 d0 d1 d2 d3 d4 d5 a0 rm.val s1.val rn.val s2.val (.pointer (some ⟨g9, 0, none⟩)) (.pointer (some ⟨g10, 0, none⟩))) w) : (Code.region id l.toArray true).wp P Q a0 X := by
  refine ag.region_inv (fun b a w => ∃ u0 u1 u2 u3 u4 u5, a = put6 d0 d1 d2 d3 d4 d5 a0 u0 u1 u2 u3 u4 u5 ∧ ∃ A1 A2 g9 g10 s1 s2, TI X em en rm rn A1 A2 g9 g10 s1 s2 b u0 u1 u2 u3 u4 u5 w) hm hB ?_ ?_ ?_
  · obtain ⟨u0, u1, u2, u3, u4, u5, h⟩ := h0
    rw [hl]
    exact ⟨u0, u1, u2, u3, u4, u5, h, _, _, _, _, rm, rm, TI.zero⟩
  · rintro b i o a w ho hbi hc hw ⟨u0, u1, u2, u3, u4, u5, rfl, A1, A2, g9, g10, s1, s2, ht⟩
    exact hI b i o u0 u1 u2 u3 u4 u5 w A1 A2 g9 g10 s1 s2 (by have := (List.getElem?_eq_some_iff.1 ho).1; omega) ho (by rw [List.getElem?_toArray]; exact ho) hbi hc hw ht
  · rintro b a w hall ⟨u0, u1, u2, u3, u4, u5, rfl, A1, A2, g9, g10, s1, s2, ht⟩
    have hb : ∀ j, j < 8 → b j = true := fun j hj => hall j (by omega)
    obtain ⟨rfl, t1⟩ := ht.v1 (hb 1 (by decide))
    obtain ⟨rfl, t3⟩ := ht.v3 (hb 3 (by decide))
    obtain ⟨rfl, q2, ⟨x0, x1, x2, x3, x4, x5, x6, x7, hf9, e9⟩, q4, q5⟩ := ht.p4 (hb 4 (by decide))
    obtain ⟨rfl, p2, ⟨y0, y1, y2, y3, y4, y5, y6, y7, hf10, e10⟩, p4, p5⟩ := ht.p5 (hb 5 (by decide))
    obtain rfl := ht.v0 (hb 0 (by decide))
    obtain rfl := ht.v2 (hb 2 (by decide))
    rw [e9 (hb 6 (by decide))] at hf9
    rw [e10 (hb 7 (by decide))] at hf10
    exact hend rm.val rn.val w g9 g10 s1 s2 (ht.ne (hb 4 (by decide)) (hb 5 (by decide))) q2 p2 hf9 hf10 (t1.mono (Nat.le_refl _) (fun k _ hk => ⟨(ht.a1 k hk).1, fun e => q4 (e ▸ hk), fun e => p4 (e ▸ hk)⟩)) (t3.mono (Nat.le_refl _) (fun k _ hk => ⟨(ht.a2 k hk).1, fun e => q5 (e ▸ hk), fun e => p5 (e ▸ hk)⟩)) ht.bel
end Go.Proofs.YtfnajccnlcfbiaaDoor.ex
