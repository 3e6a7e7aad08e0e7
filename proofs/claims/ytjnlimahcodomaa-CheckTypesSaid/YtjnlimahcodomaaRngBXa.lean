/- A range over a function whose round makes memory before its body: after RngA. No program. -/
import Derived.Test.YtjnlimahcodomaaRngX
import Derived.Test.YtjnlimahcodomaaObj
import Derived.Test.YtjnlimahcodomaaExprHJ
import Derived.Test.YtjnlimahcodomaaAgInJ
namespace Go.Proofs.Ytjnlimahcodomaa
set_option linter.unusedVariables false
open Go.RowKit
variable {F : Fence} {n : Nat} {P : Program}
/-- a range over a function whose round first makes memory (its variable is boxed) -/
theorem range_new {g : Operand} {ps : Array Tmp} {assign body : Code} {Q : Exit → Act → World → Prop} {a : Act} {w : World}
    (hro : F.round = none) (h1 : 1 ≤ n) {gf : Nat} {lb : Array Value} (hg : a.eval g = .func (.func gf) #[] lb) (hFg : F.fn gf) (eg : ∀ args w, (callFunc gf args).run P w = .ok (.enter gf args) w)
    {A : Nat → World → Array Value → Prop} {Kp : World → World → Prop} {N : Nat} (hseq : SeqArg F (n - 1) P gf lb A Kp N w)
    (hAb : ∀ (k : Nat) (W : World) (xs : Array Value) (l : Nat) (o o' : Obj), w.heap.size ≤ l → W.heap[l]? = some o → o.isCells = false → o.isWalk = false → A k W xs → A k (W.putObj l o') xs)
    (hKt : ∀ {A B C : World}, Kp A B → Kp B C → Kp A C) (hKb : ∀ (W : World) (l : Nat) (o o' : Obj), w.heap.size ≤ l → W.heap[l]? = some o → o.isCells = false → o.isWalk = false → Kp W (W.putObj l o')) (hps : ∀ k W xs, A k W xs → xs.size = ps.size)
    (I : Nat → World → Prop) (Ix : Code → Nat → World → Prop) (hI : OwnFrom w.heap.size I) (hIx : ∀ c, OwnFrom w.heap.size (Ix c)) (h0 : I 0 w)
    (hAw : ∀ (k : Nat) (W W' : World) (xs : Array Value), Below W.heap.size W W' → A k W xs → A k W' xs) (hKw : ∀ {W W' : World}, Below W.heap.size W W' → Kp W W')
    (Bx : Nat → Array Value → Act → World → Prop) (hBx : ∀ (k : Nat) (xs : Array Value) (a' : Act) (W : World) (l : Nat) (o o' : Obj), w.heap.size ≤ l → W.heap[l]? = some o → o.isCells = false → o.isWalk = false → Bx k xs a' W → Bx k xs a' (W.putObj l o'))
    (hassign : ∀ (l k : Nat) (W : World) (xs : Array Value) (K : Act → World → Prop), k < N → I k W → A k W xs → w.heap.size ≤ W.heap.size → (∀ a' W', Bx k xs a' W' → Below W.heap.size W W' → K a' W') →
      assign.wpIn (F.inRound l) (n - 1 - 1) P (Exit.then K (fun _ _ _ => False)) { tmps := (ps.zip xs).foldl (fun t (p, v) => t.setIfInBounds p v) a.tmps, defers := [] } W)
    (hbody : ∀ (l k : Nat) (W : World) (xs : Array Value) (a' : Act), k < N → I k W → A k W xs → Bx k xs a' W → body.wpIn (F.inRound l) (n - 1 - 1) P (roundPost w.heap.size Kp I Ix k W) a' W)
    (hdone : ∀ (D : Nat) (W : World), w.heap.size ≤ D → I N W → W.heap[D]? = some (.deferred (some [])) → Q .normal { a with defers := { target := .collected D, args := #[] } :: a.defers } W)
    (hstop : ∀ (D : Nat) (c : Code) (k : Nat) (W : World), w.heap.size ≤ D → k ≤ N → Ix c k W → W.heap[D]? = some (.deferred (some [])) → c.wpIn F n P Q { a with defers := { target := .collected D, args := #[] } :: a.defers } W) :
    (Code.rangeFunc g ps assign body).wpIn F n P Q a w := by
  refine wpIn_rangeFunc ?_
  intro fn hfn
  rw [hro]
  -- the loop's record, by its state and the jump that is pending
  obtain ⟨rec, hrec⟩ : ∃ rec : LoopState → Option Code → Loop, rec = fun st pe => { state := st, pending := pe, fn, tmps := a.tmps, params := ps, assign, body, defers := w.heap.size } := ⟨_, rfl⟩
  -- two new blocks: the rounds' deferred calls (D), the record (L)
  generalize hD : w.heap.size = D at *
  obtain ⟨W1, hW1⟩ : ∃ W1, (w.alloc (.deferred (some []))).alloc (.loop (rec .ready none)) = W1 := ⟨_, rfl⟩
  have lies : Below D w W1 := by rw [← hW1, ← hD]; exact ((Below.refl _ w).alloc (Nat.le_refl _) _).alloc (by simp) _
  have recAt : W1.heap[D + 1]? = some (.loop (rec .ready none)) := by
    have := World.alloc_heap_new (w.alloc (.deferred (some []))) (.loop (rec .ready none))
    rwa [World.size_alloc, hD, hW1] at this
  have defAt : W1.heap[D]? = some (.deferred (some [])) := by
    have := World.alloc_heap_new w (.deferred (some []))
    rw [hD] at this
    rw [← hW1]; exact (Below.heap_alloc _ _ _ (by simp; omega)).trans this
  have start : I 0 W1 := by rw [← hW1]; exact hI.alloc _ (hI.alloc _ h0)
  have size1 : W1.heap.size = D + 2 := by rw [← hW1]; simp [hD]
  have walkOnly : ∀ {A : World} {row : Option Nat}, (∀ r, row = some r → W1.heap.size ≤ r ∧ ∃ o : Obj, A.heap[r]? = some o ∧ o.isWalk = true) → ∀ r, row = some r → D ≤ r ∧ ∃ o : Obj, A.heap[r]? = some o ∧ o.isCells = false := by
    intro A row h r e
    obtain ⟨h1, o, ho, hw⟩ := h r e
    exact ⟨by omega, o, ho, Obj.not_cells_of_walk hw⟩
  refine ⟨D + 1, [{ target := .collected D, args := #[] }], W1, { target := .fn (.func gf) lb, args := #[.func (.yield (D + 1)) #[] #[]] }, W1, gf, #[.func (.yield (D + 1)) #[] #[]] ++ lb, W1, ?_, ?_, ?_, ?_, fun _ => h1, ?_⟩
  · subst hD; rw [← hW1, hrec]; exact run_enterLoop_outer _ _ _ _ _
  · simp only [resolve, hg]
    simp [go_sem]
  · intro f' hf'; simp [Target.leads] at hf'; subst hf'; exact hFg
  · simp [invoke, go_sem, eg]
  refine (hseq (D + 1) (fun k W => I k W ∧ W.heap[D + 1]? = some (.loop (rec .ready none)) ∧ W.heap[D]? = some (.deferred (some [])))
    (fun k W => ∃ c, Ix c k W ∧ W.heap[D + 1]? = some (.loop (rec .done (some c))) ∧ W.heap[D]? = some (.deferred (some [])))
    W1 (by rw [hD]; exact lies) ?abJ ?abX ?oneRound ⟨start, recAt, defAt⟩).mono ?behind
  case abJ =>
    intro s A B row hs hg' hr
    exact ⟨hI s A B row hs.1 hg' (walkOnly hr), (grownBy_keeps hg' (fun r e => (hr r e).2) hs.2.1 rfl).trans hs.2.1, (grownBy_keeps hg' (fun r e => (hr r e).2) hs.2.2 rfl).trans hs.2.2⟩
  case abX =>
    intro s A B row hs hg' hr
    obtain ⟨c, hc, hl, hk⟩ := hs
    exact ⟨c, hIx c s A B row hc hg' (walkOnly hr), (grownBy_keeps hg' (fun r e => (hr r e).2) hl rfl).trans hl, (grownBy_keeps hg' (fun r e => (hr r e).2) hk rfl).trans hk⟩
  case oneRound =>
    rintro k W xs hlen ⟨hi, hl, hk⟩ hA
    have inside : D + 1 < W.heap.size := (Array.getElem?_eq_some_iff.1 hl).1
    have hy := run_yield (P := P) (args := xs) hl (by rw [hrec]; exact hps k W xs hA)
    rw [hrec] at hy
    refine ⟨fn, _, assign, body, hy, roundIn_of_wpIn hfn (hassign _ k W xs _ hlen hi hA (by omega) (fun a' W' hbx hbel => ?_))⟩
    have hl0 := hl
    have kp0 : Kp W W' := hKw hbel
    replace hA := hAw k W W' xs hbel hA
    replace hi : I k W' := hI k W W' none hi (grown_of_below hbel) (fun _ e => by cases e)
    replace hk : W'.heap[D]? = some (.deferred (some [])) := (hbel.block D (Array.getElem?_eq_some_iff.1 hk).1).trans hk
    replace hl : W'.heap[D + 1]? = some (.loop (rec .ready none)) := (hbel.block (D + 1) inside).trans hl
    replace inside : D + 1 < W'.heap.size := (Array.getElem?_eq_some_iff.1 hl).1
    refine ⟨_, run_beginRound hl (by rw [hrec]), ?_⟩
    clear hy hl0 hbel
    -- the record is busy while the body runs
    obtain ⟨W2, hW2⟩ : ∃ W2, W'.putObj (D + 1) (.loop { rec .ready none with state := .busy }) = W2 := ⟨_, rfl⟩
    have busy : W2.heap[D + 1]? = some (.loop { rec .ready none with state := .busy }) := by rw [← hW2]; exact World.putObj_heap_same inside
    have def2 : W2.heap[D]? = some (.deferred (some [])) := by rw [← hW2]; exact (World.putObj_heap_other (by omega)).trans hk
    have kp2 : Kp W' W2 := by rw [← hW2]; exact hKb _ _ _ _ (by omega) hl rfl rfl
    have inv2 : I k W2 := by rw [← hW2]; exact hI.putObj _ hi (by omega) hl rfl
    have hA2 : A k W2 xs := by rw [← hW2]; exact hAb _ _ _ _ _ _ (by omega) hl rfl rfl hA
    have hB2 : Bx k xs a' W2 := by rw [← hW2]; exact hBx _ _ _ _ _ _ _ (by omega) hl rfl rfl hbx
    show body.wpIn _ _ _ _ _ (W'.putObj (D + 1) (.loop { rec .ready none with state := .busy }))
    rw [hW2]
    have close : ∀ (jump : Option Code) (W3 : World), KeepsFrom D W2 W3 →
        (Instr.endRound (D + 1) jump).run P W3 = .ok (.bool jump.isNone) (W3.putObj (D + 1) (.loop (rec (if jump.isNone then .ready else .done) jump))) ∧
        W3.heap[D + 1]? = some (.loop { rec .ready none with state := .busy }) ∧
        (W3.putObj (D + 1) (.loop (rec (if jump.isNone then .ready else .done) jump))).heap[D + 1]? = some (.loop (rec (if jump.isNone then .ready else .done) jump)) ∧
        (W3.putObj (D + 1) (.loop (rec (if jump.isNone then .ready else .done) jump))).heap[D]? = some (.deferred (some [])) := by
      intro jump W3 h3
      have still := h3.same _ _ (by omega) busy rfl
      have ends := run_endRound (P := P) jump still
      rw [hrec] at ends still ⊢
      exact ⟨ends, still, World.putObj_heap_same (Array.getElem?_eq_some_iff.1 still).1, (World.putObj_heap_other (by omega)).trans (h3.same _ _ (Nat.le_refl _) def2 rfl)⟩
    refine wpIn_mono (hbody _ k _ xs a' hlen inv2 hA2 hB2) ?_
    rintro e a3 W3 hp
    cases e with
    | normal =>
      obtain ⟨h3, hkp, hi3⟩ := hp
      obtain ⟨r1, r2, r3, r4⟩ := close none W3 h3
      exact ⟨_, _, r1, .inl ⟨rfl, ⟨hI.putObj _ hi3 (by omega) r2 rfl, r3, r4⟩, hKt (hKt (hKt kp0 kp2) hkp) (hKb _ _ _ _ (by omega) r2 rfl rfl)⟩⟩
    | ret =>
      obtain ⟨r1, r2, r3, r4⟩ := close (some .ret) W3 hp.1
      exact ⟨_, _, r1, .inr ⟨rfl, .ret, (hIx _).putObj _ hp.2 (by omega) r2 rfl, r3, r4⟩⟩
    | exit id =>
      obtain ⟨r1, r2, r3, r4⟩ := close (some (.exit id)) W3 hp.1
      exact ⟨_, _, r1, .inr ⟨rfl, .exit id, (hIx _).putObj _ hp.2 (by omega) r2 rfl, r3, r4⟩⟩
    | goto t =>
      obtain ⟨r1, r2, r3, r4⟩ := close (some (.goto t)) W3 hp.1
      exact ⟨_, _, r1, .inr ⟨rfl, .goto t, (hIx _).putObj _ hp.2 (by omega) r2 rfl, r3, r4⟩⟩
    | panic ch => exact hp.elim
    | outgrown => exact hp.elim
  case behind =>
    rintro e W2 ⟨⟨v, rfl⟩, (⟨hi, hl, hk⟩ | ⟨k, hkN, c, hi, hl, hk⟩)⟩
    · exact ⟨none, _, by have := run_endLoop (P := P) hl (by rw [hrec]; simp); rw [hrec] at this; exact this, hdone _ _ (Nat.le_refl _) (hI.putObj _ hi (by omega) hl rfl) ((World.putObj_heap_other (by omega)).trans hk)⟩
    · exact ⟨some c, _, by have := run_endLoop (P := P) hl (by rw [hrec]; simp); rw [hrec] at this; exact this, hstop _ c k _ (Nat.le_refl _) hkN ((hIx c).putObj _ hi (by omega) hl rfl) ((World.putObj_heap_other (by omega)).trans hk)⟩
/-- the same, where the round's one variable is put into a new box -/
theorem range_box {R : Type} {g : Operand} {ps : Array Tmp} {assign body : Code} {Q : Exit → Act → World → Prop} {a : Act} {w : World}
    (hro : F.round = none) (h1 : 1 ≤ n) {gf : Nat} {lb : Array Value} (hg : a.eval g = .func (.func gf) #[] lb) (hFg : F.fn gf) (eg : ∀ args w, (callFunc gf args).run P w = .ok (.enter gf args) w)
    {A : Nat → World → Array Value → Prop} {Kp : World → World → Prop} {N : Nat} (hseq : SeqArg F (n - 1) P gf lb A Kp N w)
    (hAb : ∀ (k : Nat) (W : World) (xs : Array Value) (l : Nat) (o o' : Obj), w.heap.size ≤ l → W.heap[l]? = some o → o.isCells = false → o.isWalk = false → A k W xs → A k (W.putObj l o') xs)
    (hKt : ∀ {A B C : World}, Kp A B → Kp B C → Kp A C) (hKb : ∀ (W : World) (l : Nat) (o o' : Obj), w.heap.size ≤ l → W.heap[l]? = some o → o.isCells = false → o.isWalk = false → Kp W (W.putObj l o')) (hps : ps.size = 1)
    (hAw : ∀ (k : Nat) (W W' : World) (xs : Array Value), Below W.heap.size W W' → A k W xs → A k W' xs) (hKw : ∀ {W W' : World}, Below W.heap.size W W' → Kp W W')
    (I : Nat → World → Prop) (Ix : Code → Nat → World → Prop) (hI : OwnFrom w.heap.size I) (hIx : ∀ c, OwnFrom w.heap.size (Ix c)) (h0 : I 0 w)
    (vl : R → Value) (cl : R → List Value) (T : TypeId) (a₁ : R → Nat → Act) (hone : ∀ k W xs, A k W xs → ∃ s, xs = #[vl s])
    (hassign : ∀ (l k : Nat) (W : World) (s : R) (gx : Nat) (K : Act → World → Prop), k < N → I k W → A k W #[vl s] → W.heap.size = gx → w.heap.size ≤ gx → K (a₁ s gx) (W.alloc (.cells (cl s).toArray T)) →
      assign.wpIn (F.inRound l) (n - 1 - 1) P (Exit.then K (fun _ _ _ => False)) { tmps := (ps.zip #[vl s]).foldl (fun t (p, v) => t.setIfInBounds p v) a.tmps, defers := [] } W)
    (hbody : ∀ (l k : Nat) (W : World) (s : R) (gx : Nat), k < N → I k W → A k W #[vl s] → w.heap.size ≤ gx → Flds W gx T (cl s) → body.wpIn (F.inRound l) (n - 1 - 1) P (roundPost w.heap.size Kp I Ix k W) (a₁ s gx) W)
    (hdone : ∀ (D : Nat) (W : World), w.heap.size ≤ D → I N W → W.heap[D]? = some (.deferred (some [])) → Q .normal { a with defers := { target := .collected D, args := #[] } :: a.defers } W)
    (hstop : ∀ (D : Nat) (c : Code) (k : Nat) (W : World), w.heap.size ≤ D → k ≤ N → Ix c k W → W.heap[D]? = some (.deferred (some [])) → c.wpIn F n P Q { a with defers := { target := .collected D, args := #[] } :: a.defers } W) :
    (Code.rangeFunc g ps assign body).wpIn F n P Q a w := by
  refine range_new hro h1 hg hFg eg hseq hAb hKt hKb (fun k W xs hA => ?_) I Ix hI hIx h0 hAw hKw (fun k xs a' W => ∃ s gx, xs = #[vl s] ∧ a' = a₁ s gx ∧ w.heap.size ≤ gx ∧ Flds W gx T (cl s)) ?_ ?_ ?_ hdone hstop
  · obtain ⟨s, rfl⟩ := hone k W xs hA
    rw [hps]; rfl
  · rintro k xs a' W l o o' hl h1 h2 h3 ⟨s, gx, e1, e2, e3, e4⟩
    refine ⟨s, gx, e1, e2, e3, (World.putObj_heap_other (fun e => ?_)).trans e4⟩
    subst e
    have e4' : W.heap[gx]? = _ := e4
    rw [e4'] at h1; cases h1; cases h2
  · rintro l k W xs K hk hi hA hw hK
    obtain ⟨s, rfl⟩ := hone k W xs hA
    exact hassign l k W s W.heap.size K hk hi hA rfl hw (hK _ _ ⟨s, _, rfl, rfl, hw, Flds.new W T _⟩ ((Below.refl _ _).alloc (Nat.le_refl _) _))
  · rintro l k W xs a' hk hi hA ⟨s, gx, rfl, rfl, e3, e4⟩
    exact hbody l k W s gx hk hi hA e3 e4
end Go.Proofs.Ytjnlimahcodomaa
/- What the law ExprTells's two ranges over All want: parts of slim trees, the kept facts; no walk. -/
namespace Go.Proofs.Ytjnlimahcodomaa.ex
set_option linter.unusedVariables false
open Go.RowKit
open val (V)
theorem Ex.slim_part : ∀ (e : Ex), e.slim → ∀ x ∈ e.parts, x.slim := by
  intro e
  induction e using Ex.ind with
  | h k op v tb nm l ih =>
    intro hs x hx
    obtain ⟨-, h2⟩ := Ex.slim_parts hs
    rw [Ex.parts_eq, List.mem_cons, partsL_flat, List.mem_flatMap] at hx
    rcases hx with rfl | ⟨y, hy, hx⟩
    · exact hs
    · exact ih y hy (h2 y hy) x hx
/-- the cells of a record in a row of records -/
theorem row_cells {T : TypeId} {W : World} {a : Option Addr} {B n c : Nat} {us : List Er} (hr : W.ownsRow B T 8 (.slice a n c) n (erCells us)) {i : Nat} (hi : i < n) {u : Er} (hu : us[i]? = some u) :
    ∃ g, a = some ⟨g, 0, none⟩ ∧ g < W.heap.size ∧ W.cell? ⟨g, i * 8, none⟩ = some (.int .i64 u.k) ∧ W.cell? ⟨g, i * 8 + 1, none⟩ = some (.int .i64 u.op) ∧ W.cell? ⟨g, i * 8 + 2, none⟩ = some (.int .i64 u.v.k) ∧ W.cell? ⟨g, i * 8 + 3, none⟩ = some (.int .i64 u.v.n) ∧ W.cell? ⟨g, i * 8 + 4, none⟩ = some (.string u.v.s) ∧ W.cell? ⟨g, i * 8 + 5, none⟩ = some (.string u.tb) ∧ W.cell? ⟨g, i * 8 + 6, none⟩ = some (.string u.nm) ∧ W.cell? ⟨g, i * 8 + 7, none⟩ = some u.lv := by
  obtain ⟨g, rfl, hg1, hg2, hc, -⟩ := owns_cellAt hr (by omega)
  obtain ⟨c0, c1, c2, c3, c4, c5, c6, c7⟩ := erCells_at us i u hu
  exact ⟨g, rfl, hg2, (hc _ (by omega)).trans c0, (hc _ (by omega)).trans c1, (hc _ (by omega)).trans c2, (hc _ (by omega)).trans c3, (hc _ (by omega)).trans c4, (hc _ (by omega)).trans c5, (hc _ (by omega)).trans c6, (hc _ (by omega)).trans c7⟩
/-- a counter in a box behind a world -/
def KI (Y : World) (T : TypeId) (g : Nat) (k : Nat) (W : World) : Prop := Flds W g T [.int .i64 (k : Int)] ∧ Below Y.heap.size Y W
theorem KI.own {Y : World} {T : TypeId} {g C : Nat} (hC : Y.heap.size ≤ C) : OwnFrom C (fun k W => KI Y T g k W) := by
  rintro k A Z row ⟨h1, h4⟩ hg hr
  refine ⟨h1.grown hg (fun e => ?_), h4.grown hg h4.size (fun j e => Nat.le_trans hC (hr j e).1)⟩
  obtain ⟨-, o, ho, hc⟩ := hr g e.symm
  have h1' : A.heap[g]? = _ := h1
  rw [h1'] at ho
  cases ho
  cases hc
/-- at the start 0, or 1 once a round was left -/
def KX (Y : World) (T : TypeId) (g : Nat) (c0 : Code) (c : Code) (k : Nat) (W : World) : Prop := c = c0 ∧ KI Y T g 1 W
theorem KX.own {Y : World} {T : TypeId} {g C : Nat} {c0 : Code} (hC : Y.heap.size ≤ C) (c : Code) : OwnFrom C (KX Y T g c0 c) := by
  rintro k A Z row ⟨h1, h2⟩ hg hr
  exact ⟨h1, KI.own (T := T) (g := g) hC 1 A Z row h2 hg hr⟩
/-- a counter that stands at 0 as long as no round was left -/
def KZ (Y : World) (T : TypeId) (g : Nat) (k : Nat) (W : World) : Prop := k = 0 ∧ KI Y T g 0 W
theorem KZ.own {Y : World} {T : TypeId} {g C : Nat} (hC : Y.heap.size ≤ C) : OwnFrom C (fun k W => KZ Y T g k W) := by
  rintro k A Z row ⟨h1, h2⟩ hg hr
  exact ⟨h1, KI.own (T := T) (g := g) hC 0 A Z row h2 hg hr⟩
theorem PartA.put {X P : Nat → Prop} {d : Nat} {ps : List Ex} {B k : Nat} {W : World} {xs : Array Value} {l : Nat} {o o' : Go.Obj} (hXP : ∀ b, X b → ¬ P b) (hl : B ≤ l) (h1 : W.heap[l]? = some o) (h2 : o.isCells = false) (hA : PartA X d ps k W xs) : PartA X d ps k (W.putObj l o') xs := by
  obtain ⟨x, s, e1, e2, e3⟩ := hA
  exact ⟨x, s, e1, e2, e3.onlyX hXP (OnlyX.put (B := B) W l o o' hl h1 h2)⟩
theorem PartA.one {X : Nat → Prop} {d : Nat} {ps : List Ex} {k : Nat} {W : World} {xs : Array Value} (hA : PartA X d ps k W xs) : xs.size = 1 := by
  obtain ⟨x, s, -, rfl, -⟩ := hA
  rfl
theorem keeps_b {B : Nat} {W W' : World} (h : Below W.heap.size W W') : KeepsFrom B W W' := KeepsFrom.of_grownBy (grown_of_below h) (fun _ e => by cases e)
theorem keeps_s {B : Nat} (W : World) (a : Addr) (u : Value) : KeepsFrom B W (W.setCell a u) := (KeepsOthers.setCell _ _ _).from B
theorem onlyX_s {B : Nat} {P : Nat → Prop} (W : World) (g j : Nat) (hp : P g) (u : Value) : OnlyX B P W (W.setCell ⟨g, j, none⟩ u) := .of_only ((Only.refl _ W).setCell _ _ (fun _ => hp))
/-- a record's cells, each a letter -/
structure Ev where
  k : Int
  op : Int
  vk : Int
  vn : Int
  vs : ByteArray
  tb : ByteArray
  nm : ByteArray
  a : Option Addr
  n : Nat
  c : Nat
def Ev.er (x : Ev) : Er := ⟨x.k, x.op, ⟨x.vk, x.vn, x.vs⟩, x.tb, x.nm, .slice x.a x.n x.c⟩
theorem PartA.ev {X : Nat → Prop} {d : Nat} {ps : List Ex} {k : Nat} {W : World} {xs : Array Value} (hA : PartA X (d + 1) ps k W xs) : ∃ x : Ev, xs = #[.agg #[.int .i64 x.k, .int .i64 x.op, .int .i64 x.vk, .int .i64 x.vn, .string x.vs, .string x.tb, .string x.nm, .slice x.a x.n x.c]] := by
  obtain ⟨x, s, -, rfl, h⟩ := hA
  obtain ⟨a, c, us, hl, -⟩ := h.parts
  obtain ⟨k, op, v, tb, nm, lv⟩ := s
  dsimp only at hl
  subst hl
  exact ⟨⟨k, op, v.k, v.n, v.s, tb, nm, a, x.l.length, c⟩, rfl⟩
theorem PartA.at {X : Nat → Prop} {d : Nat} {ps : List Ex} {k : Nat} {W : World} {x : Ev} (hA : PartA X (d + 1) ps k W #[.agg #[.int .i64 x.k, .int .i64 x.op, .int .i64 x.vk, .int .i64 x.vn, .string x.vs, .string x.tb, .string x.nm, .slice x.a x.n x.c]]) : ∃ y, ps[k]? = some y ∧ x.n = y.l.length ∧ ExAt TE X (d + 1) W y x.er := by
  obtain ⟨y, s, h1, h2, h⟩ := hA
  obtain ⟨a, c, us, hl, -⟩ := h.parts
  obtain ⟨k, op, ⟨vk, vn, vs⟩, tb, nm, lv⟩ := s
  obtain ⟨xk, xop, xvk, xvn, xvs, xtb, xnm, xa, xn, xc⟩ := x
  dsimp only at hl
  subst hl
  unfold Er.val at h2
  simp only [Array.mk.injEq, List.cons.injEq, and_true, Value.agg.injEq, Value.int.injEq, true_and, Value.string.injEq, Value.slice.injEq] at h2
  obtain ⟨rfl, rfl, rfl, rfl, rfl, rfl, rfl, rfl, rfl, rfl⟩ := h2
  exact ⟨y, h1, rfl, h⟩
theorem RowAt.kids {T : TypeId} {X : Nat → Prop} {B d : Nat} {a : Option Addr} {n c : Nat} {l : List Ex} {W : World} (h : RowAt T X B (d + 1) (.slice a n c) l W) (hn : l.length = n) {k : Nat} (hk : k < n) {x : Ex} (hx : l[k]? = some x) :
    ∃ (ga : Nat) (uk uop : Int) (uv : V) (utb unm : ByteArray) (ua : Option Addr) (uc : Nat), a = some ⟨ga, 0, none⟩ ∧ ExAt T X (d + 1) W x ⟨uk, uop, uv, utb, unm, .slice ua x.l.length uc⟩ ∧ ga < W.heap.size ∧ W.cell? ⟨ga, k * 8, none⟩ = some (.int .i64 uk) ∧ W.cell? ⟨ga, k * 8 + 1, none⟩ = some (.int .i64 uop) ∧ W.cell? ⟨ga, k * 8 + 2, none⟩ = some (.int .i64 uv.k) ∧ W.cell? ⟨ga, k * 8 + 3, none⟩ = some (.int .i64 uv.n) ∧ W.cell? ⟨ga, k * 8 + 4, none⟩ = some (.string uv.s) ∧ W.cell? ⟨ga, k * 8 + 5, none⟩ = some (.string utb) ∧ W.cell? ⟨ga, k * 8 + 6, none⟩ = some (.string unm) ∧ W.cell? ⟨ga, k * 8 + 7, none⟩ = some (.slice ua x.l.length uc) := by
  obtain ⟨rs, r1, r2, r3⟩ := h
  rw [hn] at r1 r2
  have hu := List.getElem?_eq_getElem (show k < rs.length by omega)
  generalize rs[k] = u at hu
  have hxu := r3 k x u hx hu
  obtain ⟨ga, rfl, hga, c0, c1, c2, c3, c4, c5, c6, c7⟩ := row_cells r2 hk hu
  obtain ⟨ua, uc, us', hul, -⟩ := hxu.parts
  obtain ⟨uk, uop, uv, utb, unm, ulv⟩ := u
  dsimp only at hul c0 c1 c2 c3 c4 c5 c6 c7
  subst hul
  exact ⟨ga, uk, uop, uv, utb, unm, ua, uc, rfl, hxu, hga, c0, c1, c2, c3, c4, c5, c6, c7⟩
end Go.Proofs.Ytjnlimahcodomaa.ex
