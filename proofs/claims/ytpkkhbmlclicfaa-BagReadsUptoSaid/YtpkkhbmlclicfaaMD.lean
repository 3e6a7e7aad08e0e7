/- A range over a function whose items are known as they come (new slices, say): a law in my own words over the kit's notions, after Rng. No program. -/
import Derived.Test.YtpkkhbmlclicfaaRng
import Derived.RangeFuncNested
import Derived.RangeFuncBound
import Derived.RangeFuncCalls
import Derived.RangeFuncLeaves
import Derived.WalkKit
import Derived.RangeFuncBox
import Derived.Shelf.Abstract
import Derived.Shelf.RegionOpen
import Derived.OwnWalkIn
import Derived.TacticsInMore
import Derived.LoopNIn
import Derived.LoopIn
import Derived.Maps.AppendAt
import Derived.Sort.QuietTacIn
import Derived.Test.YtpkkhbmlclicfaaBagQ
import Derived.Test.YtpkkhbmlclicfaaBagV
import Derived.Stop.RegionWithIn
import Derived.BigRegionIn
import Derived.Test.YtpkkhbmlclicfaaAg
import Derived.Test.YtpkkhbmlclicfaaMC
namespace Go.Proofs.Ytpkkhbmlclicfaa
set_option linter.unusedVariables false
open Go.RowKit
variable {F : Fence} {n : Nat} {P : Program}
/-- An iterator that yields, N times, what 'A k' allows in the world as it is then, as long as the body goes on. -/
def SeqArg (F : Fence) (n : Nat) (P : Program) (g : Nat) (lb : Array Value) (A : Nat → World → Array Value → Prop) (Kp : World → World → Prop) (N : Nat) (w : World) : Prop :=
  ∀ (l : Nat) (J Jx : Nat → World → Prop) (W : World), Below w.heap.size w W → AbidesFrom W.heap.size J → AbidesFrom W.heap.size Jx →
    (∀ k W1 xs, k < N → J k W1 → A k W1 xs → YieldAt F (n - 1) P l xs W1 fun e W' =>
      (e = .returned (.bool true) ∧ J (k + 1) W' ∧ Kp W1 W') ∨ (e = .returned (.bool false) ∧ Jx (k + 1) W')) →
    J 0 W →
    CallsIn F n P g (#[.func (.yield l) #[] #[]] ++ lb) W fun e W' => (∃ v, e = .returned v) ∧ (J N W' ∨ ∃ k, k ≤ N ∧ Jx k W')
theorem range_arg {g : Operand} {ps : Array Tmp} {assign body : Code} {Q : Exit → Act → World → Prop} {a : Act} {w : World}
    (hro : F.round = none) (h1 : 1 ≤ n) {gf : Nat} {lb : Array Value} (hg : a.eval g = .func (.func gf) #[] lb) (hFg : F.fn gf) (eg : ∀ args w, (callFunc gf args).run P w = .ok (.enter gf args) w)
    {A : Nat → World → Array Value → Prop} {Kp : World → World → Prop} {N : Nat} (hseq : SeqArg F (n - 1) P gf lb A Kp N w)
    (hAb : ∀ (k : Nat) (W : World) (xs : Array Value) (l : Nat) (o o' : Obj), w.heap.size ≤ l → W.heap[l]? = some o → o.isCells = false → o.isWalk = false → A k W xs → A k (W.putObj l o') xs)
    (hKt : ∀ {A B C : World}, Kp A B → Kp B C → Kp A C) (hKb : ∀ (W : World) (l : Nat) (o o' : Obj), w.heap.size ≤ l → W.heap[l]? = some o → o.isCells = false → o.isWalk = false → Kp W (W.putObj l o')) (hps : ∀ k W xs, A k W xs → xs.size = ps.size)
    (I : Nat → World → Prop) (Ix : Code → Nat → World → Prop) (hI : OwnFrom w.heap.size I) (hIx : ∀ c, OwnFrom w.heap.size (Ix c)) (h0 : I 0 w) (a₁ : Nat → Array Value → Act)
    (hassign : ∀ (l k : Nat) (W : World) (xs : Array Value) (K : Act → World → Prop), k < N → I k W → A k W xs → K (a₁ k xs) W →
      assign.wpIn (F.inRound l) (n - 1 - 1) P (Exit.then K (fun _ _ _ => False)) { tmps := (ps.zip xs).foldl (fun t (p, v) => t.setIfInBounds p v) a.tmps, defers := [] } W)
    (hbody : ∀ (l k : Nat) (W : World) (xs : Array Value), k < N → I k W → A k W xs → body.wpIn (F.inRound l) (n - 1 - 1) P (roundPost w.heap.size Kp I Ix k W) (a₁ k xs) W)
    (hdone : ∀ (D : Nat) (W : World), w.heap.size ≤ D → I N W → W.heap[D]? = some (.deferred (some [])) → Q .normal { a with defers := { target := .collected D, args := #[] } :: a.defers } W)
    (hstop : ∀ (D : Nat) (c : Code) (k : Nat) (W : World), w.heap.size ≤ D → k ≤ N → Ix c k W → W.heap[D]? = some (.deferred (some [])) → c.wpIn F n P Q { a with defers := { target := .collected D, args := #[] } :: a.defers } W) :
    (Code.rangeFunc g ps assign body).wpIn F n P Q a w := by
  refine wpIn_rangeFunc ?_
  intro fn hfn
  rw [hro]
  -- the loop's record, by its state and the jump that is pending
  obtain ⟨rec, hrec⟩ : ∃ rec : LoopState → Option Code → Loop, rec = fun st pe => { state := st, pending := pe, fn, tmps := a.tmps, params := ps, assign, body, defers := w.heap.size } := ⟨_, rfl⟩
  -- two new blocks: the rounds' deferred calls (D), the record (L)
  generalize hD : w.heap.size = D at *
  obtain ⟨W1, hW1⟩ : ∃ W1, (w.alloc (.deferred (some []))).alloc (.loop (rec .ready none)) = W1 := ⟨_, rfl⟩
  have lies : Below D w W1 := by rw [← hW1, ← hD]; exact ((Below.refl _ w).alloc (Nat.le_refl _) _).alloc (by simp) _
  have recAt : W1.heap[D + 1]? = some (.loop (rec .ready none)) := by
    have := World.alloc_heap_new (w.alloc (.deferred (some []))) (.loop (rec .ready none))
    rwa [World.size_alloc, hD, hW1] at this
  have defAt : W1.heap[D]? = some (.deferred (some [])) := by
    have := World.alloc_heap_new w (.deferred (some []))
    rw [hD] at this
    rw [← hW1]; exact (Below.heap_alloc _ _ _ (by simp; omega)).trans this
  have start : I 0 W1 := by rw [← hW1]; exact hI.alloc _ (hI.alloc _ h0)
  have size1 : W1.heap.size = D + 2 := by rw [← hW1]; simp [hD]
  have walkOnly : ∀ {A : World} {row : Option Nat}, (∀ r, row = some r → W1.heap.size ≤ r ∧ ∃ o : Obj, A.heap[r]? = some o ∧ o.isWalk = true) → ∀ r, row = some r → D ≤ r ∧ ∃ o : Obj, A.heap[r]? = some o ∧ o.isCells = false := by
    intro A row h r e
    obtain ⟨h1, o, ho, hw⟩ := h r e
    exact ⟨by omega, o, ho, Obj.not_cells_of_walk hw⟩
  refine ⟨D + 1, [{ target := .collected D, args := #[] }], W1, { target := .fn (.func gf) lb, args := #[.func (.yield (D + 1)) #[] #[]] }, W1, gf, #[.func (.yield (D + 1)) #[] #[]] ++ lb, W1, ?_, ?_, ?_, ?_, fun _ => h1, ?_⟩
  · subst hD; rw [← hW1, hrec]; exact run_enterLoop_outer _ _ _ _ _
  · simp only [resolve, hg]
    simp [go_sem]
  · intro f' hf'; simp [Target.leads] at hf'; subst hf'; exact hFg
  · simp [invoke, go_sem, eg]
  refine (hseq (D + 1) (fun k W => I k W ∧ W.heap[D + 1]? = some (.loop (rec .ready none)) ∧ W.heap[D]? = some (.deferred (some [])))
    (fun k W => ∃ c, Ix c k W ∧ W.heap[D + 1]? = some (.loop (rec .done (some c))) ∧ W.heap[D]? = some (.deferred (some [])))
    W1 (by rw [hD]; exact lies) ?abJ ?abX ?oneRound ⟨start, recAt, defAt⟩).mono ?behind
  case abJ =>
    intro s A B row hs hg' hr
    exact ⟨hI s A B row hs.1 hg' (walkOnly hr), (grownBy_keeps hg' (fun r e => (hr r e).2) hs.2.1 rfl).trans hs.2.1, (grownBy_keeps hg' (fun r e => (hr r e).2) hs.2.2 rfl).trans hs.2.2⟩
  case abX =>
    intro s A B row hs hg' hr
    obtain ⟨c, hc, hl, hk⟩ := hs
    exact ⟨c, hIx c s A B row hc hg' (walkOnly hr), (grownBy_keeps hg' (fun r e => (hr r e).2) hl rfl).trans hl, (grownBy_keeps hg' (fun r e => (hr r e).2) hk rfl).trans hk⟩
  case oneRound =>
    rintro k W xs hlen ⟨hi, hl, hk⟩ hA
    have inside : D + 1 < W.heap.size := (Array.getElem?_eq_some_iff.1 hl).1
    have hy := run_yield (P := P) (args := xs) hl (by rw [hrec]; exact hps k W xs hA)
    rw [hrec] at hy
    refine ⟨fn, _, assign, body, hy, roundIn_of_wpIn hfn (hassign _ k W xs _ hlen hi hA ⟨_, run_beginRound hl (by rw [hrec]), ?_⟩)⟩
    -- the record is busy while the body runs
    obtain ⟨W2, hW2⟩ : ∃ W2, W.putObj (D + 1) (.loop { rec .ready none with state := .busy }) = W2 := ⟨_, rfl⟩
    have busy : W2.heap[D + 1]? = some (.loop { rec .ready none with state := .busy }) := by rw [← hW2]; exact World.putObj_heap_same inside
    have def2 : W2.heap[D]? = some (.deferred (some [])) := by rw [← hW2]; exact (World.putObj_heap_other (by omega)).trans hk
    have kp2 : Kp W W2 := by rw [← hW2]; exact hKb _ _ _ _ (by omega) hl rfl rfl
    have inv2 : I k W2 := by rw [← hW2]; exact hI.putObj _ hi (by omega) hl rfl
    have hA2 : A k W2 xs := by rw [← hW2]; exact hAb _ _ _ _ _ _ (by omega) hl rfl rfl hA
    show body.wpIn _ _ _ _ _ (W.putObj (D + 1) (.loop { rec .ready none with state := .busy }))
    rw [hW2]
    have close : ∀ (jump : Option Code) (W3 : World), KeepsFrom D W2 W3 →
        (Instr.endRound (D + 1) jump).run P W3 = .ok (.bool jump.isNone) (W3.putObj (D + 1) (.loop (rec (if jump.isNone then .ready else .done) jump))) ∧
        W3.heap[D + 1]? = some (.loop { rec .ready none with state := .busy }) ∧
        (W3.putObj (D + 1) (.loop (rec (if jump.isNone then .ready else .done) jump))).heap[D + 1]? = some (.loop (rec (if jump.isNone then .ready else .done) jump)) ∧
        (W3.putObj (D + 1) (.loop (rec (if jump.isNone then .ready else .done) jump))).heap[D]? = some (.deferred (some [])) := by
      intro jump W3 h3
      have still := h3.same _ _ (by omega) busy rfl
      have ends := run_endRound (P := P) jump still
      rw [hrec] at ends still ⊢
      exact ⟨ends, still, World.putObj_heap_same (Array.getElem?_eq_some_iff.1 still).1, (World.putObj_heap_other (by omega)).trans (h3.same _ _ (Nat.le_refl _) def2 rfl)⟩
    refine wpIn_mono (hbody _ k _ xs hlen inv2 hA2) ?_
    rintro e a3 W3 hp
    cases e with
    | normal =>
      obtain ⟨h3, hkp, hi3⟩ := hp
      obtain ⟨r1, r2, r3, r4⟩ := close none W3 h3
      exact ⟨_, _, r1, .inl ⟨rfl, ⟨hI.putObj _ hi3 (by omega) r2 rfl, r3, r4⟩, hKt (hKt kp2 hkp) (hKb _ _ _ _ (by omega) r2 rfl rfl)⟩⟩
    | ret =>
      obtain ⟨r1, r2, r3, r4⟩ := close (some .ret) W3 hp.1
      exact ⟨_, _, r1, .inr ⟨rfl, .ret, (hIx _).putObj _ hp.2 (by omega) r2 rfl, r3, r4⟩⟩
    | exit id =>
      obtain ⟨r1, r2, r3, r4⟩ := close (some (.exit id)) W3 hp.1
      exact ⟨_, _, r1, .inr ⟨rfl, .exit id, (hIx _).putObj _ hp.2 (by omega) r2 rfl, r3, r4⟩⟩
    | goto t =>
      obtain ⟨r1, r2, r3, r4⟩ := close (some (.goto t)) W3 hp.1
      exact ⟨_, _, r1, .inr ⟨rfl, .goto t, (hIx _).putObj _ hp.2 (by omega) r2 rfl, r3, r4⟩⟩
    | panic ch => exact hp.elim
    | outgrown => exact hp.elim
  case behind =>
    rintro e W2 ⟨⟨v, rfl⟩, (⟨hi, hl, hk⟩ | ⟨k, hkN, c, hi, hl, hk⟩)⟩
    · exact ⟨none, _, by have := run_endLoop (P := P) hl (by rw [hrec]; simp); rw [hrec] at this; exact this, hdone _ _ (Nat.le_refl _) (hI.putObj _ hi (by omega) hl rfl) ((World.putObj_heap_other (by omega)).trans hk)⟩
    · exact ⟨some c, _, by have := run_endLoop (P := P) hl (by rw [hrec]; simp); rw [hrec] at this; exact this, hstop _ c k _ (Nat.le_refl _) hkN ((hIx c).putObj _ hi (by omega) hl rfl) ((World.putObj_heap_other (by omega)).trans hk)⟩
end Go.Proofs.Ytpkkhbmlclicfaa
/- All rows of a bag, for every loop body that leaves as it is whatever was there; walked. -/
namespace Go.Proofs.Ytpkkhbmlclicfaa.val
set_option linter.unusedVariables false
open Go.RowKit Go.Sort Go.Shelf
attribute [local go_sem] Oper.semAt_some
set_option maxHeartbeats 1000000 in
theorem all_in (n : Nat) (s : Value) (w : World) (a : Option Addr) (m c : Nat) (hs : s = .slice a m c) :
    CallsIn Fence.wide n Try.prog 33 #[.agg #[s]] w fun e w' => e = .returned (.func (.func 49) #[] #[.pointer (some ⟨w.heap.size, 0, none⟩)]) ∧ w' = w.alloc (.cells #[s] TB) := by
  subst hs
  refine callsIn_of_wp Try.func33 rfl trivial ?_ rfl
  simp only [Try.ntmps33, List.size_toArray, List.length_cons, List.length_nil, Nat.reduceAdd, Nat.reduceSub, Array.replicate_succ, Array.replicate_zero, List.push_toArray, List.append_toArray, List.nil_append, List.cons_append]
  gi_wp2
  go_ret
  exact ⟨rfl, rfl⟩
/-- what is yielded: a copy of the row, and how often it is there -/
def AllA (o : BL) (k : Nat) (W : World) (xs : Array Value) : Prop := ∃ v r d, o[k]? = some (r, d) ∧ xs = #[v, .int .i64 (d : Int)] ∧ W.ownsRow 0 TV 3 v r.length (vCells r)
end Go.Proofs.Ytpkkhbmlclicfaa.val
/- All rows of a bag: the iterator, for every loop body that leaves the bag's own blocks as they are; walked. -/
namespace Go.Proofs.Ytpkkhbmlclicfaa.val
set_option linter.unusedVariables false
open Go.RowKit Go.Sort Go.Shelf
attribute [local go_sem] Oper.semAt_some
theorem yield_bb {e : Ending} {A B : Prop} (h : (e = .returned (.bool true) ∧ A) ∨ (e = .returned (.bool false) ∧ B)) : ∃ bb, e = .returned (.bool bb) ∧ ((bb = true ∧ A) ∨ (bb = false ∧ B)) := by
  rcases h with ⟨rfl, h⟩ | ⟨rfl, h⟩
  · exact ⟨true, rfl, .inl ⟨rfl, h⟩⟩
  · exact ⟨false, rfl, .inr ⟨rfl, h⟩⟩
set_option maxRecDepth 100000 in
set_option maxHeartbeats 4000000 in
theorem all1_in (n : Nat) (hn : 1 ≤ n) (l Bs : Nat) (s : Value) (o : BL) (hlo : o.length ≤ 1000000) (w0 w W : World) (hbag : IsBag w0 (.agg #[s]) o) (hw0 : Below w0.heap.size w0 w) (P : Nat → Prop) (hP : ∀ k, P k → w0.heap.size ≤ k) (hPB : ¬ P Bs)
    (hW : Only P w W) (J Jx : Nat → World → Prop) (hJ : AbidesFrom W.heap.size J)
    (hY : ∀ k W1 xs, k < o.length → J k W1 → AllA o k W1 xs → YieldAt Fence.wide (n - 1) Try.prog l xs W1 fun e W' =>
      (e = .returned (.bool true) ∧ J (k + 1) W' ∧ Only P W1 W') ∨ (e = .returned (.bool false) ∧ Jx (k + 1) W'))
    (hBs : w.cell? ⟨Bs, 0, none⟩ = some s) (h0 : J 0 W) :
    CallsIn Fence.wide n Try.prog 49 #[.func (.yield l) #[] #[], .pointer (some ⟨Bs, 0, none⟩)] W fun e W' => (∃ v, e = .returned v) ∧ (J o.length W' ∨ ∃ k, k ≤ o.length ∧ Jx k W') := by
  have HBX := Lib.hid (fun (W' : World) (h : Only P w W') => (World.cell?_of_block (a := ⟨Bs, 0, none⟩) (h.block Bs (World.block_lt_of_cell? w ⟨Bs, 0, none⟩ hBs) hPB)).trans hBs)
  have HBL := Lib.hid (fun (W' : World) (h : Only P w W') => hw0.trans (h.below hw0.size hP))
  obtain ⟨a, c, xs, hs, ho, hsx, -, -, hsm⟩ := hbag
  simp only [Value.agg.injEq, Array.mk.injEq, List.cons.injEq, and_true] at hs
  subst hs
  have cB := HBX.out _ hW
  have hn0 : (0 : Int) ≤ (o.length : Int) := by omega
  have hn1 : (o.length : Int) ≤ 1000000 := by omega
  refine callsIn_of_wp Try.func49 rfl trivial ?_ rfl
  simp only [Try.ntmps49, List.size_toArray, List.length_cons, List.length_nil, Nat.reduceAdd, Nat.reduceSub, Array.replicate_succ, Array.replicate_zero, List.push_toArray, List.append_toArray, List.nil_append, List.cons_append]
  have HO := Lib.hid ho; have HS := Lib.hid hsx; have HSM := Lib.hid hsm; have HJ := Lib.hid hJ; have HY := Lib.hid hY; have HW := Lib.hid hW
  clear ho hsx hsm hJ hY hW hw0 hP hPB hBs hlo
  gi_wp2
  gi_loopw [8] (fun i wr => ∃ k : Nat, i = .int .i64 (k : Int) ∧ k ≤ o.length ∧ J k wr ∧ Hid (Only P w wr)) (fun i _ => o.length - (intOf i).toNat)
  case atStart => exact ⟨0, rfl, Nat.zero_le _, h0, HW⟩
  case round =>
    obtain ⟨k, rfl, hk, hJs, HR⟩ := hrel
    have hd0 : (0 : Int) ≤ (k : Int) := by omega
    by_cases hkn : k < o.length
    · have dk : (k : Int) < (o.length : Int) := by omega
      obtain ⟨g, ua, uc, rfl, hgl, hru, hc⟩ := bag_at HO.out HS.out k hkn
      obtain ⟨c0, c1⟩ := hc _ (HBL.out _ HR.out)
      have hglt : g < wr.heap.size := Nat.lt_of_lt_of_le hgl (HBL.out _ HR.out).size
      have hsr := HSM.out _ (List.getElem_mem hkn)
      have HOK : Hid (o[k]? = some o[k]) := Lib.hid (List.getElem?_eq_getElem hkn)
      generalize o[k] = x at *
      obtain ⟨r, d⟩ := x
      simp only at c0 c1 hru hsr
      have hal := below_alloc1 wr (.cells #[.slice ua r.length uc, .int .i64 (d : Int)] TS)
      have HF5 := Lib.hid (Flds.new wr TS [.slice ua r.length uc, .int .i64 (d : Int)])
      have HJ5 := Lib.hid (HJ.out _ _ (wr.alloc (.cells #[.slice ua r.length uc, .int .i64 (d : Int)] TS)) none hJs (World.grownBy_alloc wr _ none) (fun r h => by cases h))
      have HR5 := Lib.hid (HR.out.alloc (.cells #[.slice ua r.length uc, .int .i64 (d : Int)] TS))
      have HRU := Lib.hid (owns_below hru (HBL.out _ HR5.out))
      clear hc hru hal
      have HNC := Lib.hid (owns_nilcap HRU.out)
      have HCL := Lib.hid (fun (W' : World) (h : Below (wr.alloc (.cells #[.slice ua r.length uc, .int .i64 (d : Int)] TS)).heap.size (wr.alloc (.cells #[.slice ua r.length uc, .int .i64 (d : Int)] TS)) W') => (callsIn_wide (n := n - 1)).2 (clone_any (.slice ua r.length uc) r hsr W' (Row.of_owns (owns_below HRU.out h)) HNC.out))
      gi_wp2
      generalize wr.alloc (.cells #[.slice ua r.length uc, .int .i64 (d : Int)] TS) = w3 at *
      generalize wr.heap.size = g5 at *
      have q0 := HF5.out.cell 0
      have q1 := HF5.out.cell 1
      simp only [List.getElem?_cons_zero, List.getElem?_cons_succ] at q0 q1
      have ql := HF5.out.lt
      have HYN := Lib.hid (fun (w4 : World) (a4 : Option Addr) (c4 : Nat) (hb : Below w3.heap.size w3 w4) (ho : w4.ownsRow 0 TV 3 (.slice a4 r.length c4) r.length (vCells r)) => HY.out k w4 #[.slice a4 r.length c4, .int .i64 (d : Int)] hkn (HJ.out _ _ w4 none HJ5.out (grown_of_below hb) (fun r h => by cases h)) ⟨_, r, d, HOK.out, rfl, ho⟩)
      have HFB := Lib.hid (fun (w4 : World) (hb : Below w3.drew.heap.size w3.drew w4) => ((Below.refl w3.heap.size w3).drew).trans hb)
      gi_region_with (first | (refine ⟨trivial, ?_⟩; refine (HCL.out _ ((Below.refl _ _).drew)).mono ?_; rintro e w4 ⟨v4, rfl, ho4, hb4⟩; obtain ⟨a4, c4, rfl⟩ := owns_shape ho4; have hb5 := HFB.out w4 hb4; have r0 := (HF5.out.later hb5).cell 0; have r1 := (HF5.out.later hb5).cell 1; (simp only [List.getElem?_cons_zero, List.getElem?_cons_succ] at r0 r1); have HB5 := Lib.hid hb5; have hyy := HYN.out w4 a4 c4 hb5 (owns_base ho4 (fun g hg => Nat.zero_le _)); obtain ⟨fn, tmps, assign, body, hy, hR⟩ := hyy; have HRD := Lib.hid hR; clear hR hb4 hb5 ho4) | (refine HRD.out.mono ?_; rintro e W3 hpp; obtain ⟨bb, rfl, hbb⟩ := yield_bb hpp; have HBB := Lib.hid hbb; clear hbb hpp))
      all_goals
        rcases HBB.out with ⟨hb, hJ3, hO3⟩ | ⟨hb, hJx⟩
        · subst hb
          have HOX := Lib.hid ((HR5.out.trans (Only.of_below HB5.out) (fun _ _ h => h)).trans hO3 (fun _ _ h => h))
          gi_wp2
          go_roundw
          case rel => exact ⟨k + 1, by go_num, by omega, hJ3, HOX⟩
          case measure => simp [intOf]; omega
        · subst hb
          gi_wp2
          refine (by first | exact bodyPost_ret (results_none rfl _ _ _) rfl ⟨⟨_, rfl⟩, .inr ⟨_, hkn, hJx⟩⟩ | exact bodyPost_end (results_none rfl _ _ _) rfl ⟨⟨_, rfl⟩, .inr ⟨_, hkn, hJx⟩⟩)
    · have dk : ¬ (k : Int) < (o.length : Int) := by omega
      obtain rfl : k = o.length := by omega
      gi_wp2
      refine (by first | exact bodyPost_end (results_none rfl _ _ _) rfl ⟨⟨_, rfl⟩, .inl hJs⟩ | exact bodyPost_ret (results_none rfl _ _ _) rfl ⟨⟨_, rfl⟩, .inl hJs⟩)
/-- The rows of a bag, in the words of a range over a function. -/
theorem all_seq (n : Nat) (hn : 1 ≤ n) (Bs : Nat) (s : Value) (o : BL) (hlo : o.length ≤ 1000000) (w0 w : World) (hbag : IsBag w0 (.agg #[s]) o) (hw0 : Below w0.heap.size w0 w) (P : Nat → Prop) (hP : ∀ k, P k → w0.heap.size ≤ k) (hPB : ¬ P Bs) (hBs : w.cell? ⟨Bs, 0, none⟩ = some s) :
    SeqArg Fence.wide n Try.prog 49 #[.pointer (some ⟨Bs, 0, none⟩)] (AllA o) (Only P) o.length w :=
  fun l J Jx W hW hJ hJx hY h0 => all1_in n hn l Bs s o hlo w0 w W hbag hw0 P hP hPB (Only.of_below hW) J Jx hJ hY hBs h0
theorem AllA.put {o : BL} {k : Nat} {W : World} {xs : Array Value} {l : Nat} {ob ob' : Obj} (ho : W.heap[l]? = some ob) (hc : ob.isCells = false) (h : AllA o k W xs) : AllA o k (W.putObj l ob') xs := by
  obtain ⟨v, r, d, h1, h2, h3⟩ := h
  exact ⟨v, r, d, h1, h2, ownsRow_putObj h3 _ ho hc⟩
theorem AllA.size {o : BL} {k : Nat} {W : World} {xs : Array Value} (h : AllA o k W xs) : xs.size = 2 := by
  obtain ⟨v, r, d, -, rfl, -⟩ := h; rfl
end Go.Proofs.Ytpkkhbmlclicfaa.val
/- The rows of a bag, each as often as it is there; walked. -/
namespace Go.Proofs.Ytpkkhbmlclicfaa.val
set_option linter.unusedVariables false
open Go.RowKit Go.Sort Go.Shelf
attribute [local go_sem] Oper.semAt_some
theorem round_call {l n : Nat} {P : Program} {f : FuncId} {args : Array Value} {w : World} {R : Ending → World → Prop} (h : Calls P f args w R) : CallsIn (Fence.wide.inRound l) n P f args w R := (callsIn_wide (n := n)).2 h
theorem keeps_below {B : Nat} {W W' : World} (h : Below W.heap.size W W') : KeepsFrom B W W' := KeepsFrom.of_grownBy (grown_of_below h) (fun _ e => by cases e)
/-- a bag's rows, each as often as it is there -/
def expB (o : BL) : List (List V) := o.flatMap fun x => List.replicate x.2 x.1
theorem expB_snoc (o : BL) (x : List V × Nat) : expB (o ++ [x]) = expB o ++ List.replicate x.2 x.1 := by simp [expB]
theorem expB_len (o : BL) : (expB o).length = total o := by
  induction o with
  | nil => rfl
  | cons a l ih =>
    unfold expB total at ih ⊢
    simp only [List.flatMap_cons, List.length_append, List.length_replicate, List.map_cons, List.sum_cons] at ih ⊢
    omega
theorem expB_take (o : BL) (k : Nat) (hk : k < o.length) : expB (o.take (k + 1)) = expB (o.take k) ++ List.replicate (o[k]).2 (o[k]).1 := by
  rw [List.take_succ_eq_append_getElem hk, expB_snoc]
/-- the rows so far: in the box gL, their own row from B on -/
def RowsAt (w : World) (gL B : Nat) (ls : List (List V)) (W : World) : Prop :=
  ∃ (a : Option Addr) (c : Nat) (us : List Value), Flds W gL 24 [.slice a us.length c] ∧ W.ownsRow B 49 1 (.slice a us.length c) us.length us ∧ RwT TV w.heap.size W us ls ∧ Below w.heap.size w W ∧ B ≤ W.heap.size
theorem RowsAt.own {w : World} {gL B : Nat} (lf : Nat → List (List V)) {C : Nat} (hC : w.heap.size ≤ C) : OwnFrom C (fun k W => RowsAt w gL B (lf k) W) := by
  rintro k A Z row ⟨a, c, us, h1, h2, h3, h4, h5⟩ hg hr
  have hne : ∀ {T : TypeId} {s : Nat} {v : Value} {n : Nat} {xs : List Value} {Y : Nat}, A.ownsRow Y T s v n xs → v.ownBlock = none ∨ v.ownBlock ≠ row := by
    intro T s v n xs Y h
    rcases h.2 with ⟨rfl, _⟩ | ⟨g, cap, cur, rfl, _, hgb, _⟩
    · exact .inl rfl
    · refine .inr fun e' => ?_
      obtain ⟨-, o, ho, hc⟩ := hr g (by simpa [Value.ownBlock] using e'.symm)
      rw [hgb] at ho; cases ho; cases hc
  refine ⟨a, c, us, h1.grown hg (fun e => ?_), h2.kept hg (hne h2), ⟨h3.1, fun j u l e1 e2 => (h3.2 j u l e1 e2).kept hg (hne (h3.2 j u l e1 e2))⟩, h4.grown hg h4.size (fun j e => Nat.le_trans hC (hr j e).1), Nat.le_trans h5 hg.size⟩
  obtain ⟨-, o, ho, hc⟩ := hr gL e.symm
  have h1' : A.heap[gL]? = _ := h1
  rw [h1'] at ho; cases ho; cases hc
/-- the blocks that a round turns: the box and the later ones -/
def PR (gL B : Nat) : Nat → Prop := fun k => k = gL ∨ B ≤ k
/-- one row more -/
theorem RowsAt.push {w : World} {gL B : Nat} {ls : List (List V)} {W w5 : World} {a : Option Addr} {c : Nat} {us : List Value} {u v v' : Value} {r : List V} (hgL : w.heap.size ≤ gL) (hB : w.heap.size ≤ B)
    (hf : Flds W gL 24 [.slice a us.length c]) (ho : W.ownsRow B 49 1 (.slice a us.length c) us.length us) (hr : RwT TV w.heap.size W us ls) (hb : Below w.heap.size w W) (hBW : B ≤ W.heap.size) (hv : W.ownsRow 0 TV 3 v r.length (vCells r))
    (hu : W.ownsRow w.heap.size TV 3 u r.length (vCells r)) (hg : W.grownBy w5 (Value.slice a us.length c).ownBlock) (ho5 : w5.ownsRow B 49 1 v' (us.length + 1) (us ++ [u])) (C : Nat) :
    Flds w5 gL 24 [.slice a us.length c] ∧ RowsAt w gL B (ls ++ [r]) (w5.setCell ⟨gL, 0, none⟩ v') ∧ (w5.setCell ⟨gL, 0, none⟩ v').ownsRow 0 TV 3 v r.length (vCells r) ∧ KeepsFrom C W (w5.setCell ⟨gL, 0, none⟩ v') ∧ Only (PR gL B) W (w5.setCell ⟨gL, 0, none⟩ v') := by
  have hf5 : Flds w5 gL 24 [.slice a us.length c] := hf.grown hg (fun e => owns_ne_obj ho hf (by decide) e.symm)
  have hr5 := (hr.grown hg (hr.apart ho (by decide))).snoc (hu.kept hg (owns_ne_owns hu ho (by decide)))
  have hb5 : Below w.heap.size w w5 := hb.grown hg hb.size (fun j e => Nat.le_trans hB (ho.lt j e).1)
  have hv5 := hv.kept hg (owns_ne_owns hv ho (by decide))
  obtain ⟨a', c', rfl⟩ := owns_shape ho5
  refine ⟨hf5, ⟨a', c', us ++ [u], by rw [List.length_append]; exact hf5.set 0 _, ?_, ⟨hr5.1, fun j x l e1 e2 => owns_setCell (hr5.2 j x l e1 e2) _ _ (owns_ne_obj (hr5.2 j x l e1 e2) hf5 (by decide))⟩, hb5.setCell hgL _, by rw [World.size_setCell]; exact Nat.le_trans hBW hg.size⟩, owns_setCell hv5 _ _ (owns_ne_obj hv5 hf5 (by decide)), ?_, ?_⟩
  · rw [List.length_append]
    exact owns_setCell ho5 _ _ (owns_ne_obj ho5 hf5 (by decide))
  · refine ((KeepsOthers.of_grownBy hg (fun j o ej hj => ?_)).trans (KeepsOthers.setCell _ _ _)).from C
    rcases ho.2 with ⟨e, _⟩ | ⟨g, cap, cur, e, _, hgb, _⟩
    · rw [e] at ej; simp [Value.ownBlock] at ej
    · rw [e] at ej
      obtain rfl : g = j := by simpa [Value.ownBlock] using ej
      rw [hgb] at hj; cases hj; rfl
  · exact ((Only.refl _ W).grown hg (fun j e _ => .inr (ho.lt j e).1)).setCell _ _ (fun _ => .inl rfl)
theorem infoRowR : (Try.prog.info? 49).map (fun i => (i.zero, i.size, i.bytes)) = some (some (.slice none 0 0), 1, 24) := by kernel_rfl
/-- the append in a round -/
theorem row_app {w : World} {B : Nat} {a : Option Addr} {c : Nat} {us : List Value} {u : Value} (hn : us.length + 1 ≤ 1000001) (ho : w.ownsRow B 49 1 (.slice a us.length c) us.length us) (hB : B ≤ w.heap.size) (hu : u.oneCell' = true) :
    ∃ v' w5, (Builtin.append_ #[24, 24] 24 #[.slice a us.length c, .slice (some ⟨w.heap.size, 0, none⟩) 1 1]).run Try.prog (w.alloc (.cells #[u] 49)) = .ok v' w5 ∧ w5.ownsRow B 49 1 v' (us.length + 1) (us ++ [u]) ∧ (w.alloc (.cells #[u] 49)).grownBy w5 (Value.slice a us.length c).ownBlock := by
  obtain ⟨i0, hi, hz0, hz1, hz2⟩ := info_parts infoRowR
  obtain ⟨v', w5, h1, h2, h3, -⟩ := run_append_own_at (P := Try.prog) (w.alloc (.cells #[u] 49)) B 24 24 49 i0 (.slice none 0 0) 1 24 Try.underlying24 hi hz0 hz1 hz2 rfl (by decide) (.slice a us.length c) us.length us (ho.alloc _) ⟨w.heap.size, 0, none⟩ 1 1 [u] rfl (cells_new_add' w [u] 49) (fun x hx => by rw [List.mem_singleton.1 hx]; exact hu) (by unfold maxLen; omega) (by omega) (by simp only [World.size_alloc]; omega)
  exact ⟨v', w5, h1, h2, h3⟩
end Go.Proofs.Ytpkkhbmlclicfaa.val
/- bag.Rows, walked. -/
namespace Go.Proofs.Ytpkkhbmlclicfaa.val
set_option linter.unusedVariables false
open Go.RowKit Go.Sort Go.Shelf
attribute [local go_sem] Oper.semAt_some
/-- an append of rows, whole -/
def apS (args : Array Value) : Sem Value := Builtin.append_ #[24, 24] 24 args
theorem apS_eq (args : Array Value) : Builtin.append_ #[24, 24] 24 args = apS args := rfl
theorem rows_step {w : World} {gL B : Nat} {ls : List (List V)} {wr w4 : World} {a : Option Addr} {c : Nat} {us : List Value} {v : Value} {a4 : Option Addr} {c4 : Nat} {r : List V} {C : Nat} (hgL : w.heap.size ≤ gL) (hB : w.heap.size ≤ B) (hBr : B ≤ wr.heap.size)
    (hul : us.length + 1 ≤ 1000001) (hf : Flds wr gL 24 [.slice a us.length c]) (ho : wr.ownsRow B 49 1 (.slice a us.length c) us.length us) (hr : RwT TV w.heap.size wr us ls) (hb : Below w.heap.size w wr) (hv : wr.ownsRow 0 TV 3 v r.length (vCells r))
    (hb4 : Below wr.heap.size wr w4) (ho4 : w4.ownsRow wr.heap.size TV 3 (.slice a4 r.length c4) r.length (vCells r)) :
    ∃ (a5 : Option Addr) (c5 : Nat) (w5 : World), (apS #[.slice a us.length c, .slice (some ⟨w4.heap.size, 0, none⟩) 1 1]).run Try.prog (w4.alloc (.cells #[.slice a4 r.length c4] 49)) = .ok (.slice a5 (us.length + 1) c5) w5 ∧ w5.cell? ⟨gL, 0, none⟩ = some (.slice a us.length c) ∧ w5.frozen? ⟨gL, 0, none⟩ = false ∧
      RowsAt w gL B (ls ++ [r]) (w5.setCell ⟨gL, 0, none⟩ (.slice a5 (us.length + 1) c5)) ∧ (w5.setCell ⟨gL, 0, none⟩ (.slice a5 (us.length + 1) c5)).ownsRow 0 TV 3 v r.length (vCells r) ∧ KeepsFrom C wr (w5.setCell ⟨gL, 0, none⟩ (.slice a5 (us.length + 1) c5)) ∧ Only (PR gL B) wr (w5.setCell ⟨gL, 0, none⟩ (.slice a5 (us.length + 1) c5)) := by
  have hal := below_alloc1 w4 (.cells #[.slice a4 r.length c4] 49)
  have hbb := hb4.trans (hal.mono hb4.size)
  obtain ⟨v', w5, h1, h2, h3⟩ := row_app (u := .slice a4 r.length c4) hul (owns_below ho hb4) (by have := hb4.size; omega) rfl
  obtain ⟨k1, k2, k3, k4, k5⟩ := RowsAt.push (w := w) (C := C) hgL hB (hf.later hbb) (owns_below ho hbb) (hr.later hbb) (hb.trans (hbb.mono hb.size)) (Nat.le_trans hBr hbb.size) (owns_below hv hbb) (owns_base (owns_below ho4 hal) (fun g hg => by have := (ho4.lt g hg).1; have := hb.size; omega)) h3 h2
  obtain ⟨a5, c5, rfl⟩ := owns_shape h2
  refine ⟨a5, c5, w5, h1, by have := k1.cell 0; simpa using this, k1.frozen 0, k2, k3, (keeps_below hbb).trans k4, (Only.of_below hbb).trans k5 (fun _ _ h => h)⟩
attribute [local go_sem ↓ high] apS_eq
set_option maxRecDepth 100000 in
set_option maxHeartbeats 4000000 in
theorem bagrows_any (bv : Value) (o : BL) (ht : total o ≤ 1000000) (w : World) (h : IsBag w bv o) :
    Calls Try.prog 23 #[bv] w fun e w' => ∃ v, e = .returned v ∧ ∃ us, w'.ownsRow w.heap.size 49 1 v us.length us ∧ RwT TV w.heap.size w' us (expB o) ∧ Below w.heap.size w w' := by
  have HBG := Lib.hid h
  have HT := Lib.hid ht
  have hsh := h.short
  obtain ⟨a, c, xs, rfl, -, -, -, -, hsm⟩ := h
  have HSM := Lib.hid hsm
  have HSH : Hid (o.length ≤ 1000000) := Lib.hid (by omega)
  clear ht hsm hsh
  obtain ⟨W2, hW2⟩ : ∃ W2, (w.alloc (.cells #[.slice a o.length c] TB)).alloc (.cells #[.slice none 0 0] 24) = W2 := ⟨_, rfl⟩
  have hf1 : Flds W2 w.heap.size TB [.slice a o.length c] := by rw [← hW2]; exact (Flds.new w TB [.slice a o.length c]).alloc _
  have hf2 : Flds W2 (w.heap.size + 1) 24 [.slice none 0 0] := by rw [← hW2]; have := Flds.new (w.alloc (.cells #[.slice a o.length c] TB)) 24 [.slice none 0 0]; rw [World.size_alloc] at this; exact this
  have hz2 : W2.heap.size = w.heap.size + 2 := by rw [← hW2]; simp
  have hb2 : Below w.heap.size w W2 := by rw [← hW2]; exact ((Below.refl _ _).alloc (Nat.le_refl _) _).alloc (by simp) _
  refine callsIn_wide.1 (callsIn_of_wp_marks (n := 3) Try.func23 rfl trivial (wpIn_wide.2 ?_) rfl)
  simp only [Try.ntmps23, List.size_toArray, List.length_cons, List.length_nil, Nat.reduceAdd, Nat.reduceSub, Array.replicate_succ, Array.replicate_zero, List.push_toArray, List.append_toArray, List.nil_append, List.cons_append]
  go_upto_region 2 with fail
  obtain ⟨g0, hg0⟩ : ∃ g0, w.heap.size = g0 := ⟨_, rfl⟩
  rw [hg0] at hf1 hf2 hz2 hb2 ⊢
  have HG0 := Lib.hid hg0
  clear hW2 hg0
  have q1 := hf1.cell 0
  simp only [List.getElem?_cons_zero] at q1
  go_wp2_with fail
  refine (callsIn_wide.1 (all_in 1 (.slice a o.length c) _ a o.length c rfl)).mono ?_
  rintro e w3 ⟨rfl, rfl⟩
  go_wp2_with fail
  obtain ⟨W3, hW3⟩ : ∃ W3, W2.alloc (.cells #[.slice a o.length c] TB) = W3 := ⟨_, rfl⟩
  have hf3 : Flds W3 (g0 + 2) TB [.slice a o.length c] := by rw [← hW3, ← hz2]; exact Flds.new W2 TB [.slice a o.length c]
  have hz3 : W3.heap.size = g0 + 3 := by rw [← hW3, World.size_alloc, hz2]
  have hb3 : Below g0 w W3 := by rw [← hW3]; exact hb2.alloc (by omega) _
  have hf23 : Flds W3 (g0 + 1) 24 [.slice none 0 0] := by rw [← hW3]; exact hf2.alloc _
  rw [hW3]
  obtain ⟨gL, hgL⟩ : ∃ gL, g0 + 1 = gL := ⟨_, rfl⟩
  rw [hgL] at hf23 ⊢
  have HGL := Lib.hid hgL
  clear hW3 hf1 hf2 q1 hgL
  have q3 := hf3.cell 0
  simp only [List.getElem?_cons_zero] at q3
  have hbw : Below w.heap.size w W3 := by rw [HG0.out]; exact hb3
  have HW3 := Lib.hid hz3
  have hR0 : RowsAt w gL (g0 + 3) (expB (o.take 0)) W3 := ⟨none, 0, [], hf23, World.ownsRow_nil _ _ _ _, RwT.nil _ _ _, hbw, by omega⟩
  refine (wpIn_wide (n := 3)).1 ?_
  refine range_arg rfl (by decide) (gf := 49) (lb := #[.pointer (some ⟨g0 + 2, 0, none⟩)]) rfl trivial (enters_of Try.func49 (by kernel_rfl) rfl)
    (all_seq _ (by decide) (g0 + 2) (.slice a o.length c) o HSH.out w W3 HBG.out hbw (PR gL (g0 + 3)) (fun k hk => by unfold PR at hk; rw [HG0.out]; have := HGL.out; omega) (fun h => by unfold PR at h; have := HGL.out; omega) q3)
    (fun k W xs l o1 o2 hl h1 h2 _ hA => AllA.put h1 h2 hA) (fun {A B C} (h : Only (PR gL (g0 + 3)) A B) h' => Only.trans h h' (fun _ _ h => h)) (fun W l o1 o2 hl _ _ _ => ⟨rfl, rfl, rfl, by simp, fun k hk hn => World.putObj_heap_other (fun e => hn (by unfold PR; omega))⟩) (fun k W xs hA => hA.size)
    (fun k W => RowsAt w gL (g0 + 3) (expB (o.take k)) W) (fun _ _ _ => False) (RowsAt.own (fun k => expB (o.take k)) (by rw [hz3, HG0.out]; omega)) (fun _ _ _ _ _ hs _ _ => hs)
    hR0 (fun _ xs => { tmps := #[.agg #[.slice a o.length c], .pointer (some ⟨g0, 0, none⟩), .slice none 0 0, .pointer (some ⟨gL, 0, none⟩), xs.getD 0 undef, xs.getD 1 undef, .agg #[.slice a o.length c], .func (.func 49) #[] #[.pointer (some ⟨g0 + 2, 0, none⟩)], xs.getD 0 undef, xs.getD 1 undef, undef, undef, undef, undef, undef, undef, undef, undef, undef, undef], defers := [] }) ?assign ?body ?done ?stop
  case stop =>
    rintro D c k W _ _ h _
    exact h.elim
  case assign =>
    rintro l k W xs K hk hI ⟨v, r, d, hkr, rfl, ho⟩ hK
    clear hk hI
    gi_wp2
    exact hK
  case body =>
    rintro l k W xs hk hI ⟨v, r, d, hkr, rfl, ho⟩
    rw [show (#[v, Value.int .i64 (d : Int)] : Array Value).getD 0 undef = v from rfl, show (#[v, Value.int .i64 (d : Int)] : Array Value).getD 1 undef = .int .i64 (d : Int) from rfl]
    have hd0 : (0 : Int) ≤ (d : Int) := by omega
    have hok : o[k] = (r, d) := by rw [List.getElem?_eq_getElem hk] at hkr; exact Option.some.inj hkr
    have hrl : r.length ≤ 1000000 := by have := HSM.out o[k] (List.getElem_mem hk); rw [hok] at this; exact this
    have hdt : total (o.take k) + d ≤ 1000000 := by
      have h1 := total_take o (k + 1)
      rw [List.take_succ_eq_append_getElem hk, total_snoc, hok] at h1
      have h2 := HT.out
      simp only at h1
      omega
    have hdi : (d : Int) ≤ 1000000 := by omega
    have HETK : Hid (expB (o.take (k + 1)) = expB (o.take k) ++ List.replicate d r) := Lib.hid (by rw [expB_take o k hk, hok])
    have HEL : Hid ((expB (o.take k)).length + d ≤ 1000000) := Lib.hid (by rw [expB_len]; exact hdt)
    have HNC := Lib.hid (owns_nilcap ho)
    obtain ⟨av, cv, rfl⟩ := owns_shape ho
    have HI := Lib.hid hI
    have HO := Lib.hid ho
    clear hI ho hkr hok hdt hk
    gi_wp2
    gi_loopw [11] (fun i wr => ∃ j : Nat, i = .int .i64 (j : Int) ∧ j ≤ d ∧ Hid (RowsAt w gL (g0 + 3) (expB (o.take k) ++ List.replicate j r) wr) ∧ Hid (wr.ownsRow 0 TV 3 (.slice av r.length cv) r.length (vCells r)) ∧ Hid (KeepsFrom W3.heap.size W wr) ∧ Hid (Only (PR gL (g0 + 3)) W wr)) (fun i _ => d - (intOf i).toNat)
    case atStart => exact ⟨0, rfl, Nat.zero_le _, by simpa using HI, HO, Lib.hid (KeepsFrom.refl _ _), Lib.hid (Only.refl _ _)⟩
    case round =>
      obtain ⟨j, rfl, hj, HRA, HOV, HKF, HON⟩ := hrel
      have hj0 : (0 : Int) ≤ (j : Int) := by omega
      by_cases hjd : j < d
      · have dj : (j : Int) < (d : Int) := by omega
        obtain ⟨aa, cc, us, hf, hor, hrr, hbb, hbs⟩ := HRA.out
        have HBS := Lib.hid hbs
        clear hbs
        have hul : us.length + 1 ≤ 1000001 := by
          have := hrr.1
          rw [List.length_append, List.length_replicate] at this
          have := HEL.out
          omega
        have q0 := hf.cell 0; have qf := hf.frozen 0
        simp only [List.getElem?_cons_zero] at q0
        have HCL := Lib.hid (fun (W' : World) (h : Below wr.heap.size wr W') => round_call (l := l) (n := 3 - 1 - 1 - 1) (clone_any (.slice av r.length cv) r hrl W' (Row.of_owns (owns_below HOV.out h)) HNC.out))
        have HF := Lib.hid hf; have HR := Lib.hid hor; have HRR := Lib.hid hrr; have HBB := Lib.hid hbb; have HUL := Lib.hid hul
        clear hf hor hrr hbb hul
        have HPP := Lib.hid (fun (w4 : World) (a4 : Option Addr) (c4 : Nat) (hb : Below wr.heap.size wr w4) (ho : w4.ownsRow wr.heap.size TV 3 (.slice a4 r.length c4) r.length (vCells r)) => rows_step (C := W3.heap.size) (by rw [HG0.out]; have := HGL.out; omega) (by rw [HG0.out]; have := HGL.out; omega) HBS.out HUL.out HF.out HR.out HRR.out HBB.out HOV.out hb ho)
        gi_wp2
        gi_region_with (first | (refine ⟨trivial, ?_⟩; refine (HCL.out _ ((Below.refl _ _).drew)).mono ?_; rintro e w4 ⟨v4, rfl, ho4, hb4⟩; obtain ⟨a4, c4, rfl⟩ := owns_shape ho4; have HB4 := Lib.hid (((Below.refl wr.heap.size wr).drew).trans hb4); have HO4 := Lib.hid ho4; clear hb4 ho4; have hp := HPP.out w4 a4 c4 HB4.out HO4.out; obtain ⟨a5, c5, w5, hrun, hcel, hfro, hpp⟩ := hp; have HP5 := Lib.hid hpp; clear hpp; have q4 := (HF.out.later HB4.out).cell 0; (simp only [List.getElem?_cons_zero] at q4); have l4 := (HF.out.later HB4.out).lt))
        all_goals
          have P1 := Lib.hid HP5.out.1
          have P2 := Lib.hid HP5.out.2.1
          have P3 := Lib.hid (HKF.out.trans HP5.out.2.2.1)
          have P4 := Lib.hid (HON.out.trans HP5.out.2.2.2 (fun _ _ h => h))
          clear hrun hcel hfro
          gi_wp2
          go_roundw
          case rel => exact ⟨j + 1, by go_num, by omega, Lib.hid (by rw [List.replicate_succ', ← List.append_assoc]; exact P1.out), P2, P3, P4⟩
          case measure => simp [intOf]; omega
      · have dj : ¬ (j : Int) < (d : Int) := by omega
        have hje : j = d := by omega
        have HRB : Hid (RowsAt w gL (g0 + 3) (expB (o.take (k + 1))) wr) := Lib.hid (by rw [HETK.out, ← hje]; exact HRA.out)
        clear hje
        gi_wp2
        exact ⟨by have h := HKF.out; rw [HW3.out] at h; exact h, HON.out, HRB.out⟩
  case done =>
    rintro D W hD hI hK
    obtain ⟨aa, cc, us, hf, hor, hrr, hbb, -⟩ := hI
    have q0 := hf.cell 0
    simp only [List.getElem?_cons_zero] at q0
    have HF := Lib.hid hf; have HR := Lib.hid hor; have HRR := Lib.hid hrr; have HBB := Lib.hid hbb
    clear hf hor hrr hbb
    go_wp2_with fail
    have lD : D < W.heap.size := (Array.getElem?_eq_some_iff.1 hK).1
    have hDw : w.heap.size ≤ D := by rw [HG0.out]; have := HW3.out; omega
    have hrr := HRR.out
    rw [List.take_length] at hrr
    refine ⟨by simp, .inl ⟨_, _, rfl, run_takeDeferred hK, ?_⟩⟩
    refine ⟨.slice aa us.length cc, by simp [results, Try.f23, go_sem], .slice aa us.length cc, rfl, us, ownsRow_putObj (owns_base HR.out (fun g hg => by have := (HR.out.lt g hg).1; rw [HG0.out]; omega)) _ hK rfl, ⟨hrr.1, fun j u l e1 e2 => ownsRow_putObj (hrr.2 j u l e1 e2) _ hK rfl⟩, ?_⟩
    exact Below.trans HBB.out (belowK_b (w := w) (Nat.le_refl _) _ D _ _ hDw hK rfl rfl)
end Go.Proofs.Ytpkkhbmlclicfaa.val
/- A region that draws its order whose operations leave alone whatever was there: what each yields stays such, so nothing need be said of any two of them. A law of no program. -/
namespace Go.Proofs.Ytpkkhbmlclicfaa.ag
set_option linter.unusedVariables false
open Go.RowKit
/-- the world has only grown -/
abbrev grew : (Nat → Value) → World → World → Prop := fun _ w w' => Below w.heap.size w w'
/-- what is said of a value stays true of it -/
def Lasts (V : Value → World → Prop) : Prop := ∀ v w w', V v w → Below w.heap.size w w' → V v w'
def AllCalm : List Spec → Prop
  | [] => True
  | .sat V T :: ss => (Lasts V ∧ T = grew) ∧ AllCalm ss
  | _ :: ss => AllCalm ss
theorem AllCalm.at : ∀ {ss : List Spec}, AllCalm ss → ∀ (i : Nat) V T, ss[i]? = some (.sat V T) → Lasts V ∧ T = grew
  | [], _, i, V, T, h => by simp at h
  | .val c :: ss, h, 0, V, T, hs => by simp at hs
  | .cpy c :: ss, h, 0, V, T, hs => by simp at hs
  | .sat V' T' :: ss, h, 0, V, T, hs => by simp at hs; obtain ⟨rfl, rfl⟩ := hs; exact h.1
  | .val c :: ss, h, i + 1, V, T, hs => AllCalm.at (ss := ss) h i V T (by simpa using hs)
  | .cpy c :: ss, h, i + 1, V, T, hs => AllCalm.at (ss := ss) h i V T (by simpa using hs)
  | .sat V' T' :: ss, h, i + 1, V, T, hs => AllCalm.at (ss := ss) h.2 i V T (by simpa using hs)
theorem row2_of {S : World → Prop} {sp : Nat → Spec} {R : Nat → Nat → Value → Value → Prop} {l : List Oper} {i : Nat} {s : Spec} : ∀ (ss : List Spec) (k : Nat), (∀ j V T, ss[j]? = some (.sat V T) → Ok2 S sp R l i (k + j) s (.sat V T)) → Row2 S sp R l i s k ss
  | [], _, _ => trivial
  | .val c :: ss, k, h => row2_of ss (k + 1) (fun j V T hs => by have := h (j + 1) V T (by simpa using hs); rw [show k + (j + 1) = k + 1 + j by omega] at this; exact this)
  | .cpy c :: ss, k, h => row2_of ss (k + 1) (fun j V T hs => by have := h (j + 1) V T (by simpa using hs); rw [show k + (j + 1) = k + 1 + j by omega] at this; exact this)
  | .sat V' T' :: ss, k, h => ⟨fun _ _ => h 0 V' T' rfl, row2_of ss (k + 1) (fun j V T hs => by have := h (j + 1) V T (by simpa using hs); rw [show k + (j + 1) = k + 1 + j by omega] at this; exact this)⟩
theorem stab_of {S : World → Prop} {sp : Nat → Spec} {R : Nat → Nat → Value → Value → Prop} {l : List Oper} {all : List Spec} (ha : AllCalm all) : ∀ (ss : List Spec) (k : Nat), AllCalm ss → Stab S sp R l all k ss
  | [], _, _ => trivial
  | .val c :: ss, k, h => stab_of ha ss (k + 1) h
  | .cpy c :: ss, k, h => stab_of ha ss (k + 1) h
  | .sat V' T' :: ss, k, h => ⟨row2_of all 0 (fun j V T hs f v w w' hS hv _ ht => (ha.at j V T hs).1 v w w' hv (by rw [h.1.2] at ht; exact ht)), stab_of ha ss (k + 1) h.2⟩
theorem keeps_of {X : World} {sp : Nat → Spec} {l : List Oper} : ∀ (ss : List Spec) (k : Nat), AllCalm ss → Keeps (fun W1 => Below X.heap.size X W1) sp l k ss
  | [], _, _ => trivial
  | .val c :: ss, k, h => keeps_of ss (k + 1) h
  | .cpy c :: ss, k, h => keeps_of ss (k + 1) h
  | .sat V' T' :: ss, k, h => ⟨fun f w w' hS _ ht => by rw [h.1.2] at ht; exact hS.trans (Below.mono ht hS.size), keeps_of ss (k + 1) h.2⟩
theorem region_calm {P : Program} {id : Nat} {Q : Exit → Act → World → Prop} {a : Act} {w : World} {l : List Oper} (ss : List Spec) (hm : P.follows .mixedOrders = true) (hB : Region.lexB .any l.toArray = true) (hlen : ss.length = l.length)
    (hc : AllCalm ss) (h : walk P l.toArray (fun W1 => Below w.heap.size w W1) (fun _ _ _ _ => True) ss (fun a w => Q .normal a w) l ss 0 [] [] a) : (Code.region id l.toArray true).wp P Q a w :=
  region_ag (fun W1 => Below w.heap.size w W1) (fun _ _ _ _ => True) ss hm hB hlen ((Below.refl _ _).drew) (stab_of hc ss 0 hc) (keeps_of ss 0 hc) h
/-- what an operation waits for, by its number -/
theorem Facts.of {o : Oper} {w : World} : ∀ {E : List (Nat × (World → Prop))}, Facts o w E → ∀ j, waits o j = true → lookE E j w
  | [], _, j, hw => trivial
  | (i, F) :: E, h, j, hw => by
    unfold lookE
    by_cases e : i = j
    · subst e; rw [if_pos rfl]; exact h.get hw
    · rw [if_neg e]; exact Facts.of h.tail j hw
theorem FactsAll.of {w : World} : ∀ {E : List (Nat × (World → Prop))}, FactsAll w E → ∀ j, lookE E j w
  | [], _, j => trivial
  | (i, F) :: E, h, j => by
    unfold lookE
    by_cases e : i = j
    · subst e; rw [if_pos rfl]; exact h.1
    · rw [if_neg e]; exact FactsAll.of h.2 j
section
variable {P : Program} {ops : Array Oper} {S : World → Prop} {all : List Spec} {Q : Act → World → Prop} {o : Oper} {l : List Oper} {ss : List Spec} {i : Nat} {E : List (Nat × (World → Prop))} {X : List (Nat × Value)} {a : Act}
/-- an operation whose value is such, and that leaves alone whatever was there -/
theorem walk_such {V : Value → World → Prop} (hw : Region.wanted o (yielded ops a.tmps) = true) (h1 : ∀ w, S w → Facts o w E → does P o a w (fun v w' => V v w' ∧ Below w.heap.size w w')) (h2 : ∀ x, walk P ops S (fun _ _ _ _ => True) all Q l ss (i + 1) ((i, fun w => V x w) :: E) ((i, x) :: X) (a.put o.dst x)) :
    walk P ops S (fun _ _ _ _ => True) all Q (o :: l) (.sat V grew :: ss) i E X a :=
  walk_sat hw (fun w hS hE => does_mono (h1 w hS hE) (fun v w' h => ⟨h.1, h.2, News.none (fun _ _ => trivial) _ _⟩)) h2
end
theorem lasts_eq (c : Value) : Lasts (fun v _ => v = c) := fun _ _ _ h _ => h
end Go.Proofs.Ytpkkhbmlclicfaa.ag
/- Bags by their counts: what calls on bags leave, in the form that a calm region wants. -/
namespace Go.Proofs.Ytpkkhbmlclicfaa.val
set_option linter.unusedVariables false
open Go.RowKit Go.Sort
/-- a bag with these counts, so many rows in all -/
def IsB (f : List V → Nat) (t : Nat) (v : Value) (W : World) : Prop := ∃ s o, v = .agg #[s] ∧ IsBag W (.agg #[s]) o ∧ (∀ r, cnt o r = f r) ∧ total o = t
theorem lasts_isB (f : List V → Nat) (t : Nat) : ag.Lasts (IsB f t) := by
  rintro v w w' ⟨s, o, rfl, h, hc⟩ hb
  exact ⟨s, o, rfl, h.later hb, hc⟩
theorem IsB.later {f : List V → Nat} {t : Nat} {v : Value} {W W' : World} (h : IsB f t v W) (hb : Below W.heap.size W W') : IsB f t v W' := lasts_isB f t v W W' h hb
/-- bags, as a call's arguments -/
def ManyB (n : Nat) (f : List V → Nat) (t : Nat) (v : Value) (W : World) : Prop := ∃ bs os, bs.length = n ∧ Row W v 1 n bs ∧ Bgs W bs os ∧ (∀ r, cnt os.flatten r = f r) ∧ total os.flatten = t
theorem isBag_agg {W : World} {v : Value} {o : BL} (h : IsBag W v o) : ∃ s, v = .agg #[s] := by
  obtain ⟨a, c, xs, rfl, -⟩ := h
  exact ⟨_, rfl⟩
theorem IsB.of {W : World} {v : Value} {o : BL} {f : List V → Nat} {t : Nat} (h : IsBag W v o) (hc : ∀ r, cnt o r = f r) (ht : total o = t) : IsB f t v W := by
  obtain ⟨s, rfl⟩ := isBag_agg h
  exact ⟨s, o, rfl, h, hc, ht⟩
theorem IsB.form {f : List V → Nat} {t : Nat} {v : Value} {W : World} (h : IsB f t v W) : ∃ a n c, v = .agg #[.slice a n c] := by
  obtain ⟨s, o, rfl, h, -⟩ := h
  obtain ⟨a, c, xs, e, -⟩ := h
  simp only [Value.agg.injEq, Array.mk.injEq, List.cons.injEq, and_true] at e
  exact ⟨_, _, _, by rw [e]⟩
theorem Bgs.short : ∀ {w : World} {bs : List Value} {os : List BL}, Bgs w bs os → os.flatten.length ≤ total os.flatten
  | w, [], [], _ => by simp
  | w, b :: bs, [], h => by have := h.1; simp at this
  | w, [], o :: os, h => by have := h.1; simp at this
  | w, b :: bs, o :: os, h => by
    have h1 := (h.2 0 b o rfl rfl).short
    have h2 : Bgs w bs os := ⟨by have := h.1; simpa using this, fun j x y e1 e2 => h.2 (j + 1) x y (by simpa using e1) (by simpa using e2)⟩
    have h3 := h2.short
    simp only [List.flatten_cons, List.length_append, total_append]
    omega
theorem plus_isB {n : Nat} {f : List V → Nat} {t : Nat} {v : Value} {W : World} (hn : n ≤ 1000) (ht : t ≤ 1000000) (h : ManyB n f t v W) :
    Calls Try.prog 14 #[v] W fun e w' => ∃ b, e = .returned b ∧ IsB f t b w' ∧ Below W.heap.size W w' := by
  obtain ⟨bs, os, rfl, hr, hb, hc, rfl⟩ := h
  refine (plus_any v bs os hn ht (Nat.le_trans hb.short ht) W hr hb).mono ?_
  rintro e w' ⟨bv, rfl, o, h1, h2, h3, h4⟩
  exact ⟨bv, rfl, IsB.of h1 (fun r => by rw [h2, hc]) h3, h4⟩
theorem same_isB {f g : List V → Nat} {t u : Nat} {a b : Value} {W : World} (ht : t ≤ 1000000) (hu : u ≤ 1000000) (ha : IsB f t a W) (hb : IsB g u b W) (hfg : ∀ r, f r = g r) :
    Calls Try.prog 16 #[a, b] W fun e w' => ∃ v, e = .returned v ∧ v = .bool true ∧ Below W.heap.size W w' := by
  obtain ⟨s, o, rfl, h1, h2, rfl⟩ := ha
  obtain ⟨s', p, rfl, k1, k2, rfl⟩ := hb
  have e : o = p := strict_unique o p h1.strict k1.strict (fun r => by rw [h2, k2, hfg])
  subst e
  refine (same_any _ _ o o (Nat.le_trans h1.short ht) (Nat.le_trans h1.short ht) W h1 k1).mono ?_
  rintro e w' ⟨rfl, hb⟩
  exact ⟨_, rfl, by rw [eqB_t rfl], hb⟩
theorem len_isB {f : List V → Nat} {t : Nat} {a : Value} {W : World} (ht : t ≤ 1000000) (ha : IsB f t a W) :
    Calls Try.prog 20 #[a] W fun e w' => ∃ v, e = .returned v ∧ v = .int .i64 (t : Int) ∧ Below W.heap.size W w' := by
  obtain ⟨s, o, rfl, h1, h2, rfl⟩ := ha
  refine (len_any _ o W h1 (by omega) (Nat.le_trans h1.short ht)).mono ?_
  rintro e w' ⟨rfl, hb⟩
  exact ⟨_, rfl, rfl, hb⟩
theorem of_isB {B : Nat} {v : Value} {us : List Value} {ls : List (List V)} {W : World} (hn : us.length ≤ 1000000) (hg : ∀ l ∈ ls, Goods l ∧ l.length ≤ 4) (hv : Row W v 1 us.length us) (hr : RwT TV B W us ls) :
    Calls Try.prog 8 #[v] W fun e w' => ∃ b, e = .returned b ∧ IsB (cnt (once ls)) ls.length b w' ∧ Below W.heap.size W w' := by
  refine (of_any v us ls hn (fun l hl => (hg l hl).1) (fun l hl => by have := (hg l hl).2; omega) W hv hr.rws ?_).mono ?_
  · intro u hu m c e
    obtain ⟨j, hj, rfl⟩ := List.getElem_of_mem hu
    exact owns_nilcap (hr.2 j _ _ (List.getElem?_eq_getElem hj) (List.getElem?_eq_getElem (by rw [← hr.1]; exact hj))) m c e
  · rintro e w' ⟨bv, rfl, o, h1, h2, h3, h4⟩
    exact ⟨bv, rfl, IsB.of h1 h2 h3, h4⟩
theorem row_new (W : World) (us : List Value) (T : TypeId) (hm : us.length ≤ maxLen) : Row (W.alloc (.cells us.toArray T)) (.slice (some ⟨W.heap.size, 0, none⟩) us.length us.length) 1 us.length us :=
  ⟨_, _, rfl, by omega, .inr ⟨_, 0, rfl, fun j hj => by rw [cells_new W us, Nat.zero_add]⟩⟩
theorem manyB2 {f g : List V → Nat} {t u : Nat} {a b : Value} {W : World} (T : TypeId) (ha : IsB f t (.agg #[a]) W) (hb : IsB g u (.agg #[b]) W) :
    ManyB 2 (fun r => f r + g r) (t + u) (.slice (some ⟨W.heap.size, 0, none⟩) 2 2) (W.alloc (.cells #[a, b] T)) := by
  obtain ⟨s, o, e, h1, h2, rfl⟩ := ha
  obtain ⟨s', p, e', k1, k2, rfl⟩ := hb
  simp only [Value.agg.injEq, Array.mk.injEq, List.cons.injEq, and_true] at e e'
  subst e e'
  refine ⟨[a, b], [o, p], rfl, row_new W [a, b] T (by simp [maxLen]), (Bgs.two h1 k1).later (below_alloc1 W _), fun r => ?_, total_two o p⟩
  rw [cnt_two, h2, k2]
/-- an append of rows, whole -/
def apZ (args : Array Value) : Sem Value := Builtin.append_ #[24, 24] 24 args
theorem apZ_eq (args : Array Value) : Builtin.append_ #[24, 24] 24 args = apZ args := rfl
theorem apZ_rows {w : World} {B C : Nat} {a : Option Addr} {c : Nat} {us : List Value} {ls : List (List V)} {u : Value} {r : List V} (n : Nat) (hn : us.length = n) (hn1 : n + 1 ≤ 1000001) (ho : w.ownsRow B 49 1 (.slice a n c) n us) (hB : B ≤ w.heap.size) (hr : RwT TV C w us ls) (hu : w.ownsRow C TV 3 u r.length (vCells r)) :
    ∃ (a5 : Option Addr) (c5 : Nat) (w5 : World), (apZ #[.slice a n c, .slice (some ⟨w.heap.size, 0, none⟩) 1 1]).run Try.prog (w.alloc (.cells #[u] 49)) = .ok (.slice a5 (n + 1) c5) w5 ∧ w5.ownsRow B 49 1 (.slice a5 (n + 1) c5) (n + 1) (us ++ [u]) ∧ Below B w w5 ∧ RwT TV C w5 (us ++ [u]) (ls ++ [r]) := by
  subst hn
  obtain ⟨x, y, rfl⟩ := owns_shape hu
  obtain ⟨v', w5, h1, h2, h3⟩ := row_app (us := us) (u := .slice x r.length y) hn1 ho hB rfl
  obtain ⟨a5, c5, rfl⟩ := owns_shape h2
  have hal := below_alloc1 w (.cells #[.slice x r.length y] 49)
  have hr' := hr.later hal
  have hu' := owns_below hu hal
  have ho' := owns_below ho hal
  exact ⟨a5, c5, w5, h1, h2, (((Below.refl _ w).alloc hB _).grown h3 (by rw [World.size_alloc]; omega) (fun k hk => (ho.lt k hk).1)), (hr'.grown h3 (hr'.apart ho' (by decide))).snoc (hu'.kept h3 (owns_ne_owns hu' ho' (by decide)))⟩
end Go.Proofs.Ytpkkhbmlclicfaa.val
