/- The law CellPlays: its range over all cells. -/
import Derived.Test.YtfaoeajaahnooaaCellS
namespace Go.Proofs.Ytfaoeajaahnooaa.cel
set_option linter.unusedVariables false
open Go.RowKit Go.WideShapes Go.MapKept
set_option maxRecDepth 100000 in
set_option maxHeartbeats 4000000 in
theorem all1_nil (n : Nat) (hn : 1 ≤ n) (l Bs : Nat) (W : World) (hBs : W.cell? ⟨Bs, 0, none⟩ = some (.pointer none)) :
    CallsIn Fence.wide n Try.prog 21 #[.func (.yield l) #[] #[], .pointer (some ⟨Bs, 0, none⟩)] W fun e W' => (∃ v, e = .returned v) ∧ W' = W := by
  have hl := World.block_lt_of_cell? W ⟨Bs, 0, none⟩ hBs
  refine callsIn_of_wp Try.func21 rfl trivial ?_ rfl
  simp only [Try.ntmps21, List.size_toArray, List.length_cons, List.length_nil, Nat.reduceAdd, Nat.reduceSub, Array.replicate_succ, Array.replicate_zero, List.push_toArray, List.append_toArray, List.nil_append, List.cons_append]
  gi_wp2
  refine (by first | exact bodyPost_end (results_none rfl _ _ _) rfl ⟨⟨_, rfl⟩, rfl⟩ | exact bodyPost_ret (results_none rfl _ _ _) rfl ⟨⟨_, rfl⟩, rfl⟩)
theorem all_seq_nil (n : Nat) (hn : 1 ≤ n) (Bs : Nat) (w : World) (hBs : w.cell? ⟨Bs, 0, none⟩ = some (.pointer none)) (A : Nat → World → Array Value → Prop) (Kp : World → World → Prop) :
    SeqArg Fence.wide n Try.prog 21 #[.pointer (some ⟨Bs, 0, none⟩)] A Kp 0 w :=
  fun l J Jx W hW hJ hJx hY h0 => (all1_nil n hn l Bs W ((World.cell?_of_block (hW.block Bs (World.block_lt_of_cell? w ⟨Bs, 0, none⟩ hBs))).trans hBs)).mono (fun e W' h => ⟨h.1, .inl (by rw [h.2]; exact h0)⟩)
/-- what is at hand in the range -/
structure Rq (w : World) (g4 g14 g16 bs m : Nat) (own : Nat → Prop) (S : CS) (bt bw : Nat) (Dt Dw : Dat) (bk : ByteArray → Option Nat) (es : List En) (am : Option Addr) (cm q kk : Nat) (W : World) : Prop where
  qle : q ≤ es.length
  nzq : nz (es.take q) = kk
  f16 : Flds W g16 TI [.int .i64 (q : Int)]
  f14 : Flds W g14 TI [.int .i64 ((nz es : Int) - kk)]
  f2 : Flds W w.heap.size TB [.bool false]
  f4 : Flds W g4 TOs [.slice am es.length cm]
  row : W.ownsRow (g4 + 1) TO 3 (.slice am es.length cm) es.length (eCells es)
  cel : Cel own bs m S W bt bw Dt Dw bk
  bel : Below w.heap.size w W
section
variable {w W W' : World} {g4 g14 g16 bs m : Nat} {own : Nat → Prop} {S : CS} {bt bw : Nat} {Dt Dw : Dat} {bk : ByteArray → Option Nat} {es : List En} {am : Option Addr} {cm q kk : Nat}
theorem Rq.grown {row : Option Nat} (h : Rq w g4 g14 g16 bs m own S bt bw Dt Dw bk es am cm q kk W) (hg : W.grownBy W' row) (hr : ∀ r, row = some r → r ≠ g16 ∧ r ≠ g14 ∧ w.heap.size < r ∧ r ≠ g4 ∧ (∀ b, (Value.slice am es.length cm).ownBlock = some b → b ≠ r) ∧ ¬ own r) : Rq w g4 g14 g16 bs m own S bt bw Dt Dw bk es am cm q kk W' := by
  refine ⟨h.qle, h.nzq, h.f16.grown hg (fun e => (hr _ e.symm).1 rfl), h.f14.grown hg (fun e => (hr _ e.symm).2.1 rfl), h.f2.grown hg (fun e => by have := (hr _ e.symm).2.2.1; omega), h.f4.grown hg (fun e => (hr _ e.symm).2.2.2.1 rfl), h.row.kept hg ?_, h.cel.kept hg (fun j e _ => (hr j e).2.2.2.2.2), h.bel.grown hg h.bel.size (fun j e => by have := (hr j e).2.2.1; omega)⟩
  cases hob : (Value.slice am es.length cm).ownBlock with
  | none => exact .inl rfl
  | some b => exact .inr fun e => (hr b e.symm).2.2.2.2.1 b hob rfl
/-- the place of the next cell is set -/
theorem Rq.to (h : Rq w g4 g14 g16 bs m own S bt bw Dt Dw bk es am cm q kk W) (hne : g14 ≠ g16) (hs : w.heap.size < g16 ∧ g16 ≠ g4 ∧ (∀ b, (Value.slice am es.length cm).ownBlock = some b → b ≠ g16) ∧ ¬ own g16) {q' : Nat} (hq : q' ≤ es.length) (hn : nz (es.take q') = kk) :
    Rq w g4 g14 g16 bs m own S bt bw Dt Dw bk es am cm q' kk (W.setCell ⟨g16, 0, none⟩ (.int .i64 (q' : Int))) := by
  have hg : W.grownBy (W.setCell ⟨g16, 0, none⟩ (.int .i64 (q' : Int))) (some g16) := grown_setCell W ⟨g16, 0, none⟩ _
  exact ⟨hq, hn, h.f16.set 0 _, h.f14.other _ _ hne, h.f2.other _ _ (by show w.heap.size ≠ g16; omega), h.f4.other _ _ (by show g4 ≠ g16; omega), h.row.kept hg (by
    cases hob : (Value.slice am es.length cm).ownBlock with
    | none => exact .inl rfl
    | some b => exact .inr fun e => hs.2.2.1 b hob (Option.some.inj e)), h.cel.kept hg (fun j e _ => by simp only [Option.some.injEq] at e; subst e; exact hs.2.2.2), h.bel.setCell (by show w.heap.size ≤ g16; omega) _⟩
/-- one more was told -/
theorem Rq.told (h : Rq w g4 g14 g16 bs m own S bt bw Dt Dw bk es am cm q kk W) (hne : g14 ≠ g16) (hs : w.heap.size < g16 ∧ g16 ≠ g4 ∧ (∀ b, (Value.slice am es.length cm).ownBlock = some b → b ≠ g16) ∧ ¬ own g16) (hs' : w.heap.size < g14 ∧ g14 ≠ g4 ∧ (∀ b, (Value.slice am es.length cm).ownBlock = some b → b ≠ g14) ∧ ¬ own g14) (hq : q + 1 ≤ es.length) (hn : nz (es.take (q + 1)) = kk + 1) :
    Rq w g4 g14 g16 bs m own S bt bw Dt Dw bk es am cm (q + 1) (kk + 1) ((W.setCell ⟨g16, 0, none⟩ (.int .i64 ((q + 1 : Nat) : Int))).setCell ⟨g14, 0, none⟩ (.int .i64 ((nz es : Int) - ((kk + 1 : Nat) : Int)))) := by
  have hg : W.grownBy (W.setCell ⟨g16, 0, none⟩ (.int .i64 ((q + 1 : Nat) : Int))) (some g16) := grown_setCell W ⟨g16, 0, none⟩ _
  have hg' : (W.setCell ⟨g16, 0, none⟩ (.int .i64 ((q + 1 : Nat) : Int))).grownBy ((W.setCell ⟨g16, 0, none⟩ (.int .i64 ((q + 1 : Nat) : Int))).setCell ⟨g14, 0, none⟩ (.int .i64 ((nz es : Int) - ((kk + 1 : Nat) : Int)))) (some g14) := grown_setCell _ ⟨g14, 0, none⟩ _
  refine ⟨hq, hn, (h.f16.set 0 _).other _ _ (by show g16 ≠ g14; omega), (h.f14.other _ _ hne).set 0 _, (h.f2.other _ _ (by show w.heap.size ≠ g16; omega)).other _ _ (by show w.heap.size ≠ g14; omega), (h.f4.other _ _ (by show g4 ≠ g16; omega)).other _ _ (by show g4 ≠ g14; omega), (h.row.kept hg ?_).kept hg' ?_, (h.cel.kept hg (fun j e _ => by simp only [Option.some.injEq] at e; subst e; exact hs.2.2.2)).kept hg' (fun j e _ => by simp only [Option.some.injEq] at e; subst e; exact hs'.2.2.2), (h.bel.setCell (by show w.heap.size ≤ g16; omega) _).setCell (by show w.heap.size ≤ g14; omega) _⟩
  · cases hob : (Value.slice am es.length cm).ownBlock with
    | none => exact .inl rfl
    | some b => exact .inr fun e => hs.2.2.1 b hob (Option.some.inj e)
  · cases hob : (Value.slice am es.length cm).ownBlock with
    | none => exact .inl rfl
    | some b => exact .inr fun e => hs'.2.2.1 b hob (Option.some.inj e)
theorem Rq.own' {B : Nat} (h1 : g16 < B) (h2 : g14 < B) (h3 : w.heap.size < B) (h4 : g4 < B) (h5 : ∀ b, (Value.slice am es.length cm).ownBlock = some b → b < B) (h6 : ∀ j, own j → j < B) : OwnFrom B (fun kk W => ∃ q, Rq w g4 g14 g16 bs m own S bt bw Dt Dw bk es am cm q kk W) := by
  rintro kk A Z row ⟨q, h⟩ hg hr
  exact ⟨q, h.grown hg (fun r e => by
    have := (hr r e).1
    exact ⟨by omega, by omega, by omega, by omega, fun b hb => by have := h5 b hb; omega, fun ho => by have := h6 r ho; omega⟩)⟩
/-- where the loop is -/
def qOf (g16 : Nat) (W : World) : Nat := match W.cell? ⟨g16, 0, none⟩ with
  | some (.int _ z) => z.toNat
  | _ => 0
theorem Rq.at (h : Rq w g4 g14 g16 bs m own S bt bw Dt Dw bk es am cm q kk W) : qOf g16 W = q := by
  have := h.f16.cell 0
  simp only [List.getElem?_cons_zero] at this
  unfold qOf; rw [this]; simp
end
end Go.Proofs.Ytfaoeajaahnooaa.cel
