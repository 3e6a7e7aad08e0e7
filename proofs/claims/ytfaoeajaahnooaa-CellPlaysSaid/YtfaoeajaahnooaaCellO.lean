/- The law CellCounts: what is kept beside the store; the texts that are told are not empty. -/
import Derived.Test.YtfaoeajaahnooaaCellN
namespace Go.Proofs.Ytfaoeajaahnooaa.cel
set_option linter.unusedVariables false
open Go.RowKit Go.WideShapes Go.MapKept

/-- the result's cell, a counter's cell, and what was there before -/
structure K2 (w : World) (gn : Nat) (n : Int) (wr : World) : Prop where
  f6 : Flds wr w.heap.size TB [.bool false]
  fn : Flds wr gn TI [.int .i64 n]
  ne : w.heap.size < gn
  bel : Below w.heap.size w wr
theorem K2.grown {w : World} {gn : Nat} {n : Int} {wr wq : World} {row : Option Nat} (h : K2 w gn n wr) (hg : wr.grownBy wq row) (hr : ∀ r, row = some r → w.heap.size < r ∧ r ≠ gn) : K2 w gn n wq :=
  ⟨h.f6.grown hg (fun e => by have := (hr _ e.symm).1; omega), h.fn.grown hg (fun e => (hr _ e.symm).2 rfl), h.ne, h.bel.grown hg h.bel.size (fun j e => by have := (hr j e).1; omega)⟩
theorem K2.later {w : World} {gn : Nat} {n : Int} {wr wq : World} (h : K2 w gn n wr) (hb : Below wr.heap.size wr wq) : K2 w gn n wq :=
  ⟨h.f6.later hb, h.fn.later hb, h.ne, h.bel.trans (hb.mono h.bel.size)⟩
theorem K2.step {w : World} {gn : Nat} {n : Int} {wr : World} (h : K2 w gn n wr) (m : Int) : K2 w gn m (wr.setCell ⟨gn, 0, none⟩ (.int .i64 m)) :=
  ⟨h.f6.other _ _ (by show w.heap.size ≠ gn; have := h.ne; omega), h.fn.set 0 _, h.ne, h.bel.setCell (by show w.heap.size ≤ gn; have := h.ne; omega) _⟩
/-- the store as it was when the iteration began, and what is kept -/
def KI (w : World) (gn bs m : Nat) (own : Nat → Prop) (S : CS) (bt bw : Nat) (Dt Dw : Dat) (bk : ByteArray → Option Nat) (k : Nat) (W : World) : Prop := K2 w gn (k : Int) W ∧ Cel own bs m S W bt bw Dt Dw bk
theorem KI.own {w : World} {gn bs m : Nat} {own : Nat → Prop} {S : CS} {bt bw : Nat} {Dt Dw : Dat} {bk : ByteArray → Option Nat} {B : Nat} (hB1 : w.heap.size < B) (hB2 : gn < B) (ho : ∀ j, own j → j < B) : OwnFrom B (KI w gn bs m own S bt bw Dt Dw bk) := by
  rintro k A Z row ⟨h1, h2⟩ hg hr
  exact ⟨h1.grown hg (fun r e => ⟨by have := (hr r e).1; omega, by have := (hr r e).1; omega⟩), h2.kept hg (fun j e _ hj => by have := (hr j e).1; have := ho j hj; omega)⟩
theorem keeps_set {B : Nat} {wr : World} {gn : Nat} {T : TypeId} {fs : List Value} (h : Flds wr gn T fs) (u : Value) : KeepsFrom B wr (wr.setCell ⟨gn, 0, none⟩ u) := (KeepsOthers.setCell _ _ _).from B
theorem only_set {P : Nat → Prop} {wr : World} {gn : Nat} (hp : P gn) (u : Value) : Only P wr (wr.setCell ⟨gn, 0, none⟩ u) := (Only.refl _ wr).setCell _ _ (fun _ => hp)
/-- what the iteration tells has a text; how many there are -/
theorem Cel.told {own : Nat → Prop} {bs m : Nat} {S : CS} {w : World} {bt bw : Nat} {Dt Dw : Dat} {bk : ByteArray → Option Nat} (h : Cel own bs m S w bt bw Dt Dw bk) {ns : List ByteArray} (hnd : ns.Nodup) (hsz : ∀ s ∈ ns, s.size ≤ maxLen) (htx : ∀ s, s ∉ ns → S.tx s = ByteArray.empty) :
    ((strKeys Dt).mergeSort leB).length = Go.Maps.size Dt ∧ Go.Maps.size Dt ≤ ns.length ∧ ∀ x ∈ (strKeys Dt).mergeSort leB, S.tx ⟨x.toArray⟩ ≠ ByteArray.empty := by
  classical
  have hns : ∀ s, s.size ≤ maxLen → (s ∈ ns.filter (fun s => decide (S.tx s ≠ ByteArray.empty)) ↔ S.tx s ≠ ByteArray.empty) := by
    intro s hs
    rw [List.mem_filter, decide_eq_true_eq]
    refine ⟨fun h => h.2, fun hne => ⟨?_, hne⟩⟩
    by_cases hm : s ∈ ns
    · exact hm
    · exact absurd (htx s hm) hne
  have hnd' := hnd.filter (fun s => decide (S.tx s ≠ ByteArray.empty))
  have hsz' : ∀ s ∈ ns.filter (fun s => decide (S.tx s ≠ ByteArray.empty)), s.size ≤ maxLen := fun s hs => hsz s (List.mem_filter.1 hs).1
  have h1 := h.names _ hnd' hsz' hns
  have h2 := h.sizeD _ hnd' hsz' hns
  have h3 : ((strKeys Dt).mergeSort leB).Perm (strKeys Dt) := List.mergeSort_perm _ _
  refine ⟨?_, ?_, fun x hx => ?_⟩
  · rw [h3.length_eq, ← h1.length_eq, h2, List.length_map]
  · rw [h2]; exact List.length_filter_le _ _
  · have hx1 := h1.mem_iff.2 (h3.mem_iff.1 hx)
    rw [List.mem_map] at hx1
    obtain ⟨s, hs, rfl⟩ := hx1
    exact (hns s (hsz' s hs)).1 hs
end Go.Proofs.Ytfaoeajaahnooaa.cel
