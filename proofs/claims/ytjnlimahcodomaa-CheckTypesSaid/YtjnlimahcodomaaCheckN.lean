/- Four lists that grow in one region, in whatever order; no walk. -/
import Derived.Test.YtjnlimahcodomaaCheckM
import Derived.Test.YtjnlimahcodomaaAgCx
namespace Go.Proofs.Ytjnlimahcodomaa.ck
set_option linter.unusedVariables false
open Go.RowKit
open val (V null TV TR)
abbrev TFp : TypeId := 61
abbrev TFr : TypeId := 71
/-- an append's slice: its row, its block the old one or a new one -/
def Vq (wr : World) (B : Nat) (T : TypeId) (n : Nat) (l : Value) (xs : List Value) : Value → World → Prop := fun v W => (∃ a c, v = .slice a n c) ∧ W.ownsRow B T 3 v n xs ∧ (∀ b, v.ownBlock = some b → l.ownBlock = some b ∨ wr.heap.size ≤ b)
def Tq (B : Nat) (T : TypeId) (n : Nat) (l : Value) (xs : List Value) : (Nat → Value) → World → World → Prop := fun _ W W' => W.grownBy W' l.ownBlock ∧ W'.ownsRow B T 3 l n xs
def Vb (wr : World) (T : TypeId) (fs : List Value) : Value → World → Prop := fun v W => ∃ g, v = .slice (some ⟨g, 0, none⟩) 1 1 ∧ wr.heap.size ≤ g ∧ Flds W g T fs
/-- the blocks of two values differ -/
def Dj (u v : Value) : Prop := ∀ b, u.ownBlock = some b → v.ownBlock ≠ some b
theorem Dj.symm {u v : Value} (h : Dj u v) : Dj v u := fun b hb e => h b e hb
def Old (wr : World) (l : Value) : Prop := ∀ b, l.ownBlock = some b → b < wr.heap.size
section
variable {wr W W' : World} {B B' n n' : Nat} {T T' : TypeId} {l l' v : Value} {xs xs' fs : List Value} {f : Nat → Value}
theorem Vq.lasts (h : Vq wr B T n l xs v W) (hb : Below W.heap.size W W') : Vq wr B T n l xs v W' := ⟨h.1, owns_below h.2.1 hb, h.2.2⟩
theorem Vq.other (ho : Old wr l') (hd : Dj l l') (h : Vq wr B T n l xs v W) (ht : Tq B' T' n' l' xs' f W W') : Vq wr B T n l xs v W' := by
  refine ⟨h.1, h.2.1.kept ht.1 ?_, h.2.2⟩
  cases hob : v.ownBlock with
  | none => exact .inl rfl
  | some b =>
    refine .inr (fun e => ?_)
    rcases h.2.2 b hob with h1 | h1
    · exact hd b h1 e.symm
    · have := ho b e.symm; omega
theorem Vb.lasts (h : Vb wr T fs v W) (hb : Below W.heap.size W W') : Vb wr T fs v W' := by
  obtain ⟨g, h1, h2, h3⟩ := h
  exact ⟨g, h1, h2, h3.later hb⟩
theorem Vb.other (ho : Old wr l') (h : Vb wr T fs v W) (ht : Tq B' T' n' l' xs' f W W') : Vb wr T fs v W' := by
  obtain ⟨g, h1, h2, h3⟩ := h
  exact ⟨g, h1, h2, h3.grown ht.1 (fun e => by have := ho g e.symm; omega)⟩
theorem Vb.new (fs : List Value) (h : wr.heap.size ≤ W.heap.size) : Vb wr T fs (.slice (some ⟨W.heap.size, 0, none⟩) 1 1) (W.alloc (.cells fs.toArray T)) := ⟨_, rfl, h, Flds.new W T _⟩
theorem Vq.lt (h : Vq wr B T n l xs v W) : ∀ b, v.ownBlock = some b → b < W.heap.size := fun b hb => (h.2.1.lt b hb).2
theorem Vb.lt (h : Vb wr T fs v W) : ∀ b, v.ownBlock = some b → b < W.heap.size ∧ wr.heap.size ≤ b := by
  obtain ⟨g, rfl, h2, h3⟩ := h
  intro b hb
  have hl := h3.lt
  simp only [Value.ownBlock, Option.some.injEq] at hb
  subst hb
  exact ⟨hl, h2⟩
/-- a new slice of an append: apart from all that there was -/
theorem app_apart {u a : Value} (hlies : a.ownBlock = none ∨ a.ownBlock = l.ownBlock ∨ a.ownBlock = some W.heap.size) (hu : ∀ b, u.ownBlock = some b → b < W.heap.size) (hd : ∀ b, l.ownBlock = some b → u.ownBlock ≠ some b) : Dj a u := by
  intro b hb
  rcases hlies with h | h | h
  · rw [h] at hb; cases hb
  · rw [h] at hb; exact hd b hb
  · rw [h] at hb
    simp only [Option.some.injEq] at hb
    intro e
    have := hu b e
    omega
end
/-- what always holds in the region -/
structure Sq (w wr : World) (n : Nat) (l0 : Value) (l1 : Value) (l2 : Value) (l3 : Value) (x0 : List Value) (x1 : List Value) (x2 : List Value) (x3 : List Value) (g12 g13 : Nat) (f12 f13 : List Value) (W : World) : Prop where
  bel : Below w.heap.size w W
  siz : wr.heap.size ≤ W.heap.size
  o0 : W.ownsRow w.heap.size TFp 3 l0 n x0
  o1 : W.ownsRow w.heap.size TFr 3 l1 n x1
  o2 : W.ownsRow w.heap.size TV 3 l2 n x2
  o3 : W.ownsRow w.heap.size TR 3 l3 n x3
  b12 : Flds W g12 TFr f12
  b13 : Flds W g13 TR f13
section
variable {w wr W W' : World} {n g12 g13 : Nat} {l0 l1 l2 l3 : Value} {x0 x1 x2 x3 f12 f13 : List Value} {f : Nat → Value}
theorem Sq.grew (h : Sq w wr n l0 l1 l2 l3 x0 x1 x2 x3 g12 g13 f12 f13 W) (hb : Below W.heap.size W W') : Sq w wr n l0 l1 l2 l3 x0 x1 x2 x3 g12 g13 f12 f13 W' :=
  ⟨h.bel.trans (hb.mono h.bel.size), Nat.le_trans h.siz hb.size, owns_below h.o0 hb, owns_below h.o1 hb, owns_below h.o2 hb, owns_below h.o3 hb, h.b12.later hb, h.b13.later hb⟩
theorem kept_of {l l' : Value} (hd : Dj l l') : l.ownBlock = none ∨ l.ownBlock ≠ l'.ownBlock := by
  cases hob : l.ownBlock with
  | none => exact .inl rfl
  | some b => exact .inr (fun e => hd b hob e.symm)
/-- the old slices are apart, and older than the region -/
structure Four (wr : World) (l0 l1 l2 l3 : Value) : Prop where
  a0 : Old wr l0
  a1 : Old wr l1
  a2 : Old wr l2
  a3 : Old wr l3
  d01 : Dj l0 l1
  d02 : Dj l0 l2
  d03 : Dj l0 l3
  d12 : Dj l1 l2
  d13 : Dj l1 l3
  d23 : Dj l2 l3
theorem Sq.t0 (q : Four wr l0 l1 l2 l3) (hg : ∀ b, l0.ownBlock = some b → b ≠ g12 ∧ b ≠ g13) (h : Sq w wr n l0 l1 l2 l3 x0 x1 x2 x3 g12 g13 f12 f13 W) (ht : Tq w.heap.size TFp n l0 x0 f W W') : Sq w wr n l0 l1 l2 l3 x0 x1 x2 x3 g12 g13 f12 f13 W' := by
  obtain ⟨a0, a1, a2, a3, d01, d02, d03, d12, d13, d23⟩ := q
  exact ⟨h.bel.grown ht.1 h.bel.size (fun b e => (h.o0.lt b e).1), Nat.le_trans h.siz ht.1.size, ht.2, (h.o1.kept ht.1 (kept_of d01.symm)), (h.o2.kept ht.1 (kept_of d02.symm)), (h.o3.kept ht.1 (kept_of d03.symm)), h.b12.grown ht.1 (fun e => (hg g12 e.symm).1 rfl), h.b13.grown ht.1 (fun e => (hg g13 e.symm).2 rfl)⟩
theorem Sq.t1 (q : Four wr l0 l1 l2 l3) (hg : ∀ b, l1.ownBlock = some b → b ≠ g12 ∧ b ≠ g13) (h : Sq w wr n l0 l1 l2 l3 x0 x1 x2 x3 g12 g13 f12 f13 W) (ht : Tq w.heap.size TFr n l1 x1 f W W') : Sq w wr n l0 l1 l2 l3 x0 x1 x2 x3 g12 g13 f12 f13 W' := by
  obtain ⟨a0, a1, a2, a3, d01, d02, d03, d12, d13, d23⟩ := q
  exact ⟨h.bel.grown ht.1 h.bel.size (fun b e => (h.o1.lt b e).1), Nat.le_trans h.siz ht.1.size, (h.o0.kept ht.1 (kept_of d01)), ht.2, (h.o2.kept ht.1 (kept_of d12.symm)), (h.o3.kept ht.1 (kept_of d13.symm)), h.b12.grown ht.1 (fun e => (hg g12 e.symm).1 rfl), h.b13.grown ht.1 (fun e => (hg g13 e.symm).2 rfl)⟩
theorem Sq.t2 (q : Four wr l0 l1 l2 l3) (hg : ∀ b, l2.ownBlock = some b → b ≠ g12 ∧ b ≠ g13) (h : Sq w wr n l0 l1 l2 l3 x0 x1 x2 x3 g12 g13 f12 f13 W) (ht : Tq w.heap.size TV n l2 x2 f W W') : Sq w wr n l0 l1 l2 l3 x0 x1 x2 x3 g12 g13 f12 f13 W' := by
  obtain ⟨a0, a1, a2, a3, d01, d02, d03, d12, d13, d23⟩ := q
  exact ⟨h.bel.grown ht.1 h.bel.size (fun b e => (h.o2.lt b e).1), Nat.le_trans h.siz ht.1.size, (h.o0.kept ht.1 (kept_of d02)), (h.o1.kept ht.1 (kept_of d12)), ht.2, (h.o3.kept ht.1 (kept_of d23.symm)), h.b12.grown ht.1 (fun e => (hg g12 e.symm).1 rfl), h.b13.grown ht.1 (fun e => (hg g13 e.symm).2 rfl)⟩
theorem Sq.t3 (q : Four wr l0 l1 l2 l3) (hg : ∀ b, l3.ownBlock = some b → b ≠ g12 ∧ b ≠ g13) (h : Sq w wr n l0 l1 l2 l3 x0 x1 x2 x3 g12 g13 f12 f13 W) (ht : Tq w.heap.size TR n l3 x3 f W W') : Sq w wr n l0 l1 l2 l3 x0 x1 x2 x3 g12 g13 f12 f13 W' := by
  obtain ⟨a0, a1, a2, a3, d01, d02, d03, d12, d13, d23⟩ := q
  exact ⟨h.bel.grown ht.1 h.bel.size (fun b e => (h.o3.lt b e).1), Nat.le_trans h.siz ht.1.size, (h.o0.kept ht.1 (kept_of d03)), (h.o1.kept ht.1 (kept_of d13)), (h.o2.kept ht.1 (kept_of d23)), ht.2, h.b12.grown ht.1 (fun e => (hg g12 e.symm).1 rfl), h.b13.grown ht.1 (fun e => (hg g13 e.symm).2 rfl)⟩
end
end Go.Proofs.Ytjnlimahcodomaa.ck
