/- A slice that a region appends to, beside boxes that it reads and new slices. Laws of no program. -/
import Derived.Test.YtmbafcfoboknkaaAgT
namespace Go.Proofs.Ytmbafcfoboknkaa.ag
set_option linter.unusedVariables false
open Go.RowKit
section
variable {P : Program} {B b0 : Nat} {T e : TypeId} {sz n k : Nat} {xs cs : List Value} {lv : Value} {W0 W W' : World} {f : Nat → Value}
/-- a region's world: of what was there the slice's block alone may have turned, and the slice is as it was -/
def SL (B : Nat) (e : TypeId) (sz n : Nat) (xs : List Value) (lv : Value) (W0 W : World) : Prop := W0.grownBy W lv.ownBlock ∧ W.ownsRow B e sz lv n xs ∧ B ≤ W0.heap.size ∧ ∀ g, lv.ownBlock = some g → g < W0.heap.size
theorem SL.start (h : W0.ownsRow B e sz lv n xs) (hB : B ≤ W0.heap.size) : SL B e sz n xs lv W0 W0 :=
  ⟨⟨rfl, rfl, rfl, Nat.le_refl _, fun _ _ _ => rfl⟩, h, hB, fun g hg => (h.lt g hg).2⟩
theorem grown_of_below (h : Below W.heap.size W W') (row : Option Nat) : W.grownBy W' row := ⟨h.os, h.tape, h.output, h.size, fun k hk _ => h.block k hk⟩
theorem grown_both {a b c : World} {row : Option Nat} (h : a.grownBy b row) (h' : b.grownBy c row) : a.grownBy c row :=
  ⟨h'.os.trans h.os, h'.tape.trans h.tape, h'.output.trans h.output, Nat.le_trans h.size h'.size, fun k hk hn => (h'.block k (Nat.lt_of_lt_of_le hk h.size) hn).trans (h.block k hk hn)⟩
theorem SL.grew (h : SL B e sz n xs lv W0 W) (hb : ag.grew f W W') : SL B e sz n xs lv W0 W' := ⟨grown_both h.1 (grown_of_below hb _), owns_below h.2.1 hb, h.2.2⟩
theorem SL.drew (h : SL B e sz n xs lv W0 W) : SL B e sz n xs lv W0 W.drew := SL.grew (f := fun _ => lv) h ((Below.refl W.heap.size W).drew)
/-- an append to the slice -/
def tk3 (B : Nat) (e : TypeId) (sz n : Nat) (xs : List Value) (lv : Value) : (Nat → Value) → World → World → Prop := fun _ W W' => W.grownBy W' lv.ownBlock ∧ W'.ownsRow B e sz lv n xs
theorem SL.app (h : SL B e sz n xs lv W0 W) (ht : tk3 B e sz n xs lv f W W') : SL B e sz n xs lv W0 W' := ⟨grown_both h.1 ht.1, ht.2, h.2.2⟩
theorem SL.flds (h : SL B e sz n xs lv W0 W) {g : Nat} (hf : Flds W0 g T cs) (hne : lv.ownBlock ≠ some g) : Flds W g T cs := hf.grown h.1 (fun e => hne e.symm)
theorem SL.below (h : SL B e sz n xs lv W0 W) {b : Nat} (hb : b ≤ B) : Below b W0 W := (Below.refl b W0).grown h.1 (Nat.le_trans hb h.2.2.1) (fun k e => Nat.le_trans hb (h.2.1.lt k e).1)
/-- a new slice -/
def NS (b0 : Nat) (T : TypeId) (k : Nat) (cs : List Value) : Value → World → Prop := fun v W => ∃ g, v = .slice (some ⟨g, 0, none⟩) k k ∧ b0 ≤ g ∧ Flds W g T cs
theorem NS.lasts : Lasts (NS b0 T k cs) := fun v w w' h hb => by
  obtain ⟨g, h1, h2, h3⟩ := h
  exact ⟨g, h1, h2, h3.later hb⟩
theorem NS.app {v : Value} (h : NS W0.heap.size T k cs v W) (hs : SL B e sz n xs lv W0 W) (ht : tk3 B e sz n xs lv f W W') : NS W0.heap.size T k cs v W' := by
  obtain ⟨g, h1, h2, h3⟩ := h
  exact ⟨g, h1, h2, h3.grown ht.1 (fun e => by have := hs.2.2.2 g e.symm; omega)⟩
theorem NS.new (W : World) (hb : b0 ≤ W.heap.size) : NS b0 T k cs (.slice (some ⟨W.heap.size, 0, none⟩) k k) (W.alloc (.cells cs.toArray T)) := ⟨_, rfl, hb, Flds.new W T cs⟩
theorem does_one {o : Oper} {a : Act} {W : World} {f : Nat → Value} (s x : Operand) (t : TypeId) (ho : o.op = .call { callee := .builtin .append, args := #[s, x], argTypes := #[t, t] })
    (B : Nat) (e : TypeId) (i : TypeInfo) (z : Value) (size bytes : Nat) (ht : P.underlying t = some (.slice e)) (hi : P.info? e = some i) (hz : i.zero = some z)
    (hsize : i.size = size) (hby : i.bytes = bytes) (hzs : z.cells.size = size) (hsz : 0 < size)
    (v : Value) (n : Nat) (xs : List Value) (hs : a.eval s = v) (hown : W.ownsRow B e size v n xs)
    (vx : Value) (m : Nat) (news : List Value) (hx : a.eval x = vx) (hrow : Row W vx size m news) (h1 : ∀ u ∈ news, u.oneCell' = true)
    (h63 : n + m ≤ maxLen) (hbytes : (n + m) * bytes ≤ 140737488355328) (hbase : B ≤ W.heap.size) (R : List Spec) (k : Nat) (D : List (Nat × Value)) :
    does P o a W (fun v' W' => ((∃ a c, v' = .slice a (n + m) c) ∧ W'.ownsRow B e size v' (n + m) (xs ++ news)) ∧ tk3 B e size n xs v f W W' ∧ News (fun _ _ _ _ => True) k v' W D 0 R) := by
  refine does_append s x t ho B e i z size bytes ht hi hz hsize hby hzs hsz _ n xs hs hown vx m news hx hrow h1 h63 hbytes hbase (fun v' W' hap => ?_)
  exact ⟨⟨hap.form, hap.own⟩, ⟨hap.grown, hap.old⟩, News.none (fun _ _ => trivial) _ _⟩
def OneR (B : Nat) (e : TypeId) (sz n : Nat) (xs : List Value) : Value → World → Prop := fun v W => (∃ a c, v = .slice a n c) ∧ W.ownsRow B e sz v n xs
theorem OneR.lasts : Lasts (OneR B e sz n xs) := fun v w w' h hb => ⟨h.1, owns_below h.2 hb⟩
end
end Go.Proofs.Ytmbafcfoboknkaa.ag
