/- What a call may have written: blocks of a set, and new ones. No program. -/
import Derived.Test.YtmbafcfoboknkaaObj
import Derived.Deep.AppendLies
namespace Go.Proofs.Ytmbafcfoboknkaa
set_option linter.unusedVariables false
open Go.RowKit
/-- Of what was there, only blocks of 'own' have turned. -/
structure Only (own : Nat → Prop) (w w' : World) : Prop where
  os : w'.os = w.os
  tape : w'.tape = w.tape
  output : w'.output = w.output
  size : w.heap.size ≤ w'.heap.size
  block : ∀ k, k < w.heap.size → ¬ own k → w'.heap[k]? = w.heap[k]?
theorem Only.refl (own : Nat → Prop) (w : World) : Only own w w := ⟨rfl, rfl, rfl, Nat.le_refl _, fun _ _ _ => rfl⟩
theorem Only.trans {own own' : Nat → Prop} {a b c : World} (h : Only own a b) (h' : Only own' b c) (hs : ∀ k, k < a.heap.size → own' k → own k) : Only own a c :=
  ⟨h'.os.trans h.os, h'.tape.trans h.tape, h'.output.trans h.output, Nat.le_trans h.size h'.size, fun k hk ho => (h'.block k (Nat.lt_of_lt_of_le hk h.size) (fun o => ho (hs k hk o))).trans (h.block k hk ho)⟩
theorem Only.mono {own own' : Nat → Prop} {a b : World} (h : Only own a b) (hs : ∀ k, k < a.heap.size → own k → own' k) : Only own' a b := ⟨h.os, h.tape, h.output, h.size, fun k hk ho => h.block k hk (fun o => ho (hs k hk o))⟩
theorem Only.of_below {own : Nat → Prop} {a b : World} (h : Below a.heap.size a b) : Only own a b := ⟨h.os, h.tape, h.output, h.size, fun k hk _ => h.block k hk⟩
theorem Only.below {own : Nat → Prop} {a b : World} (h : Only own a b) {B : Nat} (hB : B ≤ a.heap.size) (ho : ∀ k, own k → B ≤ k) : Below B a b := ⟨h.os, h.tape, h.output, h.size, fun k hk => h.block k (by omega) (fun o => by have := ho k o; omega)⟩
theorem Only.grown {own : Nat → Prop} {a b c : World} {row : Option Nat} (h : Only own a b) (hg : b.grownBy c row) (hr : ∀ k, row = some k → k < a.heap.size → own k) : Only own a c :=
  h.trans (own' := fun k => row = some k) ⟨hg.os, hg.tape, hg.output, hg.size, fun k hk hne => hg.block k hk (fun e => hne e.symm)⟩ (fun k hk e => hr k e hk)
theorem Only.setCell {own : Nat → Prop} {a b : World} (h : Only own a b) (p : Addr) (u : Value) (hp : p.block < a.heap.size → own p.block) : Only own a (b.setCell p u) :=
  h.grown (grown_setCell b p u) (fun k e hk => by cases e; exact hp hk)
theorem Only.alloc {own : Nat → Prop} {a b : World} (h : Only own a b) (o : Go.Obj) : Only own a (b.alloc o) := h.grown (World.grownBy_alloc b o none) (fun k e => by cases e)
theorem Only.drewN {own : Nat → Prop} {a b : World} (h : Only own a b) (n : Nat) : Only own a (b.drewN n) := ⟨h.os, h.tape, h.output, h.size, h.block⟩
theorem Only.drew {own : Nat → Prop} {a b : World} (h : Only own a b) : Only own a b.drew := ⟨h.os, h.tape, h.output, h.size, h.block⟩
/-- own, and the blocks that have come since -/
def ownNew (own : Nat → Prop) (w w' : World) : Nat → Prop := fun k => own k ∨ (w.heap.size ≤ k ∧ k < w'.heap.size)
theorem Flds.only {own : Nat → Prop} {w w' : World} {b : Nat} {T : TypeId} {fs : List Value} (h : Flds w b T fs) (ho : Only own w w') (hn : ¬ own b) : Flds w' b T fs := (ho.block b h.lt hn).trans h
theorem owns_only {own : Nat → Prop} {w w' : World} {B : Nat} {e : TypeId} {k : Nat} {v : Value} {n : Nat} {xs : List Value} (h : w.ownsRow B e k v n xs) (ho : Only own w w') (hn : ∀ g, v.ownBlock = some g → ¬ own g) : w'.ownsRow B e k v n xs := by
  obtain ⟨hl, h0 | ⟨g, cap, cur, rfl, hB, hg, r⟩⟩ := h
  · exact ⟨hl, .inl h0⟩
  · have hlt : g < w.heap.size := (Array.getElem?_eq_some_iff.1 hg).1
    exact ⟨hl, .inr ⟨g, cap, cur, rfl, hB, (ho.block g hlt (hn g rfl)).trans hg, r⟩⟩
theorem cell_only {own : Nat → Prop} {w w' : World} {a : Addr} {v : Value} (h : w.cell? a = some v) (ho : Only own w w') (hn : ¬ own a.block) : w'.cell? a = some v :=
  (World.cell?_of_block (ho.block a.block (World.block_lt_of_cell? w a h) hn)).trans h
/-- A row that lies at a known place. -/
theorem owns_shape {w : World} {B : Nat} {e : TypeId} {k : Nat} {v : Value} {n : Nat} {xs : List Value} (h : w.ownsRow B e k v n xs) : ∃ a cap, v = .slice a n cap := by
  rcases h.2 with ⟨rfl, rfl⟩ | ⟨g, cap, cur, rfl, _⟩
  · exact ⟨_, _, rfl⟩
  · exact ⟨_, _, rfl⟩
theorem owns_base {w : World} {B B' : Nat} {e : TypeId} {k : Nat} {v : Value} {n : Nat} {xs : List Value} (h : w.ownsRow B e k v n xs) (hB : ∀ g, v.ownBlock = some g → B' ≤ g) : w.ownsRow B' e k v n xs := by
  obtain ⟨hl, h0 | ⟨g, cap, cur, rfl, _, r⟩⟩ := h
  · exact ⟨hl, .inl h0⟩
  · exact ⟨hl, .inr ⟨g, cap, cur, rfl, hB g rfl, r⟩⟩
theorem owns_prefix {w : World} {B : Nat} {e : TypeId} {k : Nat} {a : Option Addr} {n cap m : Nat} {xs : List Value} (h : w.ownsRow B e k (.slice a n cap) n xs) (hm : m ≤ n) (hn : 0 < n) : w.ownsRow B e k (.slice a m cap) m (xs.take (m * k)) := by
  obtain ⟨hl, h0 | ⟨g, cap', cur, he, hB, hg, hnc, hcm, hcs, ht⟩⟩ := h
  · omega
  · simp only [Value.slice.injEq] at he
    obtain ⟨rfl, -, rfl⟩ := he
    have hmk : m * k ≤ n * k := Nat.mul_le_mul_right _ hm
    refine ⟨by rw [List.length_take]; omega, .inr ⟨g, cap, cur, rfl, hB, hg, by omega, hcm, hcs, ?_⟩⟩
    rw [← ht, List.take_take, Nat.min_eq_left hmk]
end Go.Proofs.Ytmbafcfoboknkaa
