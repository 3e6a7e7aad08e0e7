/- The list of stamps of which none was deleted: the stamps' numbers, their order. No walk but Less, Len. -/
import Derived.Test.YtbaepjjanjhliaaOrderK
import Derived.Test.YtbaepjjanjhliaaOrderG
namespace Go.Proofs.Ytbaepjjanjhliaa.ord
set_option linter.unusedVariables false
open Go.RowKit arK

theorem alloc_fresh {s s1 : Ar Lk} (hf : s.fr = []) {x : Lk} {n : Int} (e : s.alloc x = (s1, n, true)) : n = (s.sl.length : Int) ∧ s1.fr = [] ∧ s1.sl.length = s.sl.length + 1 ∧ s1.room = s.room := by
  unfold Ar.alloc at e
  by_cases h : s.room ≤ s.live
  · rw [if_pos h] at e; simp at e
  · rw [if_neg h, hf] at e
    simp only [List.getLast?_nil, Prod.mk.injEq] at e
    obtain ⟨rfl, rfl, -⟩ := e
    exact ⟨rfl, rfl, by simp, rfl⟩
theorem tag_mono {s : Ar Lk} {L : List Int} (h : Ok s L) : ∀ (q p : Nat) (i j : Int), L[p]? = some i → L[q]? = some j → p < q → (getAt s i).t < (getAt s j).t
  | 0, p, i, j, hp, hq, hpq => by omega
  | q + 1, p, i, j, hp, hq, hpq => by
    have hl := (List.getElem?_eq_some_iff.1 hq).1
    have hk : L[q]? = some L[q] := List.getElem?_eq_getElem (by omega)
    have h1 := h.tag q _ j hk hq
    by_cases e : p = q
    · subst e; rw [hp] at hk; cases hk; exact h1
    · exact Int.lt_trans (tag_mono h q p i _ hp hk (by omega)) h1
theorem less_pos {s : Ar Lk} {L : List Int} (h : Ok s L) {p q : Nat} {i j : Int} (hp : L[p]? = some i) (hq : L[q]? = some j) : lessF s i j = decide (p < q) := by
  unfold lessF
  rw [h.hasAt hp, h.hasAt hq, Bool.true_and, Bool.true_and, decide_eq_decide]
  constructor
  · intro ht
    by_cases e : p = q
    · subst e; rw [hp] at hq; cases hq; omega
    · by_cases l : q < p
      · have := tag_mono h p q j i hq hp l; omega
      · omega
  · exact tag_mono h q p i j hp hq
/-- the list L at block bl, made since w0; no stamp was deleted; the blocks F are none of its own -/
def TI (F : Nat → Prop) (w0 : World) (bl b : Nat) (L : List Int) (w : World) : Prop :=
  ∃ s own, LI own bl b s w ∧ (∀ k, own k → w0.heap.size ≤ k) ∧ w0.heap.size ≤ bl ∧ Below w0.heap.size w0 w ∧ (∀ g, F g → g < w.heap.size ∧ ¬ own g) ∧ Ok s L ∧ s.room = 1048576 ∧ s.fr = [] ∧ s.sl.length = L.length
section
variable {F : Nat → Prop} {w0 v w w' : World} {bl b : Nat} {L : List Int}
theorem TI.later (h : TI F w0 bl b L w) (hb : Below w.heap.size w w') : TI F w0 bl b L w' := by
  obtain ⟨s, own, h1, h2, h3, h4, h5, h6⟩ := h
  exact ⟨s, own, h1.later hb, h2, h3, after h4 hb h4.size, fun g hg => ⟨Nat.lt_of_lt_of_le (h5 g hg).1 hb.size, (h5 g hg).2⟩, h6⟩
/-- blocks that came since are none of its own -/
theorem TI.adopt (h : TI F w0 bl b L w) (hb : Below w.heap.size w w') : TI (fun g => F g ∨ (w.heap.size ≤ g ∧ g < w'.heap.size)) w0 bl b L w' := by
  obtain ⟨s, own, h1, h2, h3, h4, h5, h6⟩ := h
  exact ⟨s, own, h1.later hb, h2, h3, after h4 hb h4.size, fun g hg => hg.elim (fun hg => ⟨Nat.lt_of_lt_of_le (h5 g hg).1 hb.size, (h5 g hg).2⟩) (fun hg => ⟨hg.2, fun ho => by have := h1.is.lt g ho; omega⟩), h6⟩
theorem TI.fewer (h : TI F w0 bl b L w) {F' : Nat → Prop} (hs : ∀ g, F' g → F g) : TI F' w0 bl b L w := by
  obtain ⟨s, own, h1, h2, h3, h4, h5, h6⟩ := h
  exact ⟨s, own, h1, h2, h3, h4, fun g hg => h5 g (hs g hg), h6⟩
theorem TI.below (h : TI F w0 bl b L w) : Below w0.heap.size w0 w := by
  obtain ⟨s, own, h1, h2, h3, h4, -⟩ := h
  exact h4
theorem TI.ge (h : TI F w0 bl b L w) : w0.heap.size ≤ bl ∧ bl < w.heap.size := by
  obtain ⟨s, own, h1, h2, h3, h4, -⟩ := h
  exact ⟨h3, h1.lt⟩
theorem TI.head (h : TI F w0 bl b L w) : L[0]? = some 0 := by
  obtain ⟨s, own, -, -, -, -, -, h, -⟩ := h
  exact h.head
theorem TI.less (h : TI F w0 bl b L w) {p q : Nat} {i j : Int} (hp : L[p]? = some i) (hq : L[q]? = some j) :
    Calls Try.prog 28 #[.pointer (some ⟨bl, 0, none⟩), .int .i64 i, .int .i64 j] w fun e w' => e = .returned (.bool (decide (p < q))) ∧ Below w.heap.size w w' := by
  obtain ⟨s, own, h1, -, -, -, -, h2, -⟩ := h
  have := less_l h1 i j
  rw [less_pos h2 hp hq] at this
  exact this
theorem TI.len (h : TI F w0 bl b L w) :
    Calls Try.prog 32 #[.pointer (some ⟨bl, 0, none⟩)] w fun e w' => e = .returned (.int .i64 (L.length : Int)) ∧ Below w.heap.size w w' := by
  obtain ⟨s, own, h1, -, -, -, -, h2, -, h3, h4⟩ := h
  have := len_l h1
  have e : s.live = (L.length : Int) := by unfold Ar.live; rw [h3, h4]; simp
  rw [e] at this
  exact this
theorem TI.all (h : TI F w0 bl b L v) (hb : Below v.heap.size v w) (P : Nat → Prop) (hP : ∀ k, P k → v.heap.size ≤ k) (n : Nat) (hn : 1 ≤ n) (Bs : Nat) (hPB : ¬ P Bs) (hBs : w.cell? ⟨Bs, 0, none⟩ = some (.pointer (some ⟨bl, 0, none⟩))) :
    SeqIdx Fence.wide n Try.prog 58 #[.pointer (some ⟨Bs, 0, none⟩)] (allArgs L) (Only P) L.length w := by
  obtain ⟨s, own, h1, -, -, -, -, h2, -⟩ := h
  exact all_idx n hn Bs own bl b s L h2 w hBs (h1.later hb) P (fun k hk hp => by have := h1.is.lt k hk; have := hP k hp; omega) (fun hp => by have := h1.lt; have := hP _ hp; omega) hPB
theorem TI.new (w : World) : Calls Try.prog 23 #[] w fun e w' => ∃ bl b, e = .returned (.pointer (some ⟨bl, 0, none⟩)) ∧ TI (fun _ => False) w bl b [0] w' := by
  refine (new_l w).mono ?_
  rintro e w' ⟨bl, b, rfl, own, h1, h2, h3, h4⟩
  exact ⟨bl, b, rfl, s0, own, h1, h2, h3, h4, fun g hg => hg.elim, ok0, rfl, rfl, rfl⟩
end
end Go.Proofs.Ytbaepjjanjhliaa.ord
