/- The list of stamps: what always holds; tags laid anew keep it. No walk. -/
import Derived.Test.YtbaepjjanjhliaaOrderL
namespace Go.Proofs.Ytbaepjjanjhliaa.ord
set_option linter.unusedVariables false
open Go.RowKit arK

/-- the arena s holds the stamps L, in this order -/
structure Ok (s : Ar Lk) (L : List Int) : Prop where
  head : L[0]? = some 0
  nodup : L.Nodup
  has : ∀ i, s.has i = true ↔ i ∈ L
  nx : ∀ (k : Nat) (i : Int), L[k]? = some i → (getAt s i).n = (L[k + 1]?).getD (-1)
  pv : ∀ (k : Nat) (i : Int), L[k]? = some i → (getAt s i).p = if k = 0 then -1 else (L[k - 1]?).getD (-1)
  tag : ∀ (k : Nat) (i j : Int), L[k]? = some i → L[k + 1]? = some j → (getAt s i).t < (getAt s j).t
  bd : ∀ i ∈ L, 0 ≤ (getAt s i).t ∧ (getAt s i).t < 4611686018427387904
theorem Ok.hasAt {s : Ar Lk} {L : List Int} (h : Ok s L) {k : Nat} {i : Int} (hk : L[k]? = some i) : s.has i = true := (h.has i).2 (List.mem_of_getElem? hk)
theorem Ok.pos {s : Ar Lk} {L : List Int} (h : Ok s L) {i : Int} (hi : i ∈ L) : 0 ≤ i := has_nat ((h.has i).2 hi)
/-- a piece of the list -/
def sub (L : List Int) (f l : Nat) : List Int := (L.drop f).take (l + 1 - f)
theorem sub_get {L : List Int} {f l k : Nat} (hk : k < l + 1 - f) : (sub L f l)[k]? = L[f + k]? := by
  unfold sub; rw [List.getElem?_take_of_lt hk, List.getElem?_drop]
theorem sub_len {L : List Int} {f l : Nat} (hl : l < L.length) : (sub L f l).length = l + 1 - f := by
  unfold sub; rw [List.length_take, List.length_drop]; omega
theorem sub_mem {L : List Int} {f l : Nat} {i : Int} (h : i ∈ sub L f l) : i ∈ L := List.mem_of_mem_drop (List.mem_of_mem_take h)
theorem sub_nodup {L : List Int} (f l : Nat) (h : L.Nodup) : (sub L f l).Nodup := (h.sublist (List.drop_sublist f L)).sublist (List.take_sublist _ _)
theorem sub_chain {s : Ar Lk} {L : List Int} (h : Ok s L) {f l : Nat} (hl : l < L.length) : Chain s (sub L f l) := by
  have hlen := sub_len (f := f) hl
  refine ⟨fun k i hk => (h.has i).2 (sub_mem (List.mem_of_getElem? hk)), fun k i j hk hk1 => ?_, sub_nodup f l h.nodup⟩
  have h1 := (List.getElem?_eq_some_iff.1 hk1).1
  rw [sub_get (by omega)] at hk hk1
  rw [h.nx _ _ hk, Nat.add_assoc, hk1]; rfl
theorem idx_inj {L : List Int} (h : L.Nodup) {a b : Nat} {i : Int} (ha : L[a]? = some i) (hb : L[b]? = some i) : a = b :=
  (List.getElem?_inj (List.getElem?_eq_some_iff.1 ha).1 h).1 (ha.trans hb.symm)
/-- a stamp of the piece, by its place in the whole list -/
theorem mem_sub {L : List Int} {f l k : Nat} {i : Int} (hk : L[k]? = some i) (h1 : f ≤ k) (h2 : k ≤ l) : i ∈ sub L f l := by
  refine List.mem_of_getElem? (i := k - f) ?_
  rw [sub_get (by omega), show f + (k - f) = k by omega]; exact hk
theorem not_sub {L : List Int} (hn : L.Nodup) {f l k : Nat} {i : Int} (hl : l < L.length) (hk : L[k]? = some i) (h : k < f ∨ l < k) : i ∉ sub L f l := fun hm => by
  obtain ⟨j, hj⟩ := List.getElem?_of_mem hm
  have hlt := (List.getElem?_eq_some_iff.1 hj).1
  rw [sub_len hl] at hlt
  rw [sub_get hlt] at hj
  have := idx_inj hn hj hk
  omega
section
variable {s : Ar Lk} {L : List Int} {f l : Nat} {low d : Int}
/-- what is at a stamp once tags are laid along a piece -/
theorem lay_in (h : Ok s L) (hl : l < L.length) {k : Nat} {i : Int} (hk : L[k]? = some i) (h1 : f ≤ k) (h2 : k ≤ l) : getAt (layL s (sub L f l) low d) i = { getAt s i with t := low + ((k - f : Nat) : Int) * d } :=
  layL_at _ _ _ _ (fun j hj => (h.has j).2 (sub_mem hj)) (sub_nodup f l h.nodup) (k - f) i (by rw [sub_get (by omega), show f + (k - f) = k by omega]; exact hk)
theorem lay_out (h : Ok s L) (hl : l < L.length) {k : Nat} {i : Int} (hk : L[k]? = some i) (h1 : k < f ∨ l < k) : getAt (layL s (sub L f l) low d) i = getAt s i :=
  layL_get _ _ _ _ (fun j hj => (h.has j).2 (sub_mem hj)) i (not_sub h.nodup hl hk h1)
theorem lay_np (h : Ok s L) (hl : l < L.length) {k : Nat} {i : Int} (hk : L[k]? = some i) : (getAt (layL s (sub L f l) low d) i).n = (getAt s i).n ∧ (getAt (layL s (sub L f l) low d) i).p = (getAt s i).p := by
  by_cases h1 : f ≤ k ∧ k ≤ l
  · rw [lay_in h hl hk h1.1 h1.2]; exact ⟨rfl, rfl⟩
  · rw [lay_out h hl hk (by omega)]; exact ⟨rfl, rfl⟩
theorem mul_lt {a b : Nat} {d : Int} (hd : 0 < d) (h : a < b) : (a : Int) * d + d ≤ (b : Int) * d := by
  have : ((a + 1 : Nat) : Int) * d ≤ (b : Int) * d := Int.mul_le_mul_of_nonneg_right (by omega) (by omega)
  rw [show ((a + 1 : Nat) : Int) = (a : Int) + 1 by omega, Int.add_mul, Int.one_mul] at this
  exact this
/-- TAGS LAID ALONG A PIECE KEEP WHAT ALWAYS HOLDS, and there is room behind each of its stamps. -/
theorem spread_ok (h : Ok s L) (hf : f ≤ l) (hl : l < L.length) {size : Int} (h0 : 0 ≤ low) (hd : 2 ≤ d) (hs : ((l + 1 - f : Nat) : Int) * d ≤ size) (htop : low + size ≤ 4611686018427387904)
    (hbef : ∀ j, f ≠ 0 → L[f - 1]? = some j → (getAt s j).t < low) (hbeh : ∀ j, L[l + 1]? = some j → low + size ≤ (getAt s j).t) :
    Ok (layL s (sub L f l) low d) L ∧ ∀ (p : Nat) (i : Int), f ≤ p → p ≤ l → L[p]? = some i → 2 ≤ gapF (layL s (sub L f l) low d) i := by
  have hall : ∀ j ∈ sub L f l, s.has j = true := fun j hj => (h.has j).2 (sub_mem hj)
  have hin : ∀ {k : Nat}, f ≤ k → k ≤ l → 0 ≤ ((k - f : Nat) : Int) * d ∧ low + ((k - f : Nat) : Int) * d + d ≤ low + size := fun {k} h1 h2 => by
    have a := Int.mul_nonneg (a := ((k - f : Nat) : Int)) (b := d) (by omega) (by omega)
    have b := mul_lt (a := k - f) (b := l + 1 - f) (d := d) (by omega) (by omega)
    omega
  have htag : ∀ (k : Nat) (i j : Int), L[k]? = some i → L[k + 1]? = some j → (getAt (layL s (sub L f l) low d) i).t < (getAt (layL s (sub L f l) low d) j).t ∧ (f ≤ k → k ≤ l → (getAt (layL s (sub L f l) low d) i).t + 2 ≤ (getAt (layL s (sub L f l) low d) j).t) := by
    intro k i j hk hk1
    have ht := h.tag k i j hk hk1
    by_cases a : f ≤ k ∧ k ≤ l
    · have hi := hin a.1 a.2
      rw [lay_in h hl hk a.1 a.2]
      by_cases b : k + 1 ≤ l
      · rw [lay_in h hl hk1 (by omega) b]
        have e := mul_lt (a := k - f) (b := k + 1 - f) (d := d) (by omega) (by omega)
        dsimp only
        constructor
        · omega
        · intro _ _; omega
      · have hkl : k = l := by omega
        subst hkl
        rw [lay_out h hl hk1 (by omega)]
        have hb := hbeh j hk1
        dsimp only
        constructor
        · omega
        · intro _ _; omega
    · refine ⟨?_, fun a1 a2 => absurd ⟨a1, a2⟩ a⟩
      rw [lay_out h hl hk (by omega)]
      by_cases b : f ≤ k + 1 ∧ k + 1 ≤ l
      · have hkf : k + 1 = f := by omega
        rw [lay_in h hl hk1 b.1 b.2]
        have hb := hbef i (by omega) (by rw [← hkf]; exact hk)
        have hi := hin b.1 b.2
        dsimp only
        omega
      · rw [lay_out h hl hk1 (by omega)]; exact ht
  have hbd : ∀ i ∈ L, 0 ≤ (getAt (layL s (sub L f l) low d) i).t ∧ (getAt (layL s (sub L f l) low d) i).t < 4611686018427387904 := by
    intro i hi
    obtain ⟨k, hk⟩ := List.getElem?_of_mem hi
    by_cases a : f ≤ k ∧ k ≤ l
    · have := hin a.1 a.2
      rw [lay_in h hl hk a.1 a.2]; dsimp only; omega
    · rw [lay_out h hl hk (by omega)]; exact h.bd i hi
  refine ⟨⟨h.head, h.nodup, fun i => by rw [layL_has _ _ _ _ hall]; exact h.has i, fun k i hk => by rw [(lay_np h hl hk).1]; exact h.nx k i hk, fun k i hk => by rw [(lay_np h hl hk).2]; exact h.pv k i hk, fun k i j hk hk1 => (htag k i j hk hk1).1, hbd⟩, fun p i h1 h2 hp => ?_⟩
  unfold gapF
  have hn : (getAt (layL s (sub L f l) low d) i).n = (L[p + 1]?).getD (-1) := by rw [(lay_np h hl hp).1]; exact h.nx p i hp
  rw [hn]
  cases hq : L[p + 1]? with
  | none =>
    rw [Option.getD_none, if_pos rfl]
    have := hin h1 h2
    rw [lay_in h hl hp h1 h2]; dsimp only; omega
  | some j =>
    rw [Option.getD_some]
    have hj := h.pos (List.mem_of_getElem? hq)
    rw [if_neg (by omega)]
    have := (htag p i j hp hq).2 h1 h2
    omega
end
/-- what an arena's numbers hang on -/
structure Same (s s' : Ar Lk) : Prop where
  room : s'.room = s.room
  fr : s'.fr = s.fr
  len : s'.sl.length = s.sl.length
theorem Same.refl (s : Ar Lk) : Same s s := ⟨rfl, rfl, rfl⟩
theorem Same.put (s : Ar Lk) (i : Int) (x : Lk) : Same s (s.put i x) := ⟨rfl, rfl, by simp [Ar.put]⟩
theorem Same.trans {a b c : Ar Lk} (h : Same a b) (k : Same b c) : Same a c := ⟨k.room.trans h.room, k.fr.trans h.fr, k.len.trans h.len⟩
theorem Same.lay : ∀ (is : List Int) (s : Ar Lk) (v d : Int), Same s (layL s is v d)
  | [], s, v, d => .refl s
  | i :: is, s, v, d => (Same.put s i _).trans (Same.lay is _ _ _)
end Go.Proofs.Ytbaepjjanjhliaa.ord
