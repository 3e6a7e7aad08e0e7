/- A heap of numbers as plain mathematics: a number moved up, moved down; the least one. No program. -/
import Derived.WalkKit
namespace Go.Proofs.Ytbaepjjanjhliaa.drt
set_option linter.unusedVariables false

/-- the key of the number at a place -/
def g (ky : Int → Int) (b : List Int) (k : Nat) : Int := ky (b.getD k 0)
/-- none is less than the one at half its place -/
def Heap (ky : Int → Int) (b : List Int) : Prop := ∀ k, 0 < k → k < b.length → g ky b ((k - 1) / 2) ≤ g ky b k
/-- all but what meets place i; whatever lies behind i is no less than what lies ahead of it -/
structure Gap (ky : Int → Int) (b : List Int) (i : Nat) : Prop where
  lt : i < b.length
  far : ∀ k, 0 < k → k < b.length → k ≠ i → (k - 1) / 2 ≠ i → g ky b ((k - 1) / 2) ≤ g ky b k
  gp : ∀ k, 0 < k → k < b.length → (k - 1) / 2 = i → 0 < i → g ky b ((i - 1) / 2) ≤ g ky b k
/-- all but the edge up from i -/
structure Up (ky : Int → Int) (b : List Int) (i : Nat) : Prop extends Gap ky b i where
  dn : ∀ k, 0 < k → k < b.length → (k - 1) / 2 = i → g ky b i ≤ g ky b k
/-- all but the edges down from i -/
structure Dn (ky : Int → Int) (b : List Int) (i : Nat) : Prop extends Gap ky b i where
  up : 0 < i → g ky b ((i - 1) / 2) ≤ g ky b i

/-- what lay at place p moves to i, and n to p -/
def mv (b : List Int) (i p : Nat) (n : Int) : List Int := (b.set i (b.getD p 0)).set p n
theorem mv_len (b : List Int) (i p : Nat) (n : Int) : (mv b i p n).length = b.length := by simp [mv]
theorem mv_get {b : List Int} {i p : Nat} (n : Int) (hi : i < b.length) (hp : p < b.length) (hne : i ≠ p) (k : Nat) : (mv b i p n)[k]? = if k = p then some n else if k = i then b[p]? else b[k]? := by
  unfold mv
  by_cases h1 : k = p
  · subst h1; rw [List.getElem?_set_self (by simpa using hp), if_pos rfl]
  · rw [List.getElem?_set_ne (fun e => h1 e.symm), if_neg h1]
    by_cases h2 : k = i
    · subst h2; rw [List.getElem?_set_self hi, if_pos rfl, List.getD_eq_getElem?_getD, List.getElem?_eq_getElem hp]; rfl
    · rw [List.getElem?_set_ne (fun e => h2 e.symm), if_neg h2]
theorem mv_g {ky : Int → Int} {b : List Int} {i p : Nat} (n : Int) (hi : i < b.length) (hp : p < b.length) (hne : i ≠ p) (k : Nat) : g ky (mv b i p n) k = if k = p then ky n else if k = i then g ky b p else g ky b k := by
  unfold g
  rw [List.getD_eq_getElem?_getD, mv_get n hi hp hne]
  split
  · rfl
  · split
    · rw [List.getD_eq_getElem?_getD]
    · rw [List.getD_eq_getElem?_getD]
/-- a swap is only another order -/
theorem mv_perm {b : List Int} {i p : Nat} {n : Int} (hi : b[i]? = some n) (hp : p < b.length) : (mv b i p n).Perm b := by
  obtain ⟨hl, e⟩ := List.getElem?_eq_some_iff.1 hi
  have h := Array.swap_perm (xs := b.toArray) (i := i) (j := p) (by simpa using hl) (by simpa using hp)
  have h2 := Array.perm_iff_toList_perm.1 h
  have e2 : (b.toArray.swap i p (by simpa using hl) (by simpa using hp)).toList = mv b i p n := by
    unfold mv
    rw [Array.toList_swap]
    simp only [List.getElem_toArray, List.getD_eq_getElem?_getD, List.getElem?_eq_getElem hp, Option.getD_some, e]
  rw [e2] at h2
  exact h2
section
variable {ky : Int → Int} {b : List Int} {i : Nat} {n : Int}
theorem g_at (h : b[i]? = some n) : g ky b i = ky n := by unfold g; rw [List.getD_eq_getElem?_getD, h]; rfl
/-- ONE STEP UP. -/
theorem up_step (h : Gap ky b i) (hn : b[i]? = some n) (h0 : 0 < i) (hlt : ky n < g ky b ((i - 1) / 2)) : Up ky (mv b i ((i - 1) / 2) n) ((i - 1) / 2) := by
  have hil := h.lt
  have hpl : (i - 1) / 2 < b.length := by omega
  have hne : i ≠ (i - 1) / 2 := by omega
  have e := mv_g (ky := ky) n hil hpl hne
  have hdn : ∀ k, 0 < k → k < (mv b i ((i - 1) / 2) n).length → (k - 1) / 2 = (i - 1) / 2 → ky n ≤ g ky (mv b i ((i - 1) / 2) n) k := by
    intro k k0 kl kp
    rw [mv_len] at kl
    rw [e, if_neg (by omega)]
    split
    · omega
    · have := h.far k k0 kl (by assumption) (by omega)
      rw [kp] at this; omega
  refine ⟨⟨by rw [mv_len]; exact hpl, ?_, ?_⟩, ?_⟩
  · intro k k0 kl k1 k2
    rw [mv_len] at kl
    rw [e, e, if_neg k2, if_neg k1]
    by_cases q : (k - 1) / 2 = i
    · rw [if_pos q, if_neg (by omega)]; exact h.gp k k0 kl q h0
    · rw [if_neg q, if_neg (by omega)]; exact h.far k k0 kl (by omega) q
  · intro k k0 kl k1 k2
    rw [mv_len] at kl
    have hu := h.far ((i - 1) / 2) k2 hpl (by omega) (by omega)
    rw [e, e, if_neg (by omega), if_neg (by omega), if_neg (by omega)]
    split
    · exact hu
    · have := h.far k k0 kl (by assumption) (by omega)
      rw [k1] at this; omega
  · intro k k0 kl k1
    rw [e, if_pos rfl]
    exact hdn k k0 kl k1
theorem up_end (h : Up ky b i) (hge : 0 < i → g ky b ((i - 1) / 2) ≤ g ky b i) : Heap ky b := by
  intro k k0 kl
  by_cases q : k = i
  · subst q; exact hge k0
  · by_cases q2 : (k - 1) / 2 = i
    · rw [q2]; exact h.dn k k0 kl q2
    · exact h.far k k0 kl q q2
theorem gap_dn (h : Gap ky b i) (hge : 0 < i → g ky b ((i - 1) / 2) ≤ g ky b i) : Dn ky b i := ⟨h, hge⟩
/-- ONE STEP DOWN. -/
theorem dn_step (h : Dn ky b i) (hn : b[i]? = some n) {c : Nat} (hc : c < b.length) (hp : (c - 1) / 2 = i) (hc0 : 0 < c) (hlt : g ky b c < ky n) (hle : ∀ k, 0 < k → k < b.length → (k - 1) / 2 = i → g ky b c ≤ g ky b k) : Dn ky (mv b i c n) c := by
  have hil := h.lt
  have hne : i ≠ c := by omega
  have e := mv_g (ky := ky) n hil hc hne
  have hgi := g_at (ky := ky) hn
  refine ⟨⟨by rw [mv_len]; exact hc, ?_, ?_⟩, ?_⟩
  · intro k k0 kl k1 k2
    rw [mv_len] at kl
    rw [e, e, if_neg k2, if_neg k1]
    by_cases q : (k - 1) / 2 = i
    · rw [if_pos q, if_neg (by omega)]; exact hle k k0 kl q
    · rw [if_neg q]
      by_cases q2 : k = i
      · subst q2
        rw [if_pos rfl]
        exact h.gp c hc0 hc hp k0
      · rw [if_neg q2]; exact h.far k k0 kl q2 q
  · intro k k0 kl k1 k2
    rw [mv_len] at kl
    rw [e, e, hp, if_neg hne, if_pos rfl, if_neg (by omega), if_neg (by omega)]
    have := h.far k k0 kl (by omega) (by omega)
    rw [k1] at this; exact this
  · intro _
    rw [e, e, hp, if_neg hne, if_pos rfl, if_pos rfl]
    omega
theorem dn_end (h : Dn ky b i) (hge : ∀ k, 0 < k → k < b.length → (k - 1) / 2 = i → g ky b i ≤ g ky b k) : Heap ky b := by
  intro k k0 kl
  by_cases q : k = i
  · subst q; exact h.up k0
  · by_cases q2 : (k - 1) / 2 = i
    · rw [q2]; exact hge k k0 kl q2
    · exact h.far k k0 kl q q2
/-- THE LEAST ONE COMES FIRST. -/
theorem Heap.least (h : Heap ky b) : ∀ k, k < b.length → g ky b 0 ≤ g ky b k := by
  intro k
  induction k using Nat.strongRecOn with
  | ind k ih =>
    intro hk
    by_cases h0 : k = 0
    · subst h0; exact Int.le_refl _
    · have := ih ((k - 1) / 2) (by omega) (by omega)
      have := h k (by omega) hk
      omega
theorem Heap.least_mem (h : Heap ky b) {m x : Int} (hm : b[0]? = some m) (hx : x ∈ b) : ky m ≤ ky x := by
  obtain ⟨k, hk⟩ := List.getElem?_of_mem hx
  have := h.least k (List.getElem?_eq_some_iff.1 hk).1
  rwa [g_at hm, g_at hk] at this
/-- a number put at the end -/
theorem snoc_up (h : Heap ky b) (n : Int) : Up ky (b ++ [n]) b.length := by
  have e : ∀ k, k < b.length → g ky (b ++ [n]) k = g ky b k := fun k hk => by unfold g; rw [List.getD_eq_getElem?_getD, List.getD_eq_getElem?_getD, List.getElem?_append_left hk]
  refine ⟨⟨by simp, ?_, ?_⟩, ?_⟩
  · intro k k0 kl k1 k2
    rw [List.length_append, List.length_singleton] at kl
    rw [e _ (by omega), e _ (by omega)]; exact h k k0 (by omega)
  · intro k k0 kl k1 k2
    rw [List.length_append, List.length_singleton] at kl
    omega
  · intro k k0 kl k1
    rw [List.length_append, List.length_singleton] at kl
    omega
/-- the last one put at another place -/
theorem cut_gap (h : Heap ky b) (hl : i + 1 < b.length) (n : Int) : Gap ky ((b.take (b.length - 1)).set i n) i := by
  have hlen : ((b.take (b.length - 1)).set i n).length = b.length - 1 := by rw [List.length_set, List.length_take]; omega
  have e : ∀ k, k < b.length - 1 → k ≠ i → g ky ((b.take (b.length - 1)).set i n) k = g ky b k := fun k hk hne => by
    unfold g; rw [List.getD_eq_getElem?_getD, List.getD_eq_getElem?_getD, List.getElem?_set_ne (fun q => hne q.symm), List.getElem?_take_of_lt hk]
  refine ⟨by rw [hlen]; omega, ?_, ?_⟩
  · intro k k0 kl k1 k2
    rw [hlen] at kl
    rw [e _ (by omega) k2, e _ kl k1]; exact h k k0 (by omega)
  · intro k k0 kl k1 k2
    rw [hlen] at kl
    rw [e _ (by omega) (by omega), e _ kl (by omega)]
    have h1 := h k k0 (by omega)
    rw [k1] at h1
    have h2 := h i k2 (by omega)
    omega
theorem take_heap (h : Heap ky b) (m : Nat) : Heap ky (b.take m) := by
  intro k k0 kl
  have hk : k < m ∧ k < b.length := by rw [List.length_take] at kl; omega
  have e : ∀ j, j ≤ k → g ky (b.take m) j = g ky b j := fun j hj => by
    unfold g; rw [List.getD_eq_getElem?_getD, List.getD_eq_getElem?_getD, List.getElem?_take_of_lt (by omega)]
  rw [e _ (by omega), e _ (Nat.le_refl _)]; exact h k k0 hk.2
end
end Go.Proofs.Ytbaepjjanjhliaa.drt
