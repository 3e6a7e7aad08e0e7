/- The list of stamps: a stamp put in, a stamp taken out. No walk. -/
import Derived.Test.YtbaepjjanjhliaaOrderP
namespace Go.Proofs.Ytbaepjjanjhliaa.ord
set_option linter.unusedVariables false
open Go.RowKit arK

/-- a stamp right behind a place -/
def ins (L : List Int) (p : Nat) (n : Int) : List Int := L.take (p + 1) ++ n :: L.drop (p + 1)
section
variable {L : List Int} {p : Nat} {n : Int}
theorem ins_lt (hp : p < L.length) {k : Nat} (hk : k ≤ p) : (ins L p n)[k]? = L[k]? := by
  unfold ins
  rw [List.getElem?_append_left (by rw [List.length_take]; omega), List.getElem?_take_of_lt (by omega)]
theorem ins_at (hp : p < L.length) : (ins L p n)[p + 1]? = some n := by
  unfold ins
  rw [List.getElem?_append_right (by rw [List.length_take]; omega), List.length_take, show p + 1 - min (p + 1) L.length = 0 by omega]; rfl
theorem ins_gt (hp : p < L.length) {k : Nat} (hk : p + 1 ≤ k) : (ins L p n)[k + 1]? = L[k]? := by
  unfold ins
  rw [List.getElem?_append_right (by rw [List.length_take]; omega), List.length_take, show k + 1 - min (p + 1) L.length = (k - (p + 1)) + 1 by omega, List.getElem?_cons_succ, List.getElem?_drop, show p + 1 + (k - (p + 1)) = k by omega]
theorem ins_perm : (ins L p n).Perm (n :: L) := by
  unfold ins
  have := List.perm_middle (a := n) (l₁ := L.take (p + 1)) (l₂ := L.drop (p + 1))
  rwa [List.take_append_drop] at this
theorem ins_mem {j : Int} : j ∈ ins L p n ↔ j = n ∨ j ∈ L := by rw [ins_perm.mem_iff, List.mem_cons]
theorem ins_len : (ins L p n).length = L.length + 1 := by rw [ins_perm.length_eq, List.length_cons]
end
/-- A STAMP PUT IN keeps what always holds. -/
theorem insert_ok {s s3 : Ar Lk} {L : List Int} (h : Ok s L) {p : Nat} {i n t : Int} (hp : L[p]? = some i) (hn : n ∉ L) (hh : ∀ j, s3.has j = true ↔ j = n ∨ s.has j = true)
    (gn : getAt s3 n = ⟨i, (L[p + 1]?).getD (-1), t⟩) (gi : getAt s3 i = { getAt s i with n := n }) (gx : ∀ j, L[p + 1]? = some j → getAt s3 j = { getAt s j with p := n })
    (go : ∀ j, j ∈ L → j ≠ i → L[p + 1]? ≠ some j → getAt s3 j = getAt s j) (ht : (getAt s i).t < t) (ht2 : ∀ j, L[p + 1]? = some j → t < (getAt s j).t) (tb : t < 4611686018427387904) : Ok s3 (ins L p n) := by
  have hpl := (List.getElem?_eq_some_iff.1 hp).1
  have inj : ∀ {a b : Nat} {j : Int}, L[a]? = some j → L[b]? = some j → a = b := fun ha hb => idx_inj h.nodup ha hb
  -- what is at a stamp that was there, by its place
  have gl : ∀ (k : Nat) (j : Int), L[k]? = some j → k ≠ p → k ≠ p + 1 → getAt s3 j = getAt s j := fun k j hk h1 h2 =>
    go j (List.mem_of_getElem? hk) (fun e => h1 (inj hk (e ▸ hp))) (fun e => h2 (inj hk e))
  have gt : ∀ (k : Nat) (j : Int), L[k]? = some j → (getAt s3 j).t = (getAt s j).t := fun k j hk => by
    by_cases e1 : k = p
    · subst e1; rw [hp] at hk; cases hk; rw [gi]
    · by_cases e2 : k = p + 1
      · subst e2; rw [gx j hk]
      · rw [gl k j hk e1 e2]
  have gnn : ∀ (k : Nat) (j : Int), L[k]? = some j → k ≠ p → (getAt s3 j).n = (getAt s j).n := fun k j hk e1 => by
    by_cases e2 : k = p + 1
    · subst e2; rw [gx j hk]
    · rw [gl k j hk e1 e2]
  have gpp : ∀ (k : Nat) (j : Int), L[k]? = some j → k ≠ p + 1 → (getAt s3 j).p = (getAt s j).p := fun k j hk e2 => by
    by_cases e1 : k = p
    · subst e1; rw [hp] at hk; cases hk; rw [gi]
    · rw [gl k j hk e1 e2]
  -- a place of the new list
  have cs : ∀ (k : Nat) (j : Int), (ins L p n)[k]? = some j → (k ≤ p ∧ L[k]? = some j) ∨ (k = p + 1 ∧ j = n) ∨ (∃ m, k = m + 1 ∧ p + 1 ≤ m ∧ L[m]? = some j) := fun k j hk => by
    by_cases h1 : k ≤ p
    · rw [ins_lt hpl h1] at hk; exact .inl ⟨h1, hk⟩
    · by_cases h2 : k = p + 1
      · subst h2; rw [ins_at hpl] at hk; exact .inr (.inl ⟨rfl, (Option.some.inj hk).symm⟩)
      · refine .inr (.inr ⟨k - 1, by omega, by omega, ?_⟩)
        rw [show k = (k - 1) + 1 by omega, ins_gt hpl (by omega)] at hk
        exact hk
  refine ⟨by rw [ins_lt hpl (Nat.zero_le _)]; exact h.head, ins_perm.nodup_iff.2 (List.nodup_cons.2 ⟨hn, h.nodup⟩), fun j => by rw [hh, ins_mem, h.has], ?_, ?_, ?_, ?_⟩
  · intro k j hk
    rcases cs k j hk with ⟨h1, hk'⟩ | ⟨rfl, rfl⟩ | ⟨m, rfl, h1, hk'⟩
    · by_cases e : k = p
      · subst e
        rw [hp] at hk'; cases hk'
        rw [gi, ins_at hpl]; rfl
      · rw [gnn k j hk' e, h.nx k j hk', ins_lt hpl (by omega)]
    · rw [gn, ins_gt hpl (Nat.le_refl _)]
    · rw [gnn m j hk' (by omega), h.nx m j hk', ins_gt hpl (by omega)]
  · intro k j hk
    rcases cs k j hk with ⟨h1, hk'⟩ | ⟨rfl, rfl⟩ | ⟨m, rfl, h1, hk'⟩
    · rw [gpp k j hk' (by omega), h.pv k j hk']
      by_cases e : k = 0
      · rw [if_pos e, if_pos e]
      · rw [if_neg e, if_neg e, ins_lt hpl (by omega)]
    · rw [gn, if_neg (by omega), Nat.add_sub_cancel, ins_lt hpl (Nat.le_refl _), hp]; rfl
    · rw [if_neg (by omega), Nat.add_sub_cancel]
      by_cases e : m = p + 1
      · subst e
        rw [gx j hk', ins_at hpl]; rfl
      · rw [gpp m j hk' e, h.pv m j hk', if_neg (by omega)]
        obtain ⟨q, rfl⟩ : ∃ q, m = q + 1 := ⟨m - 1, by omega⟩
        rw [ins_gt hpl (by omega), Nat.add_sub_cancel]
  · intro k j j' hk hk1
    rcases cs k j hk with ⟨h1, hk'⟩ | ⟨rfl, rfl⟩ | ⟨m, rfl, h1, hk'⟩
    · rw [gt k j hk']
      by_cases e : k = p
      · subst e
        rw [hp] at hk'; cases hk'
        rw [ins_at hpl] at hk1; cases hk1
        rw [gn]; exact ht
      · rw [ins_lt hpl (by omega)] at hk1
        rw [gt _ j' hk1]; exact h.tag k j j' hk' hk1
    · rw [ins_gt hpl (Nat.le_refl _)] at hk1
      rw [gn, gt _ j' hk1]; exact ht2 j' hk1
    · rw [ins_gt hpl (by omega)] at hk1
      rw [gt m j hk', gt _ j' hk1]; exact h.tag m j j' hk' hk1
  · intro j hj
    rcases ins_mem.1 hj with rfl | hj
    · have := (h.bd i (List.mem_of_getElem? hp)).1
      rw [gn]; dsimp only; omega
    · obtain ⟨k, hk⟩ := List.getElem?_of_mem hj
      rw [gt k j hk]; exact h.bd j hj

/-- what an arena gives out, and what it holds then -/
theorem alloc_is {s : Ar Lk} (h : s.Ok) (hl : s.live < s.room) (x : Lk) : ∃ s1 n, s.alloc x = (s1, n, true) ∧ 0 ≤ n ∧ s.has n = false ∧ (∀ j, s1.has j = true ↔ j = n ∨ s.has j = true) ∧ getAt s1 n = x ∧ (∀ j, j ≠ n → getAt s1 j = getAt s j) ∧ s1.live = s.live + 1 ∧ s1.room = s.room := by
  have hnl : ¬ s.room ≤ s.live := by omega
  cases hg : s.fr.getLast? with
  | some m =>
    have hm := h.unused m (List.mem_of_getLast? hg)
    have hml := h.lt (List.mem_of_getLast? hg)
    have e : s.alloc x = ({ s with sl := s.sl.set m (true, x), fr := s.fr.dropLast }, (m : Int), true) := by unfold Ar.alloc; rw [if_neg hnl, hg]
    have hno : s.has (m : Int) = false := by unfold Ar.has; rw [Int.toNat_natCast, hm]; simp
    have hne : s.fr ≠ [] := fun e => by rw [e] at hg; cases hg
    have hat : ∀ j : Int, j ≠ (m : Int) → 0 ≤ j → (s.sl.set m (true, x))[j.toNat]? = s.sl[j.toNat]? := fun j hj h0 => by rw [List.getElem?_set_ne (by omega)]
    have hasN : ({ s with sl := s.sl.set m (true, x), fr := s.fr.dropLast } : Ar Lk).has (m : Int) = true := by
      unfold Ar.has; simp only [List.length_set, Int.toNat_natCast, List.getElem?_set_self hml]; simp; omega
    have hasO : ∀ j : Int, j ≠ (m : Int) → ({ s with sl := s.sl.set m (true, x), fr := s.fr.dropLast } : Ar Lk).has j = s.has j := fun j hj => by
      by_cases h0 : 0 ≤ j
      · unfold Ar.has; simp only [List.length_set, hat j hj h0]
      · unfold Ar.has; rw [decide_eq_false h0]; simp
    refine ⟨_, _, e, by omega, hno, fun j => ?_, ?_, fun j hj => ?_, ?_, rfl⟩
    · by_cases ej : j = (m : Int)
      · subst ej; exact ⟨fun _ => .inl rfl, fun _ => hasN⟩
      · rw [hasO j ej]; exact ⟨.inr, fun h => h.elim (fun e => absurd e ej) id⟩
    · unfold getAt; rw [hasN, if_pos rfl, Int.toNat_natCast, List.getElem?_set_self hml]; rfl
    · unfold getAt
      rw [hasO j hj]
      by_cases hj2 : s.has j = true
      · rw [if_pos hj2, if_pos hj2, hat j hj (has_nat hj2)]
      · rw [if_neg hj2, if_neg hj2]
    · have hp := List.length_pos_iff.2 hne
      unfold Ar.live; simp only [List.length_set, List.length_dropLast]; omega
  | none =>
    have hfr : s.fr = [] := List.getLast?_eq_none_iff.1 hg
    have e : s.alloc x = ({ s with sl := s.sl ++ [(true, x)] }, (s.sl.length : Int), true) := by unfold Ar.alloc; rw [if_neg hnl, hg]
    have hno : s.has (s.sl.length : Int) = false := by unfold Ar.has; simp
    have hat : ∀ j : Int, j ≠ (s.sl.length : Int) → 0 ≤ j → (s.sl ++ [(true, x)])[j.toNat]? = s.sl[j.toNat]? := fun j hj h0 => by
      by_cases hlt : j.toNat < s.sl.length
      · rw [List.getElem?_append_left hlt]
      · rw [List.getElem?_eq_none (by rw [List.length_append, List.length_singleton]; omega), List.getElem?_eq_none (by omega)]
    have hasN : ({ s with sl := s.sl ++ [(true, x)] } : Ar Lk).has (s.sl.length : Int) = true := by unfold Ar.has; simp; omega
    have hasO : ∀ j : Int, j ≠ (s.sl.length : Int) → ({ s with sl := s.sl ++ [(true, x)] } : Ar Lk).has j = s.has j := fun j hj => by
      by_cases h0 : 0 ≤ j
      · unfold Ar.has
        simp only [hat j hj h0, List.length_append, List.length_singleton]
        rw [show decide (j < ((s.sl.length + 1 : Nat) : Int)) = decide (j < (s.sl.length : Int)) by rw [decide_eq_decide]; omega]
      · unfold Ar.has; rw [decide_eq_false h0]; simp
    refine ⟨_, _, e, by omega, hno, fun j => ?_, ?_, fun j hj => ?_, ?_, rfl⟩
    · by_cases ej : j = (s.sl.length : Int)
      · subst ej; exact ⟨fun _ => .inl rfl, fun _ => hasN⟩
      · rw [hasO j ej]; exact ⟨.inr, fun h => h.elim (fun e => absurd e ej) id⟩
    · unfold getAt; rw [hasN, if_pos rfl, Int.toNat_natCast]; simp
    · unfold getAt
      rw [hasO j hj]
      by_cases hj2 : s.has j = true
      · rw [if_pos hj2, if_pos hj2, hat j hj (has_nat hj2)]
      · rw [if_neg hj2, if_neg hj2]
    · unfold Ar.live; simp; omega

theorem setN_has (s : Ar Lk) (a v j : Int) : (setN s a v).has j = s.has j := by
  unfold setN; split
  · rw [has_put _ _ _ (by assumption)]
  · rfl
theorem setP_has (s : Ar Lk) (a v j : Int) : (setP s a v).has j = s.has j := by
  unfold setP; split
  · rw [has_put _ _ _ (by assumption)]
  · rfl
theorem setN_at {s : Ar Lk} {a : Int} (h : s.has a = true) (v : Int) : getAt (setN s a v) a = { getAt s a with n := v } := by
  unfold setN; rw [if_pos h, getAt_put _ _ _ h]
theorem setP_at {s : Ar Lk} {a : Int} (h : s.has a = true) (v : Int) : getAt (setP s a v) a = { getAt s a with p := v } := by
  unfold setP; rw [if_pos h, getAt_put _ _ _ h]
theorem setN_ne (s : Ar Lk) {a : Int} (v : Int) {j : Int} (hj : j ≠ a) : getAt (setN s a v) j = getAt s j := by
  unfold setN; split
  · rw [getAt_put_ne _ _ _ (by assumption) _ hj]
  · rfl
theorem setP_ne (s : Ar Lk) {a : Int} (v : Int) {j : Int} (hj : j ≠ a) : getAt (setP s a v) j = getAt s j := by
  unfold setP; split
  · rw [getAt_put_ne _ _ _ (by assumption) _ hj]
  · rfl
theorem joinF_has (s : Ar Lk) (a c j : Int) : (joinF s a c).has j = s.has j := by unfold joinF; rw [setP_has, setN_has]
theorem setN_same (s : Ar Lk) (a v : Int) : Same s (setN s a v) := by
  unfold setN; split
  · exact Same.put _ _ _
  · exact Same.refl _
theorem setP_same (s : Ar Lk) (a v : Int) : Same s (setP s a v) := by
  unfold setP; split
  · exact Same.put _ _ _
  · exact Same.refl _
theorem joinF_same (s : Ar Lk) (a c : Int) : Same s (joinF s a c) := (setN_same _ _ _).trans (setP_same _ _ _)
theorem Same.live {a b : Ar Lk} (h : Same a b) : b.live = a.live := by unfold Ar.live; rw [h.fr, h.len]
end Go.Proofs.Ytbaepjjanjhliaa.ord
