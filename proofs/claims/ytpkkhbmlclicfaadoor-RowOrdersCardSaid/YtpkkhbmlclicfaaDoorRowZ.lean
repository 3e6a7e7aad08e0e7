/- The order of rows as plain mathematics: total, and a sorted list is one. -/
import Derived.Test.YtpkkhbmlclicfaaDoorRowV
namespace Go.Proofs.YtpkkhbmlclicfaaDoor.val
set_option linter.unusedVariables false

theorem bl_trans : ∀ x y z : List UInt8, Op.bytesLess x y = true → Op.bytesLess y z = true → Op.bytesLess x z = true
  | [], y, [], h1, h2 => by cases y <;> simp [Op.bytesLess] at h1 h2
  | [], _, c :: z, _, _ => rfl
  | a :: x, [], z, h, _ => by simp [Op.bytesLess] at h
  | a :: x, b :: y, [], _, h => by simp [Op.bytesLess] at h
  | a :: x, b :: y, c :: z, h1, h2 => by
    simp only [Op.bytesLess] at h1 h2 ⊢
    by_cases e1 : a = b
    · subst e1
      by_cases e2 : a = c
      · subst e2
        simp at h1 h2 ⊢
        exact bl_trans x y z h1 h2
      · simp [e2] at h2 ⊢; exact h2
    · simp [e1] at h1
      by_cases e2 : b = c
      · subst e2
        simp [e1]; exact h1
      · simp [e2] at h2
        have h3 : a < c := UInt8.lt_trans h1 h2
        have e3 : a ≠ c := fun e => by subst e; exact UInt8.lt_irrefl _ h3
        simp [e3]; exact h3
theorem less_trans (a b c : V) (h1 : less a b = true) (h2 : less b c = true) : less a c = true := by
  unfold less at h1 h2 ⊢
  by_cases e1 : a.k = b.k
  · rw [if_pos e1] at h1
    by_cases e2 : b.k = c.k
    · rw [if_pos e2] at h2
      rw [if_pos (e1.trans e2)]
      by_cases e3 : a.k = 3
      · rw [if_pos e3] at h1 ⊢
        rw [if_pos (by omega)] at h2
        exact bl_trans _ _ _ h1 h2
      · rw [if_neg e3] at h1 ⊢
        rw [if_neg (by omega)] at h2
        simp at h1 h2 ⊢; omega
    · rw [if_neg e2] at h2
      rw [if_neg (by omega)]
      simp at h2 ⊢; omega
  · rw [if_neg e1] at h1
    by_cases e2 : b.k = c.k
    · rw [if_neg (by omega)]; simp at h1 ⊢; omega
    · rw [if_neg e2] at h2
      simp at h1 h2
      rw [if_neg (by omega)]; simp; omega
theorem beforeL_trans : ∀ l m n : List V, beforeL l m = true → beforeL m n = true → beforeL l n = true
  | [], m, [], h1, h2 => by cases m <;> simp [beforeL] at h1 h2
  | [], _, c :: n, _, _ => rfl
  | a :: l, [], n, h, _ => by simp [beforeL] at h
  | a :: l, b :: m, [], _, h => by simp [beforeL] at h
  | a :: l, b :: m, c :: n, h1, h2 => by
    simp only [beforeL] at h1 h2 ⊢
    by_cases e1 : veq a b = true
    · rw [if_pos e1] at h1
      have e := (veq_iff a b).1 e1
      subst e
      by_cases e2 : veq a c = true
      · rw [if_pos e2] at h2 ⊢
        exact beforeL_trans l m n h1 h2
      · rw [if_neg e2] at h2 ⊢; exact h2
    · rw [if_neg e1] at h1
      by_cases e2 : veq b c = true
      · have e := (veq_iff b c).1 e2
        subst e
        rw [if_neg e1]; exact h1
      · rw [if_neg e2] at h2
        have h3 := less_trans a b c h1 h2
        rw [if_neg (fun e => by rw [(veq_iff a c).1 e, less_irrefl] at h3; cases h3)]; exact h3
abbrev Goods (l : List V) : Prop := ∀ x ∈ l, Good x
theorem beforeL_total (l m : List V) (hl : Goods l) (hm : Goods m) (h1 : beforeL l m = false) (h2 : beforeL m l = false) : l = m :=
  (sameB_iff l m hl hm).1 (by unfold sameB; rw [h1, h2]; rfl)
theorem beforeL_asymm (l m : List V) (h : beforeL l m = true) : beforeL m l = false := by
  cases h2 : beforeL m l with
  | false => rfl
  | true => have := beforeL_trans l m l h h2; rw [beforeL_self] at this; cases this
theorem cmpL_lt : ∀ l m : List V, Goods l → Goods m → (cmpL l m < 0 ↔ beforeL l m = true) ∧ (0 < cmpL l m ↔ beforeL m l = true)
  | [], [], _, _ => by simp [cmpL, beforeL]
  | [], b :: m, _, _ => by simp [cmpL, beforeL]
  | a :: l, [], _, _ => by simp [cmpL, beforeL]
  | a :: l, b :: m, h1, h2 => by
    have ih := cmpL_lt l m (fun x hx => h1 x (by simp [hx])) (fun x hx => h2 x (by simp [hx]))
    obtain ⟨c1, c2, c3⟩ := cmpV_iff a b (h1 a (by simp)) (h2 b (by simp))
    simp only [cmpL, beforeL]
    by_cases e : a = b
    · subst e
      rw [if_pos (cmpV_self a), veq_self]
      simpa using ih
    · have e1 : veq a b = false := (veq_false a b).2 e
      have e2 : veq b a = false := (veq_false b a).2 (fun h => e h.symm)
      have e3 : ¬ cmpV a b = 0 := fun h => by have := c2.1 h; rw [e1] at this; cases this
      rw [if_neg e3, e1, e2]
      simp only [Bool.false_eq_true, if_false]
      exact ⟨c1, c3⟩
theorem cmpL_range (l m : List V) : cmpL l m = -1 ∨ cmpL l m = 0 ∨ cmpL l m = 1 := by
  induction l generalizing m with
  | nil => cases m <;> simp [cmpL]
  | cons a l ih =>
    cases m with
    | nil => simp [cmpL]
    | cons b m =>
      simp only [cmpL]
      split
      · exact ih m
      · unfold cmpV cmpI cmpS
        (repeat' split) <;> simp
/-- what is told of two rows by the order -/
def ordL (l m : List V) : Int := if beforeL m l = true then 1 else if beforeL l m = true then -1 else 0
theorem cmpL_ord (l m : List V) (hl : Goods l) (hm : Goods m) : cmpL l m = ordL l m := by
  obtain ⟨h1, h2⟩ := cmpL_lt l m hl hm
  unfold ordL
  rcases cmpL_range l m with h | h | h
  · have h3 := h1.1 (by omega)
    rw [if_neg (fun e => by have := h2.2 e; omega), if_pos h3]; exact h
  · rw [if_neg (fun e => by have := h2.2 e; omega), if_neg (fun e => by have := h1.2 e; omega)]; exact h
  · rw [if_pos (h2.1 (by omega))]; exact h
theorem ordL_neg (l m : List V) (hl : Goods l) (hm : Goods m) : cmpL m l = - ordL l m := by
  rw [cmpL_ord m l hm hl]
  unfold ordL
  cases h1 : beforeL l m with
  | true => rw [beforeL_asymm l m h1]; simp
  | false => cases h2 : beforeL m l <;> simp
/-- in order -/
def SortedL (ls : List (List V)) : Prop := ls.Pairwise fun l m => beforeL m l = false
theorem le_trans' {l m n : List V} (hl : Goods l) (hm : Goods m) (hn : Goods n) (h1 : beforeL m l = false) (h2 : beforeL n m = false) : beforeL n l = false := by
  cases h : beforeL n l with
  | false => rfl
  | true =>
    cases h3 : beforeL l m with
    | true => rw [beforeL_trans n l m h h3] at h2; cases h2
    | false =>
      have e := beforeL_total l m hl hm h3 h1
      subst e
      rw [h] at h2; cases h2
theorem sorted_unique : ∀ (ls ms : List (List V)), (∀ l ∈ ls, Goods l) → ls.Perm ms → SortedL ls → SortedL ms → ls = ms
  | [], ms, _, hp, _, _ => (List.nil_perm.1 hp).symm
  | l :: ls, ms, hg, hp, h1, h2 => by
    cases ms with
    | nil => exact absurd hp.symm (by simp)
    | cons m ms =>
      have hgm : ∀ x ∈ m :: ms, Goods x := fun x hx => hg x (hp.symm.subset hx)
      unfold SortedL at h1 h2
      rw [List.pairwise_cons] at h1 h2
      have e : l = m := by
        have a1 : l ∈ m :: ms := hp.subset (by simp)
        have a2 : m ∈ l :: ls := hp.symm.subset (by simp)
        rcases List.mem_cons.1 a1 with e | a1
        · exact e
        · rcases List.mem_cons.1 a2 with e | a2
          · exact e.symm
          · exact beforeL_total l m (hg l (by simp)) (hgm m (by simp)) (h2.1 l a1) (h1.1 m a2)
      subst e
      rw [sorted_unique ls ms (fun x hx => hg x (by simp [hx])) (List.Perm.cons_inv hp) h1.2 h2.2]
/-- one more, at its place -/
theorem sorted_insert {ls : List (List V)} {x : List V} {k : Nat} (hg : ∀ l ∈ ls, Goods l) (hx : Goods x) (hs : SortedL ls) (hk : k ≤ ls.length) (h1 : k = 0 ∨ ∃ h : k - 1 < ls.length, beforeL x ls[k - 1] = false) (h2 : ∀ j (h : j < ls.length), k ≤ j → beforeL x ls[j] = true) : SortedL (ls.take k ++ [x] ++ ls.drop k) ∧ (ls.take k ++ [x] ++ ls.drop k).Perm (ls ++ [x]) := by
  constructor
  · unfold SortedL at hs ⊢
    have hs2 := hs
    rw [← List.take_append_drop k ls, List.pairwise_append] at hs2
    obtain ⟨p1, p2, p3⟩ := hs2
    rw [List.append_assoc, List.pairwise_append]
    refine ⟨p1, ?_, fun l hl m hm => ?_⟩
    · rw [List.singleton_append, List.pairwise_cons]
      refine ⟨fun m hm => ?_, p2⟩
      obtain ⟨j, hj, rfl⟩ := List.getElem_of_mem hm
      rw [List.length_drop] at hj
      rw [List.getElem_drop]
      exact beforeL_asymm _ _ (h2 (k + j) (by omega) (by omega))
    · rcases List.mem_append.1 hm with hm | hm
      · rw [List.mem_singleton.1 hm]
        obtain ⟨j, hj, rfl⟩ := List.getElem_of_mem hl
        rw [List.length_take] at hj
        rw [List.getElem_take]
        rcases h1 with rfl | ⟨hk1, h1⟩
        · omega
        · by_cases e : j = k - 1
          · subst e; exact h1
          · have := (List.pairwise_iff_getElem.1 hs) j (k - 1) (by omega) hk1 (by omega)
            exact le_trans' (hg _ (List.getElem_mem _)) (hg _ (List.getElem_mem _)) hx this h1
      · exact p3 l hl m hm
  · have h := List.take_append_drop k ls
    have p : (ls.take k ++ ([x] ++ ls.drop k)).Perm (ls.take k ++ (ls.drop k ++ [x])) := (List.perm_append_comm).append_left _
    rw [← List.append_assoc, ← List.append_assoc, h] at p
    exact p
end Go.Proofs.YtpkkhbmlclicfaaDoor.val
