/- The list of stamps: a stamp taken out; the numbers of two arenas side by side. No walk. -/
import Derived.Test.YtbaepjjanjhliaaOrderU
namespace Go.Proofs.Ytbaepjjanjhliaa.ord
set_option linter.unusedVariables false
open Go.RowKit arK

theorem erase_mem {L : List Int} (hn : L.Nodup) {p : Nat} {i : Int} (hp : L[p]? = some i) (j : Int) : j ∈ L.eraseIdx p ↔ j ≠ i ∧ j ∈ L := by
  rw [List.mem_eraseIdx_iff_getElem?]
  constructor
  · rintro ⟨k, hk, e⟩
    exact ⟨fun h => by subst h; exact hk (idx_inj hn e hp), List.mem_of_getElem? e⟩
  · rintro ⟨h1, h2⟩
    obtain ⟨k, e⟩ := List.getElem?_of_mem h2
    exact ⟨k, fun h => by subst h; rw [hp] at e; exact h1 (Option.some.inj e).symm, e⟩
/-- A STAMP TAKEN OUT: what always holds is kept. -/
theorem remove_ok {s s3 : Ar Lk} {L : List Int} (h : Ok s L) {p : Nat} {i a : Int} (hp0 : p ≠ 0) (hp : L[p]? = some i) (ha : L[p - 1]? = some a) (hh : ∀ j, s3.has j = true ↔ j ≠ i ∧ s.has j = true)
    (ga : getAt s3 a = { getAt s a with n := (L[p + 1]?).getD (-1) }) (gx : ∀ j, L[p + 1]? = some j → getAt s3 j = { getAt s j with p := a })
    (go : ∀ j, j ∈ L → j ≠ i → j ≠ a → L[p + 1]? ≠ some j → getAt s3 j = getAt s j) : Ok s3 (L.eraseIdx p) := by
  have hpl := (List.getElem?_eq_some_iff.1 hp).1
  have inj : ∀ {a b : Nat} {j : Int}, L[a]? = some j → L[b]? = some j → a = b := fun ha hb => idx_inj h.nodup ha hb
  have gl : ∀ (k : Nat) (j : Int), L[k]? = some j → k ≠ p → k ≠ p - 1 → k ≠ p + 1 → getAt s3 j = getAt s j := fun k j hk h0 h1 h2 =>
    go j (List.mem_of_getElem? hk) (fun e => h0 (inj hk (e ▸ hp))) (fun e => h1 (inj hk (e ▸ ha))) (fun e => h2 (inj hk e))
  have gt : ∀ (k : Nat) (j : Int), L[k]? = some j → k ≠ p → (getAt s3 j).t = (getAt s j).t := fun k j hk h0 => by
    by_cases e1 : k = p - 1
    · subst e1; rw [ha] at hk; cases hk; rw [ga]
    · by_cases e2 : k = p + 1
      · subst e2; rw [gx j hk]
      · rw [gl k j hk h0 e1 e2]
  have gnn : ∀ (k : Nat) (j : Int), L[k]? = some j → k ≠ p → k ≠ p - 1 → (getAt s3 j).n = (getAt s j).n := fun k j hk h0 e1 => by
    by_cases e2 : k = p + 1
    · subst e2; rw [gx j hk]
    · rw [gl k j hk h0 e1 e2]
  have gpp : ∀ (k : Nat) (j : Int), L[k]? = some j → k ≠ p → k ≠ p + 1 → (getAt s3 j).p = (getAt s j).p := fun k j hk h0 e2 => by
    by_cases e1 : k = p - 1
    · subst e1; rw [ha] at hk; cases hk; rw [ga]
    · rw [gl k j hk h0 e1 e2]
  have er : ∀ k, (L.eraseIdx p)[k]? = if k < p then L[k]? else L[k + 1]? := fun k => List.getElem?_eraseIdx ..
  -- a place of the new list
  have cs : ∀ (k : Nat) (j : Int), (L.eraseIdx p)[k]? = some j → (k < p ∧ L[k]? = some j) ∨ (p ≤ k ∧ L[k + 1]? = some j) := fun k j hk => by
    rw [er] at hk
    split at hk
    · exact .inl ⟨by assumption, hk⟩
    · exact .inr ⟨by omega, hk⟩
  refine ⟨by rw [er, if_pos (by omega)]; exact h.head, h.nodup.sublist (List.eraseIdx_sublist _ _), fun j => by rw [hh, erase_mem h.nodup hp, h.has], ?_, ?_, ?_, ?_⟩
  · intro k j hk
    rcases cs k j hk with ⟨h1, hk'⟩ | ⟨h1, hk'⟩
    · by_cases e : k = p - 1
      · subst e
        rw [ha] at hk'; cases hk'
        rw [ga, er, if_neg (by omega), show p - 1 + 1 + 1 = p + 1 by omega]
      · rw [gnn k j hk' (by omega) e, h.nx k j hk', er, if_pos (by omega)]
    · rw [gnn _ j hk' (by omega) (by omega), h.nx _ j hk', er, if_neg (by omega)]
  · intro k j hk
    rcases cs k j hk with ⟨h1, hk'⟩ | ⟨h1, hk'⟩
    · rw [gpp k j hk' (by omega) (by omega), h.pv k j hk']
      by_cases e : k = 0
      · rw [if_pos e, if_pos e]
      · rw [if_neg e, if_neg e, er, if_pos (by omega)]
    · rw [if_neg (by omega)]
      by_cases e : k = p
      · subst e
        rw [gx j hk', er, if_pos (by omega), ha]; rfl
      · rw [gpp _ j hk' (by omega) (by omega), h.pv _ j hk', if_neg (by omega), er, if_neg (by omega), show k + 1 - 1 = k - 1 + 1 by omega]
  · intro k j j' hk hk1
    rcases cs k j hk with ⟨h1, hk'⟩ | ⟨h1, hk'⟩
    · rcases cs _ j' hk1 with ⟨h2, hk1'⟩ | ⟨h2, hk1'⟩
      · rw [gt k j hk' (by omega), gt _ j' hk1' (by omega)]; exact h.tag k j j' hk' hk1'
      · rw [gt k j hk' (by omega), gt _ j' hk1' (by omega)]; exact tag_mono h _ _ j j' hk' hk1' (by omega)
    · rcases cs _ j' hk1 with ⟨h2, hk1'⟩ | ⟨h2, hk1'⟩
      · omega
      · rw [gt _ j hk' (by omega), gt _ j' hk1' (by omega)]; exact h.tag _ j j' hk' hk1'
  · intro j hj
    rw [erase_mem h.nodup hp] at hj
    obtain ⟨k, hk⟩ := List.getElem?_of_mem hj.2
    rw [gt k j hk (fun e => by subst e; rw [hp] at hk; exact hj.1 (Option.some.inj hk).symm)]; exact h.bd j hj.2

theorem has_free {α : Type} {s : Ar α} (z : α) {i : Int} (hi : s.has i = true) (j : Int) : (s.free z i).has j = true ↔ j ≠ i ∧ s.has j = true := by
  obtain ⟨h0, hl, x, hx⟩ := Ar.has_iff.1 hi
  unfold Ar.has Ar.free
  simp only [List.length_set]
  by_cases e : j = i
  · subst e
    rw [List.getElem?_set_self hl]; simp
  · by_cases e0 : 0 ≤ j
    · rw [List.getElem?_set_ne (by omega)]; simp [e]
    · rw [decide_eq_false e0]; simp
theorem getAt_free {s : Ar Lk} {i : Int} (hi : s.has i = true) (z : Lk) {j : Int} (hj : j ≠ i) : getAt (s.free z i) j = getAt s j := by
  have hh : (s.free z i).has j = s.has j := Bool.eq_iff_iff.2 ((has_free z hi j).trans ⟨fun h => h.2, fun h => ⟨hj, h⟩⟩)
  unfold getAt
  rw [hh]
  by_cases hs : s.has j = true
  · rw [if_pos hs, if_pos hs]
    have h1 := has_nat hi
    have h2 := has_nat hs
    unfold Ar.free
    rw [List.getElem?_set_ne (by omega)]
  · rw [if_neg hs, if_neg hs]
/-- DELETE keeps what always holds. -/
theorem delete_ok {s : Ar Lk} {L : List Int} (h : Ok s L) {p : Nat} {i : Int} (hp0 : p ≠ 0) (hp : L[p]? = some i) (z : Lk) : Ok ((joinF s (getAt s i).p (getAt s i).n).free z i) (L.eraseIdx p) := by
  have hpl := (List.getElem?_eq_some_iff.1 hp).1
  obtain ⟨a, ha⟩ : ∃ a, L[p - 1]? = some a := ⟨_, List.getElem?_eq_getElem (by omega)⟩
  have hpv := h.pv p i hp
  rw [if_neg hp0, ha, Option.getD_some] at hpv
  have hnx := h.nx p i hp
  obtain ⟨nx, hnxe⟩ : ∃ nx, (getAt s i).n = nx := ⟨_, rfl⟩
  rw [hpv, hnxe]
  rw [hnxe] at hnx
  have hai : a ≠ i := fun e => by subst e; have := idx_inj h.nodup ha hp; omega
  have hx1 : nx ≠ a ∧ nx ≠ i := by
    have hi0 := h.pos (List.mem_of_getElem? hp)
    have ha0 := h.pos (List.mem_of_getElem? ha)
    rw [hnx]
    cases e : L[p + 1]? with
    | none => simp; omega
    | some j =>
      rw [Option.getD_some]
      exact ⟨fun q => by subst q; have := idx_inj h.nodup ha e; omega, fun q => by subst q; have := idx_inj h.nodup hp e; omega⟩
  have hi1 : (joinF s a nx).has i = true := by rw [joinF_has]; exact h.hasAt hp
  refine remove_ok h hp0 hp ha (fun j => by rw [has_free z hi1, joinF_has]) ?_ ?_ ?_
  · rw [getAt_free hi1 z hai, ← hnx]
    unfold joinF
    rw [setP_ne _ _ (fun e => hx1.1 e.symm), setN_at (h.hasAt ha)]
  · intro j hj
    have e : nx = j := by rw [hnx, hj]; rfl
    subst e
    rw [getAt_free hi1 z hx1.2]
    unfold joinF
    rw [setP_at (by rw [setN_has]; exact h.hasAt hj), setN_ne _ _ hx1.1]
  · intro j hj h1 h2 h3
    have hjx : j ≠ nx := fun e => by
      subst e
      cases e : L[p + 1]? with
      | none => rw [e] at hnx; have := h.pos hj; simp at hnx; omega
      | some q => rw [e] at hnx h3; simp at hnx; exact h3 (by rw [hnx])
    rw [getAt_free hi1 z h1]
    unfold joinF
    rw [setP_ne _ _ hjx, setN_ne _ _ h2]

/-- two arenas that give out the same numbers -/
structure Agree {α β : Type} (s : Ar α) (r : Ar β) : Prop where
  room : r.room = s.room
  fr : r.fr = s.fr
  len : r.sl.length = s.sl.length
  has : ∀ i, r.has i = s.has i
theorem Agree.live {α β : Type} {s : Ar α} {r : Ar β} (h : Agree s r) : r.live = s.live := by unfold Ar.live; rw [h.len, h.fr]
theorem has_set {α : Type} (s : Ar α) (m : Nat) (x : α) (hm : m < s.sl.length) (f : List Nat) (j : Int) : ({ s with sl := s.sl.set m (true, x), fr := f } : Ar α).has j = (decide (j = (m : Int)) || s.has j) := by
  unfold Ar.has
  simp only [List.length_set]
  by_cases e : j = (m : Int)
  · subst e
    rw [Int.toNat_natCast, List.getElem?_set_self hm]; simp; omega
  · rw [decide_eq_false e, Bool.false_or]
    by_cases e0 : 0 ≤ j
    · rw [List.getElem?_set_ne (by omega)]
    · rw [decide_eq_false e0]; simp
theorem has_snoc {α : Type} (s : Ar α) (x : α) (j : Int) : ({ s with sl := s.sl ++ [(true, x)] } : Ar α).has j = (decide (j = (s.sl.length : Int)) || s.has j) := by
  unfold Ar.has
  simp only [List.length_append, List.length_singleton]
  by_cases e : j = (s.sl.length : Int)
  · subst e
    simp; omega
  · rw [decide_eq_false e, Bool.false_or]
    by_cases e0 : 0 ≤ j
    · by_cases e1 : j.toNat < s.sl.length
      · rw [List.getElem?_append_left e1, decide_eq_true (by omega : j < (s.sl.length : Int)), decide_eq_true (by omega : j < ((s.sl.length + 1 : Nat) : Int))]
      · rw [decide_eq_false (by omega : ¬ j < (s.sl.length : Int)), decide_eq_false (by omega : ¬ j < ((s.sl.length + 1 : Nat) : Int))]; simp
    · rw [decide_eq_false e0]; simp
theorem Agree.alloc {α β : Type} {s : Ar α} {r : Ar β} (h : Agree s r) (hs : s.Ok) (hr : r.Ok) (x : α) (y : β) : (r.alloc y).2 = (s.alloc x).2 ∧ Agree (s.alloc x).1 (r.alloc y).1 := by
  have hl' : r.room ≤ r.live ↔ s.room ≤ s.live := by rw [h.live, h.room]
  by_cases hl : s.room ≤ s.live
  · have e1 : s.alloc x = (s, 0, false) := by unfold Ar.alloc; rw [if_pos hl]
    have e2 : r.alloc y = (r, 0, false) := by unfold Ar.alloc; rw [if_pos (hl'.2 hl)]
    rw [e1, e2]; exact ⟨rfl, h⟩
  · have hl2 : ¬ r.room ≤ r.live := fun q => hl (hl'.1 q)
    cases hg : s.fr.getLast? with
    | some m =>
      have hm := hs.lt (List.mem_of_getLast? hg)
      have hg2 : r.fr.getLast? = some m := by rw [h.fr]; exact hg
      have e1 : s.alloc x = ({ s with sl := s.sl.set m (true, x), fr := s.fr.dropLast }, (m : Int), true) := by unfold Ar.alloc; rw [if_neg hl, hg]
      have e2 : r.alloc y = ({ r with sl := r.sl.set m (true, y), fr := r.fr.dropLast }, (m : Int), true) := by unfold Ar.alloc; rw [if_neg hl2, hg2]
      rw [e1, e2]
      refine ⟨rfl, h.room, congrArg List.dropLast h.fr, ?_, fun i => ?_⟩
      · show (r.sl.set m (true, y)).length = (s.sl.set m (true, x)).length
        rw [List.length_set, List.length_set, h.len]
      · show ({ r with sl := r.sl.set m (true, y), fr := r.fr.dropLast } : Ar β).has i = ({ s with sl := s.sl.set m (true, x), fr := s.fr.dropLast } : Ar α).has i
        rw [has_set r m y (by rw [h.len]; exact hm), has_set s m x hm, h.has]
    | none =>
      have hg2 : r.fr.getLast? = none := by rw [h.fr]; exact hg
      have e1 : s.alloc x = ({ s with sl := s.sl ++ [(true, x)] }, (s.sl.length : Int), true) := by unfold Ar.alloc; rw [if_neg hl, hg]
      have e2 : r.alloc y = ({ r with sl := r.sl ++ [(true, y)] }, (r.sl.length : Int), true) := by unfold Ar.alloc; rw [if_neg hl2, hg2]
      rw [e1, e2]
      refine ⟨by show ((r.sl.length : Int), true) = ((s.sl.length : Int), true); rw [h.len], h.room, h.fr, ?_, fun i => ?_⟩
      · show (r.sl ++ [(true, y)]).length = (s.sl ++ [(true, x)]).length
        rw [List.length_append, List.length_append, h.len]; rfl
      · show ({ r with sl := r.sl ++ [(true, y)] } : Ar β).has i = ({ s with sl := s.sl ++ [(true, x)] } : Ar α).has i
        rw [has_snoc, has_snoc, h.len, h.has]
theorem Agree.free {α β : Type} {s : Ar α} {r : Ar β} (h : Agree s r) {i : Int} (hi : s.has i = true) (z : α) (y : β) : Agree (s.free z i) (r.free y i) :=
  ⟨h.room, by unfold Ar.free; rw [h.fr], by unfold Ar.free; rw [List.length_set, List.length_set, h.len], fun j => Bool.eq_iff_iff.2 (by rw [has_free z hi, has_free y (by rw [h.has]; exact hi), h.has])⟩
theorem Agree.same {β : Type} {s s' : Ar Lk} {r : Ar β} (h : Agree s r) (q : Same s s') (hh : ∀ i, s'.has i = s.has i) : Agree s' r :=
  ⟨h.room.trans q.room.symm, h.fr.trans q.fr.symm, h.len.trans q.len.symm, fun i => (h.has i).trans (hh i).symm⟩
end Go.Proofs.Ytbaepjjanjhliaa.ord
