/- The law CellPlays: the document's cells, by their names. Plain. -/
import Derived.Test.YtfaoeajaahnooaaCellQ
import Derived.Sort.Walk0
namespace Go.Proofs.Ytfaoeajaahnooaa.cel
set_option linter.unusedVariables false
open Go.RowKit Go.WideShapes Go.MapKept

abbrev TO : TypeId := 31
/-- one cell, by the document: its name, its text, who watches; the slice of those -/
structure En where
  name : ByteArray
  text : ByteArray
  l : List Int
  v : Value
def eCells (es : List En) : List Value := es.flatMap fun e => [.string e.name, .string e.text, e.v]
theorem eCells_cons (e : En) (es : List En) : eCells (e :: es) = .string e.name :: .string e.text :: e.v :: eCells es := rfl
theorem eCells_append (a b : List En) : eCells (a ++ b) = eCells a ++ eCells b := by unfold eCells; rw [List.flatMap_append]
theorem eCells_len (es : List En) : (eCells es).length = es.length * 3 := by
  induction es with
  | nil => rfl
  | cons a l ih => rw [eCells_cons, List.length_cons, List.length_cons, List.length_cons, ih, List.length_cons]; omega
theorem eCells_at : ∀ (l : List En) (j : Nat) (e : En), l[j]? = some e → (eCells l)[j * 3]? = some (.string e.name) ∧ (eCells l)[j * 3 + 1]? = some (.string e.text) ∧ (eCells l)[j * 3 + 2]? = some e.v
  | [], j, e, h => by simp at h
  | a :: l, 0, e, h => by
    simp at h; subst h
    rw [eCells_cons]; simp
  | a :: l, j + 1, e, h => by
    have := eCells_at l j e (by simpa using h)
    rw [eCells_cons, show (j + 1) * 3 = j * 3 + 3 by omega]
    simpa using this
theorem eCells_take : ∀ (l : List En) (p : Nat), (eCells l).take (p * 3) = eCells (l.take p)
  | [], p => by simp [eCells]
  | a :: l, 0 => by simp [eCells]
  | a :: l, p + 1 => by
    rw [List.take_succ_cons, eCells_cons, eCells_cons, ← eCells_take l p, show (p + 1) * 3 = p * 3 + 1 + 1 + 1 by omega]
    simp only [List.take_succ_cons]
theorem eCells_drop : ∀ (l : List En) (p : Nat), (eCells l).drop (p * 3) = eCells (l.drop p)
  | [], p => by simp [eCells]
  | a :: l, 0 => by simp
  | a :: l, p + 1 => by
    rw [List.drop_succ_cons, eCells_cons, ← eCells_drop l p, show (p + 1) * 3 = p * 3 + 1 + 1 + 1 by omega]
    simp only [List.drop_succ_cons]
theorem eCells_set : ∀ (l : List En) (p : Nat) (e : En), p < l.length → (((eCells l).set (p * 3) (.string e.name)).set (p * 3 + 1) (.string e.text)).set (p * 3 + 2) e.v = eCells (l.set p e)
  | [], p, e, h => by simp at h
  | a :: l, 0, e, h => by simp [eCells_cons]
  | a :: l, p + 1, e, h => by
    rw [List.set_cons_succ, eCells_cons, eCells_cons, ← eCells_set l p e (by simpa using h), show (p + 1) * 3 = p * 3 + 1 + 1 + 1 by omega]
    simp only [List.set_cons_succ]
/-- the order of names -/
abbrev lt (a b : ByteArray) : Prop := a.data.toList < b.data.toList
theorem lt_irr (a : ByteArray) : ¬ lt a a := List.lt_irrefl _
theorem lt_tr {a b c : ByteArray} (h : lt a b) (h' : lt b c) : lt a c := List.lt_trans h h'
theorem lt_tri {a b : ByteArray} (h : ¬ lt a b) (hne : a ≠ b) : lt b a := by
  false_or_by_contra
  rename_i h2
  exact hne (ByteArray.ext (Array.toList_inj.1 (List.le_antisymm (List.not_lt.1 h2) (List.not_lt.1 h))))
theorem less_lt (a b : ByteArray) : Op.bytesLess a.toList b.toList = decide (lt a b) := by rw [bytesLess_eq, Lib.toList_data, Lib.toList_data]
/-- the document's cells are the store's -/
structure EsOk (S : CS) (es : List En) : Prop where
  srt : es.Pairwise (fun a b => lt a.name b.name)
  ok : ∀ e ∈ es, e.name.size ≤ 5 ∧ e.text = S.tx e.name ∧ e.l = S.wh e.name
  tx0 : ∀ s, s ∉ es.map (·.name) → S.tx s = ByteArray.empty
  inv : Inv S (es.map (·.name))
  rng : ∀ s, ∀ y ∈ S.wh s, -9223372036854775808 ≤ y ∧ y ≤ 9223372036854775807
  ris : ∀ s, (S.wh s).Pairwise (· < ·)
theorem EsOk.no : EsOk CS.no [] := ⟨List.Pairwise.nil, by simp, fun _ _ => rfl, Inv.no, by simp [CS.no], fun s => by simp [CS.no]⟩
theorem EsOk.not {S : CS} {es : List En} (h : EsOk S es) {p : Nat} {s : ByteArray} (h1 : ∀ e ∈ es.take p, lt e.name s) (h2 : ∀ e, es[p]? = some e → ¬ lt e.name s ∧ e.name ≠ s) : s ∉ es.map (·.name) ∧ ∀ e ∈ es.drop p, lt s e.name := by
  have h3 : ∀ e ∈ es.drop p, lt s e.name := by
    intro e he
    cases hd : es.drop p with
    | nil => rw [hd] at he; cases he
    | cons z t =>
      have hz : es[p]? = some z := by have := congrArg (fun l => l[0]?) hd; simpa using this
      obtain ⟨q1, q2⟩ := h2 z hz
      have q3 := lt_tri q1 q2
      have hp := h.srt.sublist (List.drop_sublist p es)
      rw [hd] at he hp
      rcases List.mem_cons.1 he with rfl | he
      · exact q3
      · exact lt_tr q3 ((List.pairwise_cons.1 hp).1 e he)
  refine ⟨fun hm => ?_, h3⟩
  obtain ⟨e, he, rfl⟩ := List.mem_map.1 hm
  rw [← List.take_append_drop p es] at he
  rcases List.mem_append.1 he with he | he
  · exact lt_irr _ (h1 e he)
  · exact lt_irr _ (h3 e he)
/-- a name that is new -/
theorem EsOk.put {S : CS} {es : List En} (h : EsOk S es) {p : Nat} {s : ByteArray} (hs : s.size ≤ 5) (h1 : ∀ e ∈ es.take p, lt e.name s) (h2 : ∀ e, es[p]? = some e → ¬ lt e.name s ∧ e.name ≠ s) (v : Value) :
    EsOk S (es.take p ++ ⟨s, ByteArray.empty, [], v⟩ :: es.drop p) := by
  obtain ⟨hn, h3⟩ := h.not h1 h2
  have hp : ((es.take p ++ ⟨s, ByteArray.empty, [], v⟩ :: es.drop p).map (·.name)).Perm (s :: es.map (·.name)) := by
    have := (List.perm_middle (a := (⟨s, ByteArray.empty, [], v⟩ : En)) (l₁ := es.take p) (l₂ := es.drop p)).map (·.name)
    rw [List.take_append_drop] at this
    exact this
  refine ⟨?_, fun e he => ?_, fun x hx => h.tx0 x (fun hm => hx (hp.mem_iff.2 (List.mem_cons_of_mem _ hm))), ⟨?_, fun x hx => h.inv.wh x (fun hm => hx (hp.mem_iff.2 (List.mem_cons_of_mem _ hm))), ?_⟩, h.rng, h.ris⟩
  · have hsp := h.srt
    rw [← List.take_append_drop p es] at hsp
    obtain ⟨a1, a2, a3⟩ := List.pairwise_append.1 hsp
    exact List.pairwise_append.2 ⟨a1, List.pairwise_cons.2 ⟨h3, a2⟩, fun a ha b hb => by
      rcases List.mem_cons.1 hb with rfl | hb
      · exact h1 a ha
      · exact a3 a ha b hb⟩
  · rcases List.mem_append.1 he with he | he
    · exact h.ok e (List.mem_of_mem_take he)
    · rcases List.mem_cons.1 he with rfl | he
      · exact ⟨hs, (h.tx0 s hn).symm, (h.inv.wh s hn).symm⟩
      · exact h.ok e (List.mem_of_mem_drop he)
  · exact hp.nodup_iff.2 (List.nodup_cons.2 ⟨hn, h.inv.nd⟩)
  · rw [tot_perm _ hp, h.inv.n]
    unfold tot
    rw [List.map_cons, List.sum_cons, h.inv.wh s hn]
    simp
theorem set_names {es : List En} {p : Nat} {e e' : En} (hp : es[p]? = some e) (hn : e'.name = e.name) : (es.set p e').map (·.name) = es.map (·.name) := by
  rw [List.map_set, hn]
  obtain ⟨hl, he⟩ := List.getElem?_eq_some_iff.1 hp
  apply List.ext_getElem?
  intro j
  by_cases e0 : p = j
  · subst e0
    rw [List.getElem?_set_self (by simpa using hl), List.getElem?_map, hp]
    rfl
  · rw [List.getElem?_set_ne e0]
/-- one cell turns -/
theorem EsOk.turn {S S' : CS} {es : List En} (h : EsOk S es) {p : Nat} {e e' : En} (hp : es[p]? = some e) (hn : e'.name = e.name) (ht : e'.text = S'.tx e.name) (hl : e'.l = S'.wh e.name)
    (ho : ∀ s, s ≠ e.name → S'.tx s = S.tx s ∧ S'.wh s = S.wh s) (hi : Inv S' (es.map (·.name))) (hr : ∀ y ∈ S'.wh e.name, -9223372036854775808 ≤ y ∧ y ≤ 9223372036854775807) (hw : (S'.wh e.name).Pairwise (· < ·)) : EsOk S' (es.set p e') := by
  obtain ⟨hlt, he⟩ := List.getElem?_eq_some_iff.1 hp
  have hnm := set_names hp hn
  have hmem : e.name ∈ es.map (·.name) := List.mem_map.2 ⟨e, List.mem_of_getElem? hp, rfl⟩
  refine ⟨?_, fun x hx => ?_, fun s hs => ?_, by rw [hnm]; exact hi, fun s y hy => ?_, fun s => ?_⟩
  · have h1 : (es.map (·.name)).Pairwise lt := List.pairwise_map.2 h.srt
    rw [← hnm] at h1
    exact List.pairwise_map.1 h1
  · obtain ⟨j, hj⟩ := List.getElem?_of_mem hx
    by_cases e0 : p = j
    · subst e0
      rw [List.getElem?_set_self (by simpa using hlt)] at hj
      cases hj
      rw [hn]
      exact ⟨(h.ok e (List.mem_of_getElem? hp)).1, ht, hl⟩
    · rw [List.getElem?_set_ne e0] at hj
      have h2 := h.ok x (List.mem_of_getElem? hj)
      have hne : x.name ≠ e.name := by
        intro heq
        have hnd := h.inv.nd
        have e1 : (es.map (·.name))[p]? = some e.name := by rw [List.getElem?_map, hp]; rfl
        have e2 : (es.map (·.name))[j]? = some e.name := by rw [List.getElem?_map, hj]; show some x.name = _; rw [heq]
        exact e0 ((List.getElem?_inj (by simpa using hlt) hnd).1 (e1.trans e2.symm))
      obtain ⟨o1, o2⟩ := ho x.name hne
      rw [o1, o2]; exact h2
  · rw [hnm] at hs
    have hne : s ≠ e.name := fun e0 => hs (e0 ▸ hmem)
    rw [(ho s hne).1]; exact h.tx0 s hs
  · by_cases e0 : s = e.name
    · subst e0; exact hr y hy
    · rw [(ho s e0).2] at hy; exact h.rng s y hy
  · by_cases e0 : s = e.name
    · subst e0; exact hw
    · rw [(ho s e0).2]; exact h.ris s
theorem delI_len {l : List Int} {x : Int} (hs : l.Pairwise (· < ·)) (h : x ∈ l) : (delI l x).length + 1 = l.length := by
  obtain ⟨k, hk⟩ := List.getElem?_of_mem h
  have hl := (List.getElem?_eq_some_iff.1 hk).1
  rw [← delI_at hs hk, List.length_append, List.length_take, List.length_drop]
  omega
theorem Inv.unwatch {S : CS} {ns : List ByteArray} (h : Inv S ns) (k : ByteArray) (hk : k ∈ ns) (i : Int) (hi : i ∈ S.wh k) (hs : (S.wh k).Pairwise (· < ·)) : Inv (S.watched k (delI (S.wh k) i) (S.n - 1)) ns := by
  refine ⟨h.nd, fun s hs => ?_, ?_⟩
  · show upd S.wh k _ s = []
    have e : s ≠ k := fun e => hs (by rw [e]; exact hk)
    rw [upd_other _ _ e]
    exact h.wh s hs
  · show S.n - 1 = tot (upd S.wh k _) ns
    have := delI_len hs hi
    rw [tot_upd _ _ _ ns h.nd hk, h.n]
    omega
/-- a text is set -/
theorem EsOk.text {S : CS} {es : List En} (h : EsOk S es) {p : Nat} {e : En} (hp : es[p]? = some e) (t : ByteArray) : EsOk { S with tx := upd S.tx e.name t } (es.set p ⟨e.name, t, e.l, e.v⟩) :=
  h.turn hp rfl (upd_same _ _ _).symm (h.ok e (List.mem_of_getElem? hp)).2.2 (fun s hs => ⟨upd_other _ _ hs, rfl⟩) (h.inv.text _) (fun y hy => h.rng _ y hy) (h.ris _)
theorem EsOk.watch {S : CS} {es : List En} (h : EsOk S es) {p : Nat} {e : En} (hp : es[p]? = some e) (i : Int) (hi : -9223372036854775808 ≤ i ∧ i ≤ 9223372036854775807) (v : Value) :
    EsOk (@ite _ (i ∈ S.wh e.name) (Classical.propDecidable _) S (S.watched e.name (insI (S.wh e.name) i) (S.n + 1))) (es.set p ⟨e.name, e.text, insI e.l i, v⟩) := by
  obtain ⟨k1, k2, k3⟩ := h.ok e (List.mem_of_getElem? hp)
  have hmem : e.name ∈ es.map (·.name) := List.mem_map.2 ⟨e, List.mem_of_getElem? hp, rfl⟩
  rw [k3]
  by_cases hin : i ∈ S.wh e.name
  · rw [if_pos hin, insI_of_mem (h.ris _) hin]
    exact h.turn hp rfl k2 rfl (fun s hs => ⟨rfl, rfl⟩) h.inv (fun y hy => h.rng _ y hy) (h.ris _)
  · rw [if_neg hin]
    have e1 : (S.watched e.name (insI (S.wh e.name) i) (S.n + 1)).wh e.name = insI (S.wh e.name) i := upd_same _ _ _
    refine h.turn hp rfl k2 e1.symm (fun s hs => ⟨rfl, upd_other _ _ hs⟩) (h.inv.watch _ hmem i hin) (fun y hy => ?_) ?_
    · rw [e1, insI_mem] at hy
      rcases hy with rfl | hy
      · exact hi
      · exact h.rng _ y hy
    · rw [e1]; exact insI_sorted (h.ris _) i
theorem EsOk.unwatch {S : CS} {es : List En} (h : EsOk S es) {p : Nat} {e : En} (hp : es[p]? = some e) (i : Int) (v : Value) :
    EsOk (@ite _ (i ∈ S.wh e.name) (Classical.propDecidable _) (S.watched e.name (delI (S.wh e.name) i) (S.n - 1)) S) (es.set p ⟨e.name, e.text, delI e.l i, v⟩) := by
  obtain ⟨k1, k2, k3⟩ := h.ok e (List.mem_of_getElem? hp)
  have hmem : e.name ∈ es.map (·.name) := List.mem_map.2 ⟨e, List.mem_of_getElem? hp, rfl⟩
  rw [k3]
  by_cases hin : i ∈ S.wh e.name
  · rw [if_pos hin]
    have e1 : (S.watched e.name (delI (S.wh e.name) i) (S.n - 1)).wh e.name = delI (S.wh e.name) i := upd_same _ _ _
    refine h.turn hp rfl k2 e1.symm (fun s hs => ⟨rfl, upd_other _ _ hs⟩) (h.inv.unwatch _ hmem i hin (h.ris _)) (fun y hy => ?_) ?_
    · rw [e1, delI_mem] at hy; exact h.rng _ y hy.2
    · rw [e1]; exact (h.ris _).filter _
  · rw [if_neg hin, delI_of_not hin]
    exact h.turn hp rfl k2 rfl (fun s hs => ⟨rfl, rfl⟩) h.inv (fun y hy => h.rng _ y hy) (h.ris _)
end Go.Proofs.Ytfaoeajaahnooaa.cel
