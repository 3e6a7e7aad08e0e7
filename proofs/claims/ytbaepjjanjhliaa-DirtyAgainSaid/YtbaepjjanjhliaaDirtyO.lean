/- The queue: its heap and its map of places, in memory; 'put' walked. -/
import Derived.Test.YtbaepjjanjhliaaDirtyH
import Derived.Test.YtbaepjjanjhliaaOnly
import Derived.Test.YtbaepjjanjhliaaChecked
import Derived.Test.YtbaepjjanjhliaaOwn
import Derived.Maps.OwnSet
import Derived.Maps.OwnOps
import Derived.LoopTactic
import Derived.Deep.DeepCutAuto
import Derived.Deep.CutBlock
import Derived.Deep.QuietTactic
namespace Go.Proofs.Ytbaepjjanjhliaa.drt
set_option linter.unusedVariables false
open Go.RowKit Go.Maps

abbrev TQ : TypeId := 99
abbrev TI : TypeId := 3
abbrev Dm := DataW Unit
abbrev ints (l : List Int) : List Value := l.map (Value.int .i64)
abbrev kl (v : Int) : Lit := .int .i64 v
abbrev dl (j : Int) : Dm := .lit (.int .i64 j)
theorem law : Keyed Try.prog TI := int_keyed Try.underlying3
theorem zeroE (w : World) : (zeroValue TI).run Try.prog w = .ok (.int .i64 0) w := by kernel_rfl
theorem infoInt : (Try.prog.info? 3).map (fun i => (i.zero, i.size, i.bytes)) = some (some (.int .i64 0), 1, 8) := by kernel_rfl
def In64 (v : Int) : Prop := (Lit.int .i64 v).wf = true
theorem In64.of {v : Int} (h : -9223372036854775808 ≤ v ∧ v ≤ 9223372036854775807) : In64 v := WalkArith.wf_i64 h
theorem hkey {v : Int} (h : In64 v) : keyOf Try.prog TI (.int .i64 v) = some (kl v) := keyOf_int_mk Try.underlying3 h
theorem kl_ne {v u : Int} (h : v ≠ u) : kl v ≠ kl u := fun e => h (by cases e; rfl)

/-- each number's place, but for those of sk -/
structure Pos (D : Dm) (b : List Int) (sk : Int → Prop) : Prop where
  has : ∀ v, ¬ sk v → (Maps.has D (kl v) = true ↔ v ∈ b)
  pl : ∀ (v : Int) (j : Nat), ¬ sk v → b[j]? = some v → D.atKey (kl v) (dl 0) = dl j
theorem inj {b : List Int} (h : b.Nodup) {x y : Nat} {i : Int} (ha : b[x]? = some i) (hb : b[y]? = some i) : x = y :=
  (List.getElem?_inj (List.getElem?_eq_some_iff.1 ha).1 h).1 (ha.trans hb.symm)
section
variable {D : Dm} {b : List Int} {i p : Nat} {n v : Int} {sk : Int → Prop}
theorem Pos.sub (h : Pos D b sk) {sk' : Int → Prop} (hs : ∀ v, sk v → sk' v) : Pos D b sk' := ⟨fun v hv => h.has v (fun q => hv (hs v q)), fun v j hv => h.pl v j (fun q => hv (hs v q))⟩
/-- a number moved -/
theorem Pos.move (h : Pos D b (· = n)) (hM : IsMap D) (hd : b.Nodup) (hi : b[i]? = some n) (hp : b[p]? = some v) (hne : i ≠ p) : Pos (D.put (kl v) (dl i)) (mv b i p n) (· = n) := by
  have hil := (List.getElem?_eq_some_iff.1 hi).1
  have hpl := (List.getElem?_eq_some_iff.1 hp).1
  have hvn : v ≠ n := fun e => hne (inj hd hi (e ▸ hp))
  have hd2 : (mv b i p n).Nodup := (mv_perm hi hpl).nodup_iff.2 hd
  refine ⟨fun u hu => ?_, fun u j hu hj => ?_⟩
  · rw [(mv_perm hi hpl).mem_iff]
    by_cases e : u = v
    · subst e
      rw [has_put_same hM (by trivial)]
      exact ⟨fun _ => List.mem_of_getElem? hp, fun _ => rfl⟩
    · rw [has_put_other (kl_ne e)]; exact h.has u hu
  · rw [mv_get n hil hpl hne] at hj
    by_cases e : u = v
    · subst e
      rw [atKey_put_same hM (by trivial)]
      have : j = i := by
        split at hj
        · exact absurd (Option.some.inj hj).symm hu
        · split at hj
          · assumption
          · have := inj hd hj hp; omega
      rw [this]
    · rw [atKey_put_other (kl_ne e)]
      split at hj
      · exact absurd (Option.some.inj hj).symm hu
      · split at hj
        · rw [hp] at hj; exact absurd (Option.some.inj hj).symm e
        · exact h.pl u j hu hj
/-- the last number put -/
theorem Pos.put (h : Pos D b (· = n)) (hM : IsMap D) (hd : b.Nodup) (hi : b[i]? = some n) : Pos (D.put (kl n) (dl i)) b (fun _ => False) := by
  refine ⟨fun u _ => ?_, fun u j _ hj => ?_⟩
  · by_cases e : u = n
    · subst e
      rw [has_put_same hM (by trivial)]
      exact ⟨fun _ => List.mem_of_getElem? hi, fun _ => rfl⟩
    · rw [has_put_other (kl_ne e)]; exact h.has u e
  · by_cases e : u = n
    · subst e
      rw [atKey_put_same hM (by trivial), inj hd hj hi]
    · rw [atKey_put_other (kl_ne e)]; exact h.pl u j e hj
/-- a number put at the end -/
theorem Pos.snoc (h : Pos D b (fun _ => False)) : Pos D (b ++ [n]) (· = n) := by
  refine ⟨fun u hu => ?_, fun u j hu hj => ?_⟩
  · rw [h.has u (fun q => q), List.mem_append, List.mem_singleton]
    exact ⟨.inl, fun q => q.elim id (fun q => absurd q hu)⟩
  · by_cases q : j < b.length
    · rw [List.getElem?_append_left q] at hj; exact h.pl u j (fun q => q) hj
    · have hl := (List.getElem?_eq_some_iff.1 hj).1
      rw [List.length_append, List.length_singleton] at hl
      rw [List.getElem?_append_right (by omega), show j - b.length = 0 by omega] at hj
      exact absurd (Option.some.inj hj).symm hu
theorem mem_take_last (hd : b.Nodup) {last : Int} (hl : b[b.length - 1]? = some last) (u : Int) : u ∈ b.take (b.length - 1) ↔ u ≠ last ∧ u ∈ b := by
  have hlt := (List.getElem?_eq_some_iff.1 hl).1
  constructor
  · intro h
    obtain ⟨j, hj⟩ := List.getElem?_of_mem h
    have hjl := (List.getElem?_eq_some_iff.1 hj).1
    rw [List.length_take] at hjl
    rw [List.getElem?_take_of_lt (by omega)] at hj
    exact ⟨fun e => by subst e; have := inj hd hj hl; omega, List.mem_of_getElem? hj⟩
  · rintro ⟨h1, h2⟩
    obtain ⟨j, hj⟩ := List.getElem?_of_mem h2
    have hjl := (List.getElem?_eq_some_iff.1 hj).1
    have : j < b.length - 1 := by
      by_cases q : j = b.length - 1
      · subst q; rw [hl] at hj; exact absurd (Option.some.inj hj).symm h1
      · omega
    exact List.mem_of_getElem? (i := j) (by rw [List.getElem?_take_of_lt this]; exact hj)
/-- the last number cut -/
theorem Pos.cutLast (h : Pos D b (fun _ => False)) (hd : b.Nodup) (hl : b[b.length - 1]? = some n) : Pos (D.del (kl n)) (b.take (b.length - 1)) (fun _ => False) := by
  refine ⟨fun u _ => ?_, fun u j _ hj => ?_⟩
  · rw [mem_take_last hd hl]
    by_cases e : u = n
    · subst e
      rw [has_del_same]
      exact ⟨fun q => (by cases q), fun q => absurd rfl q.1⟩
    · rw [has_del_other (kl_ne e), h.has u (fun q => q)]
      exact ⟨fun q => ⟨e, q⟩, fun q => q.2⟩
  · have hjl := (List.getElem?_eq_some_iff.1 hj).1
    rw [List.length_take] at hjl
    have e : u ≠ n := ((mem_take_last hd hl u).1 (List.mem_of_getElem? hj)).1
    rw [List.getElem?_take_of_lt (by omega)] at hj
    rw [atKey_del_other (kl_ne e)]; exact h.pl u j (fun q => q) hj
/-- another number cut: the last one takes its place -/
theorem cut_perm (hl : b[b.length - 1]? = some n) (hi : b[i]? = some v) (hne : i + 1 < b.length) : (v :: (b.take (b.length - 1)).set i n).Perm b := by
  have hil := (List.getElem?_eq_some_iff.1 hi).1
  have h := mv_perm (b := b) (i := b.length - 1) (p := i) (n := n) hl hil
  have e : mv b (b.length - 1) i n = (b.take (b.length - 1)).set i n ++ [v] := by
    refine List.ext_getElem? (fun k => ?_)
    rw [mv_get n (by omega) hil (by omega)]
    by_cases q : k < b.length - 1
    · rw [List.getElem?_append_left (by rw [List.length_set, List.length_take]; omega)]
      by_cases q2 : k = i
      · subst q2; rw [if_pos rfl, List.getElem?_set_self (by rw [List.length_take]; omega)]
      · rw [if_neg q2, if_neg (by omega), List.getElem?_set_ne (fun e => q2 e.symm), List.getElem?_take_of_lt q]
    · rw [List.getElem?_append_right (by rw [List.length_set, List.length_take]; omega), List.length_set, List.length_take, if_neg (by omega)]
      by_cases q2 : k = b.length - 1
      · subst q2; rw [if_pos rfl, hi, show b.length - 1 - min (b.length - 1) b.length = 0 by omega]; rfl
      · rw [if_neg q2, List.getElem?_eq_none (by omega), List.getElem?_eq_none (by simp; omega)]
  rw [e] at h
  exact (List.perm_append_comm (l₁ := [v])).trans h
theorem Pos.cutMid (h : Pos D b (fun _ => False)) (hM : IsMap D) (hd : b.Nodup) (hl : b[b.length - 1]? = some n) (hi : b[i]? = some v) (hne : i + 1 < b.length) : Pos ((D.del (kl v)).put (kl n) (dl i)) ((b.take (b.length - 1)).set i n) (fun _ => False) := by
  have hil := (List.getElem?_eq_some_iff.1 hi).1
  have hp := cut_perm hl hi hne
  have hd2 := hp.nodup_iff.2 hd
  rw [List.nodup_cons] at hd2
  have hvn : v ≠ n := fun e => by subst e; have := inj hd hl hi; omega
  have hmem : ∀ u, u ∈ (b.take (b.length - 1)).set i n ↔ u ≠ v ∧ u ∈ b := fun u => by
    rw [← hp.mem_iff, List.mem_cons]
    exact ⟨fun q => ⟨fun e => hd2.1 (e ▸ q), .inr q⟩, fun q => q.2.elim (fun e => absurd e q.1) id⟩
  have hM2 : IsMap (D.del (kl v)) := hM.del _
  refine ⟨fun u _ => ?_, fun u j _ hj => ?_⟩
  · rw [hmem]
    by_cases e : u = n
    · subst e
      rw [has_put_same hM2 (by trivial)]
      exact ⟨fun _ => ⟨fun q => hvn q.symm, List.mem_of_getElem? hl⟩, fun _ => rfl⟩
    · rw [has_put_other (kl_ne e)]
      by_cases e2 : u = v
      · subst e2
        rw [has_del_same]
        exact ⟨fun q => (by cases q), fun q => absurd rfl q.1⟩
      · rw [has_del_other (kl_ne e2), h.has u (fun q => q)]
        exact ⟨fun q => ⟨e2, q⟩, fun q => q.2⟩
  · have hjl := (List.getElem?_eq_some_iff.1 hj).1
    rw [List.length_set, List.length_take] at hjl
    have e2 : u ≠ v := ((hmem u).1 (List.mem_of_getElem? hj)).1
    by_cases e : j = i
    · subst e
      rw [List.getElem?_set_self (by rw [List.length_take]; omega)] at hj
      obtain rfl := Option.some.inj hj
      rw [atKey_put_same hM2 (by trivial)]
    · rw [List.getElem?_set_ne (fun q => e q.symm), List.getElem?_take_of_lt (by omega)] at hj
      have e3 : u ≠ n := fun q => by subst q; have := inj hd hj hl; omega
      rw [atKey_put_other (kl_ne e3), atKey_del_other (kl_ne e2)]; exact h.pl u j (fun q => q) hj
end
/-- the queue at block bq: its function, its heap, its map at block bm; the blocks 'own' are its own -/
structure DQ (own : Nat → Prop) (bq bm : Nat) (fv : Value) (a : List Int) (D : Dm) (n : Nat) (w : World) : Prop where
  row : ∃ ar cr, Flds w bq TQ [fv, .slice ar a.length cr, .map (some bm)] ∧ w.ownsRow 0 TI 1 (.slice ar a.length cr) a.length (ints a) ∧ (∀ x, ar = some x → own x.block)
  mp : w.ownsMap Try.prog TI (plainElem Try.prog TI) bm n D
  oq : own bq
  om : own bm
  lt : ∀ k, own k → k < w.heap.size
  rg : ∀ v ∈ a, In64 v
section
variable {own : Nat → Prop} {bq bm : Nat} {fv : Value} {a : List Int} {D : Dm} {n : Nat} {w w' : World}
theorem DQ.later (h : DQ own bq bm fv a D n w) (hb : Below w.heap.size w w') : DQ own bq bm fv a D n w' := by
  obtain ⟨ar, cr, h1, h2, h3⟩ := h.row
  have hg : w.grownBy w' none := ⟨hb.os, hb.tape, hb.output, hb.size, fun k hk _ => hb.block k hk⟩
  exact ⟨⟨ar, cr, h1.later hb, owns_below h2 hb, h3⟩, h.mp.kept hg (by simp), h.oq, h.om, fun k hk => Nat.lt_of_lt_of_le (h.lt k hk) hb.size, h.rg⟩
theorem DQ.isMap (h : DQ own bq bm fv a D n w) : IsMap D := h.mp.isMap
theorem DQ.only {P : Nat → Prop} (h : DQ own bq bm fv a D n w) (ho : Only P w w') (hn : ∀ k, own k → ¬ P k) : DQ own bq bm fv a D n w' := by
  obtain ⟨ar, cr, h1, h2, h3⟩ := h.row
  have hg : w'.ownsMap Try.prog TI (plainElem Try.prog TI) bm n D := by
    obtain ⟨es, clock, e1, e2⟩ := h.mp
    exact ⟨es, clock, (ho.block bm h.mp.lt (hn _ h.om)).trans e1, e2⟩
  exact ⟨⟨ar, cr, h1.only ho (hn _ h.oq), owns_only h2 ho (fun g hg => by
    cases ar with
    | none => simp [Value.ownBlock] at hg
    | some x => have : x.block = g := by simpa [Value.ownBlock] using hg
                subst this; exact hn _ (h3 x rfl)), h3⟩, hg, h.oq, h.om, fun k hk => Nat.lt_of_lt_of_le (h.lt k hk) ho.size, h.rg⟩
theorem ints_set (a : List Int) (i : Nat) (v : Int) : (ints a).set i (.int .i64 v) = ints (a.set i v) := by simp
theorem owns_set {w : World} {B : Nat} {e : TypeId} {q m c : Nat} {xs : List Value} (h : w.ownsRow B e 1 (.slice (some ⟨q, 0, none⟩) m c) m xs) {i : Nat} (hi : i < m) (u : Value) : (w.setCell ⟨q, i, none⟩ u).ownsRow B e 1 (.slice (some ⟨q, 0, none⟩) m c) m (xs.set i u) := by
  obtain ⟨hl, ⟨h0, -⟩ | ⟨g, cap, cur, he, hB, hg, hnc, hcm, hcs, ht⟩⟩ := h
  · cases h0
  · simp only [Value.slice.injEq, Option.some.injEq, Addr.mk.injEq] at he
    obtain ⟨⟨rfl, -, -⟩, -, rfl⟩ := he
    refine ⟨by rw [List.length_set]; exact hl, .inr ⟨q, c, cur.setIfInBounds i u, rfl, hB, ?_, hnc, hcm, by simpa using hcs, ?_⟩⟩
    · show (w.setCell ⟨q, i, none⟩ u).heap[q]? = _
      simp [World.setCell, Array.getElem?_modify, hg]
    · rw [Array.toList_setIfInBounds, List.take_set, ht]
end
end Go.Proofs.Ytbaepjjanjhliaa.drt
