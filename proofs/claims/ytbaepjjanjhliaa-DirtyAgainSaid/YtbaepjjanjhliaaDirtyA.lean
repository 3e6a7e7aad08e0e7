/- A map of numbers to true, beside a queue: its reads, its turns. -/
import Derived.Test.YtbaepjjanjhliaaDirtyV
import Derived.Maps.RangeWalk
namespace Go.Proofs.Ytbaepjjanjhliaa.drt
set_option linter.unusedVariables false
open Go.RowKit Go.Maps

abbrev TB : TypeId := 4
abbrev TMB : TypeId := 73
theorem zeroB (w : World) : (zeroValue TB).run Try.prog w = .ok (.bool false) w := by kernel_rfl
theorem RB_mk (x : Bool) : plainElem (H := Unit) Try.prog TB (.bool x) = some (.lit (.bool x), []) := plainElem_bool Try.underlying4 x
theorem plain_bool_inv {P : Program} {e : TypeId} (he : P.underlying e = some .bool) {v : Value} {z : DataW Unit × List MemPlace} (h : plainElem P e v = some z) : ∃ x, v = .bool x ∧ z = (.lit (.bool x), []) := by
  unfold plainElem at h
  rw [he] at h
  cases v <;> simp at h
  exact ⟨_, rfl, h.symm⟩
theorem RB_inv {v : Value} {z : DataW Unit × List MemPlace} (h : plainElem Try.prog TB v = some z) : ∃ x, v = .bool x ∧ z = (.lit (.bool x), []) := plain_bool_inv Try.underlying4 h
/-- the map holds true for the numbers a, and nothing else -/
structure Same (D : Dm) (a : List Int) : Prop where
  has : ∀ v, Maps.has D (kl v) = decide (v ∈ a)
  yes : ∀ v zd, v ∈ a → D.atKey (kl v) zd = .lit (.bool true)
  size : Maps.size D = a.length
section
variable {D : Dm} {a a' : List Int} {v : Int}
theorem Same.new : Same (.map []) [] := ⟨fun v => by simp [Maps.has], fun v zd h => (by cases h), rfl⟩
theorem Same.put (h : Same D a) (hT : Tidy D) (hv : v ∉ a) (hp : a'.Perm (v :: a)) : Same (D.put (kl v) (.lit (.bool true))) a' := by
  refine ⟨fun u => ?_, fun u zd hu => ?_, ?_⟩
  · by_cases e : u = v
    · subst e
      rw [has_put_same hT.isMap (by trivial), eq_comm, decide_eq_true_eq, hp.mem_iff]; simp
    · rw [has_put_other (kl_ne e), h.has, decide_eq_decide, hp.mem_iff, List.mem_cons]
      exact ⟨.inr, fun q => q.elim (fun q => absurd q e) id⟩
  · by_cases e : u = v
    · subst e; exact atKey_put_same hT.isMap (by trivial) _ _
    · rw [atKey_put_other (kl_ne e)]
      exact h.yes u zd ((List.mem_cons.1 (hp.mem_iff.1 hu)).elim (fun q => absurd q e) id)
  · rw [size_put hT, h.has, decide_eq_false hv, if_neg (by decide), h.size, hp.length_eq]; rfl
theorem Same.again (h : Same D a) (hT : Tidy D) (hv : v ∈ a) : Same (D.put (kl v) (.lit (.bool true))) a := by
  refine ⟨fun u => ?_, fun u zd hu => ?_, ?_⟩
  · by_cases e : u = v
    · subst e
      rw [has_put_same hT.isMap (by trivial), decide_eq_true hv]
    · rw [has_put_other (kl_ne e), h.has]
  · by_cases e : u = v
    · subst e; exact atKey_put_same hT.isMap (by trivial) _ _
    · rw [atKey_put_other (kl_ne e)]; exact h.yes u zd hu
  · rw [size_put hT, h.has, decide_eq_true hv, if_pos rfl, h.size]
theorem Same.del (h : Same D a) (hT : Tidy D) (hd : a.Nodup) (hp : (v :: a').Perm a) : Same (D.del (kl v)) a' := by
  have hnd := List.nodup_cons.1 (hp.nodup_iff.2 hd)
  have hv : v ∈ a := hp.mem_iff.1 List.mem_cons_self
  have hm : ∀ u, u ≠ v → (u ∈ a ↔ u ∈ a') := fun u hu => by
    rw [← hp.mem_iff, List.mem_cons]
    exact ⟨fun q => q.elim (fun q => absurd q hu) id, .inr⟩
  refine ⟨fun u => ?_, fun u zd hu => ?_, ?_⟩
  · by_cases e : u = v
    · subst e
      rw [has_del_same, decide_eq_false hnd.1]
    · rw [has_del_other (kl_ne e), h.has, decide_eq_decide]; exact hm u e
  · have e : u ≠ v := fun e => hnd.1 (e ▸ hu)
    rw [atKey_del_other (kl_ne e)]; exact h.yes u zd ((hm u e).2 hu)
  · have h1 := size_del hT (k := kl v)
    rw [h.has, decide_eq_true hv, if_pos rfl, h.size, ← hp.length_eq, List.length_cons] at h1
    omega
theorem Same.none (h : Same D a) (hv : v ∉ a) : D.del (kl v) = D := del_of_not_has (by rw [h.has, decide_eq_false hv])
theorem Same.perm (h : Same D a) (hp : a'.Perm a) : Same D a' := ⟨fun v => by rw [h.has, decide_eq_decide]; exact hp.mem_iff.symm, fun v zd hv => h.yes v zd (hp.mem_iff.1 hv), by rw [h.size, hp.length_eq]⟩
end
theorem look_b {W : World} {bi n : Nat} {D : Dm} {a : List Int} {v : Int} (hm : W.ownsMap Try.prog TI (plainElem Try.prog TB) bi n D) (hS : Same D a) (hv : In64 v) : (Instr.lookup TMB (.map (some bi)) (.int .i64 v) false).run Try.prog W = .ok (.bool (decide (v ∈ a))) W := by
  obtain ⟨u, ps, h1, h2⟩ := hm.lookup law Try.underlying73 (zeroB W) (RB_mk false) (hkey hv)
  obtain ⟨x, rfl, e⟩ := RB_inv h2
  simp only [Prod.mk.injEq] at e
  rw [h1]
  have : x = decide (v ∈ a) := by
    by_cases q : v ∈ a
    · have := e.1
      rw [hS.yes v _ q] at this
      rw [decide_eq_true q]; cases this; rfl
    · have := e.1
      rw [atKey_of_not_has (by rw [hS.has, decide_eq_false q])] at this
      rw [decide_eq_false q]; cases this; rfl
  rw [this]
theorem len_b {W : World} {bi n : Nat} {D : Dm} {a : List Int} (hm : W.ownsMap Try.prog TI (plainElem Try.prog TB) bi n D) (hS : Same D a) (ty : TypeId) : (Builtin.len_ #[TMB] ty #[.map (some bi)]).run Try.prog W = .ok (.int .i64 (a.length : Int)) W := by
  rw [hm.len Try.underlying73 ty, hS.size]
theorem map_only {own : Nat → Prop} {w w' : World} {bi n : Nat} {D : Dm} (h : w.ownsMap Try.prog TI (plainElem Try.prog TB) bi n D) (ho : Only own w w') (hn : ¬ own bi) : w'.ownsMap Try.prog TI (plainElem Try.prog TB) bi n D := by
  obtain ⟨es, clock, e1, e2⟩ := h
  have hl : bi < w.heap.size := (Array.getElem?_eq_some_iff.1 e1).1
  exact ⟨es, clock, (ho.block bi hl hn).trans e1, e2⟩
theorem map_later {w w' : World} {bi n : Nat} {D : Dm} (h : w.ownsMap Try.prog TI (plainElem Try.prog TB) bi n D) (hb : Below w.heap.size w w') : w'.ownsMap Try.prog TI (plainElem Try.prog TB) bi n D := map_only h (Only.of_below (own := fun _ => False) hb) (fun q => q)
abbrev fvN : Value := .func (.func 59) #[] #[]
/-- the law's own things: the queue with the numbers a; the map at block bi -/
def AS (w0 : World) (bq bm bi : Nat) (own : Nat → Prop) (D : Dm) (a : List Int) (M n : Nat) (W : World) : Prop :=
  N.QS own bq bm fvN (fun v => v) a M W ∧ W.ownsMap Try.prog TI (plainElem Try.prog TB) bi n D ∧ Same D a ∧ ¬ own bi ∧ (∀ k, own k → w0.heap.size ≤ k) ∧ w0.heap.size ≤ bi ∧ Below w0.heap.size w0 W
section
variable {w0 W W' : World} {bq bm bi M n M' n' : Nat} {own own' : Nat → Prop} {D D' : Dm} {a a' : List Int}
theorem AS.later (h : AS w0 bq bm bi own D a M n W) (hb : Below W.heap.size W W') : AS w0 bq bm bi own D a M n W' := by
  obtain ⟨h1, h2, h3, h4, h5, h6, h7⟩ := h
  exact ⟨h1.later hb, map_later h2 hb, h3, h4, h5, h6, after h7 hb h7.size⟩
/-- the map turned -/
theorem AS.map (h : AS w0 bq bm bi own D a M n W) (hm : W'.ownsMap Try.prog TI (plainElem Try.prog TB) bi n' D') (hg : W.grownBy W' (some bi)) (hS : Same D' a) : AS w0 bq bm bi own D' a M n' W' := by
  obtain ⟨h1, h2, h3, h4, h5, h6, h7⟩ := h
  have ho : Only (fun k => k = bi) W W' := (Only.refl _ W).grown hg (fun k e _ => by cases e; rfl)
  exact ⟨h1.only ho (fun k hk e => h4 (e ▸ hk)), hm, hS, h4, h5, h6, h7.trans (ho.below h7.size (fun k e => e ▸ h6))⟩
/-- the queue turned -/
theorem AS.queue (h : AS w0 bq bm bi own D a M n W) (ho : Only own W W') (hq : N.QS own' bq bm fvN (fun v => v) a' M' W') (hs : ∀ k, own' k → own k ∨ W.heap.size ≤ k) : N.QS own' bq bm fvN (fun v => v) a' M' W' ∧ W'.ownsMap Try.prog TI (plainElem Try.prog TB) bi n D ∧ ¬ own' bi ∧ (∀ k, own' k → w0.heap.size ≤ k) ∧ w0.heap.size ≤ bi ∧ Below w0.heap.size w0 W' := by
  obtain ⟨h1, h2, h3, h4, h5, h6, h7⟩ := h
  have hl : bi < W.heap.size := h2.lt
  exact ⟨hq, map_only h2 ho h4, fun q => (hs _ q).elim h4 (fun q => by omega), fun k hk => (hs k hk).elim (h5 k) (fun q => Nat.le_trans h7.size q), h6, h7.trans (ho.below h7.size h5)⟩
end
/-- what is left of a loop's rounds; no 'match' in the open -/
def upToA (n : Nat) : Value → Nat
  | .int _ j => n - j.toNat
  | _ => 0
end Go.Proofs.Ytbaepjjanjhliaa.drt
