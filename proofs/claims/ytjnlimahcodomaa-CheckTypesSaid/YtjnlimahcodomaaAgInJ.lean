/- Regions that draw their order, inside a round of a range over a function: the law of Ag and AgC there. A law of no program. -/
import Derived.Test.YtjnlimahcodomaaAgCx
import Derived.OrdersIn
import Derived.TacticsIn
import Derived.Test.YtjnlimahcodomaaAgIJ
namespace Go.Proofs.Ytjnlimahcodomaa.ag
set_option linter.unusedVariables false
open Go.RowKit
def noDefer (o : Oper) : Bool := match o.op with
  | .defer _ => false
  | _ => true
section
variable {P : Program} {ops : Array Oper}
theorem noDefer_spec {l : List Oper} (h : l.all noDefer = true) (i : Nat) (o : Oper) (ho : l.toArray[i]? = some o) : ∀ c, o.op ≠ .defer c := by
  intro c hc
  have hm : o ∈ l := by
    rw [List.mem_iff_getElem?]
    exact ⟨i, by simpa using ho⟩
  have := List.all_eq_true.1 h o hm
  unfold noDefer at this
  rw [hc] at this
  cases this
theorem wpIn_of_does {lr n : Nat} {o : Oper} (hnd : ∀ c, o.op ≠ .defer c) {a : Act} {w : World} {K : Value → World → Prop} {K' : Act → World → Prop} {Q : Exit → Act → World → Prop} (h : does P o a w K) (hk : ∀ v w', K v w' → K' (a.put o.dst v) w') : o.wpIn (Fence.wide.inRound lr) n P a w K' Q := by
  unfold does at h
  unfold Oper.wpIn
  refine ⟨fun _ _ => trivial, ?_⟩
  rw [Fence.inRound_round, Oper.semAt_some lr a.eval o hnd]
  generalize (execOp a.eval o).run P w = r at *
  cases r with
  | halt x w' => simp only [upon] at h
  | ok x w' =>
    cases x <;> simp only [upon] at h <;> simp only [Oper.uponIn]
    case value u => exact hk _ _ h
    case skip => exact hk _ _ h
    case enter f args => exact ⟨(fun hd => (by cases hd)), (callsIn_wide (n := n - 1)).2 (h.mono fun e w'' ⟨v, he, hv⟩ => by subst he; exact hk _ _ hv)⟩
end
end Go.Proofs.Ytjnlimahcodomaa.ag
/- A region that draws its order, inside a round of a range over a function, by an invariant of what has come up and of the values. A law of no program. -/
namespace Go.Proofs.Ytjnlimahcodomaa.ag
set_option linter.unusedVariables false
open Go.RowKit
variable {P : Program}
theorem any_J_in (lr n : Nat) {ops : Array Oper} (hnd : ∀ (i : Nat) o, ops[i]? = some o → ∀ c, o.op ≠ .defer c) {Q : Exit → Act → World → Prop} {a0 : Act} (J : (Nat → Bool) → (Nat → Value) → World → Prop) (hx : Lex ops)
    (hI : ∀ (xs : Nat → Value) (i : Nat) (o : Oper), ops[i]? = some o → ∀ (b : Nat → Bool) (w : World), b i = false → (∀ k, waits o k = true → b k = true) → J b xs w → Region.wanted o (yielded ops (puts ops xs (fun _ => true) i a0).tmps) = true ∧ does P o (puts ops xs (fun _ => true) i a0) w (fun v w' => J (updB b i) (upd xs i v) w'))
    (hend : ∀ (b : Nat → Bool) (xs : Nat → Value) (w : World), (∀ j, j < ops.size → b j = true) → J b xs w → Q .normal (puts ops xs (fun _ => true) ops.size a0) w) :
    ∀ (fuel : Nat) (listed : Array Bool) (xs : Nat → Value) (w : World), listed.size = ops.size → left ops.size (bOf listed) ≤ fuel → Closed ops (bOf listed) → J (bOf listed) xs w → wpAnyIn (Fence.wide.inRound lr) n P .any ops Q fuel listed (puts ops xs (bOf listed) ops.size a0) w := by
  have ends : ∀ (listed : Array Bool) (xs : Nat → Value) (w : World), listed.size = ops.size → J (bOf listed) xs w → Region.ready .any ops listed = [] → Q .normal (puts ops xs (bOf listed) ops.size a0) w := by
    intro listed xs w hsz hi hr
    have all : ∀ n j, j < n → j < ops.size → bOf listed j = true := by
      intro n
      induction n with
      | zero => intro j hj; omega
      | succ n ih =>
        intro j hj hjs
        by_cases hb : bOf listed j = true
        · exact hb
        · exfalso
          have hm : j ∈ Region.ready .any ops listed := by
            refine mem_ready.2 ⟨by simpa [bOf] using hb, ops[j], Array.getElem?_eq_getElem hjs, fun e he hbd => ?_⟩
            have hlt := hx.back j _ (Array.getElem?_eq_getElem hjs) e.on (waits_iff.2 ⟨e, he, hbd, rfl⟩)
            have := ih e.on (by omega) (by omega)
            have hl : e.on < listed.size := by omega
            simp only [bOf, Array.getD_eq_getD_getElem?, Array.getElem?_eq_getElem hl, Option.getD_some] at this ⊢
            exact this
          rw [hr] at hm; cases hm
    rw [puts_all xs _ a0 ops.size (fun j hj => all ops.size j hj hj)]
    exact hend _ xs w (fun j hj => all ops.size j hj hj) hi
  intro fuel
  induction fuel with
  | zero =>
    intro listed xs w hsz hf hc hi
    have hr : Region.ready .any ops listed = [] := by
      rw [List.eq_nil_iff_forall_not_mem]
      intro j hj
      obtain ⟨h0, o, ho, -⟩ := mem_ready.1 hj
      have hlt := (Array.getElem?_eq_some_iff.1 ho).1
      have h1 : 0 < left ops.size (bOf listed) := by
        unfold left
        rw [List.countP_pos_iff]
        exact ⟨j, List.mem_range.2 hlt, by simp [bOf, h0]⟩
      omega
    exact ⟨hr, ends listed xs w hsz hi hr⟩
  | succ fuel ih =>
    intro listed xs w hsz hf hc hinv
    refine ⟨fun hr => ends listed xs w hsz hinv hr, fun i hi => ?_⟩
    obtain ⟨h0, o, ho, hdeps⟩ := mem_ready.1 hi
    have hlt := (Array.getElem?_eq_some_iff.1 ho).1
    have hbi : bOf listed i = false := h0
    have hwb : ∀ j, waits o j = true → bOf listed j = true := by
      intro j hw
      obtain ⟨e, he, hb, rfl⟩ := waits_iff.1 hw
      have h := hdeps e he hb
      have hl : e.on < listed.size := by have := hx.back i o ho _ hw; omega
      simp only [bOf, Array.getD_eq_getD_getElem?, Array.getElem?_eq_getElem hl, Option.getD_some] at h ⊢
      exact h
    have hset : ∀ j, bOf (listed.setIfInBounds i true) j = updB (bOf listed) i j := by
      intro j
      unfold bOf updB
      by_cases e : i = j
      · subst e; simp [hsz, hlt]
      · rw [getD_set_ne true e, if_neg (Ne.symm e)]
    have hsetf : bOf (listed.setIfInBounds i true) = updB (bOf listed) i := funext hset
    have hleft : left ops.size (bOf (listed.setIfInBounds i true)) ≤ fuel := by
      have : left ops.size (bOf (listed.setIfInBounds i true)) < left ops.size (bOf listed) := by
        unfold left
        refine countP_lt _ (fun j hj => ?_) i (List.mem_range.2 hlt) (by simp [hbi]) (by rw [hset]; simp [updB])
        rw [hset] at hj
        unfold updB at hj
        split at hj
        · simp at hj
        · exact hj
      omega
    have hcl : Closed ops (bOf (listed.setIfInBounds i true)) := by
      intro j oj hoj hb k hw
      rw [hset] at hb ⊢
      unfold updB at hb ⊢
      split
      · rfl
      · rename_i ek
        by_cases e : j = i
        · subst e
          rw [ho] at hoj; cases hoj
          exact hwb k hw
        · rw [if_neg e] at hb
          exact hc j oj hoj hb k hw
    have hsel := fun cs b => hx.sel i o cs b ho
    have hlo : ∀ j, j < i → bOf listed j = false → ∀ t, dstOf ops j = some t → t ∉ o.looksAt ops := by
      intro j hj hb t ht
      have hjs : j < ops.size := by omega
      have hoj := Array.getElem?_eq_getElem hjs
      rcases hx.free j i _ o hoj ho hj with hw | hap
      · rw [hwb j hw] at hb; cases hb
      · exact (Oper.apart_spec hap).1 t (by unfold dstOf at ht; rw [hoj] at ht; exact ht)
    have hhi : ∀ j, i < j → bOf listed j = true → (∀ t, dstOf ops j = some t → t ∉ o.looksAt ops) ∧ (∀ t, dstOf ops i = some t → dstOf ops j ≠ some t) := by
      intro j hj hb
      by_cases hjs : j < ops.size
      · have hoj := Array.getElem?_eq_getElem hjs
        rcases hx.free i j o _ ho hoj hj with hw | hap
        · have := hc j _ hoj hb i hw; rw [hbi] at this; cases this
        · obtain ⟨-, h2, h3⟩ := Oper.apart_spec hap
          unfold dstOf
          rw [hoj, ho]
          exact ⟨h3, h2⟩
      · have : dstOf ops j = none := by unfold dstOf; rw [Array.getElem?_eq_none (by omega)]; rfl
        exact ⟨fun t ht => (by rw [this] at ht; cases ht), fun t _ => by rw [this]; simp⟩
    have hag := puts_agree (ops := ops) hsel xs (bOf listed) i a0 hlo (fun j hj hb => by
      rcases Nat.lt_or_ge i j with h | h
      · exact (hhi j h hb).1
      · have : j = i := by omega
        subst this; rw [hbi] at hb; cases hb) ops.size
    rw [Nat.min_eq_right (Nat.le_of_lt hlt)] at hag
    obtain ⟨e1, e2⟩ := hag []
    simp only [List.foldl_nil] at e1 e2
    have hdst : dstOf ops i = o.dst := by unfold dstOf; rw [ho]; rfl
    obtain ⟨hw, hd⟩ := hI xs i o ho (bOf listed) w hbi hwb hinv
    unfold wpOpIn
    simp only [ho]
    rw [e2, if_pos hw]
    refine wpIn_of_does (lr := lr) (n := n) (hnd i o ho) (K := fun v w' => J (updB (bOf listed) i) (upd xs i v) w') ?_ (fun v w' hk => ?_)
    · unfold does
      rw [e1]
      exact hd
    · have hp := puts_insert (ops := ops) xs (upd xs i v) (bOf listed) i v a0 hbi (by simp [upd]) (fun j hne _ => by simp [upd, hne]) (fun j hj hb => (hhi j hj hb).2) ops.size hlt
      rw [← hdst, hp, ← hsetf]
      exact ih (listed.setIfInBounds i true) (upd xs i v) w' (by simpa using hsz) hleft hcl (by rw [hsetf]; exact hk)
/-- the region, in a round -/
theorem region_J_in (lr n : Nat) {id : Nat} {Q : Exit → Act → World → Prop} {a0 : Act} {w : World} {l : List Oper} (J : (Nat → Bool) → (Nat → Value) → World → Prop) (hnd : l.all noDefer = true) (hm : P.follows .mixedOrders = true) (hB : Region.lexB .any l.toArray = true)
    (h0 : J (fun j => decide (l.length ≤ j)) (fun _ => undef) w.drew)
    (hI : ∀ xs, ObJ P l.toArray J xs 0 l a0)
    (hend : ∀ (b : Nat → Bool) (xs : Nat → Value) (w : World), (∀ j, j < l.length → b j = true) → J b xs w → Q .normal (frameJ xs 0 l a0) w) : (Code.region id l.toArray true).wpIn (Fence.wide.inRound lr) n P Q a0 w := by
  have hx := lex_of hB
  have hla : ∀ j, l.toArray[0 + j]? = l[j]? := fun j => by rw [Nat.zero_add]; simp
  have hsz : l.toArray.size = l.length := by simp
  refine wpIn_region_any hm ?_
  have hb0 : bOf (Array.replicate l.toArray.size false) = fun j => decide (l.length ≤ j) := by
    funext j
    by_cases hj : j < l.toArray.size
    · rw [bOf_none hj]; symm; simp only [decide_eq_false_iff_not]; simp at hj; omega
    · unfold bOf
      rw [Array.getD_eq_getD_getElem?, Array.getElem?_eq_none (by simpa using hj)]
      symm; simp at hj ⊢; exact hj
  have := any_J_in lr n (fun i o ho => noDefer_spec hnd i o ho) (Q := Q) (a0 := a0) J hx
    (fun xs i o ho b w hbi hwb hJ => by
      have := obJ_at l 0 hla (hI xs) i o (by simpa using ho) b w (by rw [Nat.zero_add]; exact hbi) hwb hJ
      rw [Nat.zero_add] at this
      exact this)
    (fun b xs w hb hJ => by
      have h := frameJ_puts (ops := l.toArray) (xs := xs) (a0 := a0) l 0 hla
      rw [Nat.zero_add] at h
      rw [hsz, h]
      exact hend b xs w (fun j hj => hb j (by rw [hsz]; exact hj)) hJ)
    l.toArray.size (Array.replicate l.toArray.size false) (fun _ => undef) w.drew (by simp) (by
      unfold left
      exact Nat.le_trans List.countP_le_length (by simp))
      (fun j o ho hb => by
        have hj := (Array.getElem?_eq_some_iff.1 ho).1
        rw [bOf_none hj] at hb; cases hb)
      (by rw [hb0]; exact h0)
  rw [puts_none _ (fun j hj => bOf_none hj)] at this
  exact this
end Go.Proofs.Ytjnlimahcodomaa.ag
