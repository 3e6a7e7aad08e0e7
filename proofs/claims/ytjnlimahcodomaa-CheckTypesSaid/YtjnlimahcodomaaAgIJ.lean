/- A region that draws its order, by an invariant of what has come up: each operation that may come up keeps it. A law of no program. -/
import Derived.Test.YtjnlimahcodomaaAg
namespace Go.Proofs.Ytjnlimahcodomaa.ag
set_option linter.unusedVariables false
open Go.RowKit
variable {P : Program} {ops : Array Oper}
/-- what has come up has come up behind all that it waits for -/
def Closed (ops : Array Oper) (b : Nat → Bool) : Prop := ∀ (j : Nat) o, ops[j]? = some o → b j = true → ∀ k, waits o k = true → b k = true
theorem any_inv {Q : Exit → Act → World → Prop} (I : (Nat → Bool) → Act → World → Prop) (hx : Lex ops)
    (hI : ∀ (b : Nat → Bool) (i : Nat) (o : Oper) (a : Act) (w : World), ops[i]? = some o → b i = false → Closed ops b → (∀ k, waits o k = true → b k = true) → I b a w → wpOp P ops Q i (I (updB b i)) a w)
    (hend : ∀ (b : Nat → Bool) (a : Act) (w : World), (∀ j, j < ops.size → b j = true) → I b a w → Q .normal a w) :
    ∀ (fuel : Nat) (listed : Array Bool) (a : Act) (w : World), listed.size = ops.size → left ops.size (bOf listed) ≤ fuel → Closed ops (bOf listed) → I (bOf listed) a w → wpAny P .any ops Q fuel listed a w := by
  have ends : ∀ (listed : Array Bool) (a : Act) (w : World), listed.size = ops.size → I (bOf listed) a w → Region.ready .any ops listed = [] → Q .normal a w := by
    intro listed a w hsz hi hr
    have all : ∀ n j, j < n → j < ops.size → bOf listed j = true := by
      intro n
      induction n with
      | zero => intro j hj; omega
      | succ n ih =>
        intro j hj hjs
        by_cases hb : bOf listed j = true
        · exact hb
        · exfalso
          have hm : j ∈ Region.ready .any ops listed := by
            refine mem_ready.2 ⟨by simpa [bOf] using hb, ops[j], Array.getElem?_eq_getElem hjs, fun e he hbd => ?_⟩
            have hlt := hx.back j _ (Array.getElem?_eq_getElem hjs) e.on (waits_iff.2 ⟨e, he, hbd, rfl⟩)
            have := ih e.on (by omega) (by omega)
            have hl : e.on < listed.size := by omega
            simp only [bOf, Array.getD_eq_getD_getElem?, Array.getElem?_eq_getElem hl, Option.getD_some] at this ⊢
            exact this
          rw [hr] at hm; cases hm
    exact hend _ a w (fun j hj => all ops.size j hj hj) hi
  intro fuel
  induction fuel with
  | zero =>
    intro listed a w hsz hf hc hi
    have hr : Region.ready .any ops listed = [] := by
      rw [List.eq_nil_iff_forall_not_mem]
      intro j hj
      obtain ⟨h0, o, ho, -⟩ := mem_ready.1 hj
      have hlt := (Array.getElem?_eq_some_iff.1 ho).1
      have h1 : 0 < left ops.size (bOf listed) := by
        unfold left
        rw [List.countP_pos_iff]
        exact ⟨j, List.mem_range.2 hlt, by simp [bOf, h0]⟩
      omega
    exact ⟨hr, ends listed a w hsz hi hr⟩
  | succ fuel ih =>
    intro listed a w hsz hf hc hinv
    refine ⟨fun hr => ends listed a w hsz hinv hr, fun i hi => ?_⟩
    obtain ⟨h0, o, ho, hdeps⟩ := mem_ready.1 hi
    have hlt := (Array.getElem?_eq_some_iff.1 ho).1
    have hbi : bOf listed i = false := h0
    have hwb : ∀ j, waits o j = true → bOf listed j = true := by
      intro j hw
      obtain ⟨e, he, hb, rfl⟩ := waits_iff.1 hw
      have h := hdeps e he hb
      have hl : e.on < listed.size := by have := hx.back i o ho _ hw; omega
      simp only [bOf, Array.getD_eq_getD_getElem?, Array.getElem?_eq_getElem hl, Option.getD_some] at h ⊢
      exact h
    have hset : ∀ j, bOf (listed.setIfInBounds i true) j = updB (bOf listed) i j := by
      intro j
      unfold bOf updB
      by_cases e : i = j
      · subst e; simp [hsz, hlt]
      · rw [getD_set_ne true e, if_neg (Ne.symm e)]
    have hsetf : bOf (listed.setIfInBounds i true) = updB (bOf listed) i := funext hset
    have hleft : left ops.size (bOf (listed.setIfInBounds i true)) ≤ fuel := by
      have : left ops.size (bOf (listed.setIfInBounds i true)) < left ops.size (bOf listed) := by
        unfold left
        refine countP_lt _ (fun j hj => ?_) i (List.mem_range.2 hlt) (by simp [hbi]) (by rw [hset]; simp [updB])
        rw [hset] at hj
        unfold updB at hj
        split at hj
        · simp at hj
        · exact hj
      omega
    have hcl : Closed ops (bOf (listed.setIfInBounds i true)) := by
      intro j oj hoj hb k hw
      rw [hset] at hb ⊢
      unfold updB at hb ⊢
      split
      · rfl
      · rename_i ek
        by_cases e : j = i
        · subst e
          rw [ho] at hoj; cases hoj
          exact hwb k hw
        · rw [if_neg e] at hb
          exact hc j oj hoj hb k hw
    refine wpOp_mono (fun a' w' h => ih (listed.setIfInBounds i true) a' w' (by simpa using hsz) hleft hcl (by rw [hsetf]; exact h)) (hI (bOf listed) i o a w ho hbi hc hwb hinv)
/-- the region, by an invariant -/
theorem region_inv {id : Nat} {Q : Exit → Act → World → Prop} {a : Act} {w : World} {l : List Oper} (I : (Nat → Bool) → Act → World → Prop) (hm : P.follows .mixedOrders = true) (hB : Region.lexB .any l.toArray = true)
    (h0 : I (fun j => decide (l.length ≤ j)) a w.drew)
    (hI : ∀ (b : Nat → Bool) (i : Nat) (o : Oper) (a : Act) (w : World), l[i]? = some o → b i = false → Closed l.toArray b → (∀ k, waits o k = true → b k = true) → I b a w → wpOp P l.toArray Q i (I (updB b i)) a w)
    (hend : ∀ (b : Nat → Bool) (a : Act) (w : World), (∀ j, j < l.length → b j = true) → I b a w → Q .normal a w) : (Code.region id l.toArray true).wp P Q a w := by
  refine wp_region_any hm (any_inv I (lex_of hB) (fun b i o a w ho => hI b i o a w (by simpa using ho)) (fun b a w hb => hend b a w (fun j hj => hb j (by simpa using hj))) _ _ _ _ (by simp) (by
    unfold left
    exact Nat.le_trans List.countP_le_length (by simp)) (fun j o ho hb => ?_) ?_)
  · have hj := (Array.getElem?_eq_some_iff.1 ho).1
    rw [bOf_none hj] at hb; cases hb
  · have e : bOf (Array.replicate l.toArray.size false) = fun j => decide (l.length ≤ j) := by
      funext j
      by_cases hj : j < l.toArray.size
      · rw [bOf_none hj]; symm; simp only [decide_eq_false_iff_not]; simp at hj; omega
      · unfold bOf
        rw [Array.getD_eq_getD_getElem?, Array.getElem?_eq_none (by simpa using hj)]
        symm; simp at hj ⊢; exact hj
    rw [e]; exact h0
end Go.Proofs.Ytjnlimahcodomaa.ag
/- A region that draws its order, by an invariant of what has come up and of the values: each operation, in the frame of the text's order, keeps it. A law of no program. -/
namespace Go.Proofs.Ytjnlimahcodomaa.ag
set_option linter.unusedVariables false
open Go.RowKit
variable {P : Program}
/-- each operation keeps J: xs are the values, a the frame in the text's order -/
def ObJ (P : Program) (ops : Array Oper) (J : (Nat → Bool) → (Nat → Value) → World → Prop) (xs : Nat → Value) : Nat → List Oper → Act → Prop
  | _, [], _ => True
  | i, o :: l, a => (∀ (b : Nat → Bool) (w : World), b i = false → (∀ k, waits o k = true → b k = true) → J b xs w → Region.wanted o (yielded ops a.tmps) = true ∧ does P o a w (fun v w' => J (updB b i) (upd xs i v) w')) ∧ ObJ P ops J xs (i + 1) l (a.put o.dst (xs i))
/-- the frame at the end -/
def frameJ (xs : Nat → Value) : Nat → List Oper → Act → Act
  | _, [], a => a
  | i, o :: l, a => frameJ xs (i + 1) l (a.put o.dst (xs i))
theorem puts_none {ops : Array Oper} {xs : Nat → Value} {b : Nat → Bool} {a : Act} : ∀ k, (∀ j, j < k → b j = false) → puts ops xs b k a = a := by
  intro k h
  induction k with
  | zero => rfl
  | succ k ih => simp only [puts, h k (by omega), Bool.false_eq_true, if_false]; exact ih (fun j hj => h j (by omega))
theorem obJ_at {ops : Array Oper} {J : (Nat → Bool) → (Nat → Value) → World → Prop} {xs : Nat → Value} {a0 : Act} : ∀ (l : List Oper) (i : Nat), (∀ j, ops[i + j]? = l[j]?) → ObJ P ops J xs i l (puts ops xs (fun _ => true) i a0) → ∀ (j : Nat) (o : Oper), l[j]? = some o → ∀ (b : Nat → Bool) (w : World), b (i + j) = false → (∀ k, waits o k = true → b k = true) → J b xs w → Region.wanted o (yielded ops (puts ops xs (fun _ => true) (i + j) a0).tmps) = true ∧ does P o (puts ops xs (fun _ => true) (i + j) a0) w (fun v w' => J (updB b (i + j)) (upd xs (i + j) v) w')
  | [], i, hl, h, j, o, ho => by simp at ho
  | o' :: l, i, hl, h, 0, o, ho => by
    simp at ho
    subst ho
    exact h.1
  | o' :: l, i, hl, h, j + 1, o, ho => by
    have e : i + (j + 1) = i + 1 + j := by omega
    rw [e]
    have hd : dstOf ops i = o'.dst := by
      unfold dstOf
      have := hl 0
      simp at this
      rw [this]; rfl
    refine obJ_at l (i + 1) (fun j => ?_) ?_ j o (by simpa using ho)
    · have := hl (j + 1)
      rw [← Nat.add_assoc, Nat.add_right_comm] at this
      simpa using this
    · have := h.2
      simp only [puts, if_true]
      rw [hd]; exact this
theorem frameJ_puts {ops : Array Oper} {xs : Nat → Value} {a0 : Act} : ∀ (l : List Oper) (i : Nat), (∀ j, ops[i + j]? = l[j]?) → puts ops xs (fun _ => true) (i + l.length) a0 = frameJ xs i l (puts ops xs (fun _ => true) i a0)
  | [], i, hl => rfl
  | o :: l, i, hl => by
    have hd : dstOf ops i = o.dst := by
      unfold dstOf
      have := hl 0
      simp at this
      rw [this]; rfl
    have ih := frameJ_puts (a0 := a0) (xs := xs) l (i + 1) (fun j => by
      have := hl (j + 1)
      rw [← Nat.add_assoc, Nat.add_right_comm] at this
      simpa using this)
    rw [List.length_cons, show i + (l.length + 1) = i + 1 + l.length by omega, ih]
    show frameJ xs (i + 1) l _ = frameJ xs (i + 1) l _
    simp only [puts, if_true]
    rw [hd]
/-- the region -/
theorem region_J {id : Nat} {Q : Exit → Act → World → Prop} {a0 : Act} {w : World} {l : List Oper} (J : (Nat → Bool) → (Nat → Value) → World → Prop) (hm : P.follows .mixedOrders = true) (hB : Region.lexB .any l.toArray = true)
    (h0 : J (fun j => decide (l.length ≤ j)) (fun _ => undef) w.drew)
    (hI : ∀ xs, ObJ P l.toArray J xs 0 l a0)
    (hend : ∀ (b : Nat → Bool) (xs : Nat → Value) (w : World), (∀ j, j < l.length → b j = true) → J b xs w → Q .normal (frameJ xs 0 l a0) w) : (Code.region id l.toArray true).wp P Q a0 w := by
  have hx := lex_of hB
  have hla : ∀ j, l.toArray[0 + j]? = l[j]? := fun j => by rw [Nat.zero_add]; simp
  have hsz : l.toArray.size = l.length := by simp
  refine region_inv (fun b a w => ∃ xs, a = puts l.toArray xs b l.toArray.size a0 ∧ J b xs w) hm hB ?_ ?_ ?_
  · exact ⟨fun _ => undef, (puts_none _ (fun j hj => by simp at hj ⊢; exact hj)).symm, h0⟩
  · rintro b i o a w ho hbi hcl hwb ⟨xs, rfl, hJ⟩
    have ho' : l.toArray[i]? = some o := by simpa using ho
    have hlt := (Array.getElem?_eq_some_iff.1 ho').1
    have hsel := fun cs b => hx.sel i o cs b ho'
    have hlo : ∀ j, j < i → b j = false → ∀ t, dstOf l.toArray j = some t → t ∉ o.looksAt l.toArray := by
      intro j hj hb t ht
      have hjs : j < l.toArray.size := by omega
      have hoj := Array.getElem?_eq_getElem hjs
      rcases hx.free j i _ o hoj ho' hj with hw | hap
      · rw [hwb j hw] at hb; cases hb
      · exact (Oper.apart_spec hap).1 t (by unfold dstOf at ht; rw [hoj] at ht; exact ht)
    have hhi : ∀ j, i < j → b j = true → (∀ t, dstOf l.toArray j = some t → t ∉ o.looksAt l.toArray) ∧ (∀ t, dstOf l.toArray i = some t → dstOf l.toArray j ≠ some t) := by
      intro j hj hb
      by_cases hjs : j < l.toArray.size
      · have hoj := Array.getElem?_eq_getElem hjs
        rcases hx.free i j o _ ho' hoj hj with hw | hap
        · have := hcl j _ hoj hb i hw; rw [hbi] at this; cases this
        · obtain ⟨-, h2, h3⟩ := Oper.apart_spec hap
          unfold dstOf
          rw [hoj, ho']
          exact ⟨h3, h2⟩
      · have : dstOf l.toArray j = none := by unfold dstOf; rw [Array.getElem?_eq_none (by omega)]; rfl
        exact ⟨fun t ht => (by rw [this] at ht; cases ht), fun t _ => by rw [this]; simp⟩
    have hag := puts_agree (ops := l.toArray) hsel xs b i a0 hlo (fun j hj hb => by
      rcases Nat.lt_or_ge i j with h | h
      · exact (hhi j h hb).1
      · have : j = i := by omega
        subst this; rw [hbi] at hb; cases hb) l.toArray.size
    rw [Nat.min_eq_right (Nat.le_of_lt hlt)] at hag
    obtain ⟨e1, e2⟩ := hag []
    simp only [List.foldl_nil] at e1 e2
    have hdst : dstOf l.toArray i = o.dst := by unfold dstOf; rw [ho']; rfl
    obtain ⟨hw, hd⟩ := obJ_at l 0 hla (hI xs) i o ho b w (by rw [Nat.zero_add]; exact hbi) hwb hJ
    rw [Nat.zero_add] at hw hd
    unfold wpOp
    simp only [ho']
    rw [e2, if_pos hw]
    left
    refine wp_of_does (K := fun v w' => J (updB b i) (upd xs i v) w') ?_ (fun v w' hk => ⟨upd xs i v, ?_, hk⟩)
    · unfold does
      rw [e1]
      exact hd
    · rw [← hdst]
      exact puts_insert (ops := l.toArray) xs (upd xs i v) b i v a0 hbi (by simp [upd]) (fun j hne _ => by simp [upd, hne]) (fun j hj hb => (hhi j hj hb).2) l.toArray.size hlt
  · rintro b a w hb ⟨xs, rfl, hJ⟩
    rw [puts_all xs b a0 l.toArray.size (fun j hj => hb j (by simpa using hj))]
    have h := frameJ_puts (ops := l.toArray) (xs := xs) (a0 := a0) l 0 hla
    rw [Nat.zero_add] at h
    rw [hsz, h]
    exact hend b xs w hb hJ
end Go.Proofs.Ytjnlimahcodomaa.ag
