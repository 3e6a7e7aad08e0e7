/- A region that draws its order, by an invariant of what has come up: each operation that may come up keeps it. A law of no program. -/
import Derived.Test.YtmbafcfoboknkaaAg
namespace Go.Proofs.Ytmbafcfoboknkaa.ag
set_option linter.unusedVariables false
open Go.RowKit
variable {P : Program} {ops : Array Oper}

/-- what has come up has come up behind all that it waits for -/
def Closed (ops : Array Oper) (b : Nat → Bool) : Prop := ∀ (j : Nat) o, ops[j]? = some o → b j = true → ∀ k, waits o k = true → b k = true
theorem any_inv {Q : Exit → Act → World → Prop} (I : (Nat → Bool) → Act → World → Prop) (hx : Lex ops)
    (hI : ∀ (b : Nat → Bool) (i : Nat) (o : Oper) (a : Act) (w : World), ops[i]? = some o → b i = false → Closed ops b → (∀ k, waits o k = true → b k = true) → I b a w → wpOp P ops Q i (I (updB b i)) a w)
    (hend : ∀ (b : Nat → Bool) (a : Act) (w : World), (∀ j, j < ops.size → b j = true) → I b a w → Q .normal a w) :
    ∀ (fuel : Nat) (listed : Array Bool) (a : Act) (w : World), listed.size = ops.size → left ops.size (bOf listed) ≤ fuel → Closed ops (bOf listed) → I (bOf listed) a w → wpAny P .any ops Q fuel listed a w := by
  have ends : ∀ (listed : Array Bool) (a : Act) (w : World), listed.size = ops.size → I (bOf listed) a w → Region.ready .any ops listed = [] → Q .normal a w := by
    intro listed a w hsz hi hr
    have all : ∀ n j, j < n → j < ops.size → bOf listed j = true := by
      intro n
      induction n with
      | zero => intro j hj; omega
      | succ n ih =>
        intro j hj hjs
        by_cases hb : bOf listed j = true
        · exact hb
        · exfalso
          have hm : j ∈ Region.ready .any ops listed := by
            refine mem_ready.2 ⟨by simpa [bOf] using hb, ops[j], Array.getElem?_eq_getElem hjs, fun e he hbd => ?_⟩
            have hlt := hx.back j _ (Array.getElem?_eq_getElem hjs) e.on (waits_iff.2 ⟨e, he, hbd, rfl⟩)
            have := ih e.on (by omega) (by omega)
            have hl : e.on < listed.size := by omega
            simp only [bOf, Array.getD_eq_getD_getElem?, Array.getElem?_eq_getElem hl, Option.getD_some] at this ⊢
            exact this
          rw [hr] at hm; cases hm
    exact hend _ a w (fun j hj => all ops.size j hj hj) hi
  intro fuel
  induction fuel with
  | zero =>
    intro listed a w hsz hf hc hi
    have hr : Region.ready .any ops listed = [] := by
      rw [List.eq_nil_iff_forall_not_mem]
      intro j hj
      obtain ⟨h0, o, ho, -⟩ := mem_ready.1 hj
      have hlt := (Array.getElem?_eq_some_iff.1 ho).1
      have h1 : 0 < left ops.size (bOf listed) := by
        unfold left
        rw [List.countP_pos_iff]
        exact ⟨j, List.mem_range.2 hlt, by simp [bOf, h0]⟩
      omega
    exact ⟨hr, ends listed a w hsz hi hr⟩
  | succ fuel ih =>
    intro listed a w hsz hf hc hinv
    refine ⟨fun hr => ends listed a w hsz hinv hr, fun i hi => ?_⟩
    obtain ⟨h0, o, ho, hdeps⟩ := mem_ready.1 hi
    have hlt := (Array.getElem?_eq_some_iff.1 ho).1
    have hbi : bOf listed i = false := h0
    have hwb : ∀ j, waits o j = true → bOf listed j = true := by
      intro j hw
      obtain ⟨e, he, hb, rfl⟩ := waits_iff.1 hw
      have h := hdeps e he hb
      have hl : e.on < listed.size := by have := hx.back i o ho _ hw; omega
      simp only [bOf, Array.getD_eq_getD_getElem?, Array.getElem?_eq_getElem hl, Option.getD_some] at h ⊢
      exact h
    have hset : ∀ j, bOf (listed.setIfInBounds i true) j = updB (bOf listed) i j := by
      intro j
      unfold bOf updB
      by_cases e : i = j
      · subst e; simp [hsz, hlt]
      · rw [getD_set_ne true e, if_neg (Ne.symm e)]
    have hsetf : bOf (listed.setIfInBounds i true) = updB (bOf listed) i := funext hset
    have hleft : left ops.size (bOf (listed.setIfInBounds i true)) ≤ fuel := by
      have : left ops.size (bOf (listed.setIfInBounds i true)) < left ops.size (bOf listed) := by
        unfold left
        refine countP_lt _ (fun j hj => ?_) i (List.mem_range.2 hlt) (by simp [hbi]) (by rw [hset]; simp [updB])
        rw [hset] at hj
        unfold updB at hj
        split at hj
        · simp at hj
        · exact hj
      omega
    have hcl : Closed ops (bOf (listed.setIfInBounds i true)) := by
      intro j oj hoj hb k hw
      rw [hset] at hb ⊢
      unfold updB at hb ⊢
      split
      · rfl
      · rename_i ek
        by_cases e : j = i
        · subst e
          rw [ho] at hoj; cases hoj
          exact hwb k hw
        · rw [if_neg e] at hb
          exact hc j oj hoj hb k hw
    refine wpOp_mono (fun a' w' h => ih (listed.setIfInBounds i true) a' w' (by simpa using hsz) hleft hcl (by rw [hsetf]; exact h)) (hI (bOf listed) i o a w ho hbi hc hwb hinv)
/-- the region, by an invariant -/
theorem region_inv {id : Nat} {Q : Exit → Act → World → Prop} {a : Act} {w : World} {l : List Oper} (I : (Nat → Bool) → Act → World → Prop) (hm : P.follows .mixedOrders = true) (hB : Region.lexB .any l.toArray = true)
    (h0 : I (fun j => decide (l.length ≤ j)) a w.drew)
    (hI : ∀ (b : Nat → Bool) (i : Nat) (o : Oper) (a : Act) (w : World), l[i]? = some o → b i = false → Closed l.toArray b → (∀ k, waits o k = true → b k = true) → I b a w → wpOp P l.toArray Q i (I (updB b i)) a w)
    (hend : ∀ (b : Nat → Bool) (a : Act) (w : World), (∀ j, j < l.length → b j = true) → I b a w → Q .normal a w) : (Code.region id l.toArray true).wp P Q a w := by
  refine wp_region_any hm (any_inv I (lex_of hB) (fun b i o a w ho => hI b i o a w (by simpa using ho)) (fun b a w hb => hend b a w (fun j hj => hb j (by simpa using hj))) _ _ _ _ (by simp) (by
    unfold left
    exact Nat.le_trans List.countP_le_length (by simp)) (fun j o ho hb => ?_) ?_)
  · have hj := (Array.getElem?_eq_some_iff.1 ho).1
    rw [bOf_none hj] at hb; cases hb
  · have e : bOf (Array.replicate l.toArray.size false) = fun j => decide (l.length ≤ j) := by
      funext j
      by_cases hj : j < l.toArray.size
      · rw [bOf_none hj]; symm; simp only [decide_eq_false_iff_not]; simp at hj; omega
      · unfold bOf
        rw [Array.getD_eq_getD_getElem?, Array.getElem?_eq_none (by simpa using hj)]
        symm; simp at hj ⊢; exact hj
    rw [e]; exact h0
end Go.Proofs.Ytmbafcfoboknkaa.ag
