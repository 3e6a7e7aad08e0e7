/- A region that draws its order, by an invariant of what has come up and of the values: each operation, in the frame of the text's order, keeps it. A law of no program. -/
import Derived.Test.YtmbafcfoboknkaaAgI
namespace Go.Proofs.Ytmbafcfoboknkaa.ag
set_option linter.unusedVariables false
open Go.RowKit
variable {P : Program}

/-- each operation keeps J: xs are the values, a the frame in the text's order -/
def ObJ (P : Program) (ops : Array Oper) (J : (Nat → Bool) → (Nat → Value) → World → Prop) (xs : Nat → Value) : Nat → List Oper → Act → Prop
  | _, [], _ => True
  | i, o :: l, a => (∀ (b : Nat → Bool) (w : World), b i = false → (∀ k, waits o k = true → b k = true) → J b xs w → Region.wanted o (yielded ops a.tmps) = true ∧ does P o a w (fun v w' => J (updB b i) (upd xs i v) w')) ∧ ObJ P ops J xs (i + 1) l (a.put o.dst (xs i))
/-- the frame at the end -/
def frameJ (xs : Nat → Value) : Nat → List Oper → Act → Act
  | _, [], a => a
  | i, o :: l, a => frameJ xs (i + 1) l (a.put o.dst (xs i))
theorem puts_none {ops : Array Oper} {xs : Nat → Value} {b : Nat → Bool} {a : Act} : ∀ k, (∀ j, j < k → b j = false) → puts ops xs b k a = a := by
  intro k h
  induction k with
  | zero => rfl
  | succ k ih => simp only [puts, h k (by omega), Bool.false_eq_true, if_false]; exact ih (fun j hj => h j (by omega))
theorem obJ_at {ops : Array Oper} {J : (Nat → Bool) → (Nat → Value) → World → Prop} {xs : Nat → Value} {a0 : Act} : ∀ (l : List Oper) (i : Nat), (∀ j, ops[i + j]? = l[j]?) → ObJ P ops J xs i l (puts ops xs (fun _ => true) i a0) → ∀ (j : Nat) (o : Oper), l[j]? = some o → ∀ (b : Nat → Bool) (w : World), b (i + j) = false → (∀ k, waits o k = true → b k = true) → J b xs w → Region.wanted o (yielded ops (puts ops xs (fun _ => true) (i + j) a0).tmps) = true ∧ does P o (puts ops xs (fun _ => true) (i + j) a0) w (fun v w' => J (updB b (i + j)) (upd xs (i + j) v) w')
  | [], i, hl, h, j, o, ho => by simp at ho
  | o' :: l, i, hl, h, 0, o, ho => by
    simp at ho
    subst ho
    exact h.1
  | o' :: l, i, hl, h, j + 1, o, ho => by
    have e : i + (j + 1) = i + 1 + j := by omega
    rw [e]
    have hd : dstOf ops i = o'.dst := by
      unfold dstOf
      have := hl 0
      simp at this
      rw [this]; rfl
    refine obJ_at l (i + 1) (fun j => ?_) ?_ j o (by simpa using ho)
    · have := hl (j + 1)
      rw [← Nat.add_assoc, Nat.add_right_comm] at this
      simpa using this
    · have := h.2
      simp only [puts, if_true]
      rw [hd]; exact this
theorem frameJ_puts {ops : Array Oper} {xs : Nat → Value} {a0 : Act} : ∀ (l : List Oper) (i : Nat), (∀ j, ops[i + j]? = l[j]?) → puts ops xs (fun _ => true) (i + l.length) a0 = frameJ xs i l (puts ops xs (fun _ => true) i a0)
  | [], i, hl => rfl
  | o :: l, i, hl => by
    have hd : dstOf ops i = o.dst := by
      unfold dstOf
      have := hl 0
      simp at this
      rw [this]; rfl
    have ih := frameJ_puts (a0 := a0) (xs := xs) l (i + 1) (fun j => by
      have := hl (j + 1)
      rw [← Nat.add_assoc, Nat.add_right_comm] at this
      simpa using this)
    rw [List.length_cons, show i + (l.length + 1) = i + 1 + l.length by omega, ih]
    show frameJ xs (i + 1) l _ = frameJ xs (i + 1) l _
    simp only [puts, if_true]
    rw [hd]
/-- the region -/
theorem region_J {id : Nat} {Q : Exit → Act → World → Prop} {a0 : Act} {w : World} {l : List Oper} (J : (Nat → Bool) → (Nat → Value) → World → Prop) (hm : P.follows .mixedOrders = true) (hB : Region.lexB .any l.toArray = true)
    (h0 : J (fun j => decide (l.length ≤ j)) (fun _ => undef) w.drew)
    (hI : ∀ xs, ObJ P l.toArray J xs 0 l a0)
    (hend : ∀ (b : Nat → Bool) (xs : Nat → Value) (w : World), (∀ j, j < l.length → b j = true) → J b xs w → Q .normal (frameJ xs 0 l a0) w) : (Code.region id l.toArray true).wp P Q a0 w := by
  have hx := lex_of hB
  have hla : ∀ j, l.toArray[0 + j]? = l[j]? := fun j => by rw [Nat.zero_add]; simp
  have hsz : l.toArray.size = l.length := by simp
  refine region_inv (fun b a w => ∃ xs, a = puts l.toArray xs b l.toArray.size a0 ∧ J b xs w) hm hB ?_ ?_ ?_
  · exact ⟨fun _ => undef, (puts_none _ (fun j hj => by simp at hj ⊢; exact hj)).symm, h0⟩
  · rintro b i o a w ho hbi hcl hwb ⟨xs, rfl, hJ⟩
    have ho' : l.toArray[i]? = some o := by simpa using ho
    have hlt := (Array.getElem?_eq_some_iff.1 ho').1
    have hsel := fun cs b => hx.sel i o cs b ho'
    have hlo : ∀ j, j < i → b j = false → ∀ t, dstOf l.toArray j = some t → t ∉ o.looksAt l.toArray := by
      intro j hj hb t ht
      have hjs : j < l.toArray.size := by omega
      have hoj := Array.getElem?_eq_getElem hjs
      rcases hx.free j i _ o hoj ho' hj with hw | hap
      · rw [hwb j hw] at hb; cases hb
      · exact (Oper.apart_spec hap).1 t (by unfold dstOf at ht; rw [hoj] at ht; exact ht)
    have hhi : ∀ j, i < j → b j = true → (∀ t, dstOf l.toArray j = some t → t ∉ o.looksAt l.toArray) ∧ (∀ t, dstOf l.toArray i = some t → dstOf l.toArray j ≠ some t) := by
      intro j hj hb
      by_cases hjs : j < l.toArray.size
      · have hoj := Array.getElem?_eq_getElem hjs
        rcases hx.free i j o _ ho' hoj hj with hw | hap
        · have := hcl j _ hoj hb i hw; rw [hbi] at this; cases this
        · obtain ⟨-, h2, h3⟩ := Oper.apart_spec hap
          unfold dstOf
          rw [hoj, ho']
          exact ⟨h3, h2⟩
      · have : dstOf l.toArray j = none := by unfold dstOf; rw [Array.getElem?_eq_none (by omega)]; rfl
        exact ⟨fun t ht => (by rw [this] at ht; cases ht), fun t _ => by rw [this]; simp⟩
    have hag := puts_agree (ops := l.toArray) hsel xs b i a0 hlo (fun j hj hb => by
      rcases Nat.lt_or_ge i j with h | h
      · exact (hhi j h hb).1
      · have : j = i := by omega
        subst this; rw [hbi] at hb; cases hb) l.toArray.size
    rw [Nat.min_eq_right (Nat.le_of_lt hlt)] at hag
    obtain ⟨e1, e2⟩ := hag []
    simp only [List.foldl_nil] at e1 e2
    have hdst : dstOf l.toArray i = o.dst := by unfold dstOf; rw [ho']; rfl
    obtain ⟨hw, hd⟩ := obJ_at l 0 hla (hI xs) i o ho b w (by rw [Nat.zero_add]; exact hbi) hwb hJ
    rw [Nat.zero_add] at hw hd
    unfold wpOp
    simp only [ho']
    rw [e2, if_pos hw]
    left
    refine wp_of_does (K := fun v w' => J (updB b i) (upd xs i v) w') ?_ (fun v w' hk => ⟨upd xs i v, ?_, hk⟩)
    · unfold does
      rw [e1]
      exact hd
    · rw [← hdst]
      exact puts_insert (ops := l.toArray) xs (upd xs i v) b i v a0 hbi (by simp [upd]) (fun j hne _ => by simp [upd, hne]) (fun j hj hb => (hhi j hj hb).2) l.toArray.size hlt
  · rintro b a w hb ⟨xs, rfl, hJ⟩
    rw [puts_all xs b a0 l.toArray.size (fun j hj => hb j (by simpa using hj))]
    have h := frameJ_puts (ops := l.toArray) (xs := xs) (a0 := a0) l 0 hla
    rw [Nat.zero_add] at h
    rw [hsz, h]
    exact hend b xs w hb hJ
end Go.Proofs.Ytmbafcfoboknkaa.ag
