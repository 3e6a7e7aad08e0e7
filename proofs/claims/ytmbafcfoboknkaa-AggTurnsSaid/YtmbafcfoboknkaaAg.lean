/- A region that draws its order, by what each of its operations leaves: each yields a value and takes a step of the world, of which no other operation's value cares; so whatever order is drawn, all that was said holds at the end. A law of no program. -/
import Derived.Deep.QuietTactic
import Derived.Below
namespace Go.Proofs.Ytmbafcfoboknkaa.ag
set_option linter.unusedVariables false
/-- What an operation, carried out, leaves: a value and a world of which K holds. -/
def upon (P : Program) (K : Value → World → Prop) : Result Next → Prop
  | .ok (.value v) w => K v w
  | .ok .skip w => K undef w
  | .ok (.enter f args) w => Calls P f args w fun e w' => ∃ v, e = .returned v ∧ K v w'
  | _ => False
def does (P : Program) (o : Oper) (a : Act) (w : World) (K : Value → World → Prop) : Prop := upon P K ((execOp a.eval o).run P w)
theorem upon_value (P : Program) (K : Value → World → Prop) (v : Value) (w : World) : upon P K (.ok (.value v) w) = K v w := rfl
theorem upon_skip (P : Program) (K : Value → World → Prop) (w : World) : upon P K (.ok .skip w) = K undef w := rfl
theorem upon_enter (P : Program) (K : Value → World → Prop) (f : FuncId) (args : Array Value) (w : World) : upon P K (.ok (.enter f args) w) = Calls P f args w fun e w' => ∃ v, e = .returned v ∧ K v w' := rfl
/-- What is said of an operation: it yields this very value and leaves the world alone; or its value is such, and the world takes such a step; or it yields the value of another one, which is such. -/
inductive Spec where
  | val (v : Value)
  | sat (V : Value → World → Prop) (T : (Nat → Value) → World → World → Prop)
  | cpy (k : Nat)
/-- its value is such (of one whose value was said outright: nothing) -/
def Spec.such : Spec → Value → World → Prop
  | .sat V _, v, w => V v w
  | _, _, _ => False
def Spec.isSat : Spec → Bool
  | .sat _ _ => true
  | _ => false
/-- what is known of those whose value is such -/
def Spec.known : Spec → Value → World → Prop
  | .sat V _, v, w => V v w
  | _, _, _ => True
def full (sp : Nat → Spec) (xs : Nat → Value) (j : Nat) : Value :=
  match sp j with
  | .val c => c
  | .cpy k => xs k
  | .sat _ _ => xs j
def okF (sp : Nat → Spec) (xs : Nat → Value) (j : Nat) (w : World) : Prop :=
  match sp j with
  | .val _ => True
  | .cpy k => (sp k).known (xs k) w
  | .sat V _ => V (xs j) w
/-- the values that an operation waits for -/
def depF (sp : Nat → Spec) (wt : Nat → Bool) (xs : Nat → Value) (d : Nat) : Value := if wt d = true ∧ (sp d).isSat = true then xs d else undef
/-- what is known, at an operation, of what it waits for, and of another value -/
def Rel (sp : Nat → Spec) (R : Nat → Nat → Value → Value → Prop) (wt : Nat → Bool) (j : Nat) (f : Nat → Value) (v : Value) (w : World) : Prop :=
  ∀ d, wt d = true → ∀ V T, sp d = .sat V T → (d ≠ j → R d j (f d) v ∨ R j d v (f d)) ∧ (d = j → v = f d) ∧ V (f d) w
def Dep (sp : Nat → Spec) (wt : Nat → Bool) (f : Nat → Value) (w : World) : Prop := ∀ d, wt d = true → ∀ V T, sp d = .sat V T → V (f d) w
/-- what an operation must do -/
def todo (sp : Nat → Spec) (R : Nat → Nat → Value → Value → Prop) (xs : Nat → Value) (i : Nat) (wt : Nat → Bool) (w : World) (v : Value) (w' : World) : Prop :=
  match sp i with
  | .val c => v = c ∧ w' = w
  | .cpy k => v = xs k ∧ w' = w
  | .sat V T => V v w' ∧ T (depF sp wt xs) w w' ∧ ∀ j, j ≠ i → ∀ u, (sp j).such u w → (∀ d, wt d = true → (sp d).isSat = true → d ≠ j → R d j (xs d) u ∨ R j d u (xs d)) → R i j v u
section
variable {P : Program} {ops : Array Oper}
def waits (o : Oper) (j : Nat) : Bool := o.after.any fun e => Region.binds .any e && e.on == j
theorem waits_iff {o : Oper} {j : Nat} : waits o j = true ↔ ∃ e ∈ o.after, Region.binds .any e = true ∧ e.on = j := by
  unfold waits
  rw [Array.any_eq_true']
  simp
def dstOf (ops : Array Oper) (k : Nat) : Option Tmp := (ops[k]?).bind (·.dst)
/-- the frame behind those that have come up, put in the text's order -/
def puts (ops : Array Oper) (xs : Nat → Value) (b : Nat → Bool) : Nat → Act → Act
  | 0, a => a
  | k + 1, a => if b k then (puts ops xs b k a).put (dstOf ops k) (xs k) else puts ops xs b k a
def Agree (ops : Array Oper) (o : Oper) (a b : Act) : Prop := ∀ l : List (Option Tmp × Value),
  execOp (l.foldl (fun a p => a.put p.1 p.2) a).eval o = execOp (l.foldl (fun a p => a.put p.1 p.2) b).eval o ∧
  Region.wanted o (yielded ops (l.foldl (fun a p => a.put p.1 p.2) a).tmps) = Region.wanted o (yielded ops (l.foldl (fun a p => a.put p.1 p.2) b).tmps)
theorem Agree.refl (o : Oper) (a : Act) : Agree ops o a a := fun _ => ⟨rfl, rfl⟩
theorem Agree.symm {o : Oper} {a b : Act} (h : Agree ops o a b) : Agree ops o b a := fun l => ⟨(h l).1.symm, (h l).2.symm⟩
theorem Agree.trans {o : Oper} {a b c : Act} (h : Agree ops o a b) (k : Agree ops o b c) : Agree ops o a c := fun l => ⟨(h l).1.trans (k l).1, (h l).2.trans (k l).2⟩
theorem Agree.put {o : Oper} {a b : Act} (h : Agree ops o a b) (d : Option Tmp) (v : Value) : Agree ops o (a.put d v) (b.put d v) := fun l => h ((d, v) :: l)
theorem put_put (a : Act) (d : Tmp) (v u : Value) : (a.put (some d) v).put (some d) u = a.put (some d) u := by simp [Act.put]
theorem Agree.skip {o : Oper} (hs : ∀ cs b, o.op ≠ .select cs b) {d : Option Tmp} {v : Value} (h : ∀ t, d = some t → t ∉ o.looksAt ops) : ∀ a, Agree ops o (a.put d v) a := by
  intro a l
  induction l generalizing a with
  | nil => exact ⟨execOp_put o hs a d v h, wanted_put o a d v h⟩
  | cons p l ih =>
    obtain ⟨d', u⟩ := p
    simp only [List.foldl_cons]
    cases d with
    | none => exact ⟨rfl, rfl⟩
    | some t =>
      by_cases e : d' = some t
      · subst e; rw [put_put]; exact ⟨rfl, rfl⟩
      · rw [Act.put_comm a v u (x := some t) (y := d') (fun d hd => by cases hd; exact e)]
        exact ih _
theorem puts_agree {o : Oper} (hs : ∀ cs b, o.op ≠ .select cs b) (xs : Nat → Value) (b : Nat → Bool) (i : Nat) (a : Act)
    (hlt : ∀ j, j < i → b j = false → ∀ t, dstOf ops j = some t → t ∉ o.looksAt ops) (hge : ∀ j, i ≤ j → b j = true → ∀ t, dstOf ops j = some t → t ∉ o.looksAt ops) :
    ∀ k, Agree ops o (puts ops xs b k a) (puts ops xs (fun _ => true) (min k i) a) := by
  intro k
  induction k with
  | zero => rw [Nat.zero_min]; exact Agree.refl _ _
  | succ k ih =>
    by_cases hk : k < i
    · rw [Nat.min_eq_left (Nat.le_of_lt hk)] at ih
      rw [Nat.min_eq_left hk]
      simp only [puts, if_true]
      split
      · exact ih.put _ _
      · rename_i hb
        exact ih.trans (Agree.skip hs (hlt k hk (by simpa using hb)) _).symm
    · rw [Nat.min_eq_right (by omega)] at ih ⊢
      simp only [puts]
      split
      · rename_i hb
        exact (Agree.skip hs (hge k (by omega) hb) _).trans ih
      · exact ih
def upd (xs : Nat → Value) (i : Nat) (v : Value) : Nat → Value := fun j => if j = i then v else xs j
def updB (b : Nat → Bool) (i : Nat) : Nat → Bool := fun j => if j = i then true else b j
theorem puts_before (ys ys' : Nat → Value) (b : Nat → Bool) (i : Nat) (a : Act) (hy : ∀ j, j ≠ i → b j = true → ys' j = ys j) : ∀ k, k ≤ i → puts ops ys' (updB b i) k a = puts ops ys b k a := by
  intro k hk
  induction k with
  | zero => rfl
  | succ k ih =>
    have hne : k ≠ i := by omega
    have h1 : updB b i k = b k := by simp [updB, hne]
    simp only [puts]
    rw [ih (by omega), h1]
    split
    · rename_i hb; rw [hy k hne hb]
    · rfl
theorem puts_insert (ys ys' : Nat → Value) (b : Nat → Bool) (i : Nat) (v : Value) (a : Act) (hb : b i = false) (hv : ys' i = v) (hy : ∀ j, j ≠ i → b j = true → ys' j = ys j)
    (hap : ∀ j, i < j → b j = true → ∀ t, dstOf ops i = some t → dstOf ops j ≠ some t) : ∀ k, i < k → (puts ops ys b k a).put (dstOf ops i) v = puts ops ys' (updB b i) k a := by
  intro k hk
  induction k with
  | zero => omega
  | succ k ih =>
    by_cases e : k = i
    · subst e
      have h := puts_before (ops := ops) ys ys' b k a hy k (Nat.le_refl _)
      simp only [puts, hb, Bool.false_eq_true, if_false]
      rw [h]
      simp [updB, hv]
    · have hik : i < k := by omega
      have h := ih hik
      simp only [puts]
      rw [← h]
      have h1 : updB b i k = b k := by simp [updB, e]
      rw [h1]
      split
      · rename_i hbk
        rw [hy k e hbk]
        exact (Act.put_comm _ v (ys k) (hap k hik hbk)).symm
      · rfl
theorem puts_all (xs : Nat → Value) (b : Nat → Bool) (a : Act) : ∀ k, (∀ j, j < k → b j = true) → puts ops xs b k a = puts ops xs (fun _ => true) k a := by
  intro k h
  induction k with
  | zero => rfl
  | succ k ih => simp only [puts, h k (by omega), if_true, ih (fun j hj => h j (by omega))]
/-- what 'Region.lexB' gives -/
structure Lex (ops : Array Oper) : Prop where
  sel : ∀ (j : Nat) (o : Oper) cs b, ops[j]? = some o → o.op ≠ .select cs b
  back : ∀ (i : Nat) o, ops[i]? = some o → ∀ j, waits o j = true → j < i
  free : ∀ (i j : Nat) oi oj, ops[i]? = some oi → ops[j]? = some oj → i < j → waits oj i = true ∨ oi.apart ops oj = true
theorem lex_from : ∀ (fuel k : Nat) (listed : Array Bool), listed.size = ops.size → k + fuel = ops.size → (∀ j, j < ops.size → listed.getD j true = decide (j < k) ∧ listed.getD j false = decide (j < k)) →
    Region.lexFrom .any ops fuel k listed = true →
    (∀ (i : Nat) o, k ≤ i → ops[i]? = some o → ∀ j, waits o j = true → j < i) ∧ (∀ (i j : Nat) oi oj, k ≤ i → ops[i]? = some oi → ops[j]? = some oj → i < j → waits oj i = true ∨ oi.apart ops oj = true)
  | 0, k, listed, hs, hk, hl, h => by
    refine ⟨fun i o hi ho => ?_, fun i j oi oj hi ho => ?_⟩ <;> (have := (Array.getElem?_eq_some_iff.1 ho).1; omega)
  | fuel + 1, k, listed, hs, hk, hl, h => by
    simp only [Region.lexFrom, Bool.and_eq_true] at h
    obtain ⟨⟨hr, hf⟩, hB⟩ := h
    have hr' : k ∈ Region.ready .any ops listed := by simpa using hr
    obtain ⟨h0, o, ho, hall⟩ := mem_ready.1 hr'
    have ih := lex_from fuel (k + 1) (listed.setIfInBounds k true) (by simpa using hs) (by omega) (fun j hj => by
      by_cases e : k = j
      · subst e; simp [hs, hj]
      · rw [getD_set_ne true e, getD_set_ne false e, (hl j hj).1, (hl j hj).2]
        constructor <;> (rw [decide_eq_decide]; omega)) hB
    refine ⟨fun i oi hi hoi j hw => ?_, fun i j oi oj hi hoi hoj hij => ?_⟩
    · by_cases e : k = i
      · subst e
        rw [ho] at hoi; cases hoi
        obtain ⟨e, he, hb, rfl⟩ := waits_iff.1 hw
        have := hall e he hb
        by_cases hj : e.on < ops.size
        · rw [(hl _ hj).2] at this; simpa using this
        · rw [Array.getD_eq_getD_getElem?, Array.getElem?_eq_none (by omega)] at this; simp at this
      · exact ih.1 i oi (by omega) hoi j hw
    · by_cases e : k = i
      · subst e
        by_cases hw : waits oj k = true
        · exact .inl hw
        · right
          refine Region.free_spec hoi hf j oj hoj (by omega) ?_ (fun e he hb hon => hw (waits_iff.2 ⟨e, he, hb, hon⟩))
          rw [(hl j (Array.getElem?_eq_some_iff.1 hoj).1).1]; simp; omega
      · exact ih.2 i j oi oj (by omega) hoi hoj hij
theorem lex_of (hB : Region.lexB .any ops = true) : Lex ops := by
  simp only [Region.lexB, Bool.and_eq_true] at hB
  have := lex_from ops.size 0 (Array.replicate ops.size false) (by simp) (by omega) (fun j hj => by simp [hj]) hB.2
  exact ⟨Region.noSelect_spec hB.1, fun i o ho j hw => this.1 i o (Nat.zero_le _) ho j hw, fun i j oi oj hi hj hij => this.2 i j oi oj (Nat.zero_le _) hi hj hij⟩
theorem wp_of_does {o : Oper} {a : Act} {w : World} {K : Value → World → Prop} {K' : Act → World → Prop} {Q : Exit → Act → World → Prop} (h : does P o a w K) (hk : ∀ v w', K v w' → K' (a.put o.dst v) w') : o.wp P a w K' Q := by
  unfold does at h
  unfold Oper.wp
  generalize (execOp a.eval o).run P w = r at *
  cases r with
  | halt x w' => simp only [upon] at h
  | ok x w' =>
    cases x <;> simp only [upon] at h <;> simp only [Oper.upon]
    case value u => exact hk _ _ h
    case skip => exact hk _ _ h
    case enter f args => exact h.mono fun e w'' ⟨v, he, hv⟩ => by subst he; exact hk _ _ hv
/-- how many have not come up -/
def left (n : Nat) (b : Nat → Bool) : Nat := (List.range n).countP fun i => !b i
theorem countP_lt {p q : Nat → Bool} : ∀ (l : List Nat), (∀ j, q j = true → p j = true) → ∀ i ∈ l, p i = true → q i = false → l.countP q < l.countP p
  | [], _, i, hi, _, _ => by cases hi
  | x :: l, h, i, hi, hp, hq => by
    have hle : l.countP q ≤ l.countP p := List.countP_mono_left (fun j _ hj => h j hj)
    rcases List.mem_cons.1 hi with rfl | hi
    · rw [List.countP_cons, List.countP_cons, hp, hq]; simp; omega
    · have ih := countP_lt l h i hi hp hq
      rw [List.countP_cons, List.countP_cons]
      have : (if q x = true then 1 else 0) ≤ (if p x = true then 1 else 0) := by
        by_cases hx : q x = true
        · rw [if_pos hx, if_pos (h x hx)]; exact Nat.le_refl _
        · rw [if_neg hx]; exact Nat.zero_le _
      omega
def bOf (listed : Array Bool) : Nat → Bool := fun i => listed.getD i true
theorem any_ag {Q : Exit → Act → World → Prop} {a0 : Act} {S : World → Prop} {sp : Nat → Spec} {R : Nat → Nat → Value → Value → Prop} (hx : Lex ops)
    (hStab : ∀ i j o V T V' T', ops[i]? = some o → j < ops.size → i ≠ j → (∀ oj, ops[j]? = some oj → waits oj i = false) → sp i = .sat V T → sp j = .sat V' T' → ∀ f v w w', S w → V' v w → Rel sp R (waits o) j f v w → T f w w' → V' v w')
    (hSS : ∀ i o V T, ops[i]? = some o → sp i = .sat V T → ∀ f w w', S w → Dep sp (waits o) f w → T f w w' → S w')
    (hcpy : ∀ i k o, ops[i]? = some o → sp i = .cpy k → waits o k = true)
    (hOb : ∀ i o, ops[i]? = some o → ∀ xs : Nat → Value, ∀ w, S w → (∀ j, waits o j = true → okF sp xs j w) →
      if Region.wanted o (yielded ops (puts ops (full sp xs) (fun _ => true) i a0).tmps) = true then does P o (puts ops (full sp xs) (fun _ => true) i a0) w (todo sp R xs i (waits o) w) else sp i = .val undef)
    (hEnd : ∀ xs : Nat → Value, ∀ w, S w → (∀ j, j < ops.size → okF sp xs j w) → (∀ i j, i < ops.size → j < ops.size → i ≠ j → (sp i).isSat = true → (sp j).isSat = true → R i j (xs i) (xs j) ∨ R j i (xs j) (xs i)) → Q .normal (puts ops (full sp xs) (fun _ => true) ops.size a0) w) :
    ∀ (fuel : Nat) (listed : Array Bool) (xs : Nat → Value) (w : World), listed.size = ops.size → left ops.size (bOf listed) ≤ fuel → S w →
      (∀ j, j < ops.size → bOf listed j = true → okF sp xs j w) → (∀ j o, ops[j]? = some o → bOf listed j = true → ∀ k, waits o k = true → bOf listed k = true) →
      (∀ i j, i < ops.size → j < ops.size → bOf listed i = true → bOf listed j = true → i ≠ j → (sp i).isSat = true → (sp j).isSat = true → R i j (xs i) (xs j) ∨ R j i (xs j) (xs i)) →
      wpAny P .any ops Q fuel listed (puts ops (full sp xs) (bOf listed) ops.size a0) w := by
  have ends : ∀ (listed : Array Bool) (xs : Nat → Value) (w : World), listed.size = ops.size → S w →
      (∀ j, j < ops.size → bOf listed j = true → okF sp xs j w) →
      (∀ i j, i < ops.size → j < ops.size → bOf listed i = true → bOf listed j = true → i ≠ j → (sp i).isSat = true → (sp j).isSat = true → R i j (xs i) (xs j) ∨ R j i (xs j) (xs i)) → Region.ready .any ops listed = [] → Q .normal (puts ops (full sp xs) (bOf listed) ops.size a0) w := by
    intro listed xs w hsz hS hok hpr hr
    have all : ∀ n j, j < n → j < ops.size → bOf listed j = true := by
      intro n
      induction n with
      | zero => intro j hj; omega
      | succ n ih =>
        intro j hj hjs
        by_cases hb : bOf listed j = true
        · exact hb
        · exfalso
          have hm : j ∈ Region.ready .any ops listed := by
            refine mem_ready.2 ⟨by simpa [bOf] using hb, ops[j], Array.getElem?_eq_getElem hjs, fun e he hbd => ?_⟩
            have hlt := hx.back j _ (Array.getElem?_eq_getElem hjs) e.on (waits_iff.2 ⟨e, he, hbd, rfl⟩)
            have := ih e.on (by omega) (by omega)
            have hl : e.on < listed.size := by omega
            simp only [bOf, Array.getD_eq_getD_getElem?, Array.getElem?_eq_getElem hl, Option.getD_some] at this ⊢
            exact this
          rw [hr] at hm; cases hm
    rw [puts_all (full sp xs) _ a0 ops.size (fun j hj => all ops.size j hj hj)]
    exact hEnd xs w hS (fun j hj => hok j hj (all ops.size j hj hj)) (fun i j hi hj => hpr i j hi hj (all ops.size i hi hi) (all ops.size j hj hj))
  intro fuel
  induction fuel with
  | zero =>
    intro listed xs w hsz hf hS hok hcl hpr
    have hr : Region.ready .any ops listed = [] := by
      rw [List.eq_nil_iff_forall_not_mem]
      intro j hj
      obtain ⟨h0, o, ho, -⟩ := mem_ready.1 hj
      have hlt := (Array.getElem?_eq_some_iff.1 ho).1
      have h1 : 0 < left ops.size (bOf listed) := by
        unfold left
        rw [List.countP_pos_iff]
        exact ⟨j, List.mem_range.2 hlt, by simp [bOf, h0]⟩
      omega
    exact ⟨hr, ends listed xs w hsz hS hok hpr hr⟩
  | succ fuel ih =>
    intro listed xs w hsz hf hS hok hcl hpr
    refine ⟨fun hr => ends listed xs w hsz hS hok hpr hr, fun i hi => ?_⟩
    obtain ⟨h0, o, ho, hdeps⟩ := mem_ready.1 hi
    have hlt := (Array.getElem?_eq_some_iff.1 ho).1
    have hbi : bOf listed i = false := h0
    have hwb : ∀ j, waits o j = true → bOf listed j = true := by
      intro j hw
      obtain ⟨e, he, hb, rfl⟩ := waits_iff.1 hw
      have h := hdeps e he hb
      have hl : e.on < listed.size := by have := hx.back i o ho _ hw; omega
      simp only [bOf, Array.getD_eq_getD_getElem?, Array.getElem?_eq_getElem hl, Option.getD_some] at h ⊢
      exact h
    have hob := hOb i o ho xs w hS (fun j hw => hok j (by have := hx.back i o ho j hw; omega) (hwb j hw))
    have hsel := fun cs b => hx.sel i o cs b ho
    -- those that lie apart
    have hlo : ∀ j, j < i → bOf listed j = false → ∀ t, dstOf ops j = some t → t ∉ o.looksAt ops := by
      intro j hj hb t ht
      have hjs : j < ops.size := by omega
      have hoj := Array.getElem?_eq_getElem hjs
      rcases hx.free j i _ o hoj ho hj with hw | hap
      · rw [hwb j hw] at hb; cases hb
      · exact (Oper.apart_spec hap).1 t (by unfold dstOf at ht; rw [hoj] at ht; exact ht)
    have hhi : ∀ j, i < j → bOf listed j = true → (∀ t, dstOf ops j = some t → t ∉ o.looksAt ops) ∧ (∀ t, dstOf ops i = some t → dstOf ops j ≠ some t) := by
      intro j hj hb
      by_cases hjs : j < ops.size
      · have hoj := Array.getElem?_eq_getElem hjs
        rcases hx.free i j o _ ho hoj hj with hw | hap
        · have := hcl j _ hoj hb i hw; rw [hbi] at this; cases this
        · obtain ⟨-, h2, h3⟩ := Oper.apart_spec hap
          unfold dstOf
          rw [hoj, ho]
          exact ⟨h3, h2⟩
      · have : dstOf ops j = none := by unfold dstOf; rw [Array.getElem?_eq_none (by omega)]; rfl
        exact ⟨fun t ht => (by rw [this] at ht; cases ht), fun t _ => by rw [this]; simp⟩
    have hag := puts_agree (ops := ops) hsel (full sp xs) (bOf listed) i a0 hlo (fun j hj hb => by
      rcases Nat.lt_or_ge i j with h | h
      · exact (hhi j h hb).1
      · have : j = i := by omega
        subst this; rw [hbi] at hb; cases hb) ops.size
    rw [Nat.min_eq_right (Nat.le_of_lt hlt)] at hag
    obtain ⟨e1, e2⟩ := hag []
    simp only [List.foldl_nil] at e1 e2
    have hset : ∀ j, bOf (listed.setIfInBounds i true) j = updB (bOf listed) i j := by
      intro j
      unfold bOf updB
      by_cases e : i = j
      · subst e; simp [hsz, hlt]
      · rw [getD_set_ne true e, if_neg (Ne.symm e)]
    have hsetf : bOf (listed.setIfInBounds i true) = updB (bOf listed) i := funext hset
    have hdst : dstOf ops i = o.dst := by unfold dstOf; rw [ho]; rfl
    have hleft : left ops.size (bOf (listed.setIfInBounds i true)) ≤ fuel := by
      have : left ops.size (bOf (listed.setIfInBounds i true)) < left ops.size (bOf listed) := by
        unfold left
        refine countP_lt _ (fun j hj => ?_) i (List.mem_range.2 hlt) (by simp [hbi]) (by rw [hset]; simp [updB])
        rw [hset] at hj
        unfold updB at hj
        split at hj
        · simp at hj
        · exact hj
      omega
    have hcl' : ∀ j oj, ops[j]? = some oj → bOf (listed.setIfInBounds i true) j = true → ∀ k, waits oj k = true → bOf (listed.setIfInBounds i true) k = true := by
      intro j oj hoj hb k hw
      rw [hset] at hb ⊢
      unfold updB at hb ⊢
      split
      · rfl
      · rename_i ek
        by_cases e : j = i
        · subst e
          rw [ho] at hoj; cases hoj
          exact hwb k hw
        · rw [if_neg e] at hb
          exact hcl j oj hoj hb k hw
    -- a value that was said: nothing turns
    have same : ∀ v w', v = full sp xs i → w' = w → okF sp xs i w → (sp i).isSat = false → wpAny P .any ops Q fuel (listed.setIfInBounds i true) ((puts ops (full sp xs) (bOf listed) ops.size a0).put o.dst v) w' := by
      intro v w' hv hw' hoki hns
      subst hw'
      rw [← hdst, puts_insert (full sp xs) (full sp xs) (bOf listed) i v a0 hbi hv.symm (fun _ _ _ => rfl) (fun j hj hb => (hhi j hj hb).2) ops.size hlt, ← hsetf]
      refine ih (listed.setIfInBounds i true) xs w' (by simpa using hsz) hleft hS ?_ hcl' ?_
      · intro j hj hb
        rw [hset] at hb
        unfold updB at hb
        by_cases e : j = i
        · subst e; exact hoki
        · rw [if_neg e] at hb; exact hok j hj hb
      · intro k j hk hj hbk hbj hne hsk hsj
        have hki : k ≠ i := fun e => by subst e; rw [hns] at hsk; cases hsk
        have hji : j ≠ i := fun e => by subst e; rw [hns] at hsj; cases hsj
        rw [hset] at hbk hbj
        unfold updB at hbk hbj
        rw [if_neg hki] at hbk
        rw [if_neg hji] at hbj
        exact hpr k j hk hj hbk hbj hne hsk hsj
    have next : ∀ v w', todo sp R xs i (waits o) w v w' → wpAny P .any ops Q fuel (listed.setIfInBounds i true) ((puts ops (full sp xs) (bOf listed) ops.size a0).put o.dst v) w' := by
      intro v w' htd
      unfold todo at htd
      cases hsi : sp i with
      | val c =>
        rw [hsi] at htd
        exact same v w' (by unfold full; rw [hsi]; exact htd.1) htd.2 (by unfold okF; rw [hsi]; trivial) (by rw [hsi]; rfl)
      | cpy k =>
        rw [hsi] at htd
        have hwk := hcpy i k o ho hsi
        have hbk := hwb k hwk
        have hks : k < ops.size := by have := hx.back i o ho k hwk; omega
        refine same v w' (by unfold full; rw [hsi]; exact htd.1) htd.2 ?_ (by rw [hsi]; rfl)
        have := hok k hks hbk
        unfold okF at this ⊢
        rw [hsi]
        show (sp k).known (xs k) w
        cases hsk : sp k with
        | val c => trivial
        | cpy k' => trivial
        | sat V T => rw [hsk] at this; exact this
      | sat V T =>
        rw [hsi] at htd
        obtain ⟨hv, hst, hnew⟩ := htd
        have hdep : Dep sp (waits o) (depF sp (waits o) xs) w := by
          intro d hwd Vd Td hsd
          have h1 := hok d (by have := hx.back i o ho d hwd; omega) (hwb d hwd)
          unfold okF at h1
          rw [hsd] at h1
          have : depF sp (waits o) xs d = xs d := by unfold depF; rw [if_pos ⟨hwd, by rw [hsd]; rfl⟩]
          rw [this]; exact h1
        have nowait : ∀ j, bOf listed j = true → ∀ oj, ops[j]? = some oj → waits oj i = false := by
          intro j hb oj hoj
          cases hw : waits oj i with
          | false => rfl
          | true => have := hcl j oj hoj hb i hw; rw [hbi] at this; cases this
        have hrel : ∀ j, j < ops.size → bOf listed j = true → (sp j).isSat = true → Rel sp R (waits o) j (depF sp (waits o) xs) (xs j) w := by
          intro j hj hb hs d hwd Vd Td hsd
          have e : depF sp (waits o) xs d = xs d := by unfold depF; rw [if_pos ⟨hwd, by rw [hsd]; rfl⟩]
          refine ⟨fun hne => ?_, fun hde => ?_, hdep d hwd Vd Td hsd⟩
          · rw [e]; exact hpr d j (by have := hx.back i o ho d hwd; omega) hj (hwb d hwd) hb hne (by rw [hsd]; rfl) hs
          · rw [e, hde]
        have hcopy : ∀ j k, bOf listed j = true → j < ops.size → sp j = .cpy k → k ≠ i := by
          intro j k hb hj hs e
          subst e
          have := hcl j _ (Array.getElem?_eq_getElem hj) hb k (hcpy j k _ (Array.getElem?_eq_getElem hj) hs)
          rw [hbi] at this; cases this
        have hfull : ∀ j, j ≠ i → bOf listed j = true → j < ops.size → full sp (upd xs i v) j = full sp xs j := by
          intro j hne hb hj
          unfold full
          cases hs : sp j with
          | val c => rfl
          | cpy k => simp [upd, hcopy j k hb hj hs]
          | sat V T => simp [upd, hne]
        have hput : (puts ops (full sp xs) (bOf listed) ops.size a0).put o.dst v = puts ops (full sp (upd xs i v)) (bOf (listed.setIfInBounds i true)) ops.size a0 := by
          rw [← hdst, hsetf]
          -- places behind the last one do not matter
          have := puts_insert (ops := ops) (full sp xs) (fun j => if j < ops.size then full sp (upd xs i v) j else full sp xs j) (bOf listed) i v a0 hbi (by simp only [hlt, if_true]; unfold full; rw [hsi]; simp [upd]) (fun j hne hb => by
            split
            · rename_i hj; exact hfull j hne hb hj
            · rfl) (fun j hj hb => (hhi j hj hb).2) ops.size hlt
          rw [this]
          have cong : ∀ k, k ≤ ops.size → puts ops (fun j => if j < ops.size then full sp (upd xs i v) j else full sp xs j) (updB (bOf listed) i) k a0 = puts ops (full sp (upd xs i v)) (updB (bOf listed) i) k a0 := by
            intro k hk
            induction k with
            | zero => rfl
            | succ k ihk =>
              simp only [puts]
              rw [ihk (by omega), if_pos (show k < ops.size by omega)]
          exact cong _ (Nat.le_refl _)
        rw [hput]
        refine ih (listed.setIfInBounds i true) (upd xs i v) w' (by simpa using hsz) hleft (hSS i o V T ho hsi _ w w' hS hdep hst) ?_ hcl' ?_
        · intro j hj hb
          rw [hset] at hb
          unfold updB at hb
          by_cases e : j = i
          · subst e; unfold okF; rw [hsi]; simpa [upd] using hv
          · rw [if_neg e] at hb
            have hk := hok j hj hb
            unfold okF at hk ⊢
            cases hs : sp j with
            | val c => trivial
            | sat V' T' =>
              rw [hs] at hk
              have : upd xs i v j = xs j := by simp [upd, e]
              show V' (upd xs i v j) w'
              rw [this]
              exact hStab i j o V T V' T' ho hj (Ne.symm e) (nowait j hb) hsi hs _ _ _ _ hS hk (hrel j hj hb (by rw [hs]; rfl)) hst
            | cpy k =>
              rw [hs] at hk
              have hki := hcopy j k hb hj hs
              have : upd xs i v k = xs k := by simp [upd, hki]
              dsimp only at hk ⊢
              rw [this]
              cases hsk : sp k with
              | val c => trivial
              | cpy k' => trivial
              | sat V' T' =>
                rw [hsk] at hk
                have hks : k < ops.size := by
                  have := hx.back j _ (Array.getElem?_eq_getElem hj) k (hcpy j k _ (Array.getElem?_eq_getElem hj) hs)
                  omega
                have hbk : bOf listed k = true := hcl j _ (Array.getElem?_eq_getElem hj) hb k (hcpy j k _ (Array.getElem?_eq_getElem hj) hs)
                exact hStab i k o V T V' T' ho hks (Ne.symm hki) (nowait k hbk) hsi hsk _ _ _ _ hS hk (hrel k hks hbk (by rw [hsk]; rfl)) hst
        · intro k j hk hj hbk hbj hne hsk hsj
          rw [hset] at hbk hbj
          unfold updB at hbk hbj
          have such : ∀ j, j < ops.size → bOf listed j = true → (sp j).isSat = true → (sp j).such (xs j) w := by
            intro j hj hb hs
            have := hok j hj hb
            unfold okF at this
            cases hsj : sp j with
            | val c => rw [hsj] at hs; cases hs
            | cpy c => rw [hsj] at hs; cases hs
            | sat V T => rw [hsj] at this; exact this
          have dep : ∀ j, j < ops.size → bOf listed j = true → (sp j).isSat = true → ∀ d, waits o d = true → (sp d).isSat = true → d ≠ j → R d j (xs d) (xs j) ∨ R j d (xs j) (xs d) :=
            fun j hj hb hs d hw hd hne => hpr d j (by have := hx.back i o ho d hw; omega) hj (hwb d hw) hb hne hd hs
          unfold upd
          by_cases ek : k = i
          · subst ek
            rw [if_pos rfl, if_neg (Ne.symm hne)]
            rw [if_neg (Ne.symm hne)] at hbj
            exact .inl (hnew j (Ne.symm hne) _ (such j hj hbj hsj) (dep j hj hbj hsj))
          · by_cases ej : j = i
            · subst ej
              rw [if_pos rfl, if_neg hne]
              rw [if_neg hne] at hbk
              exact .inr (hnew k hne _ (such k hk hbk hsk) (dep k hk hbk hsk))
            · rw [if_neg ek, if_neg ej]
              rw [if_neg ek] at hbk
              rw [if_neg ej] at hbj
              exact hpr k j hk hj hbk hbj hne hsk hsj
    unfold wpOp
    simp only [ho]
    rw [e2]
    split
    · rename_i hw
      rw [if_pos hw] at hob
      left
      refine wp_of_does (K := todo sp R xs i (waits o) w) ?_ next
      unfold does
      rw [e1]
      exact hob
    · rename_i hw
      rw [if_neg hw] at hob
      exact next undef w (by unfold todo; rw [hob]; exact ⟨rfl, rfl⟩)
/-! ### The walk in the text's order: a frame in which each value that was said is written out, and each that is only 'such' is a letter. -/
def Facts (o : Oper) (w : World) : List (Nat × (World → Prop)) → Prop
  | [] => True
  | (j, F) :: E => (if waits o j then F w else True) ∧ Facts o w E
def FactsAll (w : World) : List (Nat × (World → Prop)) → Prop
  | [] => True
  | (_, F) :: E => F w ∧ FactsAll w E
def lookX : List (Nat × Value) → Nat → Value
  | [], _ => undef
  | (j, v) :: X, k => if j = k then v else lookX X k
def isIn : List (Nat × Value) → Nat → Bool
  | [], _ => false
  | (j, _) :: X, k => if j = k then true else isIn X k
def lookE : List (Nat × (World → Prop)) → Nat → World → Prop
  | [], _ => fun _ => True
  | (j, F) :: E, k => if j = k then F else lookE E k
/-- What a new value is to the others: of every pair of operations whose values are only 'such', one comes up second: R is shown then. -/
def News (R : Nat → Nat → Value → Value → Prop) (i : Nat) (v : Value) (w : World) (D : List (Nat × Value)) : Nat → List Spec → Prop
  | _, [] => True
  | k, .sat V _ :: ss => (k ≠ i → ∀ u, V u w → (∀ p ∈ D, p.1 ≠ k → R p.1 k p.2 u ∨ R k p.1 u p.2) → R i k v u) ∧ News R i v w D (k + 1) ss
  | k, _ :: ss => News R i v w D (k + 1) ss
theorem News.at {R : Nat → Nat → Value → Value → Prop} {i : Nat} {v : Value} {w : World} {D : List (Nat × Value)} : ∀ {ss : List Spec} {k : Nat}, News R i v w D k ss → ∀ (j : Nat) (s : Spec), ss[j]? = some s → k + j ≠ i → ∀ u, s.such u w → (∀ p ∈ D, p.1 ≠ k + j → R p.1 (k + j) p.2 u ∨ R (k + j) p.1 u p.2) → R i (k + j) v u
  | [], _, _, j, s, h => by simp at h
  | .val c :: ss, k, h, 0, s, hs => by simp at hs; subst hs; intro _ u hu; exact hu.elim
  | .cpy c :: ss, k, h, 0, s, hs => by simp at hs; subst hs; intro _ u hu; exact hu.elim
  | .sat V T :: ss, k, h, 0, s, hs => by simp at hs; subst hs; intro hne u hu hd; exact h.1 hne u hu hd
  | .val c :: ss, k, h, j + 1, s, hs => by
    have := News.at (ss := ss) (k := k + 1) h j s (by simpa using hs)
    rw [show k + (j + 1) = k + 1 + j by omega]; exact this
  | .cpy c :: ss, k, h, j + 1, s, hs => by
    have := News.at (ss := ss) (k := k + 1) h j s (by simpa using hs)
    rw [show k + (j + 1) = k + 1 + j by omega]; exact this
  | .sat V T :: ss, k, h, j + 1, s, hs => by
    have := News.at (ss := ss) (k := k + 1) h.2 j s (by simpa using hs)
    rw [show k + (j + 1) = k + 1 + j by omega]; exact this
theorem News.none {R : Nat → Nat → Value → Value → Prop} {i : Nat} {v : Value} {w : World} {D : List (Nat × Value)} (h : ∀ k u, R i k v u) : ∀ (ss : List Spec) (k : Nat), News R i v w D k ss
  | [], _ => trivial
  | .val c :: ss, k => News.none (w := w) h ss (k + 1)
  | .cpy c :: ss, k => News.none (w := w) h ss (k + 1)
  | .sat V T :: ss, k => ⟨fun _ u _ _ => h k u, News.none h ss (k + 1)⟩
/-- Of every two: -/
def Pairs (R : Nat → Nat → Value → Value → Prop) : List (Nat × Value) → Prop
  | [] => True
  | (i, v) :: X => (∀ p ∈ X, R i p.1 v p.2 ∨ R p.1 i p.2 v) ∧ Pairs R X
def walk (P : Program) (ops : Array Oper) (S : World → Prop) (R : Nat → Nat → Value → Value → Prop) (all : List Spec) (Q : Act → World → Prop) : List Oper → List Spec → Nat → List (Nat × (World → Prop)) → List (Nat × Value) → Act → Prop
  | [], [], _, E, X, a => ∀ w, S w → FactsAll w E → Pairs R X → Q a w
  | o :: l, .val c :: ss, i, E, X, a => (if Region.wanted o (yielded ops a.tmps) = true then ∀ w, S w → Facts o w E → does P o a w (fun v w' => v = c ∧ w' = w) else c = undef) ∧ walk P ops S R all Q l ss (i + 1) E X (a.put o.dst c)
  | o :: l, .cpy k :: ss, i, E, X, a => (waits o k = true ∧ isIn X k = true ∧ Region.wanted o (yielded ops a.tmps) = true ∧ ∀ w, S w → Facts o w E → does P o a w (fun v w' => v = lookX X k ∧ w' = w)) ∧ walk P ops S R all Q l ss (i + 1) ((i, lookE E k) :: E) X (a.put o.dst (lookX X k))
  | o :: l, .sat V T :: ss, i, E, X, a => (Region.wanted o (yielded ops a.tmps) = true ∧ ∀ w, S w → Facts o w E → does P o a w (fun v w' => V v w' ∧ T (lookX (X.filter fun p => waits o p.1)) w w' ∧ News R i v w (X.filter fun p => waits o p.1) 0 all)) ∧ ∀ x, walk P ops S R all Q l ss (i + 1) ((i, fun w => V x w) :: E) ((i, x) :: X) (a.put o.dst x)
  | _, _, _, _, _, _ => False
def spAt (ss : List Spec) (i : Nat) : Spec := ss[i]?.getD (.val undef)
theorem does_mono {o : Oper} {a : Act} {w : World} {K K' : Value → World → Prop} (h : does P o a w K) (hk : ∀ v w', K v w' → K' v w') : does P o a w K' := by
  unfold does at h ⊢
  generalize (execOp _ o).run P w = r at h ⊢
  cases r with
  | halt x w' => simp only [upon] at h
  | ok x w' =>
    cases x <;> simp only [upon] at h ⊢
    case value u => exact hk _ _ h
    case skip => exact hk _ _ h
    case enter f args => exact h.mono fun e w'' ⟨v, he, hv⟩ => ⟨v, he, hk _ _ hv⟩
theorem lookX_eq {sp : Nat → Spec} {xs : Nat → Value} : ∀ {X : List (Nat × Value)}, (∀ p ∈ X, (sp p.1).isSat = true ∧ p.2 = xs p.1) → ∀ {k}, isIn X k = true → lookX X k = xs k ∧ (sp k).isSat = true
  | [], _, k, h => by cases h
  | (j, v) :: X, hX, k, h => by
    obtain ⟨h1, h2⟩ := hX (j, v) (by simp)
    dsimp only at h1 h2
    unfold lookX
    unfold isIn at h
    by_cases e : j = k
    · subst e; rw [if_pos rfl]; exact ⟨h2, h1⟩
    · rw [if_neg e] at h ⊢
      exact lookX_eq (fun p hp => hX p (by simp [hp])) h
theorem lookX_dep {sp : Nat → Spec} {xs : Nat → Value} {o : Oper} {i : Nat} (hb : ∀ j, waits o j = true → j < i) : ∀ {X : List (Nat × Value)}, (∀ p ∈ X, (sp p.1).isSat = true ∧ p.2 = xs p.1) → (∀ j, j < i → (sp j).isSat = true → isIn X j = true) →
    lookX (X.filter fun p => waits o p.1) = depF sp (waits o) xs := by
  intro X hX hin
  funext d
  unfold depF
  have gen : ∀ Y : List (Nat × Value), (∀ p ∈ Y, (sp p.1).isSat = true ∧ p.2 = xs p.1) → lookX (Y.filter fun p => waits o p.1) d = if waits o d = true ∧ isIn Y d = true then xs d else undef := by
    intro Y hY
    induction Y with
    | nil => simp [lookX, isIn]
    | cons p Y ih =>
      obtain ⟨j, v⟩ := p
      obtain ⟨h1, h2⟩ := hY (j, v) (by simp)
      dsimp only at h1 h2
      have ih := ih (fun p hp => hY p (by simp [hp]))
      by_cases hw : waits o j = true
      · rw [List.filter_cons_of_pos (p := fun p : Nat × Value => waits o p.1) hw]
        unfold lookX isIn
        by_cases e : j = d
        · subst e; rw [if_pos rfl, if_pos rfl, if_pos ⟨hw, rfl⟩]; exact h2
        · rw [if_neg e, if_neg e]; exact ih
      · rw [List.filter_cons_of_neg (p := fun p : Nat × Value => waits o p.1) hw, ih]
        by_cases e : j = d
        · subst e; rw [if_neg (fun h => hw h.1), if_neg (fun h => hw h.1)]
        · have : isIn ((j, v) :: Y) d = isIn Y d := by show (if j = d then true else isIn Y d) = _; rw [if_neg e]
          rw [this]
  rw [gen X hX]
  by_cases hw : waits o d = true
  · by_cases hs : (sp d).isSat = true
    · rw [if_pos ⟨hw, hin d (hb d hw) hs⟩, if_pos ⟨hw, hs⟩]
    · rw [if_neg (fun h => hs (lookX_eq hX h.2).2), if_neg (fun h => hs h.2)]
  · rw [if_neg (fun h => hw h.1), if_neg (fun h => hw h.1)]
theorem lookX_filter {o : Oper} {k : Nat} (hw : waits o k = true) : ∀ X : List (Nat × Value), lookX (X.filter fun p => waits o p.1) k = lookX X k
  | [] => rfl
  | (j, v) :: X => by
    have ih := lookX_filter hw X
    by_cases hj : waits o j = true
    · rw [List.filter_cons_of_pos (p := fun p : Nat × Value => waits o p.1) hj]
      unfold lookX
      split
      · rfl
      · exact ih
    · rw [List.filter_cons_of_neg (p := fun p : Nat × Value => waits o p.1) hj, ih]
      have : j ≠ k := fun e => hj (e ▸ hw)
      show lookX X k = if j = k then v else lookX X k
      rw [if_neg this]
theorem lookE_ok {sp : Nat → Spec} {xs : Nat → Value} : ∀ {E : List (Nat × (World → Prop))}, (∀ p ∈ E, ∀ w, okF sp xs p.1 w → p.2 w) → ∀ {k w}, okF sp xs k w → lookE E k w
  | [], _, k, w, h => trivial
  | (j, F) :: E, hE, k, w, h => by
    unfold lookE
    by_cases e : j = k
    · subst e; rw [if_pos rfl]; exact hE (j, F) (by simp) w h
    · rw [if_neg e]; exact lookE_ok (fun p hp => hE p (by simp [hp])) h
theorem facts_of {sp : Nat → Spec} {xs : Nat → Value} {o : Oper} {w : World} : ∀ {E : List (Nat × (World → Prop))}, (∀ p ∈ E, ∀ w, okF sp xs p.1 w → p.2 w) → (∀ k, waits o k = true → okF sp xs k w) → Facts o w E
  | [], _, _ => trivial
  | (j, F) :: E, hE, h => by
    refine ⟨?_, facts_of (fun p hp => hE p (by simp [hp])) h⟩
    split
    · rename_i hw; exact hE (j, F) (by simp) w (h j hw)
    · trivial
theorem factsAll_of {sp : Nat → Spec} {xs : Nat → Value} {w : World} : ∀ {E : List (Nat × (World → Prop))}, (∀ p ∈ E, ∀ w, okF sp xs p.1 w → p.2 w) → (∀ p ∈ E, okF sp xs p.1 w) → FactsAll w E
  | [], _, _ => trivial
  | (j, F) :: E, hE, h => ⟨hE (j, F) (by simp) w (h (j, F) (by simp)), factsAll_of (fun p hp => hE p (by simp [hp])) (fun p hp => h p (by simp [hp]))⟩
theorem walk_gives {S : World → Prop} {Q : Act → World → Prop} {a0 : Act} {sp : Nat → Spec} {R : Nat → Nat → Value → Value → Prop} {all : List Spec} (hall : ∀ j, (sp j).isSat = true → all[j]? = some (sp j)) (hback : ∀ (i : Nat) o, ops[i]? = some o → ∀ j, waits o j = true → j < i) (xs : Nat → Value) :
    ∀ (l : List Oper) (ss : List Spec) (i : Nat) (E : List (Nat × (World → Prop))) (X : List (Nat × Value)), i + l.length = ops.size → (∀ j, l[j]? = ops[i + j]?) → (∀ j, j < l.length → ss[j]? = some (sp (i + j))) →
      (∀ p ∈ E, ∀ w, okF sp xs p.1 w → p.2 w) → (∀ p ∈ E, p.1 < i) → (∀ p ∈ X, (sp p.1).isSat = true ∧ p.2 = xs p.1) → (∀ p ∈ X, p.1 < i) → (∀ j, j < i → (sp j).isSat = true → isIn X j = true) → X.Pairwise (fun a b => a.1 ≠ b.1) →
      walk P ops S R all Q l ss i E X (puts ops (full sp xs) (fun _ => true) i a0) →
      (∀ j o, i ≤ j → ops[j]? = some o → (∀ k, sp j = .cpy k → waits o k = true) ∧ ∀ w, S w → (∀ k, waits o k = true → okF sp xs k w) →
        if Region.wanted o (yielded ops (puts ops (full sp xs) (fun _ => true) j a0).tmps) = true then does P o (puts ops (full sp xs) (fun _ => true) j a0) w (todo sp R xs j (waits o) w) else sp j = .val undef) ∧
      (∀ w, S w → (∀ j, j < ops.size → okF sp xs j w) → (∀ i j, i < ops.size → j < ops.size → i ≠ j → (sp i).isSat = true → (sp j).isSat = true → R i j (xs i) (xs j) ∨ R j i (xs j) (xs i)) → Q (puts ops (full sp xs) (fun _ => true) ops.size a0) w)
  | [], ss, i, E, X, hn, hl, hs, hE, hEi, hX, hXi, hXc, hXp, h => by
    have hi : i = ops.size := by simpa using hn
    refine ⟨fun j o hj ho => ?_, fun w hS hok hpr => ?_⟩
    · have := (Array.getElem?_eq_some_iff.1 ho).1; omega
    · cases ss with
      | cons s ss => simp only [walk] at h
      | nil =>
        simp only [walk] at h
        rw [hi] at h
        refine h w hS (factsAll_of hE fun p hp => hok _ (by have := hEi p hp; omega)) ?_
        clear h hs hl hE hEi hXc
        induction X with
        | nil => trivial
        | cons p X ih =>
          obtain ⟨k, v⟩ := p
          obtain ⟨hsat, hv⟩ := hX (k, v) (by simp)
          have hk := hXi (k, v) (by simp)
          dsimp only at hk hsat hv
          rw [List.pairwise_cons] at hXp
          refine ⟨fun q hq => ?_, ih (fun q hq => hX q (by simp [hq])) (fun q hq => hXi q (by simp [hq])) hXp.2⟩
          obtain ⟨hq2, hq3⟩ := hX q (by simp [hq])
          have hq1 := hXi q (by simp [hq])
          rw [hq3, hv]
          exact hpr k q.1 (by omega) (by omega) (hXp.1 q hq) hsat hq2
  | o :: l, ss, i, E, X, hn, hl, hs, hE, hEi, hX, hXi, hXc, hXp, h => by
    have h0 : ops[i]? = some o := by have := hl 0; simpa using this.symm
    have hlt : i < ops.size := by simp at hn; omega
    have hs0 := hs 0 (by simp)
    have hd : dstOf ops i = o.dst := by unfold dstOf; rw [h0]; rfl
    cases ss with
    | nil => simp at hs0
    | cons s ss =>
      have hsi : sp i = s := by simpa using hs0.symm
      have hs' : ∀ j, j < l.length → ss[j]? = some (sp (i + 1 + j)) := by
        intro j hj
        have := hs (j + 1) (by simp; omega)
        rw [show i + 1 + j = i + (j + 1) by omega]
        simpa using this
      have hl' : ∀ j, l[j]? = ops[i + 1 + j]? := by
        intro j
        have := hl (j + 1)
        rw [show i + 1 + j = i + (j + 1) by omega]
        simpa using this
      have hn' : i + 1 + l.length = ops.size := by simp at hn; omega
      have hput : (puts ops (full sp xs) (fun _ => true) i a0).put o.dst (full sp xs i) = puts ops (full sp xs) (fun _ => true) (i + 1) a0 := by
        simp only [puts, if_true, hd]
      have hEi' : ∀ p ∈ E, p.1 < i + 1 := fun p hp => Nat.lt_succ_of_lt (hEi p hp)
      have hXi' : ∀ p ∈ X, p.1 < i + 1 := fun p hp => Nat.lt_succ_of_lt (hXi p hp)
      cases s with
      | val c =>
        simp only [walk] at h
        obtain ⟨h1, h2⟩ := h
        have hc : full sp xs i = c := by unfold full; rw [hsi]
        rw [← hc, hput] at h2
        have ih := walk_gives hall hback xs l ss (i + 1) E X hn' hl' hs' hE hEi' hX hXi' (fun j hj hsat => by
          by_cases e : j = i
          · rw [e, hsi] at hsat; cases hsat
          · exact hXc j (by omega) hsat) hXp h2
        refine ⟨fun j oj hj hoj => ?_, ih.2⟩
        by_cases e : j = i
        · subst e
          rw [h0] at hoj; cases hoj
          refine ⟨fun k hk => (by rw [hsi] at hk; cases hk), fun w hS hk => ?_⟩
          split
          · rename_i hw
            rw [if_pos hw] at h1
            exact does_mono (h1 w hS (facts_of hE hk)) (fun v w' hv => by unfold todo; rw [hsi]; exact hv)
          · rename_i hw
            rw [if_neg hw] at h1
            rw [hsi, h1]
        · exact ih.1 j oj (by omega) hoj
      | cpy c =>
        simp only [walk] at h
        obtain ⟨⟨hwc, hin, hw, h1⟩, h2⟩ := h
        obtain ⟨hxc, hsc⟩ := lookX_eq hX hin
        have hc : full sp xs i = xs c := by unfold full; rw [hsi]
        rw [hxc, ← hc, hput] at h2
        have ih := walk_gives hall hback xs l ss (i + 1) _ X hn' hl' hs' (fun p hp => by
          rcases List.mem_cons.1 hp with rfl | hp
          · intro w hw
            dsimp only at hw ⊢
            refine lookE_ok hE ?_
            unfold okF at hw ⊢
            rw [hsi] at hw
            have hw : (sp c).known (xs c) w := hw
            cases hs : sp c with
            | val _ => trivial
            | cpy _ => rw [hs] at hsc; cases hsc
            | sat V T => rw [hs] at hw; exact hw
          · exact hE p hp) (fun p hp => by
          rcases List.mem_cons.1 hp with rfl | hp
          · exact Nat.lt_succ_self _
          · exact hEi' p hp) hX hXi' (fun j hj hsat => by
          by_cases e : j = i
          · rw [e, hsi] at hsat; cases hsat
          · exact hXc j (by omega) hsat) hXp h2
        refine ⟨fun j oj hj hoj => ?_, ih.2⟩
        by_cases e : j = i
        · subst e
          rw [h0] at hoj; cases hoj
          refine ⟨fun k hk => (by rw [hsi] at hk; cases hk; exact hwc), fun w hS hk => ?_⟩
          rw [if_pos hw]
          exact does_mono (h1 w hS (facts_of hE hk)) (fun v w' hv => by unfold todo; rw [hsi]; rw [hxc] at hv; exact hv)
        · exact ih.1 j oj (by omega) hoj
      | sat V T =>
        simp only [walk] at h
        obtain ⟨⟨hw, h1⟩, h2⟩ := h
        have hc : full sp xs i = xs i := by unfold full; rw [hsi]
        have h2' := h2 (xs i)
        rw [hc] at hput
        rw [hput] at h2'
        have ih := walk_gives hall hback xs l ss (i + 1) _ _ hn' hl' hs' (fun p hp => by
          rcases List.mem_cons.1 hp with rfl | hp
          · intro w hw; unfold okF at hw; rw [hsi] at hw; exact hw
          · exact hE p hp) (fun p hp => by
          rcases List.mem_cons.1 hp with rfl | hp
          · exact Nat.lt_succ_self _
          · exact hEi' p hp) (fun p hp => by
          rcases List.mem_cons.1 hp with rfl | hp
          · exact ⟨by rw [hsi]; rfl, rfl⟩
          · exact hX p hp) (fun p hp => by
          rcases List.mem_cons.1 hp with rfl | hp
          · exact Nat.lt_succ_self _
          · exact hXi' p hp) (fun j hj hsat => by
          show (if i = j then true else isIn X j) = true
          by_cases e : i = j
          · rw [if_pos e]
          · rw [if_neg e]; exact hXc j (by omega) hsat) (List.pairwise_cons.2 ⟨fun p hp => by have := hXi p hp; dsimp only; omega, hXp⟩) h2'
        refine ⟨fun j oj hj hoj => ?_, ih.2⟩
        by_cases e : j = i
        · subst e
          rw [h0] at hoj; cases hoj
          refine ⟨fun k hk => (by rw [hsi] at hk; cases hk), fun w hS hk => ?_⟩
          rw [if_pos hw]
          refine does_mono (h1 w hS (facts_of hE hk)) ?_
          rintro v w' ⟨hv, ht, hn⟩
          unfold todo
          rw [hsi]
          rw [lookX_dep (hback j o h0) hX hXc] at ht
          refine ⟨hv, ht, fun k hne u hu hdep => ?_⟩
          have hk' : (sp k).isSat = true := by
            generalize sp k = s at hu
            cases s with
            | val c => exact hu.elim
            | cpy c => exact hu.elim
            | sat _ _ => rfl
          have := hn.at k _ (hall k hk') (by omega) u hu (fun p hp hne => by
            obtain ⟨hp1, hp2⟩ := List.mem_filter.1 hp
            obtain ⟨hp3, hp4⟩ := hX p hp1
            rw [Nat.zero_add] at hne ⊢
            rw [hp4]
            exact hdep p.1 hp2 hp3 hne)
          rwa [Nat.zero_add] at this
        · exact ih.1 j oj (by omega) hoj
section
variable {S : World → Prop} {R : Nat → Nat → Value → Value → Prop} {all : List Spec} {Q : Act → World → Prop} {o : Oper} {l : List Oper} {ss : List Spec} {i : Nat} {E : List (Nat × (World → Prop))} {X : List (Nat × Value)} {a : Act}
theorem walk_nil (h : ∀ w, S w → FactsAll w E → Pairs R X → Q a w) : walk P ops S R all Q [] [] i E X a := by simp only [walk]; exact h
theorem walk_val {c : Value} (hw : Region.wanted o (yielded ops a.tmps) = true) (h1 : ∀ w, S w → Facts o w E → does P o a w (fun v w' => v = c ∧ w' = w)) (h2 : walk P ops S R all Q l ss (i + 1) E X (a.put o.dst c)) : walk P ops S R all Q (o :: l) (.val c :: ss) i E X a := by
  simp only [walk]; rw [if_pos hw]; exact ⟨h1, h2⟩
theorem walk_skip (hw : Region.wanted o (yielded ops a.tmps) = false) (h2 : walk P ops S R all Q l ss (i + 1) E X (a.put o.dst undef)) : walk P ops S R all Q (o :: l) (.val undef :: ss) i E X a := by
  simp only [walk]; rw [if_neg (by rw [hw]; decide)]; exact ⟨trivial, h2⟩
theorem walk_cpy {k : Nat} (hk : waits o k = true) (hi : isIn X k = true) (hw : Region.wanted o (yielded ops a.tmps) = true) (h1 : ∀ w, S w → Facts o w E → does P o a w (fun v w' => v = lookX X k ∧ w' = w)) (h2 : walk P ops S R all Q l ss (i + 1) ((i, lookE E k) :: E) X (a.put o.dst (lookX X k))) : walk P ops S R all Q (o :: l) (.cpy k :: ss) i E X a := by
  simp only [walk]; exact ⟨⟨hk, hi, hw, h1⟩, h2⟩
theorem walk_sat {V : Value → World → Prop} {T : (Nat → Value) → World → World → Prop} (hw : Region.wanted o (yielded ops a.tmps) = true) (h1 : ∀ w, S w → Facts o w E → does P o a w (fun v w' => V v w' ∧ T (lookX (X.filter fun p => waits o p.1)) w w' ∧ News R i v w (X.filter fun p => waits o p.1) 0 all)) (h2 : ∀ x, walk P ops S R all Q l ss (i + 1) ((i, fun w => V x w) :: E) ((i, x) :: X) (a.put o.dst x)) : walk P ops S R all Q (o :: l) (.sat V T :: ss) i E X a := by
  simp only [walk]; exact ⟨⟨hw, h1⟩, h2⟩
end
theorem Facts.get {o : Oper} {w : World} {j : Nat} {F : World → Prop} {E : List (Nat × (World → Prop))} (h : Facts o w ((j, F) :: E)) (hw : waits o j = true) : F w := by
  have := h.1
  rwa [if_pos hw] at this
theorem Facts.tail {o : Oper} {w : World} {p : Nat × (World → Prop)} {E : List (Nat × (World → Prop))} (h : Facts o w (p :: E)) : Facts o w E := h.2
def depB (l : List Oper) (i d : Nat) : Bool := match l[i]? with | some o => waits o d | none => false
/-- what of two operations the first leaves of the second's value -/
def Ok2 (S : World → Prop) (sp : Nat → Spec) (R : Nat → Nat → Value → Value → Prop) (l : List Oper) (i j : Nat) : Spec → Spec → Prop
  | .sat _ T, .sat V _ => ∀ f v w w', S w → V v w → Rel sp R (depB l i) j f v w → T f w w' → V v w'
  | _, _ => True
def Row2 (S : World → Prop) (sp : Nat → Spec) (R : Nat → Nat → Value → Value → Prop) (l : List Oper) (i : Nat) (s : Spec) : Nat → List Spec → Prop
  | _, [] => True
  | j, .sat V T :: ss => (i ≠ j → depB l j i = false → Ok2 S sp R l i j s (.sat V T)) ∧ Row2 S sp R l i s (j + 1) ss
  | j, _ :: ss => Row2 S sp R l i s (j + 1) ss
def Stab (S : World → Prop) (sp : Nat → Spec) (R : Nat → Nat → Value → Value → Prop) (l : List Oper) (all : List Spec) : Nat → List Spec → Prop
  | _, [] => True
  | i, .sat V T :: ss => Row2 S sp R l i (.sat V T) 0 all ∧ Stab S sp R l all (i + 1) ss
  | i, _ :: ss => Stab S sp R l all (i + 1) ss
theorem Row2.at {S : World → Prop} {sp : Nat → Spec} {R : Nat → Nat → Value → Value → Prop} {l : List Oper} {i : Nat} {s : Spec} : ∀ {ss : List Spec} {k : Nat}, Row2 S sp R l i s k ss → ∀ (j : Nat) V T, ss[j]? = some (.sat V T) → i ≠ k + j → depB l (k + j) i = false → Ok2 S sp R l i (k + j) s (.sat V T)
  | [], _, _, j, V, T, h => by simp at h
  | .val c :: ss, k, h, 0, V, T, hs => by simp at hs
  | .cpy c :: ss, k, h, 0, V, T, hs => by simp at hs
  | .sat V' T' :: ss, k, h, 0, V, T, hs => by simp at hs; obtain ⟨rfl, rfl⟩ := hs; intro hne hd; exact h.1 hne hd
  | .val c :: ss, k, h, j + 1, V, T, hs => by
    have := Row2.at (ss := ss) (k := k + 1) h j V T (by simpa using hs)
    rw [show k + (j + 1) = k + 1 + j by omega]; exact this
  | .cpy c :: ss, k, h, j + 1, V, T, hs => by
    have := Row2.at (ss := ss) (k := k + 1) h j V T (by simpa using hs)
    rw [show k + (j + 1) = k + 1 + j by omega]; exact this
  | .sat V' T' :: ss, k, h, j + 1, V, T, hs => by
    have := Row2.at (ss := ss) (k := k + 1) h.2 j V T (by simpa using hs)
    rw [show k + (j + 1) = k + 1 + j by omega]; exact this
theorem Stab.at {S : World → Prop} {sp : Nat → Spec} {R : Nat → Nat → Value → Value → Prop} {l : List Oper} {all : List Spec} : ∀ {ss : List Spec} {k : Nat}, Stab S sp R l all k ss → ∀ (i : Nat) V T, ss[i]? = some (.sat V T) → Row2 S sp R l (k + i) (.sat V T) 0 all
  | [], _, _, i, V, T, h => by simp at h
  | .val c :: ss, k, h, 0, V, T, hs => by simp at hs
  | .cpy c :: ss, k, h, 0, V, T, hs => by simp at hs
  | .sat V' T' :: ss, k, h, 0, V, T, hs => by simp at hs; obtain ⟨rfl, rfl⟩ := hs; exact h.1
  | .val c :: ss, k, h, i + 1, V, T, hs => by
    have := Stab.at (ss := ss) (k := k + 1) h i V T (by simpa using hs)
    rw [show k + (i + 1) = k + 1 + i by omega]; exact this
  | .cpy c :: ss, k, h, i + 1, V, T, hs => by
    have := Stab.at (ss := ss) (k := k + 1) h i V T (by simpa using hs)
    rw [show k + (i + 1) = k + 1 + i by omega]; exact this
  | .sat V' T' :: ss, k, h, i + 1, V, T, hs => by
    have := Stab.at (ss := ss) (k := k + 1) h.2 i V T (by simpa using hs)
    rw [show k + (i + 1) = k + 1 + i by omega]; exact this
def Keeps (S : World → Prop) (sp : Nat → Spec) (l : List Oper) : Nat → List Spec → Prop
  | _, [] => True
  | i, .sat _ T :: ss => (∀ f w w', S w → Dep sp (depB l i) f w → T f w w' → S w') ∧ Keeps S sp l (i + 1) ss
  | i, _ :: ss => Keeps S sp l (i + 1) ss
theorem Keeps.at {S : World → Prop} {sp : Nat → Spec} {l : List Oper} : ∀ {ss : List Spec} {k : Nat}, Keeps S sp l k ss → ∀ (i : Nat) V T, ss[i]? = some (.sat V T) → ∀ f w w', S w → Dep sp (depB l (k + i)) f w → T f w w' → S w'
  | [], _, _, i, V, T, h => by simp at h
  | .val c :: ss, k, h, 0, V, T, hs => by simp at hs
  | .cpy c :: ss, k, h, 0, V, T, hs => by simp at hs
  | .sat V' T' :: ss, k, h, 0, V, T, hs => by simp at hs; obtain ⟨rfl, rfl⟩ := hs; exact h.1
  | .val c :: ss, k, h, i + 1, V, T, hs => by
    have := Keeps.at (ss := ss) (k := k + 1) h i V T (by simpa using hs)
    rw [show k + (i + 1) = k + 1 + i by omega]; exact this
  | .cpy c :: ss, k, h, i + 1, V, T, hs => by
    have := Keeps.at (ss := ss) (k := k + 1) h i V T (by simpa using hs)
    rw [show k + (i + 1) = k + 1 + i by omega]; exact this
  | .sat V' T' :: ss, k, h, i + 1, V, T, hs => by
    have := Keeps.at (ss := ss) (k := k + 1) h.2 i V T (by simpa using hs)
    rw [show k + (i + 1) = k + 1 + i by omega]; exact this
theorem bOf_none {n j : Nat} (h : j < n) : bOf (Array.replicate n false) j = false := by unfold bOf; simp [h]
/-- **The region**, as all its orders. -/
theorem all_ag {Q : Exit → Act → World → Prop} {a : Act} {w : World} {l : List Oper} (S : World → Prop) (R : Nat → Nat → Value → Value → Prop) (ss : List Spec) (hB : Region.lexB .any l.toArray = true) (hlen : ss.length = l.length)
    (hS : S w.drew) (hst : Stab S (spAt ss) R l ss 0 ss) (hk : Keeps S (spAt ss) l 0 ss) (h : walk P l.toArray S R ss (fun a w => Q .normal a w) l ss 0 [] [] a) : wpAny P .any l.toArray Q l.toArray.size (Array.replicate l.toArray.size false) a w.drew := by
  have hx := lex_of hB
  have hsp : ∀ j, j < l.length → ss[j]? = some (spAt ss j) := by
    intro j hj
    unfold spAt
    rw [List.getElem?_eq_getElem (by omega)]; rfl
  have hall : ∀ j, (spAt ss j).isSat = true → ss[j]? = some (spAt ss j) := by
    intro j hj
    unfold spAt at hj ⊢
    cases h : ss[j]? with
    | none => rw [h] at hj; cases hj
    | some s => rfl
  have hdB : ∀ i o, l.toArray[i]? = some o → depB l i = waits o := by
    intro i o ho
    funext d
    unfold depB
    rw [show l[i]? = some o by simpa using ho]
  have gives := fun (xs : Nat → Value) =>
    walk_gives (P := P) (ops := l.toArray) (S := S) (Q := fun a w => Q .normal a w) (a0 := a) (sp := spAt ss) (R := R) hall hx.back xs l ss 0 [] [] (by simp) (by simp) (fun j hj => by rw [Nat.zero_add]; exact hsp j hj) (fun p hp => by cases hp) (fun p hp => by cases hp) (fun p hp => by cases hp) (fun p hp => by cases hp) (fun j hj => by omega) List.Pairwise.nil h
  have := any_ag (P := P) (ops := l.toArray) (Q := Q) (a0 := a) (S := S) (sp := spAt ss) (R := R) hx
    (fun i j o V T V' T' hio hj hne hnw hsi hsj f v w w' hS hv hr hs => by
      have hil : i < l.length := by have := (Array.getElem?_eq_some_iff.1 hio).1; simpa using this
      have hi' := hsp i hil
      have hj' := hsp j (by simpa using hj)
      rw [hsi] at hi'
      rw [hsj] at hj'
      have h1 := hst.at i V T hi'
      have hjl : l.toArray[j]? = some l.toArray[j] := Array.getElem?_eq_getElem hj
      have h2 := h1.at j V' T' hj' (by omega) (by rw [Nat.zero_add, Nat.zero_add, hdB j _ hjl]; exact hnw _ hjl)
      rw [Nat.zero_add, Nat.zero_add] at h2
      exact h2 f v w w' hS hv (by rw [hdB i o hio]; exact hr) hs)
    (fun i o V T hio hsi f w w' hS hd hs => by
      have hil : i < l.length := by have := (Array.getElem?_eq_some_iff.1 hio).1; simpa using this
      have hi' := hsp i hil
      rw [hsi] at hi'
      exact hk.at i V T hi' f w w' hS (by rw [Nat.zero_add, hdB i o hio]; exact hd) hs)
    (fun i k o ho hs => ((gives (fun _ => undef)).1 i o (Nat.zero_le _) ho).1 k hs)
    (fun i o ho xs => ((gives xs).1 i o (Nat.zero_le _) ho).2)
    (fun xs => (gives xs).2)
    l.toArray.size (Array.replicate l.toArray.size false) (fun _ => undef) w.drew (by simp) (by
      unfold left
      exact Nat.le_trans List.countP_le_length (by simp)) hS
      (fun j hj hb => by rw [bOf_none hj] at hb; cases hb)
      (fun j o ho hb => by
        have hj := (Array.getElem?_eq_some_iff.1 ho).1
        rw [bOf_none hj] at hb; cases hb)
      (fun i j hi hj hb => by rw [bOf_none hi] at hb; cases hb)
  have e : ∀ k, k ≤ l.toArray.size → puts l.toArray (full (spAt ss) (fun _ => undef)) (bOf (Array.replicate l.toArray.size false)) k a = a := by
    intro k hk
    induction k with
    | zero => rfl
    | succ k ih =>
      simp only [puts]
      rw [bOf_none (by omega), if_neg (by decide), ih (by omega)]
  rw [e _ (Nat.le_refl _)] at this
  exact this
/-- **The region.** -/
theorem region_ag {id : Nat} {Q : Exit → Act → World → Prop} {a : Act} {w : World} {l : List Oper} (S : World → Prop) (R : Nat → Nat → Value → Value → Prop) (ss : List Spec) (hm : P.follows .mixedOrders = true) (hB : Region.lexB .any l.toArray = true) (hlen : ss.length = l.length)
    (hS : S w.drew) (hst : Stab S (spAt ss) R l ss 0 ss) (hk : Keeps S (spAt ss) l 0 ss) (h : walk P l.toArray S R ss (fun a w => Q .normal a w) l ss 0 [] [] a) : (Code.region id l.toArray true).wp P Q a w :=
  wp_region_any hm (all_ag S R ss hB hlen hS hst hk h)
end
end Go.Proofs.Ytmbafcfoboknkaa.ag
