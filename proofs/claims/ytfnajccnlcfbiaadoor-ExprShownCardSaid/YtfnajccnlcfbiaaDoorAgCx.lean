/- A region that draws its order whose operations leave alone whatever was there: what each yields stays such, so nothing need be said of any two of them. A law of no program. -/
import Derived.Test.YtfnajccnlcfbiaaDoorAg
import Derived.Test.YtfnajccnlcfbiaaDoorOwn
import Derived.StillTail
import Derived.OrdersIn
import Derived.TacticsIn
namespace Go.Proofs.YtfnajccnlcfbiaaDoor.ag
set_option linter.unusedVariables false
open Go.RowKit
/-- the world has only grown -/
abbrev grew : (Nat → Value) → World → World → Prop := fun _ w w' => Below w.heap.size w w'
/-- what is said of a value stays true of it -/
def Lasts (V : Value → World → Prop) : Prop := ∀ v w w', V v w → Below w.heap.size w w' → V v w'
def IsCalm : Spec → Prop
  | .sat V T => Lasts V ∧ ∀ f w w', T f w w' → Below w.heap.size w w'
  | _ => True
def AllCalm : List Spec → Prop
  | [] => True
  | .sat V T :: ss => (Lasts V ∧ T = grew) ∧ AllCalm ss
  | _ :: ss => AllCalm ss
theorem AllCalm.at : ∀ {ss : List Spec}, AllCalm ss → ∀ (i : Nat) V T, ss[i]? = some (.sat V T) → Lasts V ∧ T = grew
  | [], _, i, V, T, h => by simp at h
  | .val c :: ss, h, 0, V, T, hs => by simp at hs
  | .cpy c :: ss, h, 0, V, T, hs => by simp at hs
  | .sat V' T' :: ss, h, 0, V, T, hs => by simp at hs; obtain ⟨rfl, rfl⟩ := hs; exact h.1
  | .val c :: ss, h, i + 1, V, T, hs => AllCalm.at (ss := ss) h i V T (by simpa using hs)
  | .cpy c :: ss, h, i + 1, V, T, hs => AllCalm.at (ss := ss) h i V T (by simpa using hs)
  | .sat V' T' :: ss, h, i + 1, V, T, hs => AllCalm.at (ss := ss) h.2 i V T (by simpa using hs)
theorem row2_of {S : World → Prop} {sp : Nat → Spec} {R : Nat → Nat → Value → Value → Prop} {l : List Oper} {i : Nat} {s : Spec} : ∀ (ss : List Spec) (k : Nat), (∀ j V T, ss[j]? = some (.sat V T) → Ok2 S sp R l i (k + j) s (.sat V T)) → Row2 S sp R l i s k ss
  | [], _, _ => trivial
  | .val c :: ss, k, h => row2_of ss (k + 1) (fun j V T hs => by have := h (j + 1) V T (by simpa using hs); rw [show k + (j + 1) = k + 1 + j by omega] at this; exact this)
  | .cpy c :: ss, k, h => row2_of ss (k + 1) (fun j V T hs => by have := h (j + 1) V T (by simpa using hs); rw [show k + (j + 1) = k + 1 + j by omega] at this; exact this)
  | .sat V' T' :: ss, k, h => ⟨fun _ _ => h 0 V' T' rfl, row2_of ss (k + 1) (fun j V T hs => by have := h (j + 1) V T (by simpa using hs); rw [show k + (j + 1) = k + 1 + j by omega] at this; exact this)⟩
theorem stab_of {S : World → Prop} {sp : Nat → Spec} {R : Nat → Nat → Value → Value → Prop} {l : List Oper} {all : List Spec} (ha : AllCalm all) : ∀ (ss : List Spec) (k : Nat), AllCalm ss → Stab S sp R l all k ss
  | [], _, _ => trivial
  | .val c :: ss, k, h => stab_of ha ss (k + 1) h
  | .cpy c :: ss, k, h => stab_of ha ss (k + 1) h
  | .sat V' T' :: ss, k, h => ⟨row2_of all 0 (fun j V T hs f v w w' hS hv _ ht => (ha.at j V T hs).1 v w w' hv (by rw [h.1.2] at ht; exact ht)), stab_of ha ss (k + 1) h.2⟩
theorem keeps_of {X : World} {sp : Nat → Spec} {l : List Oper} : ∀ (ss : List Spec) (k : Nat), AllCalm ss → Keeps (fun W1 => Below X.heap.size X W1) sp l k ss
  | [], _, _ => trivial
  | .val c :: ss, k, h => keeps_of ss (k + 1) h
  | .cpy c :: ss, k, h => keeps_of ss (k + 1) h
  | .sat V' T' :: ss, k, h => ⟨fun f w w' hS _ ht => by rw [h.1.2] at ht; exact hS.trans (Below.mono ht hS.size), keeps_of ss (k + 1) h.2⟩
theorem region_calm {P : Program} {id : Nat} {Q : Exit → Act → World → Prop} {a : Act} {w : World} {l : List Oper} (ss : List Spec) (hm : P.follows .mixedOrders = true) (hB : Region.lexB .any l.toArray = true) (hlen : ss.length = l.length)
    (hc : AllCalm ss) (h : walk P l.toArray (fun W1 => Below w.heap.size w W1) (fun _ _ _ _ => True) ss (fun a w => Q .normal a w) l ss 0 [] [] a) : (Code.region id l.toArray true).wp P Q a w :=
  region_ag (fun W1 => Below w.heap.size w W1) (fun _ _ _ _ => True) ss hm hB hlen ((Below.refl _ _).drew) (stab_of hc ss 0 hc) (keeps_of ss 0 hc) h
/-- what an operation waits for, by its number -/
theorem Facts.of {o : Oper} {w : World} : ∀ {E : List (Nat × (World → Prop))}, Facts o w E → ∀ j, waits o j = true → lookE E j w
  | [], _, j, hw => trivial
  | (i, F) :: E, h, j, hw => by
    unfold lookE
    by_cases e : i = j
    · subst e; rw [if_pos rfl]; exact h.get hw
    · rw [if_neg e]; exact Facts.of h.tail j hw
theorem FactsAll.of {w : World} : ∀ {E : List (Nat × (World → Prop))}, FactsAll w E → ∀ j, lookE E j w
  | [], _, j => trivial
  | (i, F) :: E, h, j => by
    unfold lookE
    by_cases e : i = j
    · subst e; rw [if_pos rfl]; exact h.1
    · rw [if_neg e]; exact FactsAll.of h.2 j
section
variable {P : Program} {ops : Array Oper} {S : World → Prop} {all : List Spec} {Q : Act → World → Prop} {o : Oper} {l : List Oper} {ss : List Spec} {i : Nat} {E : List (Nat × (World → Prop))} {X : List (Nat × Value)} {a : Act}
/-- an operation whose value is such, and that leaves alone whatever was there -/
theorem walk_such {V : Value → World → Prop} (hw : Region.wanted o (yielded ops a.tmps) = true) (h1 : ∀ w, S w → Facts o w E → does P o a w (fun v w' => V v w' ∧ Below w.heap.size w w')) (h2 : ∀ x, walk P ops S (fun _ _ _ _ => True) all Q l ss (i + 1) ((i, fun w => V x w) :: E) ((i, x) :: X) (a.put o.dst x)) :
    walk P ops S (fun _ _ _ _ => True) all Q (o :: l) (.sat V grew :: ss) i E X a :=
  walk_sat hw (fun w hS hE => does_mono (h1 w hS hE) (fun v w' h => ⟨h.1, h.2, News.none (fun _ _ => trivial) _ _⟩)) h2
end
theorem lasts_eq (c : Value) : Lasts (fun v _ => v = c) := fun _ _ _ h _ => h
end Go.Proofs.YtfnajccnlcfbiaaDoor.ag
/- A region that draws its order whose last operations wait for all before them: the region of the first ones, and then the last ones one by one. And regions that append to slices of their own. Laws of no program. -/
namespace Go.Proofs.YtfnajccnlcfbiaaDoor.ag
set_option linter.unusedVariables false
open Go.RowKit
section
variable {P : Program} {l : List Oper}
/-- behind the first ones the last ones, one by one -/
def tailQ (P : Program) (l : List Oper) (Q : Exit → Act → World → Prop) (n : Nat) : Exit → Act → World → Prop
  | .normal, a, w => wpList P l.toArray Q (l.drop n) a w
  | e, a, w => Q e a w
theorem any_more {ops : Array Oper} {md : Region.Mode} {Q : Exit → Act → World → Prop} : ∀ (f : Nat) (L : Array Bool) (a : Act) (w : World), wpAny P md ops Q f L a w → wpAny P md ops Q (f + 1) L a w
  | 0, L, a, w, h => ⟨fun _ => h.2, fun i hi => by rw [h.1] at hi; cases hi⟩
  | f + 1, L, a, w, h => ⟨h.1, fun i hi => wpOp_mono (fun a w h => any_more f _ a w h) (h.2 i hi)⟩
theorem any_adds {ops : Array Oper} {md : Region.Mode} {Q : Exit → Act → World → Prop} {f : Nat} {L : Array Bool} {a : Act} {w : World} (h : wpAny P md ops Q f L a w) : ∀ k, wpAny P md ops Q (k + f) L a w
  | 0 => by rw [Nat.zero_add]; exact h
  | k + 1 => by rw [show k + 1 + f = (k + f) + 1 by omega]; exact any_more _ _ _ _ (any_adds h k)
/-- no one of the first ones is guarded by a last one -/
def guardsB (l : List Oper) (n : Nat) : Bool := (l.take n).all fun o => match o.guard with
  | some (g, _) => decide (g < n)
  | none => true
theorem wp_exits {o : Oper} {a : Act} {w : World} {K : Act → World → Prop} {Q Q' : Exit → Act → World → Prop} (hp : ∀ c a w, Q (.panic c) a w → Q' (.panic c) a w) (ho : LetsOut Q → LetsOut Q') (h : o.wp P a w K Q) : o.wp P a w K Q' := by
  unfold Oper.wp at *
  generalize (execOp a.eval o).run P w = r at *
  cases r with
  | ok n w' =>
    cases n <;> simp only [Oper.upon] at h ⊢ <;>
      first
        | exact h
        | exact Calls.mono h (fun e w'' he => by cases e <;> first | exact he | exact hp _ _ _ he | exact ho he)
  | halt x w' => cases x <;> simp only [Oper.upon] at h ⊢ <;> first | exact hp _ _ _ h | exact h
theorem head_at {n i : Nat} (hi : i < n) : (l.take n).toArray[i]? = l.toArray[i]? := by simp [hi]
theorem head_none {n i : Nat} (hi : n ≤ i) : (l.take n).toArray[i]? = none := by simp; omega
theorem yielded_head {n j : Nat} (hj : j < n) (tmps : Array Value) : yielded (l.take n).toArray tmps j = yielded l.toArray tmps j := by unfold yielded; rw [head_at hj]
theorem wanted_head {n i : Nat} {o : Oper} (hi : i < n) (ho : l.toArray[i]? = some o) (hg : guardsB l n = true) (tmps : Array Value) : Region.wanted o (yielded (l.take n).toArray tmps) = Region.wanted o (yielded l.toArray tmps) := by
  have h1 := List.all_eq_true.1 hg o (by
    have h2 : (l.take n)[i]? = some o := by rw [List.getElem?_take_of_lt hi]; simpa using ho
    exact List.mem_of_getElem? h2)
  unfold Region.wanted
  cases hgd : o.guard with
  | none => rfl
  | some p =>
    obtain ⟨g, b⟩ := p
    rw [hgd] at h1
    have h3 : g < n := by simpa using h1
    simp only [yielded_head h3]
theorem wpOp_head {Q : Exit → Act → World → Prop} {n i : Nat} (hi : i < n) (hg : guardsB l n = true) {K K' : Act → World → Prop} (hK : ∀ a w, K a w → K' a w) {a : Act} {w : World} (h : wpOp P (l.take n).toArray (tailQ P l Q n) i K a w) : wpOp P l.toArray Q i K' a w := by
  unfold wpOp at h ⊢
  rw [head_at hi] at h
  cases ho : l.toArray[i]? with
  | none => rw [ho] at h; exact hK _ _ h
  | some o =>
    rw [ho] at h
    simp only [wanted_head hi ho hg] at h ⊢
    split
    · rename_i hw
      rw [if_pos hw] at h
      have hlo : LetsOut (tailQ P l Q n) → LetsOut Q := fun ⟨a, w, h⟩ => ⟨a, w, h⟩
      exact h.imp (fun h => wp_exits (fun _ _ _ h => h) hlo (Oper.wp_mono hK h)) (fun h => ⟨h.1, hlo h.2⟩)
    · rename_i hw
      rw [if_neg hw] at h
      exact hK _ _ h
theorem none_left {ops : Array Oper} {listed : Array Bool} (hx : Lex ops) (hsz : listed.size = ops.size) (hr : Region.ready .any ops listed = []) : ∀ i, i < ops.size → listed.getD i false = true := by
  have all : ∀ n j, j < n → j < ops.size → listed.getD j false = true := by
    intro n
    induction n with
    | zero => intro j hj; omega
    | succ n ih =>
      intro j hj hjs
      cases hb : listed.getD j false with
      | true => rfl
      | false =>
        exfalso
        have hm : j ∈ Region.ready .any ops listed := by
          refine mem_ready.2 ⟨getD_in (by omega) hb, ops[j], Array.getElem?_eq_getElem hjs, fun e he hbd => ?_⟩
          have hlt := hx.back j _ (Array.getElem?_eq_getElem hjs) e.on (waits_iff.2 ⟨e, he, hbd, rfl⟩)
          exact ih e.on (by omega) (by omega)
        rw [hr] at hm; cases hm
  exact fun i hi => all (i + 1) i (by omega) hi
theorem any_tail {Q : Exit → Act → World → Prop} {n : Nat} (hn : n < l.length) (hs : Region.sinkB .any l.toArray n = true) (hc : Region.chainB .any l.toArray n = true) (hg : guardsB l n = true) (hx : Lex (l.take n).toArray)
    (hq : Region.seqB .any l.toArray (l.length - n) n ((List.replicate n true ++ List.replicate (l.length - n) false).toArray) = true) :
    ∀ (f : Nat) (LH L : Array Bool) (a : Act) (w : World), LH.size = n → HeadInv .any l.toArray n L → (∀ i, i < n → L.getD i false = LH.getD i false) →
      wpAny P .any (l.take n).toArray (tailQ P l Q n) f LH a w → wpAny P .any l.toArray Q (f + (l.length - n)) L a w := by
  have hsz : ∀ L, HeadInv .any l.toArray n L → L.size = l.length := fun L inv => by have := inv.size; simpa using this
  have htf : ∀ (L : Array Bool), HeadInv .any l.toArray n L → ∀ t, n ≤ t → L.getD t false = false := by
    intro L inv t ht
    rcases Nat.lt_or_ge t l.length with h | h
    · exact getD_both (inv.tail t ht (by simpa using h))
    · have := hsz L inv
      rw [Array.getD_eq_getD_getElem?, Array.getElem?_eq_none (by omega)]; rfl
  have hlf : ∀ (LH : Array Bool), LH.size = n → ∀ t, n ≤ t → LH.getD t false = false := by
    intro LH hL t ht
    rw [Array.getD_eq_getD_getElem?, Array.getElem?_eq_none (by omega)]; rfl
  have hready : ∀ (LH L : Array Bool), LH.size = n → HeadInv .any l.toArray n L → (∀ i, i < n → L.getD i false = LH.getD i false) → ∀ i, i < n → (i ∈ Region.ready .any l.toArray L ↔ i ∈ Region.ready .any (l.take n).toArray LH) := by
    intro LH L hL inv he i hi
    have hLs := hsz L inv
    have e1 : L.getD i true = LH.getD i true := by
      have := he i hi
      rw [Array.getD_eq_getD_getElem?, Array.getD_eq_getD_getElem?, Array.getElem?_eq_getElem (by omega), Array.getElem?_eq_getElem (by omega)] at this ⊢
      exact this
    have e2 : ∀ j, L.getD j false = LH.getD j false := by
      intro j
      by_cases h : j < n
      · exact he j h
      · rw [htf L inv j (by omega), hlf LH hL j (by omega)]
    rw [mem_ready, mem_ready, head_at hi, e1]
    simp only [e2]
  intro f
  induction f with
  | zero =>
    intro LH L a w hL inv he h
    by_cases hall : ∀ i, i < n → LH.getD i false = true
    · have hLe : L = (List.replicate n true ++ List.replicate (l.length - n) false).toArray := by
        have hLs := hsz L inv
        apply Array.ext
        · simp [hLs]; omega
        · intro i h1 h2
          by_cases hi : i < n
          · have := (he i hi).trans (hall i hi)
            rw [Array.getD_eq_getD_getElem?, Array.getElem?_eq_getElem h1] at this
            simp only [Option.getD_some] at this
            rw [this]
            simp [List.getElem_append, hi]
          · have := htf L inv i (by omega)
            rw [Array.getD_eq_getD_getElem?, Array.getElem?_eq_getElem h1] at this
            simp only [Option.getD_some] at this
            rw [this]
            simp [List.getElem_append, hi]
      subst hLe
      rw [Nat.zero_add]
      have hd : (l.drop n).length = l.length - n := by simp
      have := wpAny_of_seq (P := P) (md := .any) (Q' := Q) (l.drop n) n _ a w (fun j => by simp [List.getElem?_drop]) (by rw [hd]; exact hq) h.2
      rwa [hd] at this
    · exfalso
      exact hall (fun i hi => none_left hx (by simp [hL]; omega) h.1 i (by simp; omega))
  | succ f ih =>
    intro LH L a w hL inv he h
    by_cases hall : ∀ i, i < n → LH.getD i false = true
    · have h0 : Region.ready .any (l.take n).toArray LH = [] := by
        rw [List.eq_nil_iff_forall_not_mem]
        intro i hi
        obtain ⟨h1, o, ho, -⟩ := mem_ready.1 hi
        have hin : i < n := by
          rcases Nat.lt_or_ge i n with h | h
          · exact h
          · rw [head_none h] at ho; cases ho
        have := hall i hin
        rw [getD_both h1] at this
        cases this
      have hw := ih LH L a w hL inv he (by
        cases f with
        | zero => exact ⟨h0, h.1 h0⟩
        | succ f => exact ⟨fun _ => h.1 h0, fun i hi => by rw [h0] at hi; cases hi⟩)
      rw [show f + 1 + (l.length - n) = 1 + (f + (l.length - n)) by omega]
      exact any_adds hw 1
    · have hne : ∃ i, i < n ∧ LH.getD i false = false := by
        false_or_by_contra
        rename_i hno
        exact hall fun i hi => by
          cases hb : LH.getD i false with
          | true => rfl
          | false => exact absurd ⟨i, hi, hb⟩ hno
      obtain ⟨i0, hi0, hb0⟩ := hne
      have hLs := hsz L inv
      have hun : L.getD i0 true = false := getD_in (by omega) (by rw [he i0 hi0]; exact hb0)
      have hlt : ∀ i ∈ Region.ready .any l.toArray L, i < n := fun i hi => by
        rcases Nat.lt_or_ge i n with h | h
        · exact h
        · exact absurd hi (tail_waits hs hc (by simpa using hn) inv _ i0 rfl hi0 hun i h)
      rw [show f + 1 + (l.length - n) = (f + (l.length - n)) + 1 by omega]
      refine ⟨fun h0 => ?_, fun i hi => ?_⟩
      · exfalso
        refine hall (fun k hk => none_left hx (by simp [hL]; omega) (List.eq_nil_iff_forall_not_mem.2 fun i hi => ?_) k (by simp; omega))
        obtain ⟨-, o, ho, -⟩ := mem_ready.1 hi
        have hin : i < n := by
          rcases Nat.lt_or_ge i n with h | h
          · exact h
          · rw [head_none h] at ho; cases ho
        have := (hready LH L hL inv he i hin).2 hi
        rw [h0] at this; cases this
      · have hin := hlt i hi
        have hi' := (hready LH L hL inv he i hin).1 hi
        refine wpOp_head hin hg (fun a w hw => ih _ _ a w (by simpa using hL) (inv.set hi hin) (fun j hj => ?_) hw) (h.2 i hi')
        by_cases e : i = j
        · subst e
          rw [Array.getD_eq_getD_getElem?, Array.getD_eq_getD_getElem?]
          simp [hL, hLs, hin]; omega
        · rw [getD_set_ne false e, getD_set_ne false e]; exact he j hj
/-- what is asked of a region whose last operations, from the n-th on, wait for all before them -/
def tailB (l : List Oper) (n : Nat) : Bool :=
  decide (n < l.length) && Region.sinkB .any l.toArray n && Region.chainB .any l.toArray n && guardsB l n && Region.lexB .any (l.take n).toArray && Region.seqB .any l.toArray (l.length - n) n ((List.replicate n true ++ List.replicate (l.length - n) false).toArray)
theorem region_ag_tail {id : Nat} {Q : Exit → Act → World → Prop} {a : Act} {w : World} (n : Nat) (S : World → Prop) (R : Nat → Nat → Value → Value → Prop) (ss : List Spec) (hm : P.follows .mixedOrders = true) (hT : tailB l n = true) (hlen : ss.length = (l.take n).length)
    (hS : S w.drew) (hst : Stab S (spAt ss) R (l.take n) ss 0 ss) (hk : Keeps S (spAt ss) (l.take n) 0 ss) (h : walk P (l.take n).toArray S R ss (fun a w => wpList P l.toArray Q (l.drop n) a w) (l.take n) ss 0 [] [] a) : (Code.region id l.toArray true).wp P Q a w := by
  simp only [tailB, Bool.and_eq_true, decide_eq_true_eq] at hT
  obtain ⟨⟨⟨⟨⟨hn, hs⟩, hc⟩, hg⟩, hB⟩, hq⟩ := hT
  have hx := lex_of hB
  have inv0 : HeadInv .any l.toArray n (Array.replicate l.toArray.size false) :=
    ⟨by simp, fun j oj _ hl => (by rw [getD_replicate_false] at hl; cases hl), fun t _ ht => getD_in (by simpa using ht) (getD_replicate_false _ _)⟩
  refine wp_region_any hm ?_
  have h1 := all_ag (P := P) (Q := tailQ P l Q n) (a := a) (w := w) (l := l.take n) S R ss hB hlen hS hst hk h
  have h2 := any_tail hn hs hc hg hx hq _ _ (Array.replicate l.toArray.size false) a w.drew (by simp; omega) inv0 (fun i hi => by rw [getD_replicate_false, getD_replicate_false]) h1
  have e : (l.take n).toArray.size + (l.length - n) = l.toArray.size := by simp; omega
  rw [e] at h2
  exact h2
theorem region_calm_tail {id : Nat} {Q : Exit → Act → World → Prop} {a : Act} {w : World} (n : Nat) (ss : List Spec) (hm : P.follows .mixedOrders = true) (hB : tailB l n = true) (hlen : ss.length = (l.take n).length)
    (hc : AllCalm ss) (h : walk P (l.take n).toArray (fun W1 => Below w.heap.size w W1) (fun _ _ _ _ => True) ss (fun a w => wpList P l.toArray Q (l.drop n) a w) (l.take n) ss 0 [] [] a) : (Code.region id l.toArray true).wp P Q a w :=
  region_ag_tail n (fun W1 => Below w.heap.size w W1) (fun _ _ _ _ => True) ss hm hB hlen ((Below.refl _ _).drew) (stab_of hc ss 0 hc) (keeps_of ss 0 hc) h
/-! ### Appends to slices that the region makes itself -/
/-- an append to what has N already: of what is no longer nothing turns; nothing at all if there was none -/
def tk (B : Nat) (e : TypeId) (sz N : Nat) : (Nat → Value) → World → World → Prop := fun _ W W' => Below B W W' ∧ (∀ u m zs, m ≤ N → W.ownsRow B e sz u m zs → W'.ownsRow B e sz u m zs) ∧ (N = 0 → Below W.heap.size W W')
/-- a slice that the region made -/
def Ch (B : Nat) (e : TypeId) (sz n : Nat) (xs : List Value) : Value → World → Prop := fun v W => (∃ a c, v = .slice a n c ∧ (n = 0 → c = 0)) ∧ W.ownsRow B e sz v n xs
theorem Ch.lasts {B : Nat} {e : TypeId} {sz n : Nat} {xs : List Value} : Lasts (Ch B e sz n xs) := fun v w w' h hb => ⟨h.1, owns_below h.2 hb⟩
theorem Ch.stays {B : Nat} {e : TypeId} {sz n N : Nat} {xs : List Value} {f : Nat → Value} {v : Value} {W W' : World} (h : Ch B e sz n xs v W) (ht : tk B e sz N f W W') (hn : n ≤ N ∨ N = 0) : Ch B e sz n xs v W' := by
  refine ⟨h.1, ?_⟩
  rcases hn with hn | hn
  · exact ht.2.1 _ _ _ hn h.2
  · exact owns_below h.2 (ht.2.2 hn)
theorem Ch.row {B : Nat} {e : TypeId} {sz n : Nat} {xs : List Value} {v : Value} {W : World} (h : Ch B e sz n xs v W) : Row W v sz n xs := Row.of_owns h.2
theorem Ch.new {B : Nat} {e : TypeId} {sz n : Nat} (W : World) (xs : List Value) (hl : xs.length = n * sz) (hB : B ≤ W.heap.size) (hn : n ≤ maxLen) : Ch B e sz n xs (.slice (some ⟨W.heap.size, 0, none⟩) n n) (W.alloc (.cells xs.toArray e)) :=
  ⟨⟨_, _, rfl, id⟩, owns_of_flds (Flds.new W e xs) hl hB hn⟩
theorem does_chain {o : Oper} {a : Act} {W : World} {f : Nat → Value} (s x : Operand) (t : TypeId) (ho : o.op = .call { callee := .builtin .append, args := #[s, x], argTypes := #[t, t] })
    (B : Nat) (e : TypeId) (i : TypeInfo) (z : Value) (size bytes : Nat) (ht : P.underlying t = some (.slice e)) (hi : P.info? e = some i) (hz : i.zero = some z)
    (hsize : i.size = size) (hby : i.bytes = bytes) (hzs : z.cells.size = size) (hsz : 0 < size)
    (v : Value) (n : Nat) (xs : List Value) (hs : a.eval s = v) (hown : Ch B e size n xs v W)
    (vx : Value) (m : Nat) (news : List Value) (hx : a.eval x = vx) (hrow : Row W vx size m news) (h1 : ∀ u ∈ news, u.oneCell' = true)
    (h63 : n + m ≤ maxLen) (hbytes : (n + m) * bytes ≤ 140737488355328) (hbase : B ≤ W.heap.size) (R : List Spec) (k : Nat) (D : List (Nat × Value)) :
    does P o a W (fun v' W' => Ch B e size (n + m) (xs ++ news) v' W' ∧ tk B e size n f W W' ∧ News (fun _ _ _ _ => True) k v' W D 0 R) := by
  obtain ⟨⟨av, cv, rfl, hc0⟩, hown⟩ := hown
  refine does_append s x t ho B e i z size bytes ht hi hz hsize hby hzs hsz _ n xs hs hown vx m news hx hrow h1 h63 hbytes hbase (fun v' W' hap => ?_)
  obtain ⟨a', c', rfl⟩ := hap.form
  have hb : Below B W W' := (Below.refl B W).grown hap.grown hbase (fun k hk => (hown.lt k hk).1)
  refine ⟨⟨⟨_, _, rfl, fun h0 => ?_⟩, hap.own⟩, ⟨hb, hap.keep, fun h0 => ?_⟩, News.none (fun _ _ => trivial) _ _⟩
  · have hm0 : m = 0 := by omega
    have hn0 : n = 0 := by omega
    have h := (hap.same hm0).1
    simp only [Value.slice.injEq] at h
    rw [h.2.2]; exact hc0 hn0
  · exact hap.full (fun a c h => by simp only [Value.slice.injEq] at h; rw [← h.2.2, hc0 h0]; omega)
/-- each step leaves alone what was there when the region began -/
def AllNew (B : Nat) : List Spec → Prop
  | [] => True
  | .sat V T :: ss => (T = grew ∨ ∀ f w w', T f w w' → Below B w w') ∧ AllNew B ss
  | _ :: ss => AllNew B ss
theorem keeps_new {X : World} {sp : Nat → Spec} {l : List Oper} : ∀ (ss : List Spec) (k : Nat), AllNew X.heap.size ss → Keeps (fun W1 => Below X.heap.size X W1) sp l k ss
  | [], _, _ => trivial
  | .val c :: ss, k, h => keeps_new ss (k + 1) h
  | .cpy c :: ss, k, h => keeps_new ss (k + 1) h
  | .sat V' T' :: ss, k, h => ⟨fun f w w' hS _ ht => by
      rcases h.1 with e | e
      · rw [e] at ht; exact hS.trans (Below.mono ht hS.size)
      · exact hS.trans (e f w w' ht), keeps_new ss (k + 1) h.2⟩
theorem region_chain {id : Nat} {Q : Exit → Act → World → Prop} {a : Act} {w : World} (ss : List Spec) (hm : P.follows .mixedOrders = true) (hB : Region.lexB .any l.toArray = true) (hlen : ss.length = l.length)
    (hc : AllNew w.heap.size ss) (hst : Stab (fun W1 => Below w.heap.size w W1) (spAt ss) (fun _ _ _ _ => True) l ss 0 ss) (h : walk P l.toArray (fun W1 => Below w.heap.size w W1) (fun _ _ _ _ => True) ss (fun a w => Q .normal a w) l ss 0 [] [] a) : (Code.region id l.toArray true).wp P Q a w :=
  region_ag (fun W1 => Below w.heap.size w W1) (fun _ _ _ _ => True) ss hm hB hlen ((Below.refl _ _).drew) hst (keeps_new ss 0 hc) h
theorem region_chain_tail {id : Nat} {Q : Exit → Act → World → Prop} {a : Act} {w : World} (n : Nat) (ss : List Spec) (hm : P.follows .mixedOrders = true) (hB : tailB l n = true) (hlen : ss.length = (l.take n).length)
    (hc : AllNew w.heap.size ss) (hst : Stab (fun W1 => Below w.heap.size w W1) (spAt ss) (fun _ _ _ _ => True) (l.take n) ss 0 ss) (h : walk P (l.take n).toArray (fun W1 => Below w.heap.size w W1) (fun _ _ _ _ => True) ss (fun a w => wpList P l.toArray Q (l.drop n) a w) (l.take n) ss 0 [] [] a) : (Code.region id l.toArray true).wp P Q a w :=
  region_ag_tail n (fun W1 => Below w.heap.size w W1) (fun _ _ _ _ => True) ss hm hB hlen ((Below.refl _ _).drew) hst (keeps_new ss 0 hc) h
end
end Go.Proofs.YtfnajccnlcfbiaaDoor.ag
/- A region that draws its order, by an invariant of what has come up: each operation that may come up keeps it. A law of no program. -/
namespace Go.Proofs.YtfnajccnlcfbiaaDoor.ag
set_option linter.unusedVariables false
open Go.RowKit
variable {P : Program} {ops : Array Oper}
/-- what has come up has come up behind all that it waits for -/
def Closed (ops : Array Oper) (b : Nat → Bool) : Prop := ∀ (j : Nat) o, ops[j]? = some o → b j = true → ∀ k, waits o k = true → b k = true
theorem any_inv {Q : Exit → Act → World → Prop} (I : (Nat → Bool) → Act → World → Prop) (hx : Lex ops)
    (hI : ∀ (b : Nat → Bool) (i : Nat) (o : Oper) (a : Act) (w : World), ops[i]? = some o → b i = false → Closed ops b → (∀ k, waits o k = true → b k = true) → I b a w → wpOp P ops Q i (I (updB b i)) a w)
    (hend : ∀ (b : Nat → Bool) (a : Act) (w : World), (∀ j, j < ops.size → b j = true) → I b a w → Q .normal a w) :
    ∀ (fuel : Nat) (listed : Array Bool) (a : Act) (w : World), listed.size = ops.size → left ops.size (bOf listed) ≤ fuel → Closed ops (bOf listed) → I (bOf listed) a w → wpAny P .any ops Q fuel listed a w := by
  have ends : ∀ (listed : Array Bool) (a : Act) (w : World), listed.size = ops.size → I (bOf listed) a w → Region.ready .any ops listed = [] → Q .normal a w := by
    intro listed a w hsz hi hr
    have all : ∀ n j, j < n → j < ops.size → bOf listed j = true := by
      intro n
      induction n with
      | zero => intro j hj; omega
      | succ n ih =>
        intro j hj hjs
        by_cases hb : bOf listed j = true
        · exact hb
        · exfalso
          have hm : j ∈ Region.ready .any ops listed := by
            refine mem_ready.2 ⟨by simpa [bOf] using hb, ops[j], Array.getElem?_eq_getElem hjs, fun e he hbd => ?_⟩
            have hlt := hx.back j _ (Array.getElem?_eq_getElem hjs) e.on (waits_iff.2 ⟨e, he, hbd, rfl⟩)
            have := ih e.on (by omega) (by omega)
            have hl : e.on < listed.size := by omega
            simp only [bOf, Array.getD_eq_getD_getElem?, Array.getElem?_eq_getElem hl, Option.getD_some] at this ⊢
            exact this
          rw [hr] at hm; cases hm
    exact hend _ a w (fun j hj => all ops.size j hj hj) hi
  intro fuel
  induction fuel with
  | zero =>
    intro listed a w hsz hf hc hi
    have hr : Region.ready .any ops listed = [] := by
      rw [List.eq_nil_iff_forall_not_mem]
      intro j hj
      obtain ⟨h0, o, ho, -⟩ := mem_ready.1 hj
      have hlt := (Array.getElem?_eq_some_iff.1 ho).1
      have h1 : 0 < left ops.size (bOf listed) := by
        unfold left
        rw [List.countP_pos_iff]
        exact ⟨j, List.mem_range.2 hlt, by simp [bOf, h0]⟩
      omega
    exact ⟨hr, ends listed a w hsz hi hr⟩
  | succ fuel ih =>
    intro listed a w hsz hf hc hinv
    refine ⟨fun hr => ends listed a w hsz hinv hr, fun i hi => ?_⟩
    obtain ⟨h0, o, ho, hdeps⟩ := mem_ready.1 hi
    have hlt := (Array.getElem?_eq_some_iff.1 ho).1
    have hbi : bOf listed i = false := h0
    have hwb : ∀ j, waits o j = true → bOf listed j = true := by
      intro j hw
      obtain ⟨e, he, hb, rfl⟩ := waits_iff.1 hw
      have h := hdeps e he hb
      have hl : e.on < listed.size := by have := hx.back i o ho _ hw; omega
      simp only [bOf, Array.getD_eq_getD_getElem?, Array.getElem?_eq_getElem hl, Option.getD_some] at h ⊢
      exact h
    have hset : ∀ j, bOf (listed.setIfInBounds i true) j = updB (bOf listed) i j := by
      intro j
      unfold bOf updB
      by_cases e : i = j
      · subst e; simp [hsz, hlt]
      · rw [getD_set_ne true e, if_neg (Ne.symm e)]
    have hsetf : bOf (listed.setIfInBounds i true) = updB (bOf listed) i := funext hset
    have hleft : left ops.size (bOf (listed.setIfInBounds i true)) ≤ fuel := by
      have : left ops.size (bOf (listed.setIfInBounds i true)) < left ops.size (bOf listed) := by
        unfold left
        refine countP_lt _ (fun j hj => ?_) i (List.mem_range.2 hlt) (by simp [hbi]) (by rw [hset]; simp [updB])
        rw [hset] at hj
        unfold updB at hj
        split at hj
        · simp at hj
        · exact hj
      omega
    have hcl : Closed ops (bOf (listed.setIfInBounds i true)) := by
      intro j oj hoj hb k hw
      rw [hset] at hb ⊢
      unfold updB at hb ⊢
      split
      · rfl
      · rename_i ek
        by_cases e : j = i
        · subst e
          rw [ho] at hoj; cases hoj
          exact hwb k hw
        · rw [if_neg e] at hb
          exact hc j oj hoj hb k hw
    refine wpOp_mono (fun a' w' h => ih (listed.setIfInBounds i true) a' w' (by simpa using hsz) hleft hcl (by rw [hsetf]; exact h)) (hI (bOf listed) i o a w ho hbi hc hwb hinv)
/-- the region, by an invariant -/
theorem region_inv {id : Nat} {Q : Exit → Act → World → Prop} {a : Act} {w : World} {l : List Oper} (I : (Nat → Bool) → Act → World → Prop) (hm : P.follows .mixedOrders = true) (hB : Region.lexB .any l.toArray = true)
    (h0 : I (fun j => decide (l.length ≤ j)) a w.drew)
    (hI : ∀ (b : Nat → Bool) (i : Nat) (o : Oper) (a : Act) (w : World), l[i]? = some o → b i = false → Closed l.toArray b → (∀ k, waits o k = true → b k = true) → I b a w → wpOp P l.toArray Q i (I (updB b i)) a w)
    (hend : ∀ (b : Nat → Bool) (a : Act) (w : World), (∀ j, j < l.length → b j = true) → I b a w → Q .normal a w) : (Code.region id l.toArray true).wp P Q a w := by
  refine wp_region_any hm (any_inv I (lex_of hB) (fun b i o a w ho => hI b i o a w (by simpa using ho)) (fun b a w hb => hend b a w (fun j hj => hb j (by simpa using hj))) _ _ _ _ (by simp) (by
    unfold left
    exact Nat.le_trans List.countP_le_length (by simp)) (fun j o ho hb => ?_) ?_)
  · have hj := (Array.getElem?_eq_some_iff.1 ho).1
    rw [bOf_none hj] at hb; cases hb
  · have e : bOf (Array.replicate l.toArray.size false) = fun j => decide (l.length ≤ j) := by
      funext j
      by_cases hj : j < l.toArray.size
      · rw [bOf_none hj]; symm; simp only [decide_eq_false_iff_not]; simp at hj; omega
      · unfold bOf
        rw [Array.getD_eq_getD_getElem?, Array.getElem?_eq_none (by simpa using hj)]
        symm; simp at hj ⊢; exact hj
    rw [e]; exact h0
end Go.Proofs.YtfnajccnlcfbiaaDoor.ag
/- Regions that draw their order, inside a round of a range over a function: the law of Ag and AgC there. A law of no program. -/
namespace Go.Proofs.YtfnajccnlcfbiaaDoor.ag
set_option linter.unusedVariables false
open Go.RowKit
def noDefer (o : Oper) : Bool := match o.op with
  | .defer _ => false
  | _ => true
section
variable {P : Program} {ops : Array Oper}
theorem noDefer_spec {l : List Oper} (h : l.all noDefer = true) (i : Nat) (o : Oper) (ho : l.toArray[i]? = some o) : ∀ c, o.op ≠ .defer c := by
  intro c hc
  have hm : o ∈ l := by
    rw [List.mem_iff_getElem?]
    exact ⟨i, by simpa using ho⟩
  have := List.all_eq_true.1 h o hm
  unfold noDefer at this
  rw [hc] at this
  cases this
theorem wpIn_of_does {lr n : Nat} {o : Oper} (hnd : ∀ c, o.op ≠ .defer c) {a : Act} {w : World} {K : Value → World → Prop} {K' : Act → World → Prop} {Q : Exit → Act → World → Prop} (h : does P o a w K) (hk : ∀ v w', K v w' → K' (a.put o.dst v) w') : o.wpIn (Fence.wide.inRound lr) n P a w K' Q := by
  unfold does at h
  unfold Oper.wpIn
  refine ⟨fun _ _ => trivial, ?_⟩
  rw [Fence.inRound_round, Oper.semAt_some lr a.eval o hnd]
  generalize (execOp a.eval o).run P w = r at *
  cases r with
  | halt x w' => simp only [upon] at h
  | ok x w' =>
    cases x <;> simp only [upon] at h <;> simp only [Oper.uponIn]
    case value u => exact hk _ _ h
    case skip => exact hk _ _ h
    case enter f args => exact ⟨(fun hd => (by cases hd)), (callsIn_wide (n := n - 1)).2 (h.mono fun e w'' ⟨v, he, hv⟩ => by subst he; exact hk _ _ hv)⟩
theorem any_ag_in (lr n : Nat) (hnd : ∀ (i : Nat) o, ops[i]? = some o → ∀ c, o.op ≠ .defer c) {Q : Exit → Act → World → Prop} {a0 : Act} {S : World → Prop} {sp : Nat → Spec} {R : Nat → Nat → Value → Value → Prop} (hx : Lex ops)
    (hStab : ∀ i j o V T V' T', ops[i]? = some o → j < ops.size → i ≠ j → (∀ oj, ops[j]? = some oj → waits oj i = false) → sp i = .sat V T → sp j = .sat V' T' → ∀ f v w w', S w → V' v w → Rel sp R (waits o) j f v w → T f w w' → V' v w')
    (hSS : ∀ i o V T, ops[i]? = some o → sp i = .sat V T → ∀ f w w', S w → Dep sp (waits o) f w → T f w w' → S w')
    (hcpy : ∀ i k o, ops[i]? = some o → sp i = .cpy k → waits o k = true)
    (hOb : ∀ i o, ops[i]? = some o → ∀ xs : Nat → Value, ∀ w, S w → (∀ j, waits o j = true → okF sp xs j w) →
      if Region.wanted o (yielded ops (puts ops (full sp xs) (fun _ => true) i a0).tmps) = true then does P o (puts ops (full sp xs) (fun _ => true) i a0) w (todo sp R xs i (waits o) w) else sp i = .val undef)
    (hEnd : ∀ xs : Nat → Value, ∀ w, S w → (∀ j, j < ops.size → okF sp xs j w) → (∀ i j, i < ops.size → j < ops.size → i ≠ j → (sp i).isSat = true → (sp j).isSat = true → R i j (xs i) (xs j) ∨ R j i (xs j) (xs i)) → Q .normal (puts ops (full sp xs) (fun _ => true) ops.size a0) w) :
    ∀ (fuel : Nat) (listed : Array Bool) (xs : Nat → Value) (w : World), listed.size = ops.size → left ops.size (bOf listed) ≤ fuel → S w →
      (∀ j, j < ops.size → bOf listed j = true → okF sp xs j w) → (∀ j o, ops[j]? = some o → bOf listed j = true → ∀ k, waits o k = true → bOf listed k = true) →
      (∀ i j, i < ops.size → j < ops.size → bOf listed i = true → bOf listed j = true → i ≠ j → (sp i).isSat = true → (sp j).isSat = true → R i j (xs i) (xs j) ∨ R j i (xs j) (xs i)) →
      wpAnyIn (Fence.wide.inRound lr) n P .any ops Q fuel listed (puts ops (full sp xs) (bOf listed) ops.size a0) w := by
  have ends : ∀ (listed : Array Bool) (xs : Nat → Value) (w : World), listed.size = ops.size → S w →
      (∀ j, j < ops.size → bOf listed j = true → okF sp xs j w) →
      (∀ i j, i < ops.size → j < ops.size → bOf listed i = true → bOf listed j = true → i ≠ j → (sp i).isSat = true → (sp j).isSat = true → R i j (xs i) (xs j) ∨ R j i (xs j) (xs i)) → Region.ready .any ops listed = [] → Q .normal (puts ops (full sp xs) (bOf listed) ops.size a0) w := by
    intro listed xs w hsz hS hok hpr hr
    have all : ∀ n j, j < n → j < ops.size → bOf listed j = true := by
      intro n
      induction n with
      | zero => intro j hj; omega
      | succ n ih =>
        intro j hj hjs
        by_cases hb : bOf listed j = true
        · exact hb
        · exfalso
          have hm : j ∈ Region.ready .any ops listed := by
            refine mem_ready.2 ⟨by simpa [bOf] using hb, ops[j], Array.getElem?_eq_getElem hjs, fun e he hbd => ?_⟩
            have hlt := hx.back j _ (Array.getElem?_eq_getElem hjs) e.on (waits_iff.2 ⟨e, he, hbd, rfl⟩)
            have := ih e.on (by omega) (by omega)
            have hl : e.on < listed.size := by omega
            simp only [bOf, Array.getD_eq_getD_getElem?, Array.getElem?_eq_getElem hl, Option.getD_some] at this ⊢
            exact this
          rw [hr] at hm; cases hm
    rw [puts_all (full sp xs) _ a0 ops.size (fun j hj => all ops.size j hj hj)]
    exact hEnd xs w hS (fun j hj => hok j hj (all ops.size j hj hj)) (fun i j hi hj => hpr i j hi hj (all ops.size i hi hi) (all ops.size j hj hj))
  intro fuel
  induction fuel with
  | zero =>
    intro listed xs w hsz hf hS hok hcl hpr
    have hr : Region.ready .any ops listed = [] := by
      rw [List.eq_nil_iff_forall_not_mem]
      intro j hj
      obtain ⟨h0, o, ho, -⟩ := mem_ready.1 hj
      have hlt := (Array.getElem?_eq_some_iff.1 ho).1
      have h1 : 0 < left ops.size (bOf listed) := by
        unfold left
        rw [List.countP_pos_iff]
        exact ⟨j, List.mem_range.2 hlt, by simp [bOf, h0]⟩
      omega
    exact ⟨hr, ends listed xs w hsz hS hok hpr hr⟩
  | succ fuel ih =>
    intro listed xs w hsz hf hS hok hcl hpr
    refine ⟨fun hr => ends listed xs w hsz hS hok hpr hr, fun i hi => ?_⟩
    obtain ⟨h0, o, ho, hdeps⟩ := mem_ready.1 hi
    have hlt := (Array.getElem?_eq_some_iff.1 ho).1
    have hbi : bOf listed i = false := h0
    have hwb : ∀ j, waits o j = true → bOf listed j = true := by
      intro j hw
      obtain ⟨e, he, hb, rfl⟩ := waits_iff.1 hw
      have h := hdeps e he hb
      have hl : e.on < listed.size := by have := hx.back i o ho _ hw; omega
      simp only [bOf, Array.getD_eq_getD_getElem?, Array.getElem?_eq_getElem hl, Option.getD_some] at h ⊢
      exact h
    have hob := hOb i o ho xs w hS (fun j hw => hok j (by have := hx.back i o ho j hw; omega) (hwb j hw))
    have hsel := fun cs b => hx.sel i o cs b ho
    -- those that lie apart
    have hlo : ∀ j, j < i → bOf listed j = false → ∀ t, dstOf ops j = some t → t ∉ o.looksAt ops := by
      intro j hj hb t ht
      have hjs : j < ops.size := by omega
      have hoj := Array.getElem?_eq_getElem hjs
      rcases hx.free j i _ o hoj ho hj with hw | hap
      · rw [hwb j hw] at hb; cases hb
      · exact (Oper.apart_spec hap).1 t (by unfold dstOf at ht; rw [hoj] at ht; exact ht)
    have hhi : ∀ j, i < j → bOf listed j = true → (∀ t, dstOf ops j = some t → t ∉ o.looksAt ops) ∧ (∀ t, dstOf ops i = some t → dstOf ops j ≠ some t) := by
      intro j hj hb
      by_cases hjs : j < ops.size
      · have hoj := Array.getElem?_eq_getElem hjs
        rcases hx.free i j o _ ho hoj hj with hw | hap
        · have := hcl j _ hoj hb i hw; rw [hbi] at this; cases this
        · obtain ⟨-, h2, h3⟩ := Oper.apart_spec hap
          unfold dstOf
          rw [hoj, ho]
          exact ⟨h3, h2⟩
      · have : dstOf ops j = none := by unfold dstOf; rw [Array.getElem?_eq_none (by omega)]; rfl
        exact ⟨fun t ht => (by rw [this] at ht; cases ht), fun t _ => by rw [this]; simp⟩
    have hag := puts_agree (ops := ops) hsel (full sp xs) (bOf listed) i a0 hlo (fun j hj hb => by
      rcases Nat.lt_or_ge i j with h | h
      · exact (hhi j h hb).1
      · have : j = i := by omega
        subst this; rw [hbi] at hb; cases hb) ops.size
    rw [Nat.min_eq_right (Nat.le_of_lt hlt)] at hag
    obtain ⟨e1, e2⟩ := hag []
    simp only [List.foldl_nil] at e1 e2
    have hset : ∀ j, bOf (listed.setIfInBounds i true) j = updB (bOf listed) i j := by
      intro j
      unfold bOf updB
      by_cases e : i = j
      · subst e; simp [hsz, hlt]
      · rw [getD_set_ne true e, if_neg (Ne.symm e)]
    have hsetf : bOf (listed.setIfInBounds i true) = updB (bOf listed) i := funext hset
    have hdst : dstOf ops i = o.dst := by unfold dstOf; rw [ho]; rfl
    have hleft : left ops.size (bOf (listed.setIfInBounds i true)) ≤ fuel := by
      have : left ops.size (bOf (listed.setIfInBounds i true)) < left ops.size (bOf listed) := by
        unfold left
        refine countP_lt _ (fun j hj => ?_) i (List.mem_range.2 hlt) (by simp [hbi]) (by rw [hset]; simp [updB])
        rw [hset] at hj
        unfold updB at hj
        split at hj
        · simp at hj
        · exact hj
      omega
    have hcl' : ∀ j oj, ops[j]? = some oj → bOf (listed.setIfInBounds i true) j = true → ∀ k, waits oj k = true → bOf (listed.setIfInBounds i true) k = true := by
      intro j oj hoj hb k hw
      rw [hset] at hb ⊢
      unfold updB at hb ⊢
      split
      · rfl
      · rename_i ek
        by_cases e : j = i
        · subst e
          rw [ho] at hoj; cases hoj
          exact hwb k hw
        · rw [if_neg e] at hb
          exact hcl j oj hoj hb k hw
    -- a value that was said: nothing turns
    have same : ∀ v w', v = full sp xs i → w' = w → okF sp xs i w → (sp i).isSat = false → wpAnyIn (Fence.wide.inRound lr) n P .any ops Q fuel (listed.setIfInBounds i true) ((puts ops (full sp xs) (bOf listed) ops.size a0).put o.dst v) w' := by
      intro v w' hv hw' hoki hns
      subst hw'
      rw [← hdst, puts_insert (full sp xs) (full sp xs) (bOf listed) i v a0 hbi hv.symm (fun _ _ _ => rfl) (fun j hj hb => (hhi j hj hb).2) ops.size hlt, ← hsetf]
      refine ih (listed.setIfInBounds i true) xs w' (by simpa using hsz) hleft hS ?_ hcl' ?_
      · intro j hj hb
        rw [hset] at hb
        unfold updB at hb
        by_cases e : j = i
        · subst e; exact hoki
        · rw [if_neg e] at hb; exact hok j hj hb
      · intro k j hk hj hbk hbj hne hsk hsj
        have hki : k ≠ i := fun e => by subst e; rw [hns] at hsk; cases hsk
        have hji : j ≠ i := fun e => by subst e; rw [hns] at hsj; cases hsj
        rw [hset] at hbk hbj
        unfold updB at hbk hbj
        rw [if_neg hki] at hbk
        rw [if_neg hji] at hbj
        exact hpr k j hk hj hbk hbj hne hsk hsj
    have next : ∀ v w', todo sp R xs i (waits o) w v w' → wpAnyIn (Fence.wide.inRound lr) n P .any ops Q fuel (listed.setIfInBounds i true) ((puts ops (full sp xs) (bOf listed) ops.size a0).put o.dst v) w' := by
      intro v w' htd
      unfold todo at htd
      cases hsi : sp i with
      | val c =>
        rw [hsi] at htd
        exact same v w' (by unfold full; rw [hsi]; exact htd.1) htd.2 (by unfold okF; rw [hsi]; trivial) (by rw [hsi]; rfl)
      | cpy k =>
        rw [hsi] at htd
        have hwk := hcpy i k o ho hsi
        have hbk := hwb k hwk
        have hks : k < ops.size := by have := hx.back i o ho k hwk; omega
        refine same v w' (by unfold full; rw [hsi]; exact htd.1) htd.2 ?_ (by rw [hsi]; rfl)
        have := hok k hks hbk
        unfold okF at this ⊢
        rw [hsi]
        show (sp k).known (xs k) w
        cases hsk : sp k with
        | val c => trivial
        | cpy k' => trivial
        | sat V T => rw [hsk] at this; exact this
      | sat V T =>
        rw [hsi] at htd
        obtain ⟨hv, hst, hnew⟩ := htd
        have hdep : Dep sp (waits o) (depF sp (waits o) xs) w := by
          intro d hwd Vd Td hsd
          have h1 := hok d (by have := hx.back i o ho d hwd; omega) (hwb d hwd)
          unfold okF at h1
          rw [hsd] at h1
          have : depF sp (waits o) xs d = xs d := by unfold depF; rw [if_pos ⟨hwd, by rw [hsd]; rfl⟩]
          rw [this]; exact h1
        have nowait : ∀ j, bOf listed j = true → ∀ oj, ops[j]? = some oj → waits oj i = false := by
          intro j hb oj hoj
          cases hw : waits oj i with
          | false => rfl
          | true => have := hcl j oj hoj hb i hw; rw [hbi] at this; cases this
        have hrel : ∀ j, j < ops.size → bOf listed j = true → (sp j).isSat = true → Rel sp R (waits o) j (depF sp (waits o) xs) (xs j) w := by
          intro j hj hb hs d hwd Vd Td hsd
          have e : depF sp (waits o) xs d = xs d := by unfold depF; rw [if_pos ⟨hwd, by rw [hsd]; rfl⟩]
          refine ⟨fun hne => ?_, fun hde => ?_, hdep d hwd Vd Td hsd⟩
          · rw [e]; exact hpr d j (by have := hx.back i o ho d hwd; omega) hj (hwb d hwd) hb hne (by rw [hsd]; rfl) hs
          · rw [e, hde]
        have hcopy : ∀ j k, bOf listed j = true → j < ops.size → sp j = .cpy k → k ≠ i := by
          intro j k hb hj hs e
          subst e
          have := hcl j _ (Array.getElem?_eq_getElem hj) hb k (hcpy j k _ (Array.getElem?_eq_getElem hj) hs)
          rw [hbi] at this; cases this
        have hfull : ∀ j, j ≠ i → bOf listed j = true → j < ops.size → full sp (upd xs i v) j = full sp xs j := by
          intro j hne hb hj
          unfold full
          cases hs : sp j with
          | val c => rfl
          | cpy k => simp [upd, hcopy j k hb hj hs]
          | sat V T => simp [upd, hne]
        have hput : (puts ops (full sp xs) (bOf listed) ops.size a0).put o.dst v = puts ops (full sp (upd xs i v)) (bOf (listed.setIfInBounds i true)) ops.size a0 := by
          rw [← hdst, hsetf]
          -- places behind the last one do not matter
          have := puts_insert (ops := ops) (full sp xs) (fun j => if j < ops.size then full sp (upd xs i v) j else full sp xs j) (bOf listed) i v a0 hbi (by simp only [hlt, if_true]; unfold full; rw [hsi]; simp [upd]) (fun j hne hb => by
            split
            · rename_i hj; exact hfull j hne hb hj
            · rfl) (fun j hj hb => (hhi j hj hb).2) ops.size hlt
          rw [this]
          have cong : ∀ k, k ≤ ops.size → puts ops (fun j => if j < ops.size then full sp (upd xs i v) j else full sp xs j) (updB (bOf listed) i) k a0 = puts ops (full sp (upd xs i v)) (updB (bOf listed) i) k a0 := by
            intro k hk
            induction k with
            | zero => rfl
            | succ k ihk =>
              simp only [puts]
              rw [ihk (by omega), if_pos (show k < ops.size by omega)]
          exact cong _ (Nat.le_refl _)
        rw [hput]
        refine ih (listed.setIfInBounds i true) (upd xs i v) w' (by simpa using hsz) hleft (hSS i o V T ho hsi _ w w' hS hdep hst) ?_ hcl' ?_
        · intro j hj hb
          rw [hset] at hb
          unfold updB at hb
          by_cases e : j = i
          · subst e; unfold okF; rw [hsi]; simpa [upd] using hv
          · rw [if_neg e] at hb
            have hk := hok j hj hb
            unfold okF at hk ⊢
            cases hs : sp j with
            | val c => trivial
            | sat V' T' =>
              rw [hs] at hk
              have : upd xs i v j = xs j := by simp [upd, e]
              show V' (upd xs i v j) w'
              rw [this]
              exact hStab i j o V T V' T' ho hj (Ne.symm e) (nowait j hb) hsi hs _ _ _ _ hS hk (hrel j hj hb (by rw [hs]; rfl)) hst
            | cpy k =>
              rw [hs] at hk
              have hki := hcopy j k hb hj hs
              have : upd xs i v k = xs k := by simp [upd, hki]
              dsimp only at hk ⊢
              rw [this]
              cases hsk : sp k with
              | val c => trivial
              | cpy k' => trivial
              | sat V' T' =>
                rw [hsk] at hk
                have hks : k < ops.size := by
                  have := hx.back j _ (Array.getElem?_eq_getElem hj) k (hcpy j k _ (Array.getElem?_eq_getElem hj) hs)
                  omega
                have hbk : bOf listed k = true := hcl j _ (Array.getElem?_eq_getElem hj) hb k (hcpy j k _ (Array.getElem?_eq_getElem hj) hs)
                exact hStab i k o V T V' T' ho hks (Ne.symm hki) (nowait k hbk) hsi hsk _ _ _ _ hS hk (hrel k hks hbk (by rw [hsk]; rfl)) hst
        · intro k j hk hj hbk hbj hne hsk hsj
          rw [hset] at hbk hbj
          unfold updB at hbk hbj
          have such : ∀ j, j < ops.size → bOf listed j = true → (sp j).isSat = true → (sp j).such (xs j) w := by
            intro j hj hb hs
            have := hok j hj hb
            unfold okF at this
            cases hsj : sp j with
            | val c => rw [hsj] at hs; cases hs
            | cpy c => rw [hsj] at hs; cases hs
            | sat V T => rw [hsj] at this; exact this
          have dep : ∀ j, j < ops.size → bOf listed j = true → (sp j).isSat = true → ∀ d, waits o d = true → (sp d).isSat = true → d ≠ j → R d j (xs d) (xs j) ∨ R j d (xs j) (xs d) :=
            fun j hj hb hs d hw hd hne => hpr d j (by have := hx.back i o ho d hw; omega) hj (hwb d hw) hb hne hd hs
          unfold upd
          by_cases ek : k = i
          · subst ek
            rw [if_pos rfl, if_neg (Ne.symm hne)]
            rw [if_neg (Ne.symm hne)] at hbj
            exact .inl (hnew j (Ne.symm hne) _ (such j hj hbj hsj) (dep j hj hbj hsj))
          · by_cases ej : j = i
            · subst ej
              rw [if_pos rfl, if_neg hne]
              rw [if_neg hne] at hbk
              exact .inr (hnew k hne _ (such k hk hbk hsk) (dep k hk hbk hsk))
            · rw [if_neg ek, if_neg ej]
              rw [if_neg ek] at hbk
              rw [if_neg ej] at hbj
              exact hpr k j hk hj hbk hbj hne hsk hsj
    unfold wpOpIn
    simp only [ho]
    rw [e2]
    split
    · rename_i hw
      rw [if_pos hw] at hob
      refine wpIn_of_does (lr := lr) (n := n) (hnd i o ho) (K := todo sp R xs i (waits o) w) ?_ next
      unfold does
      rw [e1]
      exact hob
    · rename_i hw
      rw [if_neg hw] at hob
      exact ⟨fun _ _ => trivial, next undef w (by unfold todo; rw [hob]; exact ⟨rfl, rfl⟩)⟩
/-- **The region, in a round.** -/
theorem region_ag_in (lr n : Nat) {id : Nat} {Q : Exit → Act → World → Prop} {a : Act} {w : World} {l : List Oper} (S : World → Prop) (R : Nat → Nat → Value → Value → Prop) (ss : List Spec) (hnd : l.all noDefer = true) (hm : P.follows .mixedOrders = true) (hB : Region.lexB .any l.toArray = true) (hlen : ss.length = l.length)
    (hS : S w.drew) (hst : Stab S (spAt ss) R l ss 0 ss) (hk : Keeps S (spAt ss) l 0 ss) (h : walk P l.toArray S R ss (fun a w => Q .normal a w) l ss 0 [] [] a) : (Code.region id l.toArray true).wpIn (Fence.wide.inRound lr) n P Q a w := by
  have hx := lex_of hB
  have hsp : ∀ j, j < l.length → ss[j]? = some (spAt ss j) := by
    intro j hj
    unfold spAt
    rw [List.getElem?_eq_getElem (by omega)]; rfl
  have hall : ∀ j, (spAt ss j).isSat = true → ss[j]? = some (spAt ss j) := by
    intro j hj
    unfold spAt at hj ⊢
    cases h : ss[j]? with
    | none => rw [h] at hj; cases hj
    | some s => rfl
  have hdB : ∀ i o, l.toArray[i]? = some o → depB l i = waits o := by
    intro i o ho
    funext d
    unfold depB
    rw [show l[i]? = some o by simpa using ho]
  have gives := fun (xs : Nat → Value) =>
    walk_gives (P := P) (ops := l.toArray) (S := S) (Q := fun a w => Q .normal a w) (a0 := a) (sp := spAt ss) (R := R) hall hx.back xs l ss 0 [] [] (by simp) (by simp) (fun j hj => by rw [Nat.zero_add]; exact hsp j hj) (fun p hp => by cases hp) (fun p hp => by cases hp) (fun p hp => by cases hp) (fun p hp => by cases hp) (fun j hj => by omega) List.Pairwise.nil h
  refine wpIn_region_any hm ?_
  have := any_ag_in lr n (fun i o ho => noDefer_spec hnd i o ho) (P := P) (ops := l.toArray) (Q := Q) (a0 := a) (S := S) (sp := spAt ss) (R := R) hx
    (fun i j o V T V' T' hio hj hne hnw hsi hsj f v w w' hS hv hr hs => by
      have hil : i < l.length := by have := (Array.getElem?_eq_some_iff.1 hio).1; simpa using this
      have hi' := hsp i hil
      have hj' := hsp j (by simpa using hj)
      rw [hsi] at hi'
      rw [hsj] at hj'
      have h1 := hst.at i V T hi'
      have hjl : l.toArray[j]? = some l.toArray[j] := Array.getElem?_eq_getElem hj
      have h2 := h1.at j V' T' hj' (by omega) (by rw [Nat.zero_add, Nat.zero_add, hdB j _ hjl]; exact hnw _ hjl)
      rw [Nat.zero_add, Nat.zero_add] at h2
      exact h2 f v w w' hS hv (by rw [hdB i o hio]; exact hr) hs)
    (fun i o V T hio hsi f w w' hS hd hs => by
      have hil : i < l.length := by have := (Array.getElem?_eq_some_iff.1 hio).1; simpa using this
      have hi' := hsp i hil
      rw [hsi] at hi'
      exact hk.at i V T hi' f w w' hS (by rw [Nat.zero_add, hdB i o hio]; exact hd) hs)
    (fun i k o ho hs => ((gives (fun _ => undef)).1 i o (Nat.zero_le _) ho).1 k hs)
    (fun i o ho xs => ((gives xs).1 i o (Nat.zero_le _) ho).2)
    (fun xs => (gives xs).2)
    l.toArray.size (Array.replicate l.toArray.size false) (fun _ => undef) w.drew (by simp) (by
      unfold left
      exact Nat.le_trans List.countP_le_length (by simp)) hS
      (fun j hj hb => by rw [bOf_none hj] at hb; cases hb)
      (fun j o ho hb => by
        have hj := (Array.getElem?_eq_some_iff.1 ho).1
        rw [bOf_none hj] at hb; cases hb)
      (fun i j hi hj hb => by rw [bOf_none hi] at hb; cases hb)
  have e : ∀ k, k ≤ l.toArray.size → puts l.toArray (full (spAt ss) (fun _ => undef)) (bOf (Array.replicate l.toArray.size false)) k a = a := by
    intro k hk
    induction k with
    | zero => rfl
    | succ k ih =>
      simp only [puts]
      rw [bOf_none (by omega), if_neg (by decide), ih (by omega)]
  rw [e _ (Nat.le_refl _)] at this
  exact this
theorem region_calm_in (lr n : Nat) {id : Nat} {Q : Exit → Act → World → Prop} {a : Act} {w : World} {l : List Oper} (ss : List Spec) (hnd : l.all noDefer = true) (hm : P.follows .mixedOrders = true) (hB : Region.lexB .any l.toArray = true) (hlen : ss.length = l.length)
    (hc : AllCalm ss) (h : walk P l.toArray (fun W1 => Below w.heap.size w W1) (fun _ _ _ _ => True) ss (fun a w => Q .normal a w) l ss 0 [] [] a) : (Code.region id l.toArray true).wpIn (Fence.wide.inRound lr) n P Q a w :=
  region_ag_in lr n (fun W1 => Below w.heap.size w W1) (fun _ _ _ _ => True) ss hnd hm hB hlen ((Below.refl _ _).drew) (stab_of hc ss 0 hc) (keeps_of ss 0 hc) h
end
end Go.Proofs.YtfnajccnlcfbiaaDoor.ag
