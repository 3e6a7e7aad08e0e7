/- A region that draws its order whose last operations wait for all before them: the region of the first ones, and then the last ones one by one. And regions that append to slices of their own. Laws of no program. -/
import Derived.Test.YtmbafcfoboknkaaAgC
import Derived.Test.YtmbafcfoboknkaaOwn
import Derived.StillTail
namespace Go.Proofs.Ytmbafcfoboknkaa.ag
set_option linter.unusedVariables false
open Go.RowKit
section
variable {P : Program} {l : List Oper}
/-- behind the first ones the last ones, one by one -/
def tailQ (P : Program) (l : List Oper) (Q : Exit → Act → World → Prop) (n : Nat) : Exit → Act → World → Prop
  | .normal, a, w => wpList P l.toArray Q (l.drop n) a w
  | e, a, w => Q e a w
theorem any_more {ops : Array Oper} {md : Region.Mode} {Q : Exit → Act → World → Prop} : ∀ (f : Nat) (L : Array Bool) (a : Act) (w : World), wpAny P md ops Q f L a w → wpAny P md ops Q (f + 1) L a w
  | 0, L, a, w, h => ⟨fun _ => h.2, fun i hi => by rw [h.1] at hi; cases hi⟩
  | f + 1, L, a, w, h => ⟨h.1, fun i hi => wpOp_mono (fun a w h => any_more f _ a w h) (h.2 i hi)⟩
theorem any_adds {ops : Array Oper} {md : Region.Mode} {Q : Exit → Act → World → Prop} {f : Nat} {L : Array Bool} {a : Act} {w : World} (h : wpAny P md ops Q f L a w) : ∀ k, wpAny P md ops Q (k + f) L a w
  | 0 => by rw [Nat.zero_add]; exact h
  | k + 1 => by rw [show k + 1 + f = (k + f) + 1 by omega]; exact any_more _ _ _ _ (any_adds h k)
/-- no one of the first ones is guarded by a last one -/
def guardsB (l : List Oper) (n : Nat) : Bool := (l.take n).all fun o => match o.guard with
  | some (g, _) => decide (g < n)
  | none => true
theorem wp_exits {o : Oper} {a : Act} {w : World} {K : Act → World → Prop} {Q Q' : Exit → Act → World → Prop} (hp : ∀ c a w, Q (.panic c) a w → Q' (.panic c) a w) (ho : LetsOut Q → LetsOut Q') (h : o.wp P a w K Q) : o.wp P a w K Q' := by
  unfold Oper.wp at *
  generalize (execOp a.eval o).run P w = r at *
  cases r with
  | ok n w' =>
    cases n <;> simp only [Oper.upon] at h ⊢ <;>
      first
        | exact h
        | exact Calls.mono h (fun e w'' he => by cases e <;> first | exact he | exact hp _ _ _ he | exact ho he)
  | halt x w' => cases x <;> simp only [Oper.upon] at h ⊢ <;> first | exact hp _ _ _ h | exact h
theorem head_at {n i : Nat} (hi : i < n) : (l.take n).toArray[i]? = l.toArray[i]? := by simp [hi]
theorem head_none {n i : Nat} (hi : n ≤ i) : (l.take n).toArray[i]? = none := by simp; omega
theorem yielded_head {n j : Nat} (hj : j < n) (tmps : Array Value) : yielded (l.take n).toArray tmps j = yielded l.toArray tmps j := by unfold yielded; rw [head_at hj]
theorem wanted_head {n i : Nat} {o : Oper} (hi : i < n) (ho : l.toArray[i]? = some o) (hg : guardsB l n = true) (tmps : Array Value) : Region.wanted o (yielded (l.take n).toArray tmps) = Region.wanted o (yielded l.toArray tmps) := by
  have h1 := List.all_eq_true.1 hg o (by
    have h2 : (l.take n)[i]? = some o := by rw [List.getElem?_take_of_lt hi]; simpa using ho
    exact List.mem_of_getElem? h2)
  unfold Region.wanted
  cases hgd : o.guard with
  | none => rfl
  | some p =>
    obtain ⟨g, b⟩ := p
    rw [hgd] at h1
    have h3 : g < n := by simpa using h1
    simp only [yielded_head h3]
theorem wpOp_head {Q : Exit → Act → World → Prop} {n i : Nat} (hi : i < n) (hg : guardsB l n = true) {K K' : Act → World → Prop} (hK : ∀ a w, K a w → K' a w) {a : Act} {w : World} (h : wpOp P (l.take n).toArray (tailQ P l Q n) i K a w) : wpOp P l.toArray Q i K' a w := by
  unfold wpOp at h ⊢
  rw [head_at hi] at h
  cases ho : l.toArray[i]? with
  | none => rw [ho] at h; exact hK _ _ h
  | some o =>
    rw [ho] at h
    simp only [wanted_head hi ho hg] at h ⊢
    split
    · rename_i hw
      rw [if_pos hw] at h
      have hlo : LetsOut (tailQ P l Q n) → LetsOut Q := fun ⟨a, w, h⟩ => ⟨a, w, h⟩
      exact h.imp (fun h => wp_exits (fun _ _ _ h => h) hlo (Oper.wp_mono hK h)) (fun h => ⟨h.1, hlo h.2⟩)
    · rename_i hw
      rw [if_neg hw] at h
      exact hK _ _ h
theorem none_left {ops : Array Oper} {listed : Array Bool} (hx : Lex ops) (hsz : listed.size = ops.size) (hr : Region.ready .any ops listed = []) : ∀ i, i < ops.size → listed.getD i false = true := by
  have all : ∀ n j, j < n → j < ops.size → listed.getD j false = true := by
    intro n
    induction n with
    | zero => intro j hj; omega
    | succ n ih =>
      intro j hj hjs
      cases hb : listed.getD j false with
      | true => rfl
      | false =>
        exfalso
        have hm : j ∈ Region.ready .any ops listed := by
          refine mem_ready.2 ⟨getD_in (by omega) hb, ops[j], Array.getElem?_eq_getElem hjs, fun e he hbd => ?_⟩
          have hlt := hx.back j _ (Array.getElem?_eq_getElem hjs) e.on (waits_iff.2 ⟨e, he, hbd, rfl⟩)
          exact ih e.on (by omega) (by omega)
        rw [hr] at hm; cases hm
  exact fun i hi => all (i + 1) i (by omega) hi
theorem any_tail {Q : Exit → Act → World → Prop} {n : Nat} (hn : n < l.length) (hs : Region.sinkB .any l.toArray n = true) (hc : Region.chainB .any l.toArray n = true) (hg : guardsB l n = true) (hx : Lex (l.take n).toArray)
    (hq : Region.seqB .any l.toArray (l.length - n) n ((List.replicate n true ++ List.replicate (l.length - n) false).toArray) = true) :
    ∀ (f : Nat) (LH L : Array Bool) (a : Act) (w : World), LH.size = n → HeadInv .any l.toArray n L → (∀ i, i < n → L.getD i false = LH.getD i false) →
      wpAny P .any (l.take n).toArray (tailQ P l Q n) f LH a w → wpAny P .any l.toArray Q (f + (l.length - n)) L a w := by
  have hsz : ∀ L, HeadInv .any l.toArray n L → L.size = l.length := fun L inv => by have := inv.size; simpa using this
  have htf : ∀ (L : Array Bool), HeadInv .any l.toArray n L → ∀ t, n ≤ t → L.getD t false = false := by
    intro L inv t ht
    rcases Nat.lt_or_ge t l.length with h | h
    · exact getD_both (inv.tail t ht (by simpa using h))
    · have := hsz L inv
      rw [Array.getD_eq_getD_getElem?, Array.getElem?_eq_none (by omega)]; rfl
  have hlf : ∀ (LH : Array Bool), LH.size = n → ∀ t, n ≤ t → LH.getD t false = false := by
    intro LH hL t ht
    rw [Array.getD_eq_getD_getElem?, Array.getElem?_eq_none (by omega)]; rfl
  have hready : ∀ (LH L : Array Bool), LH.size = n → HeadInv .any l.toArray n L → (∀ i, i < n → L.getD i false = LH.getD i false) → ∀ i, i < n → (i ∈ Region.ready .any l.toArray L ↔ i ∈ Region.ready .any (l.take n).toArray LH) := by
    intro LH L hL inv he i hi
    have hLs := hsz L inv
    have e1 : L.getD i true = LH.getD i true := by
      have := he i hi
      rw [Array.getD_eq_getD_getElem?, Array.getD_eq_getD_getElem?, Array.getElem?_eq_getElem (by omega), Array.getElem?_eq_getElem (by omega)] at this ⊢
      exact this
    have e2 : ∀ j, L.getD j false = LH.getD j false := by
      intro j
      by_cases h : j < n
      · exact he j h
      · rw [htf L inv j (by omega), hlf LH hL j (by omega)]
    rw [mem_ready, mem_ready, head_at hi, e1]
    simp only [e2]
  intro f
  induction f with
  | zero =>
    intro LH L a w hL inv he h
    by_cases hall : ∀ i, i < n → LH.getD i false = true
    · have hLe : L = (List.replicate n true ++ List.replicate (l.length - n) false).toArray := by
        have hLs := hsz L inv
        apply Array.ext
        · simp [hLs]; omega
        · intro i h1 h2
          by_cases hi : i < n
          · have := (he i hi).trans (hall i hi)
            rw [Array.getD_eq_getD_getElem?, Array.getElem?_eq_getElem h1] at this
            simp only [Option.getD_some] at this
            rw [this]
            simp [List.getElem_append, hi]
          · have := htf L inv i (by omega)
            rw [Array.getD_eq_getD_getElem?, Array.getElem?_eq_getElem h1] at this
            simp only [Option.getD_some] at this
            rw [this]
            simp [List.getElem_append, hi]
      subst hLe
      rw [Nat.zero_add]
      have hd : (l.drop n).length = l.length - n := by simp
      have := wpAny_of_seq (P := P) (md := .any) (Q' := Q) (l.drop n) n _ a w (fun j => by simp [List.getElem?_drop]) (by rw [hd]; exact hq) h.2
      rwa [hd] at this
    · exfalso
      exact hall (fun i hi => none_left hx (by simp [hL]; omega) h.1 i (by simp; omega))
  | succ f ih =>
    intro LH L a w hL inv he h
    by_cases hall : ∀ i, i < n → LH.getD i false = true
    · have h0 : Region.ready .any (l.take n).toArray LH = [] := by
        rw [List.eq_nil_iff_forall_not_mem]
        intro i hi
        obtain ⟨h1, o, ho, -⟩ := mem_ready.1 hi
        have hin : i < n := by
          rcases Nat.lt_or_ge i n with h | h
          · exact h
          · rw [head_none h] at ho; cases ho
        have := hall i hin
        rw [getD_both h1] at this
        cases this
      have hw := ih LH L a w hL inv he (by
        cases f with
        | zero => exact ⟨h0, h.1 h0⟩
        | succ f => exact ⟨fun _ => h.1 h0, fun i hi => by rw [h0] at hi; cases hi⟩)
      rw [show f + 1 + (l.length - n) = 1 + (f + (l.length - n)) by omega]
      exact any_adds hw 1
    · have hne : ∃ i, i < n ∧ LH.getD i false = false := by
        false_or_by_contra
        rename_i hno
        exact hall fun i hi => by
          cases hb : LH.getD i false with
          | true => rfl
          | false => exact absurd ⟨i, hi, hb⟩ hno
      obtain ⟨i0, hi0, hb0⟩ := hne
      have hLs := hsz L inv
      have hun : L.getD i0 true = false := getD_in (by omega) (by rw [he i0 hi0]; exact hb0)
      have hlt : ∀ i ∈ Region.ready .any l.toArray L, i < n := fun i hi => by
        rcases Nat.lt_or_ge i n with h | h
        · exact h
        · exact absurd hi (tail_waits hs hc (by simpa using hn) inv _ i0 rfl hi0 hun i h)
      rw [show f + 1 + (l.length - n) = (f + (l.length - n)) + 1 by omega]
      refine ⟨fun h0 => ?_, fun i hi => ?_⟩
      · exfalso
        refine hall (fun k hk => none_left hx (by simp [hL]; omega) (List.eq_nil_iff_forall_not_mem.2 fun i hi => ?_) k (by simp; omega))
        obtain ⟨-, o, ho, -⟩ := mem_ready.1 hi
        have hin : i < n := by
          rcases Nat.lt_or_ge i n with h | h
          · exact h
          · rw [head_none h] at ho; cases ho
        have := (hready LH L hL inv he i hin).2 hi
        rw [h0] at this; cases this
      · have hin := hlt i hi
        have hi' := (hready LH L hL inv he i hin).1 hi
        refine wpOp_head hin hg (fun a w hw => ih _ _ a w (by simpa using hL) (inv.set hi hin) (fun j hj => ?_) hw) (h.2 i hi')
        by_cases e : i = j
        · subst e
          rw [Array.getD_eq_getD_getElem?, Array.getD_eq_getD_getElem?]
          simp [hL, hLs, hin]; omega
        · rw [getD_set_ne false e, getD_set_ne false e]; exact he j hj
/-- what is asked of a region whose last operations, from the n-th on, wait for all before them -/
def tailB (l : List Oper) (n : Nat) : Bool :=
  decide (n < l.length) && Region.sinkB .any l.toArray n && Region.chainB .any l.toArray n && guardsB l n && Region.lexB .any (l.take n).toArray && Region.seqB .any l.toArray (l.length - n) n ((List.replicate n true ++ List.replicate (l.length - n) false).toArray)
theorem region_ag_tail {id : Nat} {Q : Exit → Act → World → Prop} {a : Act} {w : World} (n : Nat) (S : World → Prop) (R : Nat → Nat → Value → Value → Prop) (ss : List Spec) (hm : P.follows .mixedOrders = true) (hT : tailB l n = true) (hlen : ss.length = (l.take n).length)
    (hS : S w.drew) (hst : Stab S (spAt ss) R (l.take n) ss 0 ss) (hk : Keeps S (spAt ss) (l.take n) 0 ss) (h : walk P (l.take n).toArray S R ss (fun a w => wpList P l.toArray Q (l.drop n) a w) (l.take n) ss 0 [] [] a) : (Code.region id l.toArray true).wp P Q a w := by
  simp only [tailB, Bool.and_eq_true, decide_eq_true_eq] at hT
  obtain ⟨⟨⟨⟨⟨hn, hs⟩, hc⟩, hg⟩, hB⟩, hq⟩ := hT
  have hx := lex_of hB
  have inv0 : HeadInv .any l.toArray n (Array.replicate l.toArray.size false) :=
    ⟨by simp, fun j oj _ hl => (by rw [getD_replicate_false] at hl; cases hl), fun t _ ht => getD_in (by simpa using ht) (getD_replicate_false _ _)⟩
  refine wp_region_any hm ?_
  have h1 := all_ag (P := P) (Q := tailQ P l Q n) (a := a) (w := w) (l := l.take n) S R ss hB hlen hS hst hk h
  have h2 := any_tail hn hs hc hg hx hq _ _ (Array.replicate l.toArray.size false) a w.drew (by simp; omega) inv0 (fun i hi => by rw [getD_replicate_false, getD_replicate_false]) h1
  have e : (l.take n).toArray.size + (l.length - n) = l.toArray.size := by simp; omega
  rw [e] at h2
  exact h2
theorem region_calm_tail {id : Nat} {Q : Exit → Act → World → Prop} {a : Act} {w : World} (n : Nat) (ss : List Spec) (hm : P.follows .mixedOrders = true) (hB : tailB l n = true) (hlen : ss.length = (l.take n).length)
    (hc : AllCalm ss) (h : walk P (l.take n).toArray (fun W1 => Below w.heap.size w W1) (fun _ _ _ _ => True) ss (fun a w => wpList P l.toArray Q (l.drop n) a w) (l.take n) ss 0 [] [] a) : (Code.region id l.toArray true).wp P Q a w :=
  region_ag_tail n (fun W1 => Below w.heap.size w W1) (fun _ _ _ _ => True) ss hm hB hlen ((Below.refl _ _).drew) (stab_of hc ss 0 hc) (keeps_of ss 0 hc) h
/-! ### Appends to slices that the region makes itself -/
/-- an append to what has N already: of what is no longer nothing turns; nothing at all if there was none -/
def tk (B : Nat) (e : TypeId) (sz N : Nat) : (Nat → Value) → World → World → Prop := fun _ W W' => Below B W W' ∧ (∀ u m zs, m ≤ N → W.ownsRow B e sz u m zs → W'.ownsRow B e sz u m zs) ∧ (N = 0 → Below W.heap.size W W')
/-- a slice that the region made -/
def Ch (B : Nat) (e : TypeId) (sz n : Nat) (xs : List Value) : Value → World → Prop := fun v W => (∃ a c, v = .slice a n c ∧ (n = 0 → c = 0)) ∧ W.ownsRow B e sz v n xs
theorem Ch.lasts {B : Nat} {e : TypeId} {sz n : Nat} {xs : List Value} : Lasts (Ch B e sz n xs) := fun v w w' h hb => ⟨h.1, owns_below h.2 hb⟩
theorem Ch.stays {B : Nat} {e : TypeId} {sz n N : Nat} {xs : List Value} {f : Nat → Value} {v : Value} {W W' : World} (h : Ch B e sz n xs v W) (ht : tk B e sz N f W W') (hn : n ≤ N ∨ N = 0) : Ch B e sz n xs v W' := by
  refine ⟨h.1, ?_⟩
  rcases hn with hn | hn
  · exact ht.2.1 _ _ _ hn h.2
  · exact owns_below h.2 (ht.2.2 hn)
theorem Ch.row {B : Nat} {e : TypeId} {sz n : Nat} {xs : List Value} {v : Value} {W : World} (h : Ch B e sz n xs v W) : Row W v sz n xs := Row.of_owns h.2
theorem Ch.new {B : Nat} {e : TypeId} {sz n : Nat} (W : World) (xs : List Value) (hl : xs.length = n * sz) (hB : B ≤ W.heap.size) (hn : n ≤ maxLen) : Ch B e sz n xs (.slice (some ⟨W.heap.size, 0, none⟩) n n) (W.alloc (.cells xs.toArray e)) :=
  ⟨⟨_, _, rfl, id⟩, owns_of_flds (Flds.new W e xs) hl hB hn⟩
theorem does_chain {o : Oper} {a : Act} {W : World} {f : Nat → Value} (s x : Operand) (t : TypeId) (ho : o.op = .call { callee := .builtin .append, args := #[s, x], argTypes := #[t, t] })
    (B : Nat) (e : TypeId) (i : TypeInfo) (z : Value) (size bytes : Nat) (ht : P.underlying t = some (.slice e)) (hi : P.info? e = some i) (hz : i.zero = some z)
    (hsize : i.size = size) (hby : i.bytes = bytes) (hzs : z.cells.size = size) (hsz : 0 < size)
    (v : Value) (n : Nat) (xs : List Value) (hs : a.eval s = v) (hown : Ch B e size n xs v W)
    (vx : Value) (m : Nat) (news : List Value) (hx : a.eval x = vx) (hrow : Row W vx size m news) (h1 : ∀ u ∈ news, u.oneCell' = true)
    (h63 : n + m ≤ maxLen) (hbytes : (n + m) * bytes ≤ 140737488355328) (hbase : B ≤ W.heap.size) (R : List Spec) (k : Nat) (D : List (Nat × Value)) :
    does P o a W (fun v' W' => Ch B e size (n + m) (xs ++ news) v' W' ∧ tk B e size n f W W' ∧ News (fun _ _ _ _ => True) k v' W D 0 R) := by
  obtain ⟨⟨av, cv, rfl, hc0⟩, hown⟩ := hown
  refine does_append s x t ho B e i z size bytes ht hi hz hsize hby hzs hsz _ n xs hs hown vx m news hx hrow h1 h63 hbytes hbase (fun v' W' hap => ?_)
  obtain ⟨a', c', rfl⟩ := hap.form
  have hb : Below B W W' := (Below.refl B W).grown hap.grown hbase (fun k hk => (hown.lt k hk).1)
  refine ⟨⟨⟨_, _, rfl, fun h0 => ?_⟩, hap.own⟩, ⟨hb, hap.keep, fun h0 => ?_⟩, News.none (fun _ _ => trivial) _ _⟩
  · have hm0 : m = 0 := by omega
    have hn0 : n = 0 := by omega
    have h := (hap.same hm0).1
    simp only [Value.slice.injEq] at h
    rw [h.2.2]; exact hc0 hn0
  · exact hap.full (fun a c h => by simp only [Value.slice.injEq] at h; rw [← h.2.2, hc0 h0]; omega)
/-- each step leaves alone what was there when the region began -/
def AllNew (B : Nat) : List Spec → Prop
  | [] => True
  | .sat V T :: ss => (T = grew ∨ ∀ f w w', T f w w' → Below B w w') ∧ AllNew B ss
  | _ :: ss => AllNew B ss
theorem keeps_new {X : World} {sp : Nat → Spec} {l : List Oper} : ∀ (ss : List Spec) (k : Nat), AllNew X.heap.size ss → Keeps (fun W1 => Below X.heap.size X W1) sp l k ss
  | [], _, _ => trivial
  | .val c :: ss, k, h => keeps_new ss (k + 1) h
  | .cpy c :: ss, k, h => keeps_new ss (k + 1) h
  | .sat V' T' :: ss, k, h => ⟨fun f w w' hS _ ht => by
      rcases h.1 with e | e
      · rw [e] at ht; exact hS.trans (Below.mono ht hS.size)
      · exact hS.trans (e f w w' ht), keeps_new ss (k + 1) h.2⟩
theorem region_chain {id : Nat} {Q : Exit → Act → World → Prop} {a : Act} {w : World} (ss : List Spec) (hm : P.follows .mixedOrders = true) (hB : Region.lexB .any l.toArray = true) (hlen : ss.length = l.length)
    (hc : AllNew w.heap.size ss) (hst : Stab (fun W1 => Below w.heap.size w W1) (spAt ss) (fun _ _ _ _ => True) l ss 0 ss) (h : walk P l.toArray (fun W1 => Below w.heap.size w W1) (fun _ _ _ _ => True) ss (fun a w => Q .normal a w) l ss 0 [] [] a) : (Code.region id l.toArray true).wp P Q a w :=
  region_ag (fun W1 => Below w.heap.size w W1) (fun _ _ _ _ => True) ss hm hB hlen ((Below.refl _ _).drew) hst (keeps_new ss 0 hc) h
theorem region_chain_tail {id : Nat} {Q : Exit → Act → World → Prop} {a : Act} {w : World} (n : Nat) (ss : List Spec) (hm : P.follows .mixedOrders = true) (hB : tailB l n = true) (hlen : ss.length = (l.take n).length)
    (hc : AllNew w.heap.size ss) (hst : Stab (fun W1 => Below w.heap.size w W1) (spAt ss) (fun _ _ _ _ => True) (l.take n) ss 0 ss) (h : walk P (l.take n).toArray (fun W1 => Below w.heap.size w W1) (fun _ _ _ _ => True) ss (fun a w => wpList P l.toArray Q (l.drop n) a w) (l.take n) ss 0 [] [] a) : (Code.region id l.toArray true).wp P Q a w :=
  region_ag_tail n (fun W1 => Below w.heap.size w W1) (fun _ _ _ _ => True) ss hm hB hlen ((Below.refl _ _).drew) hst (keeps_new ss 0 hc) h
end
end Go.Proofs.Ytmbafcfoboknkaa.ag
