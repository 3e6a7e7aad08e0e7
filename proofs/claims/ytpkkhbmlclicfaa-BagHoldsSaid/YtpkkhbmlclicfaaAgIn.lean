/- Regions that draw their order, inside a round of a range over a function: the law of Ag and AgC there. A law of no program. -/
import Derived.Test.YtpkkhbmlclicfaaMD
import Derived.OrdersIn
import Derived.TacticsIn
namespace Go.Proofs.Ytpkkhbmlclicfaa.ag
set_option linter.unusedVariables false
open Go.RowKit
def noDefer (o : Oper) : Bool := match o.op with
  | .defer _ => false
  | _ => true
section
variable {P : Program} {ops : Array Oper}
theorem noDefer_spec {l : List Oper} (h : l.all noDefer = true) (i : Nat) (o : Oper) (ho : l.toArray[i]? = some o) : ∀ c, o.op ≠ .defer c := by
  intro c hc
  have hm : o ∈ l := by
    rw [List.mem_iff_getElem?]
    exact ⟨i, by simpa using ho⟩
  have := List.all_eq_true.1 h o hm
  unfold noDefer at this
  rw [hc] at this
  cases this
theorem wpIn_of_does {lr n : Nat} {o : Oper} (hnd : ∀ c, o.op ≠ .defer c) {a : Act} {w : World} {K : Value → World → Prop} {K' : Act → World → Prop} {Q : Exit → Act → World → Prop} (h : does P o a w K) (hk : ∀ v w', K v w' → K' (a.put o.dst v) w') : o.wpIn (Fence.wide.inRound lr) n P a w K' Q := by
  unfold does at h
  unfold Oper.wpIn
  refine ⟨fun _ _ => trivial, ?_⟩
  rw [Fence.inRound_round, Oper.semAt_some lr a.eval o hnd]
  generalize (execOp a.eval o).run P w = r at *
  cases r with
  | halt x w' => simp only [upon] at h
  | ok x w' =>
    cases x <;> simp only [upon] at h <;> simp only [Oper.uponIn]
    case value u => exact hk _ _ h
    case skip => exact hk _ _ h
    case enter f args => exact ⟨(fun hd => (by cases hd)), (callsIn_wide (n := n - 1)).2 (h.mono fun e w'' ⟨v, he, hv⟩ => by subst he; exact hk _ _ hv)⟩
theorem any_ag_in (lr n : Nat) (hnd : ∀ (i : Nat) o, ops[i]? = some o → ∀ c, o.op ≠ .defer c) {Q : Exit → Act → World → Prop} {a0 : Act} {S : World → Prop} {sp : Nat → Spec} {R : Nat → Nat → Value → Value → Prop} (hx : Lex ops)
    (hStab : ∀ i j o V T V' T', ops[i]? = some o → j < ops.size → i ≠ j → (∀ oj, ops[j]? = some oj → waits oj i = false) → sp i = .sat V T → sp j = .sat V' T' → ∀ f v w w', S w → V' v w → Rel sp R (waits o) j f v w → T f w w' → V' v w')
    (hSS : ∀ i o V T, ops[i]? = some o → sp i = .sat V T → ∀ f w w', S w → Dep sp (waits o) f w → T f w w' → S w')
    (hcpy : ∀ i k o, ops[i]? = some o → sp i = .cpy k → waits o k = true)
    (hOb : ∀ i o, ops[i]? = some o → ∀ xs : Nat → Value, ∀ w, S w → (∀ j, waits o j = true → okF sp xs j w) →
      if Region.wanted o (yielded ops (puts ops (full sp xs) (fun _ => true) i a0).tmps) = true then does P o (puts ops (full sp xs) (fun _ => true) i a0) w (todo sp R xs i (waits o) w) else sp i = .val undef)
    (hEnd : ∀ xs : Nat → Value, ∀ w, S w → (∀ j, j < ops.size → okF sp xs j w) → (∀ i j, i < ops.size → j < ops.size → i ≠ j → (sp i).isSat = true → (sp j).isSat = true → R i j (xs i) (xs j) ∨ R j i (xs j) (xs i)) → Q .normal (puts ops (full sp xs) (fun _ => true) ops.size a0) w) :
    ∀ (fuel : Nat) (listed : Array Bool) (xs : Nat → Value) (w : World), listed.size = ops.size → left ops.size (bOf listed) ≤ fuel → S w →
      (∀ j, j < ops.size → bOf listed j = true → okF sp xs j w) → (∀ j o, ops[j]? = some o → bOf listed j = true → ∀ k, waits o k = true → bOf listed k = true) →
      (∀ i j, i < ops.size → j < ops.size → bOf listed i = true → bOf listed j = true → i ≠ j → (sp i).isSat = true → (sp j).isSat = true → R i j (xs i) (xs j) ∨ R j i (xs j) (xs i)) →
      wpAnyIn (Fence.wide.inRound lr) n P .any ops Q fuel listed (puts ops (full sp xs) (bOf listed) ops.size a0) w := by
  have ends : ∀ (listed : Array Bool) (xs : Nat → Value) (w : World), listed.size = ops.size → S w →
      (∀ j, j < ops.size → bOf listed j = true → okF sp xs j w) →
      (∀ i j, i < ops.size → j < ops.size → bOf listed i = true → bOf listed j = true → i ≠ j → (sp i).isSat = true → (sp j).isSat = true → R i j (xs i) (xs j) ∨ R j i (xs j) (xs i)) → Region.ready .any ops listed = [] → Q .normal (puts ops (full sp xs) (bOf listed) ops.size a0) w := by
    intro listed xs w hsz hS hok hpr hr
    have all : ∀ n j, j < n → j < ops.size → bOf listed j = true := by
      intro n
      induction n with
      | zero => intro j hj; omega
      | succ n ih =>
        intro j hj hjs
        by_cases hb : bOf listed j = true
        · exact hb
        · exfalso
          have hm : j ∈ Region.ready .any ops listed := by
            refine mem_ready.2 ⟨by simpa [bOf] using hb, ops[j], Array.getElem?_eq_getElem hjs, fun e he hbd => ?_⟩
            have hlt := hx.back j _ (Array.getElem?_eq_getElem hjs) e.on (waits_iff.2 ⟨e, he, hbd, rfl⟩)
            have := ih e.on (by omega) (by omega)
            have hl : e.on < listed.size := by omega
            simp only [bOf, Array.getD_eq_getD_getElem?, Array.getElem?_eq_getElem hl, Option.getD_some] at this ⊢
            exact this
          rw [hr] at hm; cases hm
    rw [puts_all (full sp xs) _ a0 ops.size (fun j hj => all ops.size j hj hj)]
    exact hEnd xs w hS (fun j hj => hok j hj (all ops.size j hj hj)) (fun i j hi hj => hpr i j hi hj (all ops.size i hi hi) (all ops.size j hj hj))
  intro fuel
  induction fuel with
  | zero =>
    intro listed xs w hsz hf hS hok hcl hpr
    have hr : Region.ready .any ops listed = [] := by
      rw [List.eq_nil_iff_forall_not_mem]
      intro j hj
      obtain ⟨h0, o, ho, -⟩ := mem_ready.1 hj
      have hlt := (Array.getElem?_eq_some_iff.1 ho).1
      have h1 : 0 < left ops.size (bOf listed) := by
        unfold left
        rw [List.countP_pos_iff]
        exact ⟨j, List.mem_range.2 hlt, by simp [bOf, h0]⟩
      omega
    exact ⟨hr, ends listed xs w hsz hS hok hpr hr⟩
  | succ fuel ih =>
    intro listed xs w hsz hf hS hok hcl hpr
    refine ⟨fun hr => ends listed xs w hsz hS hok hpr hr, fun i hi => ?_⟩
    obtain ⟨h0, o, ho, hdeps⟩ := mem_ready.1 hi
    have hlt := (Array.getElem?_eq_some_iff.1 ho).1
    have hbi : bOf listed i = false := h0
    have hwb : ∀ j, waits o j = true → bOf listed j = true := by
      intro j hw
      obtain ⟨e, he, hb, rfl⟩ := waits_iff.1 hw
      have h := hdeps e he hb
      have hl : e.on < listed.size := by have := hx.back i o ho _ hw; omega
      simp only [bOf, Array.getD_eq_getD_getElem?, Array.getElem?_eq_getElem hl, Option.getD_some] at h ⊢
      exact h
    have hob := hOb i o ho xs w hS (fun j hw => hok j (by have := hx.back i o ho j hw; omega) (hwb j hw))
    have hsel := fun cs b => hx.sel i o cs b ho
    -- those that lie apart
    have hlo : ∀ j, j < i → bOf listed j = false → ∀ t, dstOf ops j = some t → t ∉ o.looksAt ops := by
      intro j hj hb t ht
      have hjs : j < ops.size := by omega
      have hoj := Array.getElem?_eq_getElem hjs
      rcases hx.free j i _ o hoj ho hj with hw | hap
      · rw [hwb j hw] at hb; cases hb
      · exact (Oper.apart_spec hap).1 t (by unfold dstOf at ht; rw [hoj] at ht; exact ht)
    have hhi : ∀ j, i < j → bOf listed j = true → (∀ t, dstOf ops j = some t → t ∉ o.looksAt ops) ∧ (∀ t, dstOf ops i = some t → dstOf ops j ≠ some t) := by
      intro j hj hb
      by_cases hjs : j < ops.size
      · have hoj := Array.getElem?_eq_getElem hjs
        rcases hx.free i j o _ ho hoj hj with hw | hap
        · have := hcl j _ hoj hb i hw; rw [hbi] at this; cases this
        · obtain ⟨-, h2, h3⟩ := Oper.apart_spec hap
          unfold dstOf
          rw [hoj, ho]
          exact ⟨h3, h2⟩
      · have : dstOf ops j = none := by unfold dstOf; rw [Array.getElem?_eq_none (by omega)]; rfl
        exact ⟨fun t ht => (by rw [this] at ht; cases ht), fun t _ => by rw [this]; simp⟩
    have hag := puts_agree (ops := ops) hsel (full sp xs) (bOf listed) i a0 hlo (fun j hj hb => by
      rcases Nat.lt_or_ge i j with h | h
      · exact (hhi j h hb).1
      · have : j = i := by omega
        subst this; rw [hbi] at hb; cases hb) ops.size
    rw [Nat.min_eq_right (Nat.le_of_lt hlt)] at hag
    obtain ⟨e1, e2⟩ := hag []
    simp only [List.foldl_nil] at e1 e2
    have hset : ∀ j, bOf (listed.setIfInBounds i true) j = updB (bOf listed) i j := by
      intro j
      unfold bOf updB
      by_cases e : i = j
      · subst e; simp [hsz, hlt]
      · rw [getD_set_ne true e, if_neg (Ne.symm e)]
    have hsetf : bOf (listed.setIfInBounds i true) = updB (bOf listed) i := funext hset
    have hdst : dstOf ops i = o.dst := by unfold dstOf; rw [ho]; rfl
    have hleft : left ops.size (bOf (listed.setIfInBounds i true)) ≤ fuel := by
      have : left ops.size (bOf (listed.setIfInBounds i true)) < left ops.size (bOf listed) := by
        unfold left
        refine countP_lt _ (fun j hj => ?_) i (List.mem_range.2 hlt) (by simp [hbi]) (by rw [hset]; simp [updB])
        rw [hset] at hj
        unfold updB at hj
        split at hj
        · simp at hj
        · exact hj
      omega
    have hcl' : ∀ j oj, ops[j]? = some oj → bOf (listed.setIfInBounds i true) j = true → ∀ k, waits oj k = true → bOf (listed.setIfInBounds i true) k = true := by
      intro j oj hoj hb k hw
      rw [hset] at hb ⊢
      unfold updB at hb ⊢
      split
      · rfl
      · rename_i ek
        by_cases e : j = i
        · subst e
          rw [ho] at hoj; cases hoj
          exact hwb k hw
        · rw [if_neg e] at hb
          exact hcl j oj hoj hb k hw
    -- a value that was said: nothing turns
    have same : ∀ v w', v = full sp xs i → w' = w → okF sp xs i w → (sp i).isSat = false → wpAnyIn (Fence.wide.inRound lr) n P .any ops Q fuel (listed.setIfInBounds i true) ((puts ops (full sp xs) (bOf listed) ops.size a0).put o.dst v) w' := by
      intro v w' hv hw' hoki hns
      subst hw'
      rw [← hdst, puts_insert (full sp xs) (full sp xs) (bOf listed) i v a0 hbi hv.symm (fun _ _ _ => rfl) (fun j hj hb => (hhi j hj hb).2) ops.size hlt, ← hsetf]
      refine ih (listed.setIfInBounds i true) xs w' (by simpa using hsz) hleft hS ?_ hcl' ?_
      · intro j hj hb
        rw [hset] at hb
        unfold updB at hb
        by_cases e : j = i
        · subst e; exact hoki
        · rw [if_neg e] at hb; exact hok j hj hb
      · intro k j hk hj hbk hbj hne hsk hsj
        have hki : k ≠ i := fun e => by subst e; rw [hns] at hsk; cases hsk
        have hji : j ≠ i := fun e => by subst e; rw [hns] at hsj; cases hsj
        rw [hset] at hbk hbj
        unfold updB at hbk hbj
        rw [if_neg hki] at hbk
        rw [if_neg hji] at hbj
        exact hpr k j hk hj hbk hbj hne hsk hsj
    have next : ∀ v w', todo sp R xs i (waits o) w v w' → wpAnyIn (Fence.wide.inRound lr) n P .any ops Q fuel (listed.setIfInBounds i true) ((puts ops (full sp xs) (bOf listed) ops.size a0).put o.dst v) w' := by
      intro v w' htd
      unfold todo at htd
      cases hsi : sp i with
      | val c =>
        rw [hsi] at htd
        exact same v w' (by unfold full; rw [hsi]; exact htd.1) htd.2 (by unfold okF; rw [hsi]; trivial) (by rw [hsi]; rfl)
      | cpy k =>
        rw [hsi] at htd
        have hwk := hcpy i k o ho hsi
        have hbk := hwb k hwk
        have hks : k < ops.size := by have := hx.back i o ho k hwk; omega
        refine same v w' (by unfold full; rw [hsi]; exact htd.1) htd.2 ?_ (by rw [hsi]; rfl)
        have := hok k hks hbk
        unfold okF at this ⊢
        rw [hsi]
        show (sp k).known (xs k) w
        cases hsk : sp k with
        | val c => trivial
        | cpy k' => trivial
        | sat V T => rw [hsk] at this; exact this
      | sat V T =>
        rw [hsi] at htd
        obtain ⟨hv, hst, hnew⟩ := htd
        have hdep : Dep sp (waits o) (depF sp (waits o) xs) w := by
          intro d hwd Vd Td hsd
          have h1 := hok d (by have := hx.back i o ho d hwd; omega) (hwb d hwd)
          unfold okF at h1
          rw [hsd] at h1
          have : depF sp (waits o) xs d = xs d := by unfold depF; rw [if_pos ⟨hwd, by rw [hsd]; rfl⟩]
          rw [this]; exact h1
        have nowait : ∀ j, bOf listed j = true → ∀ oj, ops[j]? = some oj → waits oj i = false := by
          intro j hb oj hoj
          cases hw : waits oj i with
          | false => rfl
          | true => have := hcl j oj hoj hb i hw; rw [hbi] at this; cases this
        have hrel : ∀ j, j < ops.size → bOf listed j = true → (sp j).isSat = true → Rel sp R (waits o) j (depF sp (waits o) xs) (xs j) w := by
          intro j hj hb hs d hwd Vd Td hsd
          have e : depF sp (waits o) xs d = xs d := by unfold depF; rw [if_pos ⟨hwd, by rw [hsd]; rfl⟩]
          refine ⟨fun hne => ?_, fun hde => ?_, hdep d hwd Vd Td hsd⟩
          · rw [e]; exact hpr d j (by have := hx.back i o ho d hwd; omega) hj (hwb d hwd) hb hne (by rw [hsd]; rfl) hs
          · rw [e, hde]
        have hcopy : ∀ j k, bOf listed j = true → j < ops.size → sp j = .cpy k → k ≠ i := by
          intro j k hb hj hs e
          subst e
          have := hcl j _ (Array.getElem?_eq_getElem hj) hb k (hcpy j k _ (Array.getElem?_eq_getElem hj) hs)
          rw [hbi] at this; cases this
        have hfull : ∀ j, j ≠ i → bOf listed j = true → j < ops.size → full sp (upd xs i v) j = full sp xs j := by
          intro j hne hb hj
          unfold full
          cases hs : sp j with
          | val c => rfl
          | cpy k => simp [upd, hcopy j k hb hj hs]
          | sat V T => simp [upd, hne]
        have hput : (puts ops (full sp xs) (bOf listed) ops.size a0).put o.dst v = puts ops (full sp (upd xs i v)) (bOf (listed.setIfInBounds i true)) ops.size a0 := by
          rw [← hdst, hsetf]
          -- places behind the last one do not matter
          have := puts_insert (ops := ops) (full sp xs) (fun j => if j < ops.size then full sp (upd xs i v) j else full sp xs j) (bOf listed) i v a0 hbi (by simp only [hlt, if_true]; unfold full; rw [hsi]; simp [upd]) (fun j hne hb => by
            split
            · rename_i hj; exact hfull j hne hb hj
            · rfl) (fun j hj hb => (hhi j hj hb).2) ops.size hlt
          rw [this]
          have cong : ∀ k, k ≤ ops.size → puts ops (fun j => if j < ops.size then full sp (upd xs i v) j else full sp xs j) (updB (bOf listed) i) k a0 = puts ops (full sp (upd xs i v)) (updB (bOf listed) i) k a0 := by
            intro k hk
            induction k with
            | zero => rfl
            | succ k ihk =>
              simp only [puts]
              rw [ihk (by omega), if_pos (show k < ops.size by omega)]
          exact cong _ (Nat.le_refl _)
        rw [hput]
        refine ih (listed.setIfInBounds i true) (upd xs i v) w' (by simpa using hsz) hleft (hSS i o V T ho hsi _ w w' hS hdep hst) ?_ hcl' ?_
        · intro j hj hb
          rw [hset] at hb
          unfold updB at hb
          by_cases e : j = i
          · subst e; unfold okF; rw [hsi]; simpa [upd] using hv
          · rw [if_neg e] at hb
            have hk := hok j hj hb
            unfold okF at hk ⊢
            cases hs : sp j with
            | val c => trivial
            | sat V' T' =>
              rw [hs] at hk
              have : upd xs i v j = xs j := by simp [upd, e]
              show V' (upd xs i v j) w'
              rw [this]
              exact hStab i j o V T V' T' ho hj (Ne.symm e) (nowait j hb) hsi hs _ _ _ _ hS hk (hrel j hj hb (by rw [hs]; rfl)) hst
            | cpy k =>
              rw [hs] at hk
              have hki := hcopy j k hb hj hs
              have : upd xs i v k = xs k := by simp [upd, hki]
              dsimp only at hk ⊢
              rw [this]
              cases hsk : sp k with
              | val c => trivial
              | cpy k' => trivial
              | sat V' T' =>
                rw [hsk] at hk
                have hks : k < ops.size := by
                  have := hx.back j _ (Array.getElem?_eq_getElem hj) k (hcpy j k _ (Array.getElem?_eq_getElem hj) hs)
                  omega
                have hbk : bOf listed k = true := hcl j _ (Array.getElem?_eq_getElem hj) hb k (hcpy j k _ (Array.getElem?_eq_getElem hj) hs)
                exact hStab i k o V T V' T' ho hks (Ne.symm hki) (nowait k hbk) hsi hsk _ _ _ _ hS hk (hrel k hks hbk (by rw [hsk]; rfl)) hst
        · intro k j hk hj hbk hbj hne hsk hsj
          rw [hset] at hbk hbj
          unfold updB at hbk hbj
          have such : ∀ j, j < ops.size → bOf listed j = true → (sp j).isSat = true → (sp j).such (xs j) w := by
            intro j hj hb hs
            have := hok j hj hb
            unfold okF at this
            cases hsj : sp j with
            | val c => rw [hsj] at hs; cases hs
            | cpy c => rw [hsj] at hs; cases hs
            | sat V T => rw [hsj] at this; exact this
          have dep : ∀ j, j < ops.size → bOf listed j = true → (sp j).isSat = true → ∀ d, waits o d = true → (sp d).isSat = true → d ≠ j → R d j (xs d) (xs j) ∨ R j d (xs j) (xs d) :=
            fun j hj hb hs d hw hd hne => hpr d j (by have := hx.back i o ho d hw; omega) hj (hwb d hw) hb hne hd hs
          unfold upd
          by_cases ek : k = i
          · subst ek
            rw [if_pos rfl, if_neg (Ne.symm hne)]
            rw [if_neg (Ne.symm hne)] at hbj
            exact .inl (hnew j (Ne.symm hne) _ (such j hj hbj hsj) (dep j hj hbj hsj))
          · by_cases ej : j = i
            · subst ej
              rw [if_pos rfl, if_neg hne]
              rw [if_neg hne] at hbk
              exact .inr (hnew k hne _ (such k hk hbk hsk) (dep k hk hbk hsk))
            · rw [if_neg ek, if_neg ej]
              rw [if_neg ek] at hbk
              rw [if_neg ej] at hbj
              exact hpr k j hk hj hbk hbj hne hsk hsj
    unfold wpOpIn
    simp only [ho]
    rw [e2]
    split
    · rename_i hw
      rw [if_pos hw] at hob
      refine wpIn_of_does (lr := lr) (n := n) (hnd i o ho) (K := todo sp R xs i (waits o) w) ?_ next
      unfold does
      rw [e1]
      exact hob
    · rename_i hw
      rw [if_neg hw] at hob
      exact ⟨fun _ _ => trivial, next undef w (by unfold todo; rw [hob]; exact ⟨rfl, rfl⟩)⟩
/-- **The region, in a round.** -/
theorem region_ag_in (lr n : Nat) {id : Nat} {Q : Exit → Act → World → Prop} {a : Act} {w : World} {l : List Oper} (S : World → Prop) (R : Nat → Nat → Value → Value → Prop) (ss : List Spec) (hnd : l.all noDefer = true) (hm : P.follows .mixedOrders = true) (hB : Region.lexB .any l.toArray = true) (hlen : ss.length = l.length)
    (hS : S w.drew) (hst : Stab S (spAt ss) R l ss 0 ss) (hk : Keeps S (spAt ss) l 0 ss) (h : walk P l.toArray S R ss (fun a w => Q .normal a w) l ss 0 [] [] a) : (Code.region id l.toArray true).wpIn (Fence.wide.inRound lr) n P Q a w := by
  have hx := lex_of hB
  have hsp : ∀ j, j < l.length → ss[j]? = some (spAt ss j) := by
    intro j hj
    unfold spAt
    rw [List.getElem?_eq_getElem (by omega)]; rfl
  have hall : ∀ j, (spAt ss j).isSat = true → ss[j]? = some (spAt ss j) := by
    intro j hj
    unfold spAt at hj ⊢
    cases h : ss[j]? with
    | none => rw [h] at hj; cases hj
    | some s => rfl
  have hdB : ∀ i o, l.toArray[i]? = some o → depB l i = waits o := by
    intro i o ho
    funext d
    unfold depB
    rw [show l[i]? = some o by simpa using ho]
  have gives := fun (xs : Nat → Value) =>
    walk_gives (P := P) (ops := l.toArray) (S := S) (Q := fun a w => Q .normal a w) (a0 := a) (sp := spAt ss) (R := R) hall hx.back xs l ss 0 [] [] (by simp) (by simp) (fun j hj => by rw [Nat.zero_add]; exact hsp j hj) (fun p hp => by cases hp) (fun p hp => by cases hp) (fun p hp => by cases hp) (fun p hp => by cases hp) (fun j hj => by omega) List.Pairwise.nil h
  refine wpIn_region_any hm ?_
  have := any_ag_in lr n (fun i o ho => noDefer_spec hnd i o ho) (P := P) (ops := l.toArray) (Q := Q) (a0 := a) (S := S) (sp := spAt ss) (R := R) hx
    (fun i j o V T V' T' hio hj hne hnw hsi hsj f v w w' hS hv hr hs => by
      have hil : i < l.length := by have := (Array.getElem?_eq_some_iff.1 hio).1; simpa using this
      have hi' := hsp i hil
      have hj' := hsp j (by simpa using hj)
      rw [hsi] at hi'
      rw [hsj] at hj'
      have h1 := hst.at i V T hi'
      have hjl : l.toArray[j]? = some l.toArray[j] := Array.getElem?_eq_getElem hj
      have h2 := h1.at j V' T' hj' (by omega) (by rw [Nat.zero_add, Nat.zero_add, hdB j _ hjl]; exact hnw _ hjl)
      rw [Nat.zero_add, Nat.zero_add] at h2
      exact h2 f v w w' hS hv (by rw [hdB i o hio]; exact hr) hs)
    (fun i o V T hio hsi f w w' hS hd hs => by
      have hil : i < l.length := by have := (Array.getElem?_eq_some_iff.1 hio).1; simpa using this
      have hi' := hsp i hil
      rw [hsi] at hi'
      exact hk.at i V T hi' f w w' hS (by rw [Nat.zero_add, hdB i o hio]; exact hd) hs)
    (fun i k o ho hs => ((gives (fun _ => undef)).1 i o (Nat.zero_le _) ho).1 k hs)
    (fun i o ho xs => ((gives xs).1 i o (Nat.zero_le _) ho).2)
    (fun xs => (gives xs).2)
    l.toArray.size (Array.replicate l.toArray.size false) (fun _ => undef) w.drew (by simp) (by
      unfold left
      exact Nat.le_trans List.countP_le_length (by simp)) hS
      (fun j hj hb => by rw [bOf_none hj] at hb; cases hb)
      (fun j o ho hb => by
        have hj := (Array.getElem?_eq_some_iff.1 ho).1
        rw [bOf_none hj] at hb; cases hb)
      (fun i j hi hj hb => by rw [bOf_none hi] at hb; cases hb)
  have e : ∀ k, k ≤ l.toArray.size → puts l.toArray (full (spAt ss) (fun _ => undef)) (bOf (Array.replicate l.toArray.size false)) k a = a := by
    intro k hk
    induction k with
    | zero => rfl
    | succ k ih =>
      simp only [puts]
      rw [bOf_none (by omega), if_neg (by decide), ih (by omega)]
  rw [e _ (Nat.le_refl _)] at this
  exact this
theorem region_calm_in (lr n : Nat) {id : Nat} {Q : Exit → Act → World → Prop} {a : Act} {w : World} {l : List Oper} (ss : List Spec) (hnd : l.all noDefer = true) (hm : P.follows .mixedOrders = true) (hB : Region.lexB .any l.toArray = true) (hlen : ss.length = l.length)
    (hc : AllCalm ss) (h : walk P l.toArray (fun W1 => Below w.heap.size w W1) (fun _ _ _ _ => True) ss (fun a w => Q .normal a w) l ss 0 [] [] a) : (Code.region id l.toArray true).wpIn (Fence.wide.inRound lr) n P Q a w :=
  region_ag_in lr n (fun W1 => Below w.heap.size w W1) (fun _ _ _ _ => True) ss hnd hm hB hlen ((Below.refl _ _).drew) (stab_of hc ss 0 hc) (keeps_of ss 0 hc) h
end
end Go.Proofs.Ytpkkhbmlclicfaa.ag
