/- The queue: New, Push, Pop, Remove, walked. -/
import Derived.Test.YtbaepjjanjhliaaDirtyCN
namespace Go.Proofs.Ytbaepjjanjhliaa.drt.N
set_option linter.unusedVariables false
open Go.RowKit Go.Maps
variable {own : Nat → Prop} {bq bm : Nat} {a : List Int} {D : Dm} {n : Nat} {w w' : World} {bt : Nat} {ky : Int → Int}
/-- the queue holds the numbers a, as a heap -/
def QS (own : Nat → Prop) (bq bm : Nat) (fv : Value) (ky : Int → Int) (a : List Int) (N : Nat) (w : World) : Prop :=
  ∃ D n, DQ own bq bm fv a D n w ∧ Pos D a (fun _ => False) ∧ Heap ky a ∧ a.Nodup ∧ n ≤ N
/-- the queue's function serves in whatever comes -/
def LessAll (own : Nat → Prop) (ky : Int → Int) (w : World) : Prop := ∀ own' w', (∀ k, own' k → own k ∨ w.heap.size ≤ k) → Only own w w' → Less own' ky w'
theorem LessAll.less (h : LessAll own ky w) : Less own ky w := h own w (fun _ q => .inl q) (Only.refl _ _)
theorem QS.later {fv : Value} {N : Nat} (h : QS own bq bm fv ky a N w) (hb : Below w.heap.size w w') : QS own bq bm fv ky a N w' := by
  obtain ⟨D, n, h1, h2⟩ := h
  exact ⟨D, n, h1.later hb, h2⟩
theorem QS.only {P : Nat → Prop} {fv : Value} {N : Nat} (h : QS own bq bm fv ky a N w) (ho : Only P w w') (hn : ∀ k, own k → ¬ P k) : QS own bq bm fv ky a N w' := by
  obtain ⟨D, n, h1, h2⟩ := h
  exact ⟨D, n, h1.only ho hn, h2⟩
theorem QS.lt {fv : Value} {N : Nat} (h : QS own bq bm fv ky a N w) : ∀ k, own k → k < w.heap.size := by
  obtain ⟨D, n, h1, h2⟩ := h
  exact h1.lt
theorem QS.rg {fv : Value} {N : Nat} (h : QS own bq bm fv ky a N w) : ∀ v ∈ a, In64 v := by
  obtain ⟨D, n, h1, h2⟩ := h
  exact h1.rg
theorem QS.nodup {fv : Value} {N : Nat} (h : QS own bq bm fv ky a N w) : a.Nodup := by
  obtain ⟨D, n, h1, h2, h3, h4, h5⟩ := h
  exact h4
theorem DQ.widen {fv : Value} {own' : Nat → Prop} (h : DQ own bq bm fv a D n w) (hs : ∀ k, own k → own' k) (hl : ∀ k, own' k → k < w.heap.size) : DQ own' bq bm fv a D n w := by
  obtain ⟨ar, cr, h1, h2, h3⟩ := h.row
  exact ⟨⟨ar, cr, h1, h2, fun x e => hs _ (h3 x e)⟩, h.mp, hs _ h.oq, hs _ h.om, hl, h.rg⟩
theorem ownNew_lt (hl : ∀ k, own k → k < w.heap.size) (hz : w.heap.size ≤ w'.heap.size) : ∀ k, ownNew own w w' k → k < w'.heap.size := fun k hk => hk.elim (fun q => Nat.lt_of_lt_of_le (hl k q) hz) (fun q => q.2)
theorem q_has {fv : Value} {N : Nat} (h : QS own bq bm fv ky a N w) {v : Int} (hv : In64 v) : Calls Try.prog 39 #[.pointer (some ⟨bq, 0, none⟩), .int .i64 v] w fun e w' => e = .returned (.bool (decide (v ∈ a))) ∧ w' = w := by
  obtain ⟨D, n, h1, h2, -⟩ := h
  refine (has_l h1 hv).mono ?_
  rintro e w' ⟨rfl, rfl⟩
  have : Maps.has D (kl v) = decide (v ∈ a) := Bool.eq_iff_iff.2 (by rw [h2.has v (fun q => q), decide_eq_true_eq])
  rw [this]; exact ⟨rfl, rfl⟩
theorem q_len {fv : Value} {N : Nat} (h : QS own bq bm fv ky a N w) : Calls Try.prog 41 #[.pointer (some ⟨bq, 0, none⟩)] w fun e w' => e = .returned (.int .i64 (a.length : Int)) ∧ w' = w := by
  obtain ⟨D, n, h1, -⟩ := h
  exact len_l h1
set_option maxRecDepth 100000 in
set_option maxHeartbeats 1000000 in
/-- POP. -/
theorem q_pop {N : Nat} (h : QS own bq bm (.func (.func 59) #[] #[]) ky a N w) (hL : LessAll own ky w) (hla : a.length ≤ 1000000) (hN : N + 2 * a.length + 4 < maxLen) :
    Calls Try.prog 37 #[.pointer (some ⟨bq, 0, none⟩)] w fun e w' => ∃ a', e = .returned (.tuple #[.int .i64 (a.headD 0), .bool (decide (0 < a.length))]) ∧ QS own bq bm (.func (.func 59) #[] #[]) ky a' (N + 2 * a.length + 3) w' ∧ Only own w w' ∧ (0 < a.length → (a.headD 0 :: a').Perm a ∧ ∀ y ∈ a, ky (a.headD 0) ≤ ky y) ∧ (a.length = 0 → a' = a) := by
  obtain ⟨D, n, h1, h2, h3, h4, h5⟩ := h
  have HLN := Lib.hid (len_l h1)
  by_cases h0 : a.length = 0
  · have ha : a = [] := List.eq_nil_of_length_eq_zero h0
    subst ha
    have H1 := Lib.hid h1; have H2 := Lib.hid h2; have H3 := Lib.hid h3; have H4 := Lib.hid h4
    clear h1 h2 h3 h4
    go_enter Try.func37, Try.ntmps37
    go_wp2_with fail
    refine HLN.out.mono ?_
    rintro e w1 ⟨rfl, rfl⟩
    go_wp2
    go_ret2
    exact ⟨[], rfl, ⟨D, n, H1.out, H2.out, H3.out, H4.out, by omega⟩, Only.refl _ _, fun q => by simp at q, fun _ => rfl⟩
  · obtain ⟨x, hx⟩ : ∃ x, a[0]? = some x := ⟨_, List.getElem?_eq_getElem (by omega)⟩
    have hhd : a.headD 0 = x := by cases a with
      | nil => simp at hx
      | cons y l => simpa using hx
    rw [hhd, decide_eq_true (by omega : 0 < a.length)]
    obtain ⟨q, cr, hf, hrow, hoq, hqb, hqm, hql, hcell, hfz⟩ := h1.blk (by omega)
    have gx := hcell 0 (by omega)
    rw [List.getElem?_map, hx] at gx
    have gx : w.cell? ⟨q, 0, none⟩ = some (.int .i64 x) := gx
    have c1 := hf.cell 1
    simp only [List.getElem?_cons_zero, List.getElem?_cons_succ] at c1
    have hq : ((a.length : Int) == 0) = false := by simp; intro e; subst e; exact h0 rfl
    have d1 : (0 : Int) < (a.length : Int) := by omega
    have d2 : 0 < a.length := by omega
    have hct := cut_l h1 hL.less hx hla h4 (by omega) h2 h3
    have HCT := Lib.hid hct
    have HMN := Lib.hid (fun y (hy : y ∈ a) => h3.least_mem hx hy)
    have H4 := Lib.hid h4
    clear hf hrow hcell hfz hct h1 h2 h3 hL h4 hx
    go_enter Try.func37, Try.ntmps37
    go_wp2_with fail
    refine HLN.out.mono ?_
    rintro e w1 ⟨rfl, rfl⟩
    go_wp2_with fail
    refine HCT.out.mono ?_
    rintro e w2 ⟨a', D', n', ⟨r, rfl⟩, q1, q2, q3, q4, q5, q6⟩
    have Q1 := Lib.hid q1; have Q2 := Lib.hid q2; have Q3 := Lib.hid q3; have Q4 := Lib.hid q4; have Q6 := Lib.hid q6
    clear q1 q2 q3 q4 q6
    go_wp2
    go_ret2
    exact ⟨a', rfl, ⟨D', n', Q1.out, Q4.out, Q6.out, (List.nodup_cons.1 (Q3.out.nodup_iff.2 H4.out)).2, by omega⟩, Q2.out, fun _ => ⟨Q3.out, HMN.out⟩, fun e => absurd e h0⟩
end Go.Proofs.Ytbaepjjanjhliaa.drt.N
