/- The queue: its small calls, walked. -/
import Derived.Test.YtbaepjjanjhliaaDirtyO
namespace Go.Proofs.Ytbaepjjanjhliaa.drt
set_option linter.unusedVariables false
open Go.RowKit Go.Maps
variable {own : Nat → Prop} {bq bm : Nat} {fv : Value} {a : List Int} {D : Dm} {n : Nat} {w w' : World}

theorem map_ne {w : World} {bm q : Nat} {n : Nat} {D : Dm} {c : Array Value} {t : TypeId} {z : Nat × Nat} (h : w.ownsMap Try.prog TI (plainElem Try.prog TI) bm n D) (hq : w.heap[q]? = some (.cells c t z)) : bm ≠ q := by
  obtain ⟨es, clock, e1, -⟩ := h
  intro e
  subst e
  rw [hq] at e1
  cases e1
theorem DQ.ne (h : DQ own bq bm fv a D n w) : bq ≠ bm := by
  obtain ⟨ar, cr, h1, -, -⟩ := h.row
  exact fun e => map_ne h.mp h1 e.symm
/-- the row's block, where there is one -/
theorem DQ.blk (h : DQ own bq bm fv a D n w) (ha : 0 < a.length) : ∃ q cr, Flds w bq TQ [fv, .slice (some ⟨q, 0, none⟩) a.length cr, .map (some bm)] ∧ w.ownsRow 0 TI 1 (.slice (some ⟨q, 0, none⟩) a.length cr) a.length (ints a) ∧ own q ∧ q ≠ bq ∧ q ≠ bm ∧ q < w.heap.size ∧ (∀ j, j < a.length → w.cell? ⟨q, j, none⟩ = (ints a)[j]?) ∧ (∀ j, w.frozen? ⟨q, j, none⟩ = false) := by
  obtain ⟨ar, cr, h1, h2, h3⟩ := h.row
  obtain ⟨q, rfl, -, hq, hc, hf⟩ := owns_cellAt h2 ha
  obtain ⟨g, cap, cur, e, -, hg, -⟩ := h2.2.resolve_left (fun q => by cases q.1)
  simp only [Value.slice.injEq, Option.some.injEq, Addr.mk.injEq] at e
  obtain ⟨⟨rfl, -, -⟩, -, rfl⟩ := e
  refine ⟨q, cr, h1, h2, h3 _ rfl, fun e => ?_, fun e => map_ne h.mp hg e.symm, hq, fun j hj => hc j (by omega), hf⟩
  subst e
  have h1' : w.heap[q]? = some (.cells _ TQ (0, 0)) := h1
  rw [hg] at h1'
  simp only [Option.some.injEq, Obj.cells.injEq] at h1'
  exact absurd h1'.2.1 (by decide)
set_option maxHeartbeats 1000000 in
theorem put_l (h : DQ own bq bm fv a D n w) {i : Nat} (hi : i < a.length) (hla : a.length ≤ 1000000) (hn : n < maxLen) {v : Int} (hv : In64 v) :
    Calls Try.prog 68 #[.pointer (some ⟨bq, 0, none⟩), .int .i64 (i : Int), .int .i64 v] w fun e w' => (∃ r, e = .returned r) ∧ DQ own bq bm fv (a.set i v) (D.put (kl v) (dl i)) (n + 1) w' ∧ Only own w w' := by
  obtain ⟨q, cr, hf, hrow, hoq, hqb, hqm, hql, hcell, hfz⟩ := h.blk (by omega)
  have gi := hcell i hi
  rw [List.getElem?_map, List.getElem?_eq_getElem hi] at gi
  have gi : w.cell? ⟨q, i, none⟩ = some (.int .i64 a[i]) := gi
  have fi := hfz i
  have c1 := hf.cell 1
  simp only [List.getElem?_cons_zero, List.getElem?_cons_succ] at c1
  have lb := hf.lt
  have d0 : (0 : Int) ≤ (i : Int) := by omega
  have d1 : (i : Int) < (a.length : Int) := by omega
  have hf2 := hf.other ⟨q, i, none⟩ (.int .i64 v) (fun e => hqb e.symm)
  have c2 := hf2.cell 2
  simp only [List.getElem?_cons_zero, List.getElem?_cons_succ] at c2
  have hrow2 := owns_set hrow hi (.int .i64 v)
  rw [ints_set] at hrow2
  have HM := Lib.hid (h.mp.setCell (a := ⟨q, i, none⟩) (fun e => hqm e.symm) (.int .i64 v))
  have HO := Lib.hid ((Only.refl own w).setCell ⟨q, i, none⟩ (.int .i64 v) (fun _ => hoq))
  have HF := Lib.hid hf2; have HR := Lib.hid hrow2; have H0 := Lib.hid h
  have hin : In64 (i : Int) := In64.of (by omega)
  have hne := h.ne
  clear h hf hrow hf2 hrow2 hcell hfz
  go_enter Try.func68, Try.ntmps68
  go_wp2_with (at_mapUpdate; refine wpList_mapUpdate_own _ rfl _ _ _ 97 rfl TI TI law Try.underlying97 _ bm n D rfl HM.out hn _ _ (kl v) rfl rfl (hkey hv) (dl i) [] (plainElem_int Try.underlying3 hin) ?_)
  intro w1 hm1 hg1
  go_wp2
  have hb1 : ∀ k, k ≠ bm → k < (w.setCell ⟨q, i, none⟩ (.int .i64 v)).heap.size → w1.heap[k]? = (w.setCell ⟨q, i, none⟩ (.int .i64 v)).heap[k]? := fun k hk hl => hg1.block k hl (fun e => hk (by cases e; rfl))
  refine bodyPost_end (v := .tuple #[]) (by simp [results, Try.results68]) (by rfl) ⟨⟨_, rfl⟩, ⟨⟨some ⟨q, 0, none⟩, cr, ?_, ?_, fun x e => by cases e; exact hoq⟩, hm1, H0.out.oq, H0.out.om, fun k hk => Nat.lt_of_lt_of_le (H0.out.lt k hk) (Nat.le_trans HO.out.size hg1.size), fun u hu => ?_⟩, HO.out.grown hg1 (fun k e _ => by cases e; exact H0.out.om)⟩
  · rw [List.length_set]; exact HF.out.grown hg1 (fun e => hne (by cases e; rfl))
  · rw [List.length_set]; exact HR.out.kept hg1 (.inr (fun e => hqm (by simpa [Value.ownBlock] using e)))
  · rcases List.mem_or_eq_of_mem_set hu with hu | hu
    · exact H0.out.rg u hu
    · subst hu; exact hv
theorem len_nil (w : World) : Calls Try.prog 41 #[.pointer none] w fun e w' => e = .returned (.int .i64 0) ∧ w' = w := by
  go_enter Try.func41, Try.ntmps41
  go_wp2
  go_ret
  exact ⟨rfl, rfl⟩
theorem has_nil (v : Int) (w : World) : Calls Try.prog 39 #[.pointer none, .int .i64 v] w fun e w' => e = .returned (.bool false) ∧ w' = w := by
  go_enter Try.func39, Try.ntmps39
  go_wp2
  go_ret
  exact ⟨rfl, rfl⟩
theorem len_l (h : DQ own bq bm fv a D n w) : Calls Try.prog 41 #[.pointer (some ⟨bq, 0, none⟩)] w fun e w' => e = .returned (.int .i64 (a.length : Int)) ∧ w' = w := by
  obtain ⟨ar, cr, hf, -, -⟩ := h.row
  have c1 := hf.cell 1
  simp only [List.getElem?_cons_zero, List.getElem?_cons_succ] at c1
  clear hf h
  go_enter Try.func41, Try.ntmps41
  go_wp2
  go_ret
  exact ⟨rfl, rfl⟩
theorem has_l (h : DQ own bq bm fv a D n w) {v : Int} (hv : In64 v) : Calls Try.prog 39 #[.pointer (some ⟨bq, 0, none⟩), .int .i64 v] w fun e w' => e = .returned (.bool (Maps.has D (kl v))) ∧ w' = w := by
  obtain ⟨ar, cr, hf, -, -⟩ := h.row
  have c2 := hf.cell 2
  simp only [List.getElem?_cons_zero, List.getElem?_cons_succ] at c2
  have HM := Lib.hid h.mp
  clear hf h
  go_enter Try.func39, Try.ntmps39
  go_wp2_with (at_lookup; refine wpList_lookup_own_ok_int _ rfl _ _ 97 rfl TI TI .i64 law Try.underlying97 Try.underlying3 (zeroE _) bm n D rfl HM.out _ (kl v) rfl (hkey hv) ?_)
  intro c _ _
  go_wp2
  go_ret
  exact ⟨rfl, rfl⟩
end Go.Proofs.Ytbaepjjanjhliaa.drt
