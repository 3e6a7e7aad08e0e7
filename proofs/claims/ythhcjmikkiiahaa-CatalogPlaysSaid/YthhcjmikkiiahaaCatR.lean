/- The document's catalog: a view is added; walked. -/
import Derived.Test.YthhcjmikkiiahaaCatQ
namespace Go.Proofs.Ythhcjmikkiiahaa.cat
set_option linter.unusedVariables false
open Go.RowKit Go.WideShapes Go.MapKept
noncomputable def raddErr (tn vn : List ByteArray) (k : ByteArray) (us : List ByteArray) : Int := if isIn k tn || isIn k vn then 7 else if 8 ≤ vn.length then 14 else if us.all (fun u => isIn u tn) then 0 else 6
def RAddV (vu : ByteArray → List ByteArray) (ns : List ByteArray) (E : Int) (k : ByteArray) (us : List ByteArray) (at_ : Option Addr) (nt ct : Nat) (w : World) (e : Ending) (w' : World) : Prop := ∃ (a : Option Addr) (n c : Nat) (vs : List RV), e = .returned (.tuple #[.agg #[.slice at_ nt ct, .slice a n c], .int .i64 E]) ∧ vs.map (·.nm) = (if E = 0 then ns ++ [k] else ns) ∧ VsAt w' a n c vs (if E = 0 then upd vu k us else vu) ∧ w'.ownsRow 0 TRv 2 (.slice a n c) n (vCells vs) ∧ Below w.heap.size w w'
theorem place_in {ns : List ByteArray} {k : ByteArray} {i : Int} (h : PlaceOf ns k i) : decide (0 ≤ i) = isIn k ns := by
  rcases h with ⟨j, rfl, h, -⟩ | ⟨rfl, h⟩
  · rw [isIn_yes (List.mem_of_getElem? h)]; simp
  · rw [isIn_no h]; rfl
set_option maxRecDepth 100000 in
set_option maxHeartbeats 16000000 in
theorem radd_any (at_ av : Option Addr) (nt ct nv cv : Nat) (ts : List TE) (vs : List RV) (tb : ByteArray → List Cn × Int) (vu : ByteArray → List ByteArray) (k : ByteArray) (ua : Option Addr) (un uc : Nat) (us : List ByteArray) (hun : us.length = un) (hu1 : un ≤ 1000000) (w : World) (hru : Row w (.slice ua un uc) 1 un (us.map Value.string)) (ht : TsAt w at_ nt ct ts tb) (hv : VsAt w av nv cv vs vu) (hov : w.ownsRow 0 TRv 2 (.slice av nv cv) nv (vCells vs)) :
    Calls Try.prog 11 #[.agg #[.slice at_ nt ct, .slice av nv cv], .agg #[.string k, .slice ua un uc]] w (RAddV vu (vs.map (·.nm)) (raddErr (ts.map (·.nm)) (vs.map (·.nm)) k us) k us at_ nt ct w) := by
  obtain ⟨W0, hW0⟩ : ∃ W, w.alloc (.cells #[.slice at_ nt ct, .slice av nv cv] TRc) = W := ⟨_, rfl⟩
  obtain ⟨g1, hg1⟩ : ∃ g, w.heap.size = g := ⟨_, rfl⟩
  have hb0 : Below w.heap.size w W0 := by rw [← hW0]; exact (Below.refl _ _).alloc (Nat.le_refl _) _
  have hf1 : Flds W0 g1 TRc [.slice at_ nt ct, .slice av nv cv] := by rw [← hW0, ← hg1]; exact Flds.new w _ _
  obtain ⟨W1, hW1⟩ : ∃ W, W0.alloc (.cells #[.string k, .slice ua un uc] TRv) = W := ⟨_, rfl⟩
  obtain ⟨g3, hg3⟩ : ∃ g, W0.heap.size = g := ⟨_, rfl⟩
  have hb1 : Below W0.heap.size W0 W1 := by rw [← hW1]; exact (Below.refl _ _).alloc (Nat.le_refl _) _
  have hf3 : Flds W1 g3 TRv [.string k, .slice ua un uc] := by rw [← hW1, ← hg3]; exact Flds.new W0 _ _
  obtain ⟨W2, hW2⟩ : ∃ W, W1.alloc (.cells #[.slice none 0 0, .slice none 0 0] TRc) = W := ⟨_, rfl⟩
  obtain ⟨g4, hg4⟩ : ∃ g, W1.heap.size = g := ⟨_, rfl⟩
  have hb2 : Below W1.heap.size W1 W2 := by rw [← hW2]; exact (Below.refl _ _).alloc (Nat.le_refl _) _
  have hf4 : Flds W2 g4 TRc [.slice none 0 0, .slice none 0 0] := by rw [← hW2, ← hg4]; exact Flds.new W1 _ _
  have hf1' := (hf1.later hb1).later hb2
  have hf3' := hf3.later hb2
  have hbw1 : Below w.heap.size w W1 := hb0.trans (hb1.mono hb0.size)
  have hbw : Below w.heap.size w W2 := hbw1.trans (hb2.mono hbw1.size)
  have HG : Hid (w.heap.size ≤ g4 ∧ w.heap.size ≤ g1 ∧ g1 < W2.heap.size ∧ g4 < W2.heap.size ∧ g4 ≠ g1) := Lib.hid ⟨by rw [← hg4]; exact hbw1.size, by omega, hf1'.lt, hf4.lt, by have := hf1.lt; have := hb1.size; omega⟩
  have HF := Lib.hid (fun (W : World) (hb : Below W2.heap.size W2 W) => And.intro ((hf1'.later hb).cell 0) (And.intro ((hf1'.later hb).cell 1) (hf1'.later hb).lt))
  have HX := Lib.hid (fun (W : World) (hb : Below W2.heap.size W2 W) => And.intro ((hf3'.later hb).cell 0) (And.intro ((hf3'.later hb).cell 1) (hf3'.later hb).lt))
  have HE4 := Lib.hid (fun (W : World) (hb : Below W2.heap.size W2 W) => And.intro ((hf4.later hb).cell 0) (And.intro ((hf4.later hb).cell 1) (And.intro (hf4.later hb).lt (And.intro ((hf4.later hb).frozen 0) ((hf4.later hb).frozen 1)))))
  simp only [List.getElem?_cons_zero, List.getElem?_cons_succ] at HF HE4 HX
  have HF1 := Lib.hid hf1'
  have HF4 := Lib.hid hf4
  have HT := Lib.hid ht
  have HV := Lib.hid hv
  have HOV := Lib.hid hov
  have HRU := Lib.hid (hru.later hbw)
  have HRW := Lib.hid hru
  have HUN := Lib.hid hun
  have HBW := Lib.hid hbw
  have hnv := hv.2.1
  have t0 : (0 : Int) ≤ (nv : Int) := by omega
  have t1 : (nv : Int) ≤ 1000 := by omega
  have s0 : (0 : Int) ≤ (un : Int) := by omega
  have s1 : (un : Int) ≤ 1000000 := by omega
  have HFI := Lib.hid (find_any at_ av nt ct nv cv ts ht.1 (by have := ht.2.1; omega) k W2 (ht.2.2.1.later hbw))
  have HFV := Lib.hid (fun (W : World) (hb : Below W2.heap.size W2 W) => findV_any at_ av nt ct nv cv vs hv.1 (by omega) k W (hv.2.2.1.later (hbw.trans (hb.mono hbw.size))))
  have HFU := Lib.hid (fun (x : ByteArray) (W : World) (hb : Below W2.heap.size W2 W) => find_any at_ av nt ct nv cv ts ht.1 (by have := ht.2.1; omega) x W (ht.2.2.1.later (hbw.trans (hb.mono hbw.size))))
  obtain ⟨tn, htn⟩ : ∃ l, ts.map (·.nm) = l := ⟨_, rfl⟩
  obtain ⟨vn, hvn⟩ : ∃ l, vs.map (·.nm) = l := ⟨_, rfl⟩
  rw [htn] at HFI HFU ⊢
  rw [hvn] at HFV ⊢
  have HVN := Lib.hid hvn
  have HVL := Lib.hid (show vn.length = nv from by rw [← hvn, List.length_map]; exact hv.1)
  obtain ⟨y0, y1, yl⟩ := HF.out W2 (Below.refl _ _)
  obtain ⟨x0, x1, xl⟩ := HX.out W2 (Below.refl _ _)
  obtain ⟨v0, v1, vl, z0, z1⟩ := HE4.out W2 (Below.refl _ _)
  clear ht hv hov hru hun hb0 hb1 hf1 hb2 hf4 hf3 hf1' hf3' hbw hbw1 htn hvn
  go_enter Try.func11, Try.ntmps11
  go_upto_region 1 with fail
  try rw [hW0, hg1]
  try rw [hW1, hg3]
  try rw [hW2, hg4]
  clear hW0 hW1 hg1 hg3 hW2 hg4
  cases hA : isIn k tn with
  | true =>
    have HE := Lib.hid (show raddErr tn vn k us = 7 from by unfold raddErr; rw [hA]; rfl)
    go_wp2_with (go_at_call 34; refine HFI.out.mono ?_; rintro ee wa ⟨i, rfl, hpl, hba⟩; have hpi := place_in hpl; rw [hA] at hpi; have HBA := Lib.hid hba; have HBX := Lib.hid (HBW.out.trans (hba.mono HBW.out.size)); clear hpl hba y0 y1 yl v0 v1 vl z0 z1 x0 x1 xl; obtain ⟨y0, y1, yl⟩ := HF.out wa HBA.out; obtain ⟨x0, x1, xl⟩ := HX.out wa HBA.out; obtain ⟨v0, v1, vl, z0, z1⟩ := HE4.out wa HBA.out)
    obtain ⟨hf5, hg5⟩ := ret_box (x := .slice at_ nt ct) (y := .slice av nv cv) (HF4.out.later HBA.out)
    obtain ⟨W5, hW5⟩ : ∃ W, (wa.setCell ⟨g4, 0, none⟩ (.slice at_ nt ct)).setCell ⟨g4, 1, none⟩ (.slice av nv cv) = W := ⟨_, rfl⟩
    rw [hW5] at hf5 hg5 ⊢
    have hb5 : Below w.heap.size w W5 := HBX.out.grown hg5 HBX.out.size (fun j e => by cases e; exact HG.out.1)
    have c0 := hf5.cell 0; have c1 := hf5.cell 1; have cl := hf5.lt
    simp only [List.getElem?_cons_zero, List.getElem?_cons_succ] at c0 c1
    rw [HE.out]
    refine bodyPost_ret (v := .tuple #[.agg #[.slice at_ nt ct, .slice av nv cv], .int .i64 7]) ?_ (by rfl) ?_
    · simp only [results, Try.results11]
      go_simp
    · exact ⟨av, nv, cv, vs, rfl, by rw [if_neg (by decide)]; exact HVN.out, by rw [if_neg (by decide)]; exact HV.out.later hb5, owns_below HOV.out hb5, hb5⟩
  | false =>
    cases hA2 : isIn k vn with
    | true =>
      have HE := Lib.hid (show raddErr tn vn k us = 7 from by unfold raddErr; rw [hA, hA2]; rfl)
      go_wp2_with (first
        | (go_at_call 34; refine HFI.out.mono ?_; rintro ee wa ⟨i, rfl, hpl, hba⟩; have hpi := place_in hpl; rw [hA] at hpi; have HBA := Lib.hid hba; clear hpl hba y0 y1 yl v0 v1 vl z0 z1 x0 x1 xl; obtain ⟨y0, y1, yl⟩ := HF.out wa HBA.out; obtain ⟨x0, x1, xl⟩ := HX.out wa HBA.out)
        | (go_at_call 38; refine (HFV.out wa HBA.out).mono ?_; rintro ee wb ⟨i2, rfl, hpl, hba⟩; have hpi2 := place_in hpl; rw [hA2] at hpi2; have HBb := Lib.hid (HBA.out.trans (hba.mono HBA.out.size)); have HBX := Lib.hid (HBW.out.trans (HBb.out.mono HBW.out.size)); clear hpl hba y0 y1 yl x0 x1 xl; obtain ⟨y0, y1, yl⟩ := HF.out wb HBb.out; obtain ⟨v0, v1, vl, z0, z1⟩ := HE4.out wb HBb.out))
      obtain ⟨hf5, hg5⟩ := ret_box (x := .slice at_ nt ct) (y := .slice av nv cv) (HF4.out.later HBb.out)
      obtain ⟨W5, hW5⟩ : ∃ W, (wb.setCell ⟨g4, 0, none⟩ (.slice at_ nt ct)).setCell ⟨g4, 1, none⟩ (.slice av nv cv) = W := ⟨_, rfl⟩
      rw [hW5] at hf5 hg5 ⊢
      have hb5 : Below w.heap.size w W5 := HBX.out.grown hg5 HBX.out.size (fun j e => by cases e; exact HG.out.1)
      have c0 := hf5.cell 0; have c1 := hf5.cell 1; have cl := hf5.lt
      simp only [List.getElem?_cons_zero, List.getElem?_cons_succ] at c0 c1
      rw [HE.out]
      refine bodyPost_ret (v := .tuple #[.agg #[.slice at_ nt ct, .slice av nv cv], .int .i64 7]) ?_ (by rfl) ?_
      · simp only [results, Try.results11]
        go_simp
      · exact ⟨av, nv, cv, vs, rfl, by rw [if_neg (by decide)]; exact HVN.out, by rw [if_neg (by decide)]; exact HV.out.later hb5, owns_below HOV.out hb5, hb5⟩
    | false =>
      go_upto_region 3 with (first
        | (go_at_call 34; refine HFI.out.mono ?_; rintro ee wa ⟨i, rfl, hpl, hba⟩; have hpi := place_in hpl; rw [hA] at hpi; have HBA := Lib.hid hba; clear hpl hba y0 y1 yl v0 v1 vl z0 z1 x0 x1 xl; obtain ⟨y0, y1, yl⟩ := HF.out wa HBA.out; obtain ⟨x0, x1, xl⟩ := HX.out wa HBA.out)
        | (go_at_call 38; refine (HFV.out wa HBA.out).mono ?_; rintro ee wb ⟨i2, rfl, hpl, hba⟩; have hpi2 := place_in hpl; rw [hA2] at hpi2; have HBb := Lib.hid (HBA.out.trans (hba.mono HBA.out.size)); have HBX := Lib.hid (HBW.out.trans (HBb.out.mono HBW.out.size)); clear hpl hba y0 y1 yl x0 x1 xl; obtain ⟨y0, y1, yl⟩ := HF.out wb HBb.out; obtain ⟨v0, v1, vl, z0, z1⟩ := HE4.out wb HBb.out))
      by_cases h8 : 8 ≤ nv
      · have HE := Lib.hid (show raddErr tn vn k us = 14 from by unfold raddErr; rw [hA, hA2, if_neg (by decide), if_pos (by rw [HVL.out]; exact h8)])
        have d8 : (8 : Int) ≤ (nv : Int) := by omega
        go_wp2_with fail
        obtain ⟨hf5, hg5⟩ := ret_box (x := .slice at_ nt ct) (y := .slice av nv cv) (HF4.out.later HBb.out)
        obtain ⟨W5, hW5⟩ : ∃ W, (wb.setCell ⟨g4, 0, none⟩ (.slice at_ nt ct)).setCell ⟨g4, 1, none⟩ (.slice av nv cv) = W := ⟨_, rfl⟩
        rw [hW5] at hf5 hg5 ⊢
        have hb5 : Below w.heap.size w W5 := HBX.out.grown hg5 HBX.out.size (fun j e => by cases e; exact HG.out.1)
        have c0 := hf5.cell 0; have c1 := hf5.cell 1; have cl := hf5.lt
        simp only [List.getElem?_cons_zero, List.getElem?_cons_succ] at c0 c1
        rw [HE.out]
        refine bodyPost_ret (v := .tuple #[.agg #[.slice at_ nt ct, .slice av nv cv], .int .i64 14]) ?_ (by rfl) ?_
        · simp only [results, Try.results11]
          go_simp
        · exact ⟨av, nv, cv, vs, rfl, by rw [if_neg (by decide)]; exact HVN.out, by rw [if_neg (by decide)]; exact HV.out.later hb5, owns_below HOV.out hb5, hb5⟩
      · have d8 : ¬ (8 : Int) ≤ (nv : Int) := by omega
        go_wp2_with fail
        go_loopw [6] (fun iv wr => ∃ i : Nat, iv = .int .i64 (i : Int) ∧ i ≤ un ∧ Hid (Below W2.heap.size W2 wr) ∧ Hid (∀ u ∈ us.take i, isIn u tn = true)) (fun iv _ => un - (intOf iv).toNat)
        case atStart => exact ⟨0, rfl, Nat.zero_le _, HBb, Lib.hid (by simp)⟩
        case round =>
          clear y0 y1 yl v0 v1 vl z0 z1
          obtain ⟨q, rfl, hq, HBr, HALL⟩ := hrel
          have q0 : (0 : Int) ≤ (q : Int) := by omega
          obtain ⟨y0, y1, yl⟩ := HF.out _ HBr.out
          obtain ⟨x0, x1, xl⟩ := HX.out _ HBr.out
          by_cases hqn : q < un
          · have dq : (q : Int) < (un : Int) := by omega
            have hju : q < us.length := by rw [HUN.out]; exact hqn
            have hx := List.getElem?_eq_getElem hju
            generalize us[q] = x at hx
            obtain ⟨b, off, rfl, hc⟩ := str_at HRU.out hqn hx
            have HR2 := Lib.hid (fun (W : World) (hb : Below wr.heap.size wr W) => And.intro (HF.out W (HBr.out.trans (hb.mono HBr.out.size))) (And.intro (HX.out W (HBr.out.trans (hb.mono HBr.out.size))) (hc W (HBr.out.trans (hb.mono HBr.out.size)))))
            have HFX := Lib.hid (fun (W : World) (hb : Below wr.heap.size wr W) => HFU.out x W (HBr.out.trans (hb.mono HBr.out.size)))
            have HXX := Lib.hid hx
            clear hc hx
            cases hB : isIn x tn with
            | true =>
              go_upto_region 8 with fail
              apply ag.region_calm (ag.Spec.val _ :: ag.Spec.val _ :: ag.Spec.val _ :: ag.Spec.val _ :: ag.Spec.val _ :: ag.Spec.val _ :: ag.Spec.sat (fun v _ => ∃ i : Int, v = .int .i64 i ∧ 0 ≤ i) ag.grew :: ag.Spec.val (.bool false) :: [])
              case hm => kernel_rfl
              case hB => kernel_rfl
              case hlen => rfl
              case hc => exact ⟨⟨(fun v W W' h hb => h), rfl⟩, trivial⟩
              apply ag.walk_val
              · rfl
              · intro W1 hS hE
                obtain ⟨⟨y0, y1, yl⟩, -, -⟩ := HR2.out W1 hS
                clear hS hE
                unfold ag.does
                go_simp
                first | done | exact ⟨rfl, rfl⟩ | rfl | (exact ⟨by go_num, rfl⟩) | (simp; done) | trace_state
              simp only [Act.put, List.setIfInBounds_toArray, List.set_cons_zero, List.set_cons_succ]
              apply ag.walk_val
              · rfl
              · intro W1 hS hE
                clear hS hE
                unfold ag.does
                go_simp
                first | done | exact ⟨rfl, rfl⟩ | rfl | (exact ⟨by go_num, rfl⟩) | (simp; done) | trace_state
              simp only [Act.put, List.setIfInBounds_toArray, List.set_cons_zero, List.set_cons_succ]
              apply ag.walk_val
              · rfl
              · intro W1 hS hE
                obtain ⟨-, ⟨x0, x1, xl⟩, -⟩ := HR2.out W1 hS
                clear hS hE
                unfold ag.does
                go_simp
                first | done | exact ⟨rfl, rfl⟩ | rfl | (exact ⟨by go_num, rfl⟩) | (simp; done) | trace_state
              simp only [Act.put, List.setIfInBounds_toArray, List.set_cons_zero, List.set_cons_succ]
              apply ag.walk_val
              · rfl
              · intro W1 hS hE
                clear hS hE
                unfold ag.does
                go_simp
                first | done | exact ⟨rfl, rfl⟩ | rfl | (exact ⟨by go_num, rfl⟩) | (simp; done) | trace_state
              simp only [Act.put, List.setIfInBounds_toArray, List.set_cons_zero, List.set_cons_succ]
              apply ag.walk_val
              · rfl
              · intro W1 hS hE
                clear hS hE
                unfold ag.does
                go_simp
                first | done | exact ⟨rfl, rfl⟩ | rfl | (exact ⟨by go_num, rfl⟩) | (simp; done) | trace_state
              simp only [Act.put, List.setIfInBounds_toArray, List.set_cons_zero, List.set_cons_succ]
              apply ag.walk_val
              · rfl
              · intro W1 hS hE
                obtain ⟨-, -, c0, cl⟩ := HR2.out W1 hS
                clear hS hE
                unfold ag.does
                go_simp
                first | done | exact ⟨rfl, rfl⟩ | rfl | (exact ⟨by go_num, rfl⟩) | (simp; done) | trace_state
              simp only [Act.put, List.setIfInBounds_toArray, List.set_cons_zero, List.set_cons_succ]
              refine ag.walk_such (by rfl) (fun W1 hS hE => ?_) (fun y6 => ?_)
              · clear hE
                have hk := HFX.out W1 hS
                unfold ag.does
                go_simp
                first | done | (refine hk.mono ?_; rintro e W2 ⟨i, rfl, hp, hb⟩; exact ⟨_, rfl, ⟨i, rfl, by have := place_in hp; rw [hB] at this; simpa using this⟩, hb⟩)
              simp only [Act.put, List.setIfInBounds_toArray, List.set_cons_zero, List.set_cons_succ]
              apply ag.walk_val
              · rfl
              · intro W1 hS hE
                have box := hE.of 6 (by kernel_rfl)
                simp only [ag.lookE, if_true, Nat.reduceEqDiff, if_false] at box
                obtain ⟨i9, rfl, hp9⟩ := box
                have hp8 : ¬ i9 < 0 := by omega
                clear hS hE
                unfold ag.does
                go_simp
                first | done | exact ⟨rfl, rfl⟩ | rfl | (exact ⟨by go_num, rfl⟩) | (simp; done) | trace_state
              simp only [Act.put, List.setIfInBounds_toArray, List.set_cons_zero, List.set_cons_succ]
              refine ag.walk_nil (fun w9 hS hF hP => ?_)
              clear hP
              have HB9 := Lib.hid (HBr.out.trans (hS.mono HBr.out.size))
              clear hF hS y0 y1 yl x0 x1 xl
              go_wp2_with fail
              go_roundw
              case rel => exact ⟨q + 1, by go_num, by omega, HB9, Lib.hid (by
                intro u hu
                rw [List.take_add_one, HXX.out] at hu
                rcases List.mem_append.1 hu with hu | hu
                · exact HALL.out u hu
                · simp at hu; subst hu; exact hB)⟩
              case measure => simp [intOf]; omega
            | false =>
              have HE := Lib.hid (show raddErr tn vn k us = 6 from by
                unfold raddErr
                rw [hA, hA2, if_neg (by decide), if_neg (by rw [HVL.out]; exact h8), if_neg]
                intro h
                rw [List.all_eq_true] at h
                have := h x (List.mem_of_getElem? HXX.out)
                rw [hB] at this; cases this)
              go_upto_region 8 with fail
              apply ag.region_calm (ag.Spec.val _ :: ag.Spec.val _ :: ag.Spec.val _ :: ag.Spec.val _ :: ag.Spec.val _ :: ag.Spec.val _ :: ag.Spec.sat (fun v _ => ∃ i : Int, v = .int .i64 i ∧ i < 0) ag.grew :: ag.Spec.val (.bool true) :: [])
              case hm => kernel_rfl
              case hB => kernel_rfl
              case hlen => rfl
              case hc => exact ⟨⟨(fun v W W' h hb => h), rfl⟩, trivial⟩
              apply ag.walk_val
              · rfl
              · intro W1 hS hE
                obtain ⟨⟨y0, y1, yl⟩, -, -⟩ := HR2.out W1 hS
                clear hS hE
                unfold ag.does
                go_simp
                first | done | exact ⟨rfl, rfl⟩ | rfl | (exact ⟨by go_num, rfl⟩) | (simp; done) | trace_state
              simp only [Act.put, List.setIfInBounds_toArray, List.set_cons_zero, List.set_cons_succ]
              apply ag.walk_val
              · rfl
              · intro W1 hS hE
                clear hS hE
                unfold ag.does
                go_simp
                first | done | exact ⟨rfl, rfl⟩ | rfl | (exact ⟨by go_num, rfl⟩) | (simp; done) | trace_state
              simp only [Act.put, List.setIfInBounds_toArray, List.set_cons_zero, List.set_cons_succ]
              apply ag.walk_val
              · rfl
              · intro W1 hS hE
                obtain ⟨-, ⟨x0, x1, xl⟩, -⟩ := HR2.out W1 hS
                clear hS hE
                unfold ag.does
                go_simp
                first | done | exact ⟨rfl, rfl⟩ | rfl | (exact ⟨by go_num, rfl⟩) | (simp; done) | trace_state
              simp only [Act.put, List.setIfInBounds_toArray, List.set_cons_zero, List.set_cons_succ]
              apply ag.walk_val
              · rfl
              · intro W1 hS hE
                clear hS hE
                unfold ag.does
                go_simp
                first | done | exact ⟨rfl, rfl⟩ | rfl | (exact ⟨by go_num, rfl⟩) | (simp; done) | trace_state
              simp only [Act.put, List.setIfInBounds_toArray, List.set_cons_zero, List.set_cons_succ]
              apply ag.walk_val
              · rfl
              · intro W1 hS hE
                clear hS hE
                unfold ag.does
                go_simp
                first | done | exact ⟨rfl, rfl⟩ | rfl | (exact ⟨by go_num, rfl⟩) | (simp; done) | trace_state
              simp only [Act.put, List.setIfInBounds_toArray, List.set_cons_zero, List.set_cons_succ]
              apply ag.walk_val
              · rfl
              · intro W1 hS hE
                obtain ⟨-, -, c0, cl⟩ := HR2.out W1 hS
                clear hS hE
                unfold ag.does
                go_simp
                first | done | exact ⟨rfl, rfl⟩ | rfl | (exact ⟨by go_num, rfl⟩) | (simp; done) | trace_state
              simp only [Act.put, List.setIfInBounds_toArray, List.set_cons_zero, List.set_cons_succ]
              refine ag.walk_such (by rfl) (fun W1 hS hE => ?_) (fun y6 => ?_)
              · clear hE
                have hk := HFX.out W1 hS
                unfold ag.does
                go_simp
                first | done | (refine hk.mono ?_; rintro e W2 ⟨i, rfl, hp, hb⟩; exact ⟨_, rfl, ⟨i, rfl, by have := place_in hp; rw [hB] at this; simpa using this⟩, hb⟩)
              simp only [Act.put, List.setIfInBounds_toArray, List.set_cons_zero, List.set_cons_succ]
              apply ag.walk_val
              · rfl
              · intro W1 hS hE
                have box := hE.of 6 (by kernel_rfl)
                simp only [ag.lookE, if_true, Nat.reduceEqDiff, if_false] at box
                obtain ⟨i9, rfl, hp9⟩ := box
                clear hS hE
                unfold ag.does
                go_simp
                first | done | exact ⟨rfl, rfl⟩ | rfl | (exact ⟨by go_num, rfl⟩) | (simp; done) | trace_state
              simp only [Act.put, List.setIfInBounds_toArray, List.set_cons_zero, List.set_cons_succ]
              refine ag.walk_nil (fun w9 hS hF hP => ?_)
              clear hP
              have HB9 := Lib.hid (HBr.out.trans (hS.mono HBr.out.size))
              have HBX9 := Lib.hid (HBW.out.trans (HB9.out.mono HBW.out.size))
              clear hF hS y0 y1 yl x0 x1 xl
              obtain ⟨y0, y1, yl⟩ := HF.out w9 HB9.out
              obtain ⟨v0, v1, vl, z0, z1⟩ := HE4.out w9 HB9.out
              go_wp2_with fail
              obtain ⟨hf5, hg5⟩ := ret_box (x := .slice at_ nt ct) (y := .slice av nv cv) (HF4.out.later HB9.out)
              obtain ⟨W5, hW5⟩ : ∃ W, (w9.setCell ⟨g4, 0, none⟩ (.slice at_ nt ct)).setCell ⟨g4, 1, none⟩ (.slice av nv cv) = W := ⟨_, rfl⟩
              rw [hW5] at hf5 hg5 ⊢
              have hb5 : Below w.heap.size w W5 := HBX9.out.grown hg5 HBX9.out.size (fun j e => by cases e; exact HG.out.1)
              have c0 := hf5.cell 0; have c1 := hf5.cell 1; have cl := hf5.lt
              simp only [List.getElem?_cons_zero, List.getElem?_cons_succ] at c0 c1
              rw [HE.out]
              refine bodyPost_ret (v := .tuple #[.agg #[.slice at_ nt ct, .slice av nv cv], .int .i64 6]) ?_ (by rfl) ?_
              · simp only [results, Try.results11]
                go_simp
              · exact ⟨av, nv, cv, vs, rfl, by rw [if_neg (by decide)]; exact HVN.out, by rw [if_neg (by decide)]; exact HV.out.later hb5, owns_below HOV.out hb5, hb5⟩
          · have dq : ¬ (q : Int) < (un : Int) := by omega
            have hall : us.all (fun u => isIn u tn) = true := List.all_eq_true.2 (fun u hu => HALL.out u (by rw [List.take_of_length_le (by have := HUN.out; omega)]; exact hu))
            have HE := Lib.hid (show raddErr tn vn k us = 0 from by
              unfold raddErr
              rw [hA, hA2, if_neg (by decide), if_neg (by rw [HVL.out]; exact h8), if_pos hall])
            have HR2 := Lib.hid (fun (W : World) (hb : Below wr.heap.size wr W) => And.intro (HF.out W (HBr.out.trans (hb.mono HBr.out.size))) (HX.out W (HBr.out.trans (hb.mono HBr.out.size))))
            have HRT := Lib.hid (Row.of_owns (owns_below HOV.out (HBW.out.trans (HBr.out.mono HBW.out.size))))
            have HONE1 := Lib.hid (oneV vs)
            obtain ⟨i0, hi, hz0, hz1, hz2⟩ := info_of infoV
            clear hall
            go_upto_region 10 with fail
            clear y0 y1 yl x0 x1 xl
            apply ag.region_chain_tail 7  (ag.Spec.sat (ag.Ch (wr.heap.size) TRv 2 (0) ([])) ag.grew :: ag.Spec.val _ :: ag.Spec.val _ :: ag.Spec.sat (ag.Ch (wr.heap.size) TRv 2 (0 + nv) ([] ++ vCells vs)) (ag.tk (wr.heap.size) TRv 2 (0)) :: ag.Spec.val _ :: ag.Spec.sat (ag.Ch (wr.heap.size) TRv 2 (1) ([Value.string k, .slice ua un uc])) ag.grew :: ag.Spec.sat (ag.Ch (wr.heap.size) TRv 2 ((0 + nv) + 1) (([] ++ vCells vs) ++ [Value.string k, .slice ua un uc])) (ag.tk (wr.heap.size) TRv 2 ((0 + nv))) :: [])
            case hm => kernel_rfl
            case hB => kernel_rfl
            case hlen => rfl
            case hc => exact ⟨.inl rfl, .inr (fun f w w' h => h.1), .inl rfl, .inr (fun f w w' h => h.1), trivial⟩
            case hst =>
              simp only [List.take_succ_cons, List.take_zero]
              simp only [ag.Stab, ag.Row2, ag.Ok2, and_true]
              repeat' apply And.intro
              all_goals first
                | exact fun h => absurd rfl h
                | exact fun _ _ f v W W' _ hv _ ht => ag.Ch.lasts v W W' hv ht
                | exact fun _ _ f v W W' _ hv _ ht => ag.Ch.stays hv ht (by omega)
                | trivial
                | exact fun _ h => absurd (h.symm.trans (show _ = true by kernel_rfl)) (by decide)
            simp only [List.take_succ_cons, List.take_zero, List.drop_succ_cons, List.drop_zero]
            refine ag.walk_such (by rfl) (fun W1 hS hE => ?_) (fun y0 => ?_)
            · have hX := hS.size
              clear hE
              unfold ag.does
              go_simp
              exact ⟨ag.Ch.new W1 ([]) (by simp) hX (by decide), (Below.refl _ _).alloc (Nat.le_refl _) _⟩
            simp only [Act.put, List.setIfInBounds_toArray, List.set_cons_zero, List.set_cons_succ]
            apply ag.walk_val
            · rfl
            · intro W1 hS hE
              clear hS hE
              unfold ag.does
              go_simp
              first | done | exact ⟨rfl, rfl⟩ | rfl | (exact ⟨by go_num, rfl⟩) | (simp; done) | trace_state
            simp only [Act.put, List.setIfInBounds_toArray, List.set_cons_zero, List.set_cons_succ]
            apply ag.walk_val
            · rfl
            · intro W1 hS hE
              obtain ⟨⟨y0, y1, yl⟩, -⟩ := HR2.out W1 hS
              clear hS hE
              unfold ag.does
              go_simp
              first | done | exact ⟨rfl, rfl⟩ | rfl | (exact ⟨by go_num, rfl⟩) | (simp; done) | trace_state
            simp only [Act.put, List.setIfInBounds_toArray, List.set_cons_zero, List.set_cons_succ]
            refine ag.walk_sat (by rfl) (fun W1 hS hE => ?_) (fun y3 => ?_)
            · have own := hE.of 0 (by kernel_rfl)
              simp only [ag.lookE, if_true, Nat.reduceEqDiff, if_false] at own
              clear hE
              have hX := hS.size
              refine ag.does_chain (.tmp 41) (.tmp 43) 27 (by rfl) (wr.heap.size) TRv i0 (.agg #[.string ⟨#[]⟩, .slice none 0 0]) 2 40 Try.underlying27 hi hz0 hz1 hz2 rfl (by decide) y0 (0) ([]) (by rfl) own (.slice av nv cv) (nv) (vCells vs) (by rfl) (HRT.out.later hS) (HONE1.out) (by simp only [maxLen]; omega) (by omega) hX _ _ _
            simp only [Act.put, List.setIfInBounds_toArray, List.set_cons_zero, List.set_cons_succ]
            apply ag.walk_val
            · rfl
            · intro W1 hS hE
              obtain ⟨-, x0, x1, xl⟩ := HR2.out W1 hS
              clear hS hE
              unfold ag.does
              go_simp
              first | done | exact ⟨rfl, rfl⟩ | rfl | (exact ⟨by go_num, rfl⟩) | (simp; done) | trace_state
            simp only [Act.put, List.setIfInBounds_toArray, List.set_cons_zero, List.set_cons_succ]
            refine ag.walk_such (by rfl) (fun W1 hS hE => ?_) (fun y5 => ?_)
            · have hX := hS.size
              clear hE
              unfold ag.does
              go_simp
              exact ⟨ag.Ch.new W1 ([Value.string k, .slice ua un uc]) (by simp) hX (by decide), (Below.refl _ _).alloc (Nat.le_refl _) _⟩
            simp only [Act.put, List.setIfInBounds_toArray, List.set_cons_zero, List.set_cons_succ]
            refine ag.walk_sat (by rfl) (fun W1 hS hE => ?_) (fun y6 => ?_)
            · have own := hE.of 3 (by kernel_rfl)
              simp only [ag.lookE, if_true, Nat.reduceEqDiff, if_false] at own
              have box := hE.of 5 (by kernel_rfl)
              simp only [ag.lookE, if_true, Nat.reduceEqDiff, if_false] at box
              clear hE
              have hX := hS.size
              refine ag.does_chain (.tmp 44) (.tmp 46) 27 (by rfl) (wr.heap.size) TRv i0 (.agg #[.string ⟨#[]⟩, .slice none 0 0]) 2 40 Try.underlying27 hi hz0 hz1 hz2 rfl (by decide) y3 ((0 + nv)) (([] ++ vCells vs)) (by rfl) own (y5) (1) ([Value.string k, .slice ua un uc]) (by rfl) (box.row) ((by simp [Value.oneCell'])) (by simp only [maxLen]; omega) (by omega) hX _ _ _
            simp only [Act.put, List.setIfInBounds_toArray, List.set_cons_zero, List.set_cons_succ]
            refine ag.walk_nil (fun w9 hS hF hP => ?_)
            clear hP
            have h6 := hF.of 6
            simp only [ag.lookE, Nat.reduceEqDiff, if_false, if_true] at h6
            obtain ⟨⟨a9, c9, rfl, -⟩, ho⟩ := h6
            obtain ⟨M, hM⟩ : ∃ M, 0 + nv + 1 = M := ⟨_, rfl⟩
            rw [hM] at ho ⊢
            have hb9 := HBr.out.trans (hS.mono HBr.out.size)
            obtain ⟨y0, y1, yl⟩ := HF.out w9 hb9
            have yz := (HF1.out.later hb9).frozen 1
            have HO := Lib.hid ho
            have HS9 := Lib.hid hb9
            have HWB := Lib.hid HBr.out.size
            clear hF hS ho hb9
            go_upto_region 11 with fail
            obtain ⟨W6, hW6⟩ : ∃ W, w9.setCell ⟨g1, 1, none⟩ (.slice a9 M c9) = W := ⟨_, rfl⟩
            have hf61 : Flds W6 g1 TRc [.slice at_ nt ct, .slice a9 M c9] := by rw [← hW6]; exact (HF1.out.later HS9.out).set 1 _
            have hf64 : Flds W6 g4 TRc [.slice none 0 0, .slice none 0 0] := by rw [← hW6]; exact (HF4.out.later HS9.out).other _ _ HG.out.2.2.2.2
            have hbq : Below w.heap.size w w9 := HBW.out.trans (HS9.out.mono HBW.out.size)
            have hb6 : Below w.heap.size w W6 := by rw [← hW6]; exact hbq.grown (grown_setCell _ _ _) hbq.size (fun j e => by cases e; exact HG.out.2.1)
            have how6 := owns_setCell HO.out ⟨g1, 1, none⟩ (.slice a9 M c9) (fun e => by have h := (HO.out.lt g1 e).1; have h1 := HG.out.2.2.1; have h2 := HWB.out; omega)
            rw [hW6] at how6 ⊢
            have HOW6 := Lib.hid how6
            clear y0 y1 yl yz
            have y0 := hf61.cell 0; have y1 := hf61.cell 1; have yl := hf61.lt
            have v0 := hf64.cell 0; have v1 := hf64.cell 1; have vl := hf64.lt
            have z0 := hf64.frozen 0; have z1 := hf64.frozen 1
            simp only [List.getElem?_cons_zero, List.getElem?_cons_succ] at y0 y1 v0 v1
            have HF64 := Lib.hid hf64
            have HB6 := Lib.hid hb6
            clear hW6 hf61 hf64 hbq hb6 how6
            go_wp2_with fail
            obtain ⟨hf5, hg5⟩ := ret_box (x := .slice at_ nt ct) (y := .slice a9 M c9) HF64.out
            obtain ⟨W5, hW5⟩ : ∃ W, (W6.setCell ⟨g4, 0, none⟩ (.slice at_ nt ct)).setCell ⟨g4, 1, none⟩ (.slice a9 M c9) = W := ⟨_, rfl⟩
            rw [hW5] at hf5 hg5 ⊢
            have hb5 : Below w.heap.size w W5 := HB6.out.grown hg5 HB6.out.size (fun j e => by cases e; exact HG.out.1)
            have c0 := hf5.cell 0; have c1 := hf5.cell 1; have cl := hf5.lt
            simp only [List.getElem?_cons_zero, List.getElem?_cons_succ] at c0 c1
            rw [HE.out]
            refine bodyPost_ret (v := .tuple #[.agg #[.slice at_ nt ct, .slice a9 M c9], .int .i64 0]) ?_ (by rfl) ?_
            · simp only [results, Try.results11]
              go_simp
            · have how5 := owns_setCell (owns_setCell HOW6.out ⟨g4, 0, none⟩ (.slice at_ nt ct) (fun e => by have h := (HOW6.out.lt g4 e).1; have h1 := HG.out.2.2.2.1; have h2 := HWB.out; omega)) ⟨g4, 1, none⟩ (.slice a9 M c9) (fun e => by have h := (HOW6.out.lt g4 e).1; have h1 := HG.out.2.2.2.1; have h2 := HWB.out; omega)
              rw [hW5] at how5
              have hcs : vCells (vs ++ [⟨k, ua, un, uc⟩]) = [] ++ vCells vs ++ [Value.string k, .slice ua un uc] := by rw [vCells_app]; rfl
              rw [← hcs] at how5
              have hkv : k ∉ vn := fun h => by rw [isIn_yes h] at hA2; cases hA2
              refine ⟨a9, M, c9, vs ++ [⟨k, ua, un, uc⟩], rfl, ?_, ⟨?_, ?_, Row.of_owns how5, fun y hy => ?_⟩, owns_base how5 (fun g hg => Nat.zero_le _), hb5⟩
              · rw [if_pos rfl, List.map_append, HVN.out]; rfl
              · have h1 := HV.out.1; rw [List.length_append, List.length_singleton]; omega
              · omega
              · rw [if_pos rfl]
                rcases List.mem_append.1 hy with h | h
                · have hne : y.nm ≠ k := fun e => hkv (by rw [← HVN.out, ← e]; exact List.mem_map.2 ⟨y, h, rfl⟩)
                  obtain ⟨q1, q2, q4⟩ := HV.out.2.2.2 y h
                  rw [upd_other _ _ hne]
                  exact ⟨q1, q2, q4.later hb5⟩
                · obtain rfl := List.mem_singleton.1 h
                  rw [upd_same]
                  exact ⟨HUN.out.symm, hu1, HRW.out.later hb5⟩
end Go.Proofs.Ythhcjmikkiiahaa.cat
