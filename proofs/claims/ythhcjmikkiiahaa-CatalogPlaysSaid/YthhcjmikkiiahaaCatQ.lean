/- The document's catalog: a table, a view is dropped; walked. -/
import Derived.Test.YthhcjmikkiiahaaCatP
import Derived.Laws.ResultCell
namespace Go.Proofs.Ythhcjmikkiiahaa.cat
set_option linter.unusedVariables false
open Go.RowKit Go.WideShapes Go.MapKept
theorem ret_box {W : World} {g : Nat} {p q x y : Value} (h : Flds W g TRc [p, q]) : Flds ((W.setCell ⟨g, 0, none⟩ x).setCell ⟨g, 1, none⟩ y) g TRc [x, y] ∧ W.grownBy ((W.setCell ⟨g, 0, none⟩ x).setCell ⟨g, 1, none⟩ y) (some g) :=
  ⟨(h.set 0 x).set 1 y, grown_two' (grown_setCell _ ⟨g, 0, none⟩ _) (grown_setCell _ ⟨g, 1, none⟩ _)⟩
theorem infoT : (Try.prog.info? TRt).map (fun i => (i.zero, i.size, i.bytes)) = some (some (.agg #[.string ⟨#[]⟩, .slice none 0 0, .int .i64 0]), 3, 48) := by kernel_rfl
theorem infoV : (Try.prog.info? TRv).map (fun i => (i.zero, i.size, i.bytes)) = some (some (.agg #[.string ⟨#[]⟩, .slice none 0 0]), 2, 40) := by kernel_rfl
theorem oneT (l : List TE) : ∀ u ∈ tCells l, u.oneCell' = true := by
  intro u hu
  unfold tCells at hu
  obtain ⟨x, -, hx⟩ := List.mem_flatMap.1 hu
  simp only [List.mem_cons, List.not_mem_nil, or_false] at hx
  rcases hx with rfl | rfl | rfl <;> rfl
theorem oneV (l : List RV) : ∀ u ∈ vCells l, u.oneCell' = true := by
  intro u hu
  unfold vCells at hu
  obtain ⟨x, -, hx⟩ := List.mem_flatMap.1 hu
  simp only [List.mem_cons, List.not_mem_nil, or_false] at hx
  rcases hx with rfl | rfl <;> rfl
theorem tCells_app (a b : List TE) : tCells (a ++ b) = tCells a ++ tCells b := by unfold tCells; rw [List.flatMap_append]
theorem vCells_app (a b : List RV) : vCells (a ++ b) = vCells a ++ vCells b := by unfold vCells; rw [List.flatMap_append]
theorem tCells_take (l : List TE) (k : Nat) : (tCells l).take (k * 3) = tCells (l.take k) := by
  induction l generalizing k with
  | nil => simp [tCells]
  | cons x l ih =>
    cases k with
    | zero => simp [tCells]
    | succ k => rw [List.take_succ_cons, tCells_cons, tCells_cons, ← ih k, show (k + 1) * 3 = k * 3 + 3 by omega]; rfl
theorem tCells_drop (l : List TE) (k : Nat) : (tCells l).drop (k * 3) = tCells (l.drop k) := by
  induction l generalizing k with
  | nil => simp [tCells]
  | cons x l ih =>
    cases k with
    | zero => simp [tCells]
    | succ k => rw [List.drop_succ_cons, tCells_cons, ← ih k, show (k + 1) * 3 = k * 3 + 3 by omega]; rfl
theorem vCells_take (l : List RV) (k : Nat) : (vCells l).take (k * 2) = vCells (l.take k) := by
  induction l generalizing k with
  | nil => simp [vCells]
  | cons x l ih =>
    cases k with
    | zero => simp [vCells]
    | succ k => rw [List.take_succ_cons, vCells_cons, vCells_cons, ← ih k, show (k + 1) * 2 = k * 2 + 2 by omega]; rfl
theorem vCells_drop (l : List RV) (k : Nat) : (vCells l).drop (k * 2) = vCells (l.drop k) := by
  induction l generalizing k with
  | nil => simp [vCells]
  | cons x l ih =>
    cases k with
    | zero => simp [vCells]
    | succ k => rw [List.drop_succ_cons, vCells_cons, ← ih k, show (k + 1) * 2 = k * 2 + 2 by omega]; rfl
/-- a name taken out at its place -/
theorem del_at {l : List ByteArray} {k : ByteArray} {j : Nat} (hn : l.Nodup) (hj : l[j]? = some k) : l.take j ++ l.drop (j + 1) = delN l k := by
  obtain ⟨hl, he⟩ := List.getElem?_eq_some_iff.1 hj
  have e : l = l.take j ++ k :: l.drop (j + 1) := by rw [← he, ← List.drop_eq_getElem_cons hl, List.take_append_drop]
  have hp := hn
  rw [e] at hp
  obtain ⟨p1, p2, p3⟩ := List.nodup_append.1 hp
  have p4 := List.nodup_cons.1 p2
  unfold delN
  conv => rhs; rw [e]
  rw [List.filter_append, List.filter_cons, if_neg (by simp), List.filter_eq_self.2 (fun y hy => by simpa using fun h => p3 y hy k (List.mem_cons_self ..) h), List.filter_eq_self.2 (fun y hy => by simpa using fun h : y = k => p4.1 (h ▸ hy))]
noncomputable def rdropErr (ns : List ByteArray) (k : ByteArray) (used : Nat) : Int := if isIn k ns then (if 0 < used then 15 else 0) else 6
def RDrop (tb : ByteArray → List Cn × Int) (ns : List ByteArray) (E : Int) (k : ByteArray) (av : Option Addr) (nv cv : Nat) (w : World) (e : Ending) (w' : World) : Prop := ∃ (a : Option Addr) (n c : Nat) (ts : List TE), e = .returned (.tuple #[.agg #[.slice a n c, .slice av nv cv], .int .i64 E]) ∧ ts.map (·.nm) = (if E = 0 then delN ns k else ns) ∧ TsAt w' a n c ts tb ∧ w'.ownsRow 0 TRt 3 (.slice a n c) n (tCells ts) ∧ Below w.heap.size w w'
set_option maxRecDepth 100000 in
set_option maxHeartbeats 8000000 in
theorem rdrop_any (at_ av : Option Addr) (nt ct nv cv : Nat) (ts : List TE) (vs : List RV) (tb : ByteArray → List Cn × Int) (vu : ByteArray → List ByteArray) (k : ByteArray) (w : World) (ht : TsAt w at_ nt ct ts tb) (hv : VsAt w av nv cv vs vu) (hot : w.ownsRow 0 TRt 3 (.slice at_ nt ct) nt (tCells ts)) (hnd : (ts.map (·.nm)).Nodup) :
    Calls Try.prog 9 #[.agg #[.slice at_ nt ct, .slice av nv cv], .string k] w (RDrop tb (ts.map (·.nm)) (rdropErr (ts.map (·.nm)) k (usedBy vs vu k).length) k av nv cv w) := by
  obtain ⟨W1, hW1⟩ : ∃ W, w.alloc (.cells #[.slice at_ nt ct, .slice av nv cv] TRc) = W := ⟨_, rfl⟩
  obtain ⟨g1, hg1⟩ : ∃ g, w.heap.size = g := ⟨_, rfl⟩
  have hb1 : Below w.heap.size w W1 := by rw [← hW1]; exact (Below.refl _ _).alloc (Nat.le_refl _) _
  have hf1 : Flds W1 g1 TRc [.slice at_ nt ct, .slice av nv cv] := by rw [← hW1, ← hg1]; exact Flds.new w _ _
  obtain ⟨W2, hW2⟩ : ∃ W, W1.alloc (.cells #[.slice none 0 0, .slice none 0 0] TRc) = W := ⟨_, rfl⟩
  obtain ⟨g4, hg4⟩ : ∃ g, W1.heap.size = g := ⟨_, rfl⟩
  have hb2 : Below W1.heap.size W1 W2 := by rw [← hW2]; exact (Below.refl _ _).alloc (Nat.le_refl _) _
  have hf4 : Flds W2 g4 TRc [.slice none 0 0, .slice none 0 0] := by rw [← hW2, ← hg4]; exact Flds.new W1 _ _
  have hf1' := hf1.later hb2
  have hbw : Below w.heap.size w W2 := hb1.trans (hb2.mono hb1.size)
  have HG : Hid (w.heap.size ≤ g4 ∧ w.heap.size ≤ g1 ∧ g1 < W2.heap.size ∧ g4 < W2.heap.size ∧ g4 ≠ g1) := Lib.hid ⟨by rw [← hg4]; exact hb1.size, by omega, hf1'.lt, hf4.lt, by have := hf1.lt; omega⟩
  have HF := Lib.hid (fun (W : World) (hb : Below W2.heap.size W2 W) => And.intro ((hf1'.later hb).cell 0) (And.intro ((hf1'.later hb).cell 1) (hf1'.later hb).lt))
  have HE4 := Lib.hid (fun (W : World) (hb : Below W2.heap.size W2 W) => And.intro ((hf4.later hb).cell 0) (And.intro ((hf4.later hb).cell 1) (And.intro (hf4.later hb).lt (And.intro ((hf4.later hb).frozen 0) ((hf4.later hb).frozen 1)))))
  simp only [List.getElem?_cons_zero, List.getElem?_cons_succ] at HF HE4
  have HF1 := Lib.hid hf1'
  have HF4 := Lib.hid hf4
  have HT := Lib.hid ht
  have HV := Lib.hid hv
  have HOT := Lib.hid hot
  have HND := Lib.hid hnd
  have HBW := Lib.hid hbw
  have hnt := ht.2.1
  have t0 : (0 : Int) ≤ (nt : Int) := by omega
  have t1 : (nt : Int) ≤ 1000 := by omega
  have HFI := Lib.hid (find_any at_ av nt ct nv cv ts ht.1 (by omega) k W2 (ht.2.2.1.later hbw))
  obtain ⟨L, hL⟩ : ∃ L, (usedBy vs vu k).foldl insB [] = L := ⟨_, rfl⟩
  have HUS := Lib.hid (fun (W : World) (hb : Below W2.heap.size W2 W) => rusers_any at_ av nt ct nv cv vs vu k W (hv.later (hbw.trans (hb.mono hbw.size))))
  rw [hL] at HUS
  obtain ⟨N, hN⟩ : ∃ N, L.length = N := ⟨_, rfl⟩
  have hUN : (usedBy vs vu k).length = N := by rw [← hN, ← hL, fold_len]
  rw [hUN]
  have HN := Lib.hid hN
  have HNle : N ≤ 1000 := by rw [← hUN]; have h1 := usedBy_len vs vu k vs.length; rw [List.take_length] at h1; have := hv.1; have := hv.2.1; omega
  obtain ⟨y0, y1, yl⟩ := HF.out W2 (Below.refl _ _)
  clear ht hv hot hnd hb1 hf1 hb2 hf4 hf1' hbw hL hN hUN
  go_enter Try.func9, Try.ntmps9
  go_upto_region 1 with fail
  try rw [hW1, hg1]
  try rw [hW2, hg4]
  clear hW1 hg1 hW2 hg4
  go_upto_region 2 with (go_at_call 34; refine HFI.out.mono ?_; rintro ee wa ⟨i, rfl, hpl, hba⟩; have HPL := Lib.hid hpl; have HBA := Lib.hid hba; clear hpl hba)
  clear y0 y1 yl
  obtain ⟨y0, y1, yl⟩ := HF.out wa HBA.out
  obtain ⟨v0, v1, vl, z0, z1⟩ := HE4.out wa HBA.out
  have HBX := Lib.hid (HBW.out.trans (HBA.out.mono HBW.out.size))
  rcases HPL.out with ⟨j, rfl, hjn, hjf⟩ | ⟨rfl, hno⟩
  · obtain ⟨x, hx, hxk⟩ : ∃ x, ts[j]? = some x ∧ x.nm = k := by
      rw [List.getElem?_map] at hjn
      cases h : ts[j]? with
      | none => rw [h] at hjn; cases hjn
      | some x => rw [h] at hjn; exact ⟨x, rfl, Option.some.inj hjn⟩
    have hjl : j < nt := by have := (List.getElem?_eq_some_iff.1 hx).1; have := HT.out.1; omega
    obtain ⟨g, rfl, hcap⟩ : ∃ g, at_ = some ⟨g, 0, none⟩ ∧ nt ≤ ct := by
      rcases HOT.out.2 with ⟨e, h0⟩ | ⟨g, cap, cur, e, -, -, h, -⟩
      · omega
      · simp only [Value.slice.injEq] at e
        exact ⟨g, e.1, by omega⟩
    have j0 : (0 : Int) ≤ (j : Int) := by omega
    have hin : isIn k (ts.map (·.nm)) = true := isIn_yes (List.mem_of_getElem? hjn)
    have HDEL := Lib.hid (del_at HND.out hjn)
    clear hx hjn hjf
    by_cases hN0 : 0 < N
    · have HE := Lib.hid (show rdropErr (ts.map (·.nm)) k N = 15 from by unfold rdropErr; rw [hin, if_pos rfl, if_pos hN0])
      have dN : (0 : Int) < (N : Int) := by omega
      clear hin hN0
      go_wp2_with (go_at_call 35; refine (HUS.out wa HBA.out).mono ?_; rintro ee wb ⟨v', rfl, ho, hbb⟩; obtain ⟨ua, uc, rfl⟩ := owns_shape ho; rw [HN.out]; have HBb := Lib.hid (HBA.out.trans (hbb.mono HBA.out.size)); clear y0 y1 yl v0 v1 vl z0 z1 ho hbb; obtain ⟨y0, y1, yl⟩ := HF.out wb HBb.out; obtain ⟨v0, v1, vl, z0, z1⟩ := HE4.out wb HBb.out; have HBY := Lib.hid (HBW.out.trans (HBb.out.mono HBW.out.size)))
      obtain ⟨hf5, hg5⟩ := ret_box (x := .slice (some ⟨g, 0, none⟩) nt ct) (y := .slice av nv cv) (HF4.out.later HBb.out)
      obtain ⟨W5, hW5⟩ : ∃ W, (wb.setCell ⟨g4, 0, none⟩ (.slice (some ⟨g, 0, none⟩) nt ct)).setCell ⟨g4, 1, none⟩ (.slice av nv cv) = W := ⟨_, rfl⟩
      rw [hW5] at hf5 hg5 ⊢
      have hb5 : Below w.heap.size w W5 := HBY.out.grown hg5 HBY.out.size (fun j e => by cases e; exact HG.out.1)
      have c0 := hf5.cell 0; have c1 := hf5.cell 1; have cl := hf5.lt
      simp only [List.getElem?_cons_zero, List.getElem?_cons_succ] at c0 c1
      rw [HE.out]
      refine bodyPost_ret (v := .tuple #[.agg #[.slice (some ⟨g, 0, none⟩) nt ct, .slice av nv cv], .int .i64 15]) ?_ (by rfl) ?_
      · simp only [results, Try.results9]
        go_simp
      · exact ⟨_, nt, ct, ts, rfl, by rw [if_neg (by decide)], HT.out.later hb5, owns_below HOT.out hb5, hb5⟩
    · obtain rfl : N = 0 := by omega
      have HE := Lib.hid (show rdropErr (ts.map (·.nm)) k 0 = 0 from by unfold rdropErr; rw [hin, if_pos rfl, if_neg (by decide)])
      clear hin hN0
      go_upto_region 6 with (go_at_call 35; refine (HUS.out wa HBA.out).mono ?_; rintro ee wb ⟨v', rfl, ho, hbb⟩; obtain ⟨ua, uc, rfl⟩ := owns_shape ho; rw [HN.out]; have HBb := Lib.hid (HBA.out.trans (hbb.mono HBA.out.size)); clear y0 y1 yl v0 v1 vl z0 z1 ho hbb; have HBY := Lib.hid (HBW.out.trans (HBb.out.mono HBW.out.size)))
      obtain ⟨i0, hi, hz0, hz1, hz2⟩ := info_of infoT
      have hrow := Row.of_owns (owns_below HOT.out HBY.out)
      have HRT := Lib.hid (sub_take hrow j (by omega) ct)
      obtain ⟨A, hA, HRD⟩ : ∃ A : Option Addr, (if ct = j + 1 then some (⟨g, 0, none⟩ : Addr) else some ⟨g, (j + 1) * 3, none⟩) = A ∧ Hid (∀ W, Below wb.heap.size wb W → Row W (.slice A (nt - (j + 1)) (ct - (j + 1))) 3 (nt - (j + 1)) ((tCells ts).drop ((j + 1) * 3))) :=
        ⟨_, rfl, Lib.hid (fun W hb => sub_drop (hrow.later hb) (j + 1) (by omega) (ct - (j + 1)) (if ct = j + 1 then some (⟨g, 0, none⟩ : Addr) else some ⟨g, (j + 1) * 3, none⟩) (fun h => by rw [if_neg (by omega)]; simp))⟩
      have HFb := Lib.hid (fun (W : World) (hb : Below wb.heap.size wb W) => HF.out W (HBb.out.trans (hb.mono HBb.out.size)))
      have hcc : (j : Int) ≤ (ct : Int) := by omega
      have hcd : (j : Int) + 1 ≤ (nt : Int) := by omega
      have hk1 : ((j : Int) + 1).toNat = j + 1 := by omega
      have hw1 : IntKind.i64.wrap ((j : Int) + 1) = (j : Int) + 1 := Go.IntWalk.i64_in _ (by omega)
      have HONE1 := Lib.hid (one_part (oneT ts) (fun u (h : u ∈ (tCells ts).take (j * 3)) => List.mem_of_mem_take h))
      have HONE3 := Lib.hid (one_part (oneT ts) (fun u (h : u ∈ (tCells ts).drop ((j + 1) * 3)) => List.mem_of_mem_drop h))
      have HJN := Lib.hid (And.intro hjl hcap)
      clear hrow
      apply ag.region_chain_tail 12  (ag.Spec.sat (ag.Ch (wb.heap.size) TRt 3 (0) ([])) ag.grew :: ag.Spec.val _ :: ag.Spec.val _ :: ag.Spec.val _ :: ag.Spec.val _ :: ag.Spec.sat (ag.Ch (wb.heap.size) TRt 3 (0 + j) ([] ++ (tCells ts).take (j * 3))) (ag.tk (wb.heap.size) TRt 3 (0)) :: ag.Spec.val _ :: ag.Spec.val _ :: ag.Spec.val _ :: ag.Spec.val _ :: ag.Spec.val _ :: ag.Spec.sat (ag.Ch (wb.heap.size) TRt 3 ((0 + j) + (nt - (j + 1))) (([] ++ (tCells ts).take (j * 3)) ++ (tCells ts).drop ((j + 1) * 3))) (ag.tk (wb.heap.size) TRt 3 ((0 + j))) :: [])
      case hm => kernel_rfl
      case hB => kernel_rfl
      case hlen => rfl
      case hc => exact ⟨.inl rfl, .inr (fun f w w' h => h.1), .inr (fun f w w' h => h.1), trivial⟩
      case hst =>
        simp only [List.take_succ_cons, List.take_zero]
        simp only [ag.Stab, ag.Row2, ag.Ok2, and_true]
        repeat' apply And.intro
        all_goals first
          | exact fun h => absurd rfl h
          | exact fun _ _ f v W W' _ hv _ ht => ag.Ch.lasts v W W' hv ht
          | exact fun _ _ f v W W' _ hv _ ht => ag.Ch.stays hv ht (by omega)
          | trivial
          | exact fun _ h => absurd (h.symm.trans (show _ = true by kernel_rfl)) (by decide)
      simp only [List.take_succ_cons, List.take_zero, List.drop_succ_cons, List.drop_zero]
      refine ag.walk_such (by rfl) (fun W1 hS hE => ?_) (fun y0 => ?_)
      · have hX := hS.size
        clear hE
        unfold ag.does
        go_simp
        exact ⟨ag.Ch.new W1 ([]) (by simp) hX (by decide), (Below.refl _ _).alloc (Nat.le_refl _) _⟩
      simp only [Act.put, List.setIfInBounds_toArray, List.set_cons_zero, List.set_cons_succ]
      apply ag.walk_val
      · rfl
      · intro W1 hS hE
        clear hS hE
        unfold ag.does
        go_simp
        first | done | exact ⟨rfl, rfl⟩ | rfl | (exact ⟨by go_num, rfl⟩) | (simp; done) | trace_state
      simp only [Act.put, List.setIfInBounds_toArray, List.set_cons_zero, List.set_cons_succ]
      apply ag.walk_val
      · rfl
      · intro W1 hS hE
        obtain ⟨y0, y1, yl⟩ := HFb.out W1 hS
        clear hS hE
        unfold ag.does
        go_simp
        first | done | exact ⟨rfl, rfl⟩ | rfl | (exact ⟨by go_num, rfl⟩) | (simp; done) | trace_state
      simp only [Act.put, List.setIfInBounds_toArray, List.set_cons_zero, List.set_cons_succ]
      apply ag.walk_val
      · rfl
      · intro W1 hS hE
        clear hS hE
        unfold ag.does
        go_simp
        first | done | exact ⟨rfl, rfl⟩ | rfl | (exact ⟨by go_num, rfl⟩) | (simp; done) | trace_state
      simp only [Act.put, List.setIfInBounds_toArray, List.set_cons_zero, List.set_cons_succ]
      apply ag.walk_val
      · rfl
      · intro W1 hS hE
        clear hS hE
        unfold ag.does
        go_simp
        first | done | exact ⟨rfl, rfl⟩ | rfl | (exact ⟨by go_num, rfl⟩) | (simp; done) | trace_state
      simp only [Act.put, List.setIfInBounds_toArray, List.set_cons_zero, List.set_cons_succ]
      refine ag.walk_sat (by rfl) (fun W1 hS hE => ?_) (fun y5 => ?_)
      · have own := hE.of 0 (by kernel_rfl)
        simp only [ag.lookE, if_true, Nat.reduceEqDiff, if_false] at own
        clear hE
        have hX := hS.size
        refine ag.does_chain (.tmp 19) (.tmp 23) 26 (by rfl) (wb.heap.size) TRt i0 (.agg #[.string ⟨#[]⟩, .slice none 0 0, .int .i64 0]) 3 48 Try.underlying26 hi hz0 hz1 hz2 rfl (by decide) y0 (0) ([]) (by rfl) own (.slice (some ⟨g, 0, none⟩) j ct) (j) ((tCells ts).take (j * 3)) (by rfl) (HRT.out.later hS) (HONE1.out) (by simp only [maxLen]; omega) (by omega) hX _ _ _
      simp only [Act.put, List.setIfInBounds_toArray, List.set_cons_zero, List.set_cons_succ]
      apply ag.walk_val
      · rfl
      · intro W1 hS hE
        clear hS hE
        unfold ag.does
        go_simp
        first | done | exact ⟨rfl, rfl⟩ | rfl | (exact ⟨by go_num, rfl⟩) | (simp; done) | trace_state
      simp only [Act.put, List.setIfInBounds_toArray, List.set_cons_zero, List.set_cons_succ]
      apply ag.walk_val
      · rfl
      · intro W1 hS hE
        obtain ⟨y0, y1, yl⟩ := HFb.out W1 hS
        clear hS hE
        unfold ag.does
        go_simp
        first | done | exact ⟨rfl, rfl⟩ | rfl | (exact ⟨by go_num, rfl⟩) | (simp; done) | trace_state
      simp only [Act.put, List.setIfInBounds_toArray, List.set_cons_zero, List.set_cons_succ]
      apply ag.walk_val
      · rfl
      · intro W1 hS hE
        clear hS hE
        unfold ag.does
        go_simp
        first | done | exact ⟨rfl, rfl⟩ | rfl | (exact ⟨by go_num, rfl⟩) | (simp; done) | trace_state
      simp only [Act.put, List.setIfInBounds_toArray, List.set_cons_zero, List.set_cons_succ]
      apply ag.walk_val
      · rfl
      · intro W1 hS hE
        clear hS hE
        unfold ag.does
        go_simp
        first | done | exact ⟨rfl, rfl⟩ | rfl | (exact ⟨by go_num, rfl⟩) | (simp; done) | trace_state
      simp only [Act.put, List.setIfInBounds_toArray, List.set_cons_zero, List.set_cons_succ]
      apply ag.walk_val
      · rfl
      · intro W1 hS hE
        clear hS hE
        unfold ag.does
        go_simp
        first | done | exact ⟨rfl, rfl⟩ | rfl | (exact ⟨by go_num, rfl⟩) | (simp; done) | trace_state
      simp only [Act.put, List.setIfInBounds_toArray, List.set_cons_zero, List.set_cons_succ]
      refine ag.walk_sat (by rfl) (fun W1 hS hE => ?_) (fun y11 => ?_)
      · have own := hE.of 5 (by kernel_rfl)
        simp only [ag.lookE, if_true, Nat.reduceEqDiff, if_false] at own
        clear hE
        have hX := hS.size
        refine ag.does_chain (.tmp 24) (.tmp 29) 26 (by rfl) (wb.heap.size) TRt i0 (.agg #[.string ⟨#[]⟩, .slice none 0 0, .int .i64 0]) 3 48 Try.underlying26 hi hz0 hz1 hz2 rfl (by decide) y5 ((0 + j)) (([] ++ (tCells ts).take (j * 3))) (by rfl) own (.slice A (nt - (j + 1)) (ct - (j + 1))) ((nt - (j + 1))) ((tCells ts).drop ((j + 1) * 3)) (by rfl) (HRD.out _ hS) (HONE3.out) (by simp only [maxLen]; omega) (by omega) hX _ _ _
      simp only [Act.put, List.setIfInBounds_toArray, List.set_cons_zero, List.set_cons_succ]
      refine ag.walk_nil (fun w9 hS hF hP => ?_)
      clear hP
      have h11 := hF.of 11
      simp only [ag.lookE, Nat.reduceEqDiff, if_false, if_true] at h11
      obtain ⟨⟨a9, c9, rfl, -⟩, ho⟩ := h11
      obtain ⟨M, hM⟩ : ∃ M, 0 + j + (nt - (j + 1)) = M := ⟨_, rfl⟩
      rw [hM] at ho ⊢
      have hb9 := HBb.out.trans (hS.mono HBb.out.size)
      obtain ⟨y0, y1, yl⟩ := HF.out w9 hb9
      have yz := (HF1.out.later hb9).frozen 0
      have HO := Lib.hid ho
      have HS9 := Lib.hid hb9
      have HWB := Lib.hid (Nat.le_trans HBb.out.size (Nat.le_refl _))
      clear hF hS ho hb9
      go_upto_region 7 with fail
      obtain ⟨W6, hW6⟩ : ∃ W, w9.setCell ⟨g1, 0, none⟩ (.slice a9 M c9) = W := ⟨_, rfl⟩
      have hf61 : Flds W6 g1 TRc [.slice a9 M c9, .slice av nv cv] := by rw [← hW6]; exact (HF1.out.later HS9.out).set 0 _
      have hf64 : Flds W6 g4 TRc [.slice none 0 0, .slice none 0 0] := by rw [← hW6]; exact (HF4.out.later HS9.out).other _ _ HG.out.2.2.2.2
      have hbq : Below w.heap.size w w9 := HBW.out.trans (HS9.out.mono HBW.out.size)
      have hb6 : Below w.heap.size w W6 := by rw [← hW6]; exact hbq.grown (grown_setCell _ _ _) hbq.size (fun j e => by cases e; exact HG.out.2.1)
      have how6 := owns_setCell HO.out ⟨g1, 0, none⟩ (.slice a9 M c9) (fun e => by have h := (HO.out.lt g1 e).1; have h1 := HG.out.2.2.1; have h2 := HWB.out; omega)
      rw [hW6] at how6 ⊢
      have HOW6 := Lib.hid how6
      clear y0 y1 yl yz
      have y0 := hf61.cell 0; have y1 := hf61.cell 1; have yl := hf61.lt
      have v0 := hf64.cell 0; have v1 := hf64.cell 1; have vl := hf64.lt
      have z0 := hf64.frozen 0; have z1 := hf64.frozen 1
      simp only [List.getElem?_cons_zero, List.getElem?_cons_succ] at y0 y1 v0 v1
      have HF64 := Lib.hid hf64
      have HB6 := Lib.hid hb6
      clear hW6 hf61 hf64 hbq hb6 how6
      go_wp2_with fail
      obtain ⟨hf5, hg5⟩ := ret_box (x := .slice a9 M c9) (y := .slice av nv cv) HF64.out
      obtain ⟨W5, hW5⟩ : ∃ W, (W6.setCell ⟨g4, 0, none⟩ (.slice a9 M c9)).setCell ⟨g4, 1, none⟩ (.slice av nv cv) = W := ⟨_, rfl⟩
      rw [hW5] at hf5 hg5 ⊢
      have hb5 : Below w.heap.size w W5 := HB6.out.grown hg5 HB6.out.size (fun j e => by cases e; exact HG.out.1)
      have c0 := hf5.cell 0; have c1 := hf5.cell 1; have cl := hf5.lt
      simp only [List.getElem?_cons_zero, List.getElem?_cons_succ] at c0 c1
      have how5 := owns_setCell (owns_setCell HOW6.out ⟨g4, 0, none⟩ (.slice a9 M c9) (fun e => by have h := (HOW6.out.lt g4 e).1; have h1 := HG.out.2.2.2.1; have h2 := HWB.out; omega)) ⟨g4, 1, none⟩ (.slice av nv cv) (fun e => by have h := (HOW6.out.lt g4 e).1; have h1 := HG.out.2.2.2.1; have h2 := HWB.out; omega)
      rw [hW5] at how5
      rw [HE.out]
      refine bodyPost_ret (v := .tuple #[.agg #[.slice a9 M c9, .slice av nv cv], .int .i64 0]) ?_ (by rfl) ?_
      · simp only [results, Try.results9]
        go_simp
      · have hcs : tCells (ts.take j ++ ts.drop (j + 1)) = [] ++ (tCells ts).take (j * 3) ++ (tCells ts).drop ((j + 1) * 3) := by rw [tCells_app, tCells_take, tCells_drop]; rfl
        rw [← hcs] at how5
        refine ⟨a9, M, c9, ts.take j ++ ts.drop (j + 1), rfl, ?_, ⟨?_, ?_, Row.of_owns how5, fun y hy => ?_⟩, owns_base how5 (fun g hg => Nat.zero_le _), hb5⟩
        · rw [if_pos rfl, ← HDEL.out, List.map_append, List.map_take, List.map_drop]
        · have h1 := HT.out.1; have h2 := HJN.out.1; rw [List.length_append, List.length_take, List.length_drop]; omega
        · have h2 := HJN.out.1; omega
        · have hm : y ∈ ts := by
            rcases List.mem_append.1 hy with h | h
            · exact List.mem_of_mem_take h
            · exact List.mem_of_mem_drop h
          obtain ⟨q1, q2, q3, q4⟩ := HT.out.2.2.2 y hm
          exact ⟨q1, q2, q3, q4.later hb5⟩
  · have HE := Lib.hid (show rdropErr (ts.map (·.nm)) k N = 6 from by unfold rdropErr; rw [isIn_no hno, if_neg (by decide)])
    clear hno
    go_wp2_with fail
    obtain ⟨hf5, hg5⟩ := ret_box (x := .slice at_ nt ct) (y := .slice av nv cv) (HF4.out.later HBA.out)
    obtain ⟨W5, hW5⟩ : ∃ W, (wa.setCell ⟨g4, 0, none⟩ (.slice at_ nt ct)).setCell ⟨g4, 1, none⟩ (.slice av nv cv) = W := ⟨_, rfl⟩
    rw [hW5] at hf5 hg5 ⊢
    have hb5 : Below w.heap.size w W5 := HBX.out.grown hg5 HBX.out.size (fun j e => by cases e; exact HG.out.1)
    have c0 := hf5.cell 0; have c1 := hf5.cell 1; have cl := hf5.lt
    simp only [List.getElem?_cons_zero, List.getElem?_cons_succ] at c0 c1
    rw [HE.out]
    refine bodyPost_ret (v := .tuple #[.agg #[.slice at_ nt ct, .slice av nv cv], .int .i64 6]) ?_ (by rfl) ?_
    · simp only [results, Try.results9]
      go_simp
    · exact ⟨at_, nt, ct, ts, rfl, by rw [if_neg (by decide)], HT.out.later hb5, owns_below HOT.out hb5, hb5⟩
def RDropV (vu : ByteArray → List ByteArray) (ns : List ByteArray) (E : Int) (k : ByteArray) (at_ : Option Addr) (nt ct : Nat) (w : World) (e : Ending) (w' : World) : Prop := ∃ (a : Option Addr) (n c : Nat) (vs : List RV), e = .returned (.tuple #[.agg #[.slice at_ nt ct, .slice a n c], .int .i64 E]) ∧ vs.map (·.nm) = (if E = 0 then delN ns k else ns) ∧ VsAt w' a n c vs vu ∧ w'.ownsRow 0 TRv 2 (.slice a n c) n (vCells vs) ∧ Below w.heap.size w w'
set_option maxRecDepth 100000 in
set_option maxHeartbeats 8000000 in
theorem rdropV_any (at_ av : Option Addr) (nt ct nv cv : Nat) (ts : List TE) (vs : List RV) (tb : ByteArray → List Cn × Int) (vu : ByteArray → List ByteArray) (k : ByteArray) (w : World) (ht : TsAt w at_ nt ct ts tb) (hv : VsAt w av nv cv vs vu) (hot : w.ownsRow 0 TRv 2 (.slice av nv cv) nv (vCells vs)) (hnd : (vs.map (·.nm)).Nodup) :
    Calls Try.prog 13 #[.agg #[.slice at_ nt ct, .slice av nv cv], .string k] w (RDropV vu (vs.map (·.nm)) (rdropErr (vs.map (·.nm)) k 0) k at_ nt ct w) := by
  obtain ⟨W1, hW1⟩ : ∃ W, w.alloc (.cells #[.slice at_ nt ct, .slice av nv cv] TRc) = W := ⟨_, rfl⟩
  obtain ⟨g1, hg1⟩ : ∃ g, w.heap.size = g := ⟨_, rfl⟩
  have hb1 : Below w.heap.size w W1 := by rw [← hW1]; exact (Below.refl _ _).alloc (Nat.le_refl _) _
  have hf1 : Flds W1 g1 TRc [.slice at_ nt ct, .slice av nv cv] := by rw [← hW1, ← hg1]; exact Flds.new w _ _
  obtain ⟨W2, hW2⟩ : ∃ W, W1.alloc (.cells #[.slice none 0 0, .slice none 0 0] TRc) = W := ⟨_, rfl⟩
  obtain ⟨g4, hg4⟩ : ∃ g, W1.heap.size = g := ⟨_, rfl⟩
  have hb2 : Below W1.heap.size W1 W2 := by rw [← hW2]; exact (Below.refl _ _).alloc (Nat.le_refl _) _
  have hf4 : Flds W2 g4 TRc [.slice none 0 0, .slice none 0 0] := by rw [← hW2, ← hg4]; exact Flds.new W1 _ _
  have hf1' := hf1.later hb2
  have hbw : Below w.heap.size w W2 := hb1.trans (hb2.mono hb1.size)
  have HG : Hid (w.heap.size ≤ g4 ∧ w.heap.size ≤ g1 ∧ g1 < W2.heap.size ∧ g4 < W2.heap.size ∧ g4 ≠ g1) := Lib.hid ⟨by rw [← hg4]; exact hb1.size, by omega, hf1'.lt, hf4.lt, by have := hf1.lt; omega⟩
  have HF := Lib.hid (fun (W : World) (hb : Below W2.heap.size W2 W) => And.intro ((hf1'.later hb).cell 0) (And.intro ((hf1'.later hb).cell 1) (hf1'.later hb).lt))
  have HE4 := Lib.hid (fun (W : World) (hb : Below W2.heap.size W2 W) => And.intro ((hf4.later hb).cell 0) (And.intro ((hf4.later hb).cell 1) (And.intro (hf4.later hb).lt (And.intro ((hf4.later hb).frozen 0) ((hf4.later hb).frozen 1)))))
  simp only [List.getElem?_cons_zero, List.getElem?_cons_succ] at HF HE4
  have HF1 := Lib.hid hf1'
  have HF4 := Lib.hid hf4
  have HT := Lib.hid ht
  have HV := Lib.hid hv
  have HOT := Lib.hid hot
  have HND := Lib.hid hnd
  have HBW := Lib.hid hbw
  have hnt := hv.2.1
  have t0 : (0 : Int) ≤ (nv : Int) := by omega
  have t1 : (nv : Int) ≤ 1000 := by omega
  have HFI := Lib.hid (findV_any at_ av nt ct nv cv vs hv.1 (by omega) k W2 (hv.2.2.1.later hbw))
  obtain ⟨y0, y1, yl⟩ := HF.out W2 (Below.refl _ _)
  clear ht hv hot hnd hb1 hf1 hb2 hf4 hf1' hbw
  go_enter Try.func13, Try.ntmps13
  go_upto_region 1 with fail
  try rw [hW1, hg1]
  try rw [hW2, hg4]
  clear hW1 hg1 hW2 hg4
  go_upto_region 2 with (go_at_call 38; refine HFI.out.mono ?_; rintro ee wa ⟨i, rfl, hpl, hba⟩; have HPL := Lib.hid hpl; have HBA := Lib.hid hba; clear hpl hba)
  clear y0 y1 yl
  obtain ⟨y0, y1, yl⟩ := HF.out wa HBA.out
  obtain ⟨v0, v1, vl, z0, z1⟩ := HE4.out wa HBA.out
  have HBX := Lib.hid (HBW.out.trans (HBA.out.mono HBW.out.size))
  rcases HPL.out with ⟨j, rfl, hjn, hjf⟩ | ⟨rfl, hno⟩
  · obtain ⟨x, hx, hxk⟩ : ∃ x, vs[j]? = some x ∧ x.nm = k := by
      rw [List.getElem?_map] at hjn
      cases h : vs[j]? with
      | none => rw [h] at hjn; cases hjn
      | some x => rw [h] at hjn; exact ⟨x, rfl, Option.some.inj hjn⟩
    have hjl : j < nv := by have := (List.getElem?_eq_some_iff.1 hx).1; have := HV.out.1; omega
    obtain ⟨g, rfl, hcap⟩ : ∃ g, av = some ⟨g, 0, none⟩ ∧ nv ≤ cv := by
      rcases HOT.out.2 with ⟨e, h0⟩ | ⟨g, cap, cur, e, -, -, h, -⟩
      · omega
      · simp only [Value.slice.injEq] at e
        exact ⟨g, e.1, by omega⟩
    have j0 : (0 : Int) ≤ (j : Int) := by omega
    have hin : isIn k (vs.map (·.nm)) = true := isIn_yes (List.mem_of_getElem? hjn)
    have HDEL := Lib.hid (del_at HND.out hjn)
    clear hx hjn hjf
    have HE := Lib.hid (show rdropErr (vs.map (·.nm)) k 0 = 0 from by unfold rdropErr; rw [hin, if_pos rfl, if_neg (by decide)])
    have HBb := HBA
    have HBY := HBX
    clear hin y0 y1 yl
    go_upto_region 4 with fail
    obtain ⟨i0, hi, hz0, hz1, hz2⟩ := info_of infoV
    have hrow := Row.of_owns (owns_below HOT.out HBY.out)
    have HRT := Lib.hid (sub_take hrow j (by omega) cv)
    obtain ⟨A, hA, HRD⟩ : ∃ A : Option Addr, (if cv = j + 1 then some (⟨g, 0, none⟩ : Addr) else some ⟨g, (j + 1) * 2, none⟩) = A ∧ Hid (∀ W, Below wa.heap.size wa W → Row W (.slice A (nv - (j + 1)) (cv - (j + 1))) 2 (nv - (j + 1)) ((vCells vs).drop ((j + 1) * 2))) :=
      ⟨_, rfl, Lib.hid (fun W hb => sub_drop (hrow.later hb) (j + 1) (by omega) (cv - (j + 1)) (if cv = j + 1 then some (⟨g, 0, none⟩ : Addr) else some ⟨g, (j + 1) * 2, none⟩) (fun h => by rw [if_neg (by omega)]; simp))⟩
    have HFb := Lib.hid (fun (W : World) (hb : Below wa.heap.size wa W) => HF.out W (HBb.out.trans (hb.mono HBb.out.size)))
    have hcc : (j : Int) ≤ (cv : Int) := by omega
    have hcd : (j : Int) + 1 ≤ (nv : Int) := by omega
    have hk1 : ((j : Int) + 1).toNat = j + 1 := by omega
    have hw1 : IntKind.i64.wrap ((j : Int) + 1) = (j : Int) + 1 := Go.IntWalk.i64_in _ (by omega)
    have HONE1 := Lib.hid (one_part (oneV vs) (fun u (h : u ∈ (vCells vs).take (j * 2)) => List.mem_of_mem_take h))
    have HONE3 := Lib.hid (one_part (oneV vs) (fun u (h : u ∈ (vCells vs).drop ((j + 1) * 2)) => List.mem_of_mem_drop h))
    have HJN := Lib.hid (And.intro hjl hcap)
    clear hrow
    apply ag.region_chain_tail 12  (ag.Spec.sat (ag.Ch (wa.heap.size) TRv 2 (0) ([])) ag.grew :: ag.Spec.val _ :: ag.Spec.val _ :: ag.Spec.val _ :: ag.Spec.val _ :: ag.Spec.sat (ag.Ch (wa.heap.size) TRv 2 (0 + j) ([] ++ (vCells vs).take (j * 2))) (ag.tk (wa.heap.size) TRv 2 (0)) :: ag.Spec.val _ :: ag.Spec.val _ :: ag.Spec.val _ :: ag.Spec.val _ :: ag.Spec.val _ :: ag.Spec.sat (ag.Ch (wa.heap.size) TRv 2 ((0 + j) + (nv - (j + 1))) (([] ++ (vCells vs).take (j * 2)) ++ (vCells vs).drop ((j + 1) * 2))) (ag.tk (wa.heap.size) TRv 2 ((0 + j))) :: [])
    case hm => kernel_rfl
    case hB => kernel_rfl
    case hlen => rfl
    case hc => exact ⟨.inl rfl, .inr (fun f w w' h => h.1), .inr (fun f w w' h => h.1), trivial⟩
    case hst =>
      simp only [List.take_succ_cons, List.take_zero]
      simp only [ag.Stab, ag.Row2, ag.Ok2, and_true]
      repeat' apply And.intro
      all_goals first
        | exact fun h => absurd rfl h
        | exact fun _ _ f v W W' _ hv _ ht => ag.Ch.lasts v W W' hv ht
        | exact fun _ _ f v W W' _ hv _ ht => ag.Ch.stays hv ht (by omega)
        | trivial
        | exact fun _ h => absurd (h.symm.trans (show _ = true by kernel_rfl)) (by decide)
    simp only [List.take_succ_cons, List.take_zero, List.drop_succ_cons, List.drop_zero]
    refine ag.walk_such (by rfl) (fun W1 hS hE => ?_) (fun y0 => ?_)
    · have hX := hS.size
      clear hE
      unfold ag.does
      go_simp
      exact ⟨ag.Ch.new W1 ([]) (by simp) hX (by decide), (Below.refl _ _).alloc (Nat.le_refl _) _⟩
    simp only [Act.put, List.setIfInBounds_toArray, List.set_cons_zero, List.set_cons_succ]
    apply ag.walk_val
    · rfl
    · intro W1 hS hE
      clear hS hE
      unfold ag.does
      go_simp
      first | done | exact ⟨rfl, rfl⟩ | rfl | (exact ⟨by go_num, rfl⟩) | (simp; done) | trace_state
    simp only [Act.put, List.setIfInBounds_toArray, List.set_cons_zero, List.set_cons_succ]
    apply ag.walk_val
    · rfl
    · intro W1 hS hE
      obtain ⟨y0, y1, yl⟩ := HFb.out W1 hS
      clear hS hE
      unfold ag.does
      go_simp
      first | done | exact ⟨rfl, rfl⟩ | rfl | (exact ⟨by go_num, rfl⟩) | (simp; done) | trace_state
    simp only [Act.put, List.setIfInBounds_toArray, List.set_cons_zero, List.set_cons_succ]
    apply ag.walk_val
    · rfl
    · intro W1 hS hE
      clear hS hE
      unfold ag.does
      go_simp
      first | done | exact ⟨rfl, rfl⟩ | rfl | (exact ⟨by go_num, rfl⟩) | (simp; done) | trace_state
    simp only [Act.put, List.setIfInBounds_toArray, List.set_cons_zero, List.set_cons_succ]
    apply ag.walk_val
    · rfl
    · intro W1 hS hE
      clear hS hE
      unfold ag.does
      go_simp
      first | done | exact ⟨rfl, rfl⟩ | rfl | (exact ⟨by go_num, rfl⟩) | (simp; done) | trace_state
    simp only [Act.put, List.setIfInBounds_toArray, List.set_cons_zero, List.set_cons_succ]
    refine ag.walk_sat (by rfl) (fun W1 hS hE => ?_) (fun y5 => ?_)
    · have own := hE.of 0 (by kernel_rfl)
      simp only [ag.lookE, if_true, Nat.reduceEqDiff, if_false] at own
      clear hE
      have hX := hS.size
      refine ag.does_chain (.tmp 13) (.tmp 17) 27 (by rfl) (wa.heap.size) TRv i0 (.agg #[.string ⟨#[]⟩, .slice none 0 0]) 2 40 Try.underlying27 hi hz0 hz1 hz2 rfl (by decide) y0 (0) ([]) (by rfl) own (.slice (some ⟨g, 0, none⟩) j cv) (j) ((vCells vs).take (j * 2)) (by rfl) (HRT.out.later hS) (HONE1.out) (by simp only [maxLen]; omega) (by omega) hX _ _ _
    simp only [Act.put, List.setIfInBounds_toArray, List.set_cons_zero, List.set_cons_succ]
    apply ag.walk_val
    · rfl
    · intro W1 hS hE
      clear hS hE
      unfold ag.does
      go_simp
      first | done | exact ⟨rfl, rfl⟩ | rfl | (exact ⟨by go_num, rfl⟩) | (simp; done) | trace_state
    simp only [Act.put, List.setIfInBounds_toArray, List.set_cons_zero, List.set_cons_succ]
    apply ag.walk_val
    · rfl
    · intro W1 hS hE
      obtain ⟨y0, y1, yl⟩ := HFb.out W1 hS
      clear hS hE
      unfold ag.does
      go_simp
      first | done | exact ⟨rfl, rfl⟩ | rfl | (exact ⟨by go_num, rfl⟩) | (simp; done) | trace_state
    simp only [Act.put, List.setIfInBounds_toArray, List.set_cons_zero, List.set_cons_succ]
    apply ag.walk_val
    · rfl
    · intro W1 hS hE
      clear hS hE
      unfold ag.does
      go_simp
      first | done | exact ⟨rfl, rfl⟩ | rfl | (exact ⟨by go_num, rfl⟩) | (simp; done) | trace_state
    simp only [Act.put, List.setIfInBounds_toArray, List.set_cons_zero, List.set_cons_succ]
    apply ag.walk_val
    · rfl
    · intro W1 hS hE
      clear hS hE
      unfold ag.does
      go_simp
      first | done | exact ⟨rfl, rfl⟩ | rfl | (exact ⟨by go_num, rfl⟩) | (simp; done) | trace_state
    simp only [Act.put, List.setIfInBounds_toArray, List.set_cons_zero, List.set_cons_succ]
    apply ag.walk_val
    · rfl
    · intro W1 hS hE
      clear hS hE
      unfold ag.does
      go_simp
      first | done | exact ⟨rfl, rfl⟩ | rfl | (exact ⟨by go_num, rfl⟩) | (simp; done) | trace_state
    simp only [Act.put, List.setIfInBounds_toArray, List.set_cons_zero, List.set_cons_succ]
    refine ag.walk_sat (by rfl) (fun W1 hS hE => ?_) (fun y11 => ?_)
    · have own := hE.of 5 (by kernel_rfl)
      simp only [ag.lookE, if_true, Nat.reduceEqDiff, if_false] at own
      clear hE
      have hX := hS.size
      refine ag.does_chain (.tmp 18) (.tmp 23) 27 (by rfl) (wa.heap.size) TRv i0 (.agg #[.string ⟨#[]⟩, .slice none 0 0]) 2 40 Try.underlying27 hi hz0 hz1 hz2 rfl (by decide) y5 ((0 + j)) (([] ++ (vCells vs).take (j * 2))) (by rfl) own (.slice A (nv - (j + 1)) (cv - (j + 1))) ((nv - (j + 1))) ((vCells vs).drop ((j + 1) * 2)) (by rfl) (HRD.out _ hS) (HONE3.out) (by simp only [maxLen]; omega) (by omega) hX _ _ _
    simp only [Act.put, List.setIfInBounds_toArray, List.set_cons_zero, List.set_cons_succ]
    refine ag.walk_nil (fun w9 hS hF hP => ?_)
    clear hP
    have h11 := hF.of 11
    simp only [ag.lookE, Nat.reduceEqDiff, if_false, if_true] at h11
    obtain ⟨⟨a9, c9, rfl, -⟩, ho⟩ := h11
    obtain ⟨M, hM⟩ : ∃ M, 0 + j + (nv - (j + 1)) = M := ⟨_, rfl⟩
    rw [hM] at ho ⊢
    have hb9 := HBb.out.trans (hS.mono HBb.out.size)
    obtain ⟨y0, y1, yl⟩ := HF.out w9 hb9
    have yz := (HF1.out.later hb9).frozen 1
    have HO := Lib.hid ho
    have HS9 := Lib.hid hb9
    have HWB := Lib.hid (Nat.le_trans HBb.out.size (Nat.le_refl _))
    clear hF hS ho hb9
    go_upto_region 5 with fail
    obtain ⟨W6, hW6⟩ : ∃ W, w9.setCell ⟨g1, 1, none⟩ (.slice a9 M c9) = W := ⟨_, rfl⟩
    have hf61 : Flds W6 g1 TRc [.slice at_ nt ct, .slice a9 M c9] := by rw [← hW6]; exact (HF1.out.later HS9.out).set 1 _
    have hf64 : Flds W6 g4 TRc [.slice none 0 0, .slice none 0 0] := by rw [← hW6]; exact (HF4.out.later HS9.out).other _ _ HG.out.2.2.2.2
    have hbq : Below w.heap.size w w9 := HBW.out.trans (HS9.out.mono HBW.out.size)
    have hb6 : Below w.heap.size w W6 := by rw [← hW6]; exact hbq.grown (grown_setCell _ _ _) hbq.size (fun j e => by cases e; exact HG.out.2.1)
    have how6 := owns_setCell HO.out ⟨g1, 1, none⟩ (.slice a9 M c9) (fun e => by have h := (HO.out.lt g1 e).1; have h1 := HG.out.2.2.1; have h2 := HWB.out; omega)
    rw [hW6] at how6 ⊢
    have HOW6 := Lib.hid how6
    clear y0 y1 yl yz
    have y0 := hf61.cell 0; have y1 := hf61.cell 1; have yl := hf61.lt
    have v0 := hf64.cell 0; have v1 := hf64.cell 1; have vl := hf64.lt
    have z0 := hf64.frozen 0; have z1 := hf64.frozen 1
    simp only [List.getElem?_cons_zero, List.getElem?_cons_succ] at y0 y1 v0 v1
    have HF64 := Lib.hid hf64
    have HB6 := Lib.hid hb6
    clear hW6 hf61 hf64 hbq hb6 how6
    go_wp2_with fail
    obtain ⟨hf5, hg5⟩ := ret_box (x := .slice at_ nt ct) (y := .slice a9 M c9) HF64.out
    obtain ⟨W5, hW5⟩ : ∃ W, (W6.setCell ⟨g4, 0, none⟩ (.slice at_ nt ct)).setCell ⟨g4, 1, none⟩ (.slice a9 M c9) = W := ⟨_, rfl⟩
    rw [hW5] at hf5 hg5 ⊢
    have hb5 : Below w.heap.size w W5 := HB6.out.grown hg5 HB6.out.size (fun j e => by cases e; exact HG.out.1)
    have c0 := hf5.cell 0; have c1 := hf5.cell 1; have cl := hf5.lt
    simp only [List.getElem?_cons_zero, List.getElem?_cons_succ] at c0 c1
    have how5 := owns_setCell (owns_setCell HOW6.out ⟨g4, 0, none⟩ (.slice at_ nt ct) (fun e => by have h := (HOW6.out.lt g4 e).1; have h1 := HG.out.2.2.2.1; have h2 := HWB.out; omega)) ⟨g4, 1, none⟩ (.slice a9 M c9) (fun e => by have h := (HOW6.out.lt g4 e).1; have h1 := HG.out.2.2.2.1; have h2 := HWB.out; omega)
    rw [hW5] at how5
    rw [HE.out]
    refine bodyPost_ret (v := .tuple #[.agg #[.slice at_ nt ct, .slice a9 M c9], .int .i64 0]) ?_ (by rfl) ?_
    · simp only [results, Try.results13]
      go_simp
    · have hcs : vCells (vs.take j ++ vs.drop (j + 1)) = [] ++ (vCells vs).take (j * 2) ++ (vCells vs).drop ((j + 1) * 2) := by rw [vCells_app, vCells_take, vCells_drop]; rfl
      rw [← hcs] at how5
      refine ⟨a9, M, c9, vs.take j ++ vs.drop (j + 1), rfl, ?_, ⟨?_, ?_, Row.of_owns how5, fun y hy => ?_⟩, owns_base how5 (fun g hg => Nat.zero_le _), hb5⟩
      · rw [if_pos rfl, ← HDEL.out, List.map_append, List.map_take, List.map_drop]
      · have h1 := HV.out.1; have h2 := HJN.out.1; rw [List.length_append, List.length_take, List.length_drop]; omega
      · have h2 := HJN.out.1; omega
      · have hm : y ∈ vs := by
          rcases List.mem_append.1 hy with h | h
          · exact List.mem_of_mem_take h
          · exact List.mem_of_mem_drop h
        obtain ⟨q1, q2, q4⟩ := HV.out.2.2.2 y hm
        exact ⟨q1, q2, q4.later hb5⟩
  · have HE := Lib.hid (show rdropErr (vs.map (·.nm)) k 0 = 6 from by unfold rdropErr; rw [isIn_no hno, if_neg (by decide)])
    clear hno
    go_wp2_with fail
    obtain ⟨hf5, hg5⟩ := ret_box (x := .slice at_ nt ct) (y := .slice av nv cv) (HF4.out.later HBA.out)
    obtain ⟨W5, hW5⟩ : ∃ W, (wa.setCell ⟨g4, 0, none⟩ (.slice at_ nt ct)).setCell ⟨g4, 1, none⟩ (.slice av nv cv) = W := ⟨_, rfl⟩
    rw [hW5] at hf5 hg5 ⊢
    have hb5 : Below w.heap.size w W5 := HBX.out.grown hg5 HBX.out.size (fun j e => by cases e; exact HG.out.1)
    have c0 := hf5.cell 0; have c1 := hf5.cell 1; have cl := hf5.lt
    simp only [List.getElem?_cons_zero, List.getElem?_cons_succ] at c0 c1
    rw [HE.out]
    refine bodyPost_ret (v := .tuple #[.agg #[.slice at_ nt ct, .slice av nv cv], .int .i64 6]) ?_ (by rfl) ?_
    · simp only [results, Try.results13]
      go_simp
    · exact ⟨av, nv, cv, vs, rfl, by rw [if_neg (by decide)], HV.out.later hb5, owns_below HOT.out hb5, hb5⟩
end Go.Proofs.Ythhcjmikkiiahaa.cat
