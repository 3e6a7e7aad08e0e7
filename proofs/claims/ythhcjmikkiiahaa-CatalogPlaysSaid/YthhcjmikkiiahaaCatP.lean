/- The document's catalog: the users of a table, its names; walked. -/
import Derived.Test.YthhcjmikkiiahaaCatO
namespace Go.Proofs.Ythhcjmikkiiahaa.cat
set_option linter.unusedVariables false
open Go.RowKit Go.WideShapes Go.MapKept
/-- the document's views in memory -/
def VsAt (w : World) (av : Option Addr) (nv cv : Nat) (vs : List RV) (vu : ByteArray → List ByteArray) : Prop := vs.length = nv ∧ nv ≤ 1000 ∧ Row w (.slice av nv cv) 2 nv (vCells vs) ∧ ∀ x ∈ vs, x.n = (vu x.nm).length ∧ x.n ≤ 1000000 ∧ Row w (.slice x.a x.n x.c) 1 x.n ((vu x.nm).map Value.string)
/-- the document's tables in memory -/
def TsAt (w : World) (at_ : Option Addr) (nt ct : Nat) (ts : List TE) (tb : ByteArray → List Cn × Int) : Prop := ts.length = nt ∧ nt ≤ 1000 ∧ Row w (.slice at_ nt ct) 3 nt (tCells ts) ∧ ∀ x ∈ ts, x.n = (tb x.nm).1.length ∧ x.k = (tb x.nm).2 ∧ x.n ≤ 1000000 ∧ Row w (.slice x.a x.n x.c) 3 x.n (cnCells (tb x.nm).1)
theorem VsAt.later {w w' : World} {av : Option Addr} {nv cv : Nat} {vs : List RV} {vu : ByteArray → List ByteArray} (h : VsAt w av nv cv vs vu) (hb : Below w.heap.size w w') : VsAt w' av nv cv vs vu :=
  ⟨h.1, h.2.1, h.2.2.1.later hb, fun x hx => ⟨(h.2.2.2 x hx).1, (h.2.2.2 x hx).2.1, (h.2.2.2 x hx).2.2.later hb⟩⟩
theorem TsAt.later {w w' : World} {at_ : Option Addr} {nt ct : Nat} {ts : List TE} {tb : ByteArray → List Cn × Int} (h : TsAt w at_ nt ct ts tb) (hb : Below w.heap.size w w') : TsAt w' at_ nt ct ts tb :=
  ⟨h.1, h.2.1, h.2.2.1.later hb, fun x hx => ⟨(h.2.2.2 x hx).1, (h.2.2.2 x hx).2.1, (h.2.2.2 x hx).2.2.1, (h.2.2.2 x hx).2.2.2.later hb⟩⟩
theorem fold_len (l : List ByteArray) : (l.foldl insB []).length = l.length := by
  have := (fold_ins l [] List.Pairwise.nil).2.length_eq
  simpa using this
theorem fold_add (l : List ByteArray) (x : ByteArray) : (l ++ [x]).foldl insB [] = insB (l.foldl insB []) x := by rw [List.foldl_append]; rfl
/-- the names of the views that use a table -/
def usedBy (vs : List RV) (vu : ByteArray → List ByteArray) (k : ByteArray) : List ByteArray := (vs.map (·.nm)).filter (fun s => isIn k (vu s))
theorem usedBy_add {vs : List RV} {vu : ByteArray → List ByteArray} {k : ByteArray} {j : Nat} {x : RV} (hx : vs[j]? = some x) : usedBy (vs.take (j + 1)) vu k = usedBy (vs.take j) vu k ++ (if isIn k (vu x.nm) then [x.nm] else []) := by
  unfold usedBy
  rw [List.take_add_one, hx, List.map_append, List.filter_append]
  congr 1
  simp [List.filter_cons]
theorem usedBy_len (vs : List RV) (vu : ByteArray → List ByteArray) (k : ByteArray) (j : Nat) : (usedBy (vs.take j) vu k).length ≤ j := by
  unfold usedBy
  refine Nat.le_trans (List.length_filter_le _ _) ?_
  rw [List.length_map, List.length_take]; omega
theorem names_add {α : Type} {ts : List α} {f : α → ByteArray} {j : Nat} {x : α} (hx : ts[j]? = some x) : (ts.take (j + 1)).map f = (ts.take j).map f ++ [f x] := by
  rw [List.take_add_one, hx, List.map_append]; rfl
set_option maxRecDepth 100000 in
set_option maxHeartbeats 4000000 in
theorem rusers_any (at_ av : Option Addr) (nt ct nv cv : Nat) (vs : List RV) (vu : ByteArray → List ByteArray) (k : ByteArray) (w : World) (hr : VsAt w av nv cv vs vu) :
    Calls Try.prog 35 #[.agg #[.slice at_ nt ct, .slice av nv cv], .string k] w (InsPost ((usedBy vs vu k).foldl insB []) w) := by
  obtain ⟨W1, hW1⟩ : ∃ W, w.alloc (.cells #[.slice at_ nt ct, .slice av nv cv] TRc) = W := ⟨_, rfl⟩
  obtain ⟨g1, hg1⟩ : ∃ g, w.heap.size = g := ⟨_, rfl⟩
  have hb1 : Below w.heap.size w W1 := by rw [← hW1]; exact (Below.refl _ _).alloc (Nat.le_refl _) _
  have hf1 : Flds W1 g1 TRc [.slice at_ nt ct, .slice av nv cv] := by rw [← hW1, ← hg1]; exact Flds.new w _ _
  have HF := Lib.hid (fun (W : World) (hb : Below W1.heap.size W1 W) => And.intro ((hf1.later hb).cell 0) (And.intro ((hf1.later hb).cell 1) (hf1.later hb).lt))
  simp only [List.getElem?_cons_zero, List.getElem?_cons_succ] at HF
  have HV := Lib.hid (hr.later hb1)
  have HB1 := Lib.hid hb1
  have hnv := hr.2.1
  have n0 : (0 : Int) ≤ (nv : Int) := by omega
  have n1 : (nv : Int) ≤ 1000 := by omega
  clear hr hb1 hf1
  go_enter Try.func35, Try.ntmps35
  go_upto_region 1 with fail
  try rw [hW1, hg1]
  clear hW1 hg1
  go_wp2_with fail
  go_loopw [5, 6] (fun ov iv wr => ∃ j : Nat, iv = .int .i64 (j : Int) ∧ j ≤ nv ∧ Hid (Below W1.heap.size W1 wr) ∧ Hid (wr.ownsRow 0 TK 1 ov ((usedBy (vs.take j) vu k).foldl insB []).length (((usedBy (vs.take j) vu k).foldl insB []).map Value.string))) (fun _ iv _ => nv - (intOf iv).toNat)
  case atStart => exact ⟨0, rfl, Nat.zero_le _, Lib.hid (Below.refl _ _), Lib.hid ⟨rfl, .inl ⟨rfl, rfl⟩⟩⟩
  case round =>
    obtain ⟨j, rfl, hj, HB, HO⟩ := hrel
    have j0 : (0 : Int) ≤ (j : Int) := by omega
    obtain ⟨y0, y1, yl⟩ := HF.out wr HB.out
    obtain ⟨L, hL⟩ : ∃ L, (usedBy (vs.take j) vu k).foldl insB [] = L := ⟨_, rfl⟩
    rw [hL] at HO
    have hLl : L.length ≤ 100000 := by rw [← hL, fold_len]; have := usedBy_len vs vu k j; omega
    by_cases hjn : j < nv
    · have dj : (j : Int) < (nv : Int) := by omega
      have hju : j < vs.length := by rw [HV.out.1]; exact hjn
      have hx := List.getElem?_eq_getElem hju
      generalize vs[j] = x at hx
      obtain ⟨b, off, rfl, hc⟩ := rv_at HV.out.2.2.1 hjn hx
      obtain ⟨c0, c1, cl⟩ := hc wr HB.out
      obtain ⟨u1, u2, u3⟩ := HV.out.2.2.2 x (List.mem_of_getElem? hx)
      have hadd := usedBy_add (vu := vu) (k := k) hx
      have HUS := Lib.hid (ruses_any x.nm x.a x.n x.c (vu x.nm) u1.symm u2 k wr (u3.later HB.out))
      have HIN := Lib.hid (fun (W : World) (hb : Below wr.heap.size wr W) => insert_any _ L hLl x.nm W (owns_below HO.out hb))
      cases hq : isIn k (vu x.nm) with
      | true =>
        rw [hq, if_pos rfl] at hadd
        have HA := Lib.hid (show (usedBy (vs.take (j + 1)) vu k).foldl insB [] = insB L x.nm from by rw [hadd, fold_add, hL])
        rw [hq] at HUS
        have HCD := Lib.hid hc
        clear hc hx u1 u2 u3 hadd hL
        obtain ⟨xn, xa, xl, xc⟩ := x
        dsimp only at c0 c1 HUS HIN HA HCD
        go_wp2_with (first
          | (go_at_call 67; refine HUS.out.mono ?_; rintro ee wa ⟨rfl, hba⟩; have HBa := Lib.hid hba; obtain ⟨d0, d1, dl⟩ := HCD.out wa (HB.out.trans (hba.mono HB.out.size)); obtain ⟨z0, z1, zl⟩ := HF.out wa (HB.out.trans (hba.mono HB.out.size)); clear hba)
          | (go_at_call 68; refine (HIN.out _ HBa.out).mono ?_; rintro ee wb ⟨v', rfl, ho, hbb⟩; have HOb := Lib.hid ho; have HBb := Lib.hid ((HB.out.trans (HBa.out.mono HB.out.size)).trans (hbb.mono (Nat.le_trans HB.out.size HBa.out.size))); clear ho hbb))
        go_roundw
        case rel => exact ⟨j + 1, by go_num, by omega, HBb, by rw [HA.out]; exact HOb⟩
        case measure => simp [intOf]; omega
      | false =>
        rw [hq, if_neg (by decide), List.append_nil] at hadd
        have HA := Lib.hid (show (usedBy (vs.take (j + 1)) vu k).foldl insB [] = L from by rw [hadd, hL])
        rw [hq] at HUS
        clear hc hx u1 u2 u3 hadd hL
        obtain ⟨xn, xa, xl, xc⟩ := x
        dsimp only at c0 c1 HUS HIN HA
        go_wp2_with (go_at_call 67; refine HUS.out.mono ?_; rintro ee wa ⟨rfl, hba⟩; have HOa := Lib.hid (owns_below HO.out hba); have HBa := Lib.hid (HB.out.trans (hba.mono HB.out.size)); clear hba)
        go_roundw
        case rel => exact ⟨j + 1, by go_num, by omega, HBa, by rw [HA.out]; exact HOa⟩
        case measure => simp [intOf]; omega
    · have dj : ¬ (j : Int) < (nv : Int) := by omega
      have HA := Lib.hid (show (usedBy vs vu k).foldl insB [] = L from by rw [← hL, List.take_of_length_le (by rw [HV.out.1]; omega)])
      clear hjn hL
      go_wp2_with fail
      go_ret
      rw [HA.out]
      exact ⟨_, rfl, HO.out, HB1.out.trans (HB.out.mono HB1.out.size)⟩
def NamesPost (ts : List TE) (vs : List RV) (w : World) (e : Ending) (w' : World) : Prop := ∃ va vb, e = .returned (.tuple #[va, vb]) ∧ w'.ownsRow 0 TK 1 va ts.length (((ts.map (·.nm)).foldl insB []).map Value.string) ∧ w'.ownsRow 0 TK 1 vb vs.length (((vs.map (·.nm)).foldl insB []).map Value.string) ∧ Below w.heap.size w w'
set_option maxRecDepth 100000 in
set_option maxHeartbeats 4000000 in
theorem rnames_any (at_ av : Option Addr) (nt ct nv cv : Nat) (ts : List TE) (vs : List RV) (tb : ByteArray → List Cn × Int) (vu : ByteArray → List ByteArray) (w : World) (ht : TsAt w at_ nt ct ts tb) (hr : VsAt w av nv cv vs vu) :
    Calls Try.prog 43 #[.agg #[.slice at_ nt ct, .slice av nv cv]] w (NamesPost ts vs w) := by
  obtain ⟨W1, hW1⟩ : ∃ W, w.alloc (.cells #[.slice at_ nt ct, .slice av nv cv] TRc) = W := ⟨_, rfl⟩
  obtain ⟨g1, hg1⟩ : ∃ g, w.heap.size = g := ⟨_, rfl⟩
  have hb1 : Below w.heap.size w W1 := by rw [← hW1]; exact (Below.refl _ _).alloc (Nat.le_refl _) _
  have hf1 : Flds W1 g1 TRc [.slice at_ nt ct, .slice av nv cv] := by rw [← hW1, ← hg1]; exact Flds.new w _ _
  have HF := Lib.hid (fun (W : World) (hb : Below W1.heap.size W1 W) => And.intro ((hf1.later hb).cell 0) (And.intro ((hf1.later hb).cell 1) (hf1.later hb).lt))
  simp only [List.getElem?_cons_zero, List.getElem?_cons_succ] at HF
  have HT := Lib.hid (ht.later hb1)
  have HV := Lib.hid (hr.later hb1)
  have HB1 := Lib.hid hb1
  have hnt := ht.2.1
  have hnv := hr.2.1
  have t0 : (0 : Int) ≤ (nt : Int) := by omega
  have t1 : (nt : Int) ≤ 1000 := by omega
  have n0 : (0 : Int) ≤ (nv : Int) := by omega
  have n1 : (nv : Int) ≤ 1000 := by omega
  clear hr ht hb1 hf1
  go_enter Try.func43, Try.ntmps43
  go_upto_region 1 with fail
  try rw [hW1, hg1]
  clear hW1 hg1
  go_wp2_with fail
  go_loopw [4, 6] (fun ov iv wr => ∃ j : Nat, iv = .int .i64 (j : Int) ∧ j ≤ nt ∧ Hid (Below W1.heap.size W1 wr) ∧ Hid (wr.ownsRow 0 TK 1 ov (((ts.take j).map (·.nm)).foldl insB []).length ((((ts.take j).map (·.nm)).foldl insB []).map Value.string))) (fun _ iv _ => nt - (intOf iv).toNat)
  case atStart => exact ⟨0, rfl, Nat.zero_le _, Lib.hid (Below.refl _ _), Lib.hid ⟨rfl, .inl ⟨rfl, rfl⟩⟩⟩
  case round =>
    obtain ⟨j, rfl, hj, HB, HO⟩ := hrel
    have j0 : (0 : Int) ≤ (j : Int) := by omega
    obtain ⟨y0, y1, yl⟩ := HF.out wr HB.out
    obtain ⟨L, hL⟩ : ∃ L, ((ts.take j).map (·.nm)).foldl insB [] = L := ⟨_, rfl⟩
    rw [hL] at HO
    have hLl : L.length ≤ 100000 := by rw [← hL, fold_len, List.length_map, List.length_take]; omega
    by_cases hjn : j < nt
    · have dj : (j : Int) < (nt : Int) := by omega
      have hju : j < ts.length := by rw [HT.out.1]; exact hjn
      have hx := List.getElem?_eq_getElem hju
      generalize ts[j] = x at hx
      obtain ⟨b, off, rfl, hc⟩ := te_at HT.out.2.2.1 hjn hx
      obtain ⟨c0, c1, c2, cl⟩ := hc wr HB.out
      have hadd := names_add (f := fun y : TE => y.nm) hx
      have HIN := Lib.hid (insert_any _ L hLl x.nm wr HO.out)
      have HA := Lib.hid (show ((ts.take (j + 1)).map (·.nm)).foldl insB [] = insB L x.nm from by rw [hadd, fold_add, hL])
      clear hc hx hadd hL
      obtain ⟨xn, xa, xl, xc, xk⟩ := x
      dsimp only at c0 c1 c2 HIN HA
      go_wp2_with (go_at_call 68; refine HIN.out.mono ?_; rintro ee wb ⟨v', rfl, ho, hbb⟩; have HOb := Lib.hid ho; have HBb := Lib.hid (HB.out.trans (hbb.mono HB.out.size)); clear ho hbb)
      go_roundw
      case rel => exact ⟨j + 1, by go_num, by omega, HBb, by rw [HA.out]; exact HOb⟩
      case measure => simp [intOf]; omega
    · have dj : ¬ (j : Int) < (nt : Int) := by omega
      have HA := Lib.hid (show (ts.map (·.nm)).foldl insB [] = L from by rw [← hL, List.take_of_length_le (by rw [HT.out.1]; omega)])
      have HL := Lib.hid (show L.length = ts.length from by rw [← HA.out, fold_len, List.length_map])
      clear hjn hL
      go_wp2_with fail
      go_loopw [5, 7] (fun ov iv wq => ∃ i : Nat, iv = .int .i64 (i : Int) ∧ i ≤ nv ∧ Hid (Below wr.heap.size wr wq) ∧ Hid (wq.ownsRow 0 TK 1 ov (((vs.take i).map (·.nm)).foldl insB []).length ((((vs.take i).map (·.nm)).foldl insB []).map Value.string))) (fun _ iv _ => nv - (intOf iv).toNat)
      case atStart => exact ⟨0, rfl, Nat.zero_le _, Lib.hid (Below.refl _ _), Lib.hid ⟨rfl, .inl ⟨rfl, rfl⟩⟩⟩
      case round =>
        rename_i wq _ _
        obtain ⟨i, rfl, hi, HBQ, HP⟩ := hrel
        have i0 : (0 : Int) ≤ (i : Int) := by omega
        have HB2 := Lib.hid (HB.out.trans (HBQ.out.mono HB.out.size))
        clear y0 y1 yl
        obtain ⟨y0, y1, yl⟩ := HF.out _ HB2.out
        obtain ⟨M, hM⟩ : ∃ M, ((vs.take i).map (·.nm)).foldl insB [] = M := ⟨_, rfl⟩
        rw [hM] at HP
        have hMl : M.length ≤ 100000 := by rw [← hM, fold_len, List.length_map, List.length_take]; omega
        by_cases hin : i < nv
        · have di : (i : Int) < (nv : Int) := by omega
          have hju : i < vs.length := by rw [HV.out.1]; exact hin
          have hx := List.getElem?_eq_getElem hju
          generalize vs[i] = x at hx
          obtain ⟨b, off, rfl, hc⟩ := rv_at HV.out.2.2.1 hin hx
          obtain ⟨c0, c1, cl⟩ := hc _ HB2.out
          have hadd := names_add (f := fun y : RV => y.nm) hx
          have HIN := Lib.hid (insert_any _ M hMl x.nm _ HP.out)
          have HA2 := Lib.hid (show ((vs.take (i + 1)).map (·.nm)).foldl insB [] = insB M x.nm from by rw [hadd, fold_add, hM])
          clear hc hx hadd hM
          obtain ⟨xn, xa, xl, xc⟩ := x
          dsimp only at c0 c1 HIN HA2
          go_wp2_with (go_at_call 68; refine HIN.out.mono ?_; rintro ee wb ⟨v', rfl, ho, hbb⟩; have HOb := Lib.hid ho; have HBb := Lib.hid (HBQ.out.trans (hbb.mono HBQ.out.size)); clear ho hbb)
          go_roundw
          case rel => exact ⟨i + 1, by go_num, by omega, HBb, by rw [HA2.out]; exact HOb⟩
          case measure => simp [intOf]; omega
        · have di : ¬ (i : Int) < (nv : Int) := by omega
          have HA2 := Lib.hid (show (vs.map (·.nm)).foldl insB [] = M from by rw [← hM, List.take_of_length_le (by rw [HV.out.1]; omega)])
          have HL2 := Lib.hid (show M.length = vs.length from by rw [← HA2.out, fold_len, List.length_map])
          clear hin hM
          go_wp2_with fail
          refine bodyPost_ret (results_tmp2 rfl _ _ _) rfl ?_
          refine ⟨_, _, rfl, ?_, ?_, HB1.out.trans (HB2.out.mono HB1.out.size)⟩
          · rw [HA.out, ← HL.out]; exact owns_below HO.out HBQ.out
          · rw [HA2.out, ← HL2.out]; exact HP.out
end Go.Proofs.Ythhcjmikkiiahaa.cat
