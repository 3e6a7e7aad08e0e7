/- The document's catalog: a table is made; walked. -/
import Derived.Test.YthhcjmikkiiahaaCatR
namespace Go.Proofs.Ythhcjmikkiiahaa.cat
set_option linter.unusedVariables false
open Go.RowKit Go.WideShapes Go.MapKept
noncomputable def rmakeErr (tn vn : List ByteArray) (k : ByteArray) (l : List Cn) : Int := if isIn k tn || isIn k vn then 7 else if 8 ≤ tn.length then 14 else checkE l
def RMake (tb : ByteArray → List Cn × Int) (ns : List ByteArray) (E : Int) (k : ByteArray) (l : List Cn) (av : Option Addr) (nv cv : Nat) (w : World) (e : Ending) (w' : World) : Prop := ∃ (a : Option Addr) (n c : Nat) (ts : List TE), e = .returned (.tuple #[.agg #[.slice a n c, .slice av nv cv], .int .i64 E]) ∧ ts.map (·.nm) = (if E = 0 then ns ++ [k] else ns) ∧ TsAt w' a n c ts (if E = 0 then upd tb k (l, keyFrom l 0) else tb) ∧ w'.ownsRow 0 TRt 3 (.slice a n c) n (tCells ts) ∧ Below w.heap.size w w'
/-- the place of the key, if there is one alone -/
def KeyAt (l : List Cn) (j : Nat) (ky : Int) : Prop := ∀ (i : Nat) (x : Cn), i < j → l[i]? = some x → x.key = true → keysN (l.take j) = 1 → ky = (i : Int)
theorem keysN_add {l : List Cn} {j : Nat} {x : Cn} (hx : l[j]? = some x) : keysN (l.take (j + 1)) = keysN (l.take j) + (if x.key then 1 else 0) := by
  unfold keysN
  rw [List.take_add_one, hx, List.filter_append, List.length_append]
  obtain ⟨xn, xk, xb⟩ := x
  cases xb <;> rfl
theorem keysN_zero {l : List Cn} {j i : Nat} {x : Cn} (h : keysN (l.take j) = 0) (hi : i < j) (hx : l[i]? = some x) : x.key = false := by
  unfold keysN at h
  have h2 := List.filter_eq_nil_iff.1 (List.length_eq_zero_iff.1 h) x (List.mem_of_getElem? (i := i) (by rw [List.getElem?_take_of_lt hi]; exact hx))
  simpa using h2
theorem KeyAt.step {l : List Cn} {j : Nat} {ky : Int} {x : Cn} (h : KeyAt l j ky) (hx : l[j]? = some x) : KeyAt l (j + 1) (if x.key then (j : Int) else ky) := by
  intro i y hi hy hyk h1
  rw [keysN_add hx] at h1
  rcases (by omega : i < j ∨ i = j) with hij | rfl
  · cases hk : x.key with
    | true =>
      rw [hk, if_pos rfl] at h1
      have := keysN_zero (by omega) hij hy
      rw [this] at hyk; cases hyk
    | false =>
      rw [hk, if_neg (by decide)] at h1
      rw [if_neg (by decide)]
      exact h i y hij hy hyk (by omega)
  · rw [hx] at hy; cases hy
    rw [hyk, if_pos rfl]
theorem keyFrom_at : ∀ (l : List Cn) (s : Nat), 0 < keysN l → ∃ (i : Nat) (x : Cn), l[i]? = some x ∧ x.key = true ∧ keyFrom l s = ((s + i : Nat) : Int)
  | [], s, h => by simp [keysN] at h
  | y :: l, s, h => by
    cases hk : y.key with
    | true => exact ⟨0, y, rfl, hk, by unfold keyFrom; simp [hk]⟩
    | false =>
      have h2 : 0 < keysN l := by unfold keysN at h ⊢; rw [List.filter_cons, if_neg (by simp [hk])] at h; exact h
      obtain ⟨i, x, hx, hxk, e⟩ := keyFrom_at l (s + 1) h2
      exact ⟨i + 1, x, by simpa using hx, hxk, by unfold keyFrom; simp [hk]; rw [e]; omega⟩
theorem KeyAt.done {l : List Cn} {ky : Int} (h : KeyAt l l.length ky) (h1 : keysN l = 1) : ky = keyFrom l 0 := by
  obtain ⟨i, x, hx, hxk, e⟩ := keyFrom_at l 0 (by omega)
  rw [e, Nat.zero_add]
  exact h i x (List.getElem?_eq_some_iff.1 hx).1 hx hxk (by rw [List.take_length]; exact h1)
theorem info17 : (Try.prog.info? 53).map (fun i => (i.zero, i.size, i.bytes)) = some (some (.agg #[.string ⟨#[]⟩, .int .i64 0, .bool false]), 3, 32) := by kernel_rfl
theorem oneC (l : List Cn) : ∀ u ∈ cnCells l, u.oneCell' = true := by
  intro u hu
  unfold cnCells at hu
  obtain ⟨x, -, hx⟩ := List.mem_flatMap.1 hu
  simp only [List.mem_cons, List.not_mem_nil, or_false] at hx
  rcases hx with rfl | rfl | rfl <;> rfl
theorem own_new (w : World) (T : TypeId) (size : Nat) : (w.alloc (.cells #[] T)).ownsRow w.heap.size T size (.slice (some ⟨w.heap.size, 0, none⟩) 0 0) 0 [] := owns_of_flds (Flds.new w T []) (by simp) (Nat.le_refl _) (by simp [maxLen])
theorem app_new {w w' : World} {T : TypeId} {size n c : Nat} {xs : List Value} {a : Option Addr} (hap : Appended w.heap.size T size (.slice (some ⟨w.heap.size, 0, none⟩) 0 0) 0 n [] xs (w.alloc (.cells #[] T)) (.slice a (0 + n) c) w') : Below w.heap.size w w' ∧ w'.ownsRow w.heap.size T size (.slice a n c) n xs := by
  have ho := hap.own
  rw [Nat.zero_add, List.nil_append] at ho
  exact ⟨((Below.refl w.heap.size w).alloc (Nat.le_refl _) _).grown hap.grown (by rw [World.size_alloc]; omega) (fun k e => by simp [Value.ownBlock] at e; omega), ho⟩
set_option maxRecDepth 100000 in
set_option maxHeartbeats 16000000 in
theorem rmake_any (at_ av : Option Addr) (nt ct nv cv : Nat) (ts : List TE) (vs : List RV) (tb : ByteArray → List Cn × Int) (vu : ByteArray → List ByteArray) (k : ByteArray) (la : Option Addr) (ln lc : Nat) (l : List Cn) (hln : l.length = ln) (hl1 : ln ≤ 1000000) (w : World) (hrl : Row w (.slice la ln lc) 3 ln (cnCells l)) (ht : TsAt w at_ nt ct ts tb) (hv : VsAt w av nv cv vs vu) (hot : w.ownsRow 0 TRt 3 (.slice at_ nt ct) nt (tCells ts)) :
    Calls Try.prog 17 #[.agg #[.slice at_ nt ct, .slice av nv cv], .string k, .slice la ln lc] w (RMake tb (ts.map (·.nm)) (rmakeErr (ts.map (·.nm)) (vs.map (·.nm)) k l) k l av nv cv w) := by
  obtain ⟨W1, hW1⟩ : ∃ W, w.alloc (.cells #[.slice at_ nt ct, .slice av nv cv] TRc) = W := ⟨_, rfl⟩
  obtain ⟨g1, hg1⟩ : ∃ g, w.heap.size = g := ⟨_, rfl⟩
  have hb1 : Below w.heap.size w W1 := by rw [← hW1]; exact (Below.refl _ _).alloc (Nat.le_refl _) _
  have hf1 : Flds W1 g1 TRc [.slice at_ nt ct, .slice av nv cv] := by rw [← hW1, ← hg1]; exact Flds.new w _ _
  obtain ⟨W2, hW2⟩ : ∃ W, W1.alloc (.cells #[.slice none 0 0, .slice none 0 0] TRc) = W := ⟨_, rfl⟩
  obtain ⟨g4, hg4⟩ : ∃ g, W1.heap.size = g := ⟨_, rfl⟩
  have hb2 : Below W1.heap.size W1 W2 := by rw [← hW2]; exact (Below.refl _ _).alloc (Nat.le_refl _) _
  have hf4 : Flds W2 g4 TRc [.slice none 0 0, .slice none 0 0] := by rw [← hW2, ← hg4]; exact Flds.new W1 _ _
  have hf1' := hf1.later hb2
  have hbw : Below w.heap.size w W2 := hb1.trans (hb2.mono hb1.size)
  have HG : Hid (w.heap.size ≤ g4 ∧ w.heap.size ≤ g1 ∧ g1 < W2.heap.size ∧ g4 < W2.heap.size ∧ g4 ≠ g1) := Lib.hid ⟨by rw [← hg4]; exact hb1.size, by omega, hf1'.lt, hf4.lt, by have := hf1.lt; omega⟩
  have HF := Lib.hid (fun (W : World) (hb : Below W2.heap.size W2 W) => And.intro ((hf1'.later hb).cell 0) (And.intro ((hf1'.later hb).cell 1) (hf1'.later hb).lt))
  have HE4 := Lib.hid (fun (W : World) (hb : Below W2.heap.size W2 W) => And.intro ((hf4.later hb).cell 0) (And.intro ((hf4.later hb).cell 1) (And.intro (hf4.later hb).lt (And.intro ((hf4.later hb).frozen 0) ((hf4.later hb).frozen 1)))))
  simp only [List.getElem?_cons_zero, List.getElem?_cons_succ] at HF HE4
  have HF1 := Lib.hid hf1'
  have HF4 := Lib.hid hf4
  have HT := Lib.hid ht
  have HV := Lib.hid hv
  have HOT := Lib.hid hot
  have HRL := Lib.hid (hrl.later hbw)
  have HLN := Lib.hid hln
  have HBW := Lib.hid hbw
  have hnt := ht.2.1
  have t0 : (0 : Int) ≤ (nt : Int) := by omega
  have t1 : (nt : Int) ≤ 1000 := by omega
  have s0 : (0 : Int) ≤ (ln : Int) := by omega
  have s1 : (ln : Int) ≤ 1000000 := by omega
  have HFI := Lib.hid (find_any at_ av nt ct nv cv ts ht.1 (by omega) k W2 (ht.2.2.1.later hbw))
  have HFV := Lib.hid (fun (W : World) (hb : Below W2.heap.size W2 W) => findV_any at_ av nt ct nv cv vs hv.1 (by have := hv.2.1; omega) k W (hv.2.2.1.later (hbw.trans (hb.mono hbw.size))))
  obtain ⟨tn, htn⟩ : ∃ l, ts.map (·.nm) = l := ⟨_, rfl⟩
  obtain ⟨vn, hvn⟩ : ∃ l, vs.map (·.nm) = l := ⟨_, rfl⟩
  rw [htn] at HFI ⊢
  rw [hvn] at HFV ⊢
  have HTN := Lib.hid htn
  have HTL := Lib.hid (show tn.length = nt from by rw [← htn, List.length_map]; exact ht.1)
  obtain ⟨y0, y1, yl⟩ := HF.out W2 (Below.refl _ _)
  obtain ⟨v0, v1, vl, z0, z1⟩ := HE4.out W2 (Below.refl _ _)
  clear ht hv hot hrl hln hb1 hf1 hb2 hf4 hf1' hbw htn hvn
  go_enter Try.func17, Try.ntmps17
  go_upto_region 1 with fail
  try rw [hW1, hg1]
  try rw [hW2, hg4]
  clear hW1 hg1 hW2 hg4
  cases hA : isIn k tn with
  | true =>
    have HE := Lib.hid (show rmakeErr tn vn k l = 7 from by unfold rmakeErr; rw [hA]; rfl)
    go_wp2_with (go_at_call 34; refine HFI.out.mono ?_; rintro ee wa ⟨i, rfl, hpl, hba⟩; have hpi := place_in hpl; rw [hA] at hpi; have HBA := Lib.hid hba; have HBX := Lib.hid (HBW.out.trans (hba.mono HBW.out.size)); clear hpl hba y0 y1 yl v0 v1 vl z0 z1; obtain ⟨y0, y1, yl⟩ := HF.out wa HBA.out; obtain ⟨v0, v1, vl, z0, z1⟩ := HE4.out wa HBA.out)
    obtain ⟨hf5, hg5⟩ := ret_box (x := .slice at_ nt ct) (y := .slice av nv cv) (HF4.out.later HBA.out)
    obtain ⟨W5, hW5⟩ : ∃ W, (wa.setCell ⟨g4, 0, none⟩ (.slice at_ nt ct)).setCell ⟨g4, 1, none⟩ (.slice av nv cv) = W := ⟨_, rfl⟩
    rw [hW5] at hf5 hg5 ⊢
    have hb5 : Below w.heap.size w W5 := HBX.out.grown hg5 HBX.out.size (fun j e => by cases e; exact HG.out.1)
    have c0 := hf5.cell 0; have c1 := hf5.cell 1; have cl := hf5.lt
    simp only [List.getElem?_cons_zero, List.getElem?_cons_succ] at c0 c1
    rw [HE.out]
    refine bodyPost_ret (v := .tuple #[.agg #[.slice at_ nt ct, .slice av nv cv], .int .i64 7]) ?_ (by rfl) ?_
    · simp only [results, Try.results17]
      go_simp
    · exact ⟨at_, nt, ct, ts, rfl, by rw [if_neg (by decide)]; exact HTN.out, by rw [if_neg (by decide)]; exact HT.out.later hb5, owns_below HOT.out hb5, hb5⟩
  | false =>
    cases hA2 : isIn k vn with
    | true =>
      have HE := Lib.hid (show rmakeErr tn vn k l = 7 from by unfold rmakeErr; rw [hA, hA2]; rfl)
      go_wp2_with (first
        | (go_at_call 34; refine HFI.out.mono ?_; rintro ee wa ⟨i, rfl, hpl, hba⟩; have hpi := place_in hpl; rw [hA] at hpi; have HBA := Lib.hid hba; clear hpl hba y0 y1 yl v0 v1 vl z0 z1; obtain ⟨y0, y1, yl⟩ := HF.out wa HBA.out)
        | (go_at_call 38; refine (HFV.out wa HBA.out).mono ?_; rintro ee wb ⟨i2, rfl, hpl, hba⟩; have hpi2 := place_in hpl; rw [hA2] at hpi2; have HBb := Lib.hid (HBA.out.trans (hba.mono HBA.out.size)); have HBX := Lib.hid (HBW.out.trans (HBb.out.mono HBW.out.size)); clear hpl hba y0 y1 yl; obtain ⟨y0, y1, yl⟩ := HF.out wb HBb.out; obtain ⟨v0, v1, vl, z0, z1⟩ := HE4.out wb HBb.out))
      obtain ⟨hf5, hg5⟩ := ret_box (x := .slice at_ nt ct) (y := .slice av nv cv) (HF4.out.later HBb.out)
      obtain ⟨W5, hW5⟩ : ∃ W, (wb.setCell ⟨g4, 0, none⟩ (.slice at_ nt ct)).setCell ⟨g4, 1, none⟩ (.slice av nv cv) = W := ⟨_, rfl⟩
      rw [hW5] at hf5 hg5 ⊢
      have hb5 : Below w.heap.size w W5 := HBX.out.grown hg5 HBX.out.size (fun j e => by cases e; exact HG.out.1)
      have c0 := hf5.cell 0; have c1 := hf5.cell 1; have cl := hf5.lt
      simp only [List.getElem?_cons_zero, List.getElem?_cons_succ] at c0 c1
      rw [HE.out]
      refine bodyPost_ret (v := .tuple #[.agg #[.slice at_ nt ct, .slice av nv cv], .int .i64 7]) ?_ (by rfl) ?_
      · simp only [results, Try.results17]
        go_simp
      · exact ⟨at_, nt, ct, ts, rfl, by rw [if_neg (by decide)]; exact HTN.out, by rw [if_neg (by decide)]; exact HT.out.later hb5, owns_below HOT.out hb5, hb5⟩
    | false =>
      go_upto_region 3 with (first
        | (go_at_call 34; refine HFI.out.mono ?_; rintro ee wa ⟨i, rfl, hpl, hba⟩; have hpi := place_in hpl; rw [hA] at hpi; have HBA := Lib.hid hba; clear hpl hba y0 y1 yl v0 v1 vl z0 z1; obtain ⟨y0, y1, yl⟩ := HF.out wa HBA.out)
        | (go_at_call 38; refine (HFV.out wa HBA.out).mono ?_; rintro ee wb ⟨i2, rfl, hpl, hba⟩; have hpi2 := place_in hpl; rw [hA2] at hpi2; have HBb := Lib.hid (HBA.out.trans (hba.mono HBA.out.size)); have HBX := Lib.hid (HBW.out.trans (HBb.out.mono HBW.out.size)); clear hpl hba y0 y1 yl; obtain ⟨y0, y1, yl⟩ := HF.out wb HBb.out; obtain ⟨v0, v1, vl, z0, z1⟩ := HE4.out wb HBb.out))
      by_cases h8 : 8 ≤ nt
      · have HE := Lib.hid (show rmakeErr tn vn k l = 14 from by unfold rmakeErr; rw [hA, hA2, if_neg (by decide), if_pos (by rw [HTL.out]; exact h8)])
        have d8 : (8 : Int) ≤ (nt : Int) := by omega
        go_wp2_with fail
        obtain ⟨hf5, hg5⟩ := ret_box (x := .slice at_ nt ct) (y := .slice av nv cv) (HF4.out.later HBb.out)
        obtain ⟨W5, hW5⟩ : ∃ W, (wb.setCell ⟨g4, 0, none⟩ (.slice at_ nt ct)).setCell ⟨g4, 1, none⟩ (.slice av nv cv) = W := ⟨_, rfl⟩
        rw [hW5] at hf5 hg5 ⊢
        have hb5 : Below w.heap.size w W5 := HBX.out.grown hg5 HBX.out.size (fun j e => by cases e; exact HG.out.1)
        have c0 := hf5.cell 0; have c1 := hf5.cell 1; have cl := hf5.lt
        simp only [List.getElem?_cons_zero, List.getElem?_cons_succ] at c0 c1
        rw [HE.out]
        refine bodyPost_ret (v := .tuple #[.agg #[.slice at_ nt ct, .slice av nv cv], .int .i64 14]) ?_ (by rfl) ?_
        · simp only [results, Try.results17]
          go_simp
        · exact ⟨at_, nt, ct, ts, rfl, by rw [if_neg (by decide)]; exact HTN.out, by rw [if_neg (by decide)]; exact HT.out.later hb5, owns_below HOT.out hb5, hb5⟩
      · have d8 : ¬ (8 : Int) ≤ (nt : Int) := by omega
        have HME := Lib.hid (show rmakeErr tn vn k l = checkE l from by unfold rmakeErr; rw [hA, hA2, if_neg (by decide), if_neg (by rw [HTL.out]; exact h8)])
        go_wp2_with fail
        go_loopw [8, 9, 10] (fun kv ky iv wr => ∃ (j : Nat) (q : Int), iv = .int .i64 (j : Int) ∧ kv = .int .i64 ((keysN (l.take j) : Nat) : Int) ∧ ky = .int .i64 q ∧ j ≤ ln ∧ Hid (Below W2.heap.size W2 wr) ∧ Hid (KeyAt l j q)) (fun _ _ iv _ => ln - (intOf iv).toNat)
        case atStart => exact ⟨0, 0, rfl, rfl, rfl, Nat.zero_le _, HBb, Lib.hid (fun i x hi => by omega)⟩
        case round =>
          clear y0 y1 yl v0 v1 vl z0 z1
          obtain ⟨j, q, rfl, rfl, rfl, hj, HBr, HKA⟩ := hrel
          have j0 : (0 : Int) ≤ (j : Int) := by omega
          obtain ⟨K, hK⟩ : ∃ K, keysN (l.take j) = K := ⟨_, rfl⟩
          have hKj : K ≤ j := by rw [← hK]; unfold keysN; exact Nat.le_trans (List.length_filter_le ..) (by rw [List.length_take]; omega)
          rw [hK]
          have k0 : (0 : Int) ≤ (K : Int) := by omega
          have k1 : (K : Int) ≤ 1000000 := by omega
          by_cases hjn : j < ln
          · have dj : (j : Int) < (ln : Int) := by omega
            have hju : j < l.length := by rw [HLN.out]; exact hjn
            have hx := List.getElem?_eq_getElem hju
            generalize l[j] = x at hx
            obtain ⟨b, off, rfl, hc⟩ := cn_at HRL.out hjn hx
            obtain ⟨c0, c1, c2, cl⟩ := hc wr HBr.out
            have hnext := keysN_add hx
            rw [hK] at hnext
            have HX := Lib.hid (And.intro hnext (HKA.out.step hx))
            clear hc hx hnext hK
            obtain ⟨xn, xk, xb⟩ := x
            dsimp only at c0 c1 c2 HX
            cases xb with
            | true =>
              rw [if_pos rfl, if_pos rfl] at HX
              go_wp2_with fail
              go_roundw
              case rel => exact ⟨j + 1, (j : Int), by go_num, by rw [HX.out.1]; go_num, rfl, by omega, HBr, Lib.hid HX.out.2⟩
              case measure => simp [intOf]; omega
            | false =>
              rw [if_neg (by decide), if_neg (by decide)] at HX
              go_wp2_with fail
              go_roundw
              case rel => exact ⟨j + 1, q, by go_num, by rw [HX.out.1]; go_num, rfl, by omega, HBr, Lib.hid HX.out.2⟩
              case measure => simp [intOf]; omega
          · have hje : ln = j := by omega
            subst hje
            have dj : ¬ (ln : Int) < (ln : Int) := by omega
            rw [List.take_of_length_le (by have := HLN.out; omega)] at hK
            have HKD := Lib.hid (fun (h : keysN l = 1) => KeyAt.done (l := l) (ky := q) (by rw [HLN.out]; exact HKA.out) h)
            obtain ⟨y0, y1, yl⟩ := HF.out _ HBr.out
            obtain ⟨v0, v1, vl, z0, z1⟩ := HE4.out _ HBr.out
            by_cases h17 : K ≠ 1 ∨ 8 < ln
            · have HE := Lib.hid (show rmakeErr tn vn k l = 17 from by rw [HME.out]; unfold checkE; rw [if_pos]; rw [hK, HLN.out]; exact h17)
              have HBX := Lib.hid (HBW.out.trans (HBr.out.mono HBW.out.size))
              clear hK
              by_cases hl0 : ln < 1
              · have d0 : (ln : Int) < 1 := by omega
                clear h17
                go_wp2_with fail
                obtain ⟨hf5, hg5⟩ := ret_box (x := .slice at_ nt ct) (y := .slice av nv cv) (HF4.out.later HBr.out)
                obtain ⟨W5, hW5⟩ : ∃ W, (wr.setCell ⟨g4, 0, none⟩ (.slice at_ nt ct)).setCell ⟨g4, 1, none⟩ (.slice av nv cv) = W := ⟨_, rfl⟩
                rw [hW5] at hf5 hg5 ⊢
                have hb5 : Below w.heap.size w W5 := HBX.out.grown hg5 HBX.out.size (fun j e => by cases e; exact HG.out.1)
                have c0 := hf5.cell 0; have c1 := hf5.cell 1; have cl := hf5.lt
                simp only [List.getElem?_cons_zero, List.getElem?_cons_succ] at c0 c1
                rw [HE.out]
                refine bodyPost_ret (v := .tuple #[.agg #[.slice at_ nt ct, .slice av nv cv], .int .i64 17]) ?_ (by rfl) ?_
                · simp only [results, Try.results17]
                  go_simp
                · exact ⟨at_, nt, ct, ts, rfl, by rw [if_neg (by decide)]; exact HTN.out, by rw [if_neg (by decide)]; exact HT.out.later hb5, owns_below HOT.out hb5, hb5⟩
              · have d0 : ¬ (ln : Int) < 1 := by omega
                by_cases hl8 : 8 < ln
                · have d9 : (8 : Int) < (ln : Int) := by omega
                  clear h17
                  go_wp2_with fail
                  obtain ⟨hf5, hg5⟩ := ret_box (x := .slice at_ nt ct) (y := .slice av nv cv) (HF4.out.later HBr.out)
                  obtain ⟨W5, hW5⟩ : ∃ W, (wr.setCell ⟨g4, 0, none⟩ (.slice at_ nt ct)).setCell ⟨g4, 1, none⟩ (.slice av nv cv) = W := ⟨_, rfl⟩
                  rw [hW5] at hf5 hg5 ⊢
                  have hb5 : Below w.heap.size w W5 := HBX.out.grown hg5 HBX.out.size (fun j e => by cases e; exact HG.out.1)
                  have c0 := hf5.cell 0; have c1 := hf5.cell 1; have cl := hf5.lt
                  simp only [List.getElem?_cons_zero, List.getElem?_cons_succ] at c0 c1
                  rw [HE.out]
                  refine bodyPost_ret (v := .tuple #[.agg #[.slice at_ nt ct, .slice av nv cv], .int .i64 17]) ?_ (by rfl) ?_
                  · simp only [results, Try.results17]
                    go_simp
                  · exact ⟨at_, nt, ct, ts, rfl, by rw [if_neg (by decide)]; exact HTN.out, by rw [if_neg (by decide)]; exact HT.out.later hb5, owns_below HOT.out hb5, hb5⟩
                · have d9 : ¬ (8 : Int) < (ln : Int) := by omega
                  have dk : ((K : Int) != 1) = true := by simp; omega
                  have dk2 : ¬ (K : Int) = 1 := by omega
                  clear h17
                  go_wp2_with fail
                  obtain ⟨hf5, hg5⟩ := ret_box (x := .slice at_ nt ct) (y := .slice av nv cv) (HF4.out.later HBr.out)
                  obtain ⟨W5, hW5⟩ : ∃ W, (wr.setCell ⟨g4, 0, none⟩ (.slice at_ nt ct)).setCell ⟨g4, 1, none⟩ (.slice av nv cv) = W := ⟨_, rfl⟩
                  rw [hW5] at hf5 hg5 ⊢
                  have hb5 : Below w.heap.size w W5 := HBX.out.grown hg5 HBX.out.size (fun j e => by cases e; exact HG.out.1)
                  have c0 := hf5.cell 0; have c1 := hf5.cell 1; have cl := hf5.lt
                  simp only [List.getElem?_cons_zero, List.getElem?_cons_succ] at c0 c1
                  rw [HE.out]
                  refine bodyPost_ret (v := .tuple #[.agg #[.slice at_ nt ct, .slice av nv cv], .int .i64 17]) ?_ (by rfl) ?_
                  · simp only [results, Try.results17]
                    go_simp
                  · exact ⟨at_, nt, ct, ts, rfl, by rw [if_neg (by decide)]; exact HTN.out, by rw [if_neg (by decide)]; exact HT.out.later hb5, owns_below HOT.out hb5, hb5⟩
            · obtain ⟨rfl, hn8⟩ : K = 1 ∧ ln ≤ 8 := by omega
              have hl1' : 1 ≤ ln := by
                rcases Nat.eq_zero_or_pos ln with h | h
                · exfalso
                  have : l = [] := List.length_eq_zero_iff.1 (by rw [HLN.out]; exact h)
                  rw [this] at hK; cases hK
                · exact h
              have HKY := Lib.hid (HKD.out hK)
              have HK := Lib.hid hK
              have d0 : ¬ (ln : Int) < 1 := by omega
              have d9 : ¬ (8 : Int) < (ln : Int) := by omega
              clear h17 hK hKj k0 k1 y0 y1 yl v0 v1 vl z0 z1
              go_wp2_with fail
              go_loopw [11] (fun iv wr => ∃ j : Nat, iv = .int .i64 (j : Int) ∧ j ≤ ln ∧ Hid (Below W2.heap.size W2 wr) ∧ Hid (∀ q x, q < j → l[q]? = some x → 1 ≤ x.k ∧ x.k ≤ 3)) (fun iv _ => ln - (intOf iv).toNat)
              case atStart => exact ⟨0, rfl, Nat.zero_le _, HBr, Lib.hid (fun q x hq => by omega)⟩
              case round =>
                obtain ⟨j, rfl, hj, HB2, HKD2⟩ := hrel
                have j0 : (0 : Int) ≤ (j : Int) := by omega
                by_cases hjn : j < ln
                · have dj : (j : Int) < (ln : Int) := by omega
                  have hju : j < l.length := by rw [HLN.out]; exact hjn
                  have hx := List.getElem?_eq_getElem hju
                  generalize l[j] = x at hx
                  obtain ⟨b, off, rfl, hc⟩ := cn_at HRL.out hjn hx
                  obtain ⟨c0, c1, c2, cl⟩ := hc _ HB2.out
                  have HX := Lib.hid hx
                  clear hc hx
                  by_cases hkk : x.k < 1 ∨ 3 < x.k
                  · have HE : Hid (rmakeErr tn vn k l = 5) := Lib.hid (by
                      rw [HME.out]
                      unfold checkE
                      rw [if_neg (by rw [HK.out, HLN.out]; omega), if_pos]
                      unfold kindB
                      exact List.any_eq_true.2 ⟨x, List.mem_of_getElem? HX.out, by rcases hkk with h | h <;> simp [h]⟩)
                    have HBX := Lib.hid (HBW.out.trans (HB2.out.mono HBW.out.size))
                    obtain ⟨y0, y1, yl⟩ := HF.out _ HB2.out
                    obtain ⟨v0, v1, vl, z0, z1⟩ := HE4.out _ HB2.out
                    obtain ⟨xn, xk, xb⟩ := x
                    dsimp only at c0 c1 c2 hkk
                    by_cases hk1 : xk < 1
                    · clear hkk
                      go_wp2_with fail
                      obtain ⟨hf5, hg5⟩ := ret_box (x := .slice at_ nt ct) (y := .slice av nv cv) (HF4.out.later HB2.out)
                      obtain ⟨W5, hW5⟩ : ∃ W, (wr.setCell ⟨g4, 0, none⟩ (.slice at_ nt ct)).setCell ⟨g4, 1, none⟩ (.slice av nv cv) = W := ⟨_, rfl⟩
                      rw [hW5] at hf5 hg5 ⊢
                      have hb5 : Below w.heap.size w W5 := HBX.out.grown hg5 HBX.out.size (fun j e => by cases e; exact HG.out.1)
                      have c0 := hf5.cell 0; have c1 := hf5.cell 1; have cl := hf5.lt
                      simp only [List.getElem?_cons_zero, List.getElem?_cons_succ] at c0 c1
                      rw [HE.out]
                      refine bodyPost_ret (v := .tuple #[.agg #[.slice at_ nt ct, .slice av nv cv], .int .i64 5]) ?_ (by rfl) ?_
                      · simp only [results, Try.results17]
                        go_simp
                      · exact ⟨at_, nt, ct, ts, rfl, by rw [if_neg (by decide)]; exact HTN.out, by rw [if_neg (by decide)]; exact HT.out.later hb5, owns_below HOT.out hb5, hb5⟩
                    · have hk3 : 3 < xk := by omega
                      clear hkk
                      go_wp2_with fail
                      obtain ⟨hf5, hg5⟩ := ret_box (x := .slice at_ nt ct) (y := .slice av nv cv) (HF4.out.later HB2.out)
                      obtain ⟨W5, hW5⟩ : ∃ W, (wr.setCell ⟨g4, 0, none⟩ (.slice at_ nt ct)).setCell ⟨g4, 1, none⟩ (.slice av nv cv) = W := ⟨_, rfl⟩
                      rw [hW5] at hf5 hg5 ⊢
                      have hb5 : Below w.heap.size w W5 := HBX.out.grown hg5 HBX.out.size (fun j e => by cases e; exact HG.out.1)
                      have c0 := hf5.cell 0; have c1 := hf5.cell 1; have cl := hf5.lt
                      simp only [List.getElem?_cons_zero, List.getElem?_cons_succ] at c0 c1
                      rw [HE.out]
                      refine bodyPost_ret (v := .tuple #[.agg #[.slice at_ nt ct, .slice av nv cv], .int .i64 5]) ?_ (by rfl) ?_
                      · simp only [results, Try.results17]
                        go_simp
                      · exact ⟨at_, nt, ct, ts, rfl, by rw [if_neg (by decide)]; exact HTN.out, by rw [if_neg (by decide)]; exact HT.out.later hb5, owns_below HOT.out hb5, hb5⟩
                  · have HXK := Lib.hid hkk
                    obtain ⟨xn, xk, xb⟩ := x
                    dsimp only at c0 c1 c2 hkk HXK
                    have hk1 : ¬ xk < 1 := by omega
                    have hk3 : ¬ 3 < xk := by omega
                    clear hkk
                    go_wp2_with fail
                    go_roundw
                    case rel => exact ⟨j + 1, by go_num, by omega, HB2, Lib.hid (fun q y hq hy => by
                      rcases (by omega : q < j ∨ q = j) with h | rfl
                      · exact HKD2.out q y h hy
                      · rw [HX.out] at hy; cases hy; have h1 := HXK.out; dsimp only; omega)⟩
                    case measure => simp [intOf]; omega
                · have hje : ln = j := by omega
                  subst hje
                  have HKB : Hid (kindB l = false) := Lib.hid (by
                    cases e : kindB l with
                    | false => rfl
                    | true =>
                      exfalso
                      unfold kindB at e
                      obtain ⟨x, hx, h⟩ := List.any_eq_true.1 e
                      obtain ⟨q, hq⟩ := List.getElem?_of_mem hx
                      have hlt := (List.getElem?_eq_some_iff.1 hq).1
                      have h2 := HKD2.out q x (by have := HLN.out; omega) hq
                      simp at h; omega)
                  have dj : ¬ (ln : Int) < (ln : Int) := by omega
                  clear hjn
                  go_wp2_with fail
                  go_loopw [12] (fun iv wr => ∃ j : Nat, iv = .int .i64 (j : Int) ∧ j ≤ ln ∧ Hid (Below W2.heap.size W2 wr) ∧ Hid (¬ Dup l j)) (fun iv _ => ln - (intOf iv).toNat)
                  case atStart => exact ⟨0, rfl, Nat.zero_le _, HB2, Lib.hid (by rintro ⟨i, q, x, y, h, -⟩; omega)⟩
                  case round =>
                    clear HB2
                    obtain ⟨j, rfl, hj, HB2, HND⟩ := hrel
                    have j0 : (0 : Int) ≤ (j : Int) := by omega
                    clear dj
                    by_cases hjn : j < ln
                    · have dj : (j : Int) < (ln : Int) := by omega
                      have hju : j < l.length := by rw [HLN.out]; exact hjn
                      have hx := List.getElem?_eq_getElem hju
                      generalize l[j] = x at hx
                      obtain ⟨b, off, rfl, hc⟩ := cn_at HRL.out hjn hx
                      have HCX := Lib.hid hc
                      have HX := Lib.hid hx
                      clear hc hx
                      go_wp2_with fail
                      go_loopw [13] (fun iv wr => ∃ i : Nat, iv = .int .i64 (i : Int) ∧ i ≤ j ∧ Hid (Below W2.heap.size W2 wr) ∧ Hid (∀ q y, q < i → l[q]? = some y → y.nm ≠ x.nm)) (fun iv _ => j - (intOf iv).toNat)
                      case atStart => exact ⟨0, rfl, Nat.zero_le _, HB2, Lib.hid (fun q y hq => by omega)⟩
                      case round =>
                        clear HB2
                        obtain ⟨i, rfl, hi, HB2, HNO⟩ := hrel
                        have i0 : (0 : Int) ≤ (i : Int) := by omega
                        by_cases hij : i < j
                        · have dij : (i : Int) < (j : Int) := by omega
                          have dil : (i : Int) < (ln : Int) := by omega
                          have hiu : i < l.length := by rw [HLN.out]; omega
                          have hy := List.getElem?_eq_getElem hiu
                          generalize l[i] = y at hy
                          obtain ⟨b2, off2, e2, hc2⟩ := cn_at HRL.out (by omega) hy
                          simp only [Option.some.injEq, Addr.mk.injEq, and_true] at e2
                          obtain ⟨rfl, rfl⟩ := e2
                          have HY := Lib.hid hy
                          obtain ⟨c0, c1, c2, cl⟩ := HCX.out _ HB2.out
                          obtain ⟨e0, e1, e2, el⟩ := hc2 _ HB2.out
                          clear hc2 hy
                          go_upto_region 24 with fail
                          go_quiet (fail)
                          have HBQ := Lib.hid (below_drewN' HB2.out nq)
                          by_cases hxy : y.nm = x.nm
                          · have hnb : (y.nm.toList == x.nm.toList) = true := by rw [hxy]; simp
                            have HE : Hid (rmakeErr tn vn k l = 7) := Lib.hid (by
                              rw [HME.out]
                              unfold checkE
                              rw [if_neg (by rw [HK.out, HLN.out]; omega), if_neg (by rw [HKB.out]; decide), if_pos]
                              exact ⟨j, i, y, x, by rw [HLN.out]; exact hjn, hij, HY.out, HX.out, hxy⟩)
                            have HBX := Lib.hid (HBW.out.trans (HBQ.out.mono HBW.out.size))
                            obtain ⟨y0, y1, yl⟩ := HF.out _ HBQ.out
                            obtain ⟨v0, v1, vl, z0, z1⟩ := HE4.out _ HBQ.out
                            rw [hnb]
                            clear hnb hxy c0 c1 c2 cl e0 e1 e2 el
                            go_wp2_with fail
                            obtain ⟨hf5, hg5⟩ := ret_box (x := .slice at_ nt ct) (y := .slice av nv cv) (HF4.out.later HBQ.out)
                            obtain ⟨W5, hW5⟩ : ∃ W, ((wr.drewN nq).setCell ⟨g4, 0, none⟩ (.slice at_ nt ct)).setCell ⟨g4, 1, none⟩ (.slice av nv cv) = W := ⟨_, rfl⟩
                            rw [hW5] at hf5 hg5 ⊢
                            have hb5 : Below w.heap.size w W5 := HBX.out.grown hg5 HBX.out.size (fun j e => by cases e; exact HG.out.1)
                            have c0 := hf5.cell 0; have c1 := hf5.cell 1; have cl := hf5.lt
                            simp only [List.getElem?_cons_zero, List.getElem?_cons_succ] at c0 c1
                            rw [HE.out]
                            refine bodyPost_ret (v := .tuple #[.agg #[.slice at_ nt ct, .slice av nv cv], .int .i64 7]) ?_ (by rfl) ?_
                            · simp only [results, Try.results17]
                              go_simp
                            · exact ⟨at_, nt, ct, ts, rfl, by rw [if_neg (by decide)]; exact HTN.out, by rw [if_neg (by decide)]; exact HT.out.later hb5, owns_below HOT.out hb5, hb5⟩
                          · have hnb : (y.nm.toList == x.nm.toList) = false := eq_bytes hxy
                            have HXY := Lib.hid hxy
                            rw [hnb]
                            clear hnb hxy c0 c1 c2 cl e0 e1 e2 el
                            go_wp2_with fail
                            go_roundw
                            case rel => exact ⟨i + 1, by go_num, by omega, HBQ, Lib.hid (fun q z hq hz => by
                              rcases (by omega : q < i ∨ q = i) with h | rfl
                              · exact HNO.out q z h hz
                              · rw [HY.out] at hz; cases hz; exact HXY.out)⟩
                            case measure => simp [intOf]; omega
                        · have hie : j = i := by omega
                          subst hie
                          have dij : ¬ (j : Int) < (j : Int) := by omega
                          clear hij
                          go_wp2_with fail
                          go_roundw
                          case rel => exact ⟨j + 1, by go_num, by omega, HB2, Lib.hid (by
                            rintro ⟨i, q, z, y, h1, h2, h3, h4, h5⟩
                            rcases (by omega : i < j ∨ i = j) with h | rfl
                            · exact HND.out ⟨i, q, z, y, h, h2, h3, h4, h5⟩
                            · rw [HX.out] at h4; cases h4; exact HNO.out q z h2 h3 h5)⟩
                          case measure => simp [intOf]; omega
                    · have hje2 : ln = j := by omega
                      subst hje2
                      have dj : ¬ (ln : Int) < (ln : Int) := by omega
                      have HE : Hid (rmakeErr tn vn k l = 0) := Lib.hid (by
                        rw [HME.out]
                        unfold checkE
                        rw [if_neg (by rw [HK.out, HLN.out]; omega), if_neg (by rw [HKB.out]; decide), if_neg]
                        rw [HLN.out]; exact HND.out)
                      clear hjn
                      go_upto_region 26 with fail
                      obtain ⟨i0, hi, hz0, hz1, hz2⟩ := info_of infoT
                      obtain ⟨i1, hj1, hq0, hq1, hq2⟩ := info_of info17
                      obtain ⟨KF, hKF⟩ : ∃ K, keyFrom l 0 = K := ⟨_, rfl⟩
                      rw [hKF] at HKY
                      have hky := HKY.out
                      subst hky
                      have HRT := Lib.hid (fun (W : World) (hb : Below wr.heap.size wr W) => Row.of_owns (owns_below HOT.out ((HBW.out.trans (HB2.out.mono HBW.out.size)).trans (hb.mono (HBW.out.trans (HB2.out.mono HBW.out.size)).size))))
                      have HRC := Lib.hid (fun (W : World) (hb : Below wr.heap.size wr W) => HRL.out.later (HB2.out.trans (hb.mono HB2.out.size)))
                      have HFr := Lib.hid (fun (W : World) (hb : Below wr.heap.size wr W) => HF.out W (HB2.out.trans (hb.mono HB2.out.size)))
                      obtain ⟨y0, y1, yl⟩ := HFr.out _ ((Below.refl wr.heap.size wr).alloc (Nat.le_refl _) (.cells #[] TRt))
                      go_upto_region 27 with (first
                        | (at_builtin; refine wpList_append_row _ rfl (.tmp 101) (.tmp 103) 26 (by rfl) wr.heap.size TRt i0 _ 3 48 Try.underlying26 hi hz0 hz1 hz2 rfl (by decide) (.slice (some ⟨wr.heap.size, 0, none⟩) 0 0) 0 [] (by rfl) (own_new _ _ _) (.slice at_ nt ct) nt (tCells ts) (by rfl) (HRT.out _ ((Below.refl _ _).alloc (Nat.le_refl _) _)) (oneT ts) (by simp only [maxLen]; omega) (by omega) (by rw [World.size_alloc]; omega) ?_; intro a9 c9 w9 hap; have HAP := Lib.hid (app_new hap); clear hap y0 y1 yl; try rw [Nat.zero_add])
                        | (at_builtin; refine wpList_append_row _ rfl (.tmp 106) (.tmp 107) 42 (by rfl) w9.heap.size 53 i1 _ 3 32 Try.underlying42 hj1 hq0 hq1 hq2 rfl (by decide) (.slice (some ⟨w9.heap.size, 0, none⟩) 0 0) 0 [] (by rfl) (own_new _ _ _) (.slice _ ln lc) ln (cnCells l) (by rfl) (HRC.out _ (HAP.out.1.alloc HAP.out.1.size _)) (oneC l) (by simp only [maxLen]; omega) (by omega) (by rw [World.size_alloc]; omega) ?_; intro a8 c8 w8 hap; have HAQ := Lib.hid (app_new hap); clear hap; try rw [Nat.zero_add])
                        | (at_builtin; refine wpList_append_row _ rfl (.tmp 104) (.tmp 111) 26 (by rfl) wr.heap.size TRt i0 _ 3 48 Try.underlying26 hi hz0 hz1 hz2 rfl (by decide) (.slice a9 nt c9) nt (tCells ts) (by rfl) (owns_below HAP.out.2 (HAQ.out.1.alloc HAQ.out.1.size _)) (.slice (some ⟨w8.heap.size, 0, none⟩) 1 1) 1 [.string k, .slice a8 ln c8, .int .i64 q] (by rfl) (Row.of_flds (Flds.new w8 TRt [.string k, .slice a8 ln c8, .int .i64 q]) rfl 1) (by simp [Value.oneCell']) (by simp only [maxLen]; omega) (by omega) (by rw [World.size_alloc]; have h1 := HAP.out.1.size; have h2 := HAQ.out.1.size; omega) ?_; intro a7 c7 w7 hap; have hb8 := (HAP.out.1.trans (HAQ.out.1.mono HAP.out.1.size)).alloc (HAP.out.1.trans (HAQ.out.1.mono HAP.out.1.size)).size (.cells #[.string k, .slice a8 ln c8, .int .i64 q] TRt); have hb7 := hb8.grown hap.grown hb8.size (fun k e => (HAP.out.2.lt k e).1); have hrow8 := Row.of_owns (owns_below HAQ.out.2 ((Below.refl _ _).alloc (Nat.le_refl _) (.cells #[.string k, .slice a8 ln c8, .int .i64 q] TRt))); have hrow7 := hrow8.grown hap.grown (fun b e e2 => by have h1 := (HAQ.out.2.lt b e).1; have h2 := (HAP.out.2.lt b e2.symm).2; omega); have HS7 := Lib.hid (HB2.out.trans (hb7.mono HB2.out.size)); have HO := Lib.hid hap.own; have HR7 := Lib.hid hrow7; clear hap hb8 hb7 hrow8 hrow7; obtain ⟨y0, y1, yl⟩ := HF.out w7 HS7.out; have yz := (HF1.out.later HS7.out).frozen 0))
                      obtain ⟨M, hM⟩ : ∃ M, nt + 1 = M := ⟨_, rfl⟩
                      rw [hM] at HO ⊢
                      obtain ⟨W6, hW6⟩ : ∃ W, w7.setCell ⟨g1, 0, none⟩ (.slice a7 M c7) = W := ⟨_, rfl⟩
                      have hf61 : Flds W6 g1 TRc [.slice a7 M c7, .slice av nv cv] := by rw [← hW6]; exact (HF1.out.later HS7.out).set 0 _
                      have hf64 : Flds W6 g4 TRc [.slice none 0 0, .slice none 0 0] := by rw [← hW6]; exact (HF4.out.later HS7.out).other _ _ HG.out.2.2.2.2
                      have hbq : Below w.heap.size w w7 := HBW.out.trans (HS7.out.mono HBW.out.size)
                      have hb6 : Below w.heap.size w W6 := by rw [← hW6]; exact hbq.grown (grown_setCell _ _ _) hbq.size (fun j e => by cases e; exact HG.out.2.1)
                      have how6 := owns_setCell HO.out ⟨g1, 0, none⟩ (.slice a7 M c7) (fun e => by have h := (HO.out.lt g1 e).1; have h1 := HG.out.2.2.1; have h2 := HB2.out.size; omega)
                      have hr6 : Row W6 (.slice a8 ln c8) 3 ln (cnCells l) := by rw [← hW6]; exact HR7.out.grown (grown_setCell _ _ _) (fun b e e2 => by have h1 := (HAQ.out.2.lt b e).1; have h2 : b = g1 := (by simpa using e2); have h3 := HG.out.2.2.1; have h4 := HB2.out.size; have h5 := HAP.out.1.size; omega)
                      rw [hW6] at how6 ⊢
                      have HOW6 := Lib.hid how6
                      have HR6 := Lib.hid hr6
                      clear y0 y1 yl yz
                      have y0 := hf61.cell 0; have y1 := hf61.cell 1; have yl := hf61.lt
                      have v0 := hf64.cell 0; have v1 := hf64.cell 1; have vl := hf64.lt
                      have z0 := hf64.frozen 0; have z1 := hf64.frozen 1
                      simp only [List.getElem?_cons_zero, List.getElem?_cons_succ] at y0 y1 v0 v1
                      have HF64 := Lib.hid hf64
                      have HB6 := Lib.hid hb6
                      clear hW6 hf61 hf64 hbq hb6 how6 hr6
                      go_wp2_with fail
                      obtain ⟨hf5, hg5⟩ := ret_box (x := .slice a7 M c7) (y := .slice av nv cv) HF64.out
                      obtain ⟨W5, hW5⟩ : ∃ W, (W6.setCell ⟨g4, 0, none⟩ (.slice a7 M c7)).setCell ⟨g4, 1, none⟩ (.slice av nv cv) = W := ⟨_, rfl⟩
                      rw [hW5] at hf5 hg5 ⊢
                      have hb5 : Below w.heap.size w W5 := HB6.out.grown hg5 HB6.out.size (fun j e => by cases e; exact HG.out.1)
                      have c0 := hf5.cell 0; have c1 := hf5.cell 1; have cl := hf5.lt
                      simp only [List.getElem?_cons_zero, List.getElem?_cons_succ] at c0 c1
                      rw [HE.out]
                      refine bodyPost_ret (v := .tuple #[.agg #[.slice a7 M c7, .slice av nv cv], .int .i64 0]) ?_ (by rfl) ?_
                      · simp only [results, Try.results17]
                        go_simp
                      · have how5 := owns_setCell (owns_setCell HOW6.out ⟨g4, 0, none⟩ (.slice a7 M c7) (fun e => by have h := (HOW6.out.lt g4 e).1; have h1 := HG.out.2.2.2.1; have h2 := HB2.out.size; omega)) ⟨g4, 1, none⟩ (.slice av nv cv) (fun e => by have h := (HOW6.out.lt g4 e).1; have h1 := HG.out.2.2.2.1; have h2 := HB2.out.size; omega)
                        rw [hW5] at how5
                        have hr5 : Row W5 (.slice a8 ln c8) 3 ln (cnCells l) := HR6.out.grown hg5 (fun b e e2 => by have h1 := (HAQ.out.2.lt b e).1; have h2 : b = g4 := (by simpa using e2); have h3 := HG.out.2.2.2.1; have h4 := HB2.out.size; have h5 := HAP.out.1.size; omega)
                        have hcs : tCells (ts ++ [⟨k, a8, ln, c8, keyFrom l 0⟩]) = tCells ts ++ [.string k, .slice a8 ln c8, .int .i64 (keyFrom l 0)] := by rw [tCells_app]; rfl
                        rw [hKF] at hcs
                        rw [← hcs] at how5
                        have hkt : k ∉ tn := fun h => by rw [isIn_yes h] at hA; cases hA
                        unfold RMake
                        rw [hKF]
                        refine ⟨a7, M, c7, ts ++ [⟨k, a8, ln, c8, q⟩], rfl, ?_, ⟨?_, ?_, Row.of_owns how5, fun y hy => ?_⟩, owns_base how5 (fun g hg => Nat.zero_le _), hb5⟩
                        · rw [if_pos rfl, List.map_append, HTN.out]; rfl
                        · have h1 := HT.out.1; rw [List.length_append, List.length_singleton]; omega
                        · omega
                        · rw [if_pos rfl]
                          rcases List.mem_append.1 hy with h | h
                          · have hne : y.nm ≠ k := fun e => hkt (by rw [← HTN.out, ← e]; exact List.mem_map.2 ⟨y, h, rfl⟩)
                            obtain ⟨q1, q2, q3, q4⟩ := HT.out.2.2.2 y h
                            rw [upd_other _ _ hne]
                            exact ⟨q1, q2, q3, q4.later hb5⟩
                          · obtain rfl := List.mem_singleton.1 h
                            rw [upd_same]
                            exact ⟨HLN.out.symm, rfl, hl1, hr5⟩
end Go.Proofs.Ythhcjmikkiiahaa.cat
