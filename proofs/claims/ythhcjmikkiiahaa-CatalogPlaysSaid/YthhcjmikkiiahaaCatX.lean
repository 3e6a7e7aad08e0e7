/- Is a catalog the document's? Walked. -/
import Derived.Test.YthhcjmikkiiahaaCatW
namespace Go.Proofs.Ythhcjmikkiiahaa.cat
set_option linter.unusedVariables false
open Go.RowKit Go.WideShapes Go.MapKept
def TPost (nm : ByteArray) (L : List Cn) (n : Nat) (key : Int) (w : World) (e : Ending) (w' : World) : Prop := ∃ (a : Option Addr) (c : Nat), e = .returned (.tuple #[.agg #[.string nm, .slice a n c, .int .i64 key], .bool true]) ∧ Row w' (.slice a n c) 3 n (cnCells L) ∧ Below w.heap.size w w'
variable {B bs bt bv m : Nat} {S : CatS} {w : World} {x : Value}
set_option maxRecDepth 100000 in
set_option maxHeartbeats 16000000 in
theorem is_any (h : CatAt B bs bt bv m S w) (hB : B ≤ w.heap.size) (hm : m ≤ 1000000) (hus : ∀ s ∈ S.vn, (S.vu s).length ≤ 1000000) (hcol : ∀ s ∈ S.tn, (S.tb s).1.length ≤ 1000000) (hr : RAt w x S) (k : ByteArray) (hk : k.size ≤ maxLen) :
    Calls Try.prog 18 #[.pointer (some ⟨bs, 0, none⟩), x, .string k] w fun e w' => e = .returned (.bool true) ∧ Below w.heap.size w w' := by
  have hr0 := hr
  obtain ⟨a, n, c, a', n', c', ts, vs, rfl, h2, h3, h4, h5, -, -⟩ := hr0
  obtain ⟨W1, hW1⟩ : ∃ W, w.alloc (.cells #[.slice a n c, .slice a' n' c'] TRc) = W := ⟨_, rfl⟩
  obtain ⟨g1, hg1⟩ : ∃ g, w.heap.size = g := ⟨_, rfl⟩
  have hb1 : Below w.heap.size w W1 := by rw [← hW1]; exact (Below.refl _ _).alloc (Nat.le_refl _) _
  have hf1 : Flds W1 g1 TRc [.slice a n c, .slice a' n' c'] := by rw [← hW1, ← hg1]; exact Flds.new w _ _
  have HF := Lib.hid (fun (W : World) (hb : Below W1.heap.size W1 W) => And.intro ((hf1.later hb).cell 0) (And.intro ((hf1.later hb).cell 1) (hf1.later hb).lt))
  simp only [List.getElem?_cons_zero, List.getElem?_cons_succ] at HF
  have htl : S.tn.length ≤ 1000 := by rw [← h2, List.length_map, h4.1]; exact h4.2.1
  have hvl : S.vn.length ≤ 1000 := by rw [← h3, List.length_map, h5.1]; exact h5.2.1
  have hul : ((usersL S k).map bA).length ≤ 1000 := by rw [List.length_map, users_len]; exact Nat.le_trans (List.length_filter_le _ _) hvl
  have HNM := Lib.hid (names_at (h.later hb1) hm)
  have HRN := Lib.hid (fun (W : World) (hb : Below W1.heap.size W1 W) => rnames_at (hr.later (hb1.trans (hb.mono hb1.size))))
  have HST := Lib.hid (fun (W : World) (v v' : Value) (h : StrsV (sortB S.tn) v W) (h' : StrsV (sortB S.tn) v' W) => same_strs (by rw [sortB_len]; omega) h h')
  have HSV := Lib.hid (fun (W : World) (v v' : Value) (h : StrsV (sortB S.vn) v W) (h' : StrsV (sortB S.vn) v' W) => same_strs (by rw [sortB_len]; omega) h h')
  have HSU := Lib.hid (fun (W : World) (v v' : Value) (h : StrsV ((usersL S k).map bA) v W) (h' : StrsV ((usersL S k).map bA) v' W) => same_strs (by omega) h h')
  have HUS := Lib.hid (fun (W : World) (hb : Below W1.heap.size W1 W) => show Calls Try.prog 20 #[.pointer (some ⟨bs, 0, none⟩), .string k] W (fun e w' => ∃ u, e = .returned u ∧ StrsV ((usersL S k).map bA) u w' ∧ Below W.heap.size W w') from by
    refine (users_at (h.later (hb1.trans (hb.mono hb1.size))) hm hus k hk).mono ?_
    rintro e w' ⟨ua, uc, rfl, hrw, hbb⟩
    refine ⟨_, rfl, ⟨ua, uc, by rw [List.length_map], ?_⟩, hbb⟩
    rw [List.length_map, ← enc_strs]; exact hrw)
  have HRU := Lib.hid (fun (W : World) (hb : Below W1.heap.size W1 W) => show Calls Try.prog 35 #[.agg #[.slice a n c, .slice a' n' c'], .string k] W (fun e w' => ∃ u, e = .returned u ∧ StrsV ((usersL S k).map bA) u w' ∧ Below W.heap.size W w') from by
    refine (rusers_at (hr.later (hb1.trans (hb.mono hb1.size))) k).mono ?_
    rintro e w' ⟨u, he, ho, hbb⟩
    exact ⟨u, he, strs_of_owns ho, hbb⟩)
  have HFI := Lib.hid (fun (W : World) (hb : Below W1.heap.size W1 W) => rfind_at (hr.later (hb1.trans (hb.mono hb1.size))) k)
  have HTB := Lib.hid (fun (s : ByteArray) (W : World) (hb : Below W1.heap.size W1 W) => table_at (h.later (hb1.trans (hb.mono hb1.size))) hcol s)
  have HT := Lib.hid h4
  have HTN := Lib.hid h2
  have HB1 := Lib.hid hb1
  have n0 : (0 : Int) ≤ (n : Int) := by omega
  have n1 : (n : Int) ≤ 1000 := by have := h4.2.1; omega
  obtain ⟨y0, y1, yl⟩ := HF.out W1 (Below.refl _ _)
  clear h hr hus hcol h2 h3 h4 h5 hf1 hb1 htl hvl hul
  go_enter Try.func18, Try.ntmps18
  go_upto_region 1 with fail
  try rw [hW1, hg1]
  clear hW1 hg1
  go_upto_region 3 with (first
    | (go_at_call 19; refine HNM.out.mono ?_; rintro ee wa ⟨va, va', rfl, hva, hva', hba⟩; have HVA := Lib.hid (And.intro hva hva'); have HBA := Lib.hid hba; clear hva hva' hba y0 y1 yl; obtain ⟨y0, y1, yl⟩ := HF.out wa HBA.out)
    | (go_at_call 43; refine (HRN.out wa HBA.out).mono ?_; rintro ee wb ⟨vb, vb', rfl, hvb, hvb', hbb⟩; have HVB := Lib.hid (And.intro (HVA.out.1.lasts hbb) (And.intro (HVA.out.2.lasts hbb) (And.intro (strs_of_owns hvb) (strs_of_owns hvb')))); have HBb := Lib.hid (HBA.out.trans (hbb.mono HBA.out.size)); clear hvb hvb' hbb y0 y1 yl))
  apply ag.region_calm (ag.Spec.val _ :: ag.Spec.val _ :: ag.Spec.sat (fun v _ => v = .bool true) ag.grew :: ag.Spec.val (.bool false) :: ag.Spec.val _ :: ag.Spec.val _ :: ag.Spec.val _ :: ag.Spec.sat (fun v _ => v = .bool true) ag.grew :: ag.Spec.val (.bool false) :: ag.Spec.val _ :: ag.Spec.val _ :: ag.Spec.val _ :: ag.Spec.val _ :: ag.Spec.sat (StrsV ((usersL S k).map bA)) ag.grew :: ag.Spec.val _ :: ag.Spec.val _ :: ag.Spec.sat (StrsV ((usersL S k).map bA)) ag.grew :: ag.Spec.sat (fun v _ => v = .bool true) ag.grew :: ag.Spec.val (.bool false) :: ag.Spec.val _ :: [])
  case hm => kernel_rfl
  case hB => kernel_rfl
  case hlen => rfl
  case hc => exact ⟨⟨ag.lasts_eq _, rfl⟩, ⟨ag.lasts_eq _, rfl⟩, ⟨(fun v W W' h hb => StrsV.lasts h hb), rfl⟩, ⟨(fun v W W' h hb => StrsV.lasts h hb), rfl⟩, ⟨ag.lasts_eq _, rfl⟩, trivial⟩
  apply ag.walk_val
  · rfl
  · intro W1 hS hE
    clear hS hE
    unfold ag.does
    go_simp
    first | done | exact ⟨rfl, rfl⟩ | rfl | (exact ⟨by go_num, rfl⟩) | (simp; done) | trace_state
  simp only [Act.put, List.setIfInBounds_toArray, List.set_cons_zero, List.set_cons_succ]
  apply ag.walk_val
  · rfl
  · intro W1 hS hE
    clear hS hE
    unfold ag.does
    go_simp
    first | done | exact ⟨rfl, rfl⟩ | rfl | (exact ⟨by go_num, rfl⟩) | (simp; done) | trace_state
  simp only [Act.put, List.setIfInBounds_toArray, List.set_cons_zero, List.set_cons_succ]
  refine ag.walk_such (by rfl) (fun W1 hS hE => ?_) (fun y2 => ?_)
  · clear hE
    have hk := HST.out W1 _ _ (HVB.out.1.lasts hS) (HVB.out.2.2.1.lasts hS)
    unfold ag.does
    go_simp
    first | done | (refine hk.mono ?_; rintro e W2 ⟨rfl, hb⟩; exact ⟨_, rfl, rfl, hb⟩)
  simp only [Act.put, List.setIfInBounds_toArray, List.set_cons_zero, List.set_cons_succ]
  apply ag.walk_val
  · rfl
  · intro W1 hS hE
    have box := hE.of 2 (by kernel_rfl)
    simp only [ag.lookE, if_true, Nat.reduceEqDiff, if_false] at box
    subst box
    clear hS hE
    unfold ag.does
    go_simp
    first | done | exact ⟨rfl, rfl⟩ | rfl | (exact ⟨by go_num, rfl⟩) | (simp; done) | trace_state
  simp only [Act.put, List.setIfInBounds_toArray, List.set_cons_zero, List.set_cons_succ]
  apply ag.walk_val
  · rfl
  · intro W1 hS hE
    clear hS hE
    unfold ag.does
    go_simp
    first | done | exact ⟨rfl, rfl⟩ | rfl | (exact ⟨by go_num, rfl⟩) | (simp; done) | trace_state
  simp only [Act.put, List.setIfInBounds_toArray, List.set_cons_zero, List.set_cons_succ]
  apply ag.walk_val
  · rfl
  · intro W1 hS hE
    clear hS hE
    unfold ag.does
    go_simp
    first | done | exact ⟨rfl, rfl⟩ | rfl | (exact ⟨by go_num, rfl⟩) | (simp; done) | trace_state
  simp only [Act.put, List.setIfInBounds_toArray, List.set_cons_zero, List.set_cons_succ]
  apply ag.walk_val
  · rfl
  · intro W1 hS hE
    clear hS hE
    unfold ag.does
    go_simp
    first | done | exact ⟨rfl, rfl⟩ | rfl | (exact ⟨by go_num, rfl⟩) | (simp; done) | trace_state
  simp only [Act.put, List.setIfInBounds_toArray, List.set_cons_zero, List.set_cons_succ]
  refine ag.walk_such (by rfl) (fun W1 hS hE => ?_) (fun y7 => ?_)
  · clear hE
    have hk := HSV.out W1 _ _ (HVB.out.2.1.lasts hS) (HVB.out.2.2.2.lasts hS)
    unfold ag.does
    go_simp
    first | done | (refine hk.mono ?_; rintro e W2 ⟨rfl, hb⟩; exact ⟨_, rfl, rfl, hb⟩)
  simp only [Act.put, List.setIfInBounds_toArray, List.set_cons_zero, List.set_cons_succ]
  apply ag.walk_val
  · rfl
  · intro W1 hS hE
    have box := hE.of 7 (by kernel_rfl)
    simp only [ag.lookE, if_true, Nat.reduceEqDiff, if_false] at box
    subst box
    clear hS hE
    unfold ag.does
    go_simp
    first | done | exact ⟨rfl, rfl⟩ | rfl | (exact ⟨by go_num, rfl⟩) | (simp; done) | trace_state
  simp only [Act.put, List.setIfInBounds_toArray, List.set_cons_zero, List.set_cons_succ]
  apply ag.walk_val
  · rfl
  · intro W1 hS hE
    clear hS hE
    unfold ag.does
    go_simp
    first | done | exact ⟨rfl, rfl⟩ | rfl | (exact ⟨by go_num, rfl⟩) | (simp; done) | trace_state
  simp only [Act.put, List.setIfInBounds_toArray, List.set_cons_zero, List.set_cons_succ]
  apply ag.walk_val
  · rfl
  · intro W1 hS hE
    clear hS hE
    unfold ag.does
    go_simp
    first | done | exact ⟨rfl, rfl⟩ | rfl | (exact ⟨by go_num, rfl⟩) | (simp; done) | trace_state
  simp only [Act.put, List.setIfInBounds_toArray, List.set_cons_zero, List.set_cons_succ]
  apply ag.walk_val
  · rfl
  · intro W1 hS hE
    clear hS hE
    unfold ag.does
    go_simp
    first | done | exact ⟨rfl, rfl⟩ | rfl | (exact ⟨by go_num, rfl⟩) | (simp; done) | trace_state
  simp only [Act.put, List.setIfInBounds_toArray, List.set_cons_zero, List.set_cons_succ]
  apply ag.walk_val
  · rfl
  · intro W1 hS hE
    clear hS hE
    unfold ag.does
    go_simp
    first | done | exact ⟨rfl, rfl⟩ | rfl | (exact ⟨by go_num, rfl⟩) | (simp; done) | trace_state
  simp only [Act.put, List.setIfInBounds_toArray, List.set_cons_zero, List.set_cons_succ]
  refine ag.walk_such (by rfl) (fun W1 hS hE => ?_) (fun y13 => ?_)
  · clear hE
    have hk := HUS.out W1 (HBb.out.trans (hS.mono HBb.out.size))
    unfold ag.does
    go_simp
    first | done | (refine hk.mono ?_; rintro e W2 ⟨v, rfl, hv, hb⟩; exact ⟨_, rfl, hv, hb⟩)
  simp only [Act.put, List.setIfInBounds_toArray, List.set_cons_zero, List.set_cons_succ]
  apply ag.walk_val
  · rfl
  · intro W1 hS hE
    obtain ⟨y0, y1, yl⟩ := HF.out W1 (HBb.out.trans (hS.mono HBb.out.size))
    clear hS hE
    unfold ag.does
    go_simp
    first | done | exact ⟨rfl, rfl⟩ | rfl | (exact ⟨by go_num, rfl⟩) | (simp; done) | trace_state
  simp only [Act.put, List.setIfInBounds_toArray, List.set_cons_zero, List.set_cons_succ]
  apply ag.walk_val
  · rfl
  · intro W1 hS hE
    clear hS hE
    unfold ag.does
    go_simp
    first | done | exact ⟨rfl, rfl⟩ | rfl | (exact ⟨by go_num, rfl⟩) | (simp; done) | trace_state
  simp only [Act.put, List.setIfInBounds_toArray, List.set_cons_zero, List.set_cons_succ]
  refine ag.walk_such (by rfl) (fun W1 hS hE => ?_) (fun y16 => ?_)
  · clear hE
    have hk := HRU.out W1 (HBb.out.trans (hS.mono HBb.out.size))
    unfold ag.does
    go_simp
    first | done | (refine hk.mono ?_; rintro e W2 ⟨v, rfl, hv, hb⟩; exact ⟨_, rfl, hv, hb⟩)
  simp only [Act.put, List.setIfInBounds_toArray, List.set_cons_zero, List.set_cons_succ]
  refine ag.walk_such (by rfl) (fun W1 hS hE => ?_) (fun y17 => ?_)
  · have b1 := hE.of 13 (by kernel_rfl)
    have b2 := hE.of 16 (by kernel_rfl)
    simp only [ag.lookE, if_true, Nat.reduceEqDiff, if_false] at b1 b2
    clear hE
    have hk := HSU.out W1 _ _ b1 b2
    unfold ag.does
    go_simp
    first | done | (refine hk.mono ?_; rintro e W2 ⟨rfl, hb⟩; exact ⟨_, rfl, rfl, hb⟩)
  simp only [Act.put, List.setIfInBounds_toArray, List.set_cons_zero, List.set_cons_succ]
  apply ag.walk_val
  · rfl
  · intro W1 hS hE
    have box := hE.of 17 (by kernel_rfl)
    simp only [ag.lookE, if_true, Nat.reduceEqDiff, if_false] at box
    subst box
    clear hS hE
    unfold ag.does
    go_simp
    first | done | exact ⟨rfl, rfl⟩ | rfl | (exact ⟨by go_num, rfl⟩) | (simp; done) | trace_state
  simp only [Act.put, List.setIfInBounds_toArray, List.set_cons_zero, List.set_cons_succ]
  apply ag.walk_val
  · rfl
  · intro W1 hS hE
    clear hS hE
    unfold ag.does
    go_simp
    first | done | exact ⟨rfl, rfl⟩ | rfl | (exact ⟨by go_num, rfl⟩) | (simp; done) | trace_state
  simp only [Act.put, List.setIfInBounds_toArray, List.set_cons_zero, List.set_cons_succ]
  refine ag.walk_nil (fun w9 hS hF hP => ?_)
  clear hP
  have HB9 := Lib.hid (HBb.out.trans (hS.mono HBb.out.size))
  clear hF hS
  obtain ⟨TI9, hTI⟩ : ∃ b, isIn k S.tn = b := ⟨_, rfl⟩
  have htb := HTB.out k w9 HB9.out
  unfold TablePost at htb
  rw [hTI] at htb
  have HTK := Lib.hid htb
  clear htb
  go_upto_region 6 with (go_at_call 14; refine HTK.out.mono ?_; rintro ee w10 ⟨ta, tc, tnm, tk, rfl, -, -, hb10⟩; have HB10 := Lib.hid (HB9.out.trans (hb10.mono HB9.out.size)); clear hb10)
  have HB11 := Lib.hid (HB10.out.alloc HB10.out.size (.cells #[.string tnm, .slice ta (S.cols k).length tc, .int .i64 tk] TTb))
  obtain ⟨y0, y1, yl⟩ := HF.out _ HB11.out
  cases TI9
  all_goals
    go_upto_region 8 with (go_at_call 34; refine (HFI.out _ HB11.out).mono ?_; rintro ee w12 ⟨fi, rfl, hpl, hb12⟩; have hpi := place_in hpl; rw [hTI] at hpi; have HB12 := Lib.hid (HB11.out.trans (hb12.mono HB11.out.size)); clear hpl hb12)
    clear y0 y1 yl
    go_wp2_with fail
    go_loopw [13] (fun iv wr => ∃ i : Nat, iv = .int .i64 (i : Int) ∧ i ≤ n ∧ Hid (Below W1.heap.size W1 wr)) (fun iv _ => n - (intOf iv).toNat)
    case atStart => exact ⟨0, rfl, Nat.zero_le _, HB12⟩
    case round =>
      obtain ⟨i, rfl, hi, HB⟩ := hrel
      have i0 : (0 : Int) ≤ (i : Int) := by omega
      obtain ⟨y0, y1, yl⟩ := HF.out _ HB.out
      by_cases hin : i < n
      · have di : (i : Int) < (n : Int) := by omega
        have hju : i < ts.length := by rw [HT.out.1]; exact hin
        have hx := List.getElem?_eq_getElem hju
        generalize ts[i] = x at hx
        obtain ⟨b, off, rfl, hc⟩ := te_at (HT.out.2.2.1.later HB1.out) hin hx
        have hxm := List.mem_of_getElem? hx
        obtain ⟨q1, q2, q3, q4⟩ := HT.out.2.2.2 x hxm
        have hxin : x.nm ∈ S.tn := by rw [← HTN.out]; exact List.mem_map.2 ⟨x, hxm, rfl⟩
        have htb := HTB.out x.nm wr HB.out
        unfold TablePost at htb
        rw [show S.cols x.nm = (S.tb x.nm).1 from by unfold CatS.cols; rw [isIn_yes hxin, if_pos rfl], isIn_yes hxin, ← q1, ← q2] at htb
        obtain ⟨L, hL⟩ : ∃ L, (S.tb x.nm).1 = L := ⟨_, rfl⟩
        rw [hL] at htb q1 q4
        have HTX := Lib.hid (htb.mono (fun e w' h => show TPost x.nm L x.n x.k wr e w' from by
          obtain ⟨a9, c9, nm9, key9, h1, h2, h3, h4⟩ := h
          obtain ⟨rfl, rfl⟩ := h3 hxin
          exact ⟨a9, c9, h1, h2, h4⟩))
        have HC := Lib.hid hc
        have HRX := Lib.hid q4
        have HL := Lib.hid q1.symm
        obtain ⟨c0, c1, c2, cl⟩ := hc wr HB.out
        clear hc hx hxm q1 q2 q4 hxin htb hL
        obtain ⟨xn, xa, xl, xc, xk⟩ := x
        dsimp only at HTX HC HRX HL c0 c1 c2 q3
        have l0 : (0 : Int) ≤ (xl : Int) := by omega
        have l1 : (xl : Int) ≤ 1000000 := by omega
        go_upto_region 12 with (go_at_call 14; refine HTX.out.mono ?_; rintro ee w13 ⟨ta, tc, rfl, hrt, hb13⟩; have HRT := Lib.hid hrt; have HB13 := Lib.hid (HB.out.trans (hb13.mono HB.out.size)); clear hrt hb13)
        obtain ⟨W14, hW14⟩ : ∃ W, w13.alloc (.cells #[.string xn, .slice ta xl tc, .int .i64 xk] TTb) = W := ⟨_, rfl⟩
        obtain ⟨g14, hg14⟩ : ∃ g, w13.heap.size = g := ⟨_, rfl⟩
        have hb14 : Below w13.heap.size w13 W14 := by rw [← hW14]; exact (Below.refl _ _).alloc (Nat.le_refl _) _
        have hf14 : Flds W14 g14 TTb [.string xn, .slice ta xl tc, .int .i64 xk] := by rw [← hW14, ← hg14]; exact Flds.new w13 _ _
        have HB14 := Lib.hid (HB13.out.trans (hb14.mono HB13.out.size))
        have HF14 := Lib.hid (fun (W : World) (hb : Below W14.heap.size W14 W) => And.intro ((hf14.later hb).cell 0) (And.intro ((hf14.later hb).cell 1) (And.intro ((hf14.later hb).cell 2) (hf14.later hb).lt)))
        simp only [List.getElem?_cons_zero, List.getElem?_cons_succ] at HF14
        have HRT14 := Lib.hid (HRT.out.later hb14)
        have HRX14 := Lib.hid (HRX.out.later (HB1.out.trans (HB14.out.mono HB1.out.size)))
        rw [hW14, hg14]
        clear y0 y1 yl c0 c1 c2 cl hb14 hf14 hW14 hg14
        obtain ⟨y0, y1, yl⟩ := HF.out _ HB14.out
        obtain ⟨c0, c1, c2, cl⟩ := HC.out _ HB14.out
        obtain ⟨e0, e1, e2, el⟩ := HF14.out W14 (Below.refl _ _)
        go_quiet (fail)
        have HBQ := Lib.hid (below_drewN' (Below.refl W14.heap.size W14) nq)
        clear y0 y1 yl c0 c1 c2 cl e0 e1 e2 el
        go_wp2_with fail
        go_loopw [16] (fun iv wq => ∃ j : Nat, iv = .int .i64 (j : Int) ∧ j ≤ xl ∧ Hid (Below W14.heap.size W14 wq)) (fun iv _ => xl - (intOf iv).toNat)
        case atStart => exact ⟨0, rfl, Nat.zero_le _, HBQ⟩
        case round =>
          obtain ⟨j, rfl, hj, HBJ⟩ := hrel
          have j0 : (0 : Int) ≤ (j : Int) := by omega
          have HBJ1 := Lib.hid (HB14.out.trans (HBJ.out.mono HB14.out.size))
          obtain ⟨y0, y1, yl⟩ := HF.out _ HBJ1.out
          obtain ⟨c0, c1, c2, cl⟩ := HC.out _ HBJ1.out
          obtain ⟨e0, e1, e2, el⟩ := HF14.out _ HBJ.out
          by_cases hjl : j < xl
          · have dj : (j : Int) < (xl : Int) := by omega
            have hjx : j < L.length := by rw [HL.out]; exact hjl
            have hz := List.getElem?_eq_getElem hjx
            generalize L[j] = z at hz
            obtain ⟨b1, off1, rfl, hd⟩ := cn_at HRT14.out hjl hz
            obtain ⟨b2, off2, rfl, hf⟩ := cn_at HRX14.out hjl hz
            obtain ⟨d0, d1, d2, dl⟩ := hd _ HBJ.out
            obtain ⟨f0, f1, f2, fl⟩ := hf _ HBJ.out
            clear hd hf hz
            obtain ⟨zn, zk, zb⟩ := z
            dsimp only at d0 d1 d2 f0 f1 f2
            go_upto_region 17 with fail
            go_quiet (fail)
            have HBQ2 := Lib.hid (below_drewN' HBJ.out nq)
            clear y0 y1 yl c0 c1 c2 cl e0 e1 e2 el d0 d1 d2 dl f0 f1 f2 fl
            go_wp2_with fail
            go_roundw
            case rel => exact ⟨j + 1, by go_num, by omega, HBQ2⟩
            case measure => simp [intOf]; omega
          · have dj : ¬ (j : Int) < (xl : Int) := by omega
            clear hjl
            go_wp2_with fail
            go_roundw
            case rel => exact ⟨i + 1, by go_num, by omega, HBJ1⟩
            case measure => simp [intOf]; omega
      · have di : ¬ (i : Int) < (n : Int) := by omega
        clear hin
        go_wp2_with fail
        go_ret
        exact ⟨rfl, HB1.out.trans (HB.out.mono HB1.out.size)⟩
end Go.Proofs.Ythhcjmikkiiahaa.cat
