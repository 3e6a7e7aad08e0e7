/- A table is made; walked. -/
import Derived.Test.YthhcjmikkiiahaaCatE
import Derived.Test.YthhcjmikkiiahaaCatF
namespace Go.Proofs.Ythhcjmikkiiahaa.cat
set_option linter.unusedVariables false
open Go.RowKit Go.WideShapes Go.MapKept
/-- the place of the key, from a place on -/
def keyFrom : List Cn → Nat → Int
  | [], _ => -1
  | x :: l, i => if x.key then (i : Int) else keyFrom l (i + 1)
set_option maxRecDepth 100000 in
set_option maxHeartbeats 400000 in
theorem keyfn_any (xn : ByteArray) (xk : Int) (xb : Bool) (w : World) : Calls Try.prog 42 #[.agg #[.string xn, .int .i64 xk, .bool xb]] w fun en w' => en = .returned (.bool xb) ∧ Below w.heap.size w w' := by
  go_enter Try.func42, Try.ntmps42
  go_wp2_with fail
  go_ret
  exact ⟨rfl, (Below.refl _ _).alloc (Nat.le_refl _) _⟩
set_option maxRecDepth 100000 in
set_option maxHeartbeats 2000000 in
theorem indexf_any (a : Option Addr) (n c : Nat) (l : List Cn) (hn : l.length = n) (hn1 : n ≤ 1000000) (w : World) (hr : Row w (.slice a n c) 3 n (cnCells l)) :
    Calls Try.prog 41 #[.slice a n c, .func (.func 42) #[] #[]] w fun en w' => en = .returned (.int .i64 (keyFrom l 0)) ∧ Below w.heap.size w w' := by
  have HR := Lib.hid hr
  have HN := Lib.hid hn
  have n0 : (0 : Int) ≤ (n : Int) := by omega
  have n1 : (n : Int) ≤ 1000000 := by omega
  clear hr hn
  go_enter Try.func41, Try.ntmps41
  go_wp2_with fail
  go_loopw [8] (fun iv wr => ∃ j : Nat, iv = .int .i64 (j : Int) ∧ j ≤ n ∧ Hid (Below w.heap.size w wr) ∧ Hid (keyFrom l 0 = keyFrom (l.drop j) j)) (fun iv _ => n - (intOf iv).toNat)
  case atStart => exact ⟨0, rfl, Nat.zero_le _, Lib.hid (Below.refl _ _), Lib.hid (by rw [List.drop_zero])⟩
  case round =>
    obtain ⟨j, rfl, hj, HB, HK⟩ := hrel
    have j0 : (0 : Int) ≤ (j : Int) := by omega
    by_cases hjn : j < n
    · have dj : (j : Int) < (n : Int) := by omega
      have hju : j < l.length := by rw [HN.out]; exact hjn
      have hx := List.getElem?_eq_getElem hju
      have hdr := List.drop_eq_getElem_cons hju
      generalize l[j] = x at hx hdr
      obtain ⟨b, off, rfl, hc⟩ := cn_at HR.out hjn hx
      obtain ⟨c0, c1, c2, cl⟩ := hc wr HB.out
      have HD := Lib.hid hdr
      clear hc hx hdr
      obtain ⟨xn, xk, xb⟩ := x
      dsimp only at c0 c1 c2
      have HF := Lib.hid (keyfn_any xn xk xb wr)
      cases xb with
      | true =>
        have HE : Hid (keyFrom l 0 = (j : Int)) := Lib.hid (by rw [HK.out, HD.out]; rfl)
        go_wp2_with (go_at_call 42; refine HF.out.mono ?_; rintro ee w2 ⟨rfl, hb2⟩; have HB2 := Lib.hid hb2; clear hb2)
        go_ret
        exact ⟨(by (rw [HE.out]) <;> rfl), HB.out.trans (HB2.out.mono HB.out.size)⟩
      | false =>
        have HE : Hid (keyFrom l 0 = keyFrom (l.drop (j + 1)) (j + 1)) := Lib.hid (by rw [HK.out, HD.out]; rfl)
        go_wp2_with (go_at_call 42; refine HF.out.mono ?_; rintro ee w2 ⟨rfl, hb2⟩; have HB2 := Lib.hid hb2; clear hb2)
        go_roundw
        case rel => exact ⟨j + 1, by go_num, by omega, Lib.hid (HB.out.trans (HB2.out.mono HB.out.size)), HE⟩
        case measure => simp [intOf]; omega
    · have hje : n = j := by omega
      subst hje
      have dj : ¬ (n : Int) < (n : Int) := by omega
      have HE : Hid (keyFrom l 0 = -1) := Lib.hid (by rw [HK.out, List.drop_of_length_le (by rw [HN.out]; exact Nat.le_refl _)]; rfl)
      clear hjn
      go_wp2_with fail
      go_ret
      exact ⟨(by (rw [HE.out]) <;> rfl), HB.out⟩
/-- what a made table answers -/
noncomputable def makeErr (S : CatS) (k : ByteArray) (l : List Cn) : Int :=
  if isIn k S.tn || isIn k S.vn then 7 else if 8 ≤ S.tn.length then 14 else checkE l
noncomputable def CatS.make (S : CatS) (k : ByteArray) (l : List Cn) : CatS := if makeErr S k l = 0 then { S with tn := S.tn ++ [k], tb := upd S.tb k (l, keyFrom l 0) } else S
section
variable {bs bt bv m : Nat} {S : CatS} {w w' : World} {Dt Dv : Dat} {ft : ByteArray → TE} {fv : ByteArray → VE}
set_option maxRecDepth 100000 in
set_option maxHeartbeats 8000000 in
theorem make_any (h : Cat bs bt bv m S w Dt Dv ft fv) (hm : m ≤ 1000000) (k : ByteArray) (hk : k.size ≤ maxLen) (a : Option Addr) (n c : Nat) (l : List Cn) (hn : l.length = n) (hn1 : n ≤ 1000000) (hr : Row w (.slice a n c) 3 n (cnCells l)) (hnil : a = none → n = 0 ∧ c = 0) :
    Calls Try.prog 16 #[.pointer (some ⟨bs, 0, none⟩), .string k, .slice a n c] w (CatPost bs bt bv (m + 1) (S.make k l) w (makeErr S k l)) := by
  have HH := Lib.hid (has_any h k)
  have HC := Lib.hid h
  have HCL := Lib.hid (fun (W : World) (hb : Below w.heap.size w W) => cloneC_any a n c l hn hn1 W (hr.later hb) hnil)
  have HN := Lib.hid hn
  have n0 : (0 : Int) ≤ (n : Int) := by omega
  have n1 : (n : Int) ≤ 1000000 := by omega
  obtain ⟨A, hA⟩ : ∃ A, (isIn k S.tn || isIn k S.vn) = A := ⟨_, rfl⟩
  rw [hA] at HH
  clear h hr hnil hn
  go_enter Try.func16, Try.ntmps16
  cases A with
  | true =>
    have he : makeErr S k l = 7 := by unfold makeErr; rw [hA, if_pos rfl]
    have hS : S.make k l = S := by unfold CatS.make; rw [he, if_neg (by decide)]
    have HEE := Lib.hid he; have HSS := Lib.hid hS
    clear hA he hS
    go_wp2_with (go_at_call 36; refine HH.out.mono ?_; rintro ee w1 ⟨rfl, hb⟩; have HB := Lib.hid hb; clear hb)
    go_ret
    rw [HEE.out, HSS.out]
    exact CatPost.same HC.out HB.out 7 (by omega)
  | false =>
    obtain ⟨L, hL⟩ : ∃ L, S.tn.length = L := ⟨_, rfl⟩
    have HLN := Lib.hid (fun (W : World) (hb : Below w.heap.size w W) (ty : TypeId) => (HC.out.later hb).mt.len Try.underlying98 ty)
    rw [hL] at HLN
    by_cases h8 : 8 ≤ L
    · have he : makeErr S k l = 14 := by unfold makeErr; rw [hA, if_neg (by decide), if_pos (by omega)]
      have hS : S.make k l = S := by unfold CatS.make; rw [he, if_neg (by decide)]
      have HEE := Lib.hid he; have HSS := Lib.hid hS
      have d8 : (8 : Int) ≤ (L : Int) := by omega
      clear hA he hS hL
      go_wp2_with (go_at_call 36; refine HH.out.mono ?_; rintro ee w1 ⟨rfl, hb⟩; have HB := Lib.hid hb; have hln := HLN.out w1 hb; have q1 := (HC.out.later hb).fl.cell 0; have l1 := (HC.out.later hb).fl.lt; (simp only [List.getElem?_cons_zero, List.getElem?_cons_succ] at q1); clear hb)
      go_ret
      rw [HEE.out, HSS.out]
      exact CatPost.same HC.out HB.out 14 (by omega)
    · have d8 : ¬ (8 : Int) ≤ (L : Int) := by omega
      have HA := Lib.hid hA
      have HL := Lib.hid hL
      clear hA hL
      have HME : Hid (makeErr S k l = checkE l) := Lib.hid (by unfold makeErr; rw [HA.out, if_neg (by decide), if_neg (by rw [HL.out]; omega)])
      go_upto_region 8 with (first
        | (go_at_call 36; refine HH.out.mono ?_; rintro ee w1 ⟨rfl, hb⟩; have HB := Lib.hid hb; have hln := HLN.out w1 hb; have q1 := (HC.out.later hb).fl.cell 0; have l1 := (HC.out.later hb).fl.lt; (simp only [List.getElem?_cons_zero, List.getElem?_cons_succ] at q1); clear hb)
        | (go_at_call 39; refine (HCL.out w1 HB.out).mono ?_; rintro ee w2 ⟨a2, c2, rfl, ok2, hr2, hbk, -, hnl2, hb2⟩; have HCP := Lib.hid (And.intro ok2 (And.intro hr2 (And.intro hbk hb2))); have HNL := Lib.hid hnl2; clear ok2 hr2 hbk hb2 hnl2))
      obtain ⟨W3, hW3⟩ : ∃ W, w2.alloc (.cells #[.string k, .slice a2 n c2, .int .i64 0] TTb) = W := ⟨_, rfl⟩
      obtain ⟨gT, hgT⟩ : ∃ g, w2.heap.size = g := ⟨_, rfl⟩
      have hf3 : Flds W3 gT TTb [.string k, .slice a2 n c2, .int .i64 0] := by rw [← hW3, ← hgT]; exact Flds.new w2 TTb _
      have hb3 : Below w2.heap.size w2 W3 := by rw [← hW3]; exact (Below.refl _ _).alloc (Nat.le_refl _) _
      have hb12 : Below w.heap.size w w2 := HB.out.trans (HCP.out.2.2.2.mono HB.out.size)
      have hr3 : Row W3 (.slice a2 n c2) 3 n (cnCells l) := HCP.out.2.1.later hb3
      have hgw : w.heap.size ≤ gT := by rw [← hgT]; exact hb12.size
      have hblk : ∀ b, (Value.slice a2 n c2).ownBlock = some b → w.heap.size ≤ b ∧ b < gT := fun b e => by
        have h1 := HCP.out.2.2.1 b e
        rw [← hgT]
        exact ⟨Nat.le_trans HB.out.size h1.1, h1.2⟩
      have HB3 : Hid (Below w.heap.size w W3) := Lib.hid (hb12.trans (hb3.mono hb12.size))
      have HF3 := Lib.hid (fun (W : World) (hb : Below W3.heap.size W3 W) => hf3.later hb)
      have HCK := Lib.hid (check_any k 0 a2 n c2 l HN.out hn1 W3 hr3)
      have HIX := Lib.hid (fun (W : World) (hb : Below W3.heap.size W3 W) => indexf_any a2 n c2 l HN.out hn1 W (hr3.later hb))
      have HR3 := Lib.hid hr3
      have HGW := Lib.hid (And.intro hgw hblk)
      have HOK := Lib.hid HCP.out.1
      rw [hW3, hgT]
      obtain ⟨y0, y1, y2, yl⟩ : W3.cell? ⟨gT, 0, none⟩ = some (.string k) ∧ W3.cell? ⟨gT, 1, none⟩ = some (.slice a2 n c2) ∧ W3.cell? ⟨gT, 2, none⟩ = some (.int .i64 0) ∧ gT < W3.heap.size := ⟨hf3.cell 0, hf3.cell 1, hf3.cell 2, hf3.lt⟩
      clear hW3 hgT hf3 hb3 hb12 hr3 hgw hblk HCP
      obtain ⟨E, hE⟩ : ∃ E, checkE l = E := ⟨_, rfl⟩
      rw [hE] at HCK HME
      clear hE
      by_cases hE0 : E = 0
      · subst hE0
        have HSS : Hid (S.make k l = { S with tn := S.tn ++ [k], tb := upd S.tb k (l, keyFrom l 0) }) := Lib.hid (by unfold CatS.make; rw [HME.out, if_pos rfl])
        have htn : k ∉ S.tn := fun hm => by
          have := HA.out
          rw [isIn_yes hm] at this
          simp at this
        have HTN := Lib.hid htn
        clear htn
        obtain ⟨KF, hKF⟩ : ∃ K, keyFrom l 0 = K := ⟨_, rfl⟩
        rw [hKF] at HIX HSS
        clear hKF
        go_upto_region 11 with (go_at_call 40; refine HCK.out.mono ?_; rintro ee w4 ⟨rfl, hb4⟩; have HB4 := Lib.hid hb4; clear hb4)
        clear y0 y1 y2 yl
        have hf4 := HF3.out w4 HB4.out
        obtain ⟨y1, yl⟩ : w4.cell? ⟨gT, 1, none⟩ = some (.slice a2 n c2) ∧ gT < w4.heap.size := ⟨hf4.cell 1, hf4.lt⟩
        clear hf4
        go_upto_region 12 with (go_at_call 41; refine (HIX.out w4 HB4.out).mono ?_; rintro ee w5 ⟨rfl, hb5⟩; have HB5 := Lib.hid (HB4.out.trans (hb5.mono HB4.out.size)); have hf5 := HF3.out w5 HB5.out; have u2 := hf5.cell 2; have ul := hf5.lt; have uz := hf5.frozen 2; (simp only [List.getElem?_cons_zero, List.getElem?_cons_succ] at u2); clear hb5 hf5)
        obtain ⟨W6, hW6⟩ : ∃ W, w5.setCell ⟨gT, 2, none⟩ (.int .i64 KF) = W := ⟨_, rfl⟩
        have hf6 : Flds W6 gT TTb [.string k, .slice a2 n c2, .int .i64 KF] := by rw [← hW6]; exact (HF3.out w5 HB5.out).set 2 _
        have hb5w : Below w.heap.size w w5 := HB3.out.trans (HB5.out.mono HB3.out.size)
        have hb6 : Below w.heap.size w W6 := by rw [← hW6]; exact hb5w.grown (grown_setCell _ _ _) hb5w.size (fun j e => by cases e; exact HGW.out.1)
        have hr6 : Row W6 (.slice a2 n c2) 3 n (cnCells l) := by rw [← hW6]; exact (HR3.out.later HB5.out).grown (grown_setCell _ _ _) (fun b e e2 => by have h := (HGW.out.2 b e).2; have h2 : b = gT := (by simpa using e2); omega)
        rw [hW6]
        have HF6 := Lib.hid hf6; have HB6 := Lib.hid hb6; have HR6 := Lib.hid hr6
        clear hW6 hf6 hb5w hb6 hr6 u2 ul uz y1 yl
        apply ag.region_calm_tail 6 (ag.Spec.val _ :: ag.Spec.val _ :: ag.Spec.val _ :: ag.Spec.val _ :: ag.Spec.val _ :: ag.Spec.val _ :: [])
        case hm => kernel_rfl
        case hB => kernel_rfl
        case hlen => rfl
        case hc => exact trivial
        simp only [List.take_succ_cons, List.take_zero, List.drop_succ_cons, List.drop_zero]
        apply ag.walk_val
        · rfl
        · intro W1 hS hE
          clear hS hE
          unfold ag.does
          go_simp
          first | done | exact ⟨rfl, rfl⟩ | rfl | (exact ⟨by go_num, rfl⟩) | (simp; done) | trace_state
        simp only [Act.put, List.setIfInBounds_toArray, List.set_cons_zero, List.set_cons_succ]
        apply ag.walk_val
        · rfl
        · intro W1 hS hE
          clear hS hE
          unfold ag.does
          go_simp
          first | done | exact ⟨rfl, rfl⟩ | rfl | (exact ⟨by go_num, rfl⟩) | (simp; done) | trace_state
        simp only [Act.put, List.setIfInBounds_toArray, List.set_cons_zero, List.set_cons_succ]
        apply ag.walk_val
        · rfl
        · intro W1 hS hE
          clear hS hE
          unfold ag.does
          go_simp
          first | done | exact ⟨rfl, rfl⟩ | rfl | (exact ⟨by go_num, rfl⟩) | (simp; done) | trace_state
        simp only [Act.put, List.setIfInBounds_toArray, List.set_cons_zero, List.set_cons_succ]
        apply ag.walk_val
        · rfl
        · intro W1 hS hE
          have hcw := HC.out.later (HB6.out.trans (hS.mono HB6.out.size))
          have q1 := hcw.fl.cell 0
          have l1 := hcw.fl.lt
          (simp only [List.getElem?_cons_zero, List.getElem?_cons_succ] at q1)
          clear hcw
          clear hS hE
          unfold ag.does
          go_simp
          first | done | exact ⟨rfl, rfl⟩ | rfl | (exact ⟨by go_num, rfl⟩) | (simp; done) | trace_state
        simp only [Act.put, List.setIfInBounds_toArray, List.set_cons_zero, List.set_cons_succ]
        apply ag.walk_val
        · rfl
        · intro W1 hS hE
          clear hS hE
          unfold ag.does
          go_simp
          first | done | exact ⟨rfl, rfl⟩ | rfl | (exact ⟨by go_num, rfl⟩) | (simp; done) | trace_state
        simp only [Act.put, List.setIfInBounds_toArray, List.set_cons_zero, List.set_cons_succ]
        apply ag.walk_val
        · rfl
        · intro W1 hS hE
          have hf := HF6.out.later hS
          have y0 := hf.cell 0
          have y1 := hf.cell 1
          have y2 := hf.cell 2
          have yl := hf.lt
          (simp only [List.getElem?_cons_zero, List.getElem?_cons_succ] at y0 y1 y2)
          clear hf
          clear hS hE
          unfold ag.does
          go_simp
          first | done | exact ⟨rfl, rfl⟩ | rfl | (exact ⟨by go_num, rfl⟩) | (simp; done) | trace_state
        simp only [Act.put, List.setIfInBounds_toArray, List.set_cons_zero, List.set_cons_succ]
        refine ag.walk_nil (fun w9 hS hF hP => ?_)
        clear hP
        have hbz := HB6.out.trans (hS.mono HB6.out.size)
        have hcw := HC.out.later hbz
        obtain ⟨w', e1, e2, e3⟩ := hcw.putTable k hk HTN.out (by unfold maxLen; omega) ⟨k, a2, n, c2, KF⟩ HOK.out HNL.out l rfl HN.out.symm (HR6.out.later hS) (fun b hb => HC.out.blocks (HGW.out.2 b hb).1)
        have HFIN : Hid (Only (Own3 bs bt bv) w w') := Lib.hid ((Only.of_below (own := Own3 bs bt bv) hbz).trans e3 (fun _ _ h => h))
        have HE2 := Lib.hid e2
        unfold TE.val at e1
        dsimp only at e1
        clear hF hS hbz hcw e2 e3
        go_wp2_with fail
        go_ret
        rw [HME.out, HSS.out]
        exact ⟨rfl, HFIN.out, _, _, _, _, HE2.out⟩
      · have HSS : Hid (S.make k l = S) := Lib.hid (by unfold CatS.make; rw [HME.out, if_neg hE0])
        have t1 : (E != 0) = true := by simp; exact hE0
        clear hE0
        go_wp2_with (go_at_call 40; refine HCK.out.mono ?_; rintro ee w4 ⟨rfl, hb4⟩; have HB4 := Lib.hid hb4; clear hb4)
        go_ret
        rw [HME.out, HSS.out]
        exact CatPost.same HC.out (HB3.out.trans (HB4.out.mono HB3.out.size)) E (by omega)
end
end Go.Proofs.Ythhcjmikkiiahaa.cat
