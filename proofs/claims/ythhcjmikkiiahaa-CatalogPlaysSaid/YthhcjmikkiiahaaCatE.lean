/- A view is added; walked. -/
import Derived.Test.YthhcjmikkiiahaaCatC
import Derived.Test.YthhcjmikkiiahaaAgT
import Derived.Deep.Cut
namespace Go.Proofs.Ythhcjmikkiiahaa.cat
set_option linter.unusedVariables false
open Go.RowKit Go.WideShapes Go.MapKept
/-- what an added view answers -/
def viewErr (S : CatS) (k : ByteArray) (us : List ByteArray) : Int :=
  if isIn k S.tn || isIn k S.vn then 7 else if 8 ≤ S.vn.length then 14 else if us.all (fun u => isIn u S.tn) then 0 else 6
def CatS.addView (S : CatS) (k : ByteArray) (us : List ByteArray) : CatS := { S with vn := S.vn ++ [k], vu := upd S.vu k us }
def CatS.view (S : CatS) (k : ByteArray) (us : List ByteArray) : CatS := if viewErr S k us = 0 then S.addView k us else S
section
variable {bs bt bv m : Nat} {S : CatS} {w w' : World} {Dt Dv : Dat} {ft : ByteArray → TE} {fv : ByteArray → VE}
/-- what an act leaves -/
def CatPost (bs bt bv m : Nat) (S' : CatS) (w : World) (err : Int) (e : Ending) (w' : World) : Prop := e = .returned (.int .i64 err) ∧ Only (Own3 bs bt bv) w w' ∧ ∃ Dt' Dv' ft' fv', Cat bs bt bv m S' w' Dt' Dv' ft' fv'
theorem CatPost.same (h : Cat bs bt bv m S w Dt Dv ft fv) (hb : Below w.heap.size w w') (err : Int) {m' : Nat} (hm : m ≤ m') : CatPost bs bt bv m' S w err (.returned (.int .i64 err)) w' :=
  ⟨rfl, Only.of_below hb, _, _, _, _, (h.later hb).mono hm⟩
/-- a copy, alone and in a struct of one field -/
def VC (w : World) (n : Nat) (xs : List Value) : Value → World → Prop := fun v W => ∃ (a : Option Addr) (c : Nat), v = .slice a n c ∧ adOk a = true ∧ Row W (.slice a n c) 1 n xs ∧ ∀ b, (Value.slice a n c).ownBlock = some b → w.heap.size ≤ b
def VB (w : World) (n : Nat) (xs : List Value) : Value → World → Prop := fun v W => ∃ (a : Option Addr) (c : Nat), v = .agg #[.slice a n c] ∧ adOk a = true ∧ Row W (.slice a n c) 1 n xs ∧ ∀ b, (Value.slice a n c).ownBlock = some b → w.heap.size ≤ b
theorem VC.lasts {w W W' : World} {n : Nat} {xs : List Value} {v : Value} (h : VC w n xs v W) (hb : Below W.heap.size W W') : VC w n xs v W' := by
  obtain ⟨a, c, h1, h2, h3, h4⟩ := h
  exact ⟨a, c, h1, h2, h3.later hb, h4⟩
theorem VB.lasts {w W W' : World} {n : Nat} {xs : List Value} {v : Value} (h : VB w n xs v W) (hb : Below W.heap.size W W') : VB w n xs v W' := by
  obtain ⟨a, c, h1, h2, h3, h4⟩ := h
  exact ⟨a, c, h1, h2, h3.later hb, h4⟩
theorem Cat.blocks (h : Cat bs bt bv m S w Dt Dv ft fv) {b : Nat} (hb : w.heap.size ≤ b) : ¬ Own3 bs bt bv b := by
  rintro (e | e | e)
  · have := h.fl.lt; omega
  · have := h.mt.own.lt; omega
  · have := h.mv.own.lt; omega
set_option maxRecDepth 100000 in
set_option maxHeartbeats 8000000 in
theorem view_any (h : Cat bs bt bv m S w Dt Dv ft fv) (hm : m ≤ 1000000) (k : ByteArray) (a : Option Addr) (n c : Nat) (us : List ByteArray) (hk : k.size ≤ maxLen ∨ ∃ u ∈ us, u ∉ S.tn) (hn : us.length = n) (hn1 : n ≤ 1000000) (hr : Row w (.slice a n c) 1 n (us.map Value.string)) (hnil : a = none → n = 0 ∧ c = 0) :
    Calls Try.prog 10 #[.pointer (some ⟨bs, 0, none⟩), .string k, .slice a n c] w (CatPost bs bt bv (m + 1) (S.view k us) w (viewErr S k us)) := by
  have HH := Lib.hid (has_any h k)
  have HC := Lib.hid h
  have HR := Lib.hid hr
  have HKS := Lib.hid hk
  have HCL := Lib.hid (fun (W : World) (hb : Below w.heap.size w W) => cloneS_any a n c us hn hn1 W (hr.later hb) hnil)
  have HN := Lib.hid hn
  have n0 : (0 : Int) ≤ (n : Int) := by omega
  have n1 : (n : Int) ≤ 1000000 := by omega
  obtain ⟨A, hA⟩ : ∃ A, (isIn k S.tn || isIn k S.vn) = A := ⟨_, rfl⟩
  rw [hA] at HH
  clear h hr hk hnil hn
  go_enter Try.func10, Try.ntmps10
  cases A with
  | true =>
    have he : viewErr S k us = 7 := by unfold viewErr; rw [hA, if_pos rfl]
    have hS : S.view k us = S := by unfold CatS.view; rw [he, if_neg (by decide)]
    rw [he, hS]
    clear hA he hS
    go_wp2_with (go_at_call 36; refine HH.out.mono ?_; rintro ee w1 ⟨rfl, hb⟩; have HB := Lib.hid hb; clear hb)
    go_ret
    exact CatPost.same HC.out HB.out 7 (by omega)
  | false =>
    obtain ⟨L, hL⟩ : ∃ L, S.vn.length = L := ⟨_, rfl⟩
    by_cases h8 : 8 ≤ L
    · have he : viewErr S k us = 14 := by unfold viewErr; rw [hA, if_neg (by decide), if_pos (by omega)]
      have hS : S.view k us = S := by unfold CatS.view; rw [he, if_neg (by decide)]
      rw [he, hS]
      have HLN := Lib.hid (fun (W : World) (hb : Below w.heap.size w W) (ty : TypeId) => (HC.out.later hb).mv.len Try.underlying99 ty)
      rw [hL] at HLN
      have d8 : (8 : Int) ≤ (L : Int) := by omega
      clear hA he hS hL
      go_wp2_with (go_at_call 36; refine HH.out.mono ?_; rintro ee w1 ⟨rfl, hb⟩; have HB := Lib.hid hb; have hln := HLN.out w1 hb; have q1 := (HC.out.later hb).fl.cell 1; have l1 := (HC.out.later hb).fl.lt; (simp only [List.getElem?_cons_zero, List.getElem?_cons_succ] at q1); clear hb)
      go_ret
      exact CatPost.same HC.out HB.out 14 (by omega)
    · have HLN := Lib.hid (fun (W : World) (hb : Below w.heap.size w W) (ty : TypeId) => (HC.out.later hb).mv.len Try.underlying99 ty)
      rw [hL] at HLN
      have d8 : ¬ (8 : Int) ≤ (L : Int) := by omega
      have HA := Lib.hid hA
      have HL := Lib.hid hL
      clear hA hL
      go_wp2_with (go_at_call 36; refine HH.out.mono ?_; rintro ee w1 ⟨rfl, hb⟩; have HB := Lib.hid hb; have hln := HLN.out w1 hb; have q1 := (HC.out.later hb).fl.cell 1; have l1 := (HC.out.later hb).fl.lt; (simp only [List.getElem?_cons_zero, List.getElem?_cons_succ] at q1); clear hb)
      go_loopw [24] (fun iv wr => ∃ j : Nat, iv = .int .i64 (j : Int) ∧ j ≤ n ∧ Hid (Below w.heap.size w wr) ∧ Hid (∀ i u, i < j → us[i]? = some u → u ∈ S.tn)) (fun iv _ => n - (intOf iv).toNat)
      case atStart => exact ⟨0, rfl, Nat.zero_le _, HB, Lib.hid (fun i u hi => by omega)⟩
      case round =>
        obtain ⟨j, rfl, hj, HBr, HIN⟩ := hrel
        have j0 : (0 : Int) ≤ (j : Int) := by omega
        clear hln q1 l1
        have HCr := Lib.hid (HC.out.later HBr.out)
        have q0 := HCr.out.fl.cell 0
        have q1 := HCr.out.fl.cell 1
        have l1 := HCr.out.fl.lt
        simp only [List.getElem?_cons_zero, List.getElem?_cons_succ] at q0 q1
        by_cases hjn : j < n
        · have dj : (j : Int) < (n : Int) := by omega
          have hju : j < us.length := by rw [HN.out]; exact hjn
          have hx := List.getElem?_eq_getElem hju
          generalize us[j] = x at hx
          obtain ⟨b, off, cap, e, hc⟩ := (HR.out.later HBr.out).pos (by omega)
          simp only [Value.slice.injEq] at e
          obtain ⟨rfl, -, rfl⟩ := e
          have hcj := hc j (by omega)
          rw [List.getElem?_map, hx] at hcj
          simp only [Option.map_some] at hcj
          have hlk := HCr.out.look_t x
          unfold TE.val at hlk
          have HX := Lib.hid hx
          generalize ft x = y at *
          obtain ⟨yn, ya, yl, yc, yk⟩ := y
          dsimp only at hlk
          clear hc hx
          cases hi : isIn x S.tn with
          | true =>
            rw [hi] at hlk
            have HI := Lib.hid (isIn_iff.1 hi)
            clear hi
            go_wp2_with fail
            go_roundw
            case rel => exact ⟨j + 1, by go_num, by omega, Lib.hid (HBr.out.alloc HBr.out.size _), Lib.hid (fun i u hi hu => by
              rcases (by omega : i < j ∨ i = j) with h | rfl
              · exact HIN.out i u h hu
              · rw [HX.out] at hu; cases hu; exact HI.out)⟩
            case measure => simp [intOf]; omega
          | false =>
            rw [hi] at hlk
            have he : viewErr S k us = 6 := by
              unfold viewErr
              rw [HA.out, if_neg (by decide), if_neg (by rw [HL.out]; omega), if_neg]
              intro hal
              have := List.all_eq_true.1 hal x (List.mem_of_getElem? HX.out)
              rw [hi] at this; cases this
            have hS : S.view k us = S := by unfold CatS.view; rw [he, if_neg (by decide)]
            rw [he, hS]
            clear hi he hS
            go_wp2_with fail
            go_ret
            exact CatPost.same HC.out (HBr.out.alloc HBr.out.size _) 6 (by omega)
        · have dj : ¬ (j : Int) < (n : Int) := by omega
          have he : viewErr S k us = 0 := by
            unfold viewErr
            rw [HA.out, if_neg (by decide), if_neg (by rw [HL.out]; omega), if_pos]
            refine List.all_eq_true.2 (fun u hu => ?_)
            obtain ⟨i, hi⟩ := List.getElem?_of_mem hu
            have hlt := (List.getElem?_eq_some_iff.1 hi).1
            exact isIn_yes (HIN.out i u (by have := HN.out; omega) hi)
          have hS : S.view k us = S.addView k us := by unfold CatS.view; rw [he, if_pos rfl]
          have HEE := Lib.hid he
          have HSS := Lib.hid hS
          clear he hS
          have hvn : k ∉ S.vn := fun hm => by
            have := HA.out
            rw [isIn_yes hm] at this
            simp at this
          have HVN := Lib.hid hvn
          have HKZ : Hid (k.size ≤ maxLen) := Lib.hid (by
            rcases HKS.out with h | ⟨u, hu, hnu⟩
            · exact h
            · exfalso
              obtain ⟨i, hi⟩ := List.getElem?_of_mem hu
              have hlt := (List.getElem?_eq_some_iff.1 hi).1
              exact hnu (HIN.out i u (by have := HN.out; omega) hi))
          clear hvn q0 q1 l1
          go_upto_region 14 with fail
          apply ag.region_calm_tail 8 (ag.Spec.val _ :: ag.Spec.val _ :: ag.Spec.val _ :: ag.Spec.val _ :: ag.Spec.val _ :: ag.Spec.val _ :: ag.Spec.sat (VC w n (us.map Value.string)) ag.grew :: ag.Spec.sat (VB w n (us.map Value.string)) ag.grew :: [])
          case hm => kernel_rfl
          case hB => kernel_rfl
          case hlen => rfl
          case hc => exact ⟨⟨(fun v W W' h hb => VC.lasts h hb), rfl⟩, ⟨(fun v W W' h hb => VB.lasts h hb), rfl⟩, trivial⟩
          simp only [List.take_succ_cons, List.take_zero, List.drop_succ_cons, List.drop_zero]
          apply ag.walk_val
          · rfl
          · intro W1 hS hE
            clear hS hE
            unfold ag.does
            go_simp
            first | done | exact ⟨rfl, rfl⟩ | rfl | (exact ⟨by go_num, rfl⟩) | (simp; done) | trace_state
          simp only [Act.put, List.setIfInBounds_toArray, List.set_cons_zero, List.set_cons_succ]
          apply ag.walk_val
          · rfl
          · intro W1 hS hE
            clear hS hE
            unfold ag.does
            go_simp
            first | done | exact ⟨rfl, rfl⟩ | rfl | (exact ⟨by go_num, rfl⟩) | (simp; done) | trace_state
          simp only [Act.put, List.setIfInBounds_toArray, List.set_cons_zero, List.set_cons_succ]
          apply ag.walk_val
          · rfl
          · intro W1 hS hE
            clear hS hE
            unfold ag.does
            go_simp
            first | done | exact ⟨rfl, rfl⟩ | rfl | (exact ⟨by go_num, rfl⟩) | (simp; done) | trace_state
          simp only [Act.put, List.setIfInBounds_toArray, List.set_cons_zero, List.set_cons_succ]
          apply ag.walk_val
          · rfl
          · intro W1 hS hE
            have hcw := HCr.out.later hS
            have q1 := hcw.fl.cell 1
            have l1 := hcw.fl.lt
            (simp only [List.getElem?_cons_zero, List.getElem?_cons_succ] at q1)
            clear hcw
            clear hS hE
            unfold ag.does
            go_simp
            first | done | exact ⟨rfl, rfl⟩ | rfl | (exact ⟨by go_num, rfl⟩) | (simp; done) | trace_state
          simp only [Act.put, List.setIfInBounds_toArray, List.set_cons_zero, List.set_cons_succ]
          apply ag.walk_val
          · rfl
          · intro W1 hS hE
            clear hS hE
            unfold ag.does
            go_simp
            first | done | exact ⟨rfl, rfl⟩ | rfl | (exact ⟨by go_num, rfl⟩) | (simp; done) | trace_state
          simp only [Act.put, List.setIfInBounds_toArray, List.set_cons_zero, List.set_cons_succ]
          apply ag.walk_val
          · rfl
          · intro W1 hS hE
            clear hS hE
            unfold ag.does
            go_simp
            first | done | exact ⟨rfl, rfl⟩ | rfl | (exact ⟨by go_num, rfl⟩) | (simp; done) | trace_state
          simp only [Act.put, List.setIfInBounds_toArray, List.set_cons_zero, List.set_cons_succ]
          refine ag.walk_such (by rfl) (fun W1 hS hE => ?_) (fun y6 => ?_)
          · have hbw := HBr.out.trans (hS.mono HBr.out.size)
            have hc := HCL.out W1 hbw
            have hsw := hbw.size
            clear hE
            unfold ag.does
            go_simp
            first | done | (exact hc.mono (fun e w' h => by obtain ⟨a', c', h1, h2, h3, h4, -, -, h5⟩ := h; exact ⟨_, h1, ⟨a', c', rfl, h2, h3, fun b hb => Nat.le_trans hsw (h4 b hb).1⟩, h5⟩))
          simp only [Act.put, List.setIfInBounds_toArray, List.set_cons_zero, List.set_cons_succ]
          refine ag.walk_such (by rfl) (fun W1 hS hE => ?_) (fun y7 => ?_)
          · have f6 : VC w n (us.map Value.string) y6 W1 := hE.of 6 (by kernel_rfl)
            clear hE
            obtain ⟨a', c', rfl, h2, h3, h4⟩ := f6
            unfold ag.does
            go_simp
            first | done | (exact ⟨⟨a', c', rfl, h2, h3, h4⟩, Below.refl _ _⟩)
          simp only [Act.put, List.setIfInBounds_toArray, List.set_cons_zero, List.set_cons_succ]
          refine ag.walk_nil (fun w9 hS hF hP => ?_)
          clear hP
          have f6 := hF.of 6
          have f7 := hF.of 7
          simp only [ag.lookE, Nat.reduceEqDiff, if_false, if_true] at f6 f7
          obtain ⟨a7, c7, rfl, k1, k2, k3⟩ := f7
          have hcw := HCr.out.later hS
          obtain ⟨w', e1, e2, e3⟩ := hcw.putView k HKZ.out HVN.out (by unfold maxLen; omega) ⟨a7, n, c7⟩ k1 us HN.out.symm k2 (fun b hb => HC.out.blocks (k3 b hb))
          have HFIN : Hid (Only (Own3 bs bt bv) w w') := Lib.hid ((Only.of_below (own := Own3 bs bt bv) (HBr.out.trans (hS.mono HBr.out.size))).trans e3 (fun _ _ h => h))
          have HE2 := Lib.hid e2
          unfold VE.val at e1
          dsimp only at e1
          clear hF hS f6 k1 k2 k3 hcw e2 e3
          go_wp2_with fail
          go_ret
          rw [HEE.out, HSS.out]
          exact ⟨rfl, HFIN.out, _, _, _, _, HE2.out⟩
end
end Go.Proofs.Ythhcjmikkiiahaa.cat
