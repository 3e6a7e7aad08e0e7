/- Has a bag these rows, as the law asks; walked. -/
import Derived.Test.YtpkkhbmlclicfaaBagO
import Derived.Test.YtpkkhbmlclicfaaMD
import Derived.Test.YtpkkhbmlclicfaaAgIn
import Derived.Deep.QuietTactic
import Derived.BigQuiet
namespace Go.Proofs.Ytpkkhbmlclicfaa.val
set_option linter.unusedVariables false
open Go.RowKit Go.Sort Go.Shelf
attribute [local go_sem] ag.upon_value ag.upon_skip ag.upon_enter
attribute [local go_sem] Oper.semAt_some
theorem sortedL_once {ms : List (List V)} (h : SortedL ms) : SortedB (once ms) := by
  unfold SortedB
  rw [List.pairwise_iff_getElem]
  intro i j hi hj hij
  have hi' : i < ms.length := by rw [← once_len]; exact hi
  have hj' : j < ms.length := by rw [← once_len]; exact hj
  rw [once_get ms i hi hi', once_get ms j hj hj']
  exact (List.pairwise_iff_getElem.1 h) i j hi' hj' hij
theorem exp_of_sorted {ms : List (List V)} {o : BL} (hg : ∀ l ∈ ms, Goods l) (h : SortedL ms) (ho : Strict o) (hc : ∀ r, cnt o r = cnt (once ms) r) : expB o = ms := by
  obtain ⟨p, h1, h2⟩ := rle hg (sortedL_once h) ms.length (Nat.le_refl _)
  rw [List.take_length] at h2
  rw [List.take_of_length_le (by rw [once_len]; exact Nat.le_refl _)] at h1
  have : o = p := strict_unique o p ho h1.1 (fun r => by rw [hc, h1.2.1])
  rw [this, h2]
theorem kB_inj {a b : List V} (ha : Goods a) (hb : Goods b) (h : kB a = kB b) : a = b := by
  have h1 := split_key a ha
  have h2 := split_key b hb
  have h' : (⟨(keyB a).toArray⟩ : ByteArray) = ⟨(keyB b).toArray⟩ := h
  rw [h'] at h1
  rw [h1] at h2
  exact map_enc_inj a b ha hb (congrArg Prod.fst h2)
theorem total_take_succ (o : BL) (k : Nat) (hk : k < o.length) : total (o.take (k + 1)) = total (o.take k) + (o[k]).2 := by
  rw [List.take_succ_eq_append_getElem hk, total_snoc]
theorem expB_split (o : BL) (k : Nat) (hk : k < o.length) : expB o = expB (o.take k) ++ (List.replicate (o[k]).2 (o[k]).1 ++ expB (o.drop (k + 1))) := by
  conv => lhs; rw [← List.take_append_drop k o, List.drop_eq_getElem_cons hk]
  unfold expB
  rw [List.flatMap_append, List.flatMap_cons]
theorem expB_at (o : BL) (k j : Nat) (hk : k < o.length) (hj : j < (o[k]).2) : (expB o)[total (o.take k) + j]? = some (o[k]).1 := by
  rw [expB_split o k hk, List.getElem?_append_right (by rw [expB_len]; omega), expB_len, Nat.add_sub_cancel_left, List.getElem?_append_left (by rw [List.length_replicate]; exact hj), List.getElem?_replicate, if_pos hj]
theorem expB_next {o : BL} (ho : Strict o) (k : Nat) (hk : k < o.length) (r : List V) (h : (expB o)[total (o.take (k + 1))]? = some r) : beforeL (o[k]).1 r = true := by
  by_cases h1 : k + 1 < o.length
  · have h2 := expB_at o (k + 1) 0 h1 (ho.2 _ (List.getElem_mem h1))
    rw [Nat.add_zero, h] at h2
    simp only [Option.some.injEq] at h2
    rw [h2]
    exact (List.pairwise_iff_getElem.1 ho.1) k (k + 1) hk h1 (by omega)
  · rw [List.take_of_length_le (by omega)] at h
    have := (List.getElem?_eq_some_iff.1 h).1
    rw [expB_len] at this
    omega
abbrev TI8 : TypeId := 3
/-- where the law stands in a bag's rows -/
def AtI (X : World) (g8 : Nat) (t : Nat → Nat) (k : Nat) (W : World) : Prop := Flds W g8 TI8 [.int .i64 (t k : Int)] ∧ Below X.heap.size X W
theorem AtI.own {X : World} {g8 : Nat} (t : Nat → Nat) {C : Nat} (hC : X.heap.size ≤ C) : OwnFrom C (fun k W => AtI X g8 t k W) := by
  rintro k A Z row ⟨h1, h4⟩ hg hr
  refine ⟨h1.grown hg (fun e => ?_), h4.grown hg h4.size (fun j e => Nat.le_trans hC (hr j e).1)⟩
  obtain ⟨-, o, ho, hc⟩ := hr g8 e.symm
  have h1' : A.heap[g8]? = _ := h1
  rw [h1'] at ho; cases ho; cases hc
/-- what the law has at hand -/
structure Ctx8 (g0 g4 g5 n : Nat) (xs sl lv : Value) (o : BL) (vs us : List Value) (ms ls : List (List V)) (W : World) : Prop where
  f0 : Flds W g0 TB [xs]
  f4 : Flds W g4 4 [.bool false]
  f5 : Flds W g5 25 [sl]
  bag : IsBag W (.agg #[xs]) o
  ro : Row W sl 1 n vs
  rw : Rws W vs ms
  lv : Row W lv 1 n us
  lr : Rws W us ls
theorem Ctx8.later {g0 g4 g5 n : Nat} {xs sl lv : Value} {o : BL} {vs us : List Value} {ms ls : List (List V)} {W W' : World} (h : Ctx8 g0 g4 g5 n xs sl lv o vs us ms ls W) (hb : Below W.heap.size W W') : Ctx8 g0 g4 g5 n xs sl lv o vs us ms ls W' :=
  ⟨h.f0.later hb, h.f4.later hb, h.f5.later hb, h.bag.later hb, h.ro.later hb, h.rw.later hb, h.lv.later hb, h.lr.later hb⟩
set_option maxRecDepth 100000 in
set_option maxHeartbeats 8000000 in
theorem same8_any (bv lv : Value) (o : BL) (us : List Value) (ls : List (List V)) (hn : us.length ≤ 1000) (hg : ∀ l ∈ ls, Goods l ∧ l.length ≤ 4) (w : World) (hb : IsBag w bv o) (hc : ∀ r, cnt o r = cnt (once ls) r) (hv : Row w lv 1 us.length us) (hr : Rws w us ls) :
    Calls Try.prog 13 #[bv, lv] w fun e w' => e = .returned (.bool true) ∧ Below w.heap.size w w' := by
  obtain ⟨s0, rfl⟩ := isBag_agg hb
  obtain ⟨xa, xn, xc, rfl⟩ : ∃ x m y, s0 = .slice x m y := by
    obtain ⟨a5, c5, xs5, e5, -⟩ := hb
    simp only [Value.agg.injEq, Array.mk.injEq, List.cons.injEq, and_true] at e5
    exact ⟨_, _, _, e5⟩
  have HG := Lib.hid hg
  have HBG := Lib.hid hb
  have HV := Lib.hid hv
  have HR := Lib.hid hr
  have HC := Lib.hid hc
  have HN := Lib.hid hn
  obtain ⟨al, cl, rfl, -⟩ := id hv
  clear hg hb hv hr hc hn
  refine callsIn_wide.1 (callsIn_of_wp_marks (n := 3) Try.func13 rfl trivial (wpIn_wide.2 ?_) rfl)
  simp only [Try.ntmps13, List.size_toArray, List.length_cons, List.length_nil, Nat.reduceAdd, Nat.reduceSub, Array.replicate_succ, Array.replicate_zero, List.push_toArray, List.append_toArray, List.nil_append, List.cons_append]
  go_upto_region 1 with fail
  obtain ⟨W2, hW2⟩ : ∃ W2, (w.alloc (.cells #[.slice xa xn xc] TB)).alloc (.cells #[.bool false] 4) = W2 := ⟨_, rfl⟩
  have hf0 : Flds W2 w.heap.size TB [.slice xa xn xc] := by rw [← hW2]; exact (Flds.new w TB [.slice xa xn xc]).alloc _
  have hf4 : Flds W2 (w.heap.size + 1) 4 [.bool false] := by rw [← hW2]; have := Flds.new (w.alloc (.cells #[.slice xa xn xc] TB)) 4 [.bool false]; rw [World.size_alloc] at this; exact this
  have hb2 : Below w.heap.size w W2 := by rw [← hW2]; exact ((Below.refl _ _).alloc (Nat.le_refl _) _).alloc (by simp) _
  rw [hW2]
  clear hW2
  have HBW := Lib.hid hb2
  obtain ⟨g4, hg4⟩ : ∃ g4, w.heap.size + 1 = g4 := ⟨_, rfl⟩
  rw [hg4] at hf4 ⊢
  have HG4 : Hid (w.heap.size ≤ g4) := Lib.hid (by omega)
  clear hg4
  obtain ⟨g0, hg0⟩ : ∃ g0, w.heap.size = g0 := ⟨_, rfl⟩
  rw [hg0] at hf0 ⊢
  have HG0 := Lib.hid hg0
  have HV2 := Lib.hid (HV.out.later hb2)
  have HR2 := Lib.hid (HR.out.later hb2)
  have HB2 := Lib.hid (HBG.out.later hb2)
  have HSO := Lib.hid (refsort_any _ us ls HN.out (fun l hl => (HG.out l hl).1) (fun l hl => by have := (HG.out l hl).2; omega) W2 HV2.out HR2.out)
  have HLL : Hid (ls.length = us.length) := Lib.hid HR.out.1.symm
  generalize hnn : us.length = n at *
  have HNN := Lib.hid hnn
  have hn1000 : n ≤ 1000 := HN.out
  have n0 : (0 : Int) ≤ (n : Int) := by omega
  have n1 : (n : Int) ≤ 1000 := by omega
  clear hnn hg0 hb2 HV HR HBG
  go_wp2_with fail
  (with_reducible refine HSO.out.mono ?_); rintro e w3 ⟨sa, sc, vs, ms, rfl, hvl, hrow, hrw, hpe, hso, hb3⟩
  have HGM : Hid (∀ l ∈ ms, Goods l ∧ l.length ≤ 4) := Lib.hid (fun l hl => HG.out l (hpe.mem_iff.1 hl))
  have HST := Lib.hid HB2.out.strict
  have HEX : Hid (expB o = ms) := Lib.hid (exp_of_sorted (fun l hl => (HGM.out l hl).1) hso HST.out (fun r => by rw [HC.out, once_cnt_perm hpe.symm]))
  have HML : Hid (ms.length = n) := Lib.hid (by rw [hpe.length_eq, HLL.out])
  have HTO : Hid (total o = n) := Lib.hid (by rw [← expB_len, HEX.out, HML.out])
  have HBW3 := Lib.hid (HBW.out.trans (hb3.mono HBW.out.size))
  have hf0' := hf0.later hb3
  have hf4' := hf4.later hb3
  have hbg' := HB2.out.later hb3
  have hlv' := HV2.out.later hb3
  have hlr' := HR2.out.later hb3
  have HVL := Lib.hid hvl
  have HPE := Lib.hid hpe
  have HSL := Lib.hid hso
  clear hvl hpe hso hb3 hf0 hf4 HSO HV2 HR2 HB2 HBW HN HLL HC
  go_upto_region 2 with fail
  obtain ⟨X, hX⟩ : ∃ X, w3.alloc (.cells #[.slice sa n sc] 25) = X := ⟨_, rfl⟩
  have hf5 : Flds X w3.heap.size 25 [.slice sa n sc] := by rw [← hX]; exact Flds.new w3 _ [.slice sa n sc]
  have hbX : Below w3.heap.size w3 X := by rw [← hX]; exact below_alloc1 _ _
  rw [hX]
  have HCT := Lib.hid (⟨hf0'.later hbX, hf4'.later hbX, hf5, hbg'.later hbX, hrow.later hbX, hrw.later hbX, hlv'.later hbX, hlr'.later hbX⟩ : Ctx8 g0 g4 w3.heap.size n (.slice xa xn xc) (.slice sa n sc) (.slice al n cl) o vs us ms ls X)
  have HBX := Lib.hid (HBW3.out.trans (hbX.mono HBW3.out.size))
  clear hf0' hf4' hbg' hlv' hlr' hrow hrw hf5 hbX hX HBW3
  generalize w3.heap.size = g5 at *
  have HROW := Lib.hid (bagrows_any (.agg #[.slice xa xn xc]) o (by rw [HTO.out]; omega) X HCT.out.bag)
  have c0 := HCT.out.f0.cell 0
  have l0 := HCT.out.f0.lt
  simp only [List.getElem?_cons_zero] at c0
  go_wp2_with fail
  (with_reducible refine HROW.out.mono ?_); rintro e w4 ⟨gv, rfl, ps, hps, hpr, hb4⟩
  have HPS : Hid (w4.ownsRow X.heap.size 49 1 gv n ps ∧ ps.length = n) := Lib.hid (by
    have : ps.length = n := by rw [hpr.1, HEX.out, HML.out]
    rw [this] at hps; exact ⟨hps, this⟩)
  have HPR : Hid (RwT TV X.heap.size w4 ps ms) := Lib.hid (by rw [← HEX.out]; exact hpr)
  have HCT4 := Lib.hid (HCT.out.later hb4)
  have HB4 := Lib.hid (HBX.out.trans (hb4.mono HBX.out.size))
  obtain ⟨ga, gc, rfl⟩ := owns_shape HPS.out.1
  obtain ⟨K, hK⟩ : ∃ K : ByteArray, (⟨(packB (ms.map kB)).toArray⟩ : ByteArray) = K := ⟨_, rfl⟩
  have HKY : Hid (∀ W1, Below w4.heap.size w4 W1 → Calls Try.prog 12 #[.agg #[.slice xa xn xc]] W1 fun e w' => e = .returned (.string K) ∧ Below W1.heap.size W1 w') := Lib.hid (fun W1 h => by
    have hk : keysB o = ms.map kB := by rw [keysB_exp, HEX.out]
    have := bagkey_room (.agg #[.slice xa xn xc]) o (by rw [HTO.out]; omega) (by rw [hk]; have := packB_small ms HGM.out; rw [HML.out] at this; omega) W1 (HCT4.out.bag.later h)
    rw [hk, hK] at this
    exact this)
  have HK8 : Hid (∀ W1, Below w4.heap.size w4 W1 → Calls Try.prog 17 #[.slice al n cl] W1 fun e w' => e = .returned (.string K) ∧ Below W1.heap.size W1 w') := Lib.hid (fun W1 h => by
    have := key8_any (.slice al n cl) us ls ms (by rw [HNN.out]; exact hn1000) HG.out W1 (by rw [HNN.out]; exact HCT4.out.lv.later h) (HCT4.out.lr.later h) HPE.out HSL.out
    rw [hK] at this
    exact this)
  have HIB : Hid (IsB (cnt o) n (.agg #[.slice xa xn xc]) w4) := Lib.hid (IsB.of HCT4.out.bag (fun _ => rfl) HTO.out)
  clear hps hpr hb4 c0 l0 hK HCT HROW HBX
  go_upto_region 3 with fail
  apply ag.region_calm (ag.Spec.val _ :: ag.Spec.sat (fun v _ => v = .int .i64 (n : Int)) ag.grew :: ag.Spec.val _ :: ag.Spec.val _ :: ag.Spec.val (.bool false) :: ag.Spec.val (.bool false) :: ag.Spec.val _ :: ag.Spec.val _ :: ag.Spec.val _ :: ag.Spec.val _ :: ag.Spec.val (.bool false) :: ag.Spec.val (.bool false) :: ag.Spec.val (.bool false) :: ag.Spec.val _ :: ag.Spec.sat (fun v _ => v = .string K) ag.grew :: ag.Spec.val _ :: ag.Spec.sat (fun v _ => v = .string K) ag.grew :: ag.Spec.val (.bool false) :: ag.Spec.val (.bool false) :: [])
  case hm => kernel_rfl
  case hB => kernel_rfl
  case hlen => rfl
  case hc => exact ⟨⟨ag.lasts_eq _, rfl⟩, ⟨ag.lasts_eq _, rfl⟩, ⟨ag.lasts_eq _, rfl⟩, trivial⟩
  apply ag.walk_val
  · rfl
  · intro W1 hS hE
    have c1 := (HCT4.out.later hS).f0.cell 0
    simp only [List.getElem?_cons_zero] at c1
    clear hS hE
    unfold ag.does
    go_simp
    first | done | exact ⟨rfl, rfl⟩ | rfl | (exact ⟨by go_num, rfl⟩) | (simp; done) | trace_state
  simp only [Act.put, List.setIfInBounds_toArray, List.set_cons_zero, List.set_cons_succ]
  refine ag.walk_such (by rfl) (fun W1 hS hE => ?_) (fun y1 => ?_)
  · have h0 := HIB.out.later hS
    clear hE
    unfold ag.does
    go_simp
    first | done | (exact len_isB (by omega) h0)
  simp only [Act.put, List.setIfInBounds_toArray, List.set_cons_zero, List.set_cons_succ]
  apply ag.walk_val
  · rfl
  · intro W1 hS hE
    have c1 := (HCT4.out.later hS).f5.cell 0
    simp only [List.getElem?_cons_zero] at c1
    clear hS hE
    unfold ag.does
    go_simp
    first | done | exact ⟨rfl, rfl⟩ | rfl | (exact ⟨by go_num, rfl⟩) | (simp; done) | trace_state
  simp only [Act.put, List.setIfInBounds_toArray, List.set_cons_zero, List.set_cons_succ]
  apply ag.walk_val
  · rfl
  · intro W1 hS hE
    clear hS hE
    unfold ag.does
    go_simp
    first | done | exact ⟨rfl, rfl⟩ | rfl | (exact ⟨by go_num, rfl⟩) | (simp; done) | trace_state
  simp only [Act.put, List.setIfInBounds_toArray, List.set_cons_zero, List.set_cons_succ]
  apply ag.walk_val
  · rfl
  · intro W1 hS hE
    have h1 : y1 = .int .i64 (n : Int) := hE.of 1 (by kernel_rfl)
    subst h1
    clear hS hE
    unfold ag.does
    go_simp
    first | done | exact ⟨rfl, rfl⟩ | rfl | (exact ⟨by go_num, rfl⟩) | (simp; done) | trace_state
  simp only [Act.put, List.setIfInBounds_toArray, List.set_cons_zero, List.set_cons_succ]
  apply ag.walk_val
  · rfl
  · intro W1 hS hE
    clear hS hE
    unfold ag.does
    go_simp
    first | done | exact ⟨rfl, rfl⟩ | rfl | (exact ⟨by go_num, rfl⟩) | (simp; done) | trace_state
  simp only [Act.put, List.setIfInBounds_toArray, List.set_cons_zero, List.set_cons_succ]
  apply ag.walk_val
  · rfl
  · intro W1 hS hE
    clear hS hE
    unfold ag.does
    go_simp
    first | done | exact ⟨rfl, rfl⟩ | rfl | (exact ⟨by go_num, rfl⟩) | (simp; done) | trace_state
  simp only [Act.put, List.setIfInBounds_toArray, List.set_cons_zero, List.set_cons_succ]
  apply ag.walk_val
  · rfl
  · intro W1 hS hE
    clear hS hE
    unfold ag.does
    go_simp
    first | done | exact ⟨rfl, rfl⟩ | rfl | (exact ⟨by go_num, rfl⟩) | (simp; done) | trace_state
  simp only [Act.put, List.setIfInBounds_toArray, List.set_cons_zero, List.set_cons_succ]
  apply ag.walk_val
  · rfl
  · intro W1 hS hE
    have c1 := (HCT4.out.later hS).f5.cell 0
    simp only [List.getElem?_cons_zero] at c1
    clear hS hE
    unfold ag.does
    go_simp
    first | done | exact ⟨rfl, rfl⟩ | rfl | (exact ⟨by go_num, rfl⟩) | (simp; done) | trace_state
  simp only [Act.put, List.setIfInBounds_toArray, List.set_cons_zero, List.set_cons_succ]
  apply ag.walk_val
  · rfl
  · intro W1 hS hE
    clear hS hE
    unfold ag.does
    go_simp
    first | done | exact ⟨rfl, rfl⟩ | rfl | (exact ⟨by go_num, rfl⟩) | (simp; done) | trace_state
  simp only [Act.put, List.setIfInBounds_toArray, List.set_cons_zero, List.set_cons_succ]
  apply ag.walk_val
  · rfl
  · intro W1 hS hE
    clear hS hE
    unfold ag.does
    go_simp
    first | done | exact ⟨rfl, rfl⟩ | rfl | (exact ⟨by go_num, rfl⟩) | (simp; done) | trace_state
  simp only [Act.put, List.setIfInBounds_toArray, List.set_cons_zero, List.set_cons_succ]
  apply ag.walk_val
  · rfl
  · intro W1 hS hE
    clear hS hE
    unfold ag.does
    go_simp
    first | done | exact ⟨rfl, rfl⟩ | rfl | (exact ⟨by go_num, rfl⟩) | (simp; done) | trace_state
  simp only [Act.put, List.setIfInBounds_toArray, List.set_cons_zero, List.set_cons_succ]
  apply ag.walk_val
  · rfl
  · intro W1 hS hE
    clear hS hE
    unfold ag.does
    go_simp
    first | done | exact ⟨rfl, rfl⟩ | rfl | (exact ⟨by go_num, rfl⟩) | (simp; done) | trace_state
  simp only [Act.put, List.setIfInBounds_toArray, List.set_cons_zero, List.set_cons_succ]
  apply ag.walk_val
  · rfl
  · intro W1 hS hE
    have c1 := (HCT4.out.later hS).f0.cell 0
    simp only [List.getElem?_cons_zero] at c1
    clear hS hE
    unfold ag.does
    go_simp
    first | done | exact ⟨rfl, rfl⟩ | rfl | (exact ⟨by go_num, rfl⟩) | (simp; done) | trace_state
  simp only [Act.put, List.setIfInBounds_toArray, List.set_cons_zero, List.set_cons_succ]
  refine ag.walk_such (by rfl) (fun W1 hS hE => ?_) (fun y14 => ?_)
  · clear hE
    have hk := HKY.out W1 hS
    unfold ag.does
    go_simp
    first | done | (refine hk.mono ?_; rintro e W2 ⟨rfl, hb⟩; exact ⟨_, rfl, rfl, hb⟩)
  simp only [Act.put, List.setIfInBounds_toArray, List.set_cons_zero, List.set_cons_succ]
  apply ag.walk_val
  · rfl
  · intro W1 hS hE
    clear hS hE
    unfold ag.does
    go_simp
    first | done | exact ⟨rfl, rfl⟩ | rfl | (exact ⟨by go_num, rfl⟩) | (simp; done) | trace_state
  simp only [Act.put, List.setIfInBounds_toArray, List.set_cons_zero, List.set_cons_succ]
  refine ag.walk_such (by rfl) (fun W1 hS hE => ?_) (fun y16 => ?_)
  · clear hE
    have hk := HK8.out W1 hS
    unfold ag.does
    go_simp
    first | done | (refine hk.mono ?_; rintro e W2 ⟨rfl, hb⟩; exact ⟨_, rfl, rfl, hb⟩)
  simp only [Act.put, List.setIfInBounds_toArray, List.set_cons_zero, List.set_cons_succ]
  apply ag.walk_val
  · rfl
  · intro W1 hS hE
    have h1 : y14 = .string K := hE.of 14 (by kernel_rfl)
    have h2 : y16 = .string K := hE.of 16 (by kernel_rfl)
    subst h1 h2
    clear hS hE
    unfold ag.does
    go_simp
    first | done | exact ⟨rfl, rfl⟩ | rfl | (exact ⟨by go_num, rfl⟩) | (simp; done) | trace_state
  simp only [Act.put, List.setIfInBounds_toArray, List.set_cons_zero, List.set_cons_succ]
  apply ag.walk_val
  · rfl
  · intro W1 hS hE
    clear hS hE
    unfold ag.does
    go_simp
    first | done | exact ⟨rfl, rfl⟩ | rfl | (exact ⟨by go_num, rfl⟩) | (simp; done) | trace_state
  simp only [Act.put, List.setIfInBounds_toArray, List.set_cons_zero, List.set_cons_succ]
  refine ag.walk_nil (fun w5 hS hF hP => ?_)
  clear hP
  clear hF
  have HCT5 := Lib.hid (HCT4.out.later hS)
  have HB5 := Lib.hid (HB4.out.trans (hS.mono HB4.out.size))
  have HPS5 := Lib.hid (owns_below HPS.out.1 hS)
  have HPR5 := Lib.hid (HPR.out.later hS)
  clear hS HKY HK8 HIB HCT4 HB4 HPR
  have HPL : Hid (ps.length = n) := Lib.hid HPS.out.2
  clear HPS
  go_wp2_with fail
  go_loopw [7] (fun i wr => ∃ k : Nat, i = .int .i64 (k : Int) ∧ k ≤ n ∧ Hid (Below w5.heap.size w5 wr)) (fun i _ => n - (intOf i).toNat)
  case atStart => exact ⟨0, rfl, Nat.zero_le _, Lib.hid (Below.refl _ _)⟩
  case round =>
    obtain ⟨k, rfl, hk, HB⟩ := hrel
    have hd0 : (0 : Int) ≤ (k : Int) := by omega
    have HCR := Lib.hid (HCT5.out.later HB.out)
    have c5 := HCR.out.f5.cell 0
    have l5 := HCR.out.f5.lt
    simp only [List.getElem?_cons_zero] at c5
    by_cases hkn : k < n
    · have dk : (k : Int) < (n : Int) := by omega
      have hkp : k < ps.length := by rw [HPL.out]; exact hkn
      have hkv : k < vs.length := by rw [HVL.out]; exact hkn
      have hkm : k < ms.length := by rw [HML.out]; exact hkn
      obtain ⟨gg, rfl, -, hgg, hcg, -⟩ := owns_cellAt HPS5.out (by omega)
      obtain ⟨b, off, cap', ea, hcs⟩ := HCR.out.ro.pos (by omega)
      simp only [Value.slice.injEq] at ea
      obtain ⟨rfl, -, rfl⟩ := ea
      have r1 := HPR5.out.2 k _ _ (List.getElem?_eq_getElem hkp) (List.getElem?_eq_getElem hkm)
      have r2 := HCR.out.rw.2 k _ _ (List.getElem?_eq_getElem hkv) (List.getElem?_eq_getElem hkm)
      have q1 := cell_later HB.out ((hcg k (by omega)).trans (List.getElem?_eq_getElem hkp))
      have q2 := (hcs k (by omega)).trans (List.getElem?_eq_getElem hkv)
      have hgr := HGM.out _ (List.getElem_mem hkm)
      generalize ps[k] = u1 at *
      generalize vs[k] = u2 at *
      generalize ms[k] = r at *
      obtain ⟨a1, f1, rfl⟩ := owns_shape r1
      obtain ⟨a2, f2, rfl, -⟩ := id r2
      have HL := Lib.hid (fun (W1 : World) (h : Below wr.heap.size wr W1) => (⟨cell_later h c5, cell_later h q1, cell_later h q2⟩ : W1.cell? ⟨g5, 0, none⟩ = _ ∧ W1.cell? ⟨gg, k, none⟩ = _ ∧ W1.cell? ⟨b, off + k, none⟩ = _))
      have HK1 := Lib.hid (fun (W1 : World) (h : Below wr.heap.size wr W1) => key_any (.slice a1 r.length f1) r hgr.1 (by omega) W1 (((Row.of_owns r1).later HB.out).later h))
      have HK2 := Lib.hid (fun (W1 : World) (h : Below wr.heap.size wr W1) => refkey_any (.slice a2 r.length f2) r hgr.1 (by omega) W1 (r2.later h))
      clear hcg hcs r1 r2 q1 q2 hgr hgg
      go_upto_region 8 with fail
      apply ag.region_calm (ag.Spec.val _ :: ag.Spec.val _ :: ag.Spec.val _ :: ag.Spec.val _ :: ag.Spec.sat (fun v _ => v = .string ⟨(keyB r).toArray⟩) ag.grew :: ag.Spec.val _ :: ag.Spec.val _ :: ag.Spec.val _ :: ag.Spec.val _ :: ag.Spec.sat (fun v _ => v = .string ⟨(keyB r).toArray⟩) ag.grew :: ag.Spec.val (.bool false) :: [])
      case hm => kernel_rfl
      case hB => kernel_rfl
      case hlen => rfl
      case hc => exact ⟨⟨ag.lasts_eq _, rfl⟩, ⟨ag.lasts_eq _, rfl⟩, trivial⟩
      apply ag.walk_val
      · rfl
      · intro W1 hS hE
        clear hS hE
        unfold ag.does
        go_simp
        first | done | exact ⟨rfl, rfl⟩ | rfl | (exact ⟨by go_num, rfl⟩) | (simp; done) | trace_state
      simp only [Act.put, List.setIfInBounds_toArray, List.set_cons_zero, List.set_cons_succ]
      apply ag.walk_val
      · rfl
      · intro W1 hS hE
        clear hS hE
        unfold ag.does
        go_simp
        first | done | exact ⟨rfl, rfl⟩ | rfl | (exact ⟨by go_num, rfl⟩) | (simp; done) | trace_state
      simp only [Act.put, List.setIfInBounds_toArray, List.set_cons_zero, List.set_cons_succ]
      apply ag.walk_val
      · rfl
      · intro W1 hS hE
        clear hS hE
        unfold ag.does
        go_simp
        first | done | exact ⟨rfl, rfl⟩ | rfl | (exact ⟨by go_num, rfl⟩) | (simp; done) | trace_state
      simp only [Act.put, List.setIfInBounds_toArray, List.set_cons_zero, List.set_cons_succ]
      apply ag.walk_val
      · rfl
      · intro W1 hS hE
        obtain ⟨k1, k2, k3⟩ := HL.out W1 hS
        clear hS hE
        unfold ag.does
        go_simp
        first | done | exact ⟨rfl, rfl⟩ | rfl | (exact ⟨by go_num, rfl⟩) | (simp; done) | trace_state
      simp only [Act.put, List.setIfInBounds_toArray, List.set_cons_zero, List.set_cons_succ]
      refine ag.walk_such (by rfl) (fun W1 hS hE => ?_) (fun y4 => ?_)
      · clear hE
        have hk := HK1.out W1 hS
        unfold ag.does
        go_simp
        first | done | (refine hk.mono ?_; rintro e W2 ⟨rfl, hb⟩; exact ⟨_, rfl, rfl, hb⟩)
      simp only [Act.put, List.setIfInBounds_toArray, List.set_cons_zero, List.set_cons_succ]
      apply ag.walk_val
      · rfl
      · intro W1 hS hE
        obtain ⟨k1, k2, k3⟩ := HL.out W1 hS
        clear hS hE
        unfold ag.does
        go_simp
        first | done | exact ⟨rfl, rfl⟩ | rfl | (exact ⟨by go_num, rfl⟩) | (simp; done) | trace_state
      simp only [Act.put, List.setIfInBounds_toArray, List.set_cons_zero, List.set_cons_succ]
      apply ag.walk_val
      · rfl
      · intro W1 hS hE
        clear hS hE
        unfold ag.does
        go_simp
        first | done | exact ⟨rfl, rfl⟩ | rfl | (exact ⟨by go_num, rfl⟩) | (simp; done) | trace_state
      simp only [Act.put, List.setIfInBounds_toArray, List.set_cons_zero, List.set_cons_succ]
      apply ag.walk_val
      · rfl
      · intro W1 hS hE
        clear hS hE
        unfold ag.does
        go_simp
        first | done | exact ⟨rfl, rfl⟩ | rfl | (exact ⟨by go_num, rfl⟩) | (simp; done) | trace_state
      simp only [Act.put, List.setIfInBounds_toArray, List.set_cons_zero, List.set_cons_succ]
      apply ag.walk_val
      · rfl
      · intro W1 hS hE
        obtain ⟨k1, k2, k3⟩ := HL.out W1 hS
        clear hS hE
        unfold ag.does
        go_simp
        first | done | exact ⟨rfl, rfl⟩ | rfl | (exact ⟨by go_num, rfl⟩) | (simp; done) | trace_state
      simp only [Act.put, List.setIfInBounds_toArray, List.set_cons_zero, List.set_cons_succ]
      refine ag.walk_such (by rfl) (fun W1 hS hE => ?_) (fun y9 => ?_)
      · clear hE
        have hk := HK2.out W1 hS
        unfold ag.does
        go_simp
        first | done | (refine hk.mono ?_; rintro e W2 ⟨rfl, hb⟩; exact ⟨_, rfl, rfl, hb⟩)
      simp only [Act.put, List.setIfInBounds_toArray, List.set_cons_zero, List.set_cons_succ]
      apply ag.walk_val
      · rfl
      · intro W1 hS hE
        have h1 : y4 = .string ⟨(keyB r).toArray⟩ := hE.of 4 (by kernel_rfl)
        have h2 : y9 = .string ⟨(keyB r).toArray⟩ := hE.of 9 (by kernel_rfl)
        subst h1 h2
        clear hS hE
        unfold ag.does
        go_simp
        first | done | exact ⟨rfl, rfl⟩ | rfl | (exact ⟨by go_num, rfl⟩) | (simp; done) | trace_state
      simp only [Act.put, List.setIfInBounds_toArray, List.set_cons_zero, List.set_cons_succ]
      refine ag.walk_nil (fun w6 hS hF hP => ?_)
      clear hP
      clear hF
      have HB6 := Lib.hid (HB.out.trans (hS.mono HB.out.size))
      clear hS HK1 HK2 HL
      go_wp2_with fail
      go_roundw
      case rel => exact ⟨k + 1, by go_num, by omega, HB6⟩
      case measure => simp [intOf]; omega
    · have dk : ¬ (k : Int) < (n : Int) := by omega
      obtain rfl : n = k := by omega
      obtain ⟨Y, rfl⟩ : ∃ Y, Y = wr := ⟨_, rfl⟩
      go_upto_region 11 with fail
      have HGG := Lib.hid (fun (W1 : World) (h : Below Y.heap.size Y W1) => HCR.out.later h)
      have hf8 : Flds (Y.alloc (.cells #[.int .i64 0] TI8)) Y.heap.size TI8 [.int .i64 0] := Flds.new Y TI8 [.int .i64 0]
      have hb8 : Below Y.heap.size Y (Y.alloc (.cells #[.int .i64 0] TI8)) := below_alloc1 _ _
      have hz8 : (Y.alloc (.cells #[.int .i64 0] TI8)).heap.size = Y.heap.size + 1 := World.size_alloc _ _
      obtain ⟨Z, hZ⟩ : ∃ Z, Y.alloc (.cells #[.int .i64 0] TI8) = Z := ⟨_, rfl⟩
      rw [hZ] at hf8 hb8 hz8 ⊢
      clear hZ
      have c0 := (HGG.out Z hb8).f0.cell 0
      have l0 := (HGG.out Z hb8).f0.lt
      simp only [List.getElem?_cons_zero] at c0
      have HST1 := Lib.hid (fun (x : List V × Nat) (hx : x ∈ o) => HST.out.2 x hx)
      obtain ⟨g8, hg8⟩ : ∃ g8, Y.heap.size = g8 := ⟨_, rfl⟩
      rw [hg8] at hf8 hz8 ⊢
      have HG8 := Lib.hid hg8
      have HF8 := Lib.hid hf8
      have HB8 := Lib.hid hb8
      have HZ8 := Lib.hid hz8
      clear hg8 hf8 hb8 hz8 c5 l5 hkn dk
      go_wp2_with fail
      refine (callsIn_wide.1 (all_in 1 (.slice xa xn xc) _ xa xn xc rfl)).mono ?_
      rintro e w9 ⟨rfl, rfl⟩
      go_wp2_with fail
      obtain ⟨W3, hW3⟩ : ∃ W3, Z.alloc (.cells #[.slice xa xn xc] TB) = W3 := ⟨_, rfl⟩
      have hf9 : Flds W3 (g8 + 1) TB [.slice xa xn xc] := by rw [← hW3, ← HZ8.out]; exact Flds.new Z TB [.slice xa xn xc]
      have hz3 : W3.heap.size = g8 + 2 := by rw [← hW3, World.size_alloc, HZ8.out]
      have hb9 : Below Z.heap.size Z W3 := by rw [← hW3]; exact below_alloc1 _ _
      have hf83 := HF8.out.later hb9
      have hbr : Below Y.heap.size Y W3 := HB8.out.trans (hb9.mono HB8.out.size)
      have q3 := hf9.cell 0
      simp only [List.getElem?_cons_zero] at q3
      rw [HZ8.out, hW3]
      have HW3 := Lib.hid hz3
      have HBR := Lib.hid hbr
      have hI0 : AtI Y g8 (fun k => total (o.take k)) 0 W3 := ⟨hf83, hbr⟩
      clear hW3 hf9 hz3 hb9 hf83 c0 l0
      refine (wpIn_wide (n := 3)).1 ?_
      refine' range_arg rfl (by decide) (gf := 49) (lb := #[.pointer (some ⟨g8 + 1, 0, none⟩)]) rfl trivial (enters_of Try.func49 (by kernel_rfl) rfl)
        (all_seq _ (by decide) (g8 + 1) (.slice xa xn xc) o (by have := HST.out.len; rw [HTO.out] at this; omega) Y W3 HCR.out.bag hbr (PR g8 (g8 + 2)) (fun k hk => by unfold PR at hk; rw [HG8.out]; omega) (fun h => by unfold PR at h; omega) q3)
        (fun k W xs l o1 o2 hl h1 h2 _ hA => AllA.put h1 h2 hA) (fun {A B C} (h : Only (PR g8 (g8 + 2)) A B) h' => Only.trans h h' (fun _ _ h => h)) (fun W l o1 o2 hl _ _ _ => ⟨rfl, rfl, rfl, by simp, fun k hk hn => World.putObj_heap_other (fun e => hn (by unfold PR; have := HW3.out; omega))⟩) (fun k W xs hA => hA.size)
        (fun k W => AtI Y g8 (fun k => total (o.take k)) k W) (fun _ _ _ => False) (AtI.own _ (by have := HW3.out; have := HG8.out; omega)) (fun _ _ _ _ _ hs _ _ => hs)
        hI0 _ ?assign ?body ?done ?stop
      case stop =>
        rintro D c k W _ _ h _
        exact h.elim
      case assign =>
        rintro l k W xs K hk hI hA hK
        have hsz := hA.size
        have hx : xs = #[xs.getD 0 undef, xs.getD 1 undef] := by
          obtain ⟨v, r, d, -, rfl, -⟩ := hA
          rfl
        rw [hx]
        clear hk hI hA hsz hx
        gi_wp2
        exact hK
      case body =>
        rintro l k W xs hk hI ⟨v, r, d, hkr, rfl, ho⟩
        rw [show (#[v, Value.int .i64 (d : Int)] : Array Value)[0]?.getD undef = v from rfl, show (#[v, Value.int .i64 (d : Int)] : Array Value)[1]?.getD undef = .int .i64 (d : Int) from rfl]
        have hok : o[k] = (r, d) := by rw [List.getElem?_eq_getElem hk] at hkr; exact Option.some.inj hkr
        have hdp : 1 ≤ d := by have := HST1.out o[k] (List.getElem_mem hk); rw [hok] at this; exact this
        obtain ⟨T, hT⟩ : ∃ T, total (o.take k) = T := ⟨_, rfl⟩
        have hts := total_take_succ o k hk
        rw [hT, hok] at hts
        simp only at hts
        have htn : T + d ≤ n := by have := total_take o (k + 1); rw [hts, HTO.out] at this; exact this
        have HTS := Lib.hid hts
        have HAT : Hid (∀ j, j < d → ms[T + j]? = some r) := Lib.hid (fun j hj => by
          have := expB_at o k j hk (by rw [hok]; exact hj)
          rw [hT, HEX.out, hok] at this
          exact this)
        have HNX : Hid (∀ r', ms[T + d]? = some r' → beforeL r r' = true) := Lib.hid (fun r' hr' => by
          have := expB_next HST.out k hk r' (by rw [hts, HEX.out]; exact hr')
          rw [hok] at this
          exact this)
        obtain ⟨hf8, hbw⟩ := hI
        simp only [hT] at hf8
        have hgr : Goods r ∧ r.length ≤ 4 := by
          have hm := HAT.out 0 (by omega)
          exact HGM.out r (List.mem_of_getElem? hm)
        have HGR := Lib.hid hgr
        have HCW := Lib.hid (HGG.out W hbw)
        have HF := Lib.hid hf8
        have HBW8 := Lib.hid hbw
        have HV := Lib.hid ho
        have c8 := hf8.cell 0
        have l8 := hf8.lt
        have c5 := HCW.out.f5.cell 0
        have l5 := HCW.out.f5.lt
        simp only [List.getElem?_cons_zero] at c8 c5
        have t0 : (0 : Int) ≤ (T : Int) := by omega
        have t1 : (1 : Int) ≤ (d : Int) := by omega
        have t2 : (T : Int) + (d : Int) ≤ (n : Int) := by omega
        have e1 : decide ((d : Int) < 1) = false := by simp; omega
        have e2 : decide ((n : Int) < (T : Int) + (d : Int)) = false := by simp; omega
        have e3 : ((n : Int) < (T : Int) + (d : Int)) = False := by simp; omega
        obtain ⟨av, cv, rfl⟩ := owns_shape ho
        clear hf8 hbw ho hok hts hkr hdp htn hgr hT
        gi_wp2
        gi_loopw [11] (fun i wx => ∃ j : Nat, i = .int .i64 (j : Int) ∧ j ≤ d ∧ Hid (Below W.heap.size W wx)) (fun i _ => d - (intOf i).toNat)
        case atStart => exact ⟨0, rfl, Nat.zero_le _, Lib.hid (Below.refl _ _)⟩
        case round =>
          obtain ⟨j, rfl, hj, HBJ⟩ := hrel
          have hj0 : (0 : Int) ≤ (j : Int) := by omega
          have HCJ := Lib.hid (HCW.out.later HBJ.out)
          have HFJ := Lib.hid (HF.out.later HBJ.out)
          have c8 := HFJ.out.cell 0
          have l8 := HFJ.out.lt
          have c5 := HCJ.out.f5.cell 0
          have l5 := HCJ.out.f5.lt
          simp only [List.getElem?_cons_zero] at c8 c5
          by_cases hjd : j < d
          · have dj : (j : Int) < (d : Int) := by omega
            have hm := HAT.out j hjd
            have htl : T + j < ms.length := (List.getElem?_eq_some_iff.1 hm).1
            have htv : T + j < vs.length := by rw [HVL.out, ← HML.out]; exact htl
            have htn : T + j < n := by rw [← HML.out]; exact htl
            obtain ⟨b, off, cap', ea, hcs⟩ := HCJ.out.ro.pos (by omega)
            simp only [Value.slice.injEq] at ea
            obtain ⟨rfl, -, rfl⟩ := ea
            have r2 := HCJ.out.rw.2 (T + j) _ _ (List.getElem?_eq_getElem htv) hm
            have q2 := (hcs (T + j) (by omega)).trans (List.getElem?_eq_getElem htv)
            generalize vs[T + j] = u2 at *
            obtain ⟨a2, f2, rfl, -⟩ := id r2
            have HL := Lib.hid (fun (W1 : World) (h : Below wr.heap.size wr W1) => (⟨cell_later h c5, cell_later h c8, cell_later h q2⟩ : W1.cell? ⟨g5, 0, none⟩ = _ ∧ W1.cell? ⟨g8, 0, none⟩ = _ ∧ W1.cell? ⟨b, off + (T + j), none⟩ = _))
            have HK1 := Lib.hid (fun (W1 : World) (h : Below wr.heap.size wr W1) => key_any (.slice av r.length cv) r HGR.out.1 (by have := HGR.out.2; omega) W1 (((Row.of_owns HV.out).later HBJ.out).later h))
            have HK2 := Lib.hid (fun (W1 : World) (h : Below wr.heap.size wr W1) => refkey_any (.slice a2 r.length f2) r HGR.out.1 (by have := HGR.out.2; omega) W1 (r2.later h))
            have s1 : IntKind.i64.wrap ((T : Int) + (j : Int)) = (T : Int) + (j : Int) := Go.IntWalk.i64_in _ (by omega)
            have s2 : (0 : Int) ≤ (T : Int) + (j : Int) := by omega
            have s3 : (T : Int) + (j : Int) < (n : Int) := by omega
            have s4 : ((T : Int) + (j : Int)).toNat = T + j := by omega
            clear hcs r2 q2 hm htl htv htn
            gi_wp2
            apply ag.region_calm_in _ _ (ag.Spec.val _ :: ag.Spec.sat (fun v _ => v = .string ⟨(keyB r).toArray⟩) ag.grew :: ag.Spec.val _ :: ag.Spec.val _ :: ag.Spec.val _ :: ag.Spec.val _ :: ag.Spec.val _ :: ag.Spec.val _ :: ag.Spec.sat (fun v _ => v = .string ⟨(keyB r).toArray⟩) ag.grew :: ag.Spec.val (.bool false) :: [])
            case hnd => rfl
            case hm => kernel_rfl
            case hB => kernel_rfl
            case hlen => rfl
            case hc => exact ⟨⟨ag.lasts_eq _, rfl⟩, ⟨ag.lasts_eq _, rfl⟩, trivial⟩
            apply ag.walk_val
            · rfl
            · intro W1 hS hE
              clear hS hE
              unfold ag.does
              go_simp
              first | done | exact ⟨rfl, rfl⟩ | rfl | (exact ⟨by go_num, rfl⟩) | (simp; done) | trace_state
            simp only [Act.put, List.setIfInBounds_toArray, List.set_cons_zero, List.set_cons_succ]
            refine ag.walk_such (by rfl) (fun W1 hS hE => ?_) (fun y1 => ?_)
            · clear hE
              have hk := HK1.out W1 hS
              unfold ag.does
              go_simp
              first | done | (refine hk.mono ?_; rintro e W2 ⟨rfl, hb⟩; exact ⟨_, rfl, rfl, hb⟩)
            simp only [Act.put, List.setIfInBounds_toArray, List.set_cons_zero, List.set_cons_succ]
            apply ag.walk_val
            · rfl
            · intro W1 hS hE
              obtain ⟨k1, k2, k3⟩ := HL.out W1 hS
              clear hS hE
              unfold ag.does
              go_simp
              first | done | exact ⟨rfl, rfl⟩ | rfl | (exact ⟨by go_num, rfl⟩) | (simp; done) | trace_state
            simp only [Act.put, List.setIfInBounds_toArray, List.set_cons_zero, List.set_cons_succ]
            apply ag.walk_val
            · rfl
            · intro W1 hS hE
              obtain ⟨k1, k2, k3⟩ := HL.out W1 hS
              clear hS hE
              unfold ag.does
              go_simp
              first | done | exact ⟨rfl, rfl⟩ | rfl | (exact ⟨by go_num, rfl⟩) | (simp; done) | trace_state
            simp only [Act.put, List.setIfInBounds_toArray, List.set_cons_zero, List.set_cons_succ]
            apply ag.walk_val
            · rfl
            · intro W1 hS hE
              clear hS hE
              unfold ag.does
              go_simp
              first | done | exact ⟨rfl, rfl⟩ | rfl | (exact ⟨by go_num, rfl⟩) | (simp; done) | trace_state
            simp only [Act.put, List.setIfInBounds_toArray, List.set_cons_zero, List.set_cons_succ]
            apply ag.walk_val
            · rfl
            · intro W1 hS hE
              clear hS hE
              unfold ag.does
              go_simp
              first | done | exact ⟨rfl, rfl⟩ | rfl | (exact ⟨by go_num, rfl⟩) | (simp; done) | trace_state
            simp only [Act.put, List.setIfInBounds_toArray, List.set_cons_zero, List.set_cons_succ]
            apply ag.walk_val
            · rfl
            · intro W1 hS hE
              clear hS hE
              unfold ag.does
              go_simp
              first | done | exact ⟨rfl, rfl⟩ | rfl | (exact ⟨by go_num, rfl⟩) | (simp; done) | trace_state
            simp only [Act.put, List.setIfInBounds_toArray, List.set_cons_zero, List.set_cons_succ]
            apply ag.walk_val
            · rfl
            · intro W1 hS hE
              obtain ⟨k1, k2, k3⟩ := HL.out W1 hS
              clear hS hE
              unfold ag.does
              go_simp
              first | done | exact ⟨rfl, rfl⟩ | rfl | (exact ⟨by go_num, rfl⟩) | (simp; done) | trace_state
            simp only [Act.put, List.setIfInBounds_toArray, List.set_cons_zero, List.set_cons_succ]
            refine ag.walk_such (by rfl) (fun W1 hS hE => ?_) (fun y8 => ?_)
            · clear hE
              have hk := HK2.out W1 hS
              unfold ag.does
              go_simp
              first | done | (refine hk.mono ?_; rintro e W2 ⟨rfl, hb⟩; exact ⟨_, rfl, rfl, hb⟩)
            simp only [Act.put, List.setIfInBounds_toArray, List.set_cons_zero, List.set_cons_succ]
            apply ag.walk_val
            · rfl
            · intro W1 hS hE
              have h1 : y1 = .string ⟨(keyB r).toArray⟩ := hE.of 1 (by kernel_rfl)
              have h2 : y8 = .string ⟨(keyB r).toArray⟩ := hE.of 8 (by kernel_rfl)
              subst h1 h2
              clear hS hE
              unfold ag.does
              go_simp
              first | done | exact ⟨rfl, rfl⟩ | rfl | (exact ⟨by go_num, rfl⟩) | (simp; done) | trace_state
            simp only [Act.put, List.setIfInBounds_toArray, List.set_cons_zero, List.set_cons_succ]
            refine ag.walk_nil (fun w6 hS hF hP => ?_)
            clear hP
            clear hF
            have HB6 := Lib.hid (HBJ.out.trans (hS.mono HBJ.out.size))
            clear hS HK1 HK2 HL s1 s4
            gi_wp2
            go_roundw
            case rel => exact ⟨j + 1, by go_num, by omega, HB6⟩
            case measure => simp [intOf]; omega
          · have dj : ¬ (j : Int) < (d : Int) := by omega
            obtain rfl : d = j := by omega
            have f8 := HFJ.out.frozen 0
            have HB7 : Hid (Below Y.heap.size Y (wr.setCell ⟨g8, 0, none⟩ (.int .i64 ((T : Int) + (d : Int))))) := Lib.hid ((HBW8.out.trans (HBJ.out.mono HBW8.out.size)).setCell (by show _ ≤ g8; have := HG8.out; omega) _)
            have HF7 := Lib.hid (HFJ.out.set 0 (.int .i64 ((T : Int) + (d : Int))))
            have HV7 := Lib.hid (owns_setCell (owns_below HV.out HBJ.out) ⟨g8, 0, none⟩ (.int .i64 ((T : Int) + (d : Int))) (owns_ne_obj (owns_below HV.out HBJ.out) HFJ.out (by decide)))
            have HK7 : Hid (KeepsFrom W3.heap.size W (wr.setCell ⟨g8, 0, none⟩ (.int .i64 ((T : Int) + (d : Int))))) := Lib.hid ((keeps_below HBJ.out).trans ((KeepsOthers.setCell _ _ _).from _))
            have HO7 : Hid (Only (PR g8 (g8 + 2)) W (wr.setCell ⟨g8, 0, none⟩ (.int .i64 ((T : Int) + (d : Int))))) := Lib.hid ((Only.of_below HBJ.out).setCell _ _ (fun _ => .inl rfl))
            gi_wp2
            generalize wr.setCell ⟨g8, 0, none⟩ (.int .i64 ((T : Int) + (d : Int))) = W7 at *
            have HC7 := Lib.hid (HGG.out W7 HB7.out)
            have c8 := HF7.out.cell 0
            have c5 := HC7.out.f5.cell 0
            simp only [List.set_cons_zero, List.getElem?_cons_zero] at c8 c5
            clear f8 l8 l5 HFJ HCJ
            by_cases hT' : T + d < n
            · have d1 : (T : Int) + (d : Int) < (n : Int) := by omega
              have e4 : decide ((T : Int) + (d : Int) < (n : Int)) = true := by simp; omega
              have htl : T + d < ms.length := by rw [HML.out]; exact hT'
              have htv : T + d < vs.length := by rw [HVL.out]; exact hT'
              obtain ⟨b, off, cap', ea, hcs⟩ := HC7.out.ro.pos (by omega)
              simp only [Value.slice.injEq] at ea
              obtain ⟨rfl, -, rfl⟩ := ea
              have hnx := HNX.out _ (List.getElem?_eq_getElem htl)
              have hg' := HGM.out _ (List.getElem_mem htl)
              have r2 := HC7.out.rw.2 (T + d) _ _ (List.getElem?_eq_getElem htv) (List.getElem?_eq_getElem htl)
              have q2 := (hcs (T + d) (by omega)).trans (List.getElem?_eq_getElem htv)
              generalize vs[T + d] = u2 at *
              generalize ms[T + d] = r' at *
              obtain ⟨a2, f2, rfl, -⟩ := id r2
              have hne : (⟨(keyB r).toArray⟩ : ByteArray) ≠ ⟨(keyB r').toArray⟩ := fun h => by
                have := kB_inj HGR.out.1 hg'.1 h
                rw [this, beforeL_self] at hnx
                cases hnx
              have HL := Lib.hid (fun (W1 : World) (h : Below W7.heap.size W7 W1) => (⟨cell_later h c5, cell_later h c8, cell_later h q2⟩ : W1.cell? ⟨g5, 0, none⟩ = _ ∧ W1.cell? ⟨g8, 0, none⟩ = _ ∧ W1.cell? ⟨b, off + (T + d), none⟩ = _))
              have HK1 := Lib.hid (fun (W1 : World) (h : Below W7.heap.size W7 W1) => key_any (.slice av r.length cv) r HGR.out.1 (by have := HGR.out.2; omega) W1 ((Row.of_owns HV7.out).later h))
              have HK2 := Lib.hid (fun (W1 : World) (h : Below W7.heap.size W7 W1) => refkey_any (.slice a2 r'.length f2) r' hg'.1 (by have := hg'.2; omega) W1 (r2.later h))
              have s2 : (0 : Int) ≤ (T : Int) + (d : Int) := by omega
              have s4 : ((T : Int) + (d : Int)).toNat = T + d := by omega
              have HNE := Lib.hid hne
              clear hcs r2 q2 htl htv hnx hg' hne c8 c5
              apply ag.region_calm_in _ _ (ag.Spec.val _ :: ag.Spec.val _ :: ag.Spec.val _ :: ag.Spec.val (.bool true) :: ag.Spec.val (.bool true) :: ag.Spec.val _ :: ag.Spec.sat (fun v _ => v = .string ⟨(keyB r).toArray⟩) ag.grew :: ag.Spec.val _ :: ag.Spec.val _ :: ag.Spec.val _ :: ag.Spec.val _ :: ag.Spec.sat (fun v _ => v = .string ⟨(keyB r').toArray⟩) ag.grew :: ag.Spec.val (.bool false) :: ag.Spec.val (.bool false) :: [])
              case hnd => rfl
              case hm => kernel_rfl
              case hB => kernel_rfl
              case hlen => rfl
              case hc => exact ⟨⟨ag.lasts_eq _, rfl⟩, ⟨ag.lasts_eq _, rfl⟩, trivial⟩
              apply ag.walk_val
              · rfl
              · intro W1 hS hE
                obtain ⟨k1, k2, k3⟩ := HL.out W1 hS
                clear hS hE
                unfold ag.does
                go_simp
                first | done | exact ⟨rfl, rfl⟩ | rfl | (exact ⟨by go_num, rfl⟩) | (simp; done) | trace_state
              simp only [Act.put, List.setIfInBounds_toArray, List.set_cons_zero, List.set_cons_succ]
              apply ag.walk_val
              · rfl
              · intro W1 hS hE
                obtain ⟨k1, k2, k3⟩ := HL.out W1 hS
                clear hS hE
                unfold ag.does
                go_simp
                first | done | exact ⟨rfl, rfl⟩ | rfl | (exact ⟨by go_num, rfl⟩) | (simp; done) | trace_state
              simp only [Act.put, List.setIfInBounds_toArray, List.set_cons_zero, List.set_cons_succ]
              apply ag.walk_val
              · rfl
              · intro W1 hS hE
                clear hS hE
                unfold ag.does
                go_simp
                first | done | exact ⟨rfl, rfl⟩ | rfl | (exact ⟨by go_num, rfl⟩) | (simp; done) | trace_state
              simp only [Act.put, List.setIfInBounds_toArray, List.set_cons_zero, List.set_cons_succ]
              apply ag.walk_val
              · rfl
              · intro W1 hS hE
                clear hS hE
                unfold ag.does
                go_simp
                first | done | exact ⟨rfl, rfl⟩ | rfl | (exact ⟨by go_num, rfl⟩) | (simp; done) | trace_state
              simp only [Act.put, List.setIfInBounds_toArray, List.set_cons_zero, List.set_cons_succ]
              apply ag.walk_val
              · rfl
              · intro W1 hS hE
                clear hS hE
                unfold ag.does
                go_simp
                first | done | exact ⟨rfl, rfl⟩ | rfl | (exact ⟨by go_num, rfl⟩) | (simp; done) | trace_state
              simp only [Act.put, List.setIfInBounds_toArray, List.set_cons_zero, List.set_cons_succ]
              apply ag.walk_val
              · rfl
              · intro W1 hS hE
                clear hS hE
                unfold ag.does
                go_simp
                first | done | exact ⟨rfl, rfl⟩ | rfl | (exact ⟨by go_num, rfl⟩) | (simp; done) | trace_state
              simp only [Act.put, List.setIfInBounds_toArray, List.set_cons_zero, List.set_cons_succ]
              refine ag.walk_such (by rfl) (fun W1 hS hE => ?_) (fun y6 => ?_)
              · clear hE
                have hk := HK1.out W1 hS
                unfold ag.does
                go_simp
                first | done | (refine hk.mono ?_; rintro e W2 ⟨rfl, hb⟩; exact ⟨_, rfl, rfl, hb⟩)
              simp only [Act.put, List.setIfInBounds_toArray, List.set_cons_zero, List.set_cons_succ]
              apply ag.walk_val
              · rfl
              · intro W1 hS hE
                obtain ⟨k1, k2, k3⟩ := HL.out W1 hS
                clear hS hE
                unfold ag.does
                go_simp
                first | done | exact ⟨rfl, rfl⟩ | rfl | (exact ⟨by go_num, rfl⟩) | (simp; done) | trace_state
              simp only [Act.put, List.setIfInBounds_toArray, List.set_cons_zero, List.set_cons_succ]
              apply ag.walk_val
              · rfl
              · intro W1 hS hE
                obtain ⟨k1, k2, k3⟩ := HL.out W1 hS
                clear hS hE
                unfold ag.does
                go_simp
                first | done | exact ⟨rfl, rfl⟩ | rfl | (exact ⟨by go_num, rfl⟩) | (simp; done) | trace_state
              simp only [Act.put, List.setIfInBounds_toArray, List.set_cons_zero, List.set_cons_succ]
              apply ag.walk_val
              · rfl
              · intro W1 hS hE
                clear hS hE
                unfold ag.does
                go_simp
                first | done | exact ⟨rfl, rfl⟩ | rfl | (exact ⟨by go_num, rfl⟩) | (simp; done) | trace_state
              simp only [Act.put, List.setIfInBounds_toArray, List.set_cons_zero, List.set_cons_succ]
              apply ag.walk_val
              · rfl
              · intro W1 hS hE
                obtain ⟨k1, k2, k3⟩ := HL.out W1 hS
                clear hS hE
                unfold ag.does
                go_simp
                first | done | exact ⟨rfl, rfl⟩ | rfl | (exact ⟨by go_num, rfl⟩) | (simp; done) | trace_state
              simp only [Act.put, List.setIfInBounds_toArray, List.set_cons_zero, List.set_cons_succ]
              refine ag.walk_such (by rfl) (fun W1 hS hE => ?_) (fun y11 => ?_)
              · clear hE
                have hk := HK2.out W1 hS
                unfold ag.does
                go_simp
                first | done | (refine hk.mono ?_; rintro e W2 ⟨rfl, hb⟩; exact ⟨_, rfl, rfl, hb⟩)
              simp only [Act.put, List.setIfInBounds_toArray, List.set_cons_zero, List.set_cons_succ]
              apply ag.walk_val
              · rfl
              · intro W1 hS hE
                have h1 : y6 = .string ⟨(keyB r).toArray⟩ := hE.of 6 (by kernel_rfl)
                have h2 : y11 = .string ⟨(keyB r').toArray⟩ := hE.of 11 (by kernel_rfl)
                subst h1 h2
                have hne := HNE.out
                have hne2 : keyB r ≠ keyB r' := fun h => hne (by rw [h])
                clear hS hE
                unfold ag.does
                go_simp
                first | done | exact ⟨rfl, rfl⟩ | rfl | (exact ⟨by go_num, rfl⟩) | (simp; done) | trace_state
              simp only [Act.put, List.setIfInBounds_toArray, List.set_cons_zero, List.set_cons_succ]
              apply ag.walk_val
              · rfl
              · intro W1 hS hE
                clear hS hE
                unfold ag.does
                go_simp
                first | done | exact ⟨rfl, rfl⟩ | rfl | (exact ⟨by go_num, rfl⟩) | (simp; done) | trace_state
              simp only [Act.put, List.setIfInBounds_toArray, List.set_cons_zero, List.set_cons_succ]
              refine ag.walk_nil (fun w6 hS hF hP => ?_)
              clear hP
              clear hF
              have P1 := Lib.hid (HK7.out.trans (keeps_below hS))
              have P2 := Lib.hid (HO7.out.trans (Only.of_below hS) (fun _ _ h => h))
              have P3 := Lib.hid (HF7.out.later hS)
              have P4 := Lib.hid (HB7.out.trans (hS.mono HB7.out.size))
              clear hS HL HK1 HK2 s4
              gi_wp2
              exact ⟨P1.out, P2.out, by have h := P3.out; simp only [HTS.out]; rw [Int.natCast_add]; exact h, P4.out⟩
            · have d1 : ¬ (T : Int) + (d : Int) < (n : Int) := by omega
              have e4 : decide ((T : Int) + (d : Int) < (n : Int)) = false := by simp; omega
              have HL := Lib.hid (fun (W1 : World) (h : Below W7.heap.size W7 W1) => (⟨cell_later h c5, cell_later h c8⟩ : W1.cell? ⟨g5, 0, none⟩ = _ ∧ W1.cell? ⟨g8, 0, none⟩ = _))
              clear c8 c5
              apply ag.region_calm_in _ _ (ag.Spec.val _ :: ag.Spec.val _ :: ag.Spec.val _ :: ag.Spec.val (.bool false) :: ag.Spec.val (.bool false) :: ag.Spec.val undef :: ag.Spec.val undef :: ag.Spec.val undef :: ag.Spec.val undef :: ag.Spec.val undef :: ag.Spec.val undef :: ag.Spec.val undef :: ag.Spec.val undef :: ag.Spec.val (.bool false) :: [])
              case hnd => rfl
              case hm => kernel_rfl
              case hB => kernel_rfl
              case hlen => rfl
              case hc => exact trivial
              apply ag.walk_val
              · rfl
              · intro W1 hS hE
                obtain ⟨k1, k2⟩ := HL.out W1 hS
                clear hS hE
                unfold ag.does
                go_simp
                first | done | exact ⟨rfl, rfl⟩ | rfl | (exact ⟨by go_num, rfl⟩) | (simp; done) | trace_state
              simp only [Act.put, List.setIfInBounds_toArray, List.set_cons_zero, List.set_cons_succ]
              apply ag.walk_val
              · rfl
              · intro W1 hS hE
                obtain ⟨k1, k2⟩ := HL.out W1 hS
                clear hS hE
                unfold ag.does
                go_simp
                first | done | exact ⟨rfl, rfl⟩ | rfl | (exact ⟨by go_num, rfl⟩) | (simp; done) | trace_state
              simp only [Act.put, List.setIfInBounds_toArray, List.set_cons_zero, List.set_cons_succ]
              apply ag.walk_val
              · rfl
              · intro W1 hS hE
                clear hS hE
                unfold ag.does
                go_simp
                first | done | exact ⟨rfl, rfl⟩ | rfl | (exact ⟨by go_num, rfl⟩) | (simp; done) | trace_state
              simp only [Act.put, List.setIfInBounds_toArray, List.set_cons_zero, List.set_cons_succ]
              apply ag.walk_val
              · rfl
              · intro W1 hS hE
                clear hS hE
                unfold ag.does
                go_simp
                first | done | exact ⟨rfl, rfl⟩ | rfl | (exact ⟨by go_num, rfl⟩) | (simp; done) | trace_state
              simp only [Act.put, List.setIfInBounds_toArray, List.set_cons_zero, List.set_cons_succ]
              apply ag.walk_val
              · rfl
              · intro W1 hS hE
                clear hS hE
                unfold ag.does
                go_simp
                first | done | exact ⟨rfl, rfl⟩ | rfl | (exact ⟨by go_num, rfl⟩) | (simp; done) | trace_state
              simp only [Act.put, List.setIfInBounds_toArray, List.set_cons_zero, List.set_cons_succ]
              refine ag.walk_skip (by rfl) ?_
              simp only [Act.put, List.setIfInBounds_toArray, List.set_cons_zero, List.set_cons_succ]
              refine ag.walk_skip (by rfl) ?_
              simp only [Act.put, List.setIfInBounds_toArray, List.set_cons_zero, List.set_cons_succ]
              refine ag.walk_skip (by rfl) ?_
              simp only [Act.put, List.setIfInBounds_toArray, List.set_cons_zero, List.set_cons_succ]
              refine ag.walk_skip (by rfl) ?_
              simp only [Act.put, List.setIfInBounds_toArray, List.set_cons_zero, List.set_cons_succ]
              refine ag.walk_skip (by rfl) ?_
              simp only [Act.put, List.setIfInBounds_toArray, List.set_cons_zero, List.set_cons_succ]
              refine ag.walk_skip (by rfl) ?_
              simp only [Act.put, List.setIfInBounds_toArray, List.set_cons_zero, List.set_cons_succ]
              refine ag.walk_skip (by rfl) ?_
              simp only [Act.put, List.setIfInBounds_toArray, List.set_cons_zero, List.set_cons_succ]
              refine ag.walk_skip (by rfl) ?_
              simp only [Act.put, List.setIfInBounds_toArray, List.set_cons_zero, List.set_cons_succ]
              apply ag.walk_val
              · rfl
              · intro W1 hS hE
                clear hS hE
                unfold ag.does
                go_simp
                first | done | exact ⟨rfl, rfl⟩ | rfl | (exact ⟨by go_num, rfl⟩) | (simp; done) | trace_state
              simp only [Act.put, List.setIfInBounds_toArray, List.set_cons_zero, List.set_cons_succ]
              refine ag.walk_nil (fun w6 hS hF hP => ?_)
              clear hP
              clear hF
              have P1 := Lib.hid (HK7.out.trans (keeps_below hS))
              have P2 := Lib.hid (HO7.out.trans (Only.of_below hS) (fun _ _ h => h))
              have P3 := Lib.hid (HF7.out.later hS)
              have P4 := Lib.hid (HB7.out.trans (hS.mono HB7.out.size))
              clear hS HL
              gi_wp2
              exact ⟨P1.out, P2.out, by have h := P3.out; simp only [HTS.out]; rw [Int.natCast_add]; exact h, P4.out⟩
      case done =>
        rintro D W hD hI hK
        obtain ⟨hf8, hbw⟩ := hI
        simp only [List.take_length, HTO.out] at hf8
        have HCW := Lib.hid (HGG.out W hbw)
        have c8 := hf8.cell 0
        have l8 := hf8.lt
        have c5 := HCW.out.f5.cell 0
        have l5 := HCW.out.f5.lt
        have c4 := HCW.out.f4.cell 0
        have f4 := HCW.out.f4.frozen 0
        have l4 := HCW.out.f4.lt
        simp only [List.getElem?_cons_zero] at c8 c5 c4
        have HF4 := Lib.hid HCW.out.f4
        have HBW8 := Lib.hid hbw
        clear hf8 hbw
        go_wp2_with fail
        have hg4 : g4 < D := by have h1 := HCR.out.f4.lt; have h2 := HG8.out; have h3 := HW3.out; omega
        have hK' : (W.setCell ⟨g4, 0, none⟩ (.bool true)).heap[D]? = some (.deferred (some [])) := (Below.heap_setCell _ _ _ _ (by show D ≠ g4; omega)).trans hK
        have hc4 := (HF4.out.set 0 (.bool true)).cell 0
        simp only [List.set_cons_zero, List.getElem?_cons_zero] at hc4
        have hcell : ∀ ob, ((W.setCell ⟨g4, 0, none⟩ (.bool true)).putObj D ob).cell? ⟨g4, 0, none⟩ = some (.bool true) := fun ob => (World.cell?_of_block (a := ⟨g4, 0, none⟩) (World.putObj_heap_other (by show g4 ≠ D; omega))).trans hc4
        have HBZ : Hid (Below w.heap.size w (W.setCell ⟨g4, 0, none⟩ (.bool true))) := Lib.hid (by
          have h1 := HB5.out.trans (HB.out.mono HB5.out.size)
          have h2 := h1.trans (HBW8.out.mono h1.size)
          exact h2.setCell (by show _ ≤ g4; have := HG4.out; omega) _)
        refine ⟨by simp, .inl ⟨_, _, rfl, run_takeDeferred hK', ?_⟩⟩
        have hc5 := hcell (.deferred none)
        refine ⟨.bool true, by simp [results, Try.f13, go_sem, hc5], rfl, ?_⟩
        exact Below.trans HBZ.out (belowK_b (w := w) (Nat.le_refl _) _ D _ _ (by have := HG4.out; omega) hK' rfl rfl)
end Go.Proofs.Ytpkkhbmlclicfaa.val
