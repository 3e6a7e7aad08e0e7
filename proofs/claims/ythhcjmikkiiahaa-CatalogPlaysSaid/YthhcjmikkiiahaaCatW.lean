/- The names of a catalog; walked. -/
import Derived.Test.YthhcjmikkiiahaaCatV
import Derived.Test.YthhcjmikkiiahaaIter
import Derived.Sort.AtCallIn
namespace Go.Proofs.Ythhcjmikkiiahaa.cat
set_option linter.unusedVariables false
open Go.RowKit Go.WideShapes Go.MapKept Go.Maps Go.Sort Go.Shelf
theorem NM.keys {R : Value → Option (Dat × List MemPlace)} {E : Type} {dat : E → Dat} {z : E} {w : World} {b n : Nat} {D : Dat} {ks : List ByteArray} {f : ByteArray → E} (h : NM R dat z w b n D ks f) : (ks.map (fun s => s.data.toList)).Perm (strKeys D) := by
  obtain ⟨es, hD, hpw, _⟩ := h.own.entries keyedS
  obtain ⟨es', hD', hko⟩ := h.own.keysOf
  obtain rfl : es = es' := by rw [hD] at hD'; simpa using hD'
  have hhas := h.has
  have hle := h.le
  have hnd := h.nd
  subst hD
  have hk : ∀ p ∈ es, ∃ x, p.1 = .string x ∧ x.length ≤ maxLen := fun p hp => by
    obtain ⟨v, hv⟩ := hko p hp
    obtain ⟨x', ex, hkl, hlen⟩ := Maps.keyOf_str Try.underlying9 hv
    exact ⟨x', hkl, hlen⟩
  refine perm_strKeys hpw (fun p hp => by obtain ⟨x, h1, -⟩ := hk p hp; exact ⟨x, h1⟩) (List.Pairwise.map _ (fun a b hab e => hab (ByteArray.ext (Array.toList_inj.1 e))) hnd) (fun x => ?_)
  constructor
  · intro hx
    obtain ⟨s, hs, rfl⟩ := List.mem_map.1 hx
    have h2 := hhas s (hle s hs)
    rw [isIn_yes hs] at h2
    exact h2
  · intro hx
    have hx0 := hx
    rw [has_eq, List.any_eq_true] at hx
    obtain ⟨p, hp, he⟩ := hx
    obtain ⟨y, h1, h2⟩ := hk p hp
    have hxy : y = x := by rw [h1] at he; simpa [Lit.sameKey] using he
    subst hxy
    have h3 := hhas (bA y) h2
    rw [show nm (bA y) = .string y from rfl, hx0] at h3
    exact List.mem_map.2 ⟨bA y, isIn_iff.1 h3.symm, data_bA y⟩
theorem NM.sorted {R : Value → Option (Dat × List MemPlace)} {E : Type} {dat : E → Dat} {z : E} {w : World} {b n : Nat} {D : Dat} {ks : List ByteArray} {f : ByteArray → E} (h : NM R dat z w b n D ks f) {ss : List Bs} (hp : ss.Perm (strKeys D)) : (ss.mergeSort (fun x y => decide (x ≤ y))).map encStr = (sortB ks).map Value.string := by
  rw [enc_strs]
  unfold sortB
  rw [mergeSort_of_perm (hp.trans h.keys.symm)]
/-- what maps.Keys gives: a function over a block that holds the map -/
def KeysV (fn : FuncId) (b : Nat) (v : Value) (W : World) : Prop := ∃ g, v = .func (.func fn) #[] #[.pointer (some ⟨g, 0, none⟩)] ∧ g < W.heap.size ∧ W.cell? ⟨g, 0, none⟩ = some (.map (some b))
theorem KeysV.lasts {fn : FuncId} {b : Nat} {v : Value} {W W' : World} (h : KeysV fn b v W) (hb : Below W.heap.size W W') : KeysV fn b v W' := by
  obtain ⟨g, h1, h2, h3⟩ := h
  exact ⟨g, h1, Nat.lt_of_lt_of_le h2 hb.size, cell_later hb h3⟩
theorem keys_t (b : Nat) (W : World) : Calls Try.prog 46 #[.map (some b)] W fun e w' => ∃ v, e = .returned v ∧ KeysV 70 b v w' ∧ Below W.heap.size W w' := by
  refine ((callsIn_wide (n := 5)).1 (Try.maps_Keys_46 (some b) W)).mono ?_
  rintro e w' ⟨rfl, rfl⟩
  exact ⟨_, rfl, ⟨_, rfl, by simp, by simp⟩, (Below.refl _ _).alloc (Nat.le_refl _) _⟩
theorem sorted_t {R : Value → Option (Dat × List MemPlace)} {b nn : Nat} {D : Dat} {W : World} {v : Value} (hv : KeysV 70 b v W) (hown : W.ownsMap Try.prog TK R b nn D) (hmax : Go.Maps.size D ≤ 1000000) :
    Calls Try.prog 45 #[v] W fun e w' => ∃ (u : Value) (ss : List Bs), e = .returned u ∧ ss.Perm (strKeys D) ∧ w'.ownsRow W.heap.size TK 1 u ss.length ((ss.mergeSort (fun x y => decide (x ≤ y))).map encStr) ∧ Below W.heap.size W w' := by
  obtain ⟨g, rfl, hg, hc⟩ := hv
  refine ((callsIn_wide (n := 5)).1 (AnyZ.sorted_in Try.sorted45 Fence.wide 5 trivial trivial trivial trivial rfl (by omega) (Try.sorts45 _) (enters_of Try.func49 (by kernel_rfl) rfl) 70 #[.pointer (some ⟨g, 0, none⟩)] trivial (enters_of Try.func70 (by kernel_rfl) rfl) _ _ (by unfold maxLen; omega) (by omega) _ (AnyZ.keys_gives (ρ := Try.keys46_ren) { Try.keys46 with } Fence.wide _ trivial rfl (by omega) g b nn D _ hg hc hown))).mono ?_
  rintro e w' ⟨u, ss, h1, h2, h3, -, h5⟩
  exact ⟨u, ss, h1, h2, h3, h5⟩
theorem keys_v (b : Nat) (W : World) : Calls Try.prog 47 #[.map (some b)] W fun e w' => ∃ v, e = .returned v ∧ KeysV 71 b v w' ∧ Below W.heap.size W w' := by
  refine ((callsIn_wide (n := 5)).1 (Try.maps_Keys_47 (some b) W)).mono ?_
  rintro e w' ⟨rfl, rfl⟩
  exact ⟨_, rfl, ⟨_, rfl, by simp, by simp⟩, (Below.refl _ _).alloc (Nat.le_refl _) _⟩
theorem sorted_v {R : Value → Option (Dat × List MemPlace)} {b nn : Nat} {D : Dat} {W : World} {v : Value} (hv : KeysV 71 b v W) (hown : W.ownsMap Try.prog TK R b nn D) (hmax : Go.Maps.size D ≤ 1000000) :
    Calls Try.prog 45 #[v] W fun e w' => ∃ (u : Value) (ss : List Bs), e = .returned u ∧ ss.Perm (strKeys D) ∧ w'.ownsRow W.heap.size TK 1 u ss.length ((ss.mergeSort (fun x y => decide (x ≤ y))).map encStr) ∧ Below W.heap.size W w' := by
  obtain ⟨g, rfl, hg, hc⟩ := hv
  refine ((callsIn_wide (n := 5)).1 (AnyZ.sorted_in Try.sorted45 Fence.wide 5 trivial trivial trivial trivial rfl (by omega) (Try.sorts45 _) (enters_of Try.func49 (by kernel_rfl) rfl) 71 #[.pointer (some ⟨g, 0, none⟩)] trivial (enters_of Try.func71 (by kernel_rfl) rfl) _ _ (by unfold maxLen; omega) (by omega) _ (AnyZ.keys_gives (ρ := Try.keys47_ren) { Try.keys47 with } Fence.wide _ trivial rfl (by omega) g b nn D _ hg hc hown))).mono ?_
  rintro e w' ⟨u, ss, h1, h2, h3, -, h5⟩
  exact ⟨u, ss, h1, h2, h3, h5⟩
variable {B bs bt bv m : Nat} {S : CatS} {w : World}
set_option maxRecDepth 100000 in
set_option maxHeartbeats 8000000 in
theorem names_at (h : CatAt B bs bt bv m S w) (hm : m ≤ 1000000) : Calls Try.prog 19 #[.pointer (some ⟨bs, 0, none⟩)] w (CNames S w) := by
  obtain ⟨h1, Dt, Dv, ft, fv, hc⟩ := h
  have HC := Lib.hid hc
  have hst : Go.Maps.size Dt ≤ 1000000 := Nat.le_trans hc.mt.own.size_le hm
  have hsv : Go.Maps.size Dv ≤ 1000000 := Nat.le_trans hc.mv.own.size_le hm
  have HQ := Lib.hid (fun (W : World) (hb : Below w.heap.size w W) => And.intro ((hc.fl.later hb).cell 0) (And.intro ((hc.fl.later hb).cell 1) (hc.fl.later hb).lt))
  simp only [List.getElem?_cons_zero, List.getElem?_cons_succ] at HQ
  have HK1 := Lib.hid (fun (W : World) => keys_t bt W)
  have HK2 := Lib.hid (fun (W : World) => keys_v bv W)
  have HS1 := Lib.hid (fun (W : World) (v : Value) (hb : Below w.heap.size w W) (hv : KeysV 70 bt v W) => show Calls Try.prog 45 #[v] W (fun e w' => ∃ u, e = .returned u ∧ StrsV (sortB S.tn) u w' ∧ Below W.heap.size W w') from by
    refine (sorted_t hv (hc.later hb).mt.own hst).mono ?_
    rintro e w' ⟨u, ss, he, hp, ho, hbb⟩
    have e1 := (hc.later hb).mt.sorted hp
    have e2 : ss.length = (sortB S.tn).length := by have := congrArg List.length e1; rw [List.length_map, List.length_mergeSort, List.length_map] at this; exact this
    rw [e1, e2] at ho
    exact ⟨u, he, strs_of_owns ho, hbb⟩)
  have HS2 := Lib.hid (fun (W : World) (v : Value) (hb : Below w.heap.size w W) (hv : KeysV 71 bv v W) => show Calls Try.prog 45 #[v] W (fun e w' => ∃ u, e = .returned u ∧ StrsV (sortB S.vn) u w' ∧ Below W.heap.size W w') from by
    refine (sorted_v hv (hc.later hb).mv.own hsv).mono ?_
    rintro e w' ⟨u, ss, he, hp, ho, hbb⟩
    have e1 := (hc.later hb).mv.sorted hp
    have e2 : ss.length = (sortB S.vn).length := by have := congrArg List.length e1; rw [List.length_map, List.length_mergeSort, List.length_map] at this; exact this
    rw [e1, e2] at ho
    exact ⟨u, he, strs_of_owns ho, hbb⟩)
  obtain ⟨i0, hi, hz0, hz1, hz2⟩ := info_of infoS
  obtain ⟨q0, q1, ql⟩ := HQ.out w (Below.refl _ _)
  clear hc
  go_enter Try.func19, Try.ntmps19
  go_upto_region 3 with fail
  clear q0 q1 ql
  apply ag.region_chain  (ag.Spec.val _ :: ag.Spec.val _ :: ag.Spec.val _ :: ag.Spec.val _ :: ag.Spec.sat (KeysV 70 bt) ag.grew :: ag.Spec.sat (StrsV (sortB S.tn)) ag.grew :: ag.Spec.val _ :: ag.Spec.val _ :: ag.Spec.val _ :: ag.Spec.val _ :: ag.Spec.sat (KeysV 71 bv) ag.grew :: ag.Spec.sat (StrsV (sortB S.vn)) ag.grew :: ag.Spec.cpy 5 :: ag.Spec.cpy 11 :: [])
  case hm => kernel_rfl
  case hB => kernel_rfl
  case hlen => rfl
  case hc => exact ⟨.inl rfl, .inl rfl, .inl rfl, .inl rfl, trivial⟩
  case hst =>
    simp only [ag.Stab, ag.Row2, ag.Ok2, and_true]
    repeat' apply And.intro
    all_goals first
      | exact fun h => absurd rfl h
      | exact fun _ _ f v W W' _ hv _ ht => ag.Ch.lasts v W W' hv ht
      | exact fun _ _ f v W W' _ hv _ ht => ag.Ch.stays hv ht (by omega)
      | exact fun _ _ f v W W' _ hv _ ht => ((fun v W W' h hb => KeysV.lasts h hb)) v W W' hv ht
      | exact fun _ _ f v W W' _ hv _ ht => ((fun v W W' h hb => StrsV.lasts h hb)) v W W' hv ht
      | exact fun _ _ f v W W' _ hv _ ht => ((fun v W W' h hb => KeysV.lasts h hb)) v W W' hv ht
      | exact fun _ _ f v W W' _ hv _ ht => ((fun v W W' h hb => StrsV.lasts h hb)) v W W' hv ht
      | trivial
      | exact fun _ h => absurd (h.symm.trans (show _ = true by kernel_rfl)) (by decide)
  apply ag.walk_val
  · rfl
  · intro W1 hS hE
    clear hS hE
    unfold ag.does
    go_simp
    first | done | exact ⟨rfl, rfl⟩ | rfl | (exact ⟨by go_num, rfl⟩) | (simp; done) | trace_state
  simp only [Act.put, List.setIfInBounds_toArray, List.set_cons_zero, List.set_cons_succ]
  apply ag.walk_val
  · rfl
  · intro W1 hS hE
    clear hS hE
    unfold ag.does
    go_simp
    first | done | exact ⟨rfl, rfl⟩ | rfl | (exact ⟨by go_num, rfl⟩) | (simp; done) | trace_state
  simp only [Act.put, List.setIfInBounds_toArray, List.set_cons_zero, List.set_cons_succ]
  apply ag.walk_val
  · rfl
  · intro W1 hS hE
    clear hS hE
    unfold ag.does
    go_simp
    first | done | exact ⟨rfl, rfl⟩ | rfl | (exact ⟨by go_num, rfl⟩) | (simp; done) | trace_state
  simp only [Act.put, List.setIfInBounds_toArray, List.set_cons_zero, List.set_cons_succ]
  apply ag.walk_val
  · rfl
  · intro W1 hS hE
    obtain ⟨q0, q1, ql⟩ := HQ.out W1 hS
    clear hS hE
    unfold ag.does
    go_simp
    first | done | exact ⟨rfl, rfl⟩ | rfl | (exact ⟨by go_num, rfl⟩) | (simp; done) | trace_state
  simp only [Act.put, List.setIfInBounds_toArray, List.set_cons_zero, List.set_cons_succ]
  refine ag.walk_such (by rfl) (fun W1 hS hE => ?_) (fun y4 => ?_)
  · clear hE
    have hk := HK1.out W1
    unfold ag.does
    go_simp
    first | done | (refine hk.mono ?_; rintro e W2 ⟨v, rfl, hv, hb⟩; exact ⟨_, rfl, hv, hb⟩)
  simp only [Act.put, List.setIfInBounds_toArray, List.set_cons_zero, List.set_cons_succ]
  refine ag.walk_such (by rfl) (fun W1 hS hE => ?_) (fun y5 => ?_)
  · have box := hE.of 4 (by kernel_rfl)
    simp only [ag.lookE, if_true, Nat.reduceEqDiff, if_false] at box
    have hk := HS1.out W1 _ hS box
    clear hE
    unfold ag.does
    go_simp
    first | done | (refine hk.mono ?_; rintro e W2 ⟨v, rfl, hv, hb⟩; exact ⟨_, rfl, hv, hb⟩)
  simp only [Act.put, List.setIfInBounds_toArray, List.set_cons_zero, List.set_cons_succ]
  apply ag.walk_val
  · rfl
  · intro W1 hS hE
    clear hS hE
    unfold ag.does
    go_simp
    first | done | exact ⟨rfl, rfl⟩ | rfl | (exact ⟨by go_num, rfl⟩) | (simp; done) | trace_state
  simp only [Act.put, List.setIfInBounds_toArray, List.set_cons_zero, List.set_cons_succ]
  apply ag.walk_val
  · rfl
  · intro W1 hS hE
    clear hS hE
    unfold ag.does
    go_simp
    first | done | exact ⟨rfl, rfl⟩ | rfl | (exact ⟨by go_num, rfl⟩) | (simp; done) | trace_state
  simp only [Act.put, List.setIfInBounds_toArray, List.set_cons_zero, List.set_cons_succ]
  apply ag.walk_val
  · rfl
  · intro W1 hS hE
    clear hS hE
    unfold ag.does
    go_simp
    first | done | exact ⟨rfl, rfl⟩ | rfl | (exact ⟨by go_num, rfl⟩) | (simp; done) | trace_state
  simp only [Act.put, List.setIfInBounds_toArray, List.set_cons_zero, List.set_cons_succ]
  apply ag.walk_val
  · rfl
  · intro W1 hS hE
    obtain ⟨q0, q1, ql⟩ := HQ.out W1 hS
    clear hS hE
    unfold ag.does
    go_simp
    first | done | exact ⟨rfl, rfl⟩ | rfl | (exact ⟨by go_num, rfl⟩) | (simp; done) | trace_state
  simp only [Act.put, List.setIfInBounds_toArray, List.set_cons_zero, List.set_cons_succ]
  refine ag.walk_such (by rfl) (fun W1 hS hE => ?_) (fun y10 => ?_)
  · clear hE
    have hk := HK2.out W1
    unfold ag.does
    go_simp
    first | done | (refine hk.mono ?_; rintro e W2 ⟨v, rfl, hv, hb⟩; exact ⟨_, rfl, hv, hb⟩)
  simp only [Act.put, List.setIfInBounds_toArray, List.set_cons_zero, List.set_cons_succ]
  refine ag.walk_such (by rfl) (fun W1 hS hE => ?_) (fun y11 => ?_)
  · have box := hE.of 10 (by kernel_rfl)
    simp only [ag.lookE, if_true, Nat.reduceEqDiff, if_false] at box
    have hk := HS2.out W1 _ hS box
    clear hE
    unfold ag.does
    go_simp
    first | done | (refine hk.mono ?_; rintro e W2 ⟨v, rfl, hv, hb⟩; exact ⟨_, rfl, hv, hb⟩)
  simp only [Act.put, List.setIfInBounds_toArray, List.set_cons_zero, List.set_cons_succ]
  refine ag.walk_cpy (by kernel_rfl) (by rfl) (by rfl) (fun W1 hS hE => ?_) ?_
  · clear hS hE
    unfold ag.does
    go_simp
    first | exact ⟨rfl, rfl⟩ | rfl
  simp only [ag.lookX, Nat.reduceAdd, Nat.reduceEqDiff, if_false, if_true]
  simp only [Act.put, List.setIfInBounds_toArray, List.set_cons_zero, List.set_cons_succ]
  refine ag.walk_cpy (by kernel_rfl) (by rfl) (by rfl) (fun W1 hS hE => ?_) ?_
  · clear hS hE
    unfold ag.does
    go_simp
    first | exact ⟨rfl, rfl⟩ | rfl
  simp only [ag.lookX, Nat.reduceAdd, Nat.reduceEqDiff, if_false, if_true]
  simp only [Act.put, List.setIfInBounds_toArray, List.set_cons_zero, List.set_cons_succ]
  refine ag.walk_nil (fun w9 hS hF hP => ?_)
  clear hP
  have h5 := hF.of 5
  have h11 := hF.of 11
  simp only [ag.lookE, Nat.reduceEqDiff, if_false, if_true] at h5 h11
  have HO := Lib.hid (And.intro h5 (And.intro h11 hS))
  clear hF hS h5 h11
  go_wp2_with fail
  refine bodyPost_ret (results_tmp2 rfl _ _ _) rfl ?_
  exact ⟨_, _, rfl, HO.out.1, HO.out.2.1, HO.out.2.2⟩
end Go.Proofs.Ythhcjmikkiiahaa.cat
