/- A store of cells: who watches; how many. -/
import Derived.Test.YtfaoeajaahnooaaCellB
import Derived.Test.YtfaoeajaahnooaaIter
import Derived.Sort.AtCallIn
namespace Go.Proofs.Ytfaoeajaahnooaa.cel
set_option linter.unusedVariables false
open Go.RowKit Go.WideShapes Go.MapKept
attribute [local go_sem] fieldT

/-- numbers that rise are their own sorted list -/
theorem sorted_rising {l : List Int} (h : l.Pairwise (· < ·)) : l.mergeSort (fun x y => decide (x ≤ y)) = l :=
  List.mergeSort_of_pairwise (h.imp fun h => by simpa using Int.le_of_lt h)
theorem SetAt.sorted {w : World} {b m : Nat} {l ss : List Int} {D : Dat} (hown : w.ownsMap Try.prog TI unitElem b m D) (hh : ∀ i, Go.Maps.has D (nb i) = decide (i ∈ l)) (hs : l.Pairwise (· < ·)) (hp : ss.Perm (intKeys D)) : ss.mergeSort (fun x y => decide (x ≤ y)) = l := by
  obtain ⟨es, hD, hpw, _⟩ := hown.entries keyedI
  obtain ⟨es', hD', hko⟩ := hown.keysOf
  obtain rfl : es = es' := by rw [hD] at hD'; simpa using hD'
  have h1 : l.Perm (intKeys D) := by
    subst hD
    exact perm_intKeys hpw (fun p hp => by obtain ⟨v, hv⟩ := hko p hp; obtain ⟨x, _, hx, _⟩ := Go.Maps.keyOf_i64 Try.underlying3 hv; exact ⟨x, hx⟩) (hs.imp fun h => by omega) (fun x => by have := hh x; unfold nb at this; rw [this]; simp)
  exact (mergeSort_of_perm_i (hp.trans h1.symm)).trans (sorted_rising hs)
theorem SetAt.len {w : World} {b m : Nat} {l : List Int} {D : Dat} (hown : w.ownsMap Try.prog TI unitElem b m D) (hh : ∀ i, Go.Maps.has D (nb i) = decide (i ∈ l)) (hs : l.Pairwise (· < ·)) : Go.Maps.size D = l.length := by
  obtain ⟨es, hD, hpw, _⟩ := hown.entries keyedI
  obtain ⟨es', hD', hko⟩ := hown.keysOf
  obtain rfl : es = es' := by rw [hD] at hD'; simpa using hD'
  have h1 : l.Perm (intKeys D) := by
    subst hD
    exact perm_intKeys hpw (fun p hp => by obtain ⟨v, hv⟩ := hko p hp; obtain ⟨x, _, hx, _⟩ := Go.Maps.keyOf_i64 Try.underlying3 hv; exact ⟨x, hx⟩) (hs.imp fun h => by omega) (fun x => by have := hh x; unfold nb at this; rw [this]; simp)
  rw [h1.length_eq, hD]
  show es.length = (es.map _).length
  simp
section
variable {own : Nat → Prop} {bs m : Nat} {S : CS} {w w' : World} {bt bw : Nat} {Dt Dw : Dat} {bk : ByteArray → Option Nat}
theorem Cel.rising (h : Cel own bs m S w bt bw Dt Dw bk) (k : ByteArray) (hk : k.size ≤ maxLen) : (S.wh k).Pairwise (· < ·) := by
  cases hb : bk k with
  | none => rw [h.nil_w k hk hb]; exact List.Pairwise.nil
  | some b => obtain ⟨-, -, -, D, -, -, h3⟩ := h.sets k b hk hb; exact h3
set_option maxRecDepth 100000 in
set_option maxHeartbeats 400000 in
theorem len_any (h : Cel own bs m S w bt bw Dt Dw bk) :
    Calls Try.prog 17 #[.pointer (some ⟨bs, 0, none⟩)] w fun e w' => e = .returned (.int .i64 (Go.Maps.size Dt)) ∧ w' = w := by
  have q0 := h.fl.cell 0
  have l0 := h.fl.lt
  have hr := h.mt.len Try.underlying45 TI
  simp only [List.getElem?_cons_zero] at q0
  clear h
  go_enter Try.func17, Try.ntmps17
  go_wp2_with fail
  go_ret
  exact ⟨rfl, rfl⟩
set_option maxRecDepth 100000 in
set_option maxHeartbeats 400000 in
theorem watches_any (h : Cel own bs m S w bt bw Dt Dw bk) :
    Calls Try.prog 16 #[.pointer (some ⟨bs, 0, none⟩)] w fun e w' => e = .returned (.int .i64 S.n) ∧ w' = w := by
  have q0 := h.fl.cell 2
  have l0 := h.fl.lt
  simp only [List.getElem?_cons_zero, List.getElem?_cons_succ] at q0
  clear h
  go_enter Try.func16, Try.ntmps16
  go_wp2_with fail
  go_ret
  exact ⟨rfl, rfl⟩
set_option maxRecDepth 100000 in
set_option maxHeartbeats 400000 in
theorem watched_any (h : Cel own bs m S w bt bw Dt Dw bk) (hm : m ≤ 1000000) (k : ByteArray) (hk : k.size ≤ maxLen) :
    Calls Try.prog 14 #[.pointer (some ⟨bs, 0, none⟩), .string k] w fun e w' => ∃ v, e = .returned v ∧ w'.ownsRow w.heap.size TI 1 v (S.wh k).length ((S.wh k).map encZ) ∧ Below w.heap.size w w' := by
  have q0 := h.fl.cell 1
  have l0 := h.fl.lt
  have hr := h.set k hk
  simp only [List.getElem?_cons_zero, List.getElem?_cons_succ] at q0
  obtain ⟨mb, hmb⟩ : ∃ mb, bk k = mb := ⟨_, rfl⟩
  rw [hmb] at hr
  have HV : Hid (∀ v ss w', (match mb with | none => ss = [] | some b => ∃ D : Dat, w.ownsMap Try.prog TI unitElem b m D ∧ (∀ i, Go.Maps.has D (nb i) = decide (i ∈ S.wh k)) ∧ ss.Perm (intKeys D)) → World.ownsRow w' (w.heap.size + 1) TI 1 v ss.length ((ss.mergeSort (fun x y => decide (x ≤ y))).map encZ) → World.ownsRow w' w.heap.size TI 1 v (S.wh k).length ((S.wh k).map encZ)) := by
    refine Lib.hid fun v ss w' hc hrow => ?_
    have hrow' : World.ownsRow w' w.heap.size TI 1 v ss.length ((ss.mergeSort (fun x y => decide (x ≤ y))).map encZ) := ⟨hrow.1, hrow.2.imp_right fun ⟨g, cap, cur, h1, h2, h3⟩ => ⟨g, cap, cur, h1, by omega, h3⟩⟩
    cases mb with
    | none =>
      simp only at hc
      subst hc
      rw [List.mergeSort_nil] at hrow'
      rw [h.nil_w k hk hmb]; exact hrow'
    | some b =>
      obtain ⟨D, h1, h2, h3⟩ := hc
      have e := SetAt.sorted h1 h2 (h.rising k hk) h3
      have el : ss.length = (S.wh k).length := by rw [← e, List.length_mergeSort]
      rw [e, el] at hrow'
      exact hrow'
  have HS : Hid (∀ b, mb = some b → ∃ D : Dat, w.ownsMap Try.prog TI unitElem b m D ∧ (∀ i, Go.Maps.has D (nb i) = decide (i ∈ S.wh k)) ∧ Go.Maps.size D ≤ m) := Lib.hid fun b e => by
    obtain ⟨-, -, -, D, h1, h2, -⟩ := h.sets k b hk (hmb.trans e)
    exact ⟨D, h1, h2, h1.size_le⟩
  clear h
  have hfK : Fence.wide.fn 20 := trivial
  have hfS : Fence.wide.fn 19 := trivial
  refine (callsIn_wide (n := 6)).1 (callsIn_of_wp Try.func14 rfl trivial ?_ rfl)
  simp only [Try.ntmps14, List.size_toArray, List.length_cons, List.length_nil, Nat.reduceAdd, Nat.reduceSub, Array.replicate_succ, Array.replicate_zero, List.push_toArray, List.append_toArray, List.nil_append, List.cons_append]
  cases mb with
  | none =>
    gi_wp2_with (first
      | (gi_at_call 20; refine (Try.maps_Keys_20 _ _).mono ?_; rintro e w' ⟨rfl, rfl⟩)
      | (gi_at_call 19; refine (Try.slices_Sorted_keys_nil_19_20 w).mono ?_; rintro e w' ⟨v, ss, rfl, hS, hrow, hnil, hb⟩))
    go_ret
    rw [World.size_alloc] at hrow hb
    exact ⟨v, rfl, HV.out v ss w' hS hrow, ((Below.refl _ _).alloc (Nat.le_refl _) _).trans (hb.mono (Nat.le_succ _))⟩
  | some b =>
    obtain ⟨D, h1, h2, h3⟩ := HS.out b rfl
    gi_wp2_with (first
      | (gi_at_call 20; refine (Try.maps_Keys_20 _ _).mono ?_; rintro e w' ⟨rfl, rfl⟩)
      | (gi_at_call 19; refine (Try.slices_Sorted_keys_19_20 b m D unitElem w h1 (by unfold maxLen; omega) (by omega)).mono ?_; rintro e w' ⟨v, ss, rfl, hS, hrow, hnil, hb⟩))
    go_ret
    rw [World.size_alloc] at hrow hb
    exact ⟨v, rfl, HV.out v ss w' ⟨D, h1, h2, hS⟩ hrow, ((Below.refl _ _).alloc (Nat.le_refl _) _).trans (hb.mono (Nat.le_succ _))⟩
theorem row_lower {w : World} {base base' : Nat} {e : TypeId} {sz : Nat} {v : Value} {n : Nat} {xs : List Value} (h : w.ownsRow base e sz v n xs) (hb : base' ≤ base) : w.ownsRow base' e sz v n xs := ⟨h.1, h.2.imp_right fun ⟨g, cap, cur, h1, h2, h3⟩ => ⟨g, cap, cur, h1, Nat.le_trans hb h2, h3⟩⟩
theorem eq_no {a b : ByteArray} (h : a ≠ b) : (a.toList == b.toList) = false := by
  have : ¬ a.toList = b.toList := fun h' => h (by rw [Lib.toList_data, Lib.toList_data] at h'; exact ByteArray.ext (Array.toList_inj.1 h'))
  simpa using this
theorem em_no {a : ByteArray} (h : a ≠ ByteArray.empty) : a.toList.isEmpty = false := by
  rw [Lib.toList_data]
  cases he : a.data.toList with
  | nil => exact absurd (ByteArray.ext (Array.toList_inj.1 (by rw [he]; rfl))) h
  | cons x l => rfl
theorem upd_id {α : Type} (f : ByteArray → α) (k : ByteArray) : upd f k (f k) = f := by
  funext s
  by_cases e : s = k
  · rw [e, upd_same]
  · rw [upd_other _ _ e]
set_option maxRecDepth 100000 in
set_option maxHeartbeats 400000 in
theorem set_any (h : Cel own bs m S w bt bw Dt Dw bk) (hm : m < 1000000) (k to : ByteArray) (hk : k.size ≤ maxLen) (l : List Int) (hl : l = @ite _ (S.tx k = to) (Classical.propDecidable _) [] (S.wh k)) :
    Calls Try.prog 11 #[.pointer (some ⟨bs, 0, none⟩), .string k, .string to] w fun e w' => ∃ v Dt', e = .returned v ∧ Cel own bs (m + 1) { S with tx := upd S.tx k to } w' bt bw Dt' Dw bk ∧ Only own w w' ∧ w'.ownsRow w.heap.size TI 1 v l.length (l.map encZ) := by
  have q0 := h.fl.cell 0
  have l0 := h.fl.lt
  simp only [List.getElem?_cons_zero] at q0
  have HG := Lib.hid (get_any h k hk)
  by_cases e0 : S.tx k = to
  · rw [if_pos e0] at hl
    subst e0
    have HC : Hid (Cel own bs (m + 1) { S with tx := upd S.tx k (S.tx k) } w bt bw Dt Dw bk) := Lib.hid (by rw [upd_id]; exact h.mono (Nat.le_succ _))
    clear h
    subst hl
    go_enter Try.func11, Try.ntmps11
    go_wp2_with (go_at_call 13; refine HG.out.mono ?_; rintro e w' ⟨rfl, rfl⟩)
    go_ret
    exact ⟨_, Dt, rfl, HC.out, Only.refl _ _, rfl, .inl ⟨rfl, rfl⟩⟩
  · rw [if_neg e0] at hl
    subst hl
    by_cases e1 : to = ByteArray.empty
    · subst e1
      have t0 := em_no e0
      obtain ⟨w1, r1, h1, o1⟩ := h.strike k hk 0
      have HC := Lib.hid (h1.mono (Nat.le_succ m))
      have HO := Lib.hid o1
      have HW := Lib.hid (watched_any h1 (by omega) k hk)
      clear h h1 o1
      go_enter Try.func11, Try.ntmps11
      go_wp2_with (first
        | (go_at_call 13; refine HG.out.mono ?_; rintro e w' ⟨rfl, rfl⟩)
        | (go_at_call 14; refine HW.out.mono ?_; rintro e w' ⟨v, rfl, hrow, hb⟩))
      go_ret
      exact ⟨v, _, rfl, HC.out.later hb, HO.out.trans (Only.of_below hb) (fun k hk ho => ho), row_lower hrow HO.out.size⟩
    · have t0 := eq_no e0
      have t1 := em_no e1
      obtain ⟨w1, r1, h1, o1⟩ := h.put k to hk e1 (by unfold maxLen; omega)
      have HC := Lib.hid (h1)
      have HO := Lib.hid o1
      have HW := Lib.hid (watched_any h1 (by omega) k hk)
      clear h h1 o1
      go_enter Try.func11, Try.ntmps11
      go_wp2_with (first
        | (go_at_call 13; refine HG.out.mono ?_; rintro e w' ⟨rfl, rfl⟩)
        | (go_at_call 14; refine HW.out.mono ?_; rintro e w' ⟨v, rfl, hrow, hb⟩))
      go_ret
      exact ⟨v, _, rfl, HC.out.later hb, HO.out.trans (Only.of_below hb) (fun k hk ho => ho), row_lower hrow HO.out.size⟩
end
end Go.Proofs.Ytfaoeajaahnooaa.cel
