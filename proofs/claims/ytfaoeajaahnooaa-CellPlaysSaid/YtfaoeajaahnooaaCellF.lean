/- All cells of a store: the iterator, for every loop body that leaves the store as it is; walked. -/
import Derived.Test.YtfaoeajaahnooaaCellE
import Derived.Test.YtfaoeajaahnooaaRngA
import Derived.Test.YtfaoeajaahnooaaOnlyX
import Derived.Stop.RegionWithIn
import Derived.BigRegionIn
namespace Go.Proofs.Ytfaoeajaahnooaa.cel
set_option linter.unusedVariables false
open Go.RowKit Go.WideShapes Go.MapKept
attribute [local go_sem] fieldT

theorem ownsMap_only {own : Nat → Prop} {w w' : World} {b n : Nat} {D : Dat} {k : TypeId} {R : Value → Option (Dat × List MemPlace)} (h : w.ownsMap Try.prog k R b n D) (ho : Only own w w') (hn : ¬ own b) : w'.ownsMap Try.prog k R b n D := by
  have hl := h.lt
  obtain ⟨es, clock, hb, Ft, hs, hD⟩ := h
  exact ⟨es, clock, (ho.block b hl hn).trans hb, Ft, hs, hD⟩
theorem Cel.only {own P : Nat → Prop} {bs m : Nat} {S : CS} {w w' : World} {bt bw : Nat} {Dt Dw : Dat} {bk : ByteArray → Option Nat} (h : Cel own bs m S w bt bw Dt Dw bk) (ho : Only P w w') (hn : ∀ k, own k → ¬ P k) : Cel own bs m S w' bt bw Dt Dw bk := by
  refine ⟨h.fl.only ho (hn _ h.obs), h.obs, h.obt, h.obw, h.ne, ownsMap_only h.mt ho (hn _ h.obt), h.at_t, h.has_t, ownsMap_only h.mw ho (hn _ h.obw), h.at_w, h.nil_w, fun s b hs hb => ?_, h.inj⟩
  obtain ⟨h1, h2, h3, D, h4, h5⟩ := h.sets s b hs hb
  exact ⟨h1, h2, h3, D, ownsMap_only h4 ho (hn _ h1), h5⟩
/-- what is yielded: a name and its text -/
def AllA (S : CS) (ks : List (List UInt8)) (k : Nat) (W : World) (xs : Array Value) : Prop := ∃ x, ks[k]? = some x ∧ xs = #[encStr x, .string (S.tx ⟨x.toArray⟩)]
theorem yield_bb {e : Ending} {A B : Prop} (h : (e = .returned (.bool true) ∧ A) ∨ (e = .returned (.bool false) ∧ B)) : ∃ bb, e = .returned (.bool bb) ∧ ((bb = true ∧ A) ∨ (bb = false ∧ B)) := by
  rcases h with ⟨rfl, h⟩ | ⟨rfl, h⟩
  · exact ⟨true, rfl, .inl ⟨rfl, h⟩⟩
  · exact ⟨false, rfl, .inr ⟨rfl, h⟩⟩
set_option maxRecDepth 100000 in
set_option maxHeartbeats 4000000 in
theorem all1_in (n : Nat) (hn : 1 ≤ n) (l Bs : Nat) {own : Nat → Prop} {bs m : Nat} {S : CS} {w : World} {bt bw : Nat} {Dt Dw : Dat} {bk : ByteArray → Option Nat} (h : Cel own bs m S w bt bw Dt Dw bk) (hm : m ≤ 1000000) (ks : List (List UInt8)) (hks : ks = (strKeys Dt).mergeSort leB)
    (W : World) (P : Nat → Prop) (hP : ∀ k, P k → k < w.heap.size ∧ ¬ own k ∧ k ≠ Bs) (hW : OnlyX w.heap.size P w W) (J Jx : Nat → World → Prop) (hJ : AbidesFrom W.heap.size J)
    (hY : ∀ k W1 xs, k < ks.length → J k W1 → AllA S ks k W1 xs → YieldAt Fence.wide (n - 1) Try.prog l xs W1 fun e W' =>
      (e = .returned (.bool true) ∧ J (k + 1) W' ∧ OnlyX w.heap.size P W1 W') ∨ (e = .returned (.bool false) ∧ Jx (k + 1) W'))
    (hBs : w.cell? ⟨Bs, 0, none⟩ = some (.pointer (some ⟨bs, 0, none⟩))) (h0 : J 0 W) :
    CallsIn Fence.wide n Try.prog 21 #[.func (.yield l) #[] #[], .pointer (some ⟨Bs, 0, none⟩)] W fun e W' => (∃ v, e = .returned v) ∧ (J ks.length W' ∨ ∃ k, k ≤ ks.length ∧ Jx k W') := by
  have HBX := Lib.hid (fun (W' : World) (h : OnlyX w.heap.size P w W') => (World.cell?_of_block (a := ⟨Bs, 0, none⟩) (h.only.block Bs (World.block_lt_of_cell? w ⟨Bs, 0, none⟩ hBs) (fun hp => (hP _ hp).2.2 rfl))).trans hBs)
  have HCX := Lib.hid (fun (W' : World) (ho : OnlyX w.heap.size P w W') => h.only ho.only (fun k h1 h2 => (hP k h2).2.1 h1))
  have hz : Go.Maps.size Dt ≤ m := h.mt.size_le
  have hkl := strKeys_le h.mt Try.underlying9
  have hperm : ks.Perm (strKeys Dt) := hks ▸ List.mergeSort_perm _ _
  have HKS : Hid (∀ x ∈ ks, x.length ≤ maxLen) := Lib.hid fun x hx => hkl x (hperm.mem_iff.1 hx)
  have hlen : ks.length ≤ 1000000 := by
    obtain ⟨es, hD, -⟩ := h.mt.entries keyedS
    have h1 := hperm.length_eq
    rw [hD] at h1 hz
    have h2 : (strKeys (DataW.map es)).length = es.length := by show (es.map _).length = _; simp
    have h3 : Go.Maps.size (DataW.map es) = es.length := rfl
    omega
  have HSRT : Hid (∀ ss : List (List UInt8), ss.Perm (strKeys Dt) → ss.mergeSort (fun x y => decide (x ≤ y)) = ks ∧ ss.length = ks.length) := Lib.hid fun ss hp => ⟨hks ▸ mergeSort_of_perm hp, by rw [hp.length_eq, hperm.length_eq]⟩
  have hW1 := HCX.out W hW
  have q1 := HBX.out W hW
  have q0 := hW1.fl.cell 0
  have hbl := hW1.fl.lt
  have hmt := hW1.mt
  simp only [List.getElem?_cons_zero] at q0
  obtain ⟨N, hN⟩ : ∃ N, ks.length = N := ⟨_, rfl⟩
  have HJ := Lib.hid hJ; have HY := Lib.hid hY; have HW := Lib.hid hW; have HPB := Lib.hid hP; have HN := Lib.hid hN; have HM := Lib.hid hmt
  have hn0 : (0 : Int) ≤ (N : Int) := by omega
  have hn1 : (N : Int) ≤ 1000000 := by omega
  clear hJ hY hW hP h hW1 hks hkl hperm hBs hmt
  have hfK : Fence.wide.fn 23 := trivial
  have hfS : Fence.wide.fn 22 := trivial
  refine callsIn_of_wp Try.func21 rfl trivial ?_ rfl
  simp only [Try.ntmps21, List.size_toArray, List.length_cons, List.length_nil, Nat.reduceAdd, Nat.reduceSub, Array.replicate_succ, Array.replicate_zero, List.push_toArray, List.append_toArray, List.nil_append, List.cons_append]
  gi_wp2_with (first
    | (gi_at_call 23; refine (callsIn_wide.2 (callsIn_wide.1 (Try.maps_Keys_23 _ _))).mono ?_; rintro e w' ⟨rfl, rfl⟩)
    | (gi_at_call 22; refine (callsIn_wide.2 (callsIn_wide.1 (Try.slices_Sorted_keys_22_23 bt m Dt txE W HM.out (by unfold maxLen; omega) (by omega)))).mono ?_; rintro e w' ⟨v, ss, rfl, hS, hrow, hnil, hb⟩; obtain ⟨hs1, hs2⟩ := HSRT.out ss hS; rw [hs1, hs2, HN.out, World.size_alloc] at hrow; obtain ⟨a, c, rfl⟩ := owns_shape hrow))
  have HB := Lib.hid (((Below.refl W.heap.size W).alloc (Nat.le_refl _) (.cells #[.map (some bt)] M1)).trans (hb.mono (by rw [World.size_alloc]; omega)))
  have HJ0 := Lib.hid (HJ.out 0 W w' none h0 (grown_of_below HB.out) (fun r h => by cases h))
  have HO0 := Lib.hid (HW.out.trans (OnlyX.of_below HB.out))
  have HR0 := Lib.hid hrow
  have HPR : Hid (∀ k, P k → k < W.heap.size) := Lib.hid fun k hk => Nat.lt_of_lt_of_le (HPB.out k hk).1 HW.out.size
  clear hb hs1 hs2 hS hrow hnil q0 q1 hbl h0
  clear hN
  gi_loopw [14] (fun i wr => ∃ k : Nat, i = .int .i64 (k : Int) ∧ k ≤ N ∧ J k wr ∧ Hid (OnlyX w.heap.size P w wr) ∧ Hid (wr.ownsRow (W.heap.size + 1) TK 1 (.slice a N c) N (ks.map encStr))) (fun i _ => N - (intOf i).toNat)
  case atStart => exact ⟨0, rfl, Nat.zero_le _, HJ0.out, HO0, HR0⟩
  case round =>
    obtain ⟨k, rfl, hk, hJs, HR, HRO⟩ := hrel
    have hd0 : (0 : Int) ≤ (k : Int) := by omega
    by_cases hkn : k < N
    · have dk : (k : Int) < (N : Int) := by omega
      obtain ⟨g, rfl, hg1, hg2, hc, -⟩ := owns_cellAt HRO.out (by omega)
      have hkk : k < ks.length := by have := HN.out; omega
      have c0 := hc k (by omega)
      obtain ⟨x, hx⟩ : ∃ x, ks[k]? = some x := ⟨ks[k], List.getElem?_eq_getElem hkk⟩
      rw [List.getElem?_map, hx] at c0
      simp only [Option.map_some] at c0
      have hxl : x.length ≤ maxLen := HKS.out x (List.mem_of_getElem? hx)
      have HC := HCX.out wr HR.out
      have q1 := HBX.out wr HR.out
      have q0 := HC.fl.cell 0
      have hbl := HC.fl.lt
      have hlk := HC.text ⟨x.toArray⟩ hxl
      simp only [List.getElem?_cons_zero] at q0
      have HYY := Lib.hid (HY.out k wr _ hkk hJs ⟨x, hx, rfl⟩)
      obtain ⟨fn, tmps, assign, body, hy, hR⟩ := HYY.out
      have HRD := Lib.hid hR
      clear hR hc hx HYY HC
      gi_wp2_with (refine HRD.out.mono ?_; rintro e W3 hpp; obtain ⟨bb, rfl, hbb⟩ := yield_bb hpp; have HBB := Lib.hid hbb; clear hbb hpp)
      · have hbf : bb = false := by cases bb <;> simp_all
        have hJx : Jx (k + 1) W3 := by
          rcases HBB.out with ⟨h1, -⟩ | ⟨-, h1⟩
          · rw [hbf] at h1; cases h1
          · exact h1
        refine (by first | exact bodyPost_ret (results_none rfl _ _ _) rfl ⟨⟨_, rfl⟩, .inr ⟨_, hkk, hJx⟩⟩ | exact bodyPost_end (results_none rfl _ _ _) rfl ⟨⟨_, rfl⟩, .inr ⟨_, hkk, hJx⟩⟩)
      · have hbt : bb = true := by cases bb <;> simp_all
        obtain ⟨hJ3, hO3⟩ : J (k + 1) W3 ∧ OnlyX w.heap.size P wr W3 := by
          rcases HBB.out with ⟨-, h1, h2⟩ | ⟨h1, -⟩
          · exact ⟨h1, h2⟩
          · rw [hbt] at h1; cases h1
        refine ⟨⟨k + 1, by go_num, by omega, hJ3, Lib.hid (HR.out.trans hO3), Lib.hid (owns_onlyX HRO.out hO3 (fun g' e h => ?_))⟩, by simp [intOf]; omega⟩
        simp only [Value.ownBlock, Option.some.injEq] at e
        have := HPR.out g' h
        omega
    · have dk : ¬ (k : Int) < (N : Int) := by omega
      obtain rfl : k = N := by omega
      gi_wp2
      refine (by first | exact bodyPost_end (results_none rfl _ _ _) rfl ⟨⟨_, rfl⟩, .inl (HN.out.symm ▸ hJs)⟩ | exact bodyPost_ret (results_none rfl _ _ _) rfl ⟨⟨_, rfl⟩, .inl (HN.out.symm ▸ hJs)⟩)
end Go.Proofs.Ytfaoeajaahnooaa.cel
