/- Which records have the fields of their kind, and no others; walked. -/
import Derived.Test.YtfnajccnlcfbiaaDoorExprL
import Derived.BigRegion
namespace Go.Proofs.YtfnajccnlcfbiaaDoor.ex
set_option linter.unusedVariables false
open Go.RowKit
open val (V null veq6 gB ag3)
open lx (goodL)
attribute [local go_sem] Oper.semAt_some
theorem of_fe {W : World} {g : Nat} {T : TypeId} {a0 a1 a2 a3 a4 a5 a6 a7 : Value} (h : Flds W g T [a0, a1, a2, a3, a4, a5, a6, a7]) : W.cell? ⟨g, 0, none⟩ = some a0 ∧ W.cell? ⟨g, 1, none⟩ = some a1 ∧ W.cell? ⟨g, 2, none⟩ = some a2 ∧ W.cell? ⟨g, 3, none⟩ = some a3 ∧ W.cell? ⟨g, 4, none⟩ = some a4 ∧ W.cell? ⟨g, 5, none⟩ = some a5 ∧ W.cell? ⟨g, 6, none⟩ = some a6 ∧ W.cell? ⟨g, 7, none⟩ = some a7 ∧ g < W.heap.size :=
  ⟨h.cell 0, h.cell 1, h.cell 2, h.cell 3, h.cell 4, h.cell 5, h.cell 6, h.cell 7, h.lt⟩
theorem empty_iff (b : ByteArray) : pB (b = ByteArray.empty) = b.toList.isEmpty := by
  rw [Bool.eq_iff_iff, pB_iff, List.isEmpty_iff, Lib.toList_data, Array.toList_eq_nil_iff]
  exact ⟨fun h => by rw [h]; rfl, fun h => ByteArray.ext h⟩
set_option maxRecDepth 100000 in
set_option maxHeartbeats 4000000 in
theorem plain_any (r : Er) (a : Option Addr) (c n : Nat) (hr : r.lv = .slice a n c) (hn : n ≤ 1000) (hs1 : r.nm.size ≤ 1099511627776) (hs2 : r.tb.size ≤ 1099511627776) (w : World) :
    Calls Tryd.prog 31 #[r.val] w fun en w' => en = .returned (.bool (plainB r.k r.op r.v r.tb r.nm n)) ∧ Below w.heap.size w w' := by
  obtain ⟨rk, rop, rv, rtb, rnm, rlv⟩ := r
  dsimp only at hr hs1 hs2
  subst hr
  have HF := Lib.hid (fun (op' : Int) (v' : V) (tb' nm' : ByteArray) (W : World) => fields_at ⟨rk, rop, rv, rtb, rnm, .slice a n c⟩ op' v' tb' nm' n a c rfl W)
  unfold Er.val at HF ⊢
  dsimp only at HF ⊢
  have n0 : (0 : Int) ≤ (n : Int) := by omega
  have n1 : (n : Int) ≤ 1000 := by omega
  by_cases k1 : rk = 1
  · have HPL := Lib.hid (plain1 rk rop rv rtb rnm n k1)
    have b1 : (rk == 1) = true := by simp; omega
    clear k1
    go_enter Tryd.func31, Tryd.ntmps31
    go_upto_region 4 with fail
    obtain ⟨W0, hW0⟩ : ∃ W0, (w.alloc (.cells #[.int .i64 rk, .int .i64 rop, .int .i64 rv.k, .int .i64 rv.n, .string rv.s, .string rtb, .string rnm, .slice a n c] TE)).alloc (.cells #[.int .i64 rk, .int .i64 0, .int .i64 0, .int .i64 0, .string (ByteArray.mk #[]), .string (ByteArray.mk #[]), .string (ByteArray.mk #[]), .slice none 0 0] TE) = W0 := ⟨_, rfl⟩
    obtain ⟨g3, hg3⟩ : ∃ g3, w.heap.size + 1 = g3 := ⟨_, rfl⟩
    have fe : Flds W0 w.heap.size TE [.int .i64 rk, .int .i64 rop, .int .i64 rv.k, .int .i64 rv.n, .string rv.s, .string rtb, .string rnm, .slice a n c] := by rw [← hW0]; exact (Flds.new w TE _).alloc _
    have fo : Flds W0 g3 TE [.int .i64 rk, .int .i64 0, .int .i64 0, .int .i64 0, .string (ByteArray.mk #[]), .string (ByteArray.mk #[]), .string (ByteArray.mk #[]), .slice none 0 0] := by
      rw [← hW0, ← hg3]; have := Flds.new (w.alloc (.cells #[.int .i64 rk, .int .i64 rop, .int .i64 rv.k, .int .i64 rv.n, .string rv.s, .string rtb, .string rnm, .slice a n c] TE)) TE [.int .i64 rk, .int .i64 0, .int .i64 0, .int .i64 0, .string (ByteArray.mk #[]), .string (ByteArray.mk #[]), .string (ByteArray.mk #[]), .slice none 0 0]; rw [World.size_alloc] at this; exact this
    have hb0 : Below w.heap.size w W0 := by rw [← hW0]; exact ((Below.refl _ _).alloc (Nat.le_refl _) _).alloc (by simp) _
    have hlt : w.heap.size < g3 := by omega
    rw [hW0, hg3]
    clear hW0 hg3
    obtain ⟨q0, q1, q2, q3, q4, q5, q6, q7, le⟩ := of_fe fe
    obtain ⟨p0, p1, p2, p3, p4, p5, p6, p7, lo⟩ := of_fe fo
    have z2 := fo.frozen 2
    have z3 := fo.frozen 3
    have z4 := fo.frozen 4
    go_upto_region 5 with fail
    have fo1 : Flds (((W0.setCell ⟨g3, 2, none⟩ (.int .i64 rv.k)).setCell ⟨g3, 3, none⟩ (.int .i64 rv.n)).setCell ⟨g3, 4, none⟩ (.string rv.s)) g3 TE [.int .i64 rk, .int .i64 0, .int .i64 rv.k, .int .i64 rv.n, .string rv.s, .string (ByteArray.mk #[]), .string (ByteArray.mk #[]), .slice none 0 0] := (((fo.set 2 (.int .i64 rv.k)).set 3 (.int .i64 rv.n)).set 4 (.string rv.s))
    have fe1 : Flds (((W0.setCell ⟨g3, 2, none⟩ (.int .i64 rv.k)).setCell ⟨g3, 3, none⟩ (.int .i64 rv.n)).setCell ⟨g3, 4, none⟩ (.string rv.s)) w.heap.size TE [.int .i64 rk, .int .i64 rop, .int .i64 rv.k, .int .i64 rv.n, .string rv.s, .string rtb, .string rnm, .slice a n c] := (((fe.other ⟨g3, 2, none⟩ (.int .i64 rv.k) (by show w.heap.size ≠ g3; omega)).other ⟨g3, 3, none⟩ (.int .i64 rv.n) (by show w.heap.size ≠ g3; omega)).other ⟨g3, 4, none⟩ (.string rv.s) (by show w.heap.size ≠ g3; omega))
    have hb1 : Below w.heap.size w (((W0.setCell ⟨g3, 2, none⟩ (.int .i64 rv.k)).setCell ⟨g3, 3, none⟩ (.int .i64 rv.n)).setCell ⟨g3, 4, none⟩ (.string rv.s)) := (((hb0.setCell (by show w.heap.size ≤ g3; omega) _).setCell (by show w.heap.size ≤ g3; omega) _).setCell (by show w.heap.size ≤ g3; omega) _)
    generalize (((W0.setCell ⟨g3, 2, none⟩ (.int .i64 rv.k)).setCell ⟨g3, 3, none⟩ (.int .i64 rv.n)).setCell ⟨g3, 4, none⟩ (.string rv.s)) = W1 at fo1 fe1 hb1 ⊢
    have FO : Hid (Flds W1 g3 TE [.int .i64 rk, .int .i64 0, .int .i64 rv.k, .int .i64 rv.n, .string rv.s, .string (ByteArray.mk #[]), .string (ByteArray.mk #[]), .slice none 0 0]) := Lib.hid fo1
    have FE : Hid (Flds W1 w.heap.size TE [.int .i64 rk, .int .i64 rop, .int .i64 rv.k, .int .i64 rv.n, .string rv.s, .string rtb, .string rnm, .slice a n c]) := Lib.hid fe1
    have HB1 := Lib.hid hb1
    clear fo1 fe1 hb1 fo fe hb0
    obtain ⟨q0, q1, q2, q3, q4, q5, q6, q7, le⟩ := of_fe FE.out
    obtain ⟨p0, p1, p2, p3, p4, p5, p6, p7, lo⟩ := of_fe FO.out
    obtain ⟨F, hF⟩ : ∃ F, fldB rk rop rv rtb rnm rk 0 rv ByteArray.empty ByteArray.empty = F := ⟨_, rfl⟩
    have HFC := Lib.hid (HF.out 0 rv ByteArray.empty ByteArray.empty W1)
    rw [hF] at HFC HPL
    clear hF HF
    try dsimp only at HFC
    obtain ⟨G, hG⟩ : ∃ G, gB rv.k rv.n rv.s = G := ⟨_, rfl⟩
    have HGD := Lib.hid (fun (W : World) => val.good_any rv.k rv.n rv.s W)
    rw [hG] at HGD HPL
    unfold ag3 at HGD
    clear hG
    cases F with
    | false =>
      have HV : Hid (plainB rk rop rv rtb rnm n = false) := Lib.hid (by rw [HPL.out]; first | (simp [pB]; done) | (rw [Bool.eq_iff_iff]; simp [pB]; first | done | omega))
      go_wp2_with (first | (go_at_call 24; refine HFC.out.mono ?_; rintro en w2 ⟨rfl, hb2⟩; have HB2 := Lib.hid (HB1.out.trans (hb2.mono HB1.out.size)); have FE2 := Lib.hid (FE.out.later hb2); obtain ⟨e0, e1, e2, e3, e4, e5, e6, e7, l2⟩ := of_fe FE2.out; clear hb2) | (go_at_call 34; refine (HGD.out _).mono ?_; rintro en w3 ⟨rfl, hb3⟩; have HB3 := Lib.hid (HB2.out.trans (hb3.mono HB2.out.size)); obtain ⟨d0, d1, d2, d3, d4, d5, d6, d7, l3⟩ := of_fe (FE2.out.later hb3); clear hb3))
      go_ret
      exact ⟨by first | (rw [HV.out]; done) | (rw [HV.out]; rfl), HB2.out⟩
    | true =>
      by_cases hn0 : n = 0
      · subst hn0
        cases G with
        | false =>
          have HV : Hid (plainB rk rop rv rtb rnm 0 = false) := Lib.hid (by rw [HPL.out]; first | (simp [pB]; done) | (rw [Bool.eq_iff_iff]; simp [pB]; first | done | omega))
          go_wp2_with (first | (go_at_call 24; refine HFC.out.mono ?_; rintro en w2 ⟨rfl, hb2⟩; have HB2 := Lib.hid (HB1.out.trans (hb2.mono HB1.out.size)); have FE2 := Lib.hid (FE.out.later hb2); obtain ⟨e0, e1, e2, e3, e4, e5, e6, e7, l2⟩ := of_fe FE2.out; clear hb2) | (go_at_call 34; refine (HGD.out _).mono ?_; rintro en w3 ⟨rfl, hb3⟩; have HB3 := Lib.hid (HB2.out.trans (hb3.mono HB2.out.size)); obtain ⟨d0, d1, d2, d3, d4, d5, d6, d7, l3⟩ := of_fe (FE2.out.later hb3); clear hb3))
          go_ret
          exact ⟨by first | (rw [HV.out]; done) | (rw [HV.out]; rfl), HB3.out⟩
        | true =>
          by_cases e2 : rv.k = 2
          · have be : (rv.k != 2) = false := by simp [e2]
            have HV : Hid (plainB rk rop rv rtb rnm 0 = decide (0 ≤ rv.n)) := Lib.hid (by rw [HPL.out]; first | (simp [pB, e2]; done) | (rw [Bool.eq_iff_iff]; simp [pB, e2]; first | done | omega))
            clear e2
            go_wp2_with (first | (go_at_call 24; refine HFC.out.mono ?_; rintro en w2 ⟨rfl, hb2⟩; have HB2 := Lib.hid (HB1.out.trans (hb2.mono HB1.out.size)); have FE2 := Lib.hid (FE.out.later hb2); obtain ⟨e0, e1, e2, e3, e4, e5, e6, e7, l2⟩ := of_fe FE2.out; clear hb2) | (go_at_call 34; refine (HGD.out _).mono ?_; rintro en w3 ⟨rfl, hb3⟩; have HB3 := Lib.hid (HB2.out.trans (hb3.mono HB2.out.size)); obtain ⟨d0, d1, d2, d3, d4, d5, d6, d7, l3⟩ := of_fe (FE2.out.later hb3); clear hb3))
            go_ret
            exact ⟨by first | (rw [HV.out]; done) | (rw [HV.out]; rfl), HB3.out⟩
          · have be : (rv.k != 2) = true := by simp [e2]
            have HV : Hid (plainB rk rop rv rtb rnm 0 = true) := Lib.hid (by rw [HPL.out]; first | (simp [pB, e2]; done) | (rw [Bool.eq_iff_iff]; simp [pB, e2]; first | done | omega))
            clear e2
            go_wp2_with (first | (go_at_call 24; refine HFC.out.mono ?_; rintro en w2 ⟨rfl, hb2⟩; have HB2 := Lib.hid (HB1.out.trans (hb2.mono HB1.out.size)); have FE2 := Lib.hid (FE.out.later hb2); obtain ⟨e0, e1, e2, e3, e4, e5, e6, e7, l2⟩ := of_fe FE2.out; clear hb2) | (go_at_call 34; refine (HGD.out _).mono ?_; rintro en w3 ⟨rfl, hb3⟩; have HB3 := Lib.hid (HB2.out.trans (hb3.mono HB2.out.size)); obtain ⟨d0, d1, d2, d3, d4, d5, d6, d7, l3⟩ := of_fe (FE2.out.later hb3); clear hb3))
            go_ret
            exact ⟨by first | (rw [HV.out]; done) | (rw [HV.out]; rfl), HB3.out⟩
      · have bn : ((n : Int) == 0) = false := by simp [hn0]
        have HV : Hid (plainB rk rop rv rtb rnm n = false) := Lib.hid (by rw [HPL.out]; first | (simp [pB, hn0]; done) | (rw [Bool.eq_iff_iff]; simp [pB, hn0]; first | done | omega))
        clear hn0
        go_wp2_with (first | (go_at_call 24; refine HFC.out.mono ?_; rintro en w2 ⟨rfl, hb2⟩; have HB2 := Lib.hid (HB1.out.trans (hb2.mono HB1.out.size)); have FE2 := Lib.hid (FE.out.later hb2); obtain ⟨e0, e1, e2, e3, e4, e5, e6, e7, l2⟩ := of_fe FE2.out; clear hb2) | (go_at_call 34; refine (HGD.out _).mono ?_; rintro en w3 ⟨rfl, hb3⟩; have HB3 := Lib.hid (HB2.out.trans (hb3.mono HB2.out.size)); obtain ⟨d0, d1, d2, d3, d4, d5, d6, d7, l3⟩ := of_fe (FE2.out.later hb3); clear hb3))
        go_ret
        exact ⟨by first | (rw [HV.out]; done) | (rw [HV.out]; rfl), HB2.out⟩
  have b1 : (rk == 1) = false := by simp; omega
  by_cases k2 : rk = 2
  · have HPL := Lib.hid (plain2 rk rop rv rtb rnm n k2)
    have b2 : (rk == 2) = true := by simp; omega
    clear k1 k2
    go_enter Tryd.func31, Tryd.ntmps31
    go_upto_region 7 with fail
    obtain ⟨W0, hW0⟩ : ∃ W0, (w.alloc (.cells #[.int .i64 rk, .int .i64 rop, .int .i64 rv.k, .int .i64 rv.n, .string rv.s, .string rtb, .string rnm, .slice a n c] TE)).alloc (.cells #[.int .i64 rk, .int .i64 0, .int .i64 0, .int .i64 0, .string (ByteArray.mk #[]), .string (ByteArray.mk #[]), .string (ByteArray.mk #[]), .slice none 0 0] TE) = W0 := ⟨_, rfl⟩
    obtain ⟨g3, hg3⟩ : ∃ g3, w.heap.size + 1 = g3 := ⟨_, rfl⟩
    have fe : Flds W0 w.heap.size TE [.int .i64 rk, .int .i64 rop, .int .i64 rv.k, .int .i64 rv.n, .string rv.s, .string rtb, .string rnm, .slice a n c] := by rw [← hW0]; exact (Flds.new w TE _).alloc _
    have fo : Flds W0 g3 TE [.int .i64 rk, .int .i64 0, .int .i64 0, .int .i64 0, .string (ByteArray.mk #[]), .string (ByteArray.mk #[]), .string (ByteArray.mk #[]), .slice none 0 0] := by
      rw [← hW0, ← hg3]; have := Flds.new (w.alloc (.cells #[.int .i64 rk, .int .i64 rop, .int .i64 rv.k, .int .i64 rv.n, .string rv.s, .string rtb, .string rnm, .slice a n c] TE)) TE [.int .i64 rk, .int .i64 0, .int .i64 0, .int .i64 0, .string (ByteArray.mk #[]), .string (ByteArray.mk #[]), .string (ByteArray.mk #[]), .slice none 0 0]; rw [World.size_alloc] at this; exact this
    have hb0 : Below w.heap.size w W0 := by rw [← hW0]; exact ((Below.refl _ _).alloc (Nat.le_refl _) _).alloc (by simp) _
    have hlt : w.heap.size < g3 := by omega
    rw [hW0, hg3]
    clear hW0 hg3
    obtain ⟨q0, q1, q2, q3, q4, q5, q6, q7, le⟩ := of_fe fe
    obtain ⟨p0, p1, p2, p3, p4, p5, p6, p7, lo⟩ := of_fe fo
    have z5 := fo.frozen 5
    have z6 := fo.frozen 6
    have fo1 := (fo.set 5 (.string rtb)).set 6 (.string rnm)
    go_region
    have fo1 : Flds ((W0.setCell ⟨g3, 5, none⟩ (.string rtb)).setCell ⟨g3, 6, none⟩ (.string rnm)).drew g3 TE [.int .i64 rk, .int .i64 0, .int .i64 0, .int .i64 0, .string (ByteArray.mk #[]), .string rtb, .string rnm, .slice none 0 0] := ((fo.set 5 (.string rtb)).set 6 (.string rnm))
    have fe1 : Flds ((W0.setCell ⟨g3, 5, none⟩ (.string rtb)).setCell ⟨g3, 6, none⟩ (.string rnm)).drew w.heap.size TE [.int .i64 rk, .int .i64 rop, .int .i64 rv.k, .int .i64 rv.n, .string rv.s, .string rtb, .string rnm, .slice a n c] := ((fe.other ⟨g3, 5, none⟩ (.string rtb) (by show w.heap.size ≠ g3; omega)).other ⟨g3, 6, none⟩ (.string rnm) (by show w.heap.size ≠ g3; omega))
    have hb1 : Below w.heap.size w ((W0.setCell ⟨g3, 5, none⟩ (.string rtb)).setCell ⟨g3, 6, none⟩ (.string rnm)).drew := (((hb0.setCell (by show w.heap.size ≤ g3; omega) _).setCell (by show w.heap.size ≤ g3; omega) _)).drew
    generalize ((W0.setCell ⟨g3, 5, none⟩ (.string rtb)).setCell ⟨g3, 6, none⟩ (.string rnm)).drew = W1 at fo1 fe1 hb1 ⊢
    have FO : Hid (Flds W1 g3 TE [.int .i64 rk, .int .i64 0, .int .i64 0, .int .i64 0, .string (ByteArray.mk #[]), .string rtb, .string rnm, .slice none 0 0]) := Lib.hid fo1
    have FE : Hid (Flds W1 w.heap.size TE [.int .i64 rk, .int .i64 rop, .int .i64 rv.k, .int .i64 rv.n, .string rv.s, .string rtb, .string rnm, .slice a n c]) := Lib.hid fe1
    have HB1 := Lib.hid hb1
    clear fo1 fe1 hb1 fo fe hb0
    obtain ⟨q0, q1, q2, q3, q4, q5, q6, q7, le⟩ := of_fe FE.out
    obtain ⟨p0, p1, p2, p3, p4, p5, p6, p7, lo⟩ := of_fe FO.out
    obtain ⟨F, hF⟩ : ∃ F, fldB rk rop rv rtb rnm rk 0 null rtb rnm = F := ⟨_, rfl⟩
    have HFC := Lib.hid (HF.out 0 null rtb rnm W1)
    rw [hF] at HFC HPL
    clear hF HF
    unfold null at HFC
    try dsimp only at HFC
    obtain ⟨G1, hG1⟩ : ∃ G1, goodL rnm.data.toList = G1 := ⟨_, rfl⟩
    obtain ⟨G2, hG2⟩ : ∃ G2, goodL rtb.data.toList = G2 := ⟨_, rfl⟩
    have HL1 := Lib.hid (fun (W : World) => lx.good_any rnm hs1 W)
    have HL2 := Lib.hid (fun (W : World) => lx.good_any rtb hs2 W)
    rw [hG1] at HL1 HPL
    rw [hG2] at HL2 HPL
    clear hG1 hG2
    cases F with
    | false =>
      have HV : Hid (plainB rk rop rv rtb rnm n = false) := Lib.hid (by rw [HPL.out]; first | (simp [pB]; done) | (rw [Bool.eq_iff_iff]; simp [pB]; first | done | omega))
      go_wp2_with (first | (go_at_call 24; refine HFC.out.mono ?_; rintro en w2 ⟨rfl, hb2⟩; have HB2 := Lib.hid (HB1.out.trans (hb2.mono HB1.out.size)); have FE2 := Lib.hid (FE.out.later hb2); obtain ⟨e0, e1, e2, e3, e4, e5, e6, e7, l2⟩ := of_fe FE2.out; clear hb2) | (go_at_call 35; first | (with_reducible refine (HL1.out _).mono ?_; rintro en w3 ⟨rfl, rfl⟩) | (with_reducible refine (HL2.out _).mono ?_; rintro en w3 ⟨rfl, rfl⟩)))
      go_ret
      exact ⟨by first | (rw [HV.out]; done) | (rw [HV.out]; rfl), HB2.out⟩
    | true =>
      by_cases hn0 : n = 0
      · subst hn0
        cases G1 with
        | false =>
          have HV : Hid (plainB rk rop rv rtb rnm 0 = false) := Lib.hid (by rw [HPL.out]; first | (simp [pB]; done) | (rw [Bool.eq_iff_iff]; simp [pB]; first | done | omega))
          go_wp2_with (first | (go_at_call 24; refine HFC.out.mono ?_; rintro en w2 ⟨rfl, hb2⟩; have HB2 := Lib.hid (HB1.out.trans (hb2.mono HB1.out.size)); have FE2 := Lib.hid (FE.out.later hb2); obtain ⟨e0, e1, e2, e3, e4, e5, e6, e7, l2⟩ := of_fe FE2.out; clear hb2) | (go_at_call 35; first | (with_reducible refine (HL1.out _).mono ?_; rintro en w3 ⟨rfl, rfl⟩) | (with_reducible refine (HL2.out _).mono ?_; rintro en w3 ⟨rfl, rfl⟩)))
          go_ret
          exact ⟨by first | (rw [HV.out]; done) | (rw [HV.out]; rfl), HB2.out⟩
        | true =>
          have HV : Hid (plainB rk rop rv rtb rnm 0 = (rtb.toList.isEmpty || G2)) := Lib.hid (by rw [HPL.out, ← empty_iff]; simp [pB])
          by_cases et : rtb.toList = []
          · have be : rtb.toList.isEmpty = true := by rw [et]; rfl
            go_wp2_with (first | (go_at_call 24; refine HFC.out.mono ?_; rintro en w2 ⟨rfl, hb2⟩; have HB2 := Lib.hid (HB1.out.trans (hb2.mono HB1.out.size)); have FE2 := Lib.hid (FE.out.later hb2); obtain ⟨e0, e1, e2, e3, e4, e5, e6, e7, l2⟩ := of_fe FE2.out; clear hb2) | (go_at_call 35; first | (with_reducible refine (HL1.out _).mono ?_; rintro en w3 ⟨rfl, rfl⟩) | (with_reducible refine (HL2.out _).mono ?_; rintro en w3 ⟨rfl, rfl⟩)))
            go_ret
            exact ⟨by rw [HV.out, be]; rfl, HB2.out⟩
          · have be : rtb.toList.isEmpty = false := by cases h : rtb.toList with | nil => exact absurd h et | cons _ _ => rfl
            go_wp2_with (first | (go_at_call 24; refine HFC.out.mono ?_; rintro en w2 ⟨rfl, hb2⟩; have HB2 := Lib.hid (HB1.out.trans (hb2.mono HB1.out.size)); have FE2 := Lib.hid (FE.out.later hb2); obtain ⟨e0, e1, e2, e3, e4, e5, e6, e7, l2⟩ := of_fe FE2.out; clear hb2) | (go_at_call 35; first | (with_reducible refine (HL1.out _).mono ?_; rintro en w3 ⟨rfl, rfl⟩) | (with_reducible refine (HL2.out _).mono ?_; rintro en w3 ⟨rfl, rfl⟩)))
            go_ret
            exact ⟨by rw [HV.out, be]; simp only [Bool.false_or]; first | rfl | (congr 2; simp [be]), HB2.out⟩
      · have bn : ((n : Int) == 0) = false := by simp [hn0]
        have HV : Hid (plainB rk rop rv rtb rnm n = false) := Lib.hid (by rw [HPL.out]; first | (simp [pB, hn0]; done) | (rw [Bool.eq_iff_iff]; simp [pB, hn0]; first | done | omega))
        clear hn0
        go_wp2_with (first | (go_at_call 24; refine HFC.out.mono ?_; rintro en w2 ⟨rfl, hb2⟩; have HB2 := Lib.hid (HB1.out.trans (hb2.mono HB1.out.size)); have FE2 := Lib.hid (FE.out.later hb2); obtain ⟨e0, e1, e2, e3, e4, e5, e6, e7, l2⟩ := of_fe FE2.out; clear hb2) | (go_at_call 35; first | (with_reducible refine (HL1.out _).mono ?_; rintro en w3 ⟨rfl, rfl⟩) | (with_reducible refine (HL2.out _).mono ?_; rintro en w3 ⟨rfl, rfl⟩)))
        go_ret
        exact ⟨by first | (rw [HV.out]; done) | (rw [HV.out]; rfl), HB2.out⟩
  have b2 : (rk == 2) = false := by simp; omega
  by_cases k3 : rk = 3
  · have HPL := Lib.hid (plain3 rk rop rv rtb rnm n k3)
    have b3 : (rk == 3) = true := by simp; omega
    clear k1 k2 k3
    go_enter Tryd.func31, Tryd.ntmps31
    go_upto_region 10 with fail
    obtain ⟨W0, hW0⟩ : ∃ W0, (w.alloc (.cells #[.int .i64 rk, .int .i64 rop, .int .i64 rv.k, .int .i64 rv.n, .string rv.s, .string rtb, .string rnm, .slice a n c] TE)).alloc (.cells #[.int .i64 rk, .int .i64 0, .int .i64 0, .int .i64 0, .string (ByteArray.mk #[]), .string (ByteArray.mk #[]), .string (ByteArray.mk #[]), .slice none 0 0] TE) = W0 := ⟨_, rfl⟩
    obtain ⟨g3, hg3⟩ : ∃ g3, w.heap.size + 1 = g3 := ⟨_, rfl⟩
    have fe : Flds W0 w.heap.size TE [.int .i64 rk, .int .i64 rop, .int .i64 rv.k, .int .i64 rv.n, .string rv.s, .string rtb, .string rnm, .slice a n c] := by rw [← hW0]; exact (Flds.new w TE _).alloc _
    have fo : Flds W0 g3 TE [.int .i64 rk, .int .i64 0, .int .i64 0, .int .i64 0, .string (ByteArray.mk #[]), .string (ByteArray.mk #[]), .string (ByteArray.mk #[]), .slice none 0 0] := by
      rw [← hW0, ← hg3]; have := Flds.new (w.alloc (.cells #[.int .i64 rk, .int .i64 rop, .int .i64 rv.k, .int .i64 rv.n, .string rv.s, .string rtb, .string rnm, .slice a n c] TE)) TE [.int .i64 rk, .int .i64 0, .int .i64 0, .int .i64 0, .string (ByteArray.mk #[]), .string (ByteArray.mk #[]), .string (ByteArray.mk #[]), .slice none 0 0]; rw [World.size_alloc] at this; exact this
    have hb0 : Below w.heap.size w W0 := by rw [← hW0]; exact ((Below.refl _ _).alloc (Nat.le_refl _) _).alloc (by simp) _
    have hlt : w.heap.size < g3 := by omega
    rw [hW0, hg3]
    clear hW0 hg3
    obtain ⟨q0, q1, q2, q3, q4, q5, q6, q7, le⟩ := of_fe fe
    obtain ⟨p0, p1, p2, p3, p4, p5, p6, p7, lo⟩ := of_fe fo
    have z1 := fo.frozen 1
    go_upto_region 11 with fail
    have fo1 : Flds (W0.setCell ⟨g3, 1, none⟩ (.int .i64 rop)) g3 TE [.int .i64 rk, .int .i64 rop, .int .i64 0, .int .i64 0, .string (ByteArray.mk #[]), .string (ByteArray.mk #[]), .string (ByteArray.mk #[]), .slice none 0 0] := (fo.set 1 (.int .i64 rop))
    have fe1 : Flds (W0.setCell ⟨g3, 1, none⟩ (.int .i64 rop)) w.heap.size TE [.int .i64 rk, .int .i64 rop, .int .i64 rv.k, .int .i64 rv.n, .string rv.s, .string rtb, .string rnm, .slice a n c] := (fe.other ⟨g3, 1, none⟩ (.int .i64 rop) (by show w.heap.size ≠ g3; omega))
    have hb1 : Below w.heap.size w (W0.setCell ⟨g3, 1, none⟩ (.int .i64 rop)) := (hb0.setCell (by show w.heap.size ≤ g3; omega) _)
    generalize (W0.setCell ⟨g3, 1, none⟩ (.int .i64 rop)) = W1 at fo1 fe1 hb1 ⊢
    have FO : Hid (Flds W1 g3 TE [.int .i64 rk, .int .i64 rop, .int .i64 0, .int .i64 0, .string (ByteArray.mk #[]), .string (ByteArray.mk #[]), .string (ByteArray.mk #[]), .slice none 0 0]) := Lib.hid fo1
    have FE : Hid (Flds W1 w.heap.size TE [.int .i64 rk, .int .i64 rop, .int .i64 rv.k, .int .i64 rv.n, .string rv.s, .string rtb, .string rnm, .slice a n c]) := Lib.hid fe1
    have HB1 := Lib.hid hb1
    clear fo1 fe1 hb1 fo fe hb0
    obtain ⟨q0, q1, q2, q3, q4, q5, q6, q7, le⟩ := of_fe FE.out
    obtain ⟨p0, p1, p2, p3, p4, p5, p6, p7, lo⟩ := of_fe FO.out
    obtain ⟨F, hF⟩ : ∃ F, fldB rk rop rv rtb rnm rk rop null ByteArray.empty ByteArray.empty = F := ⟨_, rfl⟩
    have HFC := Lib.hid (HF.out rop null ByteArray.empty ByteArray.empty W1)
    rw [hF] at HFC HPL
    clear hF HF
    unfold null at HFC
    try dsimp only at HFC
    cases F with
    | false =>
      have HV : Hid (plainB rk rop rv rtb rnm n = false) := Lib.hid (by rw [HPL.out]; first | (simp [pB]; done) | (rw [Bool.eq_iff_iff]; simp [pB]; first | done | omega))
      go_wp2_with (go_at_call 24; refine HFC.out.mono ?_; rintro en w2 ⟨rfl, hb2⟩; have HB2 := Lib.hid (HB1.out.trans (hb2.mono HB1.out.size)); have FE2 := Lib.hid (FE.out.later hb2); obtain ⟨e0, e1, e2, e3, e4, e5, e6, e7, l2⟩ := of_fe FE2.out; clear hb2)
      go_ret
      exact ⟨by first | (rw [HV.out]; done) | (rw [HV.out]; rfl), HB2.out⟩
    | true =>
      by_cases hn0 : n = 2
      · subst hn0
        by_cases e2 : 1 ≤ rop
        · have be := e2
          have HV : Hid (plainB rk rop rv rtb rnm 2 = decide (rop ≤ 14)) := Lib.hid (by rw [HPL.out]; first | (simp [pB, e2]; done) | (rw [Bool.eq_iff_iff]; simp [pB, e2]; first | done | omega))
          clear e2
          go_wp2_with (go_at_call 24; refine HFC.out.mono ?_; rintro en w2 ⟨rfl, hb2⟩; have HB2 := Lib.hid (HB1.out.trans (hb2.mono HB1.out.size)); have FE2 := Lib.hid (FE.out.later hb2); obtain ⟨e0, e1, e2, e3, e4, e5, e6, e7, l2⟩ := of_fe FE2.out; clear hb2)
          go_ret
          exact ⟨by first | (rw [HV.out]; done) | (rw [HV.out]; rfl), HB2.out⟩
        · have be := e2
          have HV : Hid (plainB rk rop rv rtb rnm 2 = false) := Lib.hid (by rw [HPL.out]; first | (simp [pB, e2]; done) | (rw [Bool.eq_iff_iff]; simp [pB, e2]; first | done | omega))
          clear e2
          go_wp2_with (go_at_call 24; refine HFC.out.mono ?_; rintro en w2 ⟨rfl, hb2⟩; have HB2 := Lib.hid (HB1.out.trans (hb2.mono HB1.out.size)); have FE2 := Lib.hid (FE.out.later hb2); obtain ⟨e0, e1, e2, e3, e4, e5, e6, e7, l2⟩ := of_fe FE2.out; clear hb2)
          go_ret
          exact ⟨by first | (rw [HV.out]; done) | (rw [HV.out]; rfl), HB2.out⟩
      · have bn : ((n : Int) == 2) = false := by simp; omega
        have HV : Hid (plainB rk rop rv rtb rnm n = false) := Lib.hid (by rw [HPL.out]; first | (simp [pB, hn0]; done) | (rw [Bool.eq_iff_iff]; simp [pB, hn0]; first | done | omega))
        clear hn0
        go_wp2_with (go_at_call 24; refine HFC.out.mono ?_; rintro en w2 ⟨rfl, hb2⟩; have HB2 := Lib.hid (HB1.out.trans (hb2.mono HB1.out.size)); have FE2 := Lib.hid (FE.out.later hb2); obtain ⟨e0, e1, e2, e3, e4, e5, e6, e7, l2⟩ := of_fe FE2.out; clear hb2)
        go_ret
        exact ⟨by first | (rw [HV.out]; done) | (rw [HV.out]; rfl), HB2.out⟩
  have b3 : (rk == 3) = false := by simp; omega
  by_cases k4 : rk = 4
  · have HPL := Lib.hid (plain4 rk rop rv rtb rnm n (by omega))
    have b4 : (rk == 4) = true := by simp; omega
    clear k1 k2 k3 k4
    go_enter Tryd.func31, Tryd.ntmps31
    go_upto_region 16 with fail
    obtain ⟨W0, hW0⟩ : ∃ W0, (w.alloc (.cells #[.int .i64 rk, .int .i64 rop, .int .i64 rv.k, .int .i64 rv.n, .string rv.s, .string rtb, .string rnm, .slice a n c] TE)).alloc (.cells #[.int .i64 rk, .int .i64 0, .int .i64 0, .int .i64 0, .string (ByteArray.mk #[]), .string (ByteArray.mk #[]), .string (ByteArray.mk #[]), .slice none 0 0] TE) = W0 := ⟨_, rfl⟩
    obtain ⟨g3, hg3⟩ : ∃ g3, w.heap.size + 1 = g3 := ⟨_, rfl⟩
    have fe : Flds W0 w.heap.size TE [.int .i64 rk, .int .i64 rop, .int .i64 rv.k, .int .i64 rv.n, .string rv.s, .string rtb, .string rnm, .slice a n c] := by rw [← hW0]; exact (Flds.new w TE _).alloc _
    have fo : Flds W0 g3 TE [.int .i64 rk, .int .i64 0, .int .i64 0, .int .i64 0, .string (ByteArray.mk #[]), .string (ByteArray.mk #[]), .string (ByteArray.mk #[]), .slice none 0 0] := by
      rw [← hW0, ← hg3]; have := Flds.new (w.alloc (.cells #[.int .i64 rk, .int .i64 rop, .int .i64 rv.k, .int .i64 rv.n, .string rv.s, .string rtb, .string rnm, .slice a n c] TE)) TE [.int .i64 rk, .int .i64 0, .int .i64 0, .int .i64 0, .string (ByteArray.mk #[]), .string (ByteArray.mk #[]), .string (ByteArray.mk #[]), .slice none 0 0]; rw [World.size_alloc] at this; exact this
    have hb0 : Below w.heap.size w W0 := by rw [← hW0]; exact ((Below.refl _ _).alloc (Nat.le_refl _) _).alloc (by simp) _
    have hlt : w.heap.size < g3 := by omega
    rw [hW0, hg3]
    clear hW0 hg3
    have fo1 : Flds W0 g3 TE [.int .i64 rk, .int .i64 0, .int .i64 0, .int .i64 0, .string (ByteArray.mk #[]), .string (ByteArray.mk #[]), .string (ByteArray.mk #[]), .slice none 0 0] := fo
    have fe1 : Flds W0 w.heap.size TE [.int .i64 rk, .int .i64 rop, .int .i64 rv.k, .int .i64 rv.n, .string rv.s, .string rtb, .string rnm, .slice a n c] := fe
    have hb1 : Below w.heap.size w W0 := hb0
    generalize W0 = W1 at *
    have FO : Hid (Flds W1 g3 TE [.int .i64 rk, .int .i64 0, .int .i64 0, .int .i64 0, .string (ByteArray.mk #[]), .string (ByteArray.mk #[]), .string (ByteArray.mk #[]), .slice none 0 0]) := Lib.hid fo1
    have FE : Hid (Flds W1 w.heap.size TE [.int .i64 rk, .int .i64 rop, .int .i64 rv.k, .int .i64 rv.n, .string rv.s, .string rtb, .string rnm, .slice a n c]) := Lib.hid fe1
    have HB1 := Lib.hid hb1
    clear fo1 fe1 hb1 fo fe hb0
    obtain ⟨q0, q1, q2, q3, q4, q5, q6, q7, le⟩ := of_fe FE.out
    obtain ⟨p0, p1, p2, p3, p4, p5, p6, p7, lo⟩ := of_fe FO.out
    obtain ⟨F, hF⟩ : ∃ F, fldB rk rop rv rtb rnm rk 0 null ByteArray.empty ByteArray.empty = F := ⟨_, rfl⟩
    have HFC := Lib.hid (HF.out 0 null ByteArray.empty ByteArray.empty W1)
    rw [hF] at HFC HPL
    clear hF HF
    unfold null at HFC
    try dsimp only at HFC
    cases F with
    | false =>
      have HV : Hid (plainB rk rop rv rtb rnm n = false) := Lib.hid (by rw [HPL.out]; first | (simp [pB]; done) | (rw [Bool.eq_iff_iff]; simp [pB]; first | done | omega))
      go_wp2_with (go_at_call 24; refine HFC.out.mono ?_; rintro en w2 ⟨rfl, hb2⟩; have HB2 := Lib.hid (HB1.out.trans (hb2.mono HB1.out.size)); have FE2 := Lib.hid (FE.out.later hb2); obtain ⟨e0, e1, e2, e3, e4, e5, e6, e7, l2⟩ := of_fe FE2.out; clear hb2)
      go_ret
      exact ⟨by first | (rw [HV.out]; done) | (rw [HV.out]; rfl), HB2.out⟩
    | true =>
      have HV : Hid (plainB rk rop rv rtb rnm n = ((n : Int) == 1)) := Lib.hid (by rw [HPL.out]; first | (simp [pB]; done) | (rw [Bool.eq_iff_iff]; simp [pB]; first | done | omega))
      go_wp2_with (go_at_call 24; refine HFC.out.mono ?_; rintro en w2 ⟨rfl, hb2⟩; have HB2 := Lib.hid (HB1.out.trans (hb2.mono HB1.out.size)); have FE2 := Lib.hid (FE.out.later hb2); obtain ⟨e0, e1, e2, e3, e4, e5, e6, e7, l2⟩ := of_fe FE2.out; clear hb2)
      go_ret
      exact ⟨by first | (rw [HV.out]; done) | (rw [HV.out]; rfl), HB2.out⟩
  have b4 : (rk == 4) = false := by simp; omega
  by_cases k5 : rk = 5
  · have HPL := Lib.hid (plain4 rk rop rv rtb rnm n (by omega))
    have b5 : (rk == 5) = true := by simp; omega
    clear k1 k2 k3 k4 k5
    go_enter Tryd.func31, Tryd.ntmps31
    go_upto_region 16 with fail
    obtain ⟨W0, hW0⟩ : ∃ W0, (w.alloc (.cells #[.int .i64 rk, .int .i64 rop, .int .i64 rv.k, .int .i64 rv.n, .string rv.s, .string rtb, .string rnm, .slice a n c] TE)).alloc (.cells #[.int .i64 rk, .int .i64 0, .int .i64 0, .int .i64 0, .string (ByteArray.mk #[]), .string (ByteArray.mk #[]), .string (ByteArray.mk #[]), .slice none 0 0] TE) = W0 := ⟨_, rfl⟩
    obtain ⟨g3, hg3⟩ : ∃ g3, w.heap.size + 1 = g3 := ⟨_, rfl⟩
    have fe : Flds W0 w.heap.size TE [.int .i64 rk, .int .i64 rop, .int .i64 rv.k, .int .i64 rv.n, .string rv.s, .string rtb, .string rnm, .slice a n c] := by rw [← hW0]; exact (Flds.new w TE _).alloc _
    have fo : Flds W0 g3 TE [.int .i64 rk, .int .i64 0, .int .i64 0, .int .i64 0, .string (ByteArray.mk #[]), .string (ByteArray.mk #[]), .string (ByteArray.mk #[]), .slice none 0 0] := by
      rw [← hW0, ← hg3]; have := Flds.new (w.alloc (.cells #[.int .i64 rk, .int .i64 rop, .int .i64 rv.k, .int .i64 rv.n, .string rv.s, .string rtb, .string rnm, .slice a n c] TE)) TE [.int .i64 rk, .int .i64 0, .int .i64 0, .int .i64 0, .string (ByteArray.mk #[]), .string (ByteArray.mk #[]), .string (ByteArray.mk #[]), .slice none 0 0]; rw [World.size_alloc] at this; exact this
    have hb0 : Below w.heap.size w W0 := by rw [← hW0]; exact ((Below.refl _ _).alloc (Nat.le_refl _) _).alloc (by simp) _
    have hlt : w.heap.size < g3 := by omega
    rw [hW0, hg3]
    clear hW0 hg3
    have fo1 : Flds W0 g3 TE [.int .i64 rk, .int .i64 0, .int .i64 0, .int .i64 0, .string (ByteArray.mk #[]), .string (ByteArray.mk #[]), .string (ByteArray.mk #[]), .slice none 0 0] := fo
    have fe1 : Flds W0 w.heap.size TE [.int .i64 rk, .int .i64 rop, .int .i64 rv.k, .int .i64 rv.n, .string rv.s, .string rtb, .string rnm, .slice a n c] := fe
    have hb1 : Below w.heap.size w W0 := hb0
    generalize W0 = W1 at *
    have FO : Hid (Flds W1 g3 TE [.int .i64 rk, .int .i64 0, .int .i64 0, .int .i64 0, .string (ByteArray.mk #[]), .string (ByteArray.mk #[]), .string (ByteArray.mk #[]), .slice none 0 0]) := Lib.hid fo1
    have FE : Hid (Flds W1 w.heap.size TE [.int .i64 rk, .int .i64 rop, .int .i64 rv.k, .int .i64 rv.n, .string rv.s, .string rtb, .string rnm, .slice a n c]) := Lib.hid fe1
    have HB1 := Lib.hid hb1
    clear fo1 fe1 hb1 fo fe hb0
    obtain ⟨q0, q1, q2, q3, q4, q5, q6, q7, le⟩ := of_fe FE.out
    obtain ⟨p0, p1, p2, p3, p4, p5, p6, p7, lo⟩ := of_fe FO.out
    obtain ⟨F, hF⟩ : ∃ F, fldB rk rop rv rtb rnm rk 0 null ByteArray.empty ByteArray.empty = F := ⟨_, rfl⟩
    have HFC := Lib.hid (HF.out 0 null ByteArray.empty ByteArray.empty W1)
    rw [hF] at HFC HPL
    clear hF HF
    unfold null at HFC
    try dsimp only at HFC
    cases F with
    | false =>
      have HV : Hid (plainB rk rop rv rtb rnm n = false) := Lib.hid (by rw [HPL.out]; first | (simp [pB]; done) | (rw [Bool.eq_iff_iff]; simp [pB]; first | done | omega))
      go_wp2_with (go_at_call 24; refine HFC.out.mono ?_; rintro en w2 ⟨rfl, hb2⟩; have HB2 := Lib.hid (HB1.out.trans (hb2.mono HB1.out.size)); have FE2 := Lib.hid (FE.out.later hb2); obtain ⟨e0, e1, e2, e3, e4, e5, e6, e7, l2⟩ := of_fe FE2.out; clear hb2)
      go_ret
      exact ⟨by first | (rw [HV.out]; done) | (rw [HV.out]; rfl), HB2.out⟩
    | true =>
      have HV : Hid (plainB rk rop rv rtb rnm n = ((n : Int) == 1)) := Lib.hid (by rw [HPL.out]; first | (simp [pB]; done) | (rw [Bool.eq_iff_iff]; simp [pB]; first | done | omega))
      go_wp2_with (go_at_call 24; refine HFC.out.mono ?_; rintro en w2 ⟨rfl, hb2⟩; have HB2 := Lib.hid (HB1.out.trans (hb2.mono HB1.out.size)); have FE2 := Lib.hid (FE.out.later hb2); obtain ⟨e0, e1, e2, e3, e4, e5, e6, e7, l2⟩ := of_fe FE2.out; clear hb2)
      go_ret
      exact ⟨by first | (rw [HV.out]; done) | (rw [HV.out]; rfl), HB2.out⟩
  have b5 : (rk == 5) = false := by simp; omega
  by_cases k6 : rk = 6
  · have HPL := Lib.hid (plain4 rk rop rv rtb rnm n (by omega))
    have b6 : (rk == 6) = true := by simp; omega
    clear k1 k2 k3 k4 k5 k6
    go_enter Tryd.func31, Tryd.ntmps31
    go_upto_region 16 with fail
    obtain ⟨W0, hW0⟩ : ∃ W0, (w.alloc (.cells #[.int .i64 rk, .int .i64 rop, .int .i64 rv.k, .int .i64 rv.n, .string rv.s, .string rtb, .string rnm, .slice a n c] TE)).alloc (.cells #[.int .i64 rk, .int .i64 0, .int .i64 0, .int .i64 0, .string (ByteArray.mk #[]), .string (ByteArray.mk #[]), .string (ByteArray.mk #[]), .slice none 0 0] TE) = W0 := ⟨_, rfl⟩
    obtain ⟨g3, hg3⟩ : ∃ g3, w.heap.size + 1 = g3 := ⟨_, rfl⟩
    have fe : Flds W0 w.heap.size TE [.int .i64 rk, .int .i64 rop, .int .i64 rv.k, .int .i64 rv.n, .string rv.s, .string rtb, .string rnm, .slice a n c] := by rw [← hW0]; exact (Flds.new w TE _).alloc _
    have fo : Flds W0 g3 TE [.int .i64 rk, .int .i64 0, .int .i64 0, .int .i64 0, .string (ByteArray.mk #[]), .string (ByteArray.mk #[]), .string (ByteArray.mk #[]), .slice none 0 0] := by
      rw [← hW0, ← hg3]; have := Flds.new (w.alloc (.cells #[.int .i64 rk, .int .i64 rop, .int .i64 rv.k, .int .i64 rv.n, .string rv.s, .string rtb, .string rnm, .slice a n c] TE)) TE [.int .i64 rk, .int .i64 0, .int .i64 0, .int .i64 0, .string (ByteArray.mk #[]), .string (ByteArray.mk #[]), .string (ByteArray.mk #[]), .slice none 0 0]; rw [World.size_alloc] at this; exact this
    have hb0 : Below w.heap.size w W0 := by rw [← hW0]; exact ((Below.refl _ _).alloc (Nat.le_refl _) _).alloc (by simp) _
    have hlt : w.heap.size < g3 := by omega
    rw [hW0, hg3]
    clear hW0 hg3
    have fo1 : Flds W0 g3 TE [.int .i64 rk, .int .i64 0, .int .i64 0, .int .i64 0, .string (ByteArray.mk #[]), .string (ByteArray.mk #[]), .string (ByteArray.mk #[]), .slice none 0 0] := fo
    have fe1 : Flds W0 w.heap.size TE [.int .i64 rk, .int .i64 rop, .int .i64 rv.k, .int .i64 rv.n, .string rv.s, .string rtb, .string rnm, .slice a n c] := fe
    have hb1 : Below w.heap.size w W0 := hb0
    generalize W0 = W1 at *
    have FO : Hid (Flds W1 g3 TE [.int .i64 rk, .int .i64 0, .int .i64 0, .int .i64 0, .string (ByteArray.mk #[]), .string (ByteArray.mk #[]), .string (ByteArray.mk #[]), .slice none 0 0]) := Lib.hid fo1
    have FE : Hid (Flds W1 w.heap.size TE [.int .i64 rk, .int .i64 rop, .int .i64 rv.k, .int .i64 rv.n, .string rv.s, .string rtb, .string rnm, .slice a n c]) := Lib.hid fe1
    have HB1 := Lib.hid hb1
    clear fo1 fe1 hb1 fo fe hb0
    obtain ⟨q0, q1, q2, q3, q4, q5, q6, q7, le⟩ := of_fe FE.out
    obtain ⟨p0, p1, p2, p3, p4, p5, p6, p7, lo⟩ := of_fe FO.out
    obtain ⟨F, hF⟩ : ∃ F, fldB rk rop rv rtb rnm rk 0 null ByteArray.empty ByteArray.empty = F := ⟨_, rfl⟩
    have HFC := Lib.hid (HF.out 0 null ByteArray.empty ByteArray.empty W1)
    rw [hF] at HFC HPL
    clear hF HF
    unfold null at HFC
    try dsimp only at HFC
    cases F with
    | false =>
      have HV : Hid (plainB rk rop rv rtb rnm n = false) := Lib.hid (by rw [HPL.out]; first | (simp [pB]; done) | (rw [Bool.eq_iff_iff]; simp [pB]; first | done | omega))
      go_wp2_with (go_at_call 24; refine HFC.out.mono ?_; rintro en w2 ⟨rfl, hb2⟩; have HB2 := Lib.hid (HB1.out.trans (hb2.mono HB1.out.size)); have FE2 := Lib.hid (FE.out.later hb2); obtain ⟨e0, e1, e2, e3, e4, e5, e6, e7, l2⟩ := of_fe FE2.out; clear hb2)
      go_ret
      exact ⟨by first | (rw [HV.out]; done) | (rw [HV.out]; rfl), HB2.out⟩
    | true =>
      have HV : Hid (plainB rk rop rv rtb rnm n = ((n : Int) == 1)) := Lib.hid (by rw [HPL.out]; first | (simp [pB]; done) | (rw [Bool.eq_iff_iff]; simp [pB]; first | done | omega))
      go_wp2_with (go_at_call 24; refine HFC.out.mono ?_; rintro en w2 ⟨rfl, hb2⟩; have HB2 := Lib.hid (HB1.out.trans (hb2.mono HB1.out.size)); have FE2 := Lib.hid (FE.out.later hb2); obtain ⟨e0, e1, e2, e3, e4, e5, e6, e7, l2⟩ := of_fe FE2.out; clear hb2)
      go_ret
      exact ⟨by first | (rw [HV.out]; done) | (rw [HV.out]; rfl), HB2.out⟩
  have b6 : (rk == 6) = false := by simp; omega
  by_cases k7 : rk = 7
  · have HPL := Lib.hid (plain4 rk rop rv rtb rnm n (by omega))
    have b7 : (rk == 7) = true := by simp; omega
    clear k1 k2 k3 k4 k5 k6 k7
    go_enter Tryd.func31, Tryd.ntmps31
    go_upto_region 16 with fail
    obtain ⟨W0, hW0⟩ : ∃ W0, (w.alloc (.cells #[.int .i64 rk, .int .i64 rop, .int .i64 rv.k, .int .i64 rv.n, .string rv.s, .string rtb, .string rnm, .slice a n c] TE)).alloc (.cells #[.int .i64 rk, .int .i64 0, .int .i64 0, .int .i64 0, .string (ByteArray.mk #[]), .string (ByteArray.mk #[]), .string (ByteArray.mk #[]), .slice none 0 0] TE) = W0 := ⟨_, rfl⟩
    obtain ⟨g3, hg3⟩ : ∃ g3, w.heap.size + 1 = g3 := ⟨_, rfl⟩
    have fe : Flds W0 w.heap.size TE [.int .i64 rk, .int .i64 rop, .int .i64 rv.k, .int .i64 rv.n, .string rv.s, .string rtb, .string rnm, .slice a n c] := by rw [← hW0]; exact (Flds.new w TE _).alloc _
    have fo : Flds W0 g3 TE [.int .i64 rk, .int .i64 0, .int .i64 0, .int .i64 0, .string (ByteArray.mk #[]), .string (ByteArray.mk #[]), .string (ByteArray.mk #[]), .slice none 0 0] := by
      rw [← hW0, ← hg3]; have := Flds.new (w.alloc (.cells #[.int .i64 rk, .int .i64 rop, .int .i64 rv.k, .int .i64 rv.n, .string rv.s, .string rtb, .string rnm, .slice a n c] TE)) TE [.int .i64 rk, .int .i64 0, .int .i64 0, .int .i64 0, .string (ByteArray.mk #[]), .string (ByteArray.mk #[]), .string (ByteArray.mk #[]), .slice none 0 0]; rw [World.size_alloc] at this; exact this
    have hb0 : Below w.heap.size w W0 := by rw [← hW0]; exact ((Below.refl _ _).alloc (Nat.le_refl _) _).alloc (by simp) _
    have hlt : w.heap.size < g3 := by omega
    rw [hW0, hg3]
    clear hW0 hg3
    have fo1 : Flds W0 g3 TE [.int .i64 rk, .int .i64 0, .int .i64 0, .int .i64 0, .string (ByteArray.mk #[]), .string (ByteArray.mk #[]), .string (ByteArray.mk #[]), .slice none 0 0] := fo
    have fe1 : Flds W0 w.heap.size TE [.int .i64 rk, .int .i64 rop, .int .i64 rv.k, .int .i64 rv.n, .string rv.s, .string rtb, .string rnm, .slice a n c] := fe
    have hb1 : Below w.heap.size w W0 := hb0
    generalize W0 = W1 at *
    have FO : Hid (Flds W1 g3 TE [.int .i64 rk, .int .i64 0, .int .i64 0, .int .i64 0, .string (ByteArray.mk #[]), .string (ByteArray.mk #[]), .string (ByteArray.mk #[]), .slice none 0 0]) := Lib.hid fo1
    have FE : Hid (Flds W1 w.heap.size TE [.int .i64 rk, .int .i64 rop, .int .i64 rv.k, .int .i64 rv.n, .string rv.s, .string rtb, .string rnm, .slice a n c]) := Lib.hid fe1
    have HB1 := Lib.hid hb1
    clear fo1 fe1 hb1 fo fe hb0
    obtain ⟨q0, q1, q2, q3, q4, q5, q6, q7, le⟩ := of_fe FE.out
    obtain ⟨p0, p1, p2, p3, p4, p5, p6, p7, lo⟩ := of_fe FO.out
    obtain ⟨F, hF⟩ : ∃ F, fldB rk rop rv rtb rnm rk 0 null ByteArray.empty ByteArray.empty = F := ⟨_, rfl⟩
    have HFC := Lib.hid (HF.out 0 null ByteArray.empty ByteArray.empty W1)
    rw [hF] at HFC HPL
    clear hF HF
    unfold null at HFC
    try dsimp only at HFC
    cases F with
    | false =>
      have HV : Hid (plainB rk rop rv rtb rnm n = false) := Lib.hid (by rw [HPL.out]; first | (simp [pB]; done) | (rw [Bool.eq_iff_iff]; simp [pB]; first | done | omega))
      go_wp2_with (go_at_call 24; refine HFC.out.mono ?_; rintro en w2 ⟨rfl, hb2⟩; have HB2 := Lib.hid (HB1.out.trans (hb2.mono HB1.out.size)); have FE2 := Lib.hid (FE.out.later hb2); obtain ⟨e0, e1, e2, e3, e4, e5, e6, e7, l2⟩ := of_fe FE2.out; clear hb2)
      go_ret
      exact ⟨by first | (rw [HV.out]; done) | (rw [HV.out]; rfl), HB2.out⟩
    | true =>
      have HV : Hid (plainB rk rop rv rtb rnm n = ((n : Int) == 1)) := Lib.hid (by rw [HPL.out]; first | (simp [pB]; done) | (rw [Bool.eq_iff_iff]; simp [pB]; first | done | omega))
      go_wp2_with (go_at_call 24; refine HFC.out.mono ?_; rintro en w2 ⟨rfl, hb2⟩; have HB2 := Lib.hid (HB1.out.trans (hb2.mono HB1.out.size)); have FE2 := Lib.hid (FE.out.later hb2); obtain ⟨e0, e1, e2, e3, e4, e5, e6, e7, l2⟩ := of_fe FE2.out; clear hb2)
      go_ret
      exact ⟨by first | (rw [HV.out]; done) | (rw [HV.out]; rfl), HB2.out⟩
  have b7 : (rk == 7) = false := by simp; omega
  by_cases k8 : rk = 8
  · have HPL := Lib.hid (plain8 rk rop rv rtb rnm n k8)
    have b8 : (rk == 8) = true := by simp; omega
    clear k1 k2 k3 k4 k5 k6 k7 k8
    go_enter Tryd.func31, Tryd.ntmps31
    go_upto_region 18 with fail
    obtain ⟨W0, hW0⟩ : ∃ W0, (w.alloc (.cells #[.int .i64 rk, .int .i64 rop, .int .i64 rv.k, .int .i64 rv.n, .string rv.s, .string rtb, .string rnm, .slice a n c] TE)).alloc (.cells #[.int .i64 rk, .int .i64 0, .int .i64 0, .int .i64 0, .string (ByteArray.mk #[]), .string (ByteArray.mk #[]), .string (ByteArray.mk #[]), .slice none 0 0] TE) = W0 := ⟨_, rfl⟩
    obtain ⟨g3, hg3⟩ : ∃ g3, w.heap.size + 1 = g3 := ⟨_, rfl⟩
    have fe : Flds W0 w.heap.size TE [.int .i64 rk, .int .i64 rop, .int .i64 rv.k, .int .i64 rv.n, .string rv.s, .string rtb, .string rnm, .slice a n c] := by rw [← hW0]; exact (Flds.new w TE _).alloc _
    have fo : Flds W0 g3 TE [.int .i64 rk, .int .i64 0, .int .i64 0, .int .i64 0, .string (ByteArray.mk #[]), .string (ByteArray.mk #[]), .string (ByteArray.mk #[]), .slice none 0 0] := by
      rw [← hW0, ← hg3]; have := Flds.new (w.alloc (.cells #[.int .i64 rk, .int .i64 rop, .int .i64 rv.k, .int .i64 rv.n, .string rv.s, .string rtb, .string rnm, .slice a n c] TE)) TE [.int .i64 rk, .int .i64 0, .int .i64 0, .int .i64 0, .string (ByteArray.mk #[]), .string (ByteArray.mk #[]), .string (ByteArray.mk #[]), .slice none 0 0]; rw [World.size_alloc] at this; exact this
    have hb0 : Below w.heap.size w W0 := by rw [← hW0]; exact ((Below.refl _ _).alloc (Nat.le_refl _) _).alloc (by simp) _
    have hlt : w.heap.size < g3 := by omega
    rw [hW0, hg3]
    clear hW0 hg3
    obtain ⟨q0, q1, q2, q3, q4, q5, q6, q7, le⟩ := of_fe fe
    obtain ⟨p0, p1, p2, p3, p4, p5, p6, p7, lo⟩ := of_fe fo
    have z1 := fo.frozen 1
    go_upto_region 19 with fail
    have fo1 : Flds (W0.setCell ⟨g3, 1, none⟩ (.int .i64 rop)) g3 TE [.int .i64 rk, .int .i64 rop, .int .i64 0, .int .i64 0, .string (ByteArray.mk #[]), .string (ByteArray.mk #[]), .string (ByteArray.mk #[]), .slice none 0 0] := (fo.set 1 (.int .i64 rop))
    have fe1 : Flds (W0.setCell ⟨g3, 1, none⟩ (.int .i64 rop)) w.heap.size TE [.int .i64 rk, .int .i64 rop, .int .i64 rv.k, .int .i64 rv.n, .string rv.s, .string rtb, .string rnm, .slice a n c] := (fe.other ⟨g3, 1, none⟩ (.int .i64 rop) (by show w.heap.size ≠ g3; omega))
    have hb1 : Below w.heap.size w (W0.setCell ⟨g3, 1, none⟩ (.int .i64 rop)) := (hb0.setCell (by show w.heap.size ≤ g3; omega) _)
    generalize (W0.setCell ⟨g3, 1, none⟩ (.int .i64 rop)) = W1 at fo1 fe1 hb1 ⊢
    have FO : Hid (Flds W1 g3 TE [.int .i64 rk, .int .i64 rop, .int .i64 0, .int .i64 0, .string (ByteArray.mk #[]), .string (ByteArray.mk #[]), .string (ByteArray.mk #[]), .slice none 0 0]) := Lib.hid fo1
    have FE : Hid (Flds W1 w.heap.size TE [.int .i64 rk, .int .i64 rop, .int .i64 rv.k, .int .i64 rv.n, .string rv.s, .string rtb, .string rnm, .slice a n c]) := Lib.hid fe1
    have HB1 := Lib.hid hb1
    clear fo1 fe1 hb1 fo fe hb0
    obtain ⟨q0, q1, q2, q3, q4, q5, q6, q7, le⟩ := of_fe FE.out
    obtain ⟨p0, p1, p2, p3, p4, p5, p6, p7, lo⟩ := of_fe FO.out
    obtain ⟨F, hF⟩ : ∃ F, fldB rk rop rv rtb rnm rk rop null ByteArray.empty ByteArray.empty = F := ⟨_, rfl⟩
    have HFC := Lib.hid (HF.out rop null ByteArray.empty ByteArray.empty W1)
    rw [hF] at HFC HPL
    clear hF HF
    unfold null at HFC
    try dsimp only at HFC
    by_cases e1 : rop = 1
    · have bo : (rop == 1) = true := by simp [e1]
      have d1 : 1 ≤ rop := by omega
      have d4 : rop ≤ 4 := by omega
      by_cases hn0 : n = 0
      · subst hn0
        cases F with
        | false =>
          have HV : Hid (plainB rk rop rv rtb rnm 0 = false) := Lib.hid (by rw [HPL.out]; first | (simp [pB]; done) | (rw [Bool.eq_iff_iff]; simp [pB]; first | done | omega))
          clear e1
          go_wp2_with (go_at_call 24; refine HFC.out.mono ?_; rintro en w2 ⟨rfl, hb2⟩; have HB2 := Lib.hid (HB1.out.trans (hb2.mono HB1.out.size)); have FE2 := Lib.hid (FE.out.later hb2); obtain ⟨e0, e1, e2, e3, e4, e5, e6, e7, l2⟩ := of_fe FE2.out; clear hb2)
          go_ret
          exact ⟨by first | (rw [HV.out]; done) | (rw [HV.out]; rfl), HB2.out⟩
        | true =>
          have HV : Hid (plainB rk rop rv rtb rnm 0 = true) := Lib.hid (by rw [HPL.out]; first | (simp [pB, e1]; done) | (rw [Bool.eq_iff_iff]; simp [pB, e1]; first | done | omega))
          clear e1
          go_wp2_with (go_at_call 24; refine HFC.out.mono ?_; rintro en w2 ⟨rfl, hb2⟩; have HB2 := Lib.hid (HB1.out.trans (hb2.mono HB1.out.size)); have FE2 := Lib.hid (FE.out.later hb2); obtain ⟨e0, e1, e2, e3, e4, e5, e6, e7, l2⟩ := of_fe FE2.out; clear hb2)
          go_ret
          exact ⟨by first | (rw [HV.out]; done) | (rw [HV.out]; rfl), HB2.out⟩
      · have bn : ((n : Int) == 0) = false := by simp [hn0]
        cases F with
        | false =>
          have HV : Hid (plainB rk rop rv rtb rnm n = false) := Lib.hid (by rw [HPL.out]; first | (simp [pB]; done) | (rw [Bool.eq_iff_iff]; simp [pB]; first | done | omega))
          clear e1 hn0
          go_wp2_with (go_at_call 24; refine HFC.out.mono ?_; rintro en w2 ⟨rfl, hb2⟩; have HB2 := Lib.hid (HB1.out.trans (hb2.mono HB1.out.size)); have FE2 := Lib.hid (FE.out.later hb2); obtain ⟨e0, e1, e2, e3, e4, e5, e6, e7, l2⟩ := of_fe FE2.out; clear hb2)
          go_ret
          exact ⟨by first | (rw [HV.out]; done) | (rw [HV.out]; rfl), HB2.out⟩
        | true =>
          have HV : Hid (plainB rk rop rv rtb rnm n = ((n : Int) == 1)) := Lib.hid (by rw [HPL.out]; first | (simp [pB, e1, hn0]; done) | (rw [Bool.eq_iff_iff]; simp [pB, e1, hn0]; first | done | omega))
          clear e1 hn0
          go_wp2_with (go_at_call 24; refine HFC.out.mono ?_; rintro en w2 ⟨rfl, hb2⟩; have HB2 := Lib.hid (HB1.out.trans (hb2.mono HB1.out.size)); have FE2 := Lib.hid (FE.out.later hb2); obtain ⟨e0, e1, e2, e3, e4, e5, e6, e7, l2⟩ := of_fe FE2.out; clear hb2)
          go_ret
          exact ⟨by first | (rw [HV.out]; done) | (rw [HV.out]; rfl), HB2.out⟩
    · have bo : (rop == 1) = false := by simp [e1]
      cases F with
      | false =>
        have HV : Hid (plainB rk rop rv rtb rnm n = false) := Lib.hid (by rw [HPL.out]; first | (simp [pB]; done) | (rw [Bool.eq_iff_iff]; simp [pB]; first | done | omega))
        clear e1
        go_wp2_with (go_at_call 24; refine HFC.out.mono ?_; rintro en w2 ⟨rfl, hb2⟩; have HB2 := Lib.hid (HB1.out.trans (hb2.mono HB1.out.size)); have FE2 := Lib.hid (FE.out.later hb2); obtain ⟨e0, e1, e2, e3, e4, e5, e6, e7, l2⟩ := of_fe FE2.out; clear hb2)
        go_ret
        exact ⟨by first | (rw [HV.out]; done) | (rw [HV.out]; rfl), HB2.out⟩
      | true =>
        by_cases e2 : 1 ≤ rop
        · have d1 := e2
          by_cases e3 : rop ≤ 4
          · have d4 := e3
            have HV : Hid (plainB rk rop rv rtb rnm n = ((n : Int) == 1)) := Lib.hid (by rw [HPL.out]; first | (simp [pB, e1, e2, e3]; done) | (rw [Bool.eq_iff_iff]; simp [pB, e1, e2, e3]; first | done | omega))
            clear e1 e2 e3
            go_wp2_with (go_at_call 24; refine HFC.out.mono ?_; rintro en w2 ⟨rfl, hb2⟩; have HB2 := Lib.hid (HB1.out.trans (hb2.mono HB1.out.size)); have FE2 := Lib.hid (FE.out.later hb2); obtain ⟨e0, e1, e2, e3, e4, e5, e6, e7, l2⟩ := of_fe FE2.out; clear hb2)
            go_ret
            exact ⟨by first | (rw [HV.out]; done) | (rw [HV.out]; rfl), HB2.out⟩
          · have d4 := e3
            have HV : Hid (plainB rk rop rv rtb rnm n = false) := Lib.hid (by rw [HPL.out]; first | (simp [pB, e1, e2, e3]; done) | (rw [Bool.eq_iff_iff]; simp [pB, e1, e2, e3]; first | done | omega))
            clear e1 e2 e3
            go_wp2_with (go_at_call 24; refine HFC.out.mono ?_; rintro en w2 ⟨rfl, hb2⟩; have HB2 := Lib.hid (HB1.out.trans (hb2.mono HB1.out.size)); have FE2 := Lib.hid (FE.out.later hb2); obtain ⟨e0, e1, e2, e3, e4, e5, e6, e7, l2⟩ := of_fe FE2.out; clear hb2)
            go_ret
            exact ⟨by first | (rw [HV.out]; done) | (rw [HV.out]; rfl), HB2.out⟩
        · have d1 := e2
          have HV : Hid (plainB rk rop rv rtb rnm n = false) := Lib.hid (by rw [HPL.out]; first | (simp [pB, e1, e2]; done) | (rw [Bool.eq_iff_iff]; simp [pB, e1, e2]; first | done | omega))
          clear e1 e2
          go_wp2_with (go_at_call 24; refine HFC.out.mono ?_; rintro en w2 ⟨rfl, hb2⟩; have HB2 := Lib.hid (HB1.out.trans (hb2.mono HB1.out.size)); have FE2 := Lib.hid (FE.out.later hb2); obtain ⟨e0, e1, e2, e3, e4, e5, e6, e7, l2⟩ := of_fe FE2.out; clear hb2)
          go_ret
          exact ⟨by first | (rw [HV.out]; done) | (rw [HV.out]; rfl), HB2.out⟩
  have b8 : (rk == 8) = false := by simp; omega
  have HPL := Lib.hid (plain0 rk rop rv rtb rnm n (by omega))
  clear k1 k2 k3 k4 k5 k6 k7 k8
  go_enter Tryd.func31, Tryd.ntmps31
  go_upto_region 21 with fail
  obtain ⟨W0, hW0⟩ : ∃ W0, (w.alloc (.cells #[.int .i64 rk, .int .i64 rop, .int .i64 rv.k, .int .i64 rv.n, .string rv.s, .string rtb, .string rnm, .slice a n c] TE)).alloc (.cells #[.int .i64 rk, .int .i64 0, .int .i64 0, .int .i64 0, .string (ByteArray.mk #[]), .string (ByteArray.mk #[]), .string (ByteArray.mk #[]), .slice none 0 0] TE) = W0 := ⟨_, rfl⟩
  obtain ⟨g3, hg3⟩ : ∃ g3, w.heap.size + 1 = g3 := ⟨_, rfl⟩
  have fe : Flds W0 w.heap.size TE [.int .i64 rk, .int .i64 rop, .int .i64 rv.k, .int .i64 rv.n, .string rv.s, .string rtb, .string rnm, .slice a n c] := by rw [← hW0]; exact (Flds.new w TE _).alloc _
  have fo : Flds W0 g3 TE [.int .i64 rk, .int .i64 0, .int .i64 0, .int .i64 0, .string (ByteArray.mk #[]), .string (ByteArray.mk #[]), .string (ByteArray.mk #[]), .slice none 0 0] := by
    rw [← hW0, ← hg3]; have := Flds.new (w.alloc (.cells #[.int .i64 rk, .int .i64 rop, .int .i64 rv.k, .int .i64 rv.n, .string rv.s, .string rtb, .string rnm, .slice a n c] TE)) TE [.int .i64 rk, .int .i64 0, .int .i64 0, .int .i64 0, .string (ByteArray.mk #[]), .string (ByteArray.mk #[]), .string (ByteArray.mk #[]), .slice none 0 0]; rw [World.size_alloc] at this; exact this
  have hb0 : Below w.heap.size w W0 := by rw [← hW0]; exact ((Below.refl _ _).alloc (Nat.le_refl _) _).alloc (by simp) _
  have hlt : w.heap.size < g3 := by omega
  rw [hW0, hg3]
  clear hW0 hg3
  have HB1 := Lib.hid hb0
  go_wp2_with fail
  go_ret
  exact ⟨by first | (rw [HPL.out]; done) | (rw [HPL.out]; rfl), HB1.out⟩
end Go.Proofs.YtfnajccnlcfbiaaDoor.ex
