/- The law CheckParts, walked. -/
import Derived.Test.YtjnlimahcodomaaCheckO
import Derived.Test.YtjnlimahcodomaaCheckQ
import Derived.Test.YtjnlimahcodomaaCheckR
import Derived.Test.YtjnlimahcodomaaCheckT
import Derived.Test.YtjnlimahcodomaaCheckV
import Derived.Test.YtjnlimahcodomaaExprU
import Derived.Test.YtjnlimahcodomaaExprW
import Derived.Test.YtjnlimahcodomaaExprB
namespace Go.Proofs.Ytjnlimahcodomaa.ck
set_option linter.unusedVariables false
open Go.RowKit
open val (V null TV TR vv ag3)
open ex (Ex Er TE TQ ExAt Pt PB pCells of_fe goodB goodE_iff pB_iff built_letters rgood_any rdepth_any told17_any mayE)
attribute [local go_sem high] run_min_keep
set_option maxRecDepth 100000 in
set_option maxHeartbeats 8000000 in
theorem parts_walk (hsp : ∀ W, Calls Try.prog 5 #[] W fun en w' => en = .returned (.bool true) ∧ Below W.heap.size W w') (a1 a2 : Option Addr) (c1 c2 : Nat) (ps : List Pt) (xs : List Cl) (hps : ∀ x ∈ ps, PB x) (hxs : ∀ x ∈ xs, CB x) (hl1 : ps.length ≤ 9223372036854775807) (hl2 : xs.length ≤ 9223372036854775807) (hk1 : ps.length ≤ c1) (w : World) (hr1 : Row w (.slice a1 ps.length c1) 7 ps.length (pCells ps)) (hr2 : Row w (.slice a2 xs.length c2) 6 xs.length (cCells xs)) :
    Calls Try.prog 4 #[.slice a1 ps.length c1, .slice a2 xs.length c2] w fun en w' => en = .returned (.bool true) ∧ Below w.heap.size w w' := by
  obtain ⟨n1, hn1⟩ : ∃ n1, ps.length = n1 := ⟨_, rfl⟩
  obtain ⟨n2, hn2⟩ : ∃ n2, xs.length = n2 := ⟨_, rfl⟩
  obtain ⟨M1, hM1⟩ : ∃ M1, min n1 20 = M1 := ⟨_, rfl⟩
  obtain ⟨M2, hM2⟩ : ∃ M2, min n2 6 = M2 := ⟨_, rfl⟩
  obtain ⟨em, nm', hm1, hm2, hm3, hbm⟩ := built_letters (.slice a1 ps.length c1) ps hps 20 (by decide) a1 c1 c1 w hr1 M1 (by rw [hn1, hM1])
  have HB1 := Lib.hid hbm
  have HM := Lib.hid (And.intro hm1 (And.intro hm2 hm3))
  have HRO := Lib.hid (rowC_ok hxs)
  have HRW := Lib.hid (fun (W : World) (hb : Below w.heap.size w W) => row_any xs hxs a2 n2 c2 hn2 (by omega) W (by rw [← hn2]; exact hr2.later hb) M2 hM2)
  clear hbm hm1 hm2 hm3
  have HFL : Hid ((fldsC xs).length = M2) := Lib.hid (by unfold fldsC; rw [List.length_map, List.length_take]; omega)
  have HM6 : Hid (M2 ≤ 6) := Lib.hid (by omega)
  rw [hn1] at hr1 hl1 hk1 ⊢
  rw [hn2] at hr2 hl2 ⊢
  have mi1 : min (n1 : Int) 20 = (M1 : Int) := by omega
  have mz1 : (0 : Int) ≤ (M1 : Int) := by omega
  have mc1 : (M1 : Int) ≤ (c1 : Int) := by omega
  have z1 : (0 : Int) ≤ (n1 : Int) := by omega
  have z2 : (0 : Int) ≤ (n2 : Int) := by omega
  have z3 : (n1 : Int) ≤ 9223372036854775807 := by omega
  have z4 : (n2 : Int) ≤ 9223372036854775807 := by omega
  have HSP := Lib.hid hsp
  clear hM1 hM2 hk1 hr1 hr2 hn1 hn2 hsp hps hxs
  go_enter Try.func4, Try.ntmps4
  go_upto_region 3 with (go_at_call 5; refine (HSP.out w).mono ?_; rintro ee w1 ⟨rfl, hb1⟩; have HBa := Lib.hid hb1; clear hb1)
  go_upto_region 4 with (go_at_call 6; refine (HB1.out _ HBa.out).mono ?_; rintro ee pw ⟨r, rfl, hex, hb⟩; have HXp := Lib.hid hex; have HBp := Lib.hid hb; obtain ⟨pa, pc, us', hul', -⟩ := hex.parts; obtain ⟨pk, pop, pv, ptb, pnm, ulv⟩ := r; (dsimp only at hul'); subst hul'; (unfold Er.val); dsimp only; clear hex hb)
  obtain ⟨W2, hW2⟩ : ∃ W2, pw.alloc (.cells #[.int .i64 pk, .int .i64 pop, .int .i64 pv.k, .int .i64 pv.n, .string pv.s, .string ptb, .string pnm, .slice pa em.l.length pc] TQ) = W2 := ⟨_, rfl⟩
  obtain ⟨g5, hg5⟩ : ∃ g, pw.heap.size = g := ⟨_, rfl⟩
  have hb2 : Below pw.heap.size pw W2 := by rw [← hW2]; exact (Below.refl _ _).alloc (Nat.le_refl _) _
  have hf5 : Flds W2 g5 TQ [.int .i64 pk, .int .i64 pop, .int .i64 pv.k, .int .i64 pv.n, .string pv.s, .string ptb, .string pnm, .slice pa em.l.length pc] := by rw [← hW2, ← hg5]; exact Flds.new pw TQ _
  have ham : ExAt TQ (fun b => b < W2.heap.size) 26 W2 em ⟨pk, pop, pv, ptb, pnm, .slice pa em.l.length pc⟩ := (HXp.out.later hb2).mono (Nat.le_refl _) (fun b hb _ => hb)
  have hbw : Below w.heap.size w W2 := HBa.out.trans ((HBp.out.trans (hb2.mono HBp.out.size)).mono HBa.out.size)
  rw [hW2]
  try rw [hg5]
  have HF5 := Lib.hid hf5; have HAM := Lib.hid ham; have HBW := Lib.hid hbw
  obtain ⟨G, hG⟩ : ∃ G, goodB 20 em true = G := ⟨_, rfl⟩
  have hgd := rgood_any (by decide) HM.out.1 HM.out.2.1 ham
  rw [hG] at hgd
  have HGD := Lib.hid hgd
  have HG := Lib.hid hG
  obtain ⟨D, hD⟩ : ∃ D : Nat, em.depth = D := ⟨_, rfl⟩
  have HDC := Lib.hid (fun (W : World) (hb : Below W2.heap.size W2 W) => rdepth_any 26 (by decide) _ em _ W (ham.later hb))
  rw [hD] at HDC
  have HAC := Lib.hid (fun (W : World) (hb : Below W2.heap.size W2 W) => raggs_any 26 (by decide) _ em _ W (fun b h => Nat.lt_of_lt_of_le h hb.size) (by have := HM.out.2.2; omega) HM.out.1 (ham.later hb))
  obtain ⟨NA, hNA⟩ : ∃ N, (aggE em).length = N := ⟨_, rfl⟩
  rw [hNA] at HAC
  have HNA := Lib.hid hNA
  have HTD := Lib.hid (fun (W : World) (hb : Below W2.heap.size W2 W) => told17_any 26 (by decide) _ em _ W HM.out.1 (ham.later hb))
  have HFW := Lib.hid (fun (W : World) (hb : Below W2.heap.size W2 W) => of_fe (hf5.later hb))
  unfold Er.val at HGD HDC HAC HTD
  dsimp only at HGD HDC HAC HTD
  clear hW2 hg5 hb2 hf5 ham hbw hgd hG hD hNA
  obtain ⟨e0, e1, e2, e3, e4, e5, e6, e7, l5⟩ := HFW.out W2 (Below.refl _ _)
  cases G with
  | false =>
    as_aux_lemma =>
    go_wp2_with (go_at_call 7; refine HGD.out.mono ?_; rintro ee w6 ⟨rfl, hb6⟩; have HB6 := Lib.hid hb6; clear hb6)
    go_ret
    exact ⟨rfl, HBW.out.trans (HB6.out.mono HBW.out.size)⟩
  | true =>
    by_cases hd : D ≤ 17
    · have d1 : decide ((17 : Int) < (D : Int)) = false := by simp; omega
      have d2 : ¬ (17 : Int) < (D : Int) := by omega
      by_cases ha : NA = 0
      · subst ha
        clear hd
        go_upto_region 6 with (first
          | (go_at_call 7; refine HGD.out.mono ?_; rintro ee w6 ⟨rfl, hb6⟩; have HB6 := Lib.hid hb6; clear e0 e1 e2 e3 e4 e5 e6 e7 l5; obtain ⟨e0, e1, e2, e3, e4, e5, e6, e7, l5⟩ := HFW.out w6 hb6; clear hb6)
          | (go_at_call 18; refine (HDC.out _ HB6.out).mono ?_; rintro ee w7 ⟨rfl, hb7⟩; have HB7 := Lib.hid (HB6.out.trans (hb7.mono HB6.out.size)); clear e0 e1 e2 e3 e4 e5 e6 e7 l5; obtain ⟨e0, e1, e2, e3, e4, e5, e6, e7, l5⟩ := HFW.out w7 HB7.out; clear hb7)
          | (go_at_call 13; refine (HAC.out _ HB7.out).mono ?_; rintro ee w8 ⟨a8, c8, rfl, -, hb8⟩; have HB8 := Lib.hid (HB7.out.trans (hb8.mono HB7.out.size)); clear e0 e1 e2 e3 e4 e5 e6 e7 l5; obtain ⟨e0, e1, e2, e3, e4, e5, e6, e7, l5⟩ := HFW.out w8 HB8.out; clear hb8))
        go_upto_region 7 with (go_at_call 8; refine (HTD.out _ HB8.out).mono ?_; rintro ee pw2 ⟨s, rfl, hex, hb⟩; have HXs := Lib.hid hex; have HBs := Lib.hid (HB8.out.trans (hb.mono HB8.out.size)); obtain ⟨sa, sc, us2, hsl, -⟩ := hex.parts; obtain ⟨sk, sop, sv, stb, snm, slv⟩ := s; (dsimp only at hsl); subst hsl; dsimp only; clear hex hb)
        clear e0 e1 e2 e3 e4 e5 e6 e7 l5 HTD HFW HGD HAC HDC HB6 HB7
        obtain ⟨W3, hW3⟩ : ∃ W3, pw2.alloc (.cells #[.int .i64 sk, .int .i64 sop, .int .i64 sv.k, .int .i64 sv.n, .string sv.s, .string stb, .string snm, .slice sa em.l.length sc] TE) = W3 := ⟨_, rfl⟩
        obtain ⟨g7, hg7⟩ : ∃ g, pw2.heap.size = g := ⟨_, rfl⟩
        have hb3 : Below pw2.heap.size pw2 W3 := by rw [← hW3]; exact (Below.refl _ _).alloc (Nat.le_refl _) _
        have hf7 : Flds W3 g7 TE [.int .i64 sk, .int .i64 sop, .int .i64 sv.k, .int .i64 sv.n, .string sv.s, .string stb, .string snm, .slice sa em.l.length sc] := by rw [← hW3, ← hg7]; exact Flds.new pw2 TE _
        have hat : ExAt TE (fun b => b < W3.heap.size) 26 W3 em ⟨sk, sop, sv, stb, snm, .slice sa em.l.length sc⟩ := (HXs.out.later hb3).mono (Nat.le_refl _) (fun b hb _ => hb)
        have hbw3 : Below w.heap.size w W3 := HBW.out.trans ((HBs.out.trans (hb3.mono HBs.out.size)).mono HBW.out.size)
        rw [hW3]
        try rw [hg7]
        have HAT := Lib.hid hat; have HBW3 := Lib.hid hbw3
        have HFE := Lib.hid (fun (W : World) (hb : Below W3.heap.size W3 W) => of_fe (hf7.later hb))
        clear hW3 hg7 hb3 hf7 hat hbw3
        obtain ⟨q0, q1, q2, q3, q4, q5, q6, q7, lq⟩ := HFE.out W3 (Below.refl _ _)
        go_upto_region 8 with (go_at_call 9; refine (HRW.out _ HBW3.out).mono ?_; rintro ee pw3 ⟨v0, v1, v2, v3, rfl, ho0, ho1, ho2, ho3, hb⟩; obtain ⟨b0, d0, rfl, -⟩ := id ho0; obtain ⟨b1, d1', rfl, -⟩ := id ho1; obtain ⟨b2, d2', rfl, -⟩ := id ho2; obtain ⟨b3, d3, rfl, -⟩ := id ho3; have HO0 := Lib.hid ho0; have HO1 := Lib.hid ho1; have HO2 := Lib.hid ho2; have HO3 := Lib.hid ho3; have HBr := Lib.hid hb; clear ho0 ho1 ho2 ho3 hb)
        clear q0 q1 q2 q3 q4 q5 q6 q7 lq
        have hmay : mayE em false := by
          have h := ex.pB_iff.1 HG.out
          exact ((ex.goodE_iff em 20 true).1 h).2
        have HMAY := Lib.hid hmay
        have hHT := fun (W : World) (hb : Below W3.heap.size W3 W) (h : Row W (.slice b0 M2 d0) 3 M2 (fCells (fldsC xs))) => type_any b0 M2 d0 (fldsC xs) HFL.out (by have := HM6.out; omega) HRO.out.kinds false 26 (by decide) _ em _ false W HM.out.1 HM.out.2.1 HMAY.out (HAT.out.later hb) h
        have HTY := Lib.hid hHT
        clear hHT hmay
        obtain ⟨TK, hTK⟩ : ∃ t, (typeE false (fldsC xs) em).1 = t := ⟨_, rfl⟩
        obtain ⟨TX, hTX⟩ : ∃ t, (typeE false (fldsC xs) em).2 = t := ⟨_, rfl⟩
        rw [hTK, hTX] at HTY
        have HTK := Lib.hid hTK
        have HTX := Lib.hid hTX
        clear hTK hTX
        unfold Er.val at HTY
        dsimp only at HTY
        obtain ⟨q0, q1, q2, q3, q4, q5, q6, q7, lq⟩ := HFE.out pw3 HBr.out
        by_cases ht : TX = 0
        · subst ht
          have t1 : decide ((0 : Int) = 0) = true := by decide
          go_wp2_with (go_at_call 10; refine (HTY.out _ HBr.out HO0.out).mono ?_; rintro ee w9 ⟨rfl, hb9⟩; have HB9 := Lib.hid (HBr.out.trans (hb9.mono HBr.out.size)); have HC9 := Lib.hid hb9; clear hb9)
          go_loopw [69] (fun iv wr => ∃ k : Nat, iv = .int .i64 (k : Int) ∧ k ≤ 2 ∧ Hid (Below W3.heap.size W3 wr) ∧ Hid (Below pw3.heap.size pw3 wr)) (fun iv _ => 2 - (intOf iv).toNat)
          case atStart => exact ⟨0, rfl, by omega, HB9, HC9⟩
          case round =>
            obtain ⟨k, rfl, hk, HB, HC⟩ := hrel
            by_cases hk2 : k < 2
            · have hk0 : (0 : Int) ≤ (k : Int) := by omega
              have hk3 : (k : Int) < 2 := by omega
              obtain ⟨tw, htw, hidx⟩ : ∃ tw : Int, (tw = 4 ∨ tw = 5) ∧ ∀ W, (Instr.index 58 (.agg #[.int .i64 4, .int .i64 5]) (.int .i64 (k : Int))).run Try.prog W = .ok (.int .i64 tw) W := by
                rcases (by omega : k = 0 ∨ k = 1) with rfl | rfl
                · exact ⟨4, .inl rfl, fun W => by kernel_rfl⟩
                · exact ⟨5, .inr rfl, fun W => by kernel_rfl⟩
              obtain ⟨q0, q1, q2, q3, q4, q5, q6, q7, lq⟩ := HFE.out wr HB.out
              go_upto_region 15 with fail
              obtain ⟨V1, hV1⟩ : ∃ V, wr.alloc (.cells #[.int .i64 sk, .int .i64 sop, .int .i64 sv.k, .int .i64 sv.n, .string sv.s, .string stb, .string snm, .slice sa em.l.length sc] TE) = V := ⟨_, rfl⟩
              obtain ⟨V2, hV2⟩ : ∃ V, V1.alloc (.cells #[.int .i64 tw, .int .i64 0, .int .i64 0, .int .i64 0, .string (ByteArray.mk #[]), .string (ByteArray.mk #[]), .string (ByteArray.mk #[]), .slice (some ⟨wr.heap.size, 0, none⟩) 1 1] TE) = V := ⟨_, rfl⟩
              obtain ⟨V3, hV3⟩ : ∃ V, V2.alloc (.cells #[.int .i64 tw, .int .i64 0, .int .i64 0, .int .i64 0, .string (ByteArray.mk #[]), .string (ByteArray.mk #[]), .string (ByteArray.mk #[]), .slice (some ⟨wr.heap.size + 1, 0, none⟩) 1 1] TE) = V := ⟨_, rfl⟩
              have hs1 : V1.heap.size = wr.heap.size + 1 := by rw [← hV1]; exact alloc_size _ _
              have hs2 : V2.heap.size = wr.heap.size + 1 + 1 := by rw [← hV2, alloc_size, hs1]
              have hy1 : Below wr.heap.size wr V1 := by rw [← hV1]; exact (Below.refl _ _).alloc (Nat.le_refl _) _
              have hy2 : Below V1.heap.size V1 V2 := by rw [← hV2]; exact (Below.refl _ _).alloc (Nat.le_refl _) _
              have hy3 : Below V2.heap.size V2 V3 := by rw [← hV3]; exact (Below.refl _ _).alloc (Nat.le_refl _) _
              have hz1 : Below W3.heap.size W3 V1 := HB.out.trans (hy1.mono HB.out.size)
              have hz2 : Below W3.heap.size W3 V2 := hz1.trans (hy2.mono hz1.size)
              have hz3 : Below W3.heap.size W3 V3 := hz2.trans (hy3.mono hz2.size)
              have hx1 : Flds V1 wr.heap.size TE (ex.erCells [⟨sk, sop, sv, stb, snm, .slice sa em.l.length sc⟩]) := by rw [← hV1]; exact Flds.new wr TE _
              have ho1 := one_at tw (HAT.out.later hz1) hx1
              have hx2 : Flds V2 V1.heap.size TE (ex.erCells [⟨tw, 0, null, ByteArray.empty, ByteArray.empty, .slice (some ⟨wr.heap.size, 0, none⟩) 1 1⟩]) := by rw [← hV2]; exact Flds.new V1 TE _
              have ho2 := one_at tw (ho1.later hy2) hx2
              have hx3 : Flds V3 V2.heap.size TE [.int .i64 tw, .int .i64 0, .int .i64 0, .int .i64 0, .string (ByteArray.mk #[]), .string (ByteArray.mk #[]), .string (ByteArray.mk #[]), .slice (some ⟨wr.heap.size + 1, 0, none⟩) 1 1] := by rw [← hV3]; exact Flds.new V2 TE _
              have ho3 := (ho2.later hy3).mono (Y := fun b => b < V3.heap.size) (Nat.le_refl _) (fun b hb _ => hb)
              rw [hV1, hV2, hV3]
              rw [hs1] at ho3
              rw [hs2] at hx3
              obtain ⟨gx, hgx⟩ : ∃ g, wr.heap.size + 1 + 1 = g := ⟨_, rfl⟩
              obtain ⟨gy, hgy⟩ : ∃ g, wr.heap.size + 1 = g := ⟨_, rfl⟩
              have HO := Lib.hid ho3; have HFX := Lib.hid (fun (W : World) (hb : Below V3.heap.size V3 W) => of_fe (hx3.later hb)); have HB3 := Lib.hid hz3; have HWR := Lib.hid (hy1.trans ((hy2.trans (hy3.mono hy2.size)).mono hy1.size))
              rw [hgx] at HFX
              rw [hgy] at HO HFX
              rw [hgx]
              try rw [hgy]
              clear hs1 hs2 hy1 hy2 hy3 hz1 hz2 hz3 hx1 hx2 hx3 ho1 ho2 ho3 hV1 hV2 hV3 hgx hgy q0 q1 q2 q3 q4 q5 q6 q7 lq
              have hc3 : Below pw3.heap.size pw3 V3 := HC.out.trans (HWR.out.mono HC.out.size)
              have hTT := fun (W : World) (hb : Below V3.heap.size V3 W) => type_any b0 M2 d0 (fldsC xs) HFL.out (by have := HM6.out; omega) HRO.out.kinds false 28 (by decide) _ (oneE tw (oneE tw em)) _ false W (one_slim (one_slim HM.out.1)) (one_fit (one_fit HM.out.2.1)) (one_may htw (one_may htw HMAY.out)) (HO.out.later hb) (HO0.out.later (hc3.trans (hb.mono hc3.size)))
              have HTT := Lib.hid hTT
              have HC3 := Lib.hid hc3
              clear hTT hc3
              obtain ⟨UK, hUK⟩ : ∃ t, (typeE false (fldsC xs) (oneE tw (oneE tw em))).1 = t := ⟨_, rfl⟩
              obtain ⟨UX, hUX⟩ : ∃ t, (typeE false (fldsC xs) (oneE tw (oneE tw em))).2 = t := ⟨_, rfl⟩
              rw [hUK, hUX] at HTT
              have HUK := Lib.hid hUK
              have HUX := Lib.hid hUX
              clear hUK hUX
              unfold Er.val at HTT
              dsimp only at HTT
              obtain ⟨q0, q1, q2, q3, q4, q5, q6, q7, lq⟩ := HFX.out V3 (Below.refl _ _)
              have hTW := type_twice (g := false) (l := fldsC xs) htw (e := em) HTX.out
              rw [HTK.out] at hTW
              by_cases hf : fitsK tw TK
              · have hu := hTW.1 hf
                have hu1 : UK = kOf tw := by rw [← HUK.out, hu]
                have hu2 : UX = 0 := by rw [← HUX.out, hu]
                have hno : ∀ x ∈ em.parts, x.k ≠ 8 := parts_noagg HNA.out
                have hans : Ans TK (evalE (fldsC xs) (valsC xs) em) := by rw [← HTK.out]; exact sound em false false _ _ HRO.out HMAY.out HM.out.2.1 hno HTX.out
                have HEV := Lib.hid (eval_twice htw hans hf)
                have hE1 := fun (W : World) (hb : Below V3.heap.size V3 W) => eval_any b0 M2 d0 (fldsC xs) HFL.out (by have := HM6.out; omega) b2 d2' (valsC xs) HRO.out false 26 (by decide) _ em _ false W HM.out.1 HM.out.2.1 HMAY.out hno HTX.out (HAT.out.later (HB3.out.trans (hb.mono HB3.out.size))) (HO0.out.later (HC3.out.trans (hb.mono HC3.out.size))) (HO2.out.later (HC3.out.trans (hb.mono HC3.out.size)))
                have hE2 := fun (W : World) (hb : Below V3.heap.size V3 W) => eval_any b0 M2 d0 (fldsC xs) HFL.out (by have := HM6.out; omega) b2 d2' (valsC xs) HRO.out false 28 (by decide) _ (oneE tw (oneE tw em)) _ false W (one_slim (one_slim HM.out.1)) (one_fit (one_fit HM.out.2.1)) (one_may htw (one_may htw HMAY.out)) (one_noagg htw (one_noagg htw hno)) (by rw [HUX.out]; exact hu2) (HO.out.later hb) (HO0.out.later (HC3.out.trans (hb.mono HC3.out.size))) (HO2.out.later (HC3.out.trans (hb.mono HC3.out.size)))
                have HE1 := Lib.hid hE1
                have HE2 := Lib.hid hE2
                clear hE1 hE2 hu hans hno hTW
                generalize evalE (fldsC xs) (valsC xs) em = r1 at HE1 HEV
                generalize evalE (fldsC xs) (valsC xs) (oneE tw (oneE tw em)) = r2 at HE2 HEV
                obtain ⟨y1, p1⟩ := r1
                obtain ⟨y2, p2⟩ := r2
                unfold Er.val at HE1 HE2
                dsimp only at HE1 HE2 HEV
                subst hu1 hu2
                have hlt : (k : Int) + 1 ≤ 2 := by omega
                rcases htw with rfl | rfl <;> rcases hf with hf | hf
                all_goals
                  first
                  | replace hf : TK = 0 := hf
                  | replace hf : TK = 1 := hf
                  | replace hf : TK = 2 := hf
                  subst hf
                  dsimp only [kOf] at HTT HUK
                  as_aux_lemma =>
                  go_upto_region 20 with (go_at_call 10; refine (HTT.out _ (Below.refl _ _)).mono ?_; rintro ee w10 ⟨rfl, hb10⟩; have HB10 := Lib.hid hb10; clear hb10)
                  obtain ⟨q0, q1, q2, q3, q4, q5, q6, q7, lq⟩ := HFE.out w10 (HB3.out.trans (HB10.out.mono HB3.out.size))
                  go_upto_region 21 with (go_at_call 15; refine (HE1.out _ HB10.out).mono ?_; rintro ee w11 ⟨rfl, hb11⟩; have HB11 := Lib.hid (HB10.out.trans (hb11.mono HB10.out.size)); clear hb11)
                  clear q0 q1 q2 q3 q4 q5 q6 q7 lq
                  obtain ⟨X1, hX1⟩ : ∃ W, w11.alloc (.cells #[.int .i64 y1.k, .int .i64 y1.n, .string y1.s] TV) = W := ⟨_, rfl⟩
                  obtain ⟨gv, hgv⟩ : ∃ g, w11.heap.size = g := ⟨_, rfl⟩
                  have hfv : Flds X1 gv TV [.int .i64 y1.k, .int .i64 y1.n, .string y1.s] := by rw [← hX1, ← hgv]; exact Flds.new w11 TV _
                  have hx1 : Below V3.heap.size V3 X1 := by rw [← hX1]; exact HB11.out.trans ((Below.refl _ _).alloc (HB11.out.size) _)
                  rw [hX1, hgv]
                  have HFV := Lib.hid (fun (W : World) (hb : Below X1.heap.size X1 W) => fd3 (hfv.later hb))
                  have HX1 := Lib.hid hx1
                  clear hX1 hgv hfv hx1
                  obtain ⟨q0, q1, q2, q3, q4, q5, q6, q7, lq⟩ := HFX.out X1 HX1.out
                  go_upto_region 22 with (go_at_call 15; refine (HE2.out _ HX1.out).mono ?_; rintro ee w12 ⟨rfl, hb12⟩; have HB12 := Lib.hid hb12; clear hb12)
                  clear q0 q1 q2 q3 q4 q5 q6 q7 lq
                  obtain ⟨X2, hX2⟩ : ∃ W, w12.alloc (.cells #[.int .i64 y2.k, .int .i64 y2.n, .string y2.s] TV) = W := ⟨_, rfl⟩
                  obtain ⟨gw, hgw⟩ : ∃ g, w12.heap.size = g := ⟨_, rfl⟩
                  have hfw : Flds X2 gw TV [.int .i64 y2.k, .int .i64 y2.n, .string y2.s] := by rw [← hX2, ← hgw]; exact Flds.new w12 TV _
                  have hx2 : Below X1.heap.size X1 X2 := by rw [← hX2]; exact HB12.out.trans ((Below.refl _ _).alloc (HB12.out.size) _)
                  rw [hX2, hgw]
                  obtain ⟨v0, v1, v2, -, lv⟩ := HFV.out X2 hx2
                  obtain ⟨u0, u1, u2, -, lu⟩ := fd3 hfw
                  have HX2 := Lib.hid (HX1.out.trans (hx2.mono HX1.out.size))
                  clear hX2 hgw hfw hx2
                  have HN1 := Lib.hid (HB3.out.trans (HX2.out.mono HB3.out.size))
                  have HN2 := Lib.hid (HC3.out.trans (HX2.out.mono HC3.out.size))
                  rcases HEV.out with ⟨hp, hy⟩ | hp
                  · subst hp hy
                    by_cases hp0 : p2 = 0
                    · subst hp0
                      go_wp2_with fail
                      · exact ⟨⟨k + 1, by go_num, by omega, HN1, HN2⟩, by simp [intOf] <;> omega⟩
                    · have n0 : decide (p2 = 0) = false := by simp; exact hp0
                      go_wp2_with fail
                      · exact ⟨⟨k + 1, by go_num, by omega, HN1, HN2⟩, by simp [intOf] <;> omega⟩
                  · subst hp
                    by_cases hp8 : p1 = 8
                    · subst hp8
                      go_wp2_with fail
                      · exact ⟨⟨k + 1, by go_num, by omega, HN1, HN2⟩, by simp [intOf] <;> omega⟩
                    · have n8 : decide (p1 = 8) = false := by simp; exact hp8
                      by_cases hp0 : p1 = 0
                      · subst hp0
                        go_wp2_with fail
                        · exact ⟨⟨k + 1, by go_num, by omega, HN1, HN2⟩, by simp [intOf] <;> omega⟩
                      · have n0 : decide (p1 = 0) = false := by simp; exact hp0
                        go_wp2_with fail
                        · exact ⟨⟨k + 1, by go_num, by omega, HN1, HN2⟩, by simp [intOf] <;> omega⟩
              · have hx5 := hTW.2 hf
                rw [HUX.out] at hx5
                subst hx5
                have hn0 : ¬ TK = 0 := fun h => hf (.inl h)
                have hn1 : ¬ TK = kOf tw := fun h => hf (.inr h)
                have d0 : decide (TK = 0) = false := by simp; exact hn0
                have hlt : (k : Int) + 1 ≤ 2 := by omega
                clear hTW hf
                rcases htw with rfl | rfl
                · have hn3 : ¬ TK = 1 := hn1
                  have d3 : decide (TK = 1) = false := by simp; exact hn3
                  have d5 : ¬ ((TK == 0) = true ∨ (TK == 1) = true) := by simp; exact ⟨hn0, hn3⟩
                  as_aux_lemma =>
                  go_wp2_with (go_at_call 10; refine (HTT.out _ (Below.refl _ _)).mono ?_; rintro ee w10 ⟨rfl, hb10⟩; have HB10 := Lib.hid hb10; clear hb10)
                  · exact ⟨⟨k + 1, by go_num, by omega, Lib.hid (HB3.out.trans (HB10.out.mono HB3.out.size)), Lib.hid (HC3.out.trans (HB10.out.mono HC3.out.size))⟩, by simp [intOf] <;> omega⟩
                · have hn3 : ¬ TK = 2 := hn1
                  have d3 : decide (TK = 2) = false := by simp; exact hn3
                  have d5 : ¬ ((TK == 0) = true ∨ (TK == 2) = true) := by simp; exact ⟨hn0, hn3⟩
                  as_aux_lemma =>
                  go_wp2_with (go_at_call 10; refine (HTT.out _ (Below.refl _ _)).mono ?_; rintro ee w10 ⟨rfl, hb10⟩; have HB10 := Lib.hid hb10; clear hb10)
                  · exact ⟨⟨k + 1, by go_num, by omega, Lib.hid (HB3.out.trans (HB10.out.mono HB3.out.size)), Lib.hid (HC3.out.trans (HB10.out.mono HC3.out.size))⟩, by simp [intOf] <;> omega⟩
            · have hke : k = 2 := by omega
              subst hke
              go_wp2_with fail
              go_ret
              exact ⟨rfl, HBW3.out.trans (HB.out.mono HBW3.out.size)⟩
        · have hk0 : TK = 0 := by rw [← HTK.out]; exact type_zero _ _ _ (by rw [HTX.out]; exact ht)
          subst hk0
          have t1 : decide (TX = 0) = false := by simp; exact ht
          have t2 : ¬ TX = 0 := ht
          clear ht
          as_aux_lemma =>
          go_wp2_with (go_at_call 10; refine (HTY.out _ HBr.out HO0.out).mono ?_; rintro ee w9 ⟨rfl, hb9⟩; have HB9 := Lib.hid (HBr.out.trans (hb9.mono HBr.out.size)); clear hb9)
          go_ret
          exact ⟨rfl, HBW3.out.trans (HB9.out.mono HBW3.out.size)⟩
      · have a1' : (0 : Int) < (NA : Int) := by omega
        have a2' : decide ((0 : Int) < (NA : Int)) = true := by simp; omega
        clear hd ha
        as_aux_lemma =>
        go_wp2_with (first
          | (go_at_call 7; refine HGD.out.mono ?_; rintro ee w6 ⟨rfl, hb6⟩; have HB6 := Lib.hid hb6; clear e0 e1 e2 e3 e4 e5 e6 e7 l5; obtain ⟨e0, e1, e2, e3, e4, e5, e6, e7, l5⟩ := HFW.out w6 hb6; clear hb6)
          | (go_at_call 18; refine (HDC.out _ HB6.out).mono ?_; rintro ee w7 ⟨rfl, hb7⟩; have HB7 := Lib.hid (HB6.out.trans (hb7.mono HB6.out.size)); clear e0 e1 e2 e3 e4 e5 e6 e7 l5; obtain ⟨e0, e1, e2, e3, e4, e5, e6, e7, l5⟩ := HFW.out w7 HB7.out; clear hb7)
          | (go_at_call 13; refine (HAC.out _ HB7.out).mono ?_; rintro ee w8 ⟨a8, c8, rfl, -, hb8⟩; have HB8 := Lib.hid (HB7.out.trans (hb8.mono HB7.out.size)); clear hb8))
        go_ret
        exact ⟨rfl, HBW.out.trans (HB8.out.mono HBW.out.size)⟩
    · have d1 : decide ((17 : Int) < (D : Int)) = true := by simp; omega
      have d2 : (17 : Int) < (D : Int) := by omega
      clear hd
      as_aux_lemma =>
      go_wp2_with (first
        | (go_at_call 7; refine HGD.out.mono ?_; rintro ee w6 ⟨rfl, hb6⟩; have HB6 := Lib.hid hb6; clear e0 e1 e2 e3 e4 e5 e6 e7 l5; obtain ⟨e0, e1, e2, e3, e4, e5, e6, e7, l5⟩ := HFW.out w6 hb6; clear hb6)
        | (go_at_call 18; refine (HDC.out _ HB6.out).mono ?_; rintro ee w7 ⟨rfl, hb7⟩; have HB7 := Lib.hid (HB6.out.trans (hb7.mono HB6.out.size)); clear hb7))
      go_ret
      exact ⟨rfl, HBW.out.trans (HB7.out.mono HBW.out.size)⟩
end Go.Proofs.Ytjnlimahcodomaa.ck
