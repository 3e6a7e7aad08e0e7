/- The law CellCounts, walked. -/
import Derived.Test.YtfaoeajaahnooaaCellO
import Derived.StillTailTactics
import Derived.Deep.CutBlock
namespace Go.Proofs.Ytfaoeajaahnooaa.cel
set_option linter.unusedVariables false
open Go.RowKit Go.WideShapes Go.MapKept
attribute [local go_sem] Go.RowKit.run_makeMap Oper.semAt_some

theorem acs_at {w : World} {b off cap n : Nat} {xs : List Ac} {k : Nat} {x : Ac} (hv : Row w (.slice (some ⟨b, off, none⟩) n cap) 4 n (aCells xs)) (hk : k < n) (hx : xs[k]? = some x) (wq : World) (hb : Below w.heap.size w wq) :
    wq.cell? ⟨b, off + k * 4 + 1, none⟩ = some (.string x.s) ∧ wq.cell? ⟨b, off + k * 4 + 2, none⟩ = some (.string x.t) ∧ wq.cell? ⟨b, off + k * 4 + 3, none⟩ = some (.int .i64 x.i) ∧ b < wq.heap.size := by
  obtain ⟨b', off', cap', ea, hcell⟩ := (hv.later hb).pos (by omega)
  simp only [Value.slice.injEq, Option.some.injEq, Addr.mk.injEq] at ea
  obtain ⟨⟨rfl, rfl, -⟩, -, rfl⟩ := ea
  obtain ⟨c0, c1, c2, c3⟩ := aCells_at xs k _ hx
  have g1 := (hcell (k * 4 + 1) (by omega)).trans c1
  have g2 := (hcell (k * 4 + 2) (by omega)).trans c2
  have g3 := (hcell (k * 4 + 3) (by omega)).trans c3
  rw [← Nat.add_assoc] at g1 g2 g3
  exact ⟨g1, g2, g3, World.block_lt_of_cell? wq _ g1⟩
set_option maxRecDepth 100000 in
set_option maxHeartbeats 4000000 in
theorem counts_walk (v : Value) (xs : List Ac) (name : ByteArray) (who : Int) (hl : xs.length ≤ 9223372036854775807) (hpb : ∀ x ∈ xs, AB x) (hname : name.size ≤ maxLen) (hwho : -9223372036854775808 ≤ who ∧ who ≤ 9223372036854775807) (w : World) (hv : Row w v 4 xs.length (aCells xs)) :
    Calls Try.prog 4 #[v, .string name, .int .i64 who] w fun e w' => e = .returned (.bool true) ∧ Below w.heap.size w w' := by
  have HV := Lib.hid hv
  have HPB := Lib.hid hpb
  have HNM := Lib.hid hname
  have HWH := Lib.hid hwho
  obtain ⟨a, cap, rfl, -⟩ := hv
  obtain ⟨n, hn⟩ : ∃ n, xs.length = n := ⟨_, rfl⟩
  rw [hn] at hl HV ⊢
  have HNN := Lib.hid hn
  have hn0 : (0 : Int) ≤ (n : Int) := by omega
  have hn1 : (n : Int) ≤ 9223372036854775807 := by omega
  clear hpb hn hname hwho
  refine callsIn_wide.1 (callsIn_of_wp_marks (n := 3) Try.func4 rfl trivial (wpIn_wide.2 ?_) rfl)
  simp only [Try.ntmps4, List.size_toArray, List.length_cons, List.length_nil, Nat.reduceAdd, Nat.reduceSub, Array.replicate_succ, Array.replicate_zero, List.push_toArray, List.append_toArray, List.nil_append, List.cons_append]
  go_upto_region 3 with (go_at_call 5; refine (speaks_any _).mono ?_; rintro e w1 ⟨rfl, b1⟩; have HB1 := Lib.hid b1; clear b1)
  go_upto_region 5 with (go_at_call 6; refine (new_any _).mono ?_; rintro e w2 ⟨bs, bt, bw, rfl, h2, b2⟩; have HC2 := Lib.hid h2; have HB2 := Lib.hid b2; clear h2 b2)
  have HCT : Hid (Ct w w.heap.size bs bt bw w2.heap.size 0 0 0 (fun _ => False) (w2.alloc (.map #[] 0))) := Lib.hid (by
    have z1 : w.heap.size + 1 ≤ w1.heap.size := by have := HB1.out.size; rw [World.size_alloc] at this; exact this
    have z2 := HB2.out.size
    have f0 := Flds.new w TB [.bool false]
    have f2 := ((f0.later HB1.out).later HB2.out).alloc (.map #[] 0)
    have b0 : Below w.heap.size w w2 := (((Below.refl w.heap.size w).alloc (Nat.le_refl _) (.cells #[.bool false] TB)).trans (HB1.out.mono (by rw [World.size_alloc]; omega))).trans (HB2.out.mono (by omega))
    refine ⟨⟨_, 0, CS.no, _, _, _, .map [], [], HC2.out.later (below_alloc1' w2 _), Nat.le_refl _, fun j hj => ⟨by omega, by omega⟩, Inv.no, by simp, Nat.le_refl _, fun s _ => rfl, ⟨Int.le_refl _, Int.le_refl _⟩, World.ownsMap_made w2 Try.prog TK _, fun s _ => ⟨fun h => h.elim (fun h => (by cases h)) False.elim, fun h => (by cases h)⟩⟩, f2, by omega, Nat.le_refl _, b0.alloc (by omega) _, by rw [World.size_alloc]; omega⟩)
  have HB0 : Hid (w.heap.size < w2.heap.size) := Lib.hid HCT.out.n6
  clear HC2 HB2 HB1
  generalize w2.alloc (.map #[] 0) = W0 at *
  generalize w2.heap.size = bn at *
  go_upto_block 0 with fail
  go_cut [9] from 21 to 60 (fun _ wx => Hid (∃ k : Nat, k ≤ 40 ∧ Ct w w.heap.size bs bt bw bn (3 * k) (2 * k) k (fun _ => False) wx))
  case first =>
   go_wp2_with fail
   go_loopw [9] (fun i wr => ∃ k : Nat, i = .int .i64 (k : Int) ∧ k ≤ n ∧ k ≤ 40 ∧ Hid (Ct w w.heap.size bs bt bw bn (3 * k) (2 * k) k (fun _ => False) wr)) (fun i _ => n - (intOf i).toNat)
   case atStart => exact ⟨0, rfl, Nat.zero_le _, Nat.zero_le _, HCT⟩
   case round =>
     obtain ⟨k, rfl, hk, hk40, HK⟩ := hrel
     have hd0 : (0 : Int) ≤ (k : Int) := by omega
     by_cases h1 : k < n
     · have d1 : (k : Int) < (n : Int) := by omega
       by_cases h2 : k < 40
       · have d2 : (k : Int) < 40 := by omega
         obtain ⟨b, off, cap', ea, -⟩ := HV.out.pos (by omega)
         simp only [Value.slice.injEq] at ea
         obtain ⟨rfl, -, rfl⟩ := ea
         have hkx : k < xs.length := by have := HNN.out; omega
         have HAT := Lib.hid (acs_at HV.out h1 (List.getElem?_eq_getElem hkx))
         have hpx := HPB.out _ (List.getElem_mem hkx)
         generalize xs[k] = x at *
         obtain ⟨xk, xs0, xt, xi⟩ := x
         obtain ⟨-, p1, p2, p3⟩ := hpx
         dsimp only at p1 p2 p3
         obtain ⟨g1, g2, g3, lb⟩ := HAT.out wr HK.out.bel
         try dsimp only at g1 g2 g3
         go_upto_region 8 with fail
         have HS8 := Lib.hid ((HK.out.later ((Below.refl _ _).drew)).set (by omega) xs0 xt p1)
         go_still_tail 11, (by kernel_rfl)
         change wpList _ _ _ _ _ wr.drew
         generalize wr.drew = wq at *
         go_wp2_with (go_at_call 11; refine HS8.out.mono ?_; rintro e w5 ⟨⟨v5, rfl⟩, h5⟩; have HC5 := Lib.hid h5; clear h5)
         clear g1 g2 g3 lb
         obtain ⟨g1, g2, g3, lb⟩ := HAT.out w5 HC5.out.bel
         try dsimp only at g1 g2 g3
         go_upto_region 9 with fail
         have HS9 := Lib.hid ((HC5.out.later ((Below.refl _ _).drew)).watch (by omega) (by omega) p1 xi p3)
         go_still_tail 11, (by kernel_rfl)
         change wpList _ _ _ _ _ w5.drew
         generalize w5.drew = wq2 at *
         go_upto_region 10 with (go_at_call 8; refine HS9.out.mono ?_; rintro e w6 ⟨⟨b6, rfl⟩, h6⟩; have HC6 := Lib.hid h6; clear h6)
         clear g1 g2 g3 lb
         obtain ⟨g1, g2, g3, lb⟩ := HAT.out w6 HC6.out.bel
         try dsimp only at g1 g2 g3
         obtain ⟨w7, r7, h7⟩ := HC6.out.note (by omega) p1
         have HC7 := Lib.hid h7
         clear h7
         go_wp2_with fail
         go_roundw
         case rel => exact ⟨k + 1, by go_num, by omega, by omega, HC7⟩
         case measure => simp [intOf]; omega
       · have d2 : ¬ (k : Int) < 40 := by omega
         go_wp2_with fail
         go_meet
         exact Lib.hid ⟨k, hk40, HK.out⟩
     · have d1 : ¬ (k : Int) < (n : Int) := by omega
       go_wp2_with fail
       go_meet
       exact Lib.hid ⟨k, hk40, HK.out⟩
  case rest =>
   generalize wc = wa at *
   obtain ⟨k, hk, ⟨own, m, S, Dt, Dw, bk, Dn, ns, hC, hm, ho, hI, hns, hnl, htx, hn, hM, hh⟩, f6, n6, w6, hbel, hbn⟩ := hcut.out
   have HX : Hid (Cx bs bt bw 200 S Dt (fun j => j ≤ w.heap.size ∨ j = bn) wa) := Lib.hid ⟨own, m, Dw, bk, hC, by omega, fun j hj => by have := ho j hj; omega, fun j hj => by omega⟩
   have HI := Lib.hid hI; have HNS := Lib.hid hns; have HTX := Lib.hid htx; have HM := Lib.hid hM; have HH := Lib.hid hh; have HF6 := Lib.hid f6; have HBEL := Lib.hid hbel; have HNL := Lib.hid hnl; have HSN := Lib.hid hn
   have HBN := Lib.hid hbn
   clear hC hm ho hI hns htx hM hh f6 hbel hnl hcut w6 n6 hbn
   have HA := Lib.hid (HX.out.who (by omega) name HNM.out)
   go_upto_region 12 with (go_at_call 14; refine HA.out.mono ?_; rintro e w3 ⟨v3, rfl, r3, b3⟩; have HR3 := Lib.hid r3; have HB3 := Lib.hid b3; clear r3 b3)
   have HX3 := Lib.hid (HX.out.more HB3.out (fun j => (j ≤ w.heap.size ∨ j = bn) ∨ v3.ownBlock = some j) (fun j hj => hj.imp id (fun h => (HR3.out.lt j h).1)) (fun j hj => by
     rcases hj with hj | hj
     · have := HBN.out; have := HB3.out.size; have := HB0.out; omega
     · exact (HR3.out.lt j hj).2))
   go_upto_region 13 with (go_at_call 16; refine HX3.out.count.mono ?_; rintro e w3 ⟨rfl, rfl⟩)
   generalize hpr : (fun j => (j ≤ w.heap.size ∨ j = bn) ∨ v3.ownBlock = some j) = pr at HX3
   have HPR := Lib.hid hpr
   clear hpr
   have s0 := HSN.out.1
   have s1 : S.n ≤ 40 := by have := HSN.out.2; omega
   have HRI := Lib.hid (HX3.out.rising name HNM.out)
   obtain ⟨S1, hS1⟩ : ∃ S1, S1 = @ite _ (who ∈ S.wh name) (Classical.propDecidable _) S (S.watched name (insI (S.wh name) who) (S.n + 1)) := ⟨_, rfl⟩
   have HW := Lib.hid (HX3.out.watch (by omega) name HNM.out who HWH.out s0 (by omega) S1 hS1)
   have HS1 := Lib.hid hS1
   obtain ⟨B, hB⟩ : ∃ B, decide (who ∈ S.wh name) = B := ⟨_, rfl⟩
   rw [hB] at HW
   have HBB := Lib.hid hB
   clear hS1 hB
   go_upto_if 69 with (go_at_call 8; refine HW.out.mono ?_; rintro e w4 ⟨rfl, x4, o4⟩; have HX4 := Lib.hid x4; have HO4 := Lib.hid o4; clear x4 o4)
   go_cut [] from 70 to 81 (fun wx => Hid (Cx bs bt bw 202 S Dt pr wx ∧ Only (fun j => ¬ pr j) w3 wx))
   case first =>
     cases B with
     | true =>
       have hin : who ∈ S.wh name := of_decide_eq_true HBB.out
       have HXS : Hid (Cx bs bt bw 202 S Dt pr w4) := Lib.hid (by have h := HX4.out; rw [HS1.out, if_pos hin] at h; exact h)
       clear hin
       go_wp2_with fail
       go_meet
       exact Lib.hid ⟨HXS.out, HO4.out⟩
     | false =>
       have hin : who ∉ S.wh name := of_decide_eq_false HBB.out
       have hs1 : S1 = S.watched name (insI (S.wh name) who) (S.n + 1) := by rw [HS1.out, if_neg hin]
       have HBK := Lib.hid (watched_back S name who hin HRI.out)
       have hwh : S1.wh name = insI (S.wh name) who := by rw [hs1]; exact upd_same _ _ _
       have HME : Hid (who ∈ S1.wh name) := Lib.hid (by rw [hwh, insI_mem]; exact .inl rfl)
       have HN1 : Hid (S1.n = S.n + 1) := Lib.hid (by rw [hs1]; rfl)
       rw [← hs1] at HBK
       have HC4 := Lib.hid HX4.out.count
       rw [HN1.out] at HC4
       have HU := Lib.hid (HX4.out.unwatch (by omega) name HNM.out who HWH.out (by rw [HN1.out]; omega) (by rw [HN1.out]; omega) S (by rw [if_pos HME.out, HBK.out]))
       rw [decide_eq_true HME.out] at HU
       clear hin hs1 hwh
       go_wp2_with (first
         | (go_at_call 16; refine HC4.out.mono ?_; rintro e w' ⟨rfl, rfl⟩)
         | (go_at_call 10; refine HU.out.mono ?_; rintro e w5 ⟨rfl, x5, o5⟩; have HX5 := Lib.hid x5; have HO5 := Lib.hid o5; clear x5 o5))
       go_meet
       exact Lib.hid ⟨HX5.out, HO4.out.trans HO5.out (fun _ _ h => h)⟩
   case rest =>
   have HX6 := Lib.hid hcut.out.1
   have HO6 := Lib.hid hcut.out.2
   have hwl := HI.out.len name
   have HR6 := Lib.hid (owns_only HR3.out HO6.out (fun g hg hn => hn (by rw [← HPR.out]; exact .inr hg)))
   have HW6 := Lib.hid (HX6.out.who (by omega) name HNM.out)
   clear hcut
   have HSM := Lib.hid (fun (v6 : Value) (w6 : World) (hr : w6.ownsRow wc.heap.size TI 1 v6 (S.wh name).length ((S.wh name).map encZ)) (hb : Below wc.heap.size wc w6) => same_any v6 v3 (S.wh name) (S.wh name) (by omega) (by omega) w6 (owns_base hr (fun g hg => Nat.zero_le _)) (owns_base (owns_below HR6.out hb) (fun g hg => Nat.zero_le _)))
   have HCX := Lib.hid (fun (w7 : World) (hb : Below wc.heap.size wc w7) => (HX6.out.later hb).count)
   clear hwl
   go_upto_if 93 with (first
     | (go_at_call 14; refine HW6.out.mono ?_; rintro e w6 ⟨v6, rfl, r6, b6⟩; have hsm := HSM.out v6 w6 r6 b6; have HB6 := Lib.hid b6; (rw [decide_eq_true (rfl : S.wh name = S.wh name)] at hsm); clear r6 b6)
     | (go_at_call 12; refine hsm.mono ?_; rintro e w7 ⟨rfl, b7⟩; have HB7 := Lib.hid (HB6.out.trans (b7.mono HB6.out.size)); clear b7 hsm)
     | (go_at_call 16; refine (HCX.out _ HB7.out).mono ?_; rintro e w7' ⟨rfl, rfl⟩))
   clear HSM HCX HW6 HX3 HX4 HO4 HA HX HB6 HS1 HBB
   have q6 := (owns_base HR6.out (fun g hg => Nat.zero_le _))
   clear q6
   have HMZ := Lib.hid (ownsMap_only (ownsMap_only (ownsMap_only HM.out (Only.of_below (own := fun _ => False) HB3.out) id) HO6.out (fun hn => hn (by rw [← HPR.out]; exact .inl (.inr rfl)))) (Only.of_below (own := fun _ => False) HB7.out) id)
   have HXZ := Lib.hid (HX6.out.later HB7.out)
   have HKZ : Hid (Flds w7' w.heap.size TB [.bool false] ∧ Below w.heap.size w w7' ∧ w.heap.size < w7'.heap.size) := Lib.hid (by
     have z0 := HB0.out; have z1 := HBN.out; have z2 := HB3.out.size; have z3 := HO6.out.size; have z4 := HB7.out.size
     refine ⟨((HF6.out.later HB3.out).only HO6.out (fun h => h (by rw [← HPR.out]; exact .inl (.inl (Nat.le_refl _))))).later HB7.out, ?_, by omega⟩
     have hb1 := HBEL.out.trans (HB3.out.mono HBEL.out.size)
     exact (hb1.trans (HO6.out.below hb1.size (fun j hj => by
       rw [← HPR.out] at hj
       have : ¬ j ≤ w.heap.size := fun h => hj (.inl (.inl h))
       omega))).trans (HB7.out.mono (by omega)))
   go_upto_region 19 with fail
   obtain ⟨WA, hWA⟩ : ∃ WA, w7'.alloc (.cells #[.int .i64 0] TI) = WA := ⟨_, rfl⟩
   obtain ⟨gn, hgn⟩ : ∃ gn, w7'.heap.size = gn := ⟨_, rfl⟩
   have HMA : Hid (WA.ownsMap Try.prog TK (plainElem Try.prog TB) bn (2 * k) Dn) := Lib.hid (hWA ▸ ownsMap_only HMZ.out (Only.of_below (own := fun _ => False) (below_alloc1' w7' _)) id)
   have HXA : Hid (Cx bs bt bw 202 S Dt (fun j => pr j ∨ j = gn) WA) := Lib.hid (hWA ▸ HXZ.out.more (below_alloc1' w7' _) (fun j => pr j ∨ j = gn) (fun j hj => hj.imp id (fun e => by omega)) (fun j hj => by
     have hz : (w7'.alloc (.cells #[.int .i64 0] TI)).heap.size = w7'.heap.size + 1 := World.size_alloc _ _
     rcases hj with hj | hj
     · obtain ⟨_, _, _, _, _, _, _, hp⟩ := HXZ.out
       have := hp j hj; omega
     · omega))
   have HKA : Hid (K2 w gn 0 WA) := Lib.hid (by
     subst hgn
     refine hWA ▸ ⟨HKZ.out.1.alloc _, Flds.new w7' TI [.int .i64 0], HKZ.out.2.2, HKZ.out.2.1.alloc (by have := HKZ.out.2.2; omega) _⟩)
   rw [hWA, hgn]
   clear hWA hgn HMZ HXZ HKZ HF6 HBEL HB7 HO6 HR6 HX6 HR3 HB3
   have hwa : WA.heap.size = WA.heap.size := rfl
   go_wp2_with (at_range; refine wpList_range_own _ rfl _ M4 rfl TK TB keyedS Try.underlying43 _ bn _ Dn rfl HMA.out ?_; intro w8 hrg hg8 hs8)
   have HX8 := Lib.hid (HXA.out.more (wq := w8) ⟨hg8.os, hg8.tape, hg8.output, hg8.size, fun j hj => hg8.block j hj (by simp)⟩ (fun j => (pr j ∨ j = gn) ∨ j = WA.heap.size) (fun j hj => hj.imp id (fun e => by omega)) (fun j hj => by
      rcases hj with hj | hj
      · obtain ⟨_, _, _, _, _, _, _, hp⟩ := HXA.out
        have := hp j hj; have := hg8.size; omega
      · omega))
   have HK8 : Hid (K2 w gn 0 w8) := Lib.hid (HKA.out.grown hg8 (fun r e => by cases e))
   have HR8 : Hid (w.heap.size < WA.heap.size ∧ WA.heap.size ≠ gn) := Lib.hid ⟨HKA.out.f6.lt, by have := HKA.out.fn.lt; omega⟩
   generalize WA.heap.size = r8 at *
   have HRG := Lib.hid hrg
   have HG8 := Lib.hid hg8
   clear hrg hg8 hs8 hwa HKA
   obtain ⟨pr2, hpr2⟩ : ∃ pr2, (fun j => (pr j ∨ j = gn) ∨ j = r8) = pr2 := ⟨_, rfl⟩
   rw [hpr2] at HX8
   have HP2 := Lib.hid hpr2
   clear hpr2 HXA HG8
   go_loopw [12] (fun i wr => ∃ (vs : List (List UInt8)) (left : Lit → Bool) (cnt : Nat), i = .int .i64 (tot S.wh (vs.map bA)) ∧ Hid (wr.ranges Try.prog TK (plainElem Try.prog TB) bn r8 (2 * k) Dn left cnt) ∧ Hid (Collected Dn left vs ∧ (∀ x ∈ vs, x.length ≤ maxLen) ∧ vs.length + cnt ≤ 2 * k ∧ tot S.wh (vs.map bA) ≤ 40 * (vs.length : Int)) ∧ Hid (Cx bs bt bw 202 S Dt pr2 wr) ∧ Hid (K2 w gn 0 wr)) (fun _ wr => wr.rangeLeft bn r8)
   case atStart => exact ⟨[], _, _, rfl, HRG, Lib.hid ⟨Collected.start _, by simp, by have := HMA.out.size_le; simpa using this, by simp [tot]⟩, HX8, HK8⟩
   case round =>
     obtain ⟨vs, left, cnt, rfl, HRW, HCO, HXW, HKW⟩ := hrel
     have hrw := HRW.out
     obtain ⟨q, hq⟩ : ∃ q, tot S.wh (vs.map bA) = q := ⟨_, rfl⟩
     have HQ := Lib.hid hq
     rw [hq]
     have q0 : 0 ≤ q := by rw [← hq]; exact tot_nonneg _ _
     clear hq
     go_wp2_with (at_next; refine wpList_next_sb _ rfl _ rfl TK TB keyedS Try.underlying9 Try.underlying4 bn r8 (2 * k) Dn left cnt rfl hrw (fun hc0 hlf => ?_) (fun x c w9 cnt' hxl hlf hhas hrg9 hlt hgr hsz hen => ?_))
     · have HTQ : Hid (q = S.n) := Lib.hid (by rw [← HQ.out, collected_tot S.wh HCO.out.1 hlf HI.out.nd HNS.out HCO.out.2.1 HH.out]; exact HI.out.n.symm)
       clear hlf hrw hc0
       obtain ⟨g0, hg0⟩ : ∃ g0, wr.heap.size = g0 := ⟨_, rfl⟩
       refine (all_any (some ⟨bs, 0, none⟩) wr).mono ?_
       rintro e wz ⟨rfl, rfl⟩
       obtain ⟨WB, hWB⟩ : ∃ WB, wr.alloc (.cells #[.pointer (some ⟨bs, 0, none⟩)] 24) = WB := ⟨_, rfl⟩
       have hfB : Flds WB g0 24 [.pointer (some ⟨bs, 0, none⟩)] := by rw [← hWB, ← hg0]; exact Flds.new wr _ _
       have hzB : WB.heap.size = g0 + 1 := by rw [← hWB, World.size_alloc, hg0]
       have hbB : Below wr.heap.size wr WB := by rw [← hWB]; exact below_alloc1' _ _
       have HKB := Lib.hid (HKW.out.later hbB)
       obtain ⟨ownB, mB, DwB, bkB, hCB, hmB, hoB, hpB⟩ := HXW.out
       have HCB : Hid (Cel (fun j => ownB j ∧ j < wr.heap.size) bs mB S WB bt bw Dt DwB bkB) := Lib.hid (hCB.shrink.later hbB)
       have HGN : Hid (¬ ownB gn) := Lib.hid (fun h => hoB _ h (by rw [← HP2.out]; exact .inl (.inr rfl)))
       have HGL : Hid (gn < g0) := Lib.hid (by rw [← hg0]; exact HKW.out.fn.lt)
       have HG6 : Hid (w.heap.size < g0) := Lib.hid (by rw [← hg0]; exact HKW.out.f6.lt)
       have HMB := Lib.hid hmB
       clear hmB
       have HTD := Lib.hid (HCB.out.told HI.out.nd HNS.out HTX.out)
       obtain ⟨ks, hks⟩ : ∃ ks, (strKeys Dt).mergeSort leB = ks := ⟨_, rfl⟩
       rw [hks] at HTD
       have HKS := Lib.hid hks
       have HKL : Hid (ks.length ≤ 80) := Lib.hid (by have h1 := HTD.out.1; have h2 := HTD.out.2.1; have h3 := HNL.out; omega)
       have q3 := hfB.cell 0
       simp only [List.getElem?_cons_zero] at q3
       rw [hg0] at HCB ⊢
       have HZB := Lib.hid hzB
       clear hbB hCB hoB hpB hfB hks
       go_wp2_with fail
       clear hWB hg0
       refine (wpIn_wide (n := 3)).1 ?_
       refine' range_arg rfl (by decide) (gf := 21) (lb := #[.pointer (some ⟨g0, 0, none⟩)]) rfl trivial (enters_of Try.func21 (by kernel_rfl) rfl)
         (all_seq _ (by decide) g0 HCB.out (by have := HMB.out; omega) ks HKS.out.symm (fun j => j = gn) (fun j hj => by subst hj; exact ⟨by rw [HZB.out]; have := HGL.out; omega, fun h => HGN.out h.1, by have := HGL.out; omega⟩) q3)
         (fun k W xs l o1 o2 hl h1 h2 _ hA => hA) (fun {A B C} h h' => OnlyX.trans h h') (fun W l o1 o2 hl h1 h2 _ => OnlyX.put W l o1 o2 hl h1 h2) (fun k W xs hA => hA.size)
         (KI w gn bs mB _ S bt bw Dt DwB bkB) (fun _ _ _ => False) (KI.own (by rw [HZB.out]; have := HG6.out; omega) (by rw [HZB.out]; have := HGL.out; omega) (fun j hj => by rw [HZB.out]; have := hj.2; omega)) (fun _ _ _ _ _ hs _ _ => hs)
         ⟨HKB.out, HCB.out⟩ _ ?assign ?body ?done ?stop
       case stop =>
         rintro D c k W _ _ h _
         exact h.elim
       case assign =>
         rintro l k W xs K hk hI hA hK
         have hx : xs = #[xs.getD 0 undef, xs.getD 1 undef] := by
           obtain ⟨x, -, rfl⟩ := hA
           rfl
         rw [hx]
         clear hk hI hA hx
         gi_wp2
         exact hK
       case body =>
         rintro l k W xs hk hI ⟨x, hx, rfl⟩
         rw [show (#[encStr x, Value.string (S.tx ⟨x.toArray⟩)] : Array Value)[0]?.getD undef = encStr x from rfl, show (#[encStr x, Value.string (S.tx ⟨x.toArray⟩)] : Array Value)[1]?.getD undef = .string (S.tx ⟨x.toArray⟩) from rfl]
         have htn := HTD.out.2.2 x (List.mem_of_getElem? hx)
         have hkl := HKL.out
         generalize S.tx ⟨x.toArray⟩ = T at *
         have hT1 : T.toList.isEmpty = false := em_no htn
         have h1 := hI.1.fn
         have q1 := h1.cell 0
         have q2 := h1.frozen 0
         have l1 := h1.lt
         simp only [List.getElem?_cons_zero] at q1
         have k0 : (0 : Int) ≤ (k : Int) := by omega
         have k1 : (k : Int) ≤ 80 := by omega
         have HIH := Lib.hid hI
         have HF1 := Lib.hid h1
         clear hI h1 htn hx
         gi_wp2
         refine ⟨keeps_set HF1.out _, OnlyX.of_only (only_set (P := fun j => j = gn) rfl _), ?_, ?_⟩
         · have h := HIH.out.1.step ((k : Int) + 1)
           exact h
         · exact HIH.out.2.kept (grown_setCell W ⟨gn, 0, none⟩ (.int .i64 ((k : Int) + 1))) (fun j e _ hj => by simp only [Option.some.injEq] at e; subst e; exact HGN.out hj.1)
       case done =>
         rintro D W hD hI hK
         have h1 := hI.1.fn
         have h6 := hI.1.f6
         have q1 := h1.cell 0
         have l1 := h1.lt
         have q6 := h6.cell 0
         have p6 := h6.frozen 0
         have l6 := h6.lt
         simp only [List.getElem?_cons_zero] at q1 q6
         have HLN := Lib.hid (fun (W' : World) (hb : Below W.heap.size W W') => len_any (hI.2.later hb))
         have HIB := Lib.hid hI.1
         have hq := HTQ.out
         have hkn := HTD.out.1
         rw [hkn] at q1
         generalize Go.Maps.size Dt = N at *
         clear h1 h6 hI
         subst hq
         go_wp2_with fail
         have HLN2 := Lib.hid (HLN.out _ ((Below.refl W.heap.size W).drew))
         refine wp_region_still_tail 9 (by kernel_rfl) (by kernel_rfl) ?_
         simp only [List.take_succ_cons, List.take_zero, List.drop_succ_cons, List.drop_zero]
         still_step
         still_step
         still_step
         still_step
         still_step
         still_step
         still_call HLN2.out
         still_step
         still_step
         refine wpStill_nil ?_
         change wpList _ _ _ _ _ W.drew
         have hKd : W.drew.heap[D]? = some (.deferred (some [])) := hK
         have h6d : Flds W.drew w.heap.size TB [.bool false] := HIB.out.f6
         have hbd : Below w.heap.size w W.drew := HIB.out.bel.drew
         have HDB : Hid (g0 + 1 ≤ D) := Lib.hid (by rw [← HZB.out]; exact hD)
         clear HLN HLN2 hK q1 l1 q6 p6 l6 hD
         generalize W.drew = Wd at *
         have q6 := h6d.cell 0
         have p6 := h6d.frozen 0
         have l6 := h6d.lt
         simp only [List.getElem?_cons_zero] at q6
         go_wp2_with fail
         have hne : w.heap.size ≠ D := by have := HG6.out; have := HDB.out; omega
         have hK3 : (Wd.setCell ⟨w.heap.size, 0, none⟩ (.bool true)).heap[D]? = some (.deferred (some [])) := ((grown_setCell Wd ⟨w.heap.size, 0, none⟩ (.bool true)).block D (Array.getElem?_eq_some_iff.1 hKd).1 (fun e => hne (Option.some.inj e).symm)).trans hKd
         have h7 : Flds (Wd.setCell ⟨w.heap.size, 0, none⟩ (.bool true)) w.heap.size TB [.bool true] := h6d.set 0 _
         have hb7 : Below w.heap.size w (Wd.setCell ⟨w.heap.size, 0, none⟩ (.bool true)) := hbd.setCell (Nat.le_refl _) _
         clear q6 p6 l6 h6d hKd hbd
         generalize Wd.setCell ⟨w.heap.size, 0, none⟩ (.bool true) = W3 at *
         refine ⟨by simp, .inl ⟨_, _, rfl, run_takeDeferred hK3, ?_⟩⟩
         have h8 : Flds (W3.putObj D (.deferred none)) w.heap.size TB [.bool true] := (World.putObj_heap_other hne).trans h7
         have q8 := h8.cell 0
         have l8 := h8.lt
         simp only [List.getElem?_cons_zero] at q8
         have hb8 : Below w.heap.size w (W3.putObj D (.deferred none)) := hb7.trans (belowK_b (w := w) (Nat.le_refl _) _ D _ _ (by have := HG6.out; have := HDB.out; omega) hK3 rfl rfl)
         generalize W3.putObj D (.deferred none) = W4 at *
         refine ⟨.bool true, by simp [results, Try.f4, go_sem, q8], rfl, hb8⟩
     · have HX9 := Lib.hid (HXW.out.kept hgr (by rw [← HP2.out]; exact .inr rfl))
       have HK9 := Lib.hid (HKW.out.grown hgr (fun r e => by simp only [Option.some.injEq] at e; subst e; exact HR8.out))
       have HRS := Lib.hid hrg9
       have HLF := Lib.hid hlf
       have HAT := Lib.hid hhas
       have HLT := Lib.hid hlt
       have hq2 : q ≤ 3200 := by rw [← HQ.out]; have h1 := HCO.out.2.2.2; have h2 := HCO.out.2.2.1; have h3 := hk; omega
       have hlen := HI.out.len (bA x)
       have hlen2 : ((S.wh (bA x)).length : Int) ≤ 40 := by omega
       clear hrg9 hlf hhas hlt hgr hsz hrw hlen
       refine (HX9.out.who (by omega) (bA x) hxl).mono ?_
       rintro e w10 ⟨v10, rfl, r10, b10⟩
       obtain ⟨a10, c10, rfl⟩ := owns_shape r10
       have HXT := Lib.hid (HX9.out.later b10)
       have HKT := Lib.hid (HK9.out.later b10)
       have HRT := Lib.hid (HRS.out.kept (grown_of_below b10) (by simp) (by simp))
       obtain ⟨L, hL⟩ : ∃ L, (S.wh (bA x)).length = L := ⟨_, rfl⟩
       rw [hL] at hlen2 ⊢
       have HL := Lib.hid hL
       have hl0 : (0 : Int) ≤ (L : Int) := by omega
       clear r10 b10 hL
       have HTS : Hid (tot S.wh ((vs ++ [x]).map bA) = q + (L : Int)) := Lib.hid (by rw [List.map_append, List.map_cons, List.map_nil, tot_snoc, HQ.out, HL.out])
       go_wp2_with fail
       go_roundw
       case rel =>
         obtain ⟨y, hy⟩ := HAT.out
         refine ⟨vs ++ [x], _, cnt', by rw [HTS.out], HRT, Lib.hid ⟨HCO.out.1.step HLF.out hy, fun z hz => ?_, ?_, ?_⟩, HXT, HKT⟩
         · rcases List.mem_append.1 hz with hz | hz
           · exact HCO.out.2.1 z hz
           · rw [List.mem_singleton.1 hz]; exact hxl
         · have h1 := HCO.out.2.2.1; have h2 := HLT.out; rw [List.length_append]; simp only [List.length_cons, List.length_nil]; omega
         · rw [HTS.out, List.length_append]; have h1 := HCO.out.2.2.2; rw [HQ.out] at h1; simp only [List.length_cons, List.length_nil]; omega
       case measure =>
         show World.rangeLeft _ bn r8 < World.rangeLeft _ bn r8
         rw [HRT.out.left_eq, HRW.out.left_eq]
         exact HLT.out
end Go.Proofs.Ytfaoeajaahnooaa.cel
