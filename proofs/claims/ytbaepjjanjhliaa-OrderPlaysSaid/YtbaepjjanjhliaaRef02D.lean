/- The reference's list: Delete, New. -/
import Derived.Test.YtbaepjjanjhliaaRef02A
namespace Go.Proofs.Ytbaepjjanjhliaa.ref02
set_option linter.unusedVariables false
open Go.RowKit ref01

set_option maxRecDepth 100000 in
set_option maxHeartbeats 400000 in
theorem delete_no {X : Nat → Prop} {r : Ar Int} {L : List Int} {v : Value} {w : World} (h : RS X r L v w) (hm : L.length ≤ 1048576) {s : Int} (hs : placeF L s ≤ 0) :
    Calls Try.prog 25 #[v, .int .i64 s] w fun e w' => e = .returned (.tuple #[v, .bool false]) ∧ Below w.heap.size w w' := by
  obtain ⟨aO, cO, aT, cT, aU, cU, aF, cF, ts, rfl, h1, h2, h3, h4⟩ := h
  have hA := fun W (hB : Below w.heap.size w W) => at_any aO L cO r.room aT r.sl.length cT aU r.sl.length cU aF r.fr.length cF W (h2.later hB) hm s
  have HA := Lib.hid hA
  clear hA h1 h2 h3 h4
  generalize placeF L s = q at *
  go_enter Try.func25, Try.ntmps25
  go_wp2_with fail
  obtain ⟨hbx, hb0⟩ := boxes5 (w := w) (.slice aO L.length cO) (.int .i64 r.room) (.slice aT r.sl.length cT) (.slice aU r.sl.length cU) (.slice aF r.fr.length cF)
  (with_reducible refine (HA.out _ hb0).mono ?_); rintro e w1 ⟨rfl, hb1⟩
  obtain ⟨F1, F2, hB1⟩ := hbx _ hb1
  have HB1 := Lib.hid hB1
  have c0 := F1.cell 0; have c1 := F1.cell 1; have c2 := F1.cell 2; have c3 := F1.cell 3; have c4 := F1.cell 4
  have z0 := F2.cell 0; have z1 := F2.cell 1; have z2 := F2.cell 2; have z3 := F2.cell 3; have z4 := F2.cell 4
  have y0 := F2.frozen 0; have y1 := F2.frozen 1; have y2 := F2.frozen 2; have y3 := F2.frozen 3; have y4 := F2.frozen 4
  have lz := F2.lt
  simp only [List.getElem?_cons_zero, List.getElem?_cons_succ] at c0 c1 c2 c3 c4 z0 z1 z2 z3 z4
  clear F1 F2 hb0 hb1 HA hbx hB1
  go_wp2
  refine bodyPost_ret (v := .tuple #[lst aO L.length cO r.room aT r.sl.length cT aU r.sl.length cU aF r.fr.length cF, .bool false]) (by simp [results, Try.results25, go_sem, z0, z1, z2, z3, z4]) rfl ⟨rfl, ?_⟩
  exact (((((HB1.out.setCell (p := ⟨w.heap.size + 1, 0, none⟩) (Nat.le_succ _) _).setCell (p := ⟨w.heap.size + 1, 1, none⟩) (Nat.le_succ _) _).setCell (p := ⟨w.heap.size + 1, 2, none⟩) (Nat.le_succ _) _).setCell (p := ⟨w.heap.size + 1, 3, none⟩) (Nat.le_succ _) _).setCell (p := ⟨w.heap.size + 1, 4, none⟩) (Nat.le_succ _) _)
theorem ints_erase (L : List Int) (p : Nat) : [] ++ (ints L).take p ++ (ints L).drop (p + 1) = ints (L.eraseIdx p) := by
  rw [List.eraseIdx_eq_take_drop_succ]
  simp
set_option maxRecDepth 100000 in
set_option maxHeartbeats 6000000 in
theorem delete_yes {X : Nat → Prop} {r : Ar Int} {L : List Int} {v : Value} {w : World} (hok : r.Ok) (hl : ∀ k, X k → k < w.heap.size) (h : RS X r L v w) (hm : L.length ≤ 1000000) (hn : L.Nodup) {p : Nat} {s : Int} (hp0 : p ≠ 0) (hp : L[p]? = some s) (hh : r.has s = true) {r' : Ar Int} (hr' : r.free 0 s = r') :
    Calls Try.prog 25 #[v, .int .i64 s] w fun e w' => ∃ v', e = .returned (.tuple #[v', .bool true]) ∧ RS X r' (L.eraseIdx p) v' w' ∧ Below w.heap.size w w' := by
  obtain ⟨aO, cO, aT, cT, aU, cU, aF, cF, ts, rfl, h1, h2, h3, h4⟩ := h
  have hpl := (List.getElem?_eq_some_iff.1 hp).1
  have hA := fun W (hB : Below w.heap.size w W) => at_any aO L cO r.room aT r.sl.length cT aU r.sl.length cU aF r.fr.length cF W (h2.later hB) (by omega) s
  rw [place_at hn hp] at hA
  have HA := Lib.hid hA
  have H1 := Lib.hid h1; have H2 := Lib.hid h2
  obtain ⟨b, off, cap, ea, -⟩ := h2.pos (by omega)
  simp only [Value.slice.injEq] at ea
  obtain ⟨rfl, -, rfl⟩ := ea
  clear hA h1 h2 h3
  have hd0 : (0 : Int) ≤ (p : Int) := by omega
  have hd1 : ¬ (p : Int) ≤ 0 := by omega
  have hw1 : IntKind.i64.wrap ((p : Int) + 1) = (p : Int) + 1 := IntWalk.i64_in _ (by omega)
  go_enter Try.func25, Try.ntmps25
  go_wp2_with fail
  obtain ⟨hbx, hb0⟩ := boxes5 (w := w) (.slice (some ⟨b, off, none⟩) L.length cO) (.int .i64 r.room) (.slice aT r.sl.length cT) (.slice aU r.sl.length cU) (.slice aF r.fr.length cF)
  have hR0 := H1.out.step (Only.of_below (own := X) hb0)
  have HR0 := Lib.hid hR0
  have hx0 : ∀ k, ownNew X w ((w.alloc (.cells #[.slice (some ⟨b, off, none⟩) L.length cO, .int .i64 r.room, .slice aT r.sl.length cT, .slice aU r.sl.length cU, .slice aF r.fr.length cF] TM)).alloc (.cells zl.toArray TM)) k → k < w.heap.size + 2 := by
    rintro k (hk | hk)
    · have := hl k hk; omega
    · have := hk.2; simp at this; omega
  have HX0 := Lib.hid hx0
  have hsz0 : ((w.alloc (.cells #[.slice (some ⟨b, off, none⟩) L.length cO, .int .i64 r.room, .slice aT r.sl.length cT, .slice aU r.sl.length cU, .slice aF r.fr.length cF] TM)).alloc (.cells zl.toArray TM)).heap.size = w.heap.size + 2 := by simp
  (with_reducible refine (HA.out _ hb0).mono ?_); rintro e w1 ⟨rfl, hb1⟩
  obtain ⟨F1, F2, hB1⟩ := hbx _ hb1
  have hz1 := hb1.size
  rw [hsz0] at hz1
  have hR1 := HR0.out.later hb1
  have hFr := free_step r.room hok (fun k hk => by have := HX0.out k hk; omega) hR1 s
  rw [hh, if_pos rfl, hr'] at hFr
  have HFR := Lib.hid hFr
  have HB1 := Lib.hid hB1
  have HF1 := Lib.hid F1; have HF2 := Lib.hid F2
  have c0 := F1.cell 0; have c1 := F1.cell 1; have c2 := F1.cell 2; have c3 := F1.cell 3; have c4 := F1.cell 4
  simp only [List.getElem?_cons_zero, List.getElem?_cons_succ] at c0 c1 c2 c3 c4
  have hroom : r'.room = r.room := by rw [← hr']; rfl
  clear F1 F2 hb0 hb1 HA hbx hB1 hR0 hR1 hx0 hFr hsz0
  go_wp2_with fail
  (with_reducible refine HFR.out.mono ?_); rintro e w2 ⟨⟨aT', cT', aU', cU', aF', cF', rfl, hR2⟩, hb2⟩
  have HR2 := Lib.hid hR2
  have hz2 := hb2.size
  have HB2 := Lib.hid (HB1.out.trans (hb2.mono HB1.out.size))
  have HG1 := Lib.hid (HF1.out.later hb2); have HG2 := Lib.hid (HF2.out.later hb2)
  clear hb2 hR2 c0 c1 c2 c3 c4 HFR HF1 HF2
  obtain ⟨i0, hi, hz0, hz1', hz2'⟩ := info_parts infoInt
  go_upto_region 5 with fail
  have hb3 : Below w2.heap.size w2 (w2.alloc (.cells #[.int .i64 r.room, .slice aT' r'.sl.length cT', .slice aU' r'.sl.length cU', .slice aF' r'.fr.length cF'] TR)) := (Below.refl _ _).alloc (Nat.le_refl _) _
  have F8 := Flds.new w2 TR [.int .i64 r.room, .slice aT' r'.sl.length cT', .slice aU' r'.sl.length cU', .slice aF' r'.fr.length cF']
  have hR3 := Lib.hid (HR2.out.later hb3)
  have hB3 := Lib.hid (HB2.out.trans (hb3.mono HB2.out.size))
  have G1 := Lib.hid (HG1.out.later hb3); have G2 := Lib.hid (HG2.out.later hb3)
  have hz3 : w2.heap.size < (w2.alloc (.cells #[.int .i64 r.room, .slice aT' r'.sl.length cT', .slice aU' r'.sl.length cU', .slice aF' r'.fr.length cF'] TR)).heap.size := F8.lt
  have HF8 := Lib.hid F8
  clear hb3 F8 HR2 HB2 HG1 HG2
  generalize w2.alloc (.cells #[.int .i64 r.room, .slice aT' r'.sl.length cT', .slice aU' r'.sl.length cU', .slice aF' r'.fr.length cF'] TR) = W3 at *
  generalize w2.heap.size = g8 at *
  have HRO := Lib.hid (H2.out.later hB3.out)
  have c0 := G1.out.cell 0
  have q0 := HF8.out.cell 0; have q1 := HF8.out.cell 1; have q2 := HF8.out.cell 2; have q3 := HF8.out.cell 3
  simp only [List.getElem?_cons_zero, List.getElem?_cons_succ] at c0 q0 q1 q2 q3
  have lg := G1.out.lt
  have hn1 : (p : Int).toNat = p := by omega
  have hn2 : ((p : Int) + 1).toNat = p + 1 := by omega
  have hc0 : (0 : Int) ≤ (p : Int) + 1 := by omega
  have hc1 : (p : Int) ≤ (cO : Int) := by omega
  have hc2 : (p : Int) + 1 ≤ (L.length : Int) := by omega
  have h63 : 0 + p ≤ maxLen := by unfold maxLen; omega
  have h64 : (0 + p) * 8 ≤ 140737488355328 := by omega
  have h67 : p + (L.length - (p + 1)) ≤ maxLen := by unfold maxLen; omega
  have h68 : (p + (L.length - (p + 1))) * 8 ≤ 140737488355328 := by omega
  have HONE1 := Lib.hid (one_list L (fun l => l.take p) (fun u => List.mem_of_mem_take))
  have HONE3 := Lib.hid (one_list L (fun l => l.drop (p + 1)) (fun u => List.mem_of_mem_drop))
  obtain ⟨A, hA, HRD⟩ : ∃ A : Option Addr, (if cO = p + 1 then some (⟨b, off, none⟩ : Addr) else some ⟨b, off + (p + 1), none⟩) = A ∧ Hid (∀ W, Below W3.heap.size W3 W → Row W (.slice A (L.length - (p + 1)) (cO - (p + 1))) 1 (L.length - (p + 1)) ((ints L).drop (p + 1))) :=
    ⟨_, rfl, Lib.hid (fun W hb => row_drop (HRO.out.later hb) (by omega) _ _ (fun h => by rw [if_neg (by omega)]))⟩
  have hbe := ((Below.refl W3.heap.size W3).drew).alloc (Nat.le_refl _) (.cells #[] 3)
  have HBE := Lib.hid hbe
  have HRT := Lib.hid (row_take (HRO.out.later hbe) (show p ≤ L.length by omega) cO)
  have E1 : Hid (Flds (W3.drew.alloc (.cells #[] 3)) W3.heap.size 3 []) := Lib.hid (Flds.new W3.drew 3 [])
  have KEEP1 : Hid (∀ a4 c4 w4, Appended W3.heap.size 3 1 (.slice (some ⟨W3.heap.size, 0, none⟩) 0 0) 0 p [] ((ints L).take p) (W3.drew.alloc (.cells #[] 3)) (.slice a4 (0 + p) c4) w4 →
      Below W3.heap.size W3 w4 ∧ w4.ownsRow W3.heap.size 3 1 (.slice a4 p c4) p ((ints L).take p)) := Lib.hid (fun a4 c4 w4 hap => by
    refine ⟨HBE.out.trans (app_below hap HBE.out.size), ?_⟩
    have h := hap.own
    rwa [Nat.zero_add, List.nil_append] at h)
  have KEEP2 : Hid (∀ w4 a4 c4 a7 c7 w7, Below W3.heap.size W3 w4 → Appended W3.heap.size 3 1 (.slice a4 p c4) p (L.length - (p + 1)) ((ints L).take p) ((ints L).drop (p + 1)) w4 (.slice a7 (p + (L.length - (p + 1))) c7) w7 →
      Below W3.heap.size W3 w7 ∧ w7.ownsRow W3.heap.size 3 1 (.slice a7 (L.length - 1) c7) (L.length - 1) (ints (L.eraseIdx p))) := Lib.hid (fun w4 a4 c4 a7 c7 w7 hb hap => by
    refine ⟨hb.trans (app_below hap hb.size), ?_⟩
    have h := hap.own
    rw [show p + (L.length - (p + 1)) = L.length - 1 by omega] at h
    have e := ints_erase L p
    rw [List.nil_append] at e
    rwa [e] at h)
  clear hbe
  go_region_law (first
    | (refine step_append_row _ rfl (.tmp 22) (.tmp 26) 26 (by rfl) W3.heap.size 3 i0 (.int .i64 0) 1 8 Try.underlying26 hi hz0 hz1' hz2' rfl (by decide) (.slice (some ⟨W3.heap.size, 0, none⟩) 0 0) 0 [] (by rfl) (owns_of_flds (m := 0) E1.out rfl (Nat.le_refl _) (by decide)) (.slice (some ⟨b, off, none⟩) p cO) p ((ints L).take p) (by rfl) HRT.out HONE1.out h63 h64 HBE.out.size ?_; intro a4 c4 w4 hap4; rw [Nat.zero_add]; obtain ⟨hb4, ho4⟩ := KEEP1.out _ _ _ (by first | exact hap4 | (rw [Nat.zero_add] at hap4 ⊢; exact hap4)); have hb4 := Lib.hid hb4; have ho4 := Lib.hid ho4; clear hap4 KEEP1 HRT E1 HBE HONE1; have c0 := (G1.out.later hb4.out).cell 0; have q0 := (HF8.out.later hb4.out).cell 0; have q1 := (HF8.out.later hb4.out).cell 1; have q2 := (HF8.out.later hb4.out).cell 2; have q3 := (HF8.out.later hb4.out).cell 3; simp only [List.getElem?_cons_zero, List.getElem?_cons_succ] at c0 q0 q1 q2 q3)
    | (refine step_append_row _ rfl (.tmp 27) (.tmp 32) 26 (by rfl) W3.heap.size 3 i0 (.int .i64 0) 1 8 Try.underlying26 hi hz0 hz1' hz2' rfl (by decide) (.slice a4 p c4) p _ (by rfl) ho4.out (.slice A (L.length - (p + 1)) (cO - (p + 1))) (L.length - (p + 1)) ((ints L).drop (p + 1)) (by rfl) (HRD.out _ hb4.out) HONE3.out h67 h68 hb4.out.size ?_; intro a7 c7 w7 hap7; obtain ⟨hb7, ho7⟩ := KEEP2.out _ _ _ _ _ _ hb4.out hap7; have hb7 := Lib.hid hb7; have ho7 := Lib.hid ho7; clear hap7 KEEP2 ho4 hb4; have c0 := (G1.out.later hb7.out).cell 0; have q0 := (HF8.out.later hb7.out).cell 0; have q1 := (HF8.out.later hb7.out).cell 1; have q2 := (HF8.out.later hb7.out).cell 2; have q3 := (HF8.out.later hb7.out).cell 3; have z0 := (G2.out.later hb7.out).cell 0; have z1 := (G2.out.later hb7.out).cell 1; have z2 := (G2.out.later hb7.out).cell 2; have z3 := (G2.out.later hb7.out).cell 3; have z4 := (G2.out.later hb7.out).cell 4; have y0 := (G2.out.later hb7.out).frozen 0; have y1 := (G2.out.later hb7.out).frozen 1; have y2 := (G2.out.later hb7.out).frozen 2; have y3 := (G2.out.later hb7.out).frozen 3; have y4 := (G2.out.later hb7.out).frozen 4; have lz := (G2.out.later hb7.out).lt; simp only [List.getElem?_cons_zero, List.getElem?_cons_succ] at c0 q0 q1 q2 q3 z0 z1 z2 z3 z4))
  all_goals go_wp2
  all_goals
    obtain ⟨hgr, hfl⟩ := five (G2.out.later hb7.out) (.slice a7 (p + (L.length - (p + 1))) c7) (.int .i64 r.room) (.slice aT' r'.sl.length cT') (.slice aU' r'.sl.length cU') (.slice aF' r'.fr.length cF')
    have hN : p + (L.length - (p + 1)) = L.length - 1 := by omega
    have z0 := hfl.cell 0; have z1 := hfl.cell 1; have z2 := hfl.cell 2; have z3 := hfl.cell 3; have z4 := hfl.cell 4
    simp only [List.getElem?_cons_zero, List.getElem?_cons_succ] at z0 z1 z2 z3 z4
    have ho : Only (fun k => k = w.heap.size + 1) w7 _ := (Only.refl _ w7).grown hgr (fun k e _ => by cases e; rfl)
    have hz7 := hb7.out.size
    have hzw := hB3.out.size
    have HB8 := Lib.hid ((hB3.out.trans (hb7.out.mono hB3.out.size)).trans (ho.below (by omega) (fun k e => by omega)))
    have HRS := Lib.hid (RS.mk8 (X := X) (r' := r') (c7 := c7) hroom hl (hR3.out.later hb7.out) (fun k h => .inl h) ho7.out ho (by omega) (by omega) (by rintro k rfl; exact .inr ⟨by omega, by simp⟩) (by rw [List.length_eraseIdx, if_pos hpl]) hN)
    clear ho hgr hfl hb7 ho7 hB3 hR3 G1 G2 HF8 HRO HRD H1 H2 HR0 HX0 HB1 HONE3
    refine bodyPost_ret (v := .tuple #[lst a7 (p + (L.length - (p + 1))) c7 r.room aT' r'.sl.length cT' aU' r'.sl.length cU' aF' r'.fr.length cF', .bool true]) (by simp [results, Try.results25, go_sem, z0, z1, z2, z3, z4]) rfl ⟨_, rfl, HRS.out, HB8.out⟩
end Go.Proofs.Ytbaepjjanjhliaa.ref02
