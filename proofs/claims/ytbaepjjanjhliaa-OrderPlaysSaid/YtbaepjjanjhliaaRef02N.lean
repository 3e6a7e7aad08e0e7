/- The reference's list: New. -/
import Derived.Test.YtbaepjjanjhliaaRef02A
namespace Go.Proofs.Ytbaepjjanjhliaa.ref02
set_option linter.unusedVariables false
open Go.RowKit ref01

abbrev r0 : Ar Int := { room := 1048576, sl := [(true, 0)], fr := [] }
theorem RS.new0 {w w2 W5 : World} {ts : List Int} {aT aU aF : Option Addr} {cT cU cF : Nat} (hR : RefAt (fun k => k < w.heap.size + 1) r0 ts aT cT aU cU aF cF w2) (hz : w.heap.size < w2.heap.size) (hz5 : W5.heap.size = w2.heap.size) (ho : Only (fun k => k = w.heap.size) w2 W5) (o : Go.Obj) :
    RS (fun k => k < w.heap.size) r0 [0] (lst (some ⟨w2.heap.size + 1, 0, none⟩) 1 1 1048576 aT 1 cT aU 1 cU aF 0 cF) ((W5.alloc o).alloc (.cells #[.int .i64 0] 3)) := by
  have h1 : Row ((W5.alloc o).alloc (.cells #[.int .i64 0] 3)) (.slice (some ⟨(W5.alloc o).heap.size, 0, none⟩) 1 1) 1 1 [.int .i64 0] := Row.of_flds (m := 1) (size := 1) (Flds.new (W5.alloc o) 3 [.int .i64 0]) rfl 1
  rw [World.size_alloc, hz5] at h1
  refine ⟨some ⟨w2.heap.size + 1, 0, none⟩, 1, aT, cT, aU, cU, aF, cF, ts, rfl, ((hR.only (ho.mono fun k _ (e : k = w.heap.size) => show k < w.heap.size + 1 by omega)).later (((Below.refl _ _).alloc (Nat.le_refl _) _).alloc (by simp) _)).sub (fun k (hk : k < w.heap.size) => show k < w.heap.size + 1 by omega), h1, ?_, Nat.le_refl _⟩
  rintro - x hx hk
  cases hx
  have hk : w2.heap.size + 1 < w.heap.size := hk
  omega
set_option maxRecDepth 100000 in
set_option maxHeartbeats 1000000 in
theorem new_ref (w : World) : Calls Try.prog 24 #[] w fun e w' => ∃ v, e = .returned v ∧ RS (fun k => k < w.heap.size) r0 [0] v w' ∧ Below w.heap.size w w' := by
  have hb0 : Below w.heap.size w (w.alloc (.cells zl.toArray TM)) := (Below.refl _ _).alloc (Nat.le_refl _) _
  have h0 : RefAt (fun k => k < w.heap.size + 1) ({ room := 1048576, sl := [], fr := [] } : Ar Int) [] none 0 none 0 none 0 (w.alloc (.cells zl.toArray TM)) :=
    ⟨Row.nil _ _ _ _, Row.nil _ _ _ _, Row.nil _ _ _ _, Nat.le_refl _, ⟨rfl, fun i v h => by simp at h⟩, fun _ x h => (nomatch h), fun _ x h => (nomatch h), fun _ x h => (nomatch h)⟩
  obtain ⟨ts', hAl⟩ := alloc_step (Ar.Ok.new 1048576 (by decide) (by decide)) (fun k hk => by simpa using hk) h0 0
  have F2 := Flds.new w TM zl
  have hAl : Calls Try.prog 18 #[st 1048576 none 0 0 none 0 0 none 0 0, .int .i64 0] (w.alloc (.cells zl.toArray TM)) (RefOut' (fun k => k < w.heap.size + 1) 1048576 r0 ts' [.int .i64 0, .bool true] (w.alloc (.cells zl.toArray TM))) := hAl
  have HAL := Lib.hid hAl; have HB0 := Lib.hid hb0; have HF2 := Lib.hid F2
  have hsz : (w.alloc (.cells zl.toArray TM)).heap.size = w.heap.size + 1 := by simp
  clear hAl h0 hb0 F2
  go_enter Try.func24, Try.ntmps24
  go_wp2_with fail
  (with_reducible refine HAL.out.mono ?_); rintro e w2 ⟨⟨aT', cT', aU', cU', aF', cF', rfl, hR2⟩, hb2⟩
  have F2 := HF2.out.later hb2
  have z0 := F2.cell 0; have z1 := F2.cell 1; have z2 := F2.cell 2; have z3 := F2.cell 3; have z4 := F2.cell 4
  have y0 := F2.frozen 0; have y1 := F2.frozen 1; have y2 := F2.frozen 2; have y3 := F2.frozen 3; have y4 := F2.frozen 4
  have lz := F2.lt
  simp only [List.getElem?_cons_zero, List.getElem?_cons_succ] at z0 z1 z2 z3 z4
  have hlen : r0.sl.length = 1 := rfl
  have hlen2 : r0.fr.length = 0 := rfl
  rw [hlen, hlen2]
  have hB2 : Below w.heap.size w w2 := HB0.out.trans (hb2.mono HB0.out.size)
  have HR2 := Lib.hid hR2; have HB2 := Lib.hid hB2; have HF := Lib.hid F2
  clear hR2 hB2 F2 hb2 HAL HF2
  go_wp2
  obtain ⟨hgr, hfl⟩ := five HF.out (.slice (some ⟨w2.heap.size + 1, 0, none⟩) 1 1) (.int .i64 1048576) (.slice aT' 1 cT') (.slice aU' 1 cU') (.slice aF' 0 cF')
  have ho := (Only.refl (fun k => k = w.heap.size) w2).grown hgr (fun k e _ => by cases e; rfl)
  have hzz := HB2.out.size
  have HRS := Lib.hid (RS.new0 (w := w) HR2.out lz (by simp [World.setCell]) ho (.cells #[.int .i64 1048576, .slice aT' 1 cT', .slice aU' 1 cU', .slice aF' 0 cF'] TR))
  have hB5 := HB2.out.trans (ho.below HB2.out.size (fun k e => by omega))
  have hfl2 := (hfl.alloc (.cells #[.int .i64 1048576, .slice aT' 1 cT', .slice aU' 1 cU', .slice aF' 0 cF'] TR)).alloc (.cells #[.int .i64 0] 3)
  have HB8 := Lib.hid ((hB5.alloc hB5.size (.cells #[.int .i64 1048576, .slice aT' 1 cT', .slice aU' 1 cU', .slice aF' 0 cF'] TR)).alloc (by have := hB5.size; simp at this ⊢; omega) (.cells #[.int .i64 0] 3))
  have z0 := hfl2.cell 0; have z1 := hfl2.cell 1; have z2 := hfl2.cell 2; have z3 := hfl2.cell 3; have z4 := hfl2.cell 4
  simp only [List.getElem?_cons_zero, List.getElem?_cons_succ] at z0 z1 z2 z3 z4
  clear ho hgr hfl hfl2 hB5 HR2 HB2 HF HB0
  refine bodyPost_ret (v := lst (some ⟨w2.heap.size + 1, 0, none⟩) 1 1 1048576 aT' 1 cT' aU' 1 cU' aF' 0 cF') (by simp [results, Try.results24, go_sem, z0, z1, z2, z3, z4]) rfl ⟨_, rfl, HRS.out, HB8.out⟩
end Go.Proofs.Ytbaepjjanjhliaa.ref02
