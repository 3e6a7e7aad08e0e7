/- The law's sum, walked. -/
import Derived.Test.YtfnajccnlcfbiaaDoorExprU
namespace Go.Proofs.YtfnajccnlcfbiaaDoor.ex
set_option linter.unusedVariables false
open Go.RowKit
open val (V null veq6 gB ag3 gMax Pow10 showV)
attribute [local go_sem] Oper.semAt_some
/-- the sum lies in memory -/
def sumR (g : Nat) : Er := ⟨3, 7, null, ByteArray.empty, ByteArray.empty, .slice (some ⟨g, 0, none⟩) 2 2⟩
def sumU : List Er := [⟨1, 0, ⟨2, 1, ByteArray.empty⟩, ByteArray.empty, ByteArray.empty, .slice none 0 0⟩, ⟨2, 0, null, ⟨#[97]⟩, ⟨#[98]⟩, .slice none 0 0⟩]
theorem leaf_at {T : TypeId} {X : Nat → Prop} {W : World} (k op : Int) (v : V) (tb nm : ByteArray) : ExAt T X 1 W (.mk k op v tb nm []) ⟨k, op, v, tb, nm, .slice none 0 0⟩ :=
  ⟨rfl, rfl, rfl, rfl, rfl, (fun b hb => by cases hb), [], rfl, World.ownsRow_nil _ _ _ _, fun i x u hx hu => by simp at hu⟩
theorem sum_at {W : World} {g : Nat} (h : Flds W g TE (erCells sumU)) : ExAt TE (fun _ => True) 2 W sumE (sumR g) := by
  refine ⟨rfl, rfl, rfl, rfl, rfl, fun _ _ => trivial, sumU, rfl, owns_of_flds h rfl (Nat.zero_le _) (by decide), fun i x u hx hu => ?_⟩
  unfold sumE Ex.l at hx
  unfold sumU at hu
  cases i with
  | zero =>
    simp only [List.getElem?_cons_zero, Option.some.injEq] at hx hu
    subst hx; subst hu
    exact leaf_at _ _ _ _ _
  | succ i =>
    cases i with
    | zero =>
      simp only [List.getElem?_cons_zero, List.getElem?_cons_succ, Option.some.injEq] at hx hu
      subst hx; subst hu
      exact leaf_at _ _ _ _ _
    | succ i => simp at hx
theorem sum_ne : eqE sumE (.mk 1 0 ⟨2, 1, ByteArray.empty⟩ ByteArray.empty ByteArray.empty []) = false := by
  have : ¬ eqE sumE (.mk 1 0 ⟨2, 1, ByteArray.empty⟩ ByteArray.empty ByteArray.empty []) = true := by
    rw [eqE_yes]
    unfold sumE
    intro h
    injection h with h
    exact absurd h (by decide)
  simpa using this
set_option maxRecDepth 100000 in
set_option maxHeartbeats 4000000 in
theorem speaks_any (m : Int) (w : World) (htb : Tabs m w) : Calls Tryd.prog 5 #[] w fun en w' => en = .returned (.bool true) ∧ Below w.heap.size w w' := by
  have HTB := Lib.hid htb
  have hoi := val.ofInt_any 1 w
  unfold ag3 at hoi
  have HOI := Lib.hid hoi
  clear htb hoi
  go_enter Tryd.func5, Tryd.ntmps5
  go_upto_region 2 with (go_at_call 18; refine HOI.out.mono ?_; rintro en w2 ⟨rfl, hb2⟩; have HB2 := Lib.hid hb2; clear hb2)
  obtain ⟨Wb, hW1⟩ : ∃ Wb, (w2.alloc (.cells #[.int .i64 1, .int .i64 0, .int .i64 2, .int .i64 1, .string ByteArray.empty, .string (ByteArray.mk #[]), .string (ByteArray.mk #[]), .slice none 0 0, .int .i64 2, .int .i64 0, .int .i64 0, .int .i64 0, .string (ByteArray.mk #[]), .string (ByteArray.mk #[97]), .string (ByteArray.mk #[98]), .slice none 0 0] TE)).alloc (.cells #[.int .i64 3, .int .i64 7, .int .i64 0, .int .i64 0, .string (ByteArray.mk #[]), .string (ByteArray.mk #[]), .string (ByteArray.mk #[]), .slice (some ⟨w2.heap.size, 0, none⟩) 2 2] TE) = Wb := ⟨_, rfl⟩
  obtain ⟨gS, hgS⟩ : ∃ gS, w2.heap.size = gS := ⟨_, rfl⟩
  obtain ⟨g1, hg1⟩ : ∃ g1, w2.heap.size + 1 = g1 := ⟨_, rfl⟩
  have hf16 : Flds Wb gS TE (erCells sumU) := by rw [← hW1, ← hgS]; exact (Flds.new w2 TE _).alloc _
  have hf8 : Flds Wb g1 TE [.int .i64 3, .int .i64 7, .int .i64 0, .int .i64 0, .string ByteArray.empty, .string ByteArray.empty, .string ByteArray.empty, .slice (some ⟨gS, 0, none⟩) 2 2] := by
    rw [← hW1, ← hg1, ← hgS]
    have := Flds.new (w2.alloc (.cells #[.int .i64 1, .int .i64 0, .int .i64 2, .int .i64 1, .string ByteArray.empty, .string (ByteArray.mk #[]), .string (ByteArray.mk #[]), .slice none 0 0, .int .i64 2, .int .i64 0, .int .i64 0, .int .i64 0, .string (ByteArray.mk #[]), .string (ByteArray.mk #[97]), .string (ByteArray.mk #[98]), .slice none 0 0] TE)) TE [.int .i64 3, .int .i64 7, .int .i64 0, .int .i64 0, .string ByteArray.empty, .string ByteArray.empty, .string ByteArray.empty, .slice (some ⟨w2.heap.size, 0, none⟩) 2 2]
    rw [World.size_alloc] at this; exact this
  have hb1 : Below w2.heap.size w2 Wb := by rw [← hW1]; exact ((Below.refl _ _).alloc (Nat.le_refl _) _).alloc (by simp) _
  rw [hW1, hg1]
  have HAT := Lib.hid (fun (W : World) (hb : Below Wb.heap.size Wb W) => sum_at (hf16.later hb))
  have HFW := Lib.hid (fun (W : World) (hb : Below Wb.heap.size Wb W) => of_fe (hf8.later hb))
  have HBW := Lib.hid (fun (W : World) (hb : Below Wb.heap.size Wb W) => HB2.out.trans ((hb1.trans (hb.mono hb1.size)).mono HB2.out.size))
  have HKW := Lib.hid (fun (W : World) (hb : Below Wb.heap.size Wb W) => part_cells (n := 2) (i := 0) (u := ⟨1, 0, ⟨2, 1, ByteArray.empty⟩, ByteArray.empty, ByteArray.empty, .slice none 0 0⟩) (owns_of_flds (m := 2) (size := 8) (base := 0) (hf16.later hb) rfl (Nat.zero_le _) (by decide)) (by decide) rfl)
  have HC1 := Lib.hid (fun (W : World) (hb : Below Wb.heap.size Wb W) => egood_any sum_slim sum_fit (HAT.out W hb))
  have HC2 := Lib.hid (fun (W : World) (hb : Below Wb.heap.size Wb W) => eshow_any m (by decide) sum_slim sum_fit (by rw [sum_parts]; decide) (HTB.out.later (HBW.out W hb)) (HAT.out W hb))
  have HC3 := Lib.hid (fun (W : World) (hb : Below Wb.heap.size Wb W) => depth_any 2 (by decide) _ _ _ W (HAT.out W hb))
  have HC4 := Lib.hid (fun (W : World) (hb : Below Wb.heap.size Wb W) => same_any 2 _ _ _ _ _ _ W (HAT.out W hb) (HAT.out W hb))
  have HC5 := Lib.hid (fun (W : World) (hb : Below Wb.heap.size Wb W) => same_any 2 _ _ _ _ _ _ W (HAT.out W hb) ((leaf_at (T := TE) (X := fun _ => True) (W := W) 1 0 ⟨2, 1, ByteArray.empty⟩ ByteArray.empty ByteArray.empty).mono (by decide) (fun _ _ h => h)))
  rw [sum_good] at HC1 HC2
  rw [if_pos rfl, sum_show] at HC2
  rw [sum_depth] at HC3
  rw [eqE_self] at HC4
  rw [sum_ne] at HC5
  unfold sumR Er.val at HC1 HC2 HC3 HC4 HC5
  dsimp only at HC1 HC2 HC3 HC4 HC5
  unfold null at HC1 HC2 HC3 HC4 HC5
  dsimp only at HC1 HC2 HC3 HC4 HC5 HKW
  clear hf16 hf8 hb1 hW1 hgS hg1
  apply ag.region_calm (ag.Spec.val _ :: ag.Spec.sat (fun v _ => v = .bool true) ag.grew :: ag.Spec.val (.bool true) :: ag.Spec.val _ :: ag.Spec.sat (fun v _ => v = .string ⟨#[40, 49, 32, 43, 32, 97, 46, 98, 41]⟩) ag.grew :: ag.Spec.val (.bool true) :: ag.Spec.val _ :: ag.Spec.val _ :: ag.Spec.val _ :: ag.Spec.sat (fun v _ => v = .int .i64 2) ag.grew :: ag.Spec.val (.bool true) :: ag.Spec.val _ :: ag.Spec.val _ :: ag.Spec.val _ :: ag.Spec.val _ :: ag.Spec.sat (fun v _ => v = .bool true) ag.grew :: ag.Spec.val (.bool true) :: ag.Spec.val _ :: ag.Spec.val _ :: ag.Spec.val _ :: ag.Spec.val _ :: ag.Spec.val _ :: ag.Spec.val _ :: ag.Spec.sat (fun v _ => v = .bool false) ag.grew :: ag.Spec.val (.bool true) :: ag.Spec.val _ :: ag.Spec.val _ :: [])
  case hm => kernel_rfl
  case hB => kernel_rfl
  case hlen => rfl
  case hc => exact ⟨⟨ag.lasts_eq _, rfl⟩, ⟨ag.lasts_eq _, rfl⟩, ⟨ag.lasts_eq _, rfl⟩, ⟨ag.lasts_eq _, rfl⟩, ⟨ag.lasts_eq _, rfl⟩, trivial⟩
  apply ag.walk_val
  · rfl
  · intro W1 hS hE
    obtain ⟨y0, y1, y2, y3, y4, y5, y6, y7, l3⟩ := HFW.out W1 hS
    clear hS hE
    unfold ag.does
    go_simp
    first | done | exact ⟨rfl, rfl⟩ | rfl | (exact ⟨by go_num, rfl⟩) | (simp; done) | trace_state
  simp only [Act.put, List.setIfInBounds_toArray, List.set_cons_zero, List.set_cons_succ]
  refine ag.walk_such (by rfl) (fun W1 hS hE => ?_) (fun y1 => ?_)
  · have hc := HC1.out W1 hS
    clear hE
    unfold ag.does
    go_simp
    first | done | (exact hc.mono (fun e w' h => ⟨_, h.1, rfl, h.2⟩))
  simp only [Act.put, List.setIfInBounds_toArray, List.set_cons_zero, List.set_cons_succ]
  apply ag.walk_val
  · rfl
  · intro W1 hS hE
    have e1 : y1 = .bool true := hE.of 1 (by kernel_rfl)
    subst e1
    clear hS hE
    unfold ag.does
    go_simp
    first | done | exact ⟨rfl, rfl⟩ | rfl | (exact ⟨by go_num, rfl⟩) | (simp; done) | trace_state
  simp only [Act.put, List.setIfInBounds_toArray, List.set_cons_zero, List.set_cons_succ]
  apply ag.walk_val
  · rfl
  · intro W1 hS hE
    obtain ⟨y0, y1, y2, y3, y4, y5, y6, y7, l3⟩ := HFW.out W1 hS
    clear hS hE
    unfold ag.does
    go_simp
    first | done | exact ⟨rfl, rfl⟩ | rfl | (exact ⟨by go_num, rfl⟩) | (simp; done) | trace_state
  simp only [Act.put, List.setIfInBounds_toArray, List.set_cons_zero, List.set_cons_succ]
  refine ag.walk_such (by rfl) (fun W1 hS hE => ?_) (fun y4 => ?_)
  · have hc := HC2.out W1 hS
    clear hE
    unfold ag.does
    go_simp
    first | done | (exact hc.mono (fun e w' h => ⟨_, h.1, rfl, h.2⟩))
  simp only [Act.put, List.setIfInBounds_toArray, List.set_cons_zero, List.set_cons_succ]
  apply ag.walk_val
  · rfl
  · intro W1 hS hE
    have e4 : y4 = .string ⟨#[40, 49, 32, 43, 32, 97, 46, 98, 41]⟩ := hE.of 4 (by kernel_rfl)
    subst e4
    clear hS hE
    unfold ag.does
    go_simp
    first | done | exact ⟨rfl, rfl⟩ | rfl | (exact ⟨by go_num, rfl⟩) | (simp; done) | trace_state
  simp only [Act.put, List.setIfInBounds_toArray, List.set_cons_zero, List.set_cons_succ]
  apply ag.walk_val
  · rfl
  · intro W1 hS hE
    clear hS hE
    unfold ag.does
    go_simp
    first | done | exact ⟨rfl, rfl⟩ | rfl | (exact ⟨by go_num, rfl⟩) | (simp; done) | trace_state
  simp only [Act.put, List.setIfInBounds_toArray, List.set_cons_zero, List.set_cons_succ]
  apply ag.walk_val
  · rfl
  · intro W1 hS hE
    clear hS hE
    unfold ag.does
    go_simp
    first | done | exact ⟨rfl, rfl⟩ | rfl | (exact ⟨by go_num, rfl⟩) | (simp; done) | trace_state
  simp only [Act.put, List.setIfInBounds_toArray, List.set_cons_zero, List.set_cons_succ]
  apply ag.walk_val
  · rfl
  · intro W1 hS hE
    obtain ⟨y0, y1, y2, y3, y4, y5, y6, y7, l3⟩ := HFW.out W1 hS
    clear hS hE
    unfold ag.does
    go_simp
    first | done | exact ⟨rfl, rfl⟩ | rfl | (exact ⟨by go_num, rfl⟩) | (simp; done) | trace_state
  simp only [Act.put, List.setIfInBounds_toArray, List.set_cons_zero, List.set_cons_succ]
  refine ag.walk_such (by rfl) (fun W1 hS hE => ?_) (fun y9 => ?_)
  · have hc := HC3.out W1 hS
    clear hE
    unfold ag.does
    go_simp
    first | done | (exact hc.mono (fun e w' h => ⟨_, h.1, rfl, h.2⟩))
  simp only [Act.put, List.setIfInBounds_toArray, List.set_cons_zero, List.set_cons_succ]
  apply ag.walk_val
  · rfl
  · intro W1 hS hE
    have e9 : y9 = .int .i64 2 := hE.of 9 (by kernel_rfl)
    subst e9
    clear hS hE
    unfold ag.does
    go_simp
    first | done | exact ⟨rfl, rfl⟩ | rfl | (exact ⟨by go_num, rfl⟩) | (simp; done) | trace_state
  simp only [Act.put, List.setIfInBounds_toArray, List.set_cons_zero, List.set_cons_succ]
  apply ag.walk_val
  · rfl
  · intro W1 hS hE
    clear hS hE
    unfold ag.does
    go_simp
    first | done | exact ⟨rfl, rfl⟩ | rfl | (exact ⟨by go_num, rfl⟩) | (simp; done) | trace_state
  simp only [Act.put, List.setIfInBounds_toArray, List.set_cons_zero, List.set_cons_succ]
  apply ag.walk_val
  · rfl
  · intro W1 hS hE
    clear hS hE
    unfold ag.does
    go_simp
    first | done | exact ⟨rfl, rfl⟩ | rfl | (exact ⟨by go_num, rfl⟩) | (simp; done) | trace_state
  simp only [Act.put, List.setIfInBounds_toArray, List.set_cons_zero, List.set_cons_succ]
  apply ag.walk_val
  · rfl
  · intro W1 hS hE
    obtain ⟨y0, y1, y2, y3, y4, y5, y6, y7, l3⟩ := HFW.out W1 hS
    clear hS hE
    unfold ag.does
    go_simp
    first | done | exact ⟨rfl, rfl⟩ | rfl | (exact ⟨by go_num, rfl⟩) | (simp; done) | trace_state
  simp only [Act.put, List.setIfInBounds_toArray, List.set_cons_zero, List.set_cons_succ]
  apply ag.walk_val
  · rfl
  · intro W1 hS hE
    obtain ⟨y0, y1, y2, y3, y4, y5, y6, y7, l3⟩ := HFW.out W1 hS
    clear hS hE
    unfold ag.does
    go_simp
    first | done | exact ⟨rfl, rfl⟩ | rfl | (exact ⟨by go_num, rfl⟩) | (simp; done) | trace_state
  simp only [Act.put, List.setIfInBounds_toArray, List.set_cons_zero, List.set_cons_succ]
  refine ag.walk_such (by rfl) (fun W1 hS hE => ?_) (fun y15 => ?_)
  · have hc := HC4.out W1 hS
    clear hE
    unfold ag.does
    go_simp
    first | done | (exact hc.mono (fun e w' h => ⟨_, h.1, rfl, h.2⟩))
  simp only [Act.put, List.setIfInBounds_toArray, List.set_cons_zero, List.set_cons_succ]
  apply ag.walk_val
  · rfl
  · intro W1 hS hE
    have e15 : y15 = .bool true := hE.of 15 (by kernel_rfl)
    subst e15
    clear hS hE
    unfold ag.does
    go_simp
    first | done | exact ⟨rfl, rfl⟩ | rfl | (exact ⟨by go_num, rfl⟩) | (simp; done) | trace_state
  simp only [Act.put, List.setIfInBounds_toArray, List.set_cons_zero, List.set_cons_succ]
  apply ag.walk_val
  · rfl
  · intro W1 hS hE
    clear hS hE
    unfold ag.does
    go_simp
    first | done | exact ⟨rfl, rfl⟩ | rfl | (exact ⟨by go_num, rfl⟩) | (simp; done) | trace_state
  simp only [Act.put, List.setIfInBounds_toArray, List.set_cons_zero, List.set_cons_succ]
  apply ag.walk_val
  · rfl
  · intro W1 hS hE
    obtain ⟨y0, y1, y2, y3, y4, y5, y6, y7, l3⟩ := HFW.out W1 hS
    clear hS hE
    unfold ag.does
    go_simp
    first | done | exact ⟨rfl, rfl⟩ | rfl | (exact ⟨by go_num, rfl⟩) | (simp; done) | trace_state
  simp only [Act.put, List.setIfInBounds_toArray, List.set_cons_zero, List.set_cons_succ]
  apply ag.walk_val
  · rfl
  · intro W1 hS hE
    clear hS hE
    unfold ag.does
    go_simp
    first | done | exact ⟨rfl, rfl⟩ | rfl | (exact ⟨by go_num, rfl⟩) | (simp; done) | trace_state
  simp only [Act.put, List.setIfInBounds_toArray, List.set_cons_zero, List.set_cons_succ]
  apply ag.walk_val
  · rfl
  · intro W1 hS hE
    obtain ⟨y0, y1, y2, y3, y4, y5, y6, y7, l3⟩ := HFW.out W1 hS
    clear hS hE
    unfold ag.does
    go_simp
    first | done | exact ⟨rfl, rfl⟩ | rfl | (exact ⟨by go_num, rfl⟩) | (simp; done) | trace_state
  simp only [Act.put, List.setIfInBounds_toArray, List.set_cons_zero, List.set_cons_succ]
  apply ag.walk_val
  · rfl
  · intro W1 hS hE
    clear hS hE
    unfold ag.does
    go_simp
    first | done | exact ⟨rfl, rfl⟩ | rfl | (exact ⟨by go_num, rfl⟩) | (simp; done) | trace_state
  simp only [Act.put, List.setIfInBounds_toArray, List.set_cons_zero, List.set_cons_succ]
  apply ag.walk_val
  · rfl
  · intro W1 hS hE
    obtain ⟨gq, ge, gl, c0, c1, c2, c3, c4, c5, c6, c7⟩ := HKW.out W1 hS
    (simp only [Option.some.injEq, Addr.mk.injEq, and_true] at ge)
    subst ge
    clear hS hE
    unfold ag.does
    go_simp
    first | done | exact ⟨rfl, rfl⟩ | rfl | (exact ⟨by go_num, rfl⟩) | (simp; done) | trace_state
  simp only [Act.put, List.setIfInBounds_toArray, List.set_cons_zero, List.set_cons_succ]
  refine ag.walk_such (by rfl) (fun W1 hS hE => ?_) (fun y23 => ?_)
  · have hc := HC5.out W1 hS
    clear hE
    unfold ag.does
    go_simp
    first | done | (exact hc.mono (fun e w' h => ⟨_, h.1, rfl, h.2⟩))
  simp only [Act.put, List.setIfInBounds_toArray, List.set_cons_zero, List.set_cons_succ]
  apply ag.walk_val
  · rfl
  · intro W1 hS hE
    have e23 : y23 = .bool false := hE.of 23 (by kernel_rfl)
    subst e23
    clear hS hE
    unfold ag.does
    go_simp
    first | done | exact ⟨rfl, rfl⟩ | rfl | (exact ⟨by go_num, rfl⟩) | (simp; done) | trace_state
  simp only [Act.put, List.setIfInBounds_toArray, List.set_cons_zero, List.set_cons_succ]
  apply ag.walk_val
  · rfl
  · intro W1 hS hE
    clear hS hE
    unfold ag.does
    go_simp
    first | done | exact ⟨rfl, rfl⟩ | rfl | (exact ⟨by go_num, rfl⟩) | (simp; done) | trace_state
  simp only [Act.put, List.setIfInBounds_toArray, List.set_cons_zero, List.set_cons_succ]
  apply ag.walk_val
  · rfl
  · intro W1 hS hE
    clear hS hE
    unfold ag.does
    go_simp
    first | done | exact ⟨rfl, rfl⟩ | rfl | (exact ⟨by go_num, rfl⟩) | (simp; done) | trace_state
  simp only [Act.put, List.setIfInBounds_toArray, List.set_cons_zero, List.set_cons_succ]
  refine ag.walk_nil (fun w9 hS hF hP => ?_)
  clear hP
  clear hF
  have HS9 := Lib.hid (HBW.out w9 hS)
  clear hS
  go_wp2_with fail
  go_ret
  exact ⟨rfl, HS9.out⟩
end Go.Proofs.YtfnajccnlcfbiaaDoor.ex
