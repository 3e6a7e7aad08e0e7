/- The law CatalogUses, walked. -/
import Derived.Test.YthhcjmikkiiahaaCatK
namespace Go.Proofs.Ythhcjmikkiiahaa.cat
set_option linter.unusedVariables false
open Go.RowKit Go.WideShapes Go.MapKept
theorem view_tn (S : CatS) (k : ByteArray) (us : List ByteArray) : (S.view k us).tn = S.tn := by
  unfold CatS.view
  split <;> rfl
theorem view_us {S : CatS} (h : ∀ s ∈ S.vn, (S.vu s).length ≤ 1000000) (k : ByteArray) (us : List ByteArray) (hu : us.length ≤ 1000000) : ∀ s ∈ (S.view k us).vn, ((S.view k us).vu s).length ≤ 1000000 := by
  unfold CatS.view
  split
  · intro s hs
    show (upd S.vu k us s).length ≤ _
    by_cases e : s = k
    · subst e; rw [upd_same]; exact hu
    · rw [upd_other _ _ e]
      refine h s ?_
      rcases List.mem_append.1 hs with hs | hs
      · exact hs
      · exact absurd (List.mem_singleton.1 hs) e
  · exact h
def VS (x : ByteArray) : Value → World → Prop := fun v W => ∃ g, v = .slice (some ⟨g, 0, none⟩) 1 1 ∧ Row W (.slice (some ⟨g, 0, none⟩) 1 1) 1 1 [.string x]
theorem VS.lasts {x : ByteArray} {v : Value} {W W' : World} (h : VS x v W) (hb : Below W.heap.size W W') : VS x v W' := by
  obtain ⟨g, h1, h2⟩ := h
  exact ⟨g, h1, h2.later hb⟩
set_option maxRecDepth 100000 in
set_option maxHeartbeats 20000000 in
theorem uses_walk (a1 : Option Addr) (n1 c1 : Nat) (ns : List ByteArray) (v : Int) (hns : ns.length = n1) (hsz : ∀ s ∈ ns, s.size ≤ 1048576) (hn1 : n1 ≤ 9223372036854775807) (hv0 : 0 ≤ v) (hv1 : v ≤ 255) (w : World) (hr : Row w (.slice a1 n1 c1) 1 n1 (ns.map Value.string)) :
    Calls Try.prog 4 #[.slice a1 n1 c1, .int .u8 v] w fun en w' => en = .returned (.bool true) ∧ Below w.heap.size w w' := by
  obtain ⟨n, hn⟩ : ∃ n : Nat, v.tmod 9 = (n : Int) := ⟨(v.tmod 9).toNat, by have := Int.tmod_nonneg 9 hv0; omega⟩
  have hn8 : n ≤ 8 := by have := Int.tmod_lt_of_pos v (b := 9) (by decide); omega
  have HR := Lib.hid hr
  have HNS := Lib.hid hns
  have z1 : (0 : Int) ≤ (n1 : Int) := by omega
  have z2 : (n1 : Int) ≤ 9223372036854775807 := by omega
  have HSP := Lib.hid (speaks_any w)
  have n0 : (0 : Int) ≤ (n : Int) := by omega
  have n9 : (n : Int) ≤ 8 := by omega
  clear hr hns
  go_enter Try.func4, Try.ntmps4
  go_upto_region 3 with (go_at_call 6; refine HSP.out.mono ?_; rintro ee w1 ⟨rfl, hb1⟩; have HB1 := Lib.hid hb1; clear hb1)
  go_upto_region 4 with (go_at_call 7; refine (new_at w1).mono ?_; rintro ee w2 ⟨bs, bt, bv, rfl, hc2, hb2⟩; have HC2 := Lib.hid hc2; have HB2 := Lib.hid hb2; clear hc2 hb2)
  have hbA : Below w2.heap.size w2 (w2.alloc (.cells #[.string ⟨#[107]⟩, .int .i64 1, .bool true] TCo)) := (Below.refl _ _).alloc (Nat.le_refl _) _
  have hmk := make_at (HC2.out.later hbA) (Nat.le_trans HB2.out.size hbA.size) (by decide) nT (by decide) (some ⟨w2.heap.size, 0, none⟩) 1 1 kC rfl (by decide) (Row.of_flds (Flds.new w2 TCo [.string ⟨#[107]⟩, .int .i64 1, .bool true]) rfl 1) (fun e => by cases e)
  rw [uS_make.1, uS_make.2] at hmk
  have HMK := Lib.hid hmk
  have HBA := Lib.hid (HB2.out.trans (hbA.mono HB2.out.size))
  clear hmk hbA
  go_wp2_with (go_at_call 16; refine HMK.out.mono ?_; rintro ee w3 ⟨rfl, hc3, hb3⟩; have HC3 := Lib.hid hc3; have HB3 := Lib.hid (HBA.out.trans hb3); clear hc3 hb3)
  go_loopw [7] (fun iv wr => ∃ i : Nat, iv = .int .i64 (i : Int) ∧ i ≤ n ∧ Hid (CatAt w1.heap.size bs bt bv (1 + i) (uS i) wr) ∧ Hid (Below w1.heap.size w1 wr)) (fun iv _ => n - (intOf iv).toNat)
  case atStart => exact ⟨0, rfl, Nat.zero_le _, HC3, HB3⟩
  case round =>
    obtain ⟨i, rfl, hi, HC, HB⟩ := hrel
    have i0 : (0 : Int) ≤ (i : Int) := by omega
    by_cases hin : i < n
    · have di : (i : Int) < (n : Int) := by omega
      have hw1 : IntKind.i64.wrap (48 + (i : Int)) = 48 + (i : Int) := Go.IntWalk.i64_in _ (by omega)
      have hw2 : IntKind.u8.wrap (48 + (i : Int)) = 48 + (i : Int) := Go.IntWalk.u8_in _ (by omega)
      have hcv := fun W => dB_run W i (by omega)
      have hb1 : Below wr.heap.size wr (wr.alloc (.cells #[.int .u8 (48 + (i : Int))] 5)) := (Below.refl _ _).alloc (Nat.le_refl _) _
      have hb2 : Below wr.heap.size wr ((wr.alloc (.cells #[.int .u8 (48 + (i : Int))] 5)).alloc (.cells #[.string ⟨#[116]⟩, .string ⟨#[116]⟩] TK)) := hb1.alloc hb1.size _
      have hrow : Row ((wr.alloc (.cells #[.int .u8 (48 + (i : Int))] 5)).alloc (.cells #[.string ⟨#[116]⟩, .string ⟨#[116]⟩] TK)) (.slice (some ⟨wr.heap.size + 1, 0, none⟩) 2 2) 1 2 ([nT, nT].map Value.string) := by
        have h := Row.of_flds (m := 2) (size := 1) (Flds.new (wr.alloc (.cells #[.int .u8 (48 + (i : Int))] 5)) TK [.string ⟨#[116]⟩, .string ⟨#[116]⟩]) rfl 2
        rw [World.size_alloc] at h
        exact h
      have hvw := view_at (HC.out.later hb2) (Nat.le_trans HB.out.size hb2.size) (by omega) (dN i) (some ⟨wr.heap.size + 1, 0, none⟩) 2 2 [nT, nT] (.inl (by show (2 : Nat) ≤ maxLen; decide)) rfl (by decide) hrow (fun e => by cases e)
      rw [(uS_view i (by omega)).1, (uS_view i (by omega)).2, ← dN_cat] at hvw
      have HVW := Lib.hid hvw
      have HBV := Lib.hid (HB.out.trans (hb2.mono HB.out.size))
      clear hb1 hb2 hrow hvw
      go_wp2_with (go_at_call 10; refine HVW.out.mono ?_; rintro ee w5 ⟨rfl, hc5, hb5⟩; have HC5 := Lib.hid hc5; have HB5 := Lib.hid (HBV.out.trans hb5); clear hc5 hb5)
      go_roundw
      case rel => exact ⟨i + 1, by go_num, by omega, HC5, HB5⟩
      case measure => simp [intOf]; omega
    · have hie : n = i := by omega
      subst hie
      have dj : ¬ (n : Int) < (n : Int) := by omega
      clear hin HC3 HB3 HMK HBA HC2 HB2
      go_wp2_with fail
      go_loopw [8] (fun iv wr => ∃ i : Nat, iv = .int .i64 (i : Int) ∧ i ≤ n ∧ Hid (CatAt w1.heap.size bs bt bv (1 + n + i) (tS n i) wr) ∧ Hid (Below w1.heap.size w1 wr)) (fun iv _ => n - (intOf iv).toNat)
      case atStart => exact ⟨0, rfl, Nat.zero_le _, HC, HB⟩
      case round =>
        obtain ⟨i, rfl, hi2, HC2, HB2⟩ := hrel
        have i0' : (0 : Int) ≤ (i : Int) := by omega
        by_cases hin : i < n
        · have di : (i : Int) < (n : Int) := by omega
          have hw1 : IntKind.i64.wrap (48 + (i : Int)) = 48 + (i : Int) := Go.IntWalk.i64_in _ (by omega)
          have hw2 : IntKind.u8.wrap (48 + (i : Int)) = 48 + (i : Int) := Go.IntWalk.u8_in _ (by omega)
          have hcv := fun W => dB_run W i (by omega)
          obtain ⟨N, hN⟩ : ∃ N, (usersL (tS n i) nT).length = N := ⟨_, rfl⟩
          have hsub : (n : Int) - (i : Int) = (N : Int) := by have := tS_users n i hn8 hi2; omega
          have hus : ∀ s ∈ (tS n i).vn, ((tS n i).vu s).length ≤ 1000000 := fun s hs => by rw [tS_us n i hn8 hi2 s hs]; decide
          have hua := users_at HC2.out (by omega) hus nT (by decide)
          rw [hN] at hua
          have HUA := Lib.hid hua
          have HUS := Lib.hid hus
          clear hua hus
          have HDR := Lib.hid (fun (W : World) (hb : Below wr.heap.size wr W) => by
            have h := drop_at (HC2.out.later hb) (Nat.le_trans HB2.out.size hb.size) (by omega) HUS.out nT (by decide)
            rw [(tS_drop n i hn8 hin).1, (tS_drop n i hn8 hin).2] at h
            exact h)
          have HMK := Lib.hid (fun (W : World) (hc : CatAt w1.heap.size bs bt bv (1 + n + i) (tS n i) W) (hz : w1.heap.size ≤ W.heap.size) => by
            have h := make_at hc hz (by omega) (dN i) (by show (2 : Nat) ≤ maxLen; decide) none 0 0 [] rfl (by decide) (Row.nil _ _ _ _) (fun _ => ⟨rfl, rfl⟩)
            rw [(tS_make n i hn8 hin).1, (tS_make n i hn8 hin).2, ← dN_cat] at h
            exact h)
          have HDV := Lib.hid (fun (W : World) (hc : CatAt w1.heap.size bs bt bv (1 + n + i + 1) (tS n i) W) (hz : w1.heap.size ≤ W.heap.size) => by
            have h := dropView_at hc hz (dN i) (by show (2 : Nat) ≤ maxLen; decide)
            rw [isIn_yes (tS_in n i hn8 hin), if_pos rfl] at h
            have h2 : Calls Try.prog 12 #[.pointer (some ⟨bs, 0, none⟩), .string (⟨#[118]⟩ ++ dB i)] W (ActPost w1.heap.size bs bt bv (1 + n + i + 1) (tS n (i + 1)) 0 W) := by rw [dN_cat]; exact h
            exact h2)
          go_wp2_with (first
            | (go_at_call 20; refine HUA.out.mono ?_; rintro ee wa ⟨ua, uc, rfl, -, hba⟩; have HBa := Lib.hid hba; clear hba)
            | (go_at_call 8; refine (HDR.out wa HBa.out).mono ?_; rintro ee wb ⟨rfl, hcb, hbb⟩; have HCb := Lib.hid hcb; have HBb := Lib.hid ((HB2.out.trans (HBa.out.mono HB2.out.size)).trans hbb); clear hcb hbb)
            | (go_at_call 16; refine (HMK.out _ (HCb.out.later ((Below.refl _ _).alloc (Nat.le_refl _) _)) (Nat.le_trans HBb.out.size (by simp))).mono ?_; rintro ee wc ⟨rfl, hcc, hbc⟩; have HCc := Lib.hid hcc; have HBc := Lib.hid ((HBb.out.alloc HBb.out.size _).trans hbc); clear hcc hbc)
            | (go_at_call 12; refine (HDV.out _ (HCc.out.later ((Below.refl _ _).alloc (Nat.le_refl _) _)) (Nat.le_trans HBc.out.size (by simp))).mono ?_; rintro ee wd ⟨rfl, hcd, hbd⟩; have HCd := Lib.hid hcd; have HBd := Lib.hid ((HBc.out.alloc HBc.out.size _).trans hbd); clear hcd hbd))
          exact ⟨⟨i + 1, by go_num, by omega, HCd, HBd⟩, by simp [intOf] <;> omega⟩
        · have hie : n = i := by omega
          subst hie
          have HS0 : Hid ((tS n n).tn = [nT] ∧ ∀ s ∈ (tS n n).vn, ((tS n n).vu s).length ≤ 1000000) := Lib.hid ⟨tS_tn n n, fun s hs => by rw [tS_us n n hn8 (Nat.le_refl _) s hs]; decide⟩
          clear hin
          go_wp2_with fail
          go_loopw [9] (fun iv wr => ∃ (i : Nat) (S : CatS), iv = .int .i64 (i : Int) ∧ i ≤ 9 ∧ i ≤ n1 ∧ Hid (CatAt w1.heap.size bs bt bv (1 + n + n + i) S wr) ∧ Hid (S.tn = [nT] ∧ ∀ s ∈ S.vn, (S.vu s).length ≤ 1000000) ∧ Hid (Below w1.heap.size w1 wr)) (fun iv _ => 9 - (intOf iv).toNat)
          case atStart => exact ⟨0, _, rfl, by omega, by omega, HC2, HS0, HB2⟩
          case round =>
            obtain ⟨i, S, rfl, hi9, hin1, HC3, HS3, HB3⟩ := hrel
            have i0'' : (0 : Int) ≤ (i : Int) := by omega
            have hua := users_at HC3.out (by omega) HS3.out.2 nT (by decide)
            by_cases hlt : i < n1 ∧ i < 9
            · have d1 : (i : Int) < (n1 : Int) := by omega
              have d2 : (i : Int) < 9 := by omega
              have hju : i < ns.length := by rw [HNS.out]; exact hlt.1
              have hx := List.getElem?_eq_getElem hju
              have hxz := hsz _ (List.getElem_mem hju)
              generalize ns[i] = x at hx hxz
              have hxc : ¬ 9223372036854775807 < 1 + x.size := by omega
              obtain ⟨b, off, cap, e, hc⟩ := (HR.out.later HB1.out).pos (by omega)
              simp only [Value.slice.injEq] at e
              obtain ⟨rfl, -, rfl⟩ := e
              have hcj := hc i (by omega)
              rw [List.getElem?_map, hx] at hcj
              simp only [Option.map_some] at hcj
              have HCJ := Lib.hid (fun (W : World) (hb : Below wr.heap.size wr W) => And.intro (cell_later (HB3.out.trans (hb.mono HB3.out.size)) hcj) (Nat.lt_of_lt_of_le (World.block_lt_of_cell? _ _ hcj) (Nat.le_trans HB3.out.size hb.size)))
              have HVW := Lib.hid (fun (W : World) (g : Nat) (hb : Below wr.heap.size wr W) (hrw : Row W (.slice (some ⟨g, 0, none⟩) 1 1) 1 1 [.string x]) => view_at (HC3.out.later hb) (Nat.le_trans HB3.out.size hb.size) (by omega) ((⟨#[119]⟩ : ByteArray) ++ x) (some ⟨g, 0, none⟩) 1 1 [x] (by
                by_cases hxt : x = nT
                · refine .inl ?_
                  subst hxt
                  show (2 : Nat) ≤ maxLen; decide
                · exact .inr ⟨x, List.mem_singleton.2 rfl, by rw [HS3.out.1]; simp; exact hxt⟩) rfl (by decide) hrw (fun e => by cases e))
              clear hc hx hcj hua hlt hju
              go_upto_region 20 with fail
              apply ag.region_calm_tail 11 (ag.Spec.val _ :: ag.Spec.val _ :: ag.Spec.val _ :: ag.Spec.val _ :: ag.Spec.val _ :: ag.Spec.val _ :: ag.Spec.val _ :: ag.Spec.val _ :: ag.Spec.val _ :: ag.Spec.val _ :: ag.Spec.sat (VS x) ag.grew :: [])
              case hm => kernel_rfl
              case hB => kernel_rfl
              case hlen => rfl
              case hc => exact ⟨⟨(fun v W W' h hb => VS.lasts h hb), rfl⟩, trivial⟩
              simp only [List.take_succ_cons, List.take_zero, List.drop_succ_cons, List.drop_zero]
              apply ag.walk_val
              · rfl
              · intro W1 hS hE
                clear hS hE
                unfold ag.does
                go_simp
                first | done | exact ⟨rfl, rfl⟩ | rfl | (exact ⟨by go_num, rfl⟩) | (simp; done) | trace_state
              simp only [Act.put, List.setIfInBounds_toArray, List.set_cons_zero, List.set_cons_succ]
              apply ag.walk_val
              · rfl
              · intro W1 hS hE
                clear hS hE
                unfold ag.does
                go_simp
                first | done | exact ⟨rfl, rfl⟩ | rfl | (exact ⟨by go_num, rfl⟩) | (simp; done) | trace_state
              simp only [Act.put, List.setIfInBounds_toArray, List.set_cons_zero, List.set_cons_succ]
              apply ag.walk_val
              · rfl
              · intro W1 hS hE
                clear hS hE
                unfold ag.does
                go_simp
                first | done | exact ⟨rfl, rfl⟩ | rfl | (exact ⟨by go_num, rfl⟩) | (simp; done) | trace_state
              simp only [Act.put, List.setIfInBounds_toArray, List.set_cons_zero, List.set_cons_succ]
              apply ag.walk_val
              · rfl
              · intro W1 hS hE
                clear hS hE
                unfold ag.does
                go_simp
                first | done | exact ⟨rfl, rfl⟩ | rfl | (exact ⟨by go_num, rfl⟩) | (simp; done) | trace_state
              simp only [Act.put, List.setIfInBounds_toArray, List.set_cons_zero, List.set_cons_succ]
              apply ag.walk_val
              · rfl
              · intro W1 hS hE
                obtain ⟨z1, z2⟩ := HCJ.out W1 hS
                clear hS hE
                unfold ag.does
                go_simp
                first | done | exact ⟨rfl, rfl⟩ | rfl | (exact ⟨by go_num, rfl⟩) | (simp; done) | trace_state
              simp only [Act.put, List.setIfInBounds_toArray, List.set_cons_zero, List.set_cons_succ]
              apply ag.walk_val
              · rfl
              · intro W1 hS hE
                clear hS hE
                unfold ag.does
                go_simp
                first | done | exact ⟨rfl, rfl⟩ | rfl | (exact ⟨by go_num, rfl⟩) | (simp; done) | trace_state
              simp only [Act.put, List.setIfInBounds_toArray, List.set_cons_zero, List.set_cons_succ]
              apply ag.walk_val
              · rfl
              · intro W1 hS hE
                clear hS hE
                unfold ag.does
                go_simp
                first | done | exact ⟨rfl, rfl⟩ | rfl | (exact ⟨by go_num, rfl⟩) | (simp; done) | trace_state
              simp only [Act.put, List.setIfInBounds_toArray, List.set_cons_zero, List.set_cons_succ]
              apply ag.walk_val
              · rfl
              · intro W1 hS hE
                clear hS hE
                unfold ag.does
                go_simp
                first | done | exact ⟨rfl, rfl⟩ | rfl | (exact ⟨by go_num, rfl⟩) | (simp; done) | trace_state
              simp only [Act.put, List.setIfInBounds_toArray, List.set_cons_zero, List.set_cons_succ]
              apply ag.walk_val
              · rfl
              · intro W1 hS hE
                clear hS hE
                unfold ag.does
                go_simp
                first | done | exact ⟨rfl, rfl⟩ | rfl | (exact ⟨by go_num, rfl⟩) | (simp; done) | trace_state
              simp only [Act.put, List.setIfInBounds_toArray, List.set_cons_zero, List.set_cons_succ]
              apply ag.walk_val
              · rfl
              · intro W1 hS hE
                obtain ⟨z1, z2⟩ := HCJ.out W1 hS
                clear hS hE
                unfold ag.does
                go_simp
                first | done | exact ⟨rfl, rfl⟩ | rfl | (exact ⟨by go_num, rfl⟩) | (simp; done) | trace_state
              simp only [Act.put, List.setIfInBounds_toArray, List.set_cons_zero, List.set_cons_succ]
              refine ag.walk_such (by rfl) (fun W1 hS hE => ?_) (fun y10 => ?_)
              · clear hE
                unfold ag.does
                go_simp
                first | done | (exact ⟨⟨_, rfl, Row.of_flds (Flds.new W1 TK [.string x]) rfl 1⟩, (Below.refl _ _).alloc (Nat.le_refl _) _⟩)
              simp only [Act.put, List.setIfInBounds_toArray, List.set_cons_zero, List.set_cons_succ]
              refine ag.walk_nil (fun w9 hS hF hP => ?_)
              clear hP
              have f10 := hF.of 10
              simp only [ag.lookE, Nat.reduceEqDiff, if_false, if_true] at f10
              obtain ⟨gN, rfl, hrw⟩ := f10
              have HVZ := Lib.hid (HVW.out w9 gN hS hrw)
              have HB9 := Lib.hid (HB3.out.trans (hS.mono HB3.out.size))
              have HSN : Hid ((S.view (⟨#[119]⟩ ++ x) [x]).tn = [nT] ∧ ∀ s ∈ (S.view (⟨#[119]⟩ ++ x) [x]).vn, ((S.view (⟨#[119]⟩ ++ x) [x]).vu s).length ≤ 1000000) := Lib.hid ⟨by rw [view_tn]; exact HS3.out.1, view_us HS3.out.2 _ _ (by show 1 ≤ 1000000; decide)⟩
              clear hF hS hrw
              go_wp2_with (go_at_call 10; refine HVZ.out.mono ?_; rintro ee w10 ⟨rfl, hc10, hb10⟩; have HC10 := Lib.hid hc10; have HB10 := Lib.hid (HB9.out.trans hb10); clear hc10 hb10)
              go_roundw
              case rel => exact ⟨i + 1, _, by go_num, by omega, by omega, HC10, HSN, HB10⟩
              case measure => simp [intOf]; omega
            · have hgu : (decide ((i : Int) < (n1 : Int)) && decide ((i : Int) < 9)) = false := by simp; omega
              obtain ⟨N, hN⟩ : ∃ N, (usersL S nT).length = N := ⟨_, rfl⟩
              rw [hN] at hua
              have HUA := Lib.hid hua
              have HDR := Lib.hid (fun (W : World) (hb : Below wr.heap.size wr W) => by
                have h := drop_at (HC3.out.later hb) (Nat.le_trans HB3.out.size hb.size) (by omega) HS3.out.2 nT (by decide)
                have hde : dropErr S nT = if 0 < N then 15 else 0 := by
                  unfold dropErr
                  rw [HS3.out.1, hN]
                  rfl
                rw [hde] at h
                exact h)
              have HBW := Lib.hid (HB1.out.trans (HB3.out.mono HB1.out.size))
              clear hua
              rcases Nat.lt_or_ge i n1 with hl1 | hl1
              · have d1 : (i : Int) < (n1 : Int) := by omega
                have d2 : ¬ (i : Int) < 9 := by omega
                rcases Nat.eq_zero_or_pos N with hN0 | hN0
                · subst hN0
                  go_wp2_with (first
                    | (go_at_call 20; refine HUA.out.mono ?_; rintro ee wa ⟨ua, uc, rfl, -, hba⟩; have HBa := Lib.hid hba; clear hba)
                    | (go_at_call 8; refine (HDR.out wa HBa.out).mono ?_; rintro ee wb ⟨rfl, -, hbb⟩; have HBb := Lib.hid ((HBW.out.trans (HBa.out.mono HBW.out.size)).trans (hbb.mono HB1.out.size)); clear hbb))

                  go_ret
                  refine ⟨?_, HBb.out⟩
                  first
                    | rfl
                    | (show Ending.returned (Value.bool (!((N : Int) == 0))) = _; rw [hneq]; rfl)
                · have hne : ¬ (N : Int) = 0 := by omega
                  have hneq : ((N : Int) == 0) = false := by simp; omega
                  have hn0' : (0 : Int) < (N : Int) := by omega
                  have hn0'' : (0 : Int) ≤ (N : Int) := by omega
                  rw [if_pos hN0] at HDR
                  go_wp2_with (first
                    | (go_at_call 20; refine HUA.out.mono ?_; rintro ee wa ⟨ua, uc, rfl, -, hba⟩; have HBa := Lib.hid hba; clear hba)
                    | (go_at_call 8; refine (HDR.out wa HBa.out).mono ?_; rintro ee wb ⟨rfl, -, hbb⟩; have HBb := Lib.hid ((HBW.out.trans (HBa.out.mono HBW.out.size)).trans (hbb.mono HB1.out.size)); clear hbb))

                  go_ret
                  refine ⟨?_, HBb.out⟩
                  first
                    | rfl
                    | (show Ending.returned (Value.bool (!((N : Int) == 0))) = _; rw [hneq]; rfl)
              · have d1 : ¬ (i : Int) < (n1 : Int) := by omega
                rcases Nat.eq_zero_or_pos N with hN0 | hN0
                · subst hN0
                  go_wp2_with (first
                    | (go_at_call 20; refine HUA.out.mono ?_; rintro ee wa ⟨ua, uc, rfl, -, hba⟩; have HBa := Lib.hid hba; clear hba)
                    | (go_at_call 8; refine (HDR.out wa HBa.out).mono ?_; rintro ee wb ⟨rfl, -, hbb⟩; have HBb := Lib.hid ((HBW.out.trans (HBa.out.mono HBW.out.size)).trans (hbb.mono HB1.out.size)); clear hbb))

                  go_ret
                  refine ⟨?_, HBb.out⟩
                  first
                    | rfl
                    | (show Ending.returned (Value.bool (!((N : Int) == 0))) = _; rw [hneq]; rfl)
                · have hne : ¬ (N : Int) = 0 := by omega
                  have hneq : ((N : Int) == 0) = false := by simp; omega
                  have hn0' : (0 : Int) < (N : Int) := by omega
                  have hn0'' : (0 : Int) ≤ (N : Int) := by omega
                  rw [if_pos hN0] at HDR
                  go_wp2_with (first
                    | (go_at_call 20; refine HUA.out.mono ?_; rintro ee wa ⟨ua, uc, rfl, -, hba⟩; have HBa := Lib.hid hba; clear hba)
                    | (go_at_call 8; refine (HDR.out wa HBa.out).mono ?_; rintro ee wb ⟨rfl, -, hbb⟩; have HBb := Lib.hid ((HBW.out.trans (HBa.out.mono HBW.out.size)).trans (hbb.mono HB1.out.size)); clear hbb))

                  go_ret
                  refine ⟨?_, HBb.out⟩
                  first
                    | rfl
                    | (show Ending.returned (Value.bool (!((N : Int) == 0))) = _; rw [hneq]; rfl)
end Go.Proofs.Ythhcjmikkiiahaa.cat
