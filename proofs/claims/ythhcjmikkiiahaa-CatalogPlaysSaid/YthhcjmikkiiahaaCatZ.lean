/- The law CatalogPlays, walked. -/
import Derived.Test.YthhcjmikkiiahaaCatAc
import Derived.Test.YthhcjmikkiiahaaAgTT
namespace Go.Proofs.Ythhcjmikkiiahaa.cat
set_option linter.unusedVariables false
open Go.RowKit Go.WideShapes Go.MapKept
abbrev TC2 : TypeId := 53
attribute [local go_sem high] run_min_keep
set_option maxRecDepth 100000 in
set_option maxHeartbeats 20000000 in
theorem plays_walk (a : Option Addr) (n c : Nat) (l : List Ac) (hn : l.length = n) (hn1 : n ≤ 9223372036854775807) (w : World) (hr : Row w (.slice a n c) 4 n (aCells l)) (hok : ∀ x ∈ l, AcOk w x) :
    Calls Try.prog 3 #[.slice a n c] w fun en w' => en = .returned (.bool true) ∧ Below w.heap.size w w' := by
  have HR := Lib.hid hr
  have HN := Lib.hid hn
  have HK := Lib.hid hok
  have z1 : (0 : Int) ≤ (n : Int) := by omega
  have z2 : (n : Int) ≤ 9223372036854775807 := by omega
  have HSP := Lib.hid (speaks_any w)
  clear hr hn hok
  go_enter Try.func3, Try.ntmps3
  go_upto_region 3 with (go_at_call 6; refine HSP.out.mono ?_; rintro ee w1 ⟨rfl, hb1⟩; have HB1 := Lib.hid hb1; clear hb1)
  go_upto_region 4 with (go_at_call 7; refine (new_at w1).mono ?_; rintro ee w2 ⟨bs, bt, bv, rfl, hc2, hb2⟩; have HC2 := Lib.hid hc2; have HB2 := Lib.hid hb2; clear hc2 hb2)
  go_upto_region 5 with fail
  obtain ⟨W3, hW3⟩ : ∃ W, w2.alloc (.cells #[.slice none 0 0, .slice none 0 0] TRc) = W := ⟨_, rfl⟩
  obtain ⟨g4, hg4⟩ : ∃ g, w2.heap.size = g := ⟨_, rfl⟩
  have hb3 : Below w2.heap.size w2 W3 := by rw [← hW3]; exact (Below.refl _ _).alloc (Nat.le_refl _) _
  have hf4 : Flds W3 g4 TRc [.slice none 0 0, .slice none 0 0] := by rw [← hW3, ← hg4]; exact Flds.new w2 _ _
  have HP0 : Hid (Plays w1.heap.size bs bt bv g4 0 w1 W3) := Lib.hid ⟨CatS.no, .slice none 0 0, .slice none 0 0, Nat.le_refl _, (by rw [← hg4]; exact HB2.out.size), HC2.out.later hb3, RAt.none W3, Ok.no, hf4, ⟨_, _, _, _, _, _, rfl, rfl⟩, HB2.out.trans (hb3.mono HB2.out.size)⟩
  have HG : Hid (w1.heap.size ≤ g4) := Lib.hid (by rw [← hg4]; exact HB2.out.size)
  rw [hW3, hg4]
  clear hW3 hg4 hb3 hf4
  go_wp2_with fail
  go_loopw [5] (fun iv wr => ∃ i : Nat, iv = .int .i64 (i : Int) ∧ i ≤ n ∧ i ≤ 60 ∧ Hid (Plays w1.heap.size bs bt bv g4 i w1 wr)) (fun iv _ => 60 - (intOf iv).toNat)
  case atStart => exact ⟨0, rfl, Nat.zero_le _, Nat.zero_le _, HP0⟩
  case round =>
    obtain ⟨i, rfl, hi, hi60, HP⟩ := hrel
    have i0 : (0 : Int) ≤ (i : Int) := by omega
    by_cases hlt : i < n ∧ i < 60
    · have d1 : (i : Int) < (n : Int) := by omega
      have d2 : (i : Int) < 60 := by omega
      have hju : i < l.length := by rw [HN.out]; exact hlt.1
      have hx := List.getElem?_eq_getElem hju
      generalize l[i] = x at hx
      obtain ⟨S, va, vb, hB0, hBg, hc, hr, hok, hbox, hxs, hbel⟩ := HP.out
      have hwr := HB1.out.trans (hbel.mono HB1.out.size)
      have HX := Lib.hid (HK.out x (List.mem_of_getElem? hx))
      obtain ⟨b, off, ea, hcell⟩ := ac_at HR.out hlt.1 hx
      subst ea
      obtain ⟨e0, e1, e2, e3, el⟩ := hcell wr hwr
      obtain ⟨xw, xn, xca, xcn, xcc, xcols, xua, xun, xuc, xus⟩ := x
      dsimp only at e0 e1 e2 e3
      clear hx hcell hlt hju
      have HBEL := Lib.hid hbel
      have HC := Lib.hid hc
      have HRR := Lib.hid hr
      have HOK := Lib.hid hok
      have HBOX := Lib.hid hbox
      have HXS := Lib.hid hxs
      clear hbel hc hr hok hbox hxs hwr
      go_upto_region 9 with fail
      obtain ⟨W8, hW8⟩ : ∃ W, wr.alloc (.cells #[.int .u8 xw, .string xn, .slice xca xcn xcc, .slice xua xun xuc] TAc) = W := ⟨_, rfl⟩
      obtain ⟨g8, hg8⟩ : ∃ g, wr.heap.size = g := ⟨_, rfl⟩
      have hb8 : Below wr.heap.size wr W8 := by rw [← hW8]; exact (Below.refl _ _).alloc (Nat.le_refl _) _
      have hf8 : Flds W8 g8 TAc [.int .u8 xw, .string xn, .slice xca xcn xcc, .slice xua xun xuc] := by rw [← hW8, ← hg8]; exact Flds.new wr _ _
      have HS := Lib.hid (show St w1.heap.size bs bt bv g4 g8 i S S va vb [.int .u8 xw, .string xn, .slice xca xcn xcc, .slice xua xun xuc] w1 W8 from ⟨hB0, hBg, HC.out.later hb8, HRR.out.later hb8, HBOX.out.later hb8, HXS.out, hf8, HBEL.out.trans (hb8.mono (Nat.le_trans hB0 HBEL.out.size))⟩)
      have HXB := Lib.hid (fun (W : World) (hb : Below w1.heap.size w1 W) => HX.out.later (HB1.out.trans (hb.mono HB1.out.size)))
      rw [hW8, hg8]
      clear hW8 hg8 hb8 hf8 e0 e1 e2 e3 el HC HRR HBOX HXS HBEL HP
      obtain ⟨f0, f1, f2, f3, fl⟩ := HS.out.act4
      have xw0 : 0 ≤ xw := HX.out.1
      have xw1 : xw ≤ 255 := HX.out.2.1
      have hxn : xn.size ≤ maxLen := HX.out.2.2.1
      go_upto_region 19 with fail
      generalize hR : xw % 7 = R
      have r0 : 0 ≤ R ∧ R ≤ 6 := by omega
      clear hR
      rcases (show R = 0 ∨ R = 1 ∨ R = 2 ∨ R = 3 ∨ R = 4 ∨ R = 5 ∨ R = 6 by omega) with rfl | rfl | rfl | rfl | rfl | rfl | rfl
      · as_aux_lemma =>
          have HCL := Lib.hid (show xcols.length = xcn ∧ xcn ≤ maxLen from ⟨HX.out.2.2.2.1, HX.out.2.2.2.2.1⟩)
          have cn0 : (0 : Int) ≤ (xcn : Int) := by omega
          have cn1 : (xcn : Int) ≤ 9223372036854775807 := by have := HCL.out.2; simp only [maxLen] at this; omega
          have HCR := Lib.hid (fun (W : World) (hb : Below w1.heap.size w1 W) => show Row W (.slice xca xcn xcc) 3 xcn (cnCells xcols) from (HXB.out W hb).2.2.2.2.2.1)
          have HL0 := Lib.hid (show ag.TwoL W8.heap.size TCo TC2 3 3 0 (cnCells (xcols.take 0)) (cnCells (xcols.take 0)) (.slice none 0 0) (.slice none 0 0) W8 W8 from ⟨Below.refl _ _, Nat.le_refl _, ⟨⟨_, _, rfl, id⟩, owns_nil _ _ _ _⟩, ⟨⟨_, _, rfl, id⟩, owns_nil _ _ _ _⟩⟩)
          obtain ⟨i0, hi0, hz0, hz1, hz2⟩ := info_of infoC
          obtain ⟨i1, hj0, hq0, hq1, hq2⟩ := info_of info17
          go_wp2_with fail
          go_loopw [18, 19, 20] (fun sa sb iv wl => ∃ (j : Nat) (a1 a2 : Option Addr) (k1 k2 : Nat), sa = .slice a1 j k1 ∧ sb = .slice a2 j k2 ∧ iv = .int .i64 (j : Int) ∧ j ≤ xcn ∧ j ≤ 10 ∧ Hid (ag.TwoL W8.heap.size TCo TC2 3 3 j (cnCells (xcols.take j)) (cnCells (xcols.take j)) (.slice a1 j k1) (.slice a2 j k2) W8 wl)) (fun _ _ iv _ => 10 - (intOf iv).toNat)
          case atStart => exact ⟨0, none, none, 0, 0, rfl, rfl, rfl, Nat.zero_le _, Nat.zero_le _, HL0⟩
          case round =>
            obtain ⟨j, a1, a2, k1, k2, rfl, rfl, rfl, hj, hj10, HL⟩ := hrel
            have j0 : (0 : Int) ≤ (j : Int) := by omega
            clear f0 f1 f2 f3 fl
            have hbl := HL.out.1
            obtain ⟨f0, f1, f2, f3, fl⟩ := (HS.out.later hbl).act4
            by_cases hin : j < xcn ∧ j < 10
            · have dj : (j : Int) < (xcn : Int) := by omega
              have dk : (j : Int) < 10 := by omega
              have hjx : j < xcols.length := by rw [HCL.out.1]; exact hin.1
              have hz := List.getElem?_eq_getElem hjx
              generalize xcols[j] = z at hz
              obtain ⟨b1, off1, ea, hd⟩ := cn_at (HCR.out W8 HS.out.bel) hin.1 hz
              subst ea
              have HD := Lib.hid hd
              have HT := Lib.hid (show cnCells (xcols.take (j + 1)) = cnCells (xcols.take j) ++ [.string z.nm, .int .i64 z.k, .bool z.key] from by rw [List.take_add_one, hz, cnCells_app]; rfl)
              clear hd hz hin hjx
              obtain ⟨zn, zk, zb⟩ := z
              dsimp only at HD HT
              obtain ⟨cs, hcs⟩ : ∃ cs, cnCells (xcols.take j) = cs := ⟨_, rfl⟩
              rw [hcs] at HT HL
              clear hcs
              go_upto_region 16 with fail
              have HLD := Lib.hid HL.out.drew
              clear f0 f1 f2 f3 fl
              apply ag.region_ag  (fun W1' => ag.TwoL W8.heap.size TCo TC2 3 3 j cs cs (.slice a1 j k1) (.slice a2 j k2) W8 W1') (fun _ _ _ _ => True) (ag.Spec.val _ :: ag.Spec.val _ :: ag.Spec.val _ :: ag.Spec.val _ :: ag.Spec.val _ :: ag.Spec.val _ :: ag.Spec.sat (ag.Ch W8.heap.size TCo 3 1 [.string zn, .int .i64 zk, .bool zb]) (ag.grew) :: ag.Spec.sat (ag.Ch W8.heap.size TCo 3 (j + 1) (cs ++ [.string zn, .int .i64 zk, .bool zb])) (ag.tk2 W8.heap.size TCo 3 j) :: ag.Spec.val _ :: ag.Spec.val _ :: ag.Spec.val _ :: ag.Spec.val _ :: ag.Spec.val _ :: ag.Spec.val _ :: ag.Spec.sat (ag.Ch W8.heap.size TC2 3 1 [.string zn, .int .i64 zk, .bool zb]) (ag.grew) :: ag.Spec.sat (ag.Ch W8.heap.size TC2 3 (j + 1) (cs ++ [.string zn, .int .i64 zk, .bool zb])) (ag.tk2 W8.heap.size TC2 3 j) :: ag.Spec.cpy 7 :: ag.Spec.cpy 15 :: [])
              case hm => kernel_rfl
              case hB => kernel_rfl
              case hlen => rfl
              case hS => exact HLD.out
              case hst =>
                simp only [ag.Stab, ag.Row2, ag.Ok2, and_true]
                repeat' apply And.intro
                all_goals first
                  | exact fun h => absurd rfl h
                  | (exact fun _ _ f v W W' _ hv _ ht => ag.Ch.lasts v W W' hv ht)
                  | (exact fun _ _ f v W W' _ hv _ ht => ag.Ch.stays2 hv ht (by omega))
                  | (exact fun _ _ f v W W' _ hv _ ht => ag.Ch.apart hv ht (by decide))
                  | trivial
                  | exact fun _ h => absurd (h.symm.trans (show _ = true by kernel_rfl)) (by decide)
              case hk =>
                simp only [ag.Keeps, and_true]
                repeat' apply And.intro
                all_goals first
                  | (exact fun f W W' hS _ ht => ag.TwoL.grew hS ht)
                  | (exact fun f W W' hS _ ht => ag.TwoL.k1 hS (by decide) ht)
                  | (exact fun f W W' hS _ ht => ag.TwoL.k2 hS (by decide) ht)
                  | trivial
              apply ag.walk_val
              · rfl
              · intro W1 hS hE
                clear hS hE
                all_goals unfold ag.does
                all_goals go_simp
                all_goals first | done | exact ⟨rfl, rfl⟩ | rfl | (exact ⟨by go_num, rfl⟩) | (simp; done) | trace_state
              simp only [Act.put, List.setIfInBounds_toArray, List.set_cons_zero, List.set_cons_succ]
              apply ag.walk_val
              · rfl
              · intro W1 hS hE
                clear hS hE
                all_goals unfold ag.does
                all_goals go_simp
                all_goals first | done | exact ⟨rfl, rfl⟩ | rfl | (exact ⟨by go_num, rfl⟩) | (simp; done) | trace_state
              simp only [Act.put, List.setIfInBounds_toArray, List.set_cons_zero, List.set_cons_succ]
              apply ag.walk_val
              · rfl
              · intro W1 hS hE
                obtain ⟨f0, f1, f2, f3, fl⟩ := (HS.out.later hS.1).act4
                clear hS hE
                all_goals unfold ag.does
                all_goals go_simp
                all_goals first | done | exact ⟨rfl, rfl⟩ | rfl | (exact ⟨by go_num, rfl⟩) | (simp; done) | trace_state
              simp only [Act.put, List.setIfInBounds_toArray, List.set_cons_zero, List.set_cons_succ]
              apply ag.walk_val
              · rfl
              · intro W1 hS hE
                clear hS hE
                all_goals unfold ag.does
                all_goals go_simp
                all_goals first | done | exact ⟨rfl, rfl⟩ | rfl | (exact ⟨by go_num, rfl⟩) | (simp; done) | trace_state
              simp only [Act.put, List.setIfInBounds_toArray, List.set_cons_zero, List.set_cons_succ]
              apply ag.walk_val
              · rfl
              · intro W1 hS hE
                clear hS hE
                all_goals unfold ag.does
                all_goals go_simp
                all_goals first | done | exact ⟨rfl, rfl⟩ | rfl | (exact ⟨by go_num, rfl⟩) | (simp; done) | trace_state
              simp only [Act.put, List.setIfInBounds_toArray, List.set_cons_zero, List.set_cons_succ]
              apply ag.walk_val
              · rfl
              · intro W1 hS hE
                obtain ⟨d0, d1, d2, dl⟩ := HD.out W1 hS.1
                clear hS hE
                all_goals unfold ag.does
                all_goals go_simp
                all_goals first | done | exact ⟨rfl, rfl⟩ | rfl | (exact ⟨by go_num, rfl⟩) | (simp; done) | trace_state
              simp only [Act.put, List.setIfInBounds_toArray, List.set_cons_zero, List.set_cons_succ]
              refine ag.walk_sat (by rfl) (fun W1 hS hE => ?_) (fun y6 => ?_)
              · have hBB := hS.hB
                clear hS hE
                all_goals unfold ag.does
                all_goals go_simp
                all_goals first | done | (exact ⟨ag.Ch.new _ _ (by simp) hBB (by decide), (Below.refl _ _).alloc (Nat.le_refl _) _, ag.News.none (fun _ _ => trivial) _ _⟩)
              simp only [Act.put, List.setIfInBounds_toArray, List.set_cons_zero, List.set_cons_succ]
              refine ag.walk_sat (by rfl) (fun W1 hS hE => ?_) (fun y7 => ?_)
              · have own := hS.2.2.1
                have rx := hE.of 6 (by kernel_rfl)
                simp only [ag.lookE, if_true, Nat.reduceEqDiff, if_false] at rx
                have hBB := hS.hB
                clear hE hS
                refine ag.does_chain2 (.tmp 57) (.tmp 63) 45 (by rfl) W8.heap.size TCo i0 (.agg #[.string ⟨#[]⟩, .int .i64 0, .bool false]) 3 32 Try.underlying45 hi0 hz0 hz1 hz2 rfl (by decide) (.slice a1 j k1) j cs (by rfl) own _ 1 [.string zn, .int .i64 zk, .bool zb] (by rfl) (ag.Ch.row rx) (by simp [Value.oneCell']) (by simp only [maxLen]; omega) (by omega) hBB _ _ _
              simp only [Act.put, List.setIfInBounds_toArray, List.set_cons_zero, List.set_cons_succ]
              apply ag.walk_val
              · rfl
              · intro W1 hS hE
                clear hS hE
                all_goals unfold ag.does
                all_goals go_simp
                all_goals first | done | exact ⟨rfl, rfl⟩ | rfl | (exact ⟨by go_num, rfl⟩) | (simp; done) | trace_state
              simp only [Act.put, List.setIfInBounds_toArray, List.set_cons_zero, List.set_cons_succ]
              apply ag.walk_val
              · rfl
              · intro W1 hS hE
                clear hS hE
                all_goals unfold ag.does
                all_goals go_simp
                all_goals first | done | exact ⟨rfl, rfl⟩ | rfl | (exact ⟨by go_num, rfl⟩) | (simp; done) | trace_state
              simp only [Act.put, List.setIfInBounds_toArray, List.set_cons_zero, List.set_cons_succ]
              apply ag.walk_val
              · rfl
              · intro W1 hS hE
                obtain ⟨f0, f1, f2, f3, fl⟩ := (HS.out.later hS.1).act4
                clear hS hE
                all_goals unfold ag.does
                all_goals go_simp
                all_goals first | done | exact ⟨rfl, rfl⟩ | rfl | (exact ⟨by go_num, rfl⟩) | (simp; done) | trace_state
              simp only [Act.put, List.setIfInBounds_toArray, List.set_cons_zero, List.set_cons_succ]
              apply ag.walk_val
              · rfl
              · intro W1 hS hE
                clear hS hE
                all_goals unfold ag.does
                all_goals go_simp
                all_goals first | done | exact ⟨rfl, rfl⟩ | rfl | (exact ⟨by go_num, rfl⟩) | (simp; done) | trace_state
              simp only [Act.put, List.setIfInBounds_toArray, List.set_cons_zero, List.set_cons_succ]
              apply ag.walk_val
              · rfl
              · intro W1 hS hE
                clear hS hE
                all_goals unfold ag.does
                all_goals go_simp
                all_goals first | done | exact ⟨rfl, rfl⟩ | rfl | (exact ⟨by go_num, rfl⟩) | (simp; done) | trace_state
              simp only [Act.put, List.setIfInBounds_toArray, List.set_cons_zero, List.set_cons_succ]
              apply ag.walk_val
              · rfl
              · intro W1 hS hE
                obtain ⟨d0, d1, d2, dl⟩ := HD.out W1 hS.1
                clear hS hE
                all_goals unfold ag.does
                all_goals go_simp
                all_goals first | done | exact ⟨rfl, rfl⟩ | rfl | (exact ⟨by go_num, rfl⟩) | (simp; done) | trace_state
              simp only [Act.put, List.setIfInBounds_toArray, List.set_cons_zero, List.set_cons_succ]
              refine ag.walk_sat (by rfl) (fun W1 hS hE => ?_) (fun y14 => ?_)
              · have hBB := hS.hB
                clear hS hE
                all_goals unfold ag.does
                all_goals go_simp
                all_goals first | done | (exact ⟨ag.Ch.new _ _ (by simp) hBB (by decide), (Below.refl _ _).alloc (Nat.le_refl _) _, ag.News.none (fun _ _ => trivial) _ _⟩)
              simp only [Act.put, List.setIfInBounds_toArray, List.set_cons_zero, List.set_cons_succ]
              refine ag.walk_sat (by rfl) (fun W1 hS hE => ?_) (fun y15 => ?_)
              · have own := hS.2.2.2
                have rx := hE.of 14 (by kernel_rfl)
                simp only [ag.lookE, if_true, Nat.reduceEqDiff, if_false] at rx
                have hBB := hS.hB
                clear hE hS
                refine ag.does_chain2 (.tmp 65) (.tmp 71) 42 (by rfl) W8.heap.size TC2 i1 (.agg #[.string ⟨#[]⟩, .int .i64 0, .bool false]) 3 32 Try.underlying42 hj0 hq0 hq1 hq2 rfl (by decide) (.slice a2 j k2) j cs (by rfl) own _ 1 [.string zn, .int .i64 zk, .bool zb] (by rfl) (ag.Ch.row rx) (by simp [Value.oneCell']) (by simp only [maxLen]; omega) (by omega) hBB _ _ _
              simp only [Act.put, List.setIfInBounds_toArray, List.set_cons_zero, List.set_cons_succ]
              refine ag.walk_cpy (by kernel_rfl) (by rfl) (by rfl) (fun W1 hS hE => ?_) ?_
              · clear hS hE
                unfold ag.does
                go_simp
                first | exact ⟨rfl, rfl⟩ | rfl
              simp only [ag.lookX, Nat.reduceAdd, Nat.reduceEqDiff, if_false, if_true]
              simp only [Act.put, List.setIfInBounds_toArray, List.set_cons_zero, List.set_cons_succ]
              refine ag.walk_cpy (by kernel_rfl) (by rfl) (by rfl) (fun W1 hS hE => ?_) ?_
              · clear hS hE
                unfold ag.does
                go_simp
                first | exact ⟨rfl, rfl⟩ | rfl
              simp only [ag.lookX, Nat.reduceAdd, Nat.reduceEqDiff, if_false, if_true]
              simp only [Act.put, List.setIfInBounds_toArray, List.set_cons_zero, List.set_cons_succ]
              refine ag.walk_nil (fun w16 hS hF hP => ?_)
              clear hP
              have h7 := hF.of 7
              have h15 := hF.of 15
              simp only [ag.lookE, Nat.reduceAdd, Nat.reduceEqDiff, if_false, if_true] at h7 h15
              have HL2 := Lib.hid (And.intro hS.1 (And.intro h7 h15))
              obtain ⟨a3, k3, e7, -⟩ := h7.1
              obtain ⟨a4, k4, e15, -⟩ := h15.1
              rw [e7, e15] at HL2
              rw [← HT.out] at HL2
              subst e7 e15
              clear hF hS h7 h15
              go_wp2_with fail
              go_roundw
              case rel => exact ⟨j + 1, a3, a4, k3, k4, rfl, rfl, by go_num, by omega, by omega, Lib.hid ⟨HL2.out.1, Nat.le_refl _, HL2.out.2.1, HL2.out.2.2⟩⟩
              case measure => simp [intOf]; omega
            · have HLN := Lib.hid (show (xcols.take j).length = j by rw [List.length_take, HCL.out.1]; omega)
              have hj6 : j ≤ 1000000 := by omega
              have HSL := Lib.hid (HS.out.later hbl)
              have HR1 := Lib.hid (ag.Ch.row HL.out.2.2.1)
              have HR2 := Lib.hid (ag.Ch.row HL.out.2.2.2)
              have HD := Lib.hid (make_ap HSL.out.cat (by omega) xn hxn a1 j k1 (xcols.take j) HLN.out hj6 HR1.out (fun e => owns_none HL.out.2.2.1.2 e))
              obtain ⟨l, hl⟩ : ∃ l, xcols.take j = l := ⟨_, rfl⟩
              rw [hl] at HD HLN HR1 HR2
              obtain ⟨E, hE⟩ : ∃ E, makeErr S xn l = E := ⟨_, rfl⟩
              rw [hE] at HD
              have HE := Lib.hid hE
              have HOK5 := Lib.hid (HOK.out.make xn l (by rw [HLN.out]; exact hj10))
              clear hl hE HL hbl
              rcases (show (¬ j < xcn) ∨ (j < xcn ∧ ¬ j < 10) by omega) with h9 | ⟨h9, h8⟩
              · have dj : ¬ (j : Int) < (xcn : Int) := by omega
                clear hin h9
                go_upto_region 18 with (go_at_call 16; refine HD.out.mono ?_; rintro ee wd ⟨rfl, hcd, hod⟩; have HSD := Lib.hid (HSL.out.acted hcd hod); have HR3 := Lib.hid (HSL.out.row_over HR2.out (cn_first _) hod); clear hcd hod f0 f1 f2 f3 fl)
                obtain ⟨f0, f1, f2, f3, fl⟩ := HSD.out.act4
                obtain ⟨b0, b1, bl, bz0, bz1⟩ := HSD.out.box2
                have HRD := Lib.hid (rmake_at HSD.out.ref xn a2 j k2 l HLN.out hj6 HR3.out)
                rw [HE.out] at HRD
                go_upto_region 43 with (go_at_call 17; refine HRD.out.mono ?_; rintro ee we ⟨x', rfl, hre, hbe⟩; obtain ⟨a5, n5, c5, a6, n6, c6, rfl⟩ := hre.form; have HS5 := Lib.hid (HSD.out.boxed hbe hre); have HSE := Lib.hid (HSD.out.later hbe); clear hre hbe f0 f1 f2 f3 fl b0 b1 bl bz0 bz1; obtain ⟨f0, f1, f2, f3, fl⟩ := HSE.out.act4; obtain ⟨b0, b1, bl, bz0, bz1⟩ := HSE.out.box2)
                obtain ⟨W5, hW5⟩ : ∃ W, (we.setCell ⟨g4, 0, none⟩ (.slice a5 n5 c5)).setCell ⟨g4, 1, none⟩ (.slice a6 n6 c6) = W := ⟨_, rfl⟩
                rw [hW5] at HS5 ⊢
                clear hW5 f0 f1 f2 f3 fl b0 b1 bl bz0 bz1
                obtain ⟨f0, f1, f2, f3, fl⟩ := HS5.out.act4
                obtain ⟨b0, b1, bl, bz0, bz1⟩ := HS5.out.box2
                have HIS := Lib.hid (HS5.out.is HOK5.out (by omega) xn hxn)
                have HPL := Lib.hid (HS5.out.plays HOK5.out)
                go_wp2_with (go_at_call 18; refine HIS.out.mono ?_; rintro ee wz ⟨rfl, hbz⟩; have HBZ := Lib.hid hbz; clear hbz)
                go_roundw
                case rel => exact ⟨i + 1, by go_num, by omega, by omega, Lib.hid (HPL.out.later HBZ.out)⟩
                case measure => simp [intOf]; omega
              · have dj : (j : Int) < (xcn : Int) := by omega
                have dk : ¬ (j : Int) < 10 := by omega
                clear hin h9 h8
                go_upto_region 18 with (go_at_call 16; refine HD.out.mono ?_; rintro ee wd ⟨rfl, hcd, hod⟩; have HSD := Lib.hid (HSL.out.acted hcd hod); have HR3 := Lib.hid (HSL.out.row_over HR2.out (cn_first _) hod); clear hcd hod f0 f1 f2 f3 fl)
                obtain ⟨f0, f1, f2, f3, fl⟩ := HSD.out.act4
                obtain ⟨b0, b1, bl, bz0, bz1⟩ := HSD.out.box2
                have HRD := Lib.hid (rmake_at HSD.out.ref xn a2 j k2 l HLN.out hj6 HR3.out)
                rw [HE.out] at HRD
                go_upto_region 43 with (go_at_call 17; refine HRD.out.mono ?_; rintro ee we ⟨x', rfl, hre, hbe⟩; obtain ⟨a5, n5, c5, a6, n6, c6, rfl⟩ := hre.form; have HS5 := Lib.hid (HSD.out.boxed hbe hre); have HSE := Lib.hid (HSD.out.later hbe); clear hre hbe f0 f1 f2 f3 fl b0 b1 bl bz0 bz1; obtain ⟨f0, f1, f2, f3, fl⟩ := HSE.out.act4; obtain ⟨b0, b1, bl, bz0, bz1⟩ := HSE.out.box2)
                obtain ⟨W5, hW5⟩ : ∃ W, (we.setCell ⟨g4, 0, none⟩ (.slice a5 n5 c5)).setCell ⟨g4, 1, none⟩ (.slice a6 n6 c6) = W := ⟨_, rfl⟩
                rw [hW5] at HS5 ⊢
                clear hW5 f0 f1 f2 f3 fl b0 b1 bl bz0 bz1
                obtain ⟨f0, f1, f2, f3, fl⟩ := HS5.out.act4
                obtain ⟨b0, b1, bl, bz0, bz1⟩ := HS5.out.box2
                have HIS := Lib.hid (HS5.out.is HOK5.out (by omega) xn hxn)
                have HPL := Lib.hid (HS5.out.plays HOK5.out)
                go_wp2_with (go_at_call 18; refine HIS.out.mono ?_; rintro ee wz ⟨rfl, hbz⟩; have HBZ := Lib.hid hbz; clear hbz)
                go_roundw
                case rel => exact ⟨i + 1, by go_num, by omega, by omega, Lib.hid (HPL.out.later HBZ.out)⟩
                case measure => simp [intOf]; omega
      · as_aux_lemma =>
          have HCL := Lib.hid (show xcols.length = xcn ∧ xcn ≤ maxLen from ⟨HX.out.2.2.2.1, HX.out.2.2.2.2.1⟩)
          have cn0 : (0 : Int) ≤ (xcn : Int) := by omega
          have cn1 : (xcn : Int) ≤ 9223372036854775807 := by have := HCL.out.2; simp only [maxLen] at this; omega
          have HCR := Lib.hid (fun (W : World) (hb : Below w1.heap.size w1 W) => show Row W (.slice xca xcn xcc) 3 xcn (cnCells xcols) from (HXB.out W hb).2.2.2.2.2.1)
          have HL0 := Lib.hid (show ag.TwoL W8.heap.size TCo TC2 3 3 0 (cnCells (xcols.take 0)) (cnCells (xcols.take 0)) (.slice none 0 0) (.slice none 0 0) W8 W8 from ⟨Below.refl _ _, Nat.le_refl _, ⟨⟨_, _, rfl, id⟩, owns_nil _ _ _ _⟩, ⟨⟨_, _, rfl, id⟩, owns_nil _ _ _ _⟩⟩)
          obtain ⟨i0, hi0, hz0, hz1, hz2⟩ := info_of infoC
          obtain ⟨i1, hj0, hq0, hq1, hq2⟩ := info_of info17
          go_wp2_with fail
          go_loopw [18, 19, 20] (fun sa sb iv wl => ∃ (j : Nat) (a1 a2 : Option Addr) (k1 k2 : Nat), sa = .slice a1 j k1 ∧ sb = .slice a2 j k2 ∧ iv = .int .i64 (j : Int) ∧ j ≤ xcn ∧ j ≤ 10 ∧ Hid (ag.TwoL W8.heap.size TCo TC2 3 3 j (cnCells (xcols.take j)) (cnCells (xcols.take j)) (.slice a1 j k1) (.slice a2 j k2) W8 wl)) (fun _ _ iv _ => 10 - (intOf iv).toNat)
          case atStart => exact ⟨0, none, none, 0, 0, rfl, rfl, rfl, Nat.zero_le _, Nat.zero_le _, HL0⟩
          case round =>
            obtain ⟨j, a1, a2, k1, k2, rfl, rfl, rfl, hj, hj10, HL⟩ := hrel
            have j0 : (0 : Int) ≤ (j : Int) := by omega
            clear f0 f1 f2 f3 fl
            have hbl := HL.out.1
            obtain ⟨f0, f1, f2, f3, fl⟩ := (HS.out.later hbl).act4
            by_cases hin : j < xcn ∧ j < 10
            · have dj : (j : Int) < (xcn : Int) := by omega
              have dk : (j : Int) < 10 := by omega
              have hjx : j < xcols.length := by rw [HCL.out.1]; exact hin.1
              have hz := List.getElem?_eq_getElem hjx
              generalize xcols[j] = z at hz
              obtain ⟨b1, off1, ea, hd⟩ := cn_at (HCR.out W8 HS.out.bel) hin.1 hz
              subst ea
              have HD := Lib.hid hd
              have HT := Lib.hid (show cnCells (xcols.take (j + 1)) = cnCells (xcols.take j) ++ [.string z.nm, .int .i64 z.k, .bool z.key] from by rw [List.take_add_one, hz, cnCells_app]; rfl)
              clear hd hz hin hjx
              obtain ⟨zn, zk, zb⟩ := z
              dsimp only at HD HT
              obtain ⟨cs, hcs⟩ : ∃ cs, cnCells (xcols.take j) = cs := ⟨_, rfl⟩
              rw [hcs] at HT HL
              clear hcs
              go_upto_region 16 with fail
              have HLD := Lib.hid HL.out.drew
              clear f0 f1 f2 f3 fl
              apply ag.region_ag  (fun W1' => ag.TwoL W8.heap.size TCo TC2 3 3 j cs cs (.slice a1 j k1) (.slice a2 j k2) W8 W1') (fun _ _ _ _ => True) (ag.Spec.val _ :: ag.Spec.val _ :: ag.Spec.val _ :: ag.Spec.val _ :: ag.Spec.val _ :: ag.Spec.val _ :: ag.Spec.sat (ag.Ch W8.heap.size TCo 3 1 [.string zn, .int .i64 zk, .bool zb]) (ag.grew) :: ag.Spec.sat (ag.Ch W8.heap.size TCo 3 (j + 1) (cs ++ [.string zn, .int .i64 zk, .bool zb])) (ag.tk2 W8.heap.size TCo 3 j) :: ag.Spec.val _ :: ag.Spec.val _ :: ag.Spec.val _ :: ag.Spec.val _ :: ag.Spec.val _ :: ag.Spec.val _ :: ag.Spec.sat (ag.Ch W8.heap.size TC2 3 1 [.string zn, .int .i64 zk, .bool zb]) (ag.grew) :: ag.Spec.sat (ag.Ch W8.heap.size TC2 3 (j + 1) (cs ++ [.string zn, .int .i64 zk, .bool zb])) (ag.tk2 W8.heap.size TC2 3 j) :: ag.Spec.cpy 7 :: ag.Spec.cpy 15 :: [])
              case hm => kernel_rfl
              case hB => kernel_rfl
              case hlen => rfl
              case hS => exact HLD.out
              case hst =>
                simp only [ag.Stab, ag.Row2, ag.Ok2, and_true]
                repeat' apply And.intro
                all_goals first
                  | exact fun h => absurd rfl h
                  | (exact fun _ _ f v W W' _ hv _ ht => ag.Ch.lasts v W W' hv ht)
                  | (exact fun _ _ f v W W' _ hv _ ht => ag.Ch.stays2 hv ht (by omega))
                  | (exact fun _ _ f v W W' _ hv _ ht => ag.Ch.apart hv ht (by decide))
                  | trivial
                  | exact fun _ h => absurd (h.symm.trans (show _ = true by kernel_rfl)) (by decide)
              case hk =>
                simp only [ag.Keeps, and_true]
                repeat' apply And.intro
                all_goals first
                  | (exact fun f W W' hS _ ht => ag.TwoL.grew hS ht)
                  | (exact fun f W W' hS _ ht => ag.TwoL.k1 hS (by decide) ht)
                  | (exact fun f W W' hS _ ht => ag.TwoL.k2 hS (by decide) ht)
                  | trivial
              apply ag.walk_val
              · rfl
              · intro W1 hS hE
                clear hS hE
                all_goals unfold ag.does
                all_goals go_simp
                all_goals first | done | exact ⟨rfl, rfl⟩ | rfl | (exact ⟨by go_num, rfl⟩) | (simp; done) | trace_state
              simp only [Act.put, List.setIfInBounds_toArray, List.set_cons_zero, List.set_cons_succ]
              apply ag.walk_val
              · rfl
              · intro W1 hS hE
                clear hS hE
                all_goals unfold ag.does
                all_goals go_simp
                all_goals first | done | exact ⟨rfl, rfl⟩ | rfl | (exact ⟨by go_num, rfl⟩) | (simp; done) | trace_state
              simp only [Act.put, List.setIfInBounds_toArray, List.set_cons_zero, List.set_cons_succ]
              apply ag.walk_val
              · rfl
              · intro W1 hS hE
                obtain ⟨f0, f1, f2, f3, fl⟩ := (HS.out.later hS.1).act4
                clear hS hE
                all_goals unfold ag.does
                all_goals go_simp
                all_goals first | done | exact ⟨rfl, rfl⟩ | rfl | (exact ⟨by go_num, rfl⟩) | (simp; done) | trace_state
              simp only [Act.put, List.setIfInBounds_toArray, List.set_cons_zero, List.set_cons_succ]
              apply ag.walk_val
              · rfl
              · intro W1 hS hE
                clear hS hE
                all_goals unfold ag.does
                all_goals go_simp
                all_goals first | done | exact ⟨rfl, rfl⟩ | rfl | (exact ⟨by go_num, rfl⟩) | (simp; done) | trace_state
              simp only [Act.put, List.setIfInBounds_toArray, List.set_cons_zero, List.set_cons_succ]
              apply ag.walk_val
              · rfl
              · intro W1 hS hE
                clear hS hE
                all_goals unfold ag.does
                all_goals go_simp
                all_goals first | done | exact ⟨rfl, rfl⟩ | rfl | (exact ⟨by go_num, rfl⟩) | (simp; done) | trace_state
              simp only [Act.put, List.setIfInBounds_toArray, List.set_cons_zero, List.set_cons_succ]
              apply ag.walk_val
              · rfl
              · intro W1 hS hE
                obtain ⟨d0, d1, d2, dl⟩ := HD.out W1 hS.1
                clear hS hE
                all_goals unfold ag.does
                all_goals go_simp
                all_goals first | done | exact ⟨rfl, rfl⟩ | rfl | (exact ⟨by go_num, rfl⟩) | (simp; done) | trace_state
              simp only [Act.put, List.setIfInBounds_toArray, List.set_cons_zero, List.set_cons_succ]
              refine ag.walk_sat (by rfl) (fun W1 hS hE => ?_) (fun y6 => ?_)
              · have hBB := hS.hB
                clear hS hE
                all_goals unfold ag.does
                all_goals go_simp
                all_goals first | done | (exact ⟨ag.Ch.new _ _ (by simp) hBB (by decide), (Below.refl _ _).alloc (Nat.le_refl _) _, ag.News.none (fun _ _ => trivial) _ _⟩)
              simp only [Act.put, List.setIfInBounds_toArray, List.set_cons_zero, List.set_cons_succ]
              refine ag.walk_sat (by rfl) (fun W1 hS hE => ?_) (fun y7 => ?_)
              · have own := hS.2.2.1
                have rx := hE.of 6 (by kernel_rfl)
                simp only [ag.lookE, if_true, Nat.reduceEqDiff, if_false] at rx
                have hBB := hS.hB
                clear hE hS
                refine ag.does_chain2 (.tmp 57) (.tmp 63) 45 (by rfl) W8.heap.size TCo i0 (.agg #[.string ⟨#[]⟩, .int .i64 0, .bool false]) 3 32 Try.underlying45 hi0 hz0 hz1 hz2 rfl (by decide) (.slice a1 j k1) j cs (by rfl) own _ 1 [.string zn, .int .i64 zk, .bool zb] (by rfl) (ag.Ch.row rx) (by simp [Value.oneCell']) (by simp only [maxLen]; omega) (by omega) hBB _ _ _
              simp only [Act.put, List.setIfInBounds_toArray, List.set_cons_zero, List.set_cons_succ]
              apply ag.walk_val
              · rfl
              · intro W1 hS hE
                clear hS hE
                all_goals unfold ag.does
                all_goals go_simp
                all_goals first | done | exact ⟨rfl, rfl⟩ | rfl | (exact ⟨by go_num, rfl⟩) | (simp; done) | trace_state
              simp only [Act.put, List.setIfInBounds_toArray, List.set_cons_zero, List.set_cons_succ]
              apply ag.walk_val
              · rfl
              · intro W1 hS hE
                clear hS hE
                all_goals unfold ag.does
                all_goals go_simp
                all_goals first | done | exact ⟨rfl, rfl⟩ | rfl | (exact ⟨by go_num, rfl⟩) | (simp; done) | trace_state
              simp only [Act.put, List.setIfInBounds_toArray, List.set_cons_zero, List.set_cons_succ]
              apply ag.walk_val
              · rfl
              · intro W1 hS hE
                obtain ⟨f0, f1, f2, f3, fl⟩ := (HS.out.later hS.1).act4
                clear hS hE
                all_goals unfold ag.does
                all_goals go_simp
                all_goals first | done | exact ⟨rfl, rfl⟩ | rfl | (exact ⟨by go_num, rfl⟩) | (simp; done) | trace_state
              simp only [Act.put, List.setIfInBounds_toArray, List.set_cons_zero, List.set_cons_succ]
              apply ag.walk_val
              · rfl
              · intro W1 hS hE
                clear hS hE
                all_goals unfold ag.does
                all_goals go_simp
                all_goals first | done | exact ⟨rfl, rfl⟩ | rfl | (exact ⟨by go_num, rfl⟩) | (simp; done) | trace_state
              simp only [Act.put, List.setIfInBounds_toArray, List.set_cons_zero, List.set_cons_succ]
              apply ag.walk_val
              · rfl
              · intro W1 hS hE
                clear hS hE
                all_goals unfold ag.does
                all_goals go_simp
                all_goals first | done | exact ⟨rfl, rfl⟩ | rfl | (exact ⟨by go_num, rfl⟩) | (simp; done) | trace_state
              simp only [Act.put, List.setIfInBounds_toArray, List.set_cons_zero, List.set_cons_succ]
              apply ag.walk_val
              · rfl
              · intro W1 hS hE
                obtain ⟨d0, d1, d2, dl⟩ := HD.out W1 hS.1
                clear hS hE
                all_goals unfold ag.does
                all_goals go_simp
                all_goals first | done | exact ⟨rfl, rfl⟩ | rfl | (exact ⟨by go_num, rfl⟩) | (simp; done) | trace_state
              simp only [Act.put, List.setIfInBounds_toArray, List.set_cons_zero, List.set_cons_succ]
              refine ag.walk_sat (by rfl) (fun W1 hS hE => ?_) (fun y14 => ?_)
              · have hBB := hS.hB
                clear hS hE
                all_goals unfold ag.does
                all_goals go_simp
                all_goals first | done | (exact ⟨ag.Ch.new _ _ (by simp) hBB (by decide), (Below.refl _ _).alloc (Nat.le_refl _) _, ag.News.none (fun _ _ => trivial) _ _⟩)
              simp only [Act.put, List.setIfInBounds_toArray, List.set_cons_zero, List.set_cons_succ]
              refine ag.walk_sat (by rfl) (fun W1 hS hE => ?_) (fun y15 => ?_)
              · have own := hS.2.2.2
                have rx := hE.of 14 (by kernel_rfl)
                simp only [ag.lookE, if_true, Nat.reduceEqDiff, if_false] at rx
                have hBB := hS.hB
                clear hE hS
                refine ag.does_chain2 (.tmp 65) (.tmp 71) 42 (by rfl) W8.heap.size TC2 i1 (.agg #[.string ⟨#[]⟩, .int .i64 0, .bool false]) 3 32 Try.underlying42 hj0 hq0 hq1 hq2 rfl (by decide) (.slice a2 j k2) j cs (by rfl) own _ 1 [.string zn, .int .i64 zk, .bool zb] (by rfl) (ag.Ch.row rx) (by simp [Value.oneCell']) (by simp only [maxLen]; omega) (by omega) hBB _ _ _
              simp only [Act.put, List.setIfInBounds_toArray, List.set_cons_zero, List.set_cons_succ]
              refine ag.walk_cpy (by kernel_rfl) (by rfl) (by rfl) (fun W1 hS hE => ?_) ?_
              · clear hS hE
                unfold ag.does
                go_simp
                first | exact ⟨rfl, rfl⟩ | rfl
              simp only [ag.lookX, Nat.reduceAdd, Nat.reduceEqDiff, if_false, if_true]
              simp only [Act.put, List.setIfInBounds_toArray, List.set_cons_zero, List.set_cons_succ]
              refine ag.walk_cpy (by kernel_rfl) (by rfl) (by rfl) (fun W1 hS hE => ?_) ?_
              · clear hS hE
                unfold ag.does
                go_simp
                first | exact ⟨rfl, rfl⟩ | rfl
              simp only [ag.lookX, Nat.reduceAdd, Nat.reduceEqDiff, if_false, if_true]
              simp only [Act.put, List.setIfInBounds_toArray, List.set_cons_zero, List.set_cons_succ]
              refine ag.walk_nil (fun w16 hS hF hP => ?_)
              clear hP
              have h7 := hF.of 7
              have h15 := hF.of 15
              simp only [ag.lookE, Nat.reduceAdd, Nat.reduceEqDiff, if_false, if_true] at h7 h15
              have HL2 := Lib.hid (And.intro hS.1 (And.intro h7 h15))
              obtain ⟨a3, k3, e7, -⟩ := h7.1
              obtain ⟨a4, k4, e15, -⟩ := h15.1
              rw [e7, e15] at HL2
              rw [← HT.out] at HL2
              subst e7 e15
              clear hF hS h7 h15
              go_wp2_with fail
              go_roundw
              case rel => exact ⟨j + 1, a3, a4, k3, k4, rfl, rfl, by go_num, by omega, by omega, Lib.hid ⟨HL2.out.1, Nat.le_refl _, HL2.out.2.1, HL2.out.2.2⟩⟩
              case measure => simp [intOf]; omega
            · have HLN := Lib.hid (show (xcols.take j).length = j by rw [List.length_take, HCL.out.1]; omega)
              have hj6 : j ≤ 1000000 := by omega
              have HSL := Lib.hid (HS.out.later hbl)
              have HR1 := Lib.hid (ag.Ch.row HL.out.2.2.1)
              have HR2 := Lib.hid (ag.Ch.row HL.out.2.2.2)
              have HD := Lib.hid (make_ap HSL.out.cat (by omega) xn hxn a1 j k1 (xcols.take j) HLN.out hj6 HR1.out (fun e => owns_none HL.out.2.2.1.2 e))
              obtain ⟨l, hl⟩ : ∃ l, xcols.take j = l := ⟨_, rfl⟩
              rw [hl] at HD HLN HR1 HR2
              obtain ⟨E, hE⟩ : ∃ E, makeErr S xn l = E := ⟨_, rfl⟩
              rw [hE] at HD
              have HE := Lib.hid hE
              have HOK5 := Lib.hid (HOK.out.make xn l (by rw [HLN.out]; exact hj10))
              clear hl hE HL hbl
              rcases (show (¬ j < xcn) ∨ (j < xcn ∧ ¬ j < 10) by omega) with h9 | ⟨h9, h8⟩
              · have dj : ¬ (j : Int) < (xcn : Int) := by omega
                clear hin h9
                go_upto_region 18 with (go_at_call 16; refine HD.out.mono ?_; rintro ee wd ⟨rfl, hcd, hod⟩; have HSD := Lib.hid (HSL.out.acted hcd hod); have HR3 := Lib.hid (HSL.out.row_over HR2.out (cn_first _) hod); clear hcd hod f0 f1 f2 f3 fl)
                obtain ⟨f0, f1, f2, f3, fl⟩ := HSD.out.act4
                obtain ⟨b0, b1, bl, bz0, bz1⟩ := HSD.out.box2
                have HRD := Lib.hid (rmake_at HSD.out.ref xn a2 j k2 l HLN.out hj6 HR3.out)
                rw [HE.out] at HRD
                go_upto_region 43 with (go_at_call 17; refine HRD.out.mono ?_; rintro ee we ⟨x', rfl, hre, hbe⟩; obtain ⟨a5, n5, c5, a6, n6, c6, rfl⟩ := hre.form; have HS5 := Lib.hid (HSD.out.boxed hbe hre); have HSE := Lib.hid (HSD.out.later hbe); clear hre hbe f0 f1 f2 f3 fl b0 b1 bl bz0 bz1; obtain ⟨f0, f1, f2, f3, fl⟩ := HSE.out.act4; obtain ⟨b0, b1, bl, bz0, bz1⟩ := HSE.out.box2)
                obtain ⟨W5, hW5⟩ : ∃ W, (we.setCell ⟨g4, 0, none⟩ (.slice a5 n5 c5)).setCell ⟨g4, 1, none⟩ (.slice a6 n6 c6) = W := ⟨_, rfl⟩
                rw [hW5] at HS5 ⊢
                clear hW5 f0 f1 f2 f3 fl b0 b1 bl bz0 bz1
                obtain ⟨f0, f1, f2, f3, fl⟩ := HS5.out.act4
                obtain ⟨b0, b1, bl, bz0, bz1⟩ := HS5.out.box2
                have HIS := Lib.hid (HS5.out.is HOK5.out (by omega) xn hxn)
                have HPL := Lib.hid (HS5.out.plays HOK5.out)
                go_wp2_with (go_at_call 18; refine HIS.out.mono ?_; rintro ee wz ⟨rfl, hbz⟩; have HBZ := Lib.hid hbz; clear hbz)
                go_roundw
                case rel => exact ⟨i + 1, by go_num, by omega, by omega, Lib.hid (HPL.out.later HBZ.out)⟩
                case measure => simp [intOf]; omega
              · have dj : (j : Int) < (xcn : Int) := by omega
                have dk : ¬ (j : Int) < 10 := by omega
                clear hin h9 h8
                go_upto_region 18 with (go_at_call 16; refine HD.out.mono ?_; rintro ee wd ⟨rfl, hcd, hod⟩; have HSD := Lib.hid (HSL.out.acted hcd hod); have HR3 := Lib.hid (HSL.out.row_over HR2.out (cn_first _) hod); clear hcd hod f0 f1 f2 f3 fl)
                obtain ⟨f0, f1, f2, f3, fl⟩ := HSD.out.act4
                obtain ⟨b0, b1, bl, bz0, bz1⟩ := HSD.out.box2
                have HRD := Lib.hid (rmake_at HSD.out.ref xn a2 j k2 l HLN.out hj6 HR3.out)
                rw [HE.out] at HRD
                go_upto_region 43 with (go_at_call 17; refine HRD.out.mono ?_; rintro ee we ⟨x', rfl, hre, hbe⟩; obtain ⟨a5, n5, c5, a6, n6, c6, rfl⟩ := hre.form; have HS5 := Lib.hid (HSD.out.boxed hbe hre); have HSE := Lib.hid (HSD.out.later hbe); clear hre hbe f0 f1 f2 f3 fl b0 b1 bl bz0 bz1; obtain ⟨f0, f1, f2, f3, fl⟩ := HSE.out.act4; obtain ⟨b0, b1, bl, bz0, bz1⟩ := HSE.out.box2)
                obtain ⟨W5, hW5⟩ : ∃ W, (we.setCell ⟨g4, 0, none⟩ (.slice a5 n5 c5)).setCell ⟨g4, 1, none⟩ (.slice a6 n6 c6) = W := ⟨_, rfl⟩
                rw [hW5] at HS5 ⊢
                clear hW5 f0 f1 f2 f3 fl b0 b1 bl bz0 bz1
                obtain ⟨f0, f1, f2, f3, fl⟩ := HS5.out.act4
                obtain ⟨b0, b1, bl, bz0, bz1⟩ := HS5.out.box2
                have HIS := Lib.hid (HS5.out.is HOK5.out (by omega) xn hxn)
                have HPL := Lib.hid (HS5.out.plays HOK5.out)
                go_wp2_with (go_at_call 18; refine HIS.out.mono ?_; rintro ee wz ⟨rfl, hbz⟩; have HBZ := Lib.hid hbz; clear hbz)
                go_roundw
                case rel => exact ⟨i + 1, by go_num, by omega, by omega, Lib.hid (HPL.out.later HBZ.out)⟩
                case measure => simp [intOf]; omega
      · as_aux_lemma =>
          have HD := Lib.hid (drop_ap HS.out.cat (by omega) HOK.out.us xn hxn)
          obtain ⟨E, hE⟩ : ∃ E, dropErr S xn = E := ⟨_, rfl⟩
          rw [hE] at HD
          have HOK5 := Lib.hid (HOK.out.drop xn)
          go_upto_region 21 with (go_at_call 8; refine HD.out.mono ?_; rintro ee wd ⟨rfl, hcd, hod⟩; have HSD := Lib.hid (HS.out.acted hcd hod); clear hcd hod f0 f1 f2 f3 fl)
          obtain ⟨f0, f1, f2, f3, fl⟩ := HSD.out.act4
          obtain ⟨b0, b1, bl, bz0, bz1⟩ := HSD.out.box2
          have HRD := Lib.hid (rdrop_at HSD.out.ref HOK.out.nt xn)
          rw [hE] at HRD
          clear hE
          go_upto_region 43 with (go_at_call 9; refine HRD.out.mono ?_; rintro ee we ⟨x', rfl, hre, hbe⟩; obtain ⟨a5, n5, c5, a6, n6, c6, rfl⟩ := hre.form; have HS5 := Lib.hid (HSD.out.boxed hbe hre); have HSE := Lib.hid (HSD.out.later hbe); clear hre hbe f0 f1 f2 f3 fl b0 b1 bl bz0 bz1; obtain ⟨f0, f1, f2, f3, fl⟩ := HSE.out.act4; obtain ⟨b0, b1, bl, bz0, bz1⟩ := HSE.out.box2)
          obtain ⟨W5, hW5⟩ : ∃ W, (we.setCell ⟨g4, 0, none⟩ (.slice a5 n5 c5)).setCell ⟨g4, 1, none⟩ (.slice a6 n6 c6) = W := ⟨_, rfl⟩
          rw [hW5] at HS5 ⊢
          clear hW5 f0 f1 f2 f3 fl b0 b1 bl bz0 bz1
          obtain ⟨f0, f1, f2, f3, fl⟩ := HS5.out.act4
          obtain ⟨b0, b1, bl, bz0, bz1⟩ := HS5.out.box2
          have HIS := Lib.hid (HS5.out.is HOK5.out (by omega) xn hxn)
          have HPL := Lib.hid (HS5.out.plays HOK5.out)
          go_wp2_with (go_at_call 18; refine HIS.out.mono ?_; rintro ee wz ⟨rfl, hbz⟩; have HBZ := Lib.hid hbz; clear hbz)
          go_roundw
          case rel => exact ⟨i + 1, by go_num, by omega, by omega, Lib.hid (HPL.out.later HBZ.out)⟩
          case measure => simp [intOf]; omega
      · as_aux_lemma =>
          have HU := Lib.hid (show xus.length = xun ∧ xun ≤ maxLen ∧ xun ≤ xuc ∧ (xua = none → xun = 0 ∧ xuc = 0) from ⟨HX.out.2.2.2.2.2.2.1, HX.out.2.2.2.2.2.2.2.1, HX.out.2.2.2.2.2.2.2.2.1, HX.out.2.2.2.2.2.2.2.2.2.1⟩)
          have un0 : (0 : Int) ≤ (xun : Int) := by omega
          have un2 : (xun : Int) ≤ 9223372036854775807 := by have := HU.out.2.1; simp only [maxLen] at this; omega
          have uc1 : (xun : Int) ≤ (xuc : Int) := by have := HU.out.2.2.1; omega
          have m0 : (0 : Int) ≤ min (xun : Int) 4 := by omega
          have m1 : min (xun : Int) 4 ≤ (xuc : Int) := by omega
          go_upto_region 25 with fail
          obtain ⟨M, hM⟩ : ∃ M : Nat, (min (xun : Int) 4).toNat = M := ⟨_, rfl⟩
          rw [hM]
          have HM := Lib.hid (show M ≤ xun ∧ M ≤ 4 by omega)
          clear m0 m1 hM uc1
          obtain ⟨us, hus⟩ : ∃ us, xus.take M = us := ⟨_, rfl⟩
          have HUL := Lib.hid (show us.length = M by rw [← hus, List.length_take, HU.out.1]; have := HM.out.1; omega)
          have HUR := Lib.hid (fun (W : World) (hb : Below w1.heap.size w1 W) => show Row W (.slice xua M xuc) 1 M (us.map Value.string) from by
            have h := sub_take (HXB.out W hb).2.2.2.2.2.2.2.2.2.2 M HM.out.1 xuc
            rw [Nat.mul_one] at h
            rw [← hus, List.map_take]; exact h)
          have HUN := Lib.hid (fun (e : xua = none) => show M = 0 ∧ xuc = 0 from ⟨by have := HU.out.2.2.2 e; have := HM.out.1; omega, (HU.out.2.2.2 e).2⟩)
          have HM4 := HM.out.2
          have hM1 : M ≤ 1000000 := by omega
          have HD := Lib.hid (view_ap HS.out.cat (by omega) xn xua M xuc us (.inl hxn) HUL.out hM1 (HUR.out W8 HS.out.bel) HUN.out)
          obtain ⟨E, hE⟩ : ∃ E, viewErr S xn us = E := ⟨_, rfl⟩
          rw [hE] at HD
          have HOK5 := Lib.hid (HOK.out.view xn us (by rw [HUL.out]; exact HM4))
          clear hus
          go_upto_region 26 with (go_at_call 10; refine HD.out.mono ?_; rintro ee wd ⟨rfl, hcd, hod⟩; have HSD := Lib.hid (HS.out.acted hcd hod); clear hcd hod f0 f1 f2 f3 fl)
          obtain ⟨f0, f1, f2, f3, fl⟩ := HSD.out.act4
          obtain ⟨b0, b1, bl, bz0, bz1⟩ := HSD.out.box2
          have HRD := Lib.hid (radd_at HSD.out.ref xn xua M xuc us HUL.out hM1 (HUR.out wd HSD.out.bel))
          rw [hE] at HRD
          clear hE
          go_upto_region 43 with (go_at_call 11; refine HRD.out.mono ?_; rintro ee we ⟨x', rfl, hre, hbe⟩; obtain ⟨a5, n5, c5, a6, n6, c6, rfl⟩ := hre.form; have HS5 := Lib.hid (HSD.out.boxed hbe hre); have HSE := Lib.hid (HSD.out.later hbe); clear hre hbe f0 f1 f2 f3 fl b0 b1 bl bz0 bz1; obtain ⟨f0, f1, f2, f3, fl⟩ := HSE.out.act4; obtain ⟨b0, b1, bl, bz0, bz1⟩ := HSE.out.box2)
          obtain ⟨W5, hW5⟩ : ∃ W, (we.setCell ⟨g4, 0, none⟩ (.slice a5 n5 c5)).setCell ⟨g4, 1, none⟩ (.slice a6 n6 c6) = W := ⟨_, rfl⟩
          rw [hW5] at HS5 ⊢
          clear hW5 f0 f1 f2 f3 fl b0 b1 bl bz0 bz1
          obtain ⟨f0, f1, f2, f3, fl⟩ := HS5.out.act4
          obtain ⟨b0, b1, bl, bz0, bz1⟩ := HS5.out.box2
          have HIS := Lib.hid (HS5.out.is HOK5.out (by omega) xn hxn)
          have HPL := Lib.hid (HS5.out.plays HOK5.out)
          go_wp2_with (go_at_call 18; refine HIS.out.mono ?_; rintro ee wz ⟨rfl, hbz⟩; have HBZ := Lib.hid hbz; clear hbz)
          go_roundw
          case rel => exact ⟨i + 1, by go_num, by omega, by omega, Lib.hid (HPL.out.later HBZ.out)⟩
          case measure => simp [intOf]; omega
      · as_aux_lemma =>
          have HU := Lib.hid (show xus.length = xun ∧ xun ≤ maxLen ∧ xun ≤ xuc ∧ (xua = none → xun = 0 ∧ xuc = 0) from ⟨HX.out.2.2.2.2.2.2.1, HX.out.2.2.2.2.2.2.2.1, HX.out.2.2.2.2.2.2.2.2.1, HX.out.2.2.2.2.2.2.2.2.2.1⟩)
          have un0 : (0 : Int) ≤ (xun : Int) := by omega
          have un2 : (xun : Int) ≤ 9223372036854775807 := by have := HU.out.2.1; simp only [maxLen] at this; omega
          have uc1 : (xun : Int) ≤ (xuc : Int) := by have := HU.out.2.2.1; omega
          have m0 : (0 : Int) ≤ min (xun : Int) 4 := by omega
          have m1 : min (xun : Int) 4 ≤ (xuc : Int) := by omega
          go_upto_region 25 with fail
          obtain ⟨M, hM⟩ : ∃ M : Nat, (min (xun : Int) 4).toNat = M := ⟨_, rfl⟩
          rw [hM]
          have HM := Lib.hid (show M ≤ xun ∧ M ≤ 4 by omega)
          clear m0 m1 hM uc1
          obtain ⟨us, hus⟩ : ∃ us, xus.take M = us := ⟨_, rfl⟩
          have HUL := Lib.hid (show us.length = M by rw [← hus, List.length_take, HU.out.1]; have := HM.out.1; omega)
          have HUR := Lib.hid (fun (W : World) (hb : Below w1.heap.size w1 W) => show Row W (.slice xua M xuc) 1 M (us.map Value.string) from by
            have h := sub_take (HXB.out W hb).2.2.2.2.2.2.2.2.2.2 M HM.out.1 xuc
            rw [Nat.mul_one] at h
            rw [← hus, List.map_take]; exact h)
          have HUN := Lib.hid (fun (e : xua = none) => show M = 0 ∧ xuc = 0 from ⟨by have := HU.out.2.2.2 e; have := HM.out.1; omega, (HU.out.2.2.2 e).2⟩)
          have HM4 := HM.out.2
          have hM1 : M ≤ 1000000 := by omega
          have HD := Lib.hid (view_ap HS.out.cat (by omega) xn xua M xuc us (.inl hxn) HUL.out hM1 (HUR.out W8 HS.out.bel) HUN.out)
          obtain ⟨E, hE⟩ : ∃ E, viewErr S xn us = E := ⟨_, rfl⟩
          rw [hE] at HD
          have HOK5 := Lib.hid (HOK.out.view xn us (by rw [HUL.out]; exact HM4))
          clear hus
          go_upto_region 26 with (go_at_call 10; refine HD.out.mono ?_; rintro ee wd ⟨rfl, hcd, hod⟩; have HSD := Lib.hid (HS.out.acted hcd hod); clear hcd hod f0 f1 f2 f3 fl)
          obtain ⟨f0, f1, f2, f3, fl⟩ := HSD.out.act4
          obtain ⟨b0, b1, bl, bz0, bz1⟩ := HSD.out.box2
          have HRD := Lib.hid (radd_at HSD.out.ref xn xua M xuc us HUL.out hM1 (HUR.out wd HSD.out.bel))
          rw [hE] at HRD
          clear hE
          go_upto_region 43 with (go_at_call 11; refine HRD.out.mono ?_; rintro ee we ⟨x', rfl, hre, hbe⟩; obtain ⟨a5, n5, c5, a6, n6, c6, rfl⟩ := hre.form; have HS5 := Lib.hid (HSD.out.boxed hbe hre); have HSE := Lib.hid (HSD.out.later hbe); clear hre hbe f0 f1 f2 f3 fl b0 b1 bl bz0 bz1; obtain ⟨f0, f1, f2, f3, fl⟩ := HSE.out.act4; obtain ⟨b0, b1, bl, bz0, bz1⟩ := HSE.out.box2)
          obtain ⟨W5, hW5⟩ : ∃ W, (we.setCell ⟨g4, 0, none⟩ (.slice a5 n5 c5)).setCell ⟨g4, 1, none⟩ (.slice a6 n6 c6) = W := ⟨_, rfl⟩
          rw [hW5] at HS5 ⊢
          clear hW5 f0 f1 f2 f3 fl b0 b1 bl bz0 bz1
          obtain ⟨f0, f1, f2, f3, fl⟩ := HS5.out.act4
          obtain ⟨b0, b1, bl, bz0, bz1⟩ := HS5.out.box2
          have HIS := Lib.hid (HS5.out.is HOK5.out (by omega) xn hxn)
          have HPL := Lib.hid (HS5.out.plays HOK5.out)
          go_wp2_with (go_at_call 18; refine HIS.out.mono ?_; rintro ee wz ⟨rfl, hbz⟩; have HBZ := Lib.hid hbz; clear hbz)
          go_roundw
          case rel => exact ⟨i + 1, by go_num, by omega, by omega, Lib.hid (HPL.out.later HBZ.out)⟩
          case measure => simp [intOf]; omega
      · as_aux_lemma =>
          have HD := Lib.hid (dropView_ap HS.out.cat xn hxn)
          obtain ⟨E, hE⟩ : ∃ E : Int, (if isIn xn S.vn then 0 else 6) = E := ⟨_, rfl⟩
          rw [hE] at HD
          have HOK5 := Lib.hid (HOK.out.dropView xn)
          go_upto_region 29 with (go_at_call 12; refine HD.out.mono ?_; rintro ee wd ⟨rfl, hcd, hod⟩; have HSD := Lib.hid (HS.out.acted hcd hod); clear hcd hod f0 f1 f2 f3 fl)
          obtain ⟨f0, f1, f2, f3, fl⟩ := HSD.out.act4
          obtain ⟨b0, b1, bl, bz0, bz1⟩ := HSD.out.box2
          have HRD := Lib.hid (rdropV_at HSD.out.ref HOK.out.nv xn)
          rw [hE] at HRD
          clear hE
          go_upto_region 43 with (go_at_call 13; refine HRD.out.mono ?_; rintro ee we ⟨x', rfl, hre, hbe⟩; obtain ⟨a5, n5, c5, a6, n6, c6, rfl⟩ := hre.form; have HS5 := Lib.hid (HSD.out.boxed hbe hre); have HSE := Lib.hid (HSD.out.later hbe); clear hre hbe f0 f1 f2 f3 fl b0 b1 bl bz0 bz1; obtain ⟨f0, f1, f2, f3, fl⟩ := HSE.out.act4; obtain ⟨b0, b1, bl, bz0, bz1⟩ := HSE.out.box2)
          obtain ⟨W5, hW5⟩ : ∃ W, (we.setCell ⟨g4, 0, none⟩ (.slice a5 n5 c5)).setCell ⟨g4, 1, none⟩ (.slice a6 n6 c6) = W := ⟨_, rfl⟩
          rw [hW5] at HS5 ⊢
          clear hW5 f0 f1 f2 f3 fl b0 b1 bl bz0 bz1
          obtain ⟨f0, f1, f2, f3, fl⟩ := HS5.out.act4
          obtain ⟨b0, b1, bl, bz0, bz1⟩ := HS5.out.box2
          have HIS := Lib.hid (HS5.out.is HOK5.out (by omega) xn hxn)
          have HPL := Lib.hid (HS5.out.plays HOK5.out)
          go_wp2_with (go_at_call 18; refine HIS.out.mono ?_; rintro ee wz ⟨rfl, hbz⟩; have HBZ := Lib.hid hbz; clear hbz)
          go_roundw
          case rel => exact ⟨i + 1, by go_num, by omega, by omega, Lib.hid (HPL.out.later HBZ.out)⟩
          case measure => simp [intOf]; omega
      · as_aux_lemma =>
          obtain ⟨at9, nt, ct, av9, nv, cv, ex, ey⟩ := HS.out.xs
          subst ex ey
          obtain ⟨ts, hts, htat⟩ := HS.out.tabs
          have HTN := Lib.hid hts
          have HT := Lib.hid htat
          obtain ⟨b0, b1, bl, bz0, bz1⟩ := HS.out.box2
          have t0 : (0 : Int) ≤ (nt : Int) := by omega
          have t1 : (nt : Int) ≤ 1000 := by have := htat.2.1; omega
          have HOK5 := Lib.hid HOK.out
          clear hts htat
          by_cases hnt : 0 < nt
          · have d0 : (0 : Int) < (nt : Int) := by omega
            obtain ⟨q, hq⟩ : ∃ q : Nat, ((xn.size : Int) % (nt : Int)) = (q : Int) := ⟨xn.size % nt, by simp⟩
            have hqn : q < nt := by have := Int.emod_lt_of_pos (xn.size : Int) d0; omega
            have hju : q < ts.length := by rw [HT.out.1]; exact hqn
            have hx := List.getElem?_eq_getElem hju
            generalize ts[q] = x at hx
            obtain ⟨b7, off7, ea, hc⟩ := te_at HT.out.2.2.1 hqn hx
            subst ea
            have hxm := List.mem_of_getElem? hx
            obtain ⟨q1, q2, q3, q4⟩ := HT.out.2.2.2 x hxm
            have hxin : x.nm ∈ S.tn := by rw [← HTN.out]; exact List.mem_map.2 ⟨x, hxm, rfl⟩
            obtain ⟨L, hL⟩ : ∃ L, (S.tb x.nm).1 = L := ⟨_, rfl⟩
            have HTX := Lib.hid (fun (W : World) (hb : Below W8.heap.size W8 W) => show Calls Try.prog 14 #[.pointer (some ⟨bs, 0, none⟩), .string x.nm] W (TPost x.nm L x.n x.k W) from by
              have htb := table_at (HS.out.cat.later hb) HOK.out.cs x.nm
              unfold TablePost at htb
              rw [show S.cols x.nm = (S.tb x.nm).1 from by unfold CatS.cols; rw [isIn_yes hxin, if_pos rfl], isIn_yes hxin, ← q1, ← q2, hL] at htb
              refine htb.mono (fun e w' h => ?_)
              obtain ⟨a9, c9, nm9, key9, h1, h2, h3, h4⟩ := h
              obtain ⟨rfl, rfl⟩ := h3 hxin
              exact ⟨a9, c9, h1, h2, h4⟩)
            rw [hL] at q1 q4
            have HL := Lib.hid q1.symm
            have HRX := Lib.hid q4
            have HC := Lib.hid hc
            have hq3 := q3
            have HQ := Lib.hid hq
            clear hc hx hxm q1 q2 q3 q4 hxin hL hju
            obtain ⟨yn, ya, yl, yc, yk⟩ := x
            dsimp only at HTX HC HRX HL hq3
            have l0 : (0 : Int) ≤ (yl : Int) := by omega
            have l1 : (yl : Int) ≤ 1000000 := by omega
            have qi0 : (0 : Int) ≤ (q : Int) := by omega
            have qi1 : (q : Int) < (nt : Int) := by omega
            have dnz : (nt : Int) ≠ 0 := by omega
            go_upto_region 32 with fail
            clear f0 f1 f2 f3 fl b0 b1 bl bz0 bz1
            have hn0 : nt ≠ 0 := by omega
            have hqt : (xn.size : Int).tmod (nt : Int) = (q : Int) := by rw [Int.tmod_eq_emod_of_nonneg (by omega)]; exact HQ.out
            apply ag.region_calm_tail 12 (ag.Spec.val _ :: ag.Spec.val _ :: ag.Spec.val _ :: ag.Spec.val _ :: ag.Spec.val _ :: ag.Spec.val _ :: ag.Spec.val _ :: ag.Spec.val _ :: ag.Spec.val (.int .i64 (q : Int)) :: ag.Spec.val _ :: ag.Spec.val _ :: ag.Spec.sat (PV W8.heap.size TRt [.string ⟨#[]⟩, .slice none 0 0, .int .i64 0]) ag.grew :: [])
            case hm => kernel_rfl
            case hB => kernel_rfl
            case hlen => rfl
            case hc => exact ⟨⟨(fun v W W' h hb => PV.lasts h hb), rfl⟩, trivial⟩
            simp only [List.take_succ_cons, List.take_zero, List.drop_succ_cons, List.drop_zero]
            apply ag.walk_val
            · rfl
            · intro W1 hS hE
              clear hS hE
              unfold ag.does
              go_simp
              first | done | exact ⟨rfl, rfl⟩ | rfl | (exact ⟨by go_num, rfl⟩) | (simp; done) | trace_state
            simp only [Act.put, List.setIfInBounds_toArray, List.set_cons_zero, List.set_cons_succ]
            apply ag.walk_val
            · rfl
            · intro W1 hS hE
              obtain ⟨b0, b1, bl, bz0, bz1⟩ := (HS.out.later hS).box2
              clear hS hE
              unfold ag.does
              go_simp
              first | done | exact ⟨rfl, rfl⟩ | rfl | (exact ⟨by go_num, rfl⟩) | (simp; done) | trace_state
            simp only [Act.put, List.setIfInBounds_toArray, List.set_cons_zero, List.set_cons_succ]
            apply ag.walk_val
            · rfl
            · intro W1 hS hE
              clear hS hE
              unfold ag.does
              go_simp
              first | done | exact ⟨rfl, rfl⟩ | rfl | (exact ⟨by go_num, rfl⟩) | (simp; done) | trace_state
            simp only [Act.put, List.setIfInBounds_toArray, List.set_cons_zero, List.set_cons_succ]
            apply ag.walk_val
            · rfl
            · intro W1 hS hE
              obtain ⟨f0, f1, f2, f3, fl⟩ := (HS.out.later hS).act4
              clear hS hE
              unfold ag.does
              go_simp
              first | done | exact ⟨rfl, rfl⟩ | rfl | (exact ⟨by go_num, rfl⟩) | (simp; done) | trace_state
            simp only [Act.put, List.setIfInBounds_toArray, List.set_cons_zero, List.set_cons_succ]
            apply ag.walk_val
            · rfl
            · intro W1 hS hE
              clear hS hE
              unfold ag.does
              go_simp
              first | done | exact ⟨rfl, rfl⟩ | rfl | (exact ⟨by go_num, rfl⟩) | (simp; done) | trace_state
            simp only [Act.put, List.setIfInBounds_toArray, List.set_cons_zero, List.set_cons_succ]
            apply ag.walk_val
            · rfl
            · intro W1 hS hE
              clear hS hE
              unfold ag.does
              go_simp
              first | done | exact ⟨rfl, rfl⟩ | rfl | (exact ⟨by go_num, rfl⟩) | (simp; done) | trace_state
            simp only [Act.put, List.setIfInBounds_toArray, List.set_cons_zero, List.set_cons_succ]
            apply ag.walk_val
            · rfl
            · intro W1 hS hE
              obtain ⟨b0, b1, bl, bz0, bz1⟩ := (HS.out.later hS).box2
              clear hS hE
              unfold ag.does
              go_simp
              first | done | exact ⟨rfl, rfl⟩ | rfl | (exact ⟨by go_num, rfl⟩) | (simp; done) | trace_state
            simp only [Act.put, List.setIfInBounds_toArray, List.set_cons_zero, List.set_cons_succ]
            apply ag.walk_val
            · rfl
            · intro W1 hS hE
              clear hS hE
              unfold ag.does
              go_simp
              first | done | exact ⟨rfl, rfl⟩ | rfl | (exact ⟨by go_num, rfl⟩) | (simp; done) | trace_state
            simp only [Act.put, List.setIfInBounds_toArray, List.set_cons_zero, List.set_cons_succ]
            apply ag.walk_val
            · rfl
            · intro W1 hS hE
              clear hS hE
              unfold ag.does
              go_simp
              first | done | exact ⟨rfl, rfl⟩ | rfl | (exact ⟨by go_num, rfl⟩) | (simp; done) | ((rw [if_neg hn0, hqt]; exact ⟨rfl, rfl⟩)) | trace_state
            simp only [Act.put, List.setIfInBounds_toArray, List.set_cons_zero, List.set_cons_succ]
            apply ag.walk_val
            · rfl
            · intro W1 hS hE
              clear hS hE
              unfold ag.does
              go_simp
              first | done | exact ⟨rfl, rfl⟩ | rfl | (exact ⟨by go_num, rfl⟩) | (simp; done) | trace_state
            simp only [Act.put, List.setIfInBounds_toArray, List.set_cons_zero, List.set_cons_succ]
            apply ag.walk_val
            · rfl
            · intro W1 hS hE
              obtain ⟨c0, c1, c2, cl⟩ := HC.out W1 hS
              clear hS hE
              unfold ag.does
              go_simp
              first | done | exact ⟨rfl, rfl⟩ | rfl | (exact ⟨by go_num, rfl⟩) | (simp; done) | trace_state
            simp only [Act.put, List.setIfInBounds_toArray, List.set_cons_zero, List.set_cons_succ]
            refine ag.walk_such (by rfl) (fun W1 hS hE => ?_) (fun y11 => ?_)
            · have hX := hS.size
              clear hE
              unfold ag.does
              go_simp
              first | done | (exact ⟨PV.new W1 _ hX, (Below.refl _ _).alloc (Nat.le_refl _) _⟩)
            simp only [Act.put, List.setIfInBounds_toArray, List.set_cons_zero, List.set_cons_succ]
            refine ag.walk_nil (fun w9 hS hF hP => ?_)
            clear hP
            have f11 := hF.of 11
            simp only [ag.lookE, Nat.reduceEqDiff, if_false, if_true] at f11
            obtain ⟨g10, rfl, hg10, hf10⟩ := f11
            have z0 := hf10.cell 0
            have z1 := hf10.cell 1
            have z2 := hf10.cell 2
            have zl := hf10.lt
            have y0 := hf10.frozen 0
            have y1 := hf10.frozen 1
            have y2 := hf10.frozen 2
            simp only [List.getElem?_cons_zero, List.getElem?_cons_succ] at z0 z1 z2
            have HF10 := Lib.hid (box3 (x := .string yn) (y := .slice ya yl yc) (z := .int .i64 yk) hf10 hg10 (Nat.le_refl _) hS)
            clear hF hS hf10 hqt hn0
            go_upto_region 33 with fail
            obtain ⟨W10, hW10⟩ : ∃ W, (((w9.setCell ⟨g10, 0, none⟩ (.string yn)).setCell ⟨g10, 1, none⟩ (.slice ya yl yc)).setCell ⟨g10, 2, none⟩ (.int .i64 yk)) = W := ⟨_, rfl⟩
            rw [hW10] at HF10 ⊢
            clear hW10 z0 z1 z2 zl y0 y1 y2
            have HB10 := Lib.hid HF10.out.2
            have HE10 := Lib.hid (fun (W : World) (hb : Below W10.heap.size W10 W) => And.intro ((HF10.out.1.later hb).cell 0) (And.intro ((HF10.out.1.later hb).cell 1) (And.intro ((HF10.out.1.later hb).cell 2) (HF10.out.1.later hb).lt)))
            simp only [List.getElem?_cons_zero, List.getElem?_cons_succ] at HE10
            obtain ⟨e0, e1, e2, el⟩ := HE10.out W10 (Below.refl _ _)
            go_upto_region 34 with (go_at_call 14; refine (HTX.out W10 HB10.out).mono ?_; rintro ee w11 ⟨ta, tc, rfl, hrt, hb11⟩; have HRT := Lib.hid hrt; have HB11 := Lib.hid hb11; clear hrt hb11)
            obtain ⟨W12, hW12⟩ : ∃ W, w11.alloc (.cells #[.string yn, .slice ta yl tc, .int .i64 yk] TTb) = W := ⟨_, rfl⟩
            obtain ⟨g12, hg12⟩ : ∃ g, w11.heap.size = g := ⟨_, rfl⟩
            have hb12 : Below w11.heap.size w11 W12 := by rw [← hW12]; exact (Below.refl _ _).alloc (Nat.le_refl _) _
            have hf12 : Flds W12 g12 TTb [.string yn, .slice ta yl tc, .int .i64 yk] := by rw [← hW12, ← hg12]; exact Flds.new w11 _ _
            have HB12 := Lib.hid (HB11.out.trans (hb12.mono HB11.out.size))
            have HRT12 := Lib.hid (HRT.out.later hb12)
            have HB12' := Lib.hid (HB10.out.trans (HB12.out.mono HB10.out.size))
            have d0' := hf12.cell 0
            have d1' := hf12.cell 1
            have d2' := hf12.cell 2
            have dl' := hf12.lt
            simp only [List.getElem?_cons_zero, List.getElem?_cons_succ] at d0' d1' d2'
            rw [hW12, hg12]
            clear hb12 hf12 hW12 hg12 e0 e1 e2 el
            obtain ⟨f0, f1, f2, f3, fl⟩ := (HS.out.later HB12'.out).act4
            go_upto_region 35 with (go_at_call 15; refine (column_any yn yk ta yl tc L HL.out hq3 xn W12 HRT12.out).mono ?_; rintro ee w13 ⟨ci, cf, rfl, hco, hb13⟩; have HCO := Lib.hid hco; have HB13 := Lib.hid (HB12.out.trans (hb13.mono HB12.out.size)); clear hco hb13 d0' d1' d2' dl' f0 f1 f2 f3 fl)
            obtain ⟨e0, e1, e2, el⟩ := HE10.out w13 HB13.out
            go_wp2_with fail
            clear e0 e1 e2 el
            go_loopw [15, 16, 17] (fun iv fv jv wq => ColLoop L xn yl W10 iv fv jv wq) (fun _ _ jv _ => (intOf jv + 1).toNat)
            case atStart => exact ⟨yl, 0, false, rfl, rfl, rfl, Nat.le_refl _, ColFrom.start HL.out, HB13.out⟩
            case round =>
              obtain ⟨p, ki, kf, rfl, rfl, rfl, hp, hcf, hbq⟩ := hrel
              have HCF := Lib.hid hcf
              have HBQ := Lib.hid hbq
              have HBS := Lib.hid (HB10.out.trans (hbq.mono HB10.out.size))
              clear hcf hbq
              rcases p with _ | p
              · obtain ⟨ek, ef⟩ := col_one HCO.out HCF.out
                subst ek ef
                have dj : ¬ (((0 : Nat) : Int) - 1) ≥ 0 := by decide
                go_upto_region 43 with fail
                have HS5 := Lib.hid ((HS.out.later HBS.out).mono (Nat.le_succ i))
                obtain ⟨f0, f1, f2, f3, fl⟩ := HS5.out.act4
                obtain ⟨b0, b1, bl, bz0, bz1⟩ := HS5.out.box2
                have HIS := Lib.hid (HS5.out.is HOK5.out (by omega) xn hxn)
                have HPL := Lib.hid (HS5.out.plays HOK5.out)
                go_wp2_with (go_at_call 18; refine HIS.out.mono ?_; rintro ee wz ⟨rfl, hbz⟩; have HBZ := Lib.hid hbz; clear hbz)
                go_roundw
                case rel => exact ⟨i + 1, by go_num, by omega, by omega, Lib.hid (HPL.out.later HBZ.out)⟩
                case measure => simp [intOf]; omega
              · rw [show (((p + 1 : Nat) : Int) - 1) = (p : Int) by omega]
                have p0 : (0 : Int) ≤ (p : Int) := by omega
                have p1 : (p : Int) < (yl : Int) := by omega
                have p2 : (p : Int) ≥ 0 := by omega
                have hpl : p < yl := by omega
                have hju : p < L.length := by rw [HL.out]; exact hpl
                have hx := List.getElem?_eq_getElem hju
                generalize L[p] = z at hx
                obtain ⟨b8, off8, ea, hc⟩ := cn_at HRX.out hpl hx
                subst ea
                obtain ⟨c0, c1, c2, cl⟩ := hc _ HBS.out
                obtain ⟨e0, e1, e2, el⟩ := HE10.out _ HBQ.out
                obtain ⟨f0, f1, f2, f3, fl⟩ := (HS.out.later HBS.out).act4
                have HX9 := Lib.hid hx
                clear hc hx hju
                by_cases hzk : z.nm = xn
                · have hb : (z.nm.toList == xn.toList) = true := by rw [hzk]; simp
                  have HNX := Lib.hid (ColFrom.yes HX9.out hzk)
                  clear hzk HX9
                  obtain ⟨zn, zk, zb⟩ := z
                  dsimp only at c0 c1 c2 hb
                  go_upto_region 39 with fail
                  go_quiet (fail)
                  have HBQ2 := Lib.hid (below_drewN' HBQ.out nq)
                  clear c0 c1 c2 cl e0 e1 e2 el f0 f1 f2 f3 fl
                  go_wp2_with fail
                  go_roundw
                  case rel => exact ⟨p, (p : Int), true, rfl, rfl, by go_num, by omega, HNX.out, HBQ2.out⟩
                  case measure => simp [intOf]
                · have hb := eq_bytes hzk
                  have HNX := Lib.hid (HCF.out.no HX9.out hzk)
                  clear hzk HX9
                  obtain ⟨zn, zk, zb⟩ := z
                  dsimp only at c0 c1 c2 hb
                  go_upto_region 39 with fail
                  go_quiet (fail)
                  have HBQ2 := Lib.hid (below_drewN' HBQ.out nq)
                  clear c0 c1 c2 cl e0 e1 e2 el f0 f1 f2 f3 fl
                  go_wp2_with fail
                  go_roundw
                  case rel => exact ⟨p, ki, kf, rfl, rfl, by go_num, by omega, HNX.out, HBQ2.out⟩
                  case measure => simp [intOf]
          · have d0 : ¬ (0 : Int) < (nt : Int) := by omega
            go_upto_region 43 with fail
            have HS5 := Lib.hid (HS.out.mono (Nat.le_succ i))
            clear f0 f1 f2 f3 fl b0 b1 bl bz0 bz1 hnt
            obtain ⟨f0, f1, f2, f3, fl⟩ := HS5.out.act4
            obtain ⟨b0, b1, bl, bz0, bz1⟩ := HS5.out.box2
            have HIS := Lib.hid (HS5.out.is HOK5.out (by omega) xn hxn)
            have HPL := Lib.hid (HS5.out.plays HOK5.out)
            go_wp2_with (go_at_call 18; refine HIS.out.mono ?_; rintro ee wz ⟨rfl, hbz⟩; have HBZ := Lib.hid hbz; clear hbz)
            go_roundw
            case rel => exact ⟨i + 1, by go_num, by omega, by omega, Lib.hid (HPL.out.later HBZ.out)⟩
            case measure => simp [intOf]; omega
    · have HBP : Hid (Below w1.heap.size w1 wr) := Lib.hid (by obtain ⟨S, x, y, -, -, -, -, -, -, -, h⟩ := HP.out; exact h)
      rcases Nat.lt_or_ge i n with hl1 | hl1
      · have d1 : (i : Int) < (n : Int) := by omega
        have d2 : ¬ (i : Int) < 60 := by omega
        clear hlt hl1
        go_wp2_with (first
          | (go_at_call 14; refine (none_table _ _).mono ?_; rintro ee wt ⟨rfl, hbt⟩; have HBt := Lib.hid (HBP.out.trans (hbt.mono HBP.out.size)); clear hbt)
          | (go_at_call 19; refine (none_names _).mono ?_; rintro ee wn ⟨rfl, hbn⟩; have HBn := Lib.hid ((HBt.out.alloc HBt.out.size _).trans (hbn.mono (HBt.out.alloc HBt.out.size _).size)); clear hbn)
          | (go_at_call 16; refine (none_make _ _ _).mono ?_; rintro ee wm ⟨rfl, hbm⟩; have HBm := Lib.hid (HBn.out.trans (hbm.mono HBn.out.size)); clear hbm)
          | (go_at_call 8; refine (none_drop _ _).mono ?_; rintro ee wd ⟨rfl, hbd⟩; have HBd := Lib.hid (HBm.out.trans (hbd.mono HBm.out.size)); clear hbd)
          | (go_at_call 10; refine (none_view _ _ _).mono ?_; rintro ee wv ⟨rfl, hbv⟩; have HBv := Lib.hid (HBd.out.trans (hbv.mono HBd.out.size)); clear hbv)
          | (go_at_call 12; refine (none_dropView _ _).mono ?_; rintro ee wx ⟨rfl, hbx⟩; have HBx := Lib.hid (HBv.out.trans (hbx.mono HBv.out.size)); clear hbx)
          | (go_at_call 20; refine (none_users _ _).mono ?_; rintro ee wu ⟨rfl, hbu⟩; have HBu := Lib.hid (HBx.out.trans (hbu.mono HBx.out.size)); clear hbu))
        go_ret
        exact ⟨rfl, HB1.out.trans (HBu.out.mono HB1.out.size)⟩
      · have d1 : ¬ (i : Int) < (n : Int) := by omega
        clear hlt hl1
        go_wp2_with (first
          | (go_at_call 14; refine (none_table _ _).mono ?_; rintro ee wt ⟨rfl, hbt⟩; have HBt := Lib.hid (HBP.out.trans (hbt.mono HBP.out.size)); clear hbt)
          | (go_at_call 19; refine (none_names _).mono ?_; rintro ee wn ⟨rfl, hbn⟩; have HBn := Lib.hid ((HBt.out.alloc HBt.out.size _).trans (hbn.mono (HBt.out.alloc HBt.out.size _).size)); clear hbn)
          | (go_at_call 16; refine (none_make _ _ _).mono ?_; rintro ee wm ⟨rfl, hbm⟩; have HBm := Lib.hid (HBn.out.trans (hbm.mono HBn.out.size)); clear hbm)
          | (go_at_call 8; refine (none_drop _ _).mono ?_; rintro ee wd ⟨rfl, hbd⟩; have HBd := Lib.hid (HBm.out.trans (hbd.mono HBm.out.size)); clear hbd)
          | (go_at_call 10; refine (none_view _ _ _).mono ?_; rintro ee wv ⟨rfl, hbv⟩; have HBv := Lib.hid (HBd.out.trans (hbv.mono HBd.out.size)); clear hbv)
          | (go_at_call 12; refine (none_dropView _ _).mono ?_; rintro ee wx ⟨rfl, hbx⟩; have HBx := Lib.hid (HBv.out.trans (hbx.mono HBv.out.size)); clear hbx)
          | (go_at_call 20; refine (none_users _ _).mono ?_; rintro ee wu ⟨rfl, hbu⟩; have HBu := Lib.hid (HBx.out.trans (hbu.mono HBx.out.size)); clear hbu))
        go_ret
        exact ⟨rfl, HB1.out.trans (HBu.out.mono HB1.out.size)⟩
end Go.Proofs.Ythhcjmikkiiahaa.cat
