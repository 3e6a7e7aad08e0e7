/- The kind of an expression over fields, by the document; walked. -/
import Derived.Test.YtjnlimahcodomaaCheckD
import Derived.Test.YtjnlimahcodomaaCheckE
namespace Go.Proofs.Ytjnlimahcodomaa.ck
set_option linter.unusedVariables false
open Go.RowKit
open val (V null doV fitB notV negV ofB ofN ofS gB vv ag3 TV)
open ex (Ex Er TE TQ ExAt of_fe plainP mayE mayE_kids Fit info_of exat_fields part_cells)
/-- a box for a value, that nobody reads -/
def B4 (W : World) (g : Nat) : Prop := ∃ x0 x1 x2, Flds W g val.TR [x0, x1, x2]
def T4 (W1 : World) (f : Nat → Value) (W W' : World) : Prop := Below W1.heap.size W W' ∧ ∀ g, B4 W g → B4 W' g
def V4 (W1 : World) (v : Value) (W : World) : Prop := ∃ g, v = .pointer (some ⟨g, 0, none⟩) ∧ W1.heap.size ≤ g ∧ B4 W g
theorem T4.of {W1 W W' : World} {f : Nat → Value} (h1 : W1.heap.size ≤ W.heap.size) (h : Below W.heap.size W W') : T4 W1 f W W' :=
  ⟨h.mono h1, fun g ⟨x0, x1, x2, hf⟩ => ⟨x0, x1, x2, hf.later h⟩⟩
theorem V4.keep {W1 W W' : World} {f : Nat → Value} {v : Value} (h : V4 W1 v W) (ht : T4 W1 f W W') : V4 W1 v W' := by
  obtain ⟨g, h1, h2, h3⟩ := h
  exact ⟨g, h1, h2, ht.2 g h3⟩
theorem T4.set {W1 W : World} {f : Nat → Value} {g : Nat} (hg : W1.heap.size ≤ g) (a b c : Value) : T4 W1 f W (((W.setCell ⟨g, 0, none⟩ a).setCell ⟨g, 1, none⟩ b).setCell ⟨g, 2, none⟩ c) := by
  refine ⟨(((Below.refl _ _).setCell hg _).setCell hg _).setCell hg _, fun g' ⟨x0, x1, x2, hf⟩ => ?_⟩
  by_cases e : g' = g
  · subst e
    exact ⟨_, _, _, ((hf.set 0 a).set 1 b).set 2 c⟩
  · exact ⟨x0, x1, x2, ((hf.other _ _ e).other _ _ e).other _ _ e⟩
theorem T4.below {W1 W W' : World} {f : Nat → Value} (h : T4 W1 f W W') : Below W1.heap.size W W' := h.1
theorem V4.out {W1 W : World} {v : Value} (h : V4 W1 v W) : ∃ g, v = .pointer (some ⟨g, 0, none⟩) ∧ W1.heap.size ≤ g ∧ B4 W g := h
theorem B4.out {W : World} {g : Nat} (h : B4 W g) : ∃ x0 x1 x2, Flds W g val.TR [x0, x1, x2] := h
theorem V4.new {W1 W : World} (h : W1.heap.size ≤ W.heap.size) : V4 W1 (.pointer (some ⟨W.heap.size, 0, none⟩)) (W.alloc (.cells #[.int .i64 0, .int .i64 0, .string (ByteArray.mk #[])] val.TR)) := ⟨_, rfl, h, _, _, _, Flds.new W val.TR _⟩
attribute [local irreducible] B4 T4 V4
theorem resT_le {op : Int} (h : op ≤ 6 ∨ 13 ≤ op) : resT op = 1 := by unfold resT; rw [if_neg (by omega), if_neg (by omega)]
theorem resT_mid {op : Int} (h1 : ¬ op ≤ 6) (h2 : ¬ 13 ≤ op) (h3 : op ≠ 12) : resT op = 2 := by unfold resT; rw [if_neg h3, if_pos (by omega)]
theorem zero_good {k : Int} (h : 0 ≤ k ∧ k ≤ 3) : val.Good ⟨k, 0, ByteArray.empty⟩ := by
  rcases (by omega : k = 0 ∨ k = 1 ∨ k = 2 ∨ k = 3) with rfl | rfl | rfl | rfl
  · exact .inl ⟨rfl, rfl, rfl⟩
  · exact .inr (.inl ⟨rfl, .inl rfl, rfl⟩)
  · exact .inr (.inr (.inl ⟨rfl, rfl, by decide, by decide⟩))
  · exact .inr (.inr (.inr ⟨rfl, rfl, by decide⟩))
set_option maxRecDepth 100000 in
set_option maxHeartbeats 8000000 in
theorem rtype_any (a : Option Addr) (n cap : Nat) (l : List Fd) (hn : l.length = n) (hn8 : n ≤ 1000) (hl : ∀ (i : Nat) f, l[i]? = some f → 1 ≤ f.k ∧ f.k ≤ 3) (g : Bool) : ∀ (d : Nat), d ≤ 1000 → ∀ (X : Nat → Prop) (e : Ex) (r : Er) (gg : Bool) (w : World), e.slim → Fit e → mayE e gg → ExAt TQ X d w e r → Row w (.slice a n cap) 3 n (fCells l) →
    Calls Try.prog 11 #[r.val, .slice a n cap, .bool g] w fun en w' => en = .returned (.tuple #[.int .i64 (typeE g l e).1, .int .i64 (typeE g l e).2]) ∧ Below w.heap.size w w'
  | 0, _, _, _, _, _, _, _, _, _, h, _ => h.elim
  | d + 1, hd, X, e, r, gg, w, hsl, hft, hm, h, hrw => by
    have IH := Lib.hid (fun (e : Ex) (r : Er) (gg : Bool) (w : World) (hs : e.slim) (hf : Fit e) (hm : mayE e gg) (h : ExAt TQ X d w e r) (hr : Row w (.slice a n cap) 3 n (fCells l)) => rtype_any a n cap l hn hn8 hl g d (by omega) X e r gg w hs hf hm h hr)
    obtain ⟨hsl1, hsl2⟩ := ex.Ex.slim_parts hsl
    obtain ⟨hmp, h8, hmk⟩ := mayE_kids.1 hm
    obtain ⟨av, cv, us, hlv, hul, hrow, hch⟩ := h.parts
    obtain ⟨f1, f2, f3, f4, f5⟩ := exat_fields h
    have hte := typeE_eq g l e
    rw [← f1, ← f2, ← f3, ← f4, ← f5] at hte
    have HPP : Hid (plainP r.k r.op r.v r.tb r.nm e.l.length) := Lib.hid (by have h := hmp; unfold ex.Ex.plain at h; rw [← f1, ← f2, ← f3, ← f4, ← f5] at h; exact h)
    have HTK := Lib.hid (fun x (hx : x ∈ e.l) => type_kind x g _ l hl (hmk x hx) (hft.kid hx))
    obtain ⟨m, hm'⟩ : ∃ m, e.l.length = m := ⟨_, rfl⟩
    rw [hm'] at hlv hul hrow hsl1 HPP
    have HN := Lib.hid hm'; have HUL := Lib.hid hul; have HR := Lib.hid hrow; have HC := Lib.hid hch; have HSL := Lib.hid hsl2
    have HMK := Lib.hid hmk; have HFK := Lib.hid (fun x (hx : x ∈ e.l) => hft.kid hx)
    have HTE := Lib.hid hte
    have HRW := Lib.hid hrw
    have HLN := Lib.hid hn
    have hm0 : (0 : Int) ≤ (m : Int) := by omega
    have hm1 : (m : Int) ≤ 1000 := by omega
    obtain ⟨rk, rop, rv, rtb, rnm, rlv⟩ := r
    dsimp only at hlv HTE HPP
    subst hlv
    unfold Er.val
    dsimp only
    obtain ⟨T, hT⟩ : ∃ T, typeE g l e = T := ⟨_, rfl⟩
    rw [hT] at HTE ⊢
    have hfe : Flds (w.alloc (.cells #[.int .i64 rk, .int .i64 rop, .int .i64 rv.k, .int .i64 rv.n, .string rv.s, .string rtb, .string rnm, .slice av m cv] TQ)) w.heap.size TQ [.int .i64 rk, .int .i64 rop, .int .i64 rv.k, .int .i64 rv.n, .string rv.s, .string rtb, .string rnm, .slice av m cv] := Flds.new w TQ _
    have hb0 : Below w.heap.size w (w.alloc (.cells #[.int .i64 rk, .int .i64 rop, .int .i64 rv.k, .int .i64 rv.n, .string rv.s, .string rtb, .string rnm, .slice av m cv] TQ)) := (Below.refl _ _).alloc (Nat.le_refl _) _
    obtain ⟨WX, hW1⟩ : ∃ WX, (w.alloc (.cells #[.int .i64 rk, .int .i64 rop, .int .i64 rv.k, .int .i64 rv.n, .string rv.s, .string rtb, .string rnm, .slice av m cv] TQ)) = WX := ⟨_, rfl⟩
    rw [hW1] at hfe hb0
    have HFE := Lib.hid hfe; have HB0 := Lib.hid hb0; have HW1 := Lib.hid hW1
    obtain ⟨e0, e1, e2, e3, e4, e5, e6, e7, l5⟩ := of_fe hfe
    clear hfe hb0 hW1 hT hm' hul hrow hch hsl hsl2 hft hmk hmp hm h8 h hrw hte f1 f2 f3 f4 f5 hn hl
    obtain ⟨i0, hi, hz0, hz1, hz2⟩ := info_of infoInt
    by_cases hag : rk = 8 ∧ g = false
    · obtain ⟨rfl, rfl⟩ := hag
      obtain rfl : T = (0, 4) := by rw [HTE.out]; rfl
      clear HTE
      go_enter Try.func11, Try.ntmps11
      go_upto_region 1 with fail
      rw [HW1.out]
      as_aux_lemma =>
      go_wp2_with fail
      refine bodyPost_ret (results_tmp2 rfl _ _ _) rfl ?_
      exact ⟨rfl, HB0.out⟩
    · have HT2 : Hid (T = if firstE (e.l.map (typeE g l)) ≠ 0 then (0, firstE (e.l.map (typeE g l))) else topT rk rop rv rtb rnm l (e.l.map (fun x => (typeE g l x).1))) := Lib.hid (by rw [HTE.out, if_neg hag])
      clear HTE
      have hcase : (rk = 8 ∧ g = true) ∨ (rk == 8) = false := by
        by_cases h8 : rk = 8
        · cases g with
          | true => exact .inl ⟨h8, rfl⟩
          | false => exact absurd ⟨h8, rfl⟩ hag
        · exact .inr (by simpa using h8)
      clear hag
      rcases hcase with ⟨rfl, rfl⟩ | b8
      · go_enter Try.func11, Try.ntmps11
        go_upto_region 1 with fail
        rw [HW1.out]
        have HWL : Hid (w.heap.size < WX.heap.size) := Lib.hid HFE.out.lt
        have HB2 := HB0
        have HF2 := HFE
        have HO2 : Hid (WX.ownsRow WX.heap.size 3 1 (.slice none 0 0) 0 []) := Lib.hid (World.ownsRow_nil _ _ _ _)
        have HZ2 : Hid (WX.heap.size ≤ WX.heap.size) := Lib.hid (Nat.le_refl _)
        clear e0 e1 e2 e3 e4 e5 e6 e7 l5
        obtain ⟨e0, e1, e2, e3, e4, e5, e6, e7, l2⟩ := of_fe HF2.out
        go_wp2_with fail
        go_loopw [8, 9] (fun sv i wr => ∃ (j : Nat) (aO : Option Addr) (cO : Nat), i = .int .i64 (j : Int) ∧ j ≤ m ∧ sv = .slice aO j cO ∧ Hid (wr.ownsRow WX.heap.size 3 1 (.slice aO j cO) j (iCells (kindsE true l (e.l.take j)))) ∧ Hid (∀ y ∈ e.l.take j, (typeE true l y).2 = 0) ∧ Hid (WX.heap.size ≤ wr.heap.size) ∧ Hid (Flds wr w.heap.size TQ [.int .i64 8, .int .i64 rop, .int .i64 rv.k, .int .i64 rv.n, .string rv.s, .string rtb, .string rnm, .slice av m cv]) ∧ Hid (Below w.heap.size w wr)) (fun _ i _ => m - (intOf i).toNat)
        case atStart => exact ⟨0, _, _, rfl, Nat.zero_le _, rfl, HO2, Lib.hid (by simp), HZ2, HF2, HB2⟩
        case round =>
          obtain ⟨j, aO, cO, rfl, hj, rfl, HO, HZ0, HZW, HF, HB⟩ := hrel
          clear e0 e1 e2 e3 e4 e5 e6 e7 l2
          have j0 : (0 : Int) ≤ (j : Int) := by omega
          obtain ⟨y0, y1, y2, y3, y4, y5, y6, y7, l3⟩ := of_fe HF.out
          by_cases hjn : j < m
          · have dj : (j : Int) < (m : Int) := by omega
            have hja : j < e.l.length := by have := HN.out; omega
            have hju : j < us.length := by have := HUL.out; omega
            have hx := List.getElem?_eq_getElem hja
            have hu := List.getElem?_eq_getElem hju
            have HXS := Lib.hid (HSL.out _ (List.getElem_mem hja))
            have HXF := Lib.hid (HFK.out _ (List.getElem_mem hja))
            have HXM := Lib.hid (HMK.out _ (List.getElem_mem hja))
            generalize e.l[j] = x at hx HXS HXF HXM
            generalize us[j] = u at hu
            have hxu := (HC.out j x u hx hu).later HB.out
            obtain ⟨ga, rfl, hga, c0, c1, c2, c3, c4, c5, c6, c7⟩ := part_cells (owns_below HR.out HB.out) hjn hu
            obtain ⟨d', rfl⟩ := hxu.pos
            obtain ⟨au, cu, us', hul', -⟩ := hxu.parts
            obtain ⟨uk, uop, uv, utb, unm, ulv⟩ := u
            dsimp only at hul' c0 c1 c2 c3 c4 c5 c6 c7
            subst hul'
            have hb4 : Below wr.heap.size wr wr := Below.refl _ _
            have hcl := IH.out x ⟨uk, uop, uv, utb, unm, .slice au x.l.length cu⟩ _ _ HXS.out HXF.out HXM.out (hxu.later hb4) (HRW.out.later (HB.out.trans (hb4.mono HB.out.size)))
            unfold Er.val at hcl
            dsimp only at hcl
            have HKT := Lib.hid (kindsE_take (g := true) (l := l) hx)
            have HZT := Lib.hid (zero_take (g := true) (l := l) hx HZ0.out)
            have HET := Lib.hid (err_at (g := true) (l := l) hx HZ0.out)
            obtain ⟨P, hP⟩ : ∃ P, typeE true l x = P := ⟨_, rfl⟩
            obtain ⟨KX, EX⟩ := P
            rw [hP] at hcl HKT HZT HET
            dsimp only at hcl HKT HZT HET
            have HCL := Lib.hid hcl
            have HB4 := Lib.hid hb4
            have h63 : j + 1 ≤ maxLen := by unfold maxLen; omega
            have h64 : (j + 1) * 8 ≤ 140737488355328 := by omega
            clear hx hu hxu hja hju hcl hb4 hP
            by_cases hE : EX = 0
            · subst hE
              go_wp2_with (first
                | (go_at_call 11; refine HCL.out.mono ?_; rintro en w5 ⟨rfl, hb5⟩; have HB5 := Lib.hid (HB4.out.trans (hb5.mono HB4.out.size)); have HB6 := Lib.hid (HB5.out.trans (((Below.refl _ _).alloc (Nat.le_refl _) (.cells #[.int .i64 KX] 3)).mono HB5.out.size)); have HO6 := Lib.hid (owns_below HO.out HB6.out); have HF6 := Lib.hid (HF.out.later HB6.out); have HC6 := Lib.hid (Flds.new w5 3 [.int .i64 KX]); have HS6 : Hid (WX.heap.size ≤ (w5.alloc (.cells #[.int .i64 KX] 3)).heap.size) := Lib.hid (by have h1 := HZW.out; have h2 := HB6.out.size; omega); clear hb5)
                | (at_builtin; refine wpList_append_row _ rfl (.tmp 44) (.tmp 46) 72 (by rfl) WX.heap.size 3 i0 (.int .i64 0) 1 8 Try.underlying72 hi hz0 hz1 hz2 rfl (by decide) (.slice aO j cO) j (iCells (kindsE true l (e.l.take j))) (by rfl) HO6.out (.slice (some ⟨w5.heap.size, 0, none⟩) 1 1) 1 [.int .i64 KX] (by rfl) (Row.of_flds HC6.out rfl 1) (by intro u hu; simp only [List.mem_singleton] at hu; subst hu; rfl) h63 h64 HS6.out ?_; intro a9 c9 w9 hap; have HAP := Lib.hid hap; clear hap))
              go_roundw
              case rel =>
                have hlt := fun b (hb : (Value.slice aO j cO).ownBlock = some b) => (HO6.out.lt b hb).1
                have hw1 := HWL.out
                exact ⟨j + 1, a9, c9, by go_num, by omega, rfl, Lib.hid (by rw [HKT.out]; exact HAP.out.own), Lib.hid (by first | exact HZT.out rfl | exact HZT.out trivial), Lib.hid (Nat.le_trans HS6.out HAP.out.grown.size), Lib.hid (HF6.out.grown HAP.out.grown (fun e => by have := hlt _ e.symm; omega)), Lib.hid ((HB.out.trans (HB6.out.mono HB.out.size)).grown HAP.out.grown (Nat.le_trans HB.out.size HB6.out.size) (fun b e => by have := hlt b e; omega))⟩
              case measure => simp [intOf]; omega
            · have bE : (EX != 0) = true := by simpa using hE
              have HTR : Hid (T = (0, EX)) := Lib.hid (by rw [HT2.out, HET.out hE, if_pos hE])
              clear hE
              go_wp2_with (go_at_call 11; refine HCL.out.mono ?_; rintro en w5 ⟨rfl, hb5⟩; have HB5 := Lib.hid (HB4.out.trans (hb5.mono HB4.out.size)); clear hb5)
              refine bodyPost_ret (results_tmp2 rfl _ _ _) rfl ?_
              exact ⟨by rw [HTR.out]; rfl, HB.out.trans (HB5.out.mono HB.out.size)⟩
          · have dj : ¬ (j : Int) < (m : Int) := by omega
            obtain rfl : j = m := by omega
            have hz := HZ0.out
            rw [List.take_of_length_le (by have := HN.out; omega)] at hz
            have HTT : Hid (T = topT 8 rop rv rtb rnm l (kindsE true l e.l)) := Lib.hid (by
              have h0 : firstE (e.l.map (typeE true l)) = 0 := firstE_zero.2 (fun y hy => by obtain ⟨z, hz', rfl⟩ := List.mem_map.1 hy; exact hz z hz')
              rw [HT2.out, h0, if_neg (fun h => h rfl)]; rfl)
            have hown := HO.out
            rw [List.take_of_length_le (by have := HN.out; omega)] at hown
            have HKR := Lib.hid (Row.of_owns hown)
            have HK0 : Hid (∀ k ∈ kindsE true l e.l, 0 ≤ k ∧ k ≤ 3) := Lib.hid (fun k hk => by
              unfold kindsE at hk
              obtain ⟨x, hx, rfl⟩ := List.mem_map.1 hk
              exact HTK.out x hx)
            have HKL : Hid ((kindsE true l e.l).length = j) := Lib.hid (by unfold kindsE; rw [List.length_map]; exact HN.out)
            clear hown HO hz HT2
            generalize kindsE true l e.l = ks at HTT HKR HK0 HKL
            have hpp : (rop = 1 ∧ j = 0) ∨ j = 1 := by have h := HPP.out; unfold plainP at h; omega
            by_cases h1 : rop = 1
            · subst h1
              have HTR : Hid (T = (2, 0)) := Lib.hid (by rw [HTT.out]; unfold topT; simp)
              clear HTT hpp
              as_aux_lemma =>
              go_wp2_with fail
              refine bodyPost_ret (results_tmp2 rfl _ _ _) rfl ?_
              exact ⟨by rw [HTR.out]; rfl, HB.out⟩
            · obtain rfl : j = 1 := by omega
              have b1 : (rop == 1) = false := by simpa using h1
              obtain ⟨k0, rfl⟩ : ∃ k0, ks = [k0] := List.length_eq_one_iff.1 HKL.out
              have hk0 := HK0.out k0 (by simp)
              obtain ⟨bk, ok, rfl, hck⟩ := int_at HKR.out (k := 0) (by decide) rfl
              obtain ⟨q0, lq⟩ := hck wr (Below.refl _ _)
              simp only [Nat.add_zero] at q0
              clear hck hpp
              by_cases h2 : rop = 2
              · subst h2
                clear h1
                rcases (by omega : k0 = 0 ∨ k0 = 1 ∨ k0 = 2 ∨ k0 = 3) with rfl | rfl | rfl | rfl
                · have HTR : Hid (T = (2, 0)) := Lib.hid (by rw [HTT.out]; rfl)
                  clear HTT
                  as_aux_lemma =>
                  go_wp2_with fail
                  refine bodyPost_ret (results_tmp2 rfl _ _ _) rfl ?_
                  exact ⟨by rw [HTR.out]; rfl, HB.out⟩
                · have HTR : Hid (T = (0, 5)) := Lib.hid (by rw [HTT.out]; rfl)
                  clear HTT
                  as_aux_lemma =>
                  go_wp2_with fail
                  refine bodyPost_ret (results_tmp2 rfl _ _ _) rfl ?_
                  exact ⟨by rw [HTR.out]; rfl, HB.out⟩
                · have HTR : Hid (T = (2, 0)) := Lib.hid (by rw [HTT.out]; rfl)
                  clear HTT
                  as_aux_lemma =>
                  go_wp2_with fail
                  refine bodyPost_ret (results_tmp2 rfl _ _ _) rfl ?_
                  exact ⟨by rw [HTR.out]; rfl, HB.out⟩
                · have HTR : Hid (T = (0, 5)) := Lib.hid (by rw [HTT.out]; rfl)
                  clear HTT
                  as_aux_lemma =>
                  go_wp2_with fail
                  refine bodyPost_ret (results_tmp2 rfl _ _ _) rfl ?_
                  exact ⟨by rw [HTR.out]; rfl, HB.out⟩
              · have b2 : (rop == 2) = false := by simpa using h2
                have HTR : Hid (T = (k0, 0)) := Lib.hid (by rw [HTT.out]; unfold topT; simp [h1, h2])
                clear HTT h1 h2 hk0
                as_aux_lemma =>
                go_wp2_with fail
                refine bodyPost_ret (results_tmp2 rfl _ _ _) rfl ?_
                exact ⟨by rw [HTR.out]; rfl, HB.out⟩
      · go_enter Try.func11, Try.ntmps11
        go_upto_region 1 with fail
        rw [HW1.out]
        have HWL : Hid (w.heap.size < WX.heap.size) := Lib.hid HFE.out.lt
        have HB2 := HB0
        have HF2 := HFE
        have HO2 : Hid (WX.ownsRow WX.heap.size 3 1 (.slice none 0 0) 0 []) := Lib.hid (World.ownsRow_nil _ _ _ _)
        have HZ2 : Hid (WX.heap.size ≤ WX.heap.size) := Lib.hid (Nat.le_refl _)
        clear e0 e1 e2 e3 e4 e5 e6 e7 l5
        obtain ⟨e0, e1, e2, e3, e4, e5, e6, e7, l2⟩ := of_fe HF2.out
        go_wp2_with fail
        go_loopw [8, 9] (fun sv i wr => ∃ (j : Nat) (aO : Option Addr) (cO : Nat), i = .int .i64 (j : Int) ∧ j ≤ m ∧ sv = .slice aO j cO ∧ Hid (wr.ownsRow WX.heap.size 3 1 (.slice aO j cO) j (iCells (kindsE g l (e.l.take j)))) ∧ Hid (∀ y ∈ e.l.take j, (typeE g l y).2 = 0) ∧ Hid (WX.heap.size ≤ wr.heap.size) ∧ Hid (Flds wr w.heap.size TQ [.int .i64 rk, .int .i64 rop, .int .i64 rv.k, .int .i64 rv.n, .string rv.s, .string rtb, .string rnm, .slice av m cv]) ∧ Hid (Below w.heap.size w wr)) (fun _ i _ => m - (intOf i).toNat)
        case atStart => exact ⟨0, _, _, rfl, Nat.zero_le _, rfl, HO2, Lib.hid (by simp), HZ2, HF2, HB2⟩
        case round =>
          obtain ⟨j, aO, cO, rfl, hj, rfl, HO, HZ0, HZW, HF, HB⟩ := hrel
          clear e0 e1 e2 e3 e4 e5 e6 e7 l2
          have j0 : (0 : Int) ≤ (j : Int) := by omega
          obtain ⟨y0, y1, y2, y3, y4, y5, y6, y7, l3⟩ := of_fe HF.out
          by_cases hjn : j < m
          · have dj : (j : Int) < (m : Int) := by omega
            have hja : j < e.l.length := by have := HN.out; omega
            have hju : j < us.length := by have := HUL.out; omega
            have hx := List.getElem?_eq_getElem hja
            have hu := List.getElem?_eq_getElem hju
            have HXS := Lib.hid (HSL.out _ (List.getElem_mem hja))
            have HXF := Lib.hid (HFK.out _ (List.getElem_mem hja))
            have HXM := Lib.hid (HMK.out _ (List.getElem_mem hja))
            generalize e.l[j] = x at hx HXS HXF HXM
            generalize us[j] = u at hu
            have hxu := (HC.out j x u hx hu).later HB.out
            obtain ⟨ga, rfl, hga, c0, c1, c2, c3, c4, c5, c6, c7⟩ := part_cells (owns_below HR.out HB.out) hjn hu
            obtain ⟨d', rfl⟩ := hxu.pos
            obtain ⟨au, cu, us', hul', -⟩ := hxu.parts
            obtain ⟨uk, uop, uv, utb, unm, ulv⟩ := u
            dsimp only at hul' c0 c1 c2 c3 c4 c5 c6 c7
            subst hul'
            have hb4 : Below wr.heap.size wr wr := Below.refl _ _
            have hcl := IH.out x ⟨uk, uop, uv, utb, unm, .slice au x.l.length cu⟩ _ _ HXS.out HXF.out HXM.out (hxu.later hb4) (HRW.out.later (HB.out.trans (hb4.mono HB.out.size)))
            unfold Er.val at hcl
            dsimp only at hcl
            have HKT := Lib.hid (kindsE_take (g := g) (l := l) hx)
            have HZT := Lib.hid (zero_take (g := g) (l := l) hx HZ0.out)
            have HET := Lib.hid (err_at (g := g) (l := l) hx HZ0.out)
            obtain ⟨P, hP⟩ : ∃ P, typeE g l x = P := ⟨_, rfl⟩
            obtain ⟨KX, EX⟩ := P
            rw [hP] at hcl HKT HZT HET
            dsimp only at hcl HKT HZT HET
            have HCL := Lib.hid hcl
            have HB4 := Lib.hid hb4
            have h63 : j + 1 ≤ maxLen := by unfold maxLen; omega
            have h64 : (j + 1) * 8 ≤ 140737488355328 := by omega
            clear hx hu hxu hja hju hcl hb4 hP
            by_cases hE : EX = 0
            · subst hE
              go_wp2_with (first
                | (go_at_call 11; refine HCL.out.mono ?_; rintro en w5 ⟨rfl, hb5⟩; have HB5 := Lib.hid (HB4.out.trans (hb5.mono HB4.out.size)); have HB6 := Lib.hid (HB5.out.trans (((Below.refl _ _).alloc (Nat.le_refl _) (.cells #[.int .i64 KX] 3)).mono HB5.out.size)); have HO6 := Lib.hid (owns_below HO.out HB6.out); have HF6 := Lib.hid (HF.out.later HB6.out); have HC6 := Lib.hid (Flds.new w5 3 [.int .i64 KX]); have HS6 : Hid (WX.heap.size ≤ (w5.alloc (.cells #[.int .i64 KX] 3)).heap.size) := Lib.hid (by have h1 := HZW.out; have h2 := HB6.out.size; omega); clear hb5)
                | (at_builtin; refine wpList_append_row _ rfl (.tmp 44) (.tmp 46) 72 (by rfl) WX.heap.size 3 i0 (.int .i64 0) 1 8 Try.underlying72 hi hz0 hz1 hz2 rfl (by decide) (.slice aO j cO) j (iCells (kindsE g l (e.l.take j))) (by rfl) HO6.out (.slice (some ⟨w5.heap.size, 0, none⟩) 1 1) 1 [.int .i64 KX] (by rfl) (Row.of_flds HC6.out rfl 1) (by intro u hu; simp only [List.mem_singleton] at hu; subst hu; rfl) h63 h64 HS6.out ?_; intro a9 c9 w9 hap; have HAP := Lib.hid hap; clear hap))
              go_roundw
              case rel =>
                have hlt := fun b (hb : (Value.slice aO j cO).ownBlock = some b) => (HO6.out.lt b hb).1
                have hw1 := HWL.out
                exact ⟨j + 1, a9, c9, by go_num, by omega, rfl, Lib.hid (by rw [HKT.out]; exact HAP.out.own), Lib.hid (by first | exact HZT.out rfl | exact HZT.out trivial), Lib.hid (Nat.le_trans HS6.out HAP.out.grown.size), Lib.hid (HF6.out.grown HAP.out.grown (fun e => by have := hlt _ e.symm; omega)), Lib.hid ((HB.out.trans (HB6.out.mono HB.out.size)).grown HAP.out.grown (Nat.le_trans HB.out.size HB6.out.size) (fun b e => by have := hlt b e; omega))⟩
              case measure => simp [intOf]; omega
            · have bE : (EX != 0) = true := by simpa using hE
              have HTR : Hid (T = (0, EX)) := Lib.hid (by rw [HT2.out, HET.out hE, if_pos hE])
              clear hE
              go_wp2_with (go_at_call 11; refine HCL.out.mono ?_; rintro en w5 ⟨rfl, hb5⟩; have HB5 := Lib.hid (HB4.out.trans (hb5.mono HB4.out.size)); clear hb5)
              refine bodyPost_ret (results_tmp2 rfl _ _ _) rfl ?_
              exact ⟨by rw [HTR.out]; rfl, HB.out.trans (HB5.out.mono HB.out.size)⟩
          · have dj : ¬ (j : Int) < (m : Int) := by omega
            obtain rfl : j = m := by omega
            have hz := HZ0.out
            rw [List.take_of_length_le (by have := HN.out; omega)] at hz
            have HTT : Hid (T = topT rk rop rv rtb rnm l (kindsE g l e.l)) := Lib.hid (by
              have h0 : firstE (e.l.map (typeE g l)) = 0 := firstE_zero.2 (fun y hy => by obtain ⟨z, hz', rfl⟩ := List.mem_map.1 hy; exact hz z hz')
              rw [HT2.out, h0, if_neg (fun h => h rfl)]; rfl)
            have hown := HO.out
            rw [List.take_of_length_le (by have := HN.out; omega)] at hown
            have HKR := Lib.hid (Row.of_owns hown)
            have HK0 : Hid (∀ k ∈ kindsE g l e.l, 0 ≤ k ∧ k ≤ 3) := Lib.hid (fun k hk => by
              unfold kindsE at hk
              obtain ⟨x, hx, rfl⟩ := List.mem_map.1 hk
              exact HTK.out x hx)
            have HKL : Hid ((kindsE g l e.l).length = j) := Lib.hid (by unfold kindsE; rw [List.length_map]; exact HN.out)
            clear hown HO hz HT2
            generalize kindsE g l e.l = ks at HTT HKR HK0 HKL
            have hpp := HPP.out
            unfold plainP at hpp
            have hrw := HRW.out.later HB.out
            rcases hpp with ⟨rfl, -⟩ | ⟨rfl, -, -, -⟩ | ⟨rfl, -, -, -, hj2, ho1, ho2⟩ | ⟨hk', -, -, -, -, hj1⟩ | ⟨rfl, -⟩
            · have HTR : Hid (T = (rv.k, 0)) := Lib.hid (by rw [HTT.out]; unfold topT; simp)
              clear HTT hrw b8
              as_aux_lemma =>
              go_wp2_with fail
              refine bodyPost_ret (results_tmp2 rfl _ _ _) rfl ?_
              exact ⟨by rw [HTR.out]; rfl, HB.out⟩
            · have hca := rfind_any a n cap l ⟨2, rop, rv, rtb, rnm, .slice av j cv⟩ av j cv rfl HLN.out hn8 wr hrw
              unfold Er.val at hca
              dsimp only at hca
              have HCA := Lib.hid hca
              have HFL := Lib.hid (fun (hf : (findF l rtb rnm).2 = 0) => findF_lt hf)
              have HTR : Hid (T = if (findF l rtb rnm).2 = 0 then ((l.getD (findF l rtb rnm).1 ⟨ByteArray.empty, ByteArray.empty, 0⟩).k, 0) else (0, (findF l rtb rnm).2)) := Lib.hid (by rw [HTT.out]; rfl)
              obtain ⟨P, hP⟩ : ∃ P, findF l rtb rnm = P := ⟨_, rfl⟩
              obtain ⟨F, E⟩ := P
              rw [hP] at HCA HFL HTR
              dsimp only at HCA HFL HTR
              have HRF := Lib.hid hrw
              clear HTT hrw hca b8 hP
              by_cases hE : E = 0
              · subst hE
                have hF := HFL.out rfl
                have hFn : F < n := by rw [← HLN.out]; exact hF
                obtain ⟨f, hf⟩ : ∃ f, l[F]? = some f := ⟨_, List.getElem?_eq_getElem hF⟩
                obtain ⟨bF, oF, rfl, hcs⟩ := fd_at HRF.out hFn hf
                have HCS := Lib.hid hcs
                have HTS : Hid (T = (f.k, 0)) := Lib.hid (by rw [HTR.out, if_pos rfl, List.getD_eq_getElem?_getD, hf]; rfl)
                have F0 : (0 : Int) ≤ (F : Int) := by omega
                have F1 : (F : Int) < (n : Int) := by omega
                clear hcs HTR HFL hF hf
                go_wp2_with (go_at_call 24; refine HCA.out.mono ?_; rintro en w5 ⟨rfl, hb5⟩; obtain ⟨q0, q1, q2, lq⟩ := HCS.out w5 hb5; have HB5 := Lib.hid (HB.out.trans (hb5.mono HB.out.size)); clear hb5)
                refine bodyPost_ret (results_tmp2 rfl _ _ _) rfl ?_
                exact ⟨by rw [HTS.out]; rfl, HB5.out⟩
              · have bE : (E != 0) = true := by simpa using hE
                have HTS : Hid (T = (0, E)) := Lib.hid (by rw [HTR.out, if_neg hE])
                clear HTR HFL hE
                go_wp2_with (go_at_call 24; refine HCA.out.mono ?_; rintro en w5 ⟨rfl, hb5⟩; have HB5 := Lib.hid (HB.out.trans (hb5.mono HB.out.size)); clear hb5)
                refine bodyPost_ret (results_tmp2 rfl _ _ _) rfl ?_
                exact ⟨by rw [HTS.out]; rfl, HB5.out⟩
            · subst hj2
              obtain ⟨k0, k1, rfl⟩ : ∃ k0 k1, ks = [k0, k1] := by
                have := HKL.out
                match ks, this with
                | [x, y], _ => exact ⟨x, y, rfl⟩
              have hk0 := HK0.out k0 (by simp)
              have hk1 := HK0.out k1 (by simp)
              obtain ⟨bk, ok, ha, hc0⟩ := int_at HKR.out (k := 0) (by decide) rfl
              obtain ⟨bk', ok', ha', hc1⟩ := int_at HKR.out (k := 1) (by decide) rfl
              obtain ⟨rfl, rfl⟩ := same_base ha ha'
              subst ha
              have hde := do_err (op := rop) (a := ⟨k0, 0, ByteArray.empty⟩) (b := ⟨k1, 0, ByteArray.empty⟩) ⟨ho1, ho2⟩
              have hd := fun W => val.ref_do_any rop k0 0 k1 0 ByteArray.empty ByteArray.empty W (zero_good hk0) (zero_good hk1)
              obtain ⟨D, hD⟩ : ∃ D, doV rop ⟨k0, 0, ByteArray.empty⟩ ⟨k1, 0, ByteArray.empty⟩ = D := ⟨_, rfl⟩
              rw [hD] at hde
              simp only [hD] at hd
              obtain ⟨D1, D2⟩ := D
              obtain ⟨Dk, Dn, Ds⟩ := D1
              dsimp only at hd hde
              have HD := Lib.hid hd; have HDE := Lib.hid hde
              have HS0 := Lib.hid (fun W => refsample_any k0 W)
              have HS1 := Lib.hid (fun W => refsample_any k1 W)
              have HE := Lib.hid (fun (W : World) (hb : Below wr.heap.size wr W) => of_fe (HF.out.later hb))
              have HC0 := Lib.hid hc0; have HC1 := Lib.hid hc1
              have HTR : Hid (T = binT rop k0 k1) := Lib.hid (by rw [HTT.out]; rfl)
              clear HTT hD hd hde hc0 hc1 hk0 hk1 ha' b8
              go_upto_region 20 with fail
              clear y0 y1 y2 y3 y4 y5 y6 y7 l3
              apply ag.region_ag  (fun W => Below wr.heap.size wr W) (fun _ _ _ _ => True) (ag.Spec.val _ :: ag.Spec.val _ :: ag.Spec.val _ :: ag.Spec.val _ :: ag.Spec.val _ :: ag.Spec.sat (fun v _ => v = (ag3 k0 0 ByteArray.empty)) (T4 wr) :: ag.Spec.val _ :: ag.Spec.val _ :: ag.Spec.val _ :: ag.Spec.sat (fun v _ => v = (ag3 k1 0 ByteArray.empty)) (T4 wr) :: ag.Spec.sat (fun v _ => v = .tuple #[ag3 Dk Dn Ds, .int .i64 D2]) (T4 wr) :: ag.Spec.val _ :: ag.Spec.val _ :: ag.Spec.val _ :: ag.Spec.sat (V4 wr) (T4 wr) :: ag.Spec.sat (fun _ _ => True) (T4 wr) :: ag.Spec.val _ :: [])
              case hm => kernel_rfl
              case hB => kernel_rfl
              case hlen => rfl
              case hS => exact (Below.refl _ _).drew
              case hst =>
                simp only [ag.Stab, ag.Row2, ag.Ok2, and_true]
                repeat' apply And.intro
                all_goals first
                  | exact fun h => absurd rfl h
                  | (exact fun _ _ f v W W' _ hv _ ht => V4.keep hv ht)
                  | (exact fun _ _ f v W W' _ hv _ ht => hv)
                  | trivial
                  | exact fun _ h => absurd (h.symm.trans (show _ = true by kernel_rfl)) (by decide)
              case hk =>
                simp only [ag.Keeps, and_true]
                repeat' apply And.intro
                all_goals first
                  | (exact fun f W W' hS _ ht => hS.trans (T4.below ht))
                  | trivial
              apply ag.walk_val
              · rfl
              · intro W1 hS hE
                obtain ⟨y0, y1, y2, y3, y4, y5, y6, y7, l3⟩ := HE.out W1 hS
                clear hS hE
                all_goals unfold ag.does
                all_goals go_simp
                all_goals first | done | exact ⟨rfl, rfl⟩ | rfl | (exact ⟨by go_num, rfl⟩) | (simp; done) | trace_state
              simp only [Act.put, List.setIfInBounds_toArray, List.set_cons_zero, List.set_cons_succ]
              apply ag.walk_val
              · rfl
              · intro W1 hS hE
                obtain ⟨y0, y1, y2, y3, y4, y5, y6, y7, l3⟩ := HE.out W1 hS
                clear hS hE
                all_goals unfold ag.does
                all_goals go_simp
                all_goals first | done | exact ⟨rfl, rfl⟩ | rfl | (exact ⟨by go_num, rfl⟩) | (simp; done) | trace_state
              simp only [Act.put, List.setIfInBounds_toArray, List.set_cons_zero, List.set_cons_succ]
              apply ag.walk_val
              · rfl
              · intro W1 hS hE
                clear hS hE
                all_goals unfold ag.does
                all_goals go_simp
                all_goals first | done | exact ⟨rfl, rfl⟩ | rfl | (exact ⟨by go_num, rfl⟩) | (simp; done) | trace_state
              simp only [Act.put, List.setIfInBounds_toArray, List.set_cons_zero, List.set_cons_succ]
              apply ag.walk_val
              · rfl
              · intro W1 hS hE
                clear hS hE
                all_goals unfold ag.does
                all_goals go_simp
                all_goals first | done | exact ⟨rfl, rfl⟩ | rfl | (exact ⟨by go_num, rfl⟩) | (simp; done) | trace_state
              simp only [Act.put, List.setIfInBounds_toArray, List.set_cons_zero, List.set_cons_succ]
              apply ag.walk_val
              · rfl
              · intro W1 hS hE
                obtain ⟨y0, l3⟩ := HC0.out W1 hS
                (try simp only [Nat.add_zero] at y0)
                clear hS hE
                all_goals unfold ag.does
                all_goals go_simp
                all_goals first | done | exact ⟨rfl, rfl⟩ | rfl | (exact ⟨by go_num, rfl⟩) | (simp; done) | trace_state
              simp only [Act.put, List.setIfInBounds_toArray, List.set_cons_zero, List.set_cons_succ]
              refine ag.walk_sat (by rfl) (fun W1 hS hE => ?_) (fun y5 => ?_)
              · have hc := HS0.out W1
                have hsz := hS.size
                clear hE
                all_goals unfold ag.does
                all_goals go_simp
                all_goals first | done | (exact hc.mono (fun e w' h => ⟨_, h.1, rfl, T4.of hsz h.2, ag.News.none (fun _ _ => trivial) _ _⟩))
              simp only [Act.put, List.setIfInBounds_toArray, List.set_cons_zero, List.set_cons_succ]
              apply ag.walk_val
              · rfl
              · intro W1 hS hE
                clear hS hE
                all_goals unfold ag.does
                all_goals go_simp
                all_goals first | done | exact ⟨rfl, rfl⟩ | rfl | (exact ⟨by go_num, rfl⟩) | (simp; done) | trace_state
              simp only [Act.put, List.setIfInBounds_toArray, List.set_cons_zero, List.set_cons_succ]
              apply ag.walk_val
              · rfl
              · intro W1 hS hE
                clear hS hE
                all_goals unfold ag.does
                all_goals go_simp
                all_goals first | done | exact ⟨rfl, rfl⟩ | rfl | (exact ⟨by go_num, rfl⟩) | (simp; done) | trace_state
              simp only [Act.put, List.setIfInBounds_toArray, List.set_cons_zero, List.set_cons_succ]
              apply ag.walk_val
              · rfl
              · intro W1 hS hE
                obtain ⟨y0, l3⟩ := HC1.out W1 hS
                clear hS hE
                all_goals unfold ag.does
                all_goals go_simp
                all_goals first | done | exact ⟨rfl, rfl⟩ | rfl | (exact ⟨by go_num, rfl⟩) | (simp; done) | trace_state
              simp only [Act.put, List.setIfInBounds_toArray, List.set_cons_zero, List.set_cons_succ]
              refine ag.walk_sat (by rfl) (fun W1 hS hE => ?_) (fun y9 => ?_)
              · have hc := HS1.out W1
                have hsz := hS.size
                clear hE
                all_goals unfold ag.does
                all_goals go_simp
                all_goals first | done | (exact hc.mono (fun e w' h => ⟨_, h.1, rfl, T4.of hsz h.2, ag.News.none (fun _ _ => trivial) _ _⟩))
              simp only [Act.put, List.setIfInBounds_toArray, List.set_cons_zero, List.set_cons_succ]
              refine ag.walk_sat (by rfl) (fun W1 hS hE => ?_) (fun y10 => ?_)
              · have f5 : y5 = (ag3 k0 0 ByteArray.empty) := hE.of 5 (by kernel_rfl)
                subst f5
                have f9 : y9 = (ag3 k1 0 ByteArray.empty) := hE.of 9 (by kernel_rfl)
                subst f9
                have hc := HD.out W1
                have hsz := hS.size
                clear hE
                all_goals unfold ag.does
                all_goals go_simp
                all_goals first | done | (exact hc.mono (fun e w' h => ⟨_, h.1, rfl, T4.of hsz h.2, ag.News.none (fun _ _ => trivial) _ _⟩))
              simp only [Act.put, List.setIfInBounds_toArray, List.set_cons_zero, List.set_cons_succ]
              apply ag.walk_val
              · rfl
              · intro W1 hS hE
                have f10 : y10 = .tuple #[ag3 Dk Dn Ds, .int .i64 D2] := hE.of 10 (by kernel_rfl)
                subst f10
                clear hS hE
                all_goals unfold ag.does
                all_goals go_simp
                all_goals first | done | exact ⟨rfl, rfl⟩ | rfl | (exact ⟨by go_num, rfl⟩) | (simp; done) | trace_state
              simp only [Act.put, List.setIfInBounds_toArray, List.set_cons_zero, List.set_cons_succ]
              apply ag.walk_val
              · rfl
              · intro W1 hS hE
                clear hS hE
                all_goals unfold ag.does
                all_goals go_simp
                all_goals first | done | exact ⟨rfl, rfl⟩ | rfl | (exact ⟨by go_num, rfl⟩) | (simp; done) | trace_state
              simp only [Act.put, List.setIfInBounds_toArray, List.set_cons_zero, List.set_cons_succ]
              apply ag.walk_val
              · rfl
              · intro W1 hS hE
                clear hS hE
                all_goals unfold ag.does
                all_goals go_simp
                all_goals first | done | exact ⟨rfl, rfl⟩ | rfl | (exact ⟨by go_num, rfl⟩) | (simp; done) | trace_state
              simp only [Act.put, List.setIfInBounds_toArray, List.set_cons_zero, List.set_cons_succ]
              refine ag.walk_sat (by rfl) (fun W1 hS hE => ?_) (fun y14 => ?_)
              · have hsz := hS.size
                clear hE
                all_goals unfold ag.does
                all_goals go_simp
                all_goals first | done | (exact ⟨V4.new hsz, T4.of hsz ((Below.refl _ _).alloc (Nat.le_refl _) _), ag.News.none (fun _ _ => trivial) _ _⟩)
              simp only [Act.put, List.setIfInBounds_toArray, List.set_cons_zero, List.set_cons_succ]
              refine ag.walk_sat (by rfl) (fun W1 hS hE => ?_) (fun y15 => ?_)
              · have f14 : V4 wr y14 W1 := hE.of 14 (by kernel_rfl)
                clear hE
                obtain ⟨g, rfl, hg, hb3⟩ := V4.out f14
                obtain ⟨x0, x1, x2, hff⟩ := B4.out hb3
                obtain ⟨q0, q1, q2, z0, z1, z2, lg⟩ := fd3z hff
                all_goals unfold ag.does
                all_goals go_simp
                all_goals first | done | (first | exact ⟨T4.set hg _ _ _, ag.News.none (fun _ _ => trivial) _ _⟩ | exact ⟨trivial, T4.set hg _ _ _, ag.News.none (fun _ _ => trivial) _ _⟩)
              simp only [Act.put, List.setIfInBounds_toArray, List.set_cons_zero, List.set_cons_succ]
              apply ag.walk_val
              · rfl
              · intro W1 hS hE
                clear hS hE
                all_goals unfold ag.does
                all_goals go_simp
                all_goals first | done | exact ⟨rfl, rfl⟩ | rfl | (exact ⟨by go_num, rfl⟩) | (simp; done) | trace_state
              simp only [Act.put, List.setIfInBounds_toArray, List.set_cons_zero, List.set_cons_succ]
              refine ag.walk_nil (fun w9 hS hF hP => ?_)
              clear hP

              clear hF
              have HB9 := Lib.hid (HB.out.trans (hS.mono HB.out.size))
              obtain ⟨y0, y1, y2, y3, y4, y5, y6, y7, l3⟩ := HE.out w9 hS
              clear hS
              by_cases h5 : D2 = 5
              · have hf := HDE.out.1 h5
                have HTS : Hid (T = (0, 5)) := Lib.hid (by rw [HTR.out]; unfold binT; rw [if_neg (by (try dsimp only at hf); rw [hf]; decide)])
                subst h5
                clear hf HDE HD HTR ho1 ho2
                as_aux_lemma =>
                go_wp2_with fail
                refine bodyPost_ret (results_tmp2 rfl _ _ _) rfl ?_
                exact ⟨by rw [HTS.out]; rfl, HB9.out⟩
              · have hf : fitB rop k0 k1 = true := by
                  cases h : fitB rop k0 k1 with
                  | true => rfl
                  | false => exact absurd (HDE.out.2 h) h5
                have b5 : (D2 == 5) = false := by simpa using h5
                have HTS : Hid (T = (resT rop, 0)) := Lib.hid (by rw [HTR.out]; unfold binT; rw [if_pos hf])
                clear hf HDE HD HTR h5
                by_cases h6 : rop ≤ 6
                · have b6 : decide (rop ≤ 6) = true := by simpa using h6
                  have HTU : Hid (T = (1, 0)) := Lib.hid (by rw [HTS.out, resT_le (.inl h6)])
                  clear ho1 ho2
                  as_aux_lemma =>
                  go_wp2_with fail
                  refine bodyPost_ret (results_tmp2 rfl _ _ _) rfl ?_
                  exact ⟨by rw [HTU.out]; rfl, HB9.out⟩
                · have b6 : decide (rop ≤ 6) = false := by simpa using h6
                  by_cases h13 : 13 ≤ rop
                  · have b7 : decide (13 ≤ rop) = true := by simpa using h13
                    have HTU : Hid (T = (1, 0)) := Lib.hid (by rw [HTS.out, resT_le (.inr h13)])
                    clear ho1 ho2
                    as_aux_lemma =>
                    go_wp2_with fail
                    refine bodyPost_ret (results_tmp2 rfl _ _ _) rfl ?_
                    exact ⟨by rw [HTU.out]; rfl, HB9.out⟩
                  · have b7 : decide (13 ≤ rop) = false := by simpa using h13
                    by_cases h12 : rop = 12
                    · subst h12
                      have HTU : Hid (T = (3, 0)) := HTS
                      clear h6 h13 ho1 ho2
                      as_aux_lemma =>
                      go_wp2_with fail
                      refine bodyPost_ret (results_tmp2 rfl _ _ _) rfl ?_
                      exact ⟨by rw [HTU.out]; rfl, HB9.out⟩
                    · have b8 : (rop == 12) = false := by simpa using h12
                      have HTU : Hid (T = (2, 0)) := Lib.hid (by rw [HTS.out, resT_mid h6 h13 h12])
                      clear ho1 ho2 h12
                      as_aux_lemma =>
                      go_wp2_with fail
                      refine bodyPost_ret (results_tmp2 rfl _ _ _) rfl ?_
                      exact ⟨by rw [HTU.out]; rfl, HB9.out⟩
            · subst hj1
              obtain ⟨k0, rfl⟩ : ∃ k0, ks = [k0] := List.length_eq_one_iff.1 HKL.out
              rcases hk' with rfl | rfl | rfl | rfl
              · have hk0 := HK0.out k0 (by simp)
                obtain ⟨bk, ok, rfl, hck⟩ := int_at HKR.out (k := 0) (by decide) rfl
                obtain ⟨q0, lq⟩ := hck wr (Below.refl _ _)
                simp only [Nat.add_zero] at q0
                clear hck
                rcases (by omega : k0 = 0 ∨ k0 = 1 ∨ k0 = 2 ∨ k0 = 3) with rfl | rfl | rfl | rfl
                · have HTR : Hid (T = (1, 0)) := Lib.hid (by rw [HTT.out]; rfl)
                  clear HTT b8
                  as_aux_lemma =>
                  go_wp2_with fail
                  refine bodyPost_ret (results_tmp2 rfl _ _ _) rfl ?_
                  exact ⟨by rw [HTR.out]; rfl, HB.out⟩
                · have HTR : Hid (T = (1, 0)) := Lib.hid (by rw [HTT.out]; rfl)
                  clear HTT b8
                  as_aux_lemma =>
                  go_wp2_with fail
                  refine bodyPost_ret (results_tmp2 rfl _ _ _) rfl ?_
                  exact ⟨by rw [HTR.out]; rfl, HB.out⟩
                · have HTR : Hid (T = (0, 5)) := Lib.hid (by rw [HTT.out]; rfl)
                  clear HTT b8
                  as_aux_lemma =>
                  go_wp2_with fail
                  refine bodyPost_ret (results_tmp2 rfl _ _ _) rfl ?_
                  exact ⟨by rw [HTR.out]; rfl, HB.out⟩
                · have HTR : Hid (T = (0, 5)) := Lib.hid (by rw [HTT.out]; rfl)
                  clear HTT b8
                  as_aux_lemma =>
                  go_wp2_with fail
                  refine bodyPost_ret (results_tmp2 rfl _ _ _) rfl ?_
                  exact ⟨by rw [HTR.out]; rfl, HB.out⟩
              · have hk0 := HK0.out k0 (by simp)
                obtain ⟨bk, ok, rfl, hck⟩ := int_at HKR.out (k := 0) (by decide) rfl
                obtain ⟨q0, lq⟩ := hck wr (Below.refl _ _)
                simp only [Nat.add_zero] at q0
                clear hck
                rcases (by omega : k0 = 0 ∨ k0 = 1 ∨ k0 = 2 ∨ k0 = 3) with rfl | rfl | rfl | rfl
                · have HTR : Hid (T = (2, 0)) := Lib.hid (by rw [HTT.out]; rfl)
                  clear HTT b8
                  as_aux_lemma =>
                  go_wp2_with fail
                  refine bodyPost_ret (results_tmp2 rfl _ _ _) rfl ?_
                  exact ⟨by rw [HTR.out]; rfl, HB.out⟩
                · have HTR : Hid (T = (0, 5)) := Lib.hid (by rw [HTT.out]; rfl)
                  clear HTT b8
                  as_aux_lemma =>
                  go_wp2_with fail
                  refine bodyPost_ret (results_tmp2 rfl _ _ _) rfl ?_
                  exact ⟨by rw [HTR.out]; rfl, HB.out⟩
                · have HTR : Hid (T = (2, 0)) := Lib.hid (by rw [HTT.out]; rfl)
                  clear HTT b8
                  as_aux_lemma =>
                  go_wp2_with fail
                  refine bodyPost_ret (results_tmp2 rfl _ _ _) rfl ?_
                  exact ⟨by rw [HTR.out]; rfl, HB.out⟩
                · have HTR : Hid (T = (0, 5)) := Lib.hid (by rw [HTT.out]; rfl)
                  clear HTT b8
                  as_aux_lemma =>
                  go_wp2_with fail
                  refine bodyPost_ret (results_tmp2 rfl _ _ _) rfl ?_
                  exact ⟨by rw [HTR.out]; rfl, HB.out⟩
              · have HTR : Hid (T = (1, 0)) := Lib.hid (by rw [HTT.out]; unfold topT; simp)
                clear HTT b8
                as_aux_lemma =>
                go_wp2_with fail
                refine bodyPost_ret (results_tmp2 rfl _ _ _) rfl ?_
                exact ⟨by rw [HTR.out]; rfl, HB.out⟩
              · have HTR : Hid (T = (1, 0)) := Lib.hid (by rw [HTT.out]; unfold topT; simp)
                clear HTT b8
                as_aux_lemma =>
                go_wp2_with fail
                refine bodyPost_ret (results_tmp2 rfl _ _ _) rfl ?_
                exact ⟨by rw [HTR.out]; rfl, HB.out⟩
            · simp at b8
end Go.Proofs.Ytjnlimahcodomaa.ck
