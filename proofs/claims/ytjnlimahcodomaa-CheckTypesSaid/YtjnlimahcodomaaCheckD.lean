/- The kind of an expression over fields, by the program; walked. -/
import Derived.Test.YtjnlimahcodomaaCheckC
namespace Go.Proofs.Ytjnlimahcodomaa.ck
set_option linter.unusedVariables false
open Go.RowKit
open val (V null doV fitB notV negV ofB ofN ofS gB vv ag3 TV)
open ex (Ex Er TE TQ ExAt of_fe plainP mayE mayE_kids Fit info_of exat_fields part_cells)
theorem below_grown {w w' : World} (h : w.grownBy w' none) : Below w.heap.size w w' := ⟨h.os, h.tape, h.output, h.size, fun k hk => h.block k hk (by simp)⟩
theorem infoInt : (Try.prog.info? 3).map (fun i => (i.zero, i.size, i.bytes)) = some (some (.int .i64 0), 1, 8) := by kernel_rfl
/-- the kinds of some expressions -/
def kindsE (g : Bool) (l : List Fd) (es : List Ex) : List Int := es.map (fun x => (typeE g l x).1)
theorem kindsE_take {g : Bool} {l : List Fd} {es : List Ex} {j : Nat} {x : Ex} (h : es[j]? = some x) : iCells (kindsE g l (es.take (j + 1))) = iCells (kindsE g l (es.take j)) ++ [.int .i64 (typeE g l x).1] := by
  obtain ⟨hj, rfl⟩ := List.getElem?_eq_some_iff.1 h
  unfold iCells kindsE
  rw [List.take_succ_eq_append_getElem hj, List.map_append, List.map_append]; rfl
theorem zero_take {g : Bool} {l : List Fd} {es : List Ex} {j : Nat} {x : Ex} (h : es[j]? = some x) (h0 : ∀ y ∈ es.take j, (typeE g l y).2 = 0) (hx : (typeE g l x).2 = 0) : ∀ y ∈ es.take (j + 1), (typeE g l y).2 = 0 := by
  obtain ⟨hj, rfl⟩ := List.getElem?_eq_some_iff.1 h
  intro y hy
  rw [List.take_succ_eq_append_getElem hj, List.mem_append, List.mem_singleton] at hy
  rcases hy with hy | rfl
  · exact h0 y hy
  · exact hx
theorem err_at {g : Bool} {l : List Fd} {es : List Ex} {j : Nat} {x : Ex} (h : es[j]? = some x) (h0 : ∀ y ∈ es.take j, (typeE g l y).2 = 0) (hx : (typeE g l x).2 ≠ 0) : firstE (es.map (typeE g l)) = (typeE g l x).2 := by
  refine firstE_at (j := j) (x := typeE g l x) (by rw [List.getElem?_map, h]; rfl) hx (fun y hy => ?_)
  rw [← List.map_take] at hy
  obtain ⟨z, hz, rfl⟩ := List.mem_map.1 hy
  exact h0 z hz
set_option maxRecDepth 100000 in
set_option maxHeartbeats 8000000 in
theorem type_any (a : Option Addr) (n cap : Nat) (l : List Fd) (hn : l.length = n) (hn8 : n ≤ 1000) (hl : ∀ (i : Nat) f, l[i]? = some f → 1 ≤ f.k ∧ f.k ≤ 3) (g : Bool) : ∀ (d : Nat), d ≤ 1000 → ∀ (X : Nat → Prop) (e : Ex) (r : Er) (gg : Bool) (w : World), e.slim → Fit e → mayE e gg → ExAt TE X d w e r → Row w (.slice a n cap) 3 n (fCells l) →
    Calls Try.prog 10 #[r.val, .slice a n cap, .bool g] w fun en w' => en = .returned (.tuple #[.int .i64 (typeE g l e).1, .int .i64 (typeE g l e).2]) ∧ Below w.heap.size w w'
  | 0, _, _, _, _, _, _, _, _, _, h, _ => h.elim
  | d + 1, hd, X, e, r, gg, w, hsl, hft, hm, h, hrw => by
    have IH := Lib.hid (fun (e : Ex) (r : Er) (gg : Bool) (w : World) (hs : e.slim) (hf : Fit e) (hm : mayE e gg) (h : ExAt TE X d w e r) (hr : Row w (.slice a n cap) 3 n (fCells l)) => type_any a n cap l hn hn8 hl g d (by omega) X e r gg w hs hf hm h hr)
    obtain ⟨hsl1, hsl2⟩ := ex.Ex.slim_parts hsl
    obtain ⟨hmp, h8, hmk⟩ := mayE_kids.1 hm
    obtain ⟨av, cv, us, hlv, hul, hrow, hch⟩ := h.parts
    obtain ⟨f1, f2, f3, f4, f5⟩ := exat_fields h
    have hte := typeE_eq g l e
    rw [← f1, ← f2, ← f3, ← f4, ← f5] at hte
    have HPP : Hid (plainP r.k r.op r.v r.tb r.nm e.l.length) := Lib.hid (by have h := hmp; unfold ex.Ex.plain at h; rw [← f1, ← f2, ← f3, ← f4, ← f5] at h; exact h)
    have HTK := Lib.hid (fun x (hx : x ∈ e.l) => type_kind x g _ l hl (hmk x hx) (hft.kid hx))
    obtain ⟨m, hm'⟩ : ∃ m, e.l.length = m := ⟨_, rfl⟩
    rw [hm'] at hlv hul hrow hsl1 HPP
    have HN := Lib.hid hm'; have HUL := Lib.hid hul; have HR := Lib.hid hrow; have HC := Lib.hid hch; have HSL := Lib.hid hsl2
    have HMK := Lib.hid hmk; have HFK := Lib.hid (fun x (hx : x ∈ e.l) => hft.kid hx)
    have HTE := Lib.hid hte
    have HRW := Lib.hid hrw
    have HLN := Lib.hid hn
    have hm0 : (0 : Int) ≤ (m : Int) := by omega
    have hm1 : (m : Int) ≤ 1000 := by omega
    obtain ⟨rk, rop, rv, rtb, rnm, rlv⟩ := r
    dsimp only at hlv HTE HPP
    subst hlv
    unfold Er.val
    dsimp only
    obtain ⟨T, hT⟩ : ∃ T, typeE g l e = T := ⟨_, rfl⟩
    rw [hT] at HTE ⊢
    have hfe : Flds (w.alloc (.cells #[.int .i64 rk, .int .i64 rop, .int .i64 rv.k, .int .i64 rv.n, .string rv.s, .string rtb, .string rnm, .slice av m cv] TE)) w.heap.size TE [.int .i64 rk, .int .i64 rop, .int .i64 rv.k, .int .i64 rv.n, .string rv.s, .string rtb, .string rnm, .slice av m cv] := Flds.new w TE _
    have hb0 : Below w.heap.size w (w.alloc (.cells #[.int .i64 rk, .int .i64 rop, .int .i64 rv.k, .int .i64 rv.n, .string rv.s, .string rtb, .string rnm, .slice av m cv] TE)) := (Below.refl _ _).alloc (Nat.le_refl _) _
    obtain ⟨WX, hW1⟩ : ∃ WX, (w.alloc (.cells #[.int .i64 rk, .int .i64 rop, .int .i64 rv.k, .int .i64 rv.n, .string rv.s, .string rtb, .string rnm, .slice av m cv] TE)) = WX := ⟨_, rfl⟩
    rw [hW1] at hfe hb0
    have HFE := Lib.hid hfe; have HB0 := Lib.hid hb0; have HW1 := Lib.hid hW1
    obtain ⟨e0, e1, e2, e3, e4, e5, e6, e7, l5⟩ := of_fe hfe
    clear hfe hb0 hW1 hT hm' hul hrow hch hsl hsl2 hft hmk hmp hm h8 h hrw hte f1 f2 f3 f4 f5 hn hl
    obtain ⟨i0, hi, hz0, hz1, hz2⟩ := info_of infoInt
    by_cases hag : rk = 8 ∧ g = false
    · obtain ⟨rfl, rfl⟩ := hag
      obtain rfl : T = (0, 4) := by rw [HTE.out]; rfl
      clear HTE
      go_enter Try.func10, Try.ntmps10
      go_upto_region 1 with fail
      rw [HW1.out]
      go_wp2_with fail
      refine bodyPost_ret (results_tmp2 rfl _ _ _) rfl ?_
      exact ⟨rfl, HB0.out⟩
    · have HT2 : Hid (T = if firstE (e.l.map (typeE g l)) ≠ 0 then (0, firstE (e.l.map (typeE g l))) else topT rk rop rv rtb rnm l (e.l.map (fun x => (typeE g l x).1))) := Lib.hid (by rw [HTE.out, if_neg hag])
      clear HTE
      have hcase : (rk = 8 ∧ g = true) ∨ (rk == 8) = false := by
        by_cases h8 : rk = 8
        · cases g with
          | true => exact .inl ⟨h8, rfl⟩
          | false => exact absurd ⟨h8, rfl⟩ hag
        · exact .inr (by simpa using h8)
      clear hag
      rcases hcase with ⟨rfl, rfl⟩ | b8
      · go_enter Try.func10, Try.ntmps10
        go_upto_region 1 with fail
        rw [HW1.out]
        go_upto_region 4 with (at_make; refine wpList_make_own _ rfl _ _ 72 rfl WX.heap.size 3 i0 (.int .i64 0) 1 Try.underlying72 hi hz0 hz1 .i64 .i64 _ m rfl rfl rfl (by rw [hz2]; omega) (by unfold maxLen; omega) (Nat.le_refl _) ?_; intro w2 hown0 hgrow0)
        have HWL : Hid (w.heap.size < WX.heap.size) := Lib.hid HFE.out.lt
        have HB2 := Lib.hid (HB0.out.trans ((below_grown hgrow0).mono HB0.out.size))
        have HF2 := Lib.hid (HFE.out.later (below_grown hgrow0))
        have HO2 := Lib.hid hown0
        have HZ2 : Hid (WX.heap.size ≤ w2.heap.size) := Lib.hid hgrow0.size
        clear hown0 hgrow0 e0 e1 e2 e3 e4 e5 e6 e7 l5
        obtain ⟨e0, e1, e2, e3, e4, e5, e6, e7, l2⟩ := of_fe HF2.out
        go_wp2_with fail
        go_loopw [8, 29] (fun sv i wr => ∃ (j : Nat) (aO : Option Addr) (cO : Nat), i = .int .i64 (j : Int) ∧ j ≤ m ∧ sv = .slice aO j cO ∧ Hid (wr.ownsRow WX.heap.size 3 1 (.slice aO j cO) j (iCells (kindsE true l (e.l.take j)))) ∧ Hid (∀ y ∈ e.l.take j, (typeE true l y).2 = 0) ∧ Hid (WX.heap.size ≤ wr.heap.size) ∧ Hid (Flds wr w.heap.size TE [.int .i64 8, .int .i64 rop, .int .i64 rv.k, .int .i64 rv.n, .string rv.s, .string rtb, .string rnm, .slice av m cv]) ∧ Hid (Below w.heap.size w wr)) (fun _ i _ => m - (intOf i).toNat)
        case atStart => exact ⟨0, _, _, rfl, Nat.zero_le _, rfl, HO2, Lib.hid (by simp), HZ2, HF2, HB2⟩
        case round =>
          obtain ⟨j, aO, cO, rfl, hj, rfl, HO, HZ0, HZW, HF, HB⟩ := hrel
          clear e0 e1 e2 e3 e4 e5 e6 e7 l2
          have j0 : (0 : Int) ≤ (j : Int) := by omega
          obtain ⟨y0, y1, y2, y3, y4, y5, y6, y7, l3⟩ := of_fe HF.out
          by_cases hjn : j < m
          · have dj : (j : Int) < (m : Int) := by omega
            have hja : j < e.l.length := by have := HN.out; omega
            have hju : j < us.length := by have := HUL.out; omega
            have hx := List.getElem?_eq_getElem hja
            have hu := List.getElem?_eq_getElem hju
            have HXS := Lib.hid (HSL.out _ (List.getElem_mem hja))
            have HXF := Lib.hid (HFK.out _ (List.getElem_mem hja))
            have HXM := Lib.hid (HMK.out _ (List.getElem_mem hja))
            generalize e.l[j] = x at hx HXS HXF HXM
            generalize us[j] = u at hu
            have hxu := (HC.out j x u hx hu).later HB.out
            obtain ⟨ga, rfl, hga, c0, c1, c2, c3, c4, c5, c6, c7⟩ := part_cells (owns_below HR.out HB.out) hjn hu
            obtain ⟨d', rfl⟩ := hxu.pos
            obtain ⟨au, cu, us', hul', -⟩ := hxu.parts
            obtain ⟨uk, uop, uv, utb, unm, ulv⟩ := u
            dsimp only at hul' c0 c1 c2 c3 c4 c5 c6 c7
            subst hul'
            have hb4 : Below wr.heap.size wr (wr.alloc (.cells #[.int .i64 uk, .int .i64 uop, .int .i64 uv.k, .int .i64 uv.n, .string uv.s, .string utb, .string unm, .slice au x.l.length cu] TE)) := (Below.refl _ _).alloc (Nat.le_refl _) _
            have hcl := IH.out x ⟨uk, uop, uv, utb, unm, .slice au x.l.length cu⟩ _ _ HXS.out HXF.out HXM.out (hxu.later hb4) (HRW.out.later (HB.out.trans (hb4.mono HB.out.size)))
            unfold Er.val at hcl
            dsimp only at hcl
            have HKT := Lib.hid (kindsE_take (g := true) (l := l) hx)
            have HZT := Lib.hid (zero_take (g := true) (l := l) hx HZ0.out)
            have HET := Lib.hid (err_at (g := true) (l := l) hx HZ0.out)
            obtain ⟨P, hP⟩ : ∃ P, typeE true l x = P := ⟨_, rfl⟩
            obtain ⟨KX, EX⟩ := P
            rw [hP] at hcl HKT HZT HET
            dsimp only at hcl HKT HZT HET
            have HCL := Lib.hid hcl
            have HB4 := Lib.hid hb4
            have h63 : j + 1 ≤ maxLen := by unfold maxLen; omega
            have h64 : (j + 1) * 8 ≤ 140737488355328 := by omega
            clear hx hu hxu hja hju hcl hb4 hP
            by_cases hE : EX = 0
            · subst hE
              go_wp2_with (first
                | (go_at_call 10; refine HCL.out.mono ?_; rintro en w5 ⟨rfl, hb5⟩; have HB5 := Lib.hid (HB4.out.trans (hb5.mono HB4.out.size)); have HB6 := Lib.hid (HB5.out.trans (((Below.refl _ _).alloc (Nat.le_refl _) (.cells #[.int .i64 KX] 3)).mono HB5.out.size)); have HO6 := Lib.hid (owns_below HO.out HB6.out); have HF6 := Lib.hid (HF.out.later HB6.out); have HC6 := Lib.hid (Flds.new w5 3 [.int .i64 KX]); have HS6 : Hid (WX.heap.size ≤ (w5.alloc (.cells #[.int .i64 KX] 3)).heap.size) := Lib.hid (by have h1 := HZW.out; have h2 := HB6.out.size; omega); clear hb5)
                | (at_builtin; refine wpList_append_row _ rfl (.tmp 43) (.tmp 45) 72 (by rfl) WX.heap.size 3 i0 (.int .i64 0) 1 8 Try.underlying72 hi hz0 hz1 hz2 rfl (by decide) (.slice aO j cO) j (iCells (kindsE true l (e.l.take j))) (by rfl) HO6.out (.slice (some ⟨w5.heap.size, 0, none⟩) 1 1) 1 [.int .i64 KX] (by rfl) (Row.of_flds HC6.out rfl 1) (by intro u hu; simp only [List.mem_singleton] at hu; subst hu; rfl) h63 h64 HS6.out ?_; intro a9 c9 w9 hap; have HAP := Lib.hid hap; clear hap))
              go_roundw
              case rel =>
                have hlt := fun b (hb : (Value.slice aO j cO).ownBlock = some b) => (HO6.out.lt b hb).1
                have hw1 := HWL.out
                exact ⟨j + 1, a9, c9, by go_num, by omega, rfl, Lib.hid (by rw [HKT.out]; exact HAP.out.own), Lib.hid (by first | exact HZT.out rfl | exact HZT.out trivial), Lib.hid (Nat.le_trans HS6.out HAP.out.grown.size), Lib.hid (HF6.out.grown HAP.out.grown (fun e => by have := hlt _ e.symm; omega)), Lib.hid ((HB.out.trans (HB6.out.mono HB.out.size)).grown HAP.out.grown (Nat.le_trans HB.out.size HB6.out.size) (fun b e => by have := hlt b e; omega))⟩
              case measure => simp [intOf]; omega
            · have bE : (EX != 0) = true := by simpa using hE
              have HTR : Hid (T = (0, EX)) := Lib.hid (by rw [HT2.out, HET.out hE, if_pos hE])
              clear hE
              go_wp2_with (go_at_call 10; refine HCL.out.mono ?_; rintro en w5 ⟨rfl, hb5⟩; have HB5 := Lib.hid (HB4.out.trans (hb5.mono HB4.out.size)); clear hb5)
              refine bodyPost_ret (results_tmp2 rfl _ _ _) rfl ?_
              exact ⟨by rw [HTR.out]; rfl, HB.out.trans (HB5.out.mono HB.out.size)⟩
          · have dj : ¬ (j : Int) < (m : Int) := by omega
            obtain rfl : j = m := by omega
            have hz := HZ0.out
            rw [List.take_of_length_le (by have := HN.out; omega)] at hz
            have HTT : Hid (T = topT 8 rop rv rtb rnm l (kindsE true l e.l)) := Lib.hid (by
              have h0 : firstE (e.l.map (typeE true l)) = 0 := firstE_zero.2 (fun y hy => by obtain ⟨z, hz', rfl⟩ := List.mem_map.1 hy; exact hz z hz')
              rw [HT2.out, h0, if_neg (fun h => h rfl)]; rfl)
            have hown := HO.out
            rw [List.take_of_length_le (by have := HN.out; omega)] at hown
            have HKR := Lib.hid (Row.of_owns hown)
            have HK0 : Hid (∀ k ∈ kindsE true l e.l, 0 ≤ k ∧ k ≤ 3) := Lib.hid (fun k hk => by
              unfold kindsE at hk
              obtain ⟨x, hx, rfl⟩ := List.mem_map.1 hk
              exact HTK.out x hx)
            have HKL : Hid ((kindsE true l e.l).length = j) := Lib.hid (by unfold kindsE; rw [List.length_map]; exact HN.out)
            clear hown HO hz HT2
            generalize kindsE true l e.l = ks at HTT HKR HK0 HKL
            have hpp : (rop = 1 ∧ j = 0) ∨ j = 1 := by have h := HPP.out; unfold plainP at h; omega
            by_cases h1 : rop = 1
            · subst h1
              have HCA := Lib.hid (apply_count ⟨8, 1, rv, rtb, rnm, .slice av j cv⟩ av j cv rfl aO j cO ⟨rfl, rfl⟩ wr)
              unfold Er.val at HCA
              dsimp only at HCA
              have HTR : Hid (T = (2, 0)) := Lib.hid (by rw [HTT.out]; unfold topT; simp)
              clear HTT hpp
              go_wp2_with (go_at_call 23; refine HCA.out.mono ?_; rintro en w5 ⟨rfl, hb5⟩; have HB5 := Lib.hid (HB.out.trans (hb5.mono HB.out.size)); clear hb5)
              refine bodyPost_ret (results_tmp2 rfl _ _ _) rfl ?_
              exact ⟨by rw [HTR.out]; rfl, HB5.out⟩
            · obtain rfl : j = 1 := by omega
              obtain ⟨k0, rfl⟩ : ∃ k0, ks = [k0] := List.length_eq_one_iff.1 HKL.out
              have hca := apply_one ⟨8, rop, rv, rtb, rnm, .slice av 1 cv⟩ av 1 cv rfl k0 aO cO (.inr (.inr ⟨rfl, h1⟩)) wr HKR.out
              unfold Er.val at hca
              dsimp only at hca
              by_cases h2 : rop = 2
              · subst h2
                rw [if_neg (by rintro ⟨-, h⟩; exact h rfl), if_neg (by decide)] at hca
                have HCA := Lib.hid hca
                have HTR : Hid (T = onlyT 2 k0) := Lib.hid (by rw [HTT.out]; unfold topT; simp)
                clear HTT hpp hca
                go_wp2_with (go_at_call 23; refine HCA.out.mono ?_; rintro en w5 ⟨rfl, hb5⟩; have HB5 := Lib.hid (HB.out.trans (hb5.mono HB.out.size)); clear hb5)
                refine bodyPost_ret (results_tmp2 rfl _ _ _) rfl ?_
                exact ⟨by rw [HTR.out]; rfl, HB5.out⟩
              · rw [if_pos ⟨rfl, h2⟩] at hca
                have HCA := Lib.hid hca
                have HTR : Hid (T = (k0, 0)) := Lib.hid (by rw [HTT.out]; unfold topT; simp [h1, h2])
                clear HTT hpp hca h1 h2
                go_wp2_with (go_at_call 23; refine HCA.out.mono ?_; rintro en w5 ⟨rfl, hb5⟩; have HB5 := Lib.hid (HB.out.trans (hb5.mono HB.out.size)); clear hb5)
                refine bodyPost_ret (results_tmp2 rfl _ _ _) rfl ?_
                exact ⟨by rw [HTR.out]; rfl, HB5.out⟩
      · go_enter Try.func10, Try.ntmps10
        go_upto_region 1 with fail
        rw [HW1.out]
        go_upto_region 4 with (at_make; refine wpList_make_own _ rfl _ _ 72 rfl WX.heap.size 3 i0 (.int .i64 0) 1 Try.underlying72 hi hz0 hz1 .i64 .i64 _ m rfl rfl rfl (by rw [hz2]; omega) (by unfold maxLen; omega) (Nat.le_refl _) ?_; intro w2 hown0 hgrow0)
        have HWL : Hid (w.heap.size < WX.heap.size) := Lib.hid HFE.out.lt
        have HB2 := Lib.hid (HB0.out.trans ((below_grown hgrow0).mono HB0.out.size))
        have HF2 := Lib.hid (HFE.out.later (below_grown hgrow0))
        have HO2 := Lib.hid hown0
        have HZ2 : Hid (WX.heap.size ≤ w2.heap.size) := Lib.hid hgrow0.size
        clear hown0 hgrow0 e0 e1 e2 e3 e4 e5 e6 e7 l5
        obtain ⟨e0, e1, e2, e3, e4, e5, e6, e7, l2⟩ := of_fe HF2.out
        go_wp2_with fail
        go_loopw [8, 29] (fun sv i wr => ∃ (j : Nat) (aO : Option Addr) (cO : Nat), i = .int .i64 (j : Int) ∧ j ≤ m ∧ sv = .slice aO j cO ∧ Hid (wr.ownsRow WX.heap.size 3 1 (.slice aO j cO) j (iCells (kindsE g l (e.l.take j)))) ∧ Hid (∀ y ∈ e.l.take j, (typeE g l y).2 = 0) ∧ Hid (WX.heap.size ≤ wr.heap.size) ∧ Hid (Flds wr w.heap.size TE [.int .i64 rk, .int .i64 rop, .int .i64 rv.k, .int .i64 rv.n, .string rv.s, .string rtb, .string rnm, .slice av m cv]) ∧ Hid (Below w.heap.size w wr)) (fun _ i _ => m - (intOf i).toNat)
        case atStart => exact ⟨0, _, _, rfl, Nat.zero_le _, rfl, HO2, Lib.hid (by simp), HZ2, HF2, HB2⟩
        case round =>
          obtain ⟨j, aO, cO, rfl, hj, rfl, HO, HZ0, HZW, HF, HB⟩ := hrel
          clear e0 e1 e2 e3 e4 e5 e6 e7 l2
          have j0 : (0 : Int) ≤ (j : Int) := by omega
          obtain ⟨y0, y1, y2, y3, y4, y5, y6, y7, l3⟩ := of_fe HF.out
          by_cases hjn : j < m
          · have dj : (j : Int) < (m : Int) := by omega
            have hja : j < e.l.length := by have := HN.out; omega
            have hju : j < us.length := by have := HUL.out; omega
            have hx := List.getElem?_eq_getElem hja
            have hu := List.getElem?_eq_getElem hju
            have HXS := Lib.hid (HSL.out _ (List.getElem_mem hja))
            have HXF := Lib.hid (HFK.out _ (List.getElem_mem hja))
            have HXM := Lib.hid (HMK.out _ (List.getElem_mem hja))
            generalize e.l[j] = x at hx HXS HXF HXM
            generalize us[j] = u at hu
            have hxu := (HC.out j x u hx hu).later HB.out
            obtain ⟨ga, rfl, hga, c0, c1, c2, c3, c4, c5, c6, c7⟩ := part_cells (owns_below HR.out HB.out) hjn hu
            obtain ⟨d', rfl⟩ := hxu.pos
            obtain ⟨au, cu, us', hul', -⟩ := hxu.parts
            obtain ⟨uk, uop, uv, utb, unm, ulv⟩ := u
            dsimp only at hul' c0 c1 c2 c3 c4 c5 c6 c7
            subst hul'
            have hb4 : Below wr.heap.size wr (wr.alloc (.cells #[.int .i64 uk, .int .i64 uop, .int .i64 uv.k, .int .i64 uv.n, .string uv.s, .string utb, .string unm, .slice au x.l.length cu] TE)) := (Below.refl _ _).alloc (Nat.le_refl _) _
            have hcl := IH.out x ⟨uk, uop, uv, utb, unm, .slice au x.l.length cu⟩ _ _ HXS.out HXF.out HXM.out (hxu.later hb4) (HRW.out.later (HB.out.trans (hb4.mono HB.out.size)))
            unfold Er.val at hcl
            dsimp only at hcl
            have HKT := Lib.hid (kindsE_take (g := g) (l := l) hx)
            have HZT := Lib.hid (zero_take (g := g) (l := l) hx HZ0.out)
            have HET := Lib.hid (err_at (g := g) (l := l) hx HZ0.out)
            obtain ⟨P, hP⟩ : ∃ P, typeE g l x = P := ⟨_, rfl⟩
            obtain ⟨KX, EX⟩ := P
            rw [hP] at hcl HKT HZT HET
            dsimp only at hcl HKT HZT HET
            have HCL := Lib.hid hcl
            have HB4 := Lib.hid hb4
            have h63 : j + 1 ≤ maxLen := by unfold maxLen; omega
            have h64 : (j + 1) * 8 ≤ 140737488355328 := by omega
            clear hx hu hxu hja hju hcl hb4 hP
            by_cases hE : EX = 0
            · subst hE
              go_wp2_with (first
                | (go_at_call 10; refine HCL.out.mono ?_; rintro en w5 ⟨rfl, hb5⟩; have HB5 := Lib.hid (HB4.out.trans (hb5.mono HB4.out.size)); have HB6 := Lib.hid (HB5.out.trans (((Below.refl _ _).alloc (Nat.le_refl _) (.cells #[.int .i64 KX] 3)).mono HB5.out.size)); have HO6 := Lib.hid (owns_below HO.out HB6.out); have HF6 := Lib.hid (HF.out.later HB6.out); have HC6 := Lib.hid (Flds.new w5 3 [.int .i64 KX]); have HS6 : Hid (WX.heap.size ≤ (w5.alloc (.cells #[.int .i64 KX] 3)).heap.size) := Lib.hid (by have h1 := HZW.out; have h2 := HB6.out.size; omega); clear hb5)
                | (at_builtin; refine wpList_append_row _ rfl (.tmp 43) (.tmp 45) 72 (by rfl) WX.heap.size 3 i0 (.int .i64 0) 1 8 Try.underlying72 hi hz0 hz1 hz2 rfl (by decide) (.slice aO j cO) j (iCells (kindsE g l (e.l.take j))) (by rfl) HO6.out (.slice (some ⟨w5.heap.size, 0, none⟩) 1 1) 1 [.int .i64 KX] (by rfl) (Row.of_flds HC6.out rfl 1) (by intro u hu; simp only [List.mem_singleton] at hu; subst hu; rfl) h63 h64 HS6.out ?_; intro a9 c9 w9 hap; have HAP := Lib.hid hap; clear hap))
              go_roundw
              case rel =>
                have hlt := fun b (hb : (Value.slice aO j cO).ownBlock = some b) => (HO6.out.lt b hb).1
                have hw1 := HWL.out
                exact ⟨j + 1, a9, c9, by go_num, by omega, rfl, Lib.hid (by rw [HKT.out]; exact HAP.out.own), Lib.hid (by first | exact HZT.out rfl | exact HZT.out trivial), Lib.hid (Nat.le_trans HS6.out HAP.out.grown.size), Lib.hid (HF6.out.grown HAP.out.grown (fun e => by have := hlt _ e.symm; omega)), Lib.hid ((HB.out.trans (HB6.out.mono HB.out.size)).grown HAP.out.grown (Nat.le_trans HB.out.size HB6.out.size) (fun b e => by have := hlt b e; omega))⟩
              case measure => simp [intOf]; omega
            · have bE : (EX != 0) = true := by simpa using hE
              have HTR : Hid (T = (0, EX)) := Lib.hid (by rw [HT2.out, HET.out hE, if_pos hE])
              clear hE
              go_wp2_with (go_at_call 10; refine HCL.out.mono ?_; rintro en w5 ⟨rfl, hb5⟩; have HB5 := Lib.hid (HB4.out.trans (hb5.mono HB4.out.size)); clear hb5)
              refine bodyPost_ret (results_tmp2 rfl _ _ _) rfl ?_
              exact ⟨by rw [HTR.out]; rfl, HB.out.trans (HB5.out.mono HB.out.size)⟩
          · have dj : ¬ (j : Int) < (m : Int) := by omega
            obtain rfl : j = m := by omega
            have hz := HZ0.out
            rw [List.take_of_length_le (by have := HN.out; omega)] at hz
            have HTT : Hid (T = topT rk rop rv rtb rnm l (kindsE g l e.l)) := Lib.hid (by
              have h0 : firstE (e.l.map (typeE g l)) = 0 := firstE_zero.2 (fun y hy => by obtain ⟨z, hz', rfl⟩ := List.mem_map.1 hy; exact hz z hz')
              rw [HT2.out, h0, if_neg (fun h => h rfl)]; rfl)
            have hown := HO.out
            rw [List.take_of_length_le (by have := HN.out; omega)] at hown
            have HKR := Lib.hid (Row.of_owns hown)
            have HK0 : Hid (∀ k ∈ kindsE g l e.l, 0 ≤ k ∧ k ≤ 3) := Lib.hid (fun k hk => by
              unfold kindsE at hk
              obtain ⟨x, hx, rfl⟩ := List.mem_map.1 hk
              exact HTK.out x hx)
            have HKL : Hid ((kindsE g l e.l).length = j) := Lib.hid (by unfold kindsE; rw [List.length_map]; exact HN.out)
            clear hown HO hz HT2
            generalize kindsE g l e.l = ks at HTT HKR HK0 HKL
            have hpp := HPP.out
            unfold plainP at hpp
            have hrw := HRW.out.later HB.out
            rcases hpp with ⟨rfl, -⟩ | ⟨rfl, -, -, -⟩ | ⟨rfl, -, -, -, hj2, ho1, ho2⟩ | ⟨hk', -, -, -, -, hj1⟩ | ⟨rfl, -⟩
            · have HTR : Hid (T = (rv.k, 0)) := Lib.hid (by rw [HTT.out]; unfold topT; simp)
              clear HTT hrw b8
              go_wp2_with fail
              refine bodyPost_ret (results_tmp2 rfl _ _ _) rfl ?_
              exact ⟨by rw [HTR.out]; rfl, HB.out⟩
            · have hca := find_any a n cap l ⟨2, rop, rv, rtb, rnm, .slice av j cv⟩ av j cv rfl HLN.out hn8 wr hrw
              unfold Er.val at hca
              dsimp only at hca
              have HCA := Lib.hid hca
              have HFL := Lib.hid (fun (hf : (findF l rtb rnm).2 = 0) => findF_lt hf)
              have HTR : Hid (T = if (findF l rtb rnm).2 = 0 then ((l.getD (findF l rtb rnm).1 ⟨ByteArray.empty, ByteArray.empty, 0⟩).k, 0) else (0, (findF l rtb rnm).2)) := Lib.hid (by rw [HTT.out]; rfl)
              obtain ⟨P, hP⟩ : ∃ P, findF l rtb rnm = P := ⟨_, rfl⟩
              obtain ⟨F, E⟩ := P
              rw [hP] at HCA HFL HTR
              dsimp only at HCA HFL HTR
              have HRF := Lib.hid hrw
              clear HTT hrw hca b8 hP
              by_cases hE : E = 0
              · subst hE
                have hF := HFL.out rfl
                have hFn : F < n := by rw [← HLN.out]; exact hF
                obtain ⟨f, hf⟩ : ∃ f, l[F]? = some f := ⟨_, List.getElem?_eq_getElem hF⟩
                obtain ⟨bF, oF, rfl, hcs⟩ := fd_at HRF.out hFn hf
                have HCS := Lib.hid hcs
                have HTS : Hid (T = (f.k, 0)) := Lib.hid (by rw [HTR.out, if_pos rfl, List.getD_eq_getElem?_getD, hf]; rfl)
                have F0 : (0 : Int) ≤ (F : Int) := by omega
                have F1 : (F : Int) < (n : Int) := by omega
                clear hcs HTR HFL hF hf
                go_wp2_with (go_at_call 22; refine HCA.out.mono ?_; rintro en w5 ⟨rfl, hb5⟩; obtain ⟨q0, q1, q2, lq⟩ := HCS.out w5 hb5; have HB5 := Lib.hid (HB.out.trans (hb5.mono HB.out.size)); clear hb5)
                refine bodyPost_ret (results_tmp2 rfl _ _ _) rfl ?_
                exact ⟨by rw [HTS.out]; rfl, HB5.out⟩
              · have bE : (E != 0) = true := by simpa using hE
                have HTS : Hid (T = (0, E)) := Lib.hid (by rw [HTR.out, if_neg hE])
                clear HTR HFL hE
                go_wp2_with (go_at_call 22; refine HCA.out.mono ?_; rintro en w5 ⟨rfl, hb5⟩; have HB5 := Lib.hid (HB.out.trans (hb5.mono HB.out.size)); clear hb5)
                refine bodyPost_ret (results_tmp2 rfl _ _ _) rfl ?_
                exact ⟨by rw [HTS.out]; rfl, HB5.out⟩
            · subst hj2
              obtain ⟨k0, k1, rfl⟩ : ∃ k0 k1, ks = [k0, k1] := by
                have := HKL.out
                match ks, this with
                | [x, y], _ => exact ⟨x, y, rfl⟩
              have hca := apply_bin ⟨3, rop, rv, rtb, rnm, .slice av 2 cv⟩ av 2 cv rfl k0 k1 aO cO rfl ⟨ho1, ho2⟩ (HK0.out k0 (by simp)) (HK0.out k1 (by simp)) wr HKR.out
              unfold Er.val at hca
              dsimp only at hca
              have HCA := Lib.hid hca
              have HTR : Hid (T = binT rop k0 k1) := Lib.hid (by rw [HTT.out]; rfl)
              clear HTT hca b8 ho1 ho2
              go_wp2_with (go_at_call 23; refine HCA.out.mono ?_; rintro en w5 ⟨rfl, hb5⟩; have HB5 := Lib.hid (HB.out.trans (hb5.mono HB.out.size)); clear hb5)
              refine bodyPost_ret (results_tmp2 rfl _ _ _) rfl ?_
              exact ⟨by rw [HTR.out]; rfl, HB5.out⟩
            · subst hj1
              obtain ⟨k0, rfl⟩ : ∃ k0, ks = [k0] := List.length_eq_one_iff.1 HKL.out
              rcases hk' with rfl | rfl | rfl | rfl
              · have hca := apply_one ⟨4, rop, rv, rtb, rnm, .slice av 1 cv⟩ av 1 cv rfl k0 aO cO (.inl rfl) wr HKR.out
                unfold Er.val at hca
                dsimp only at hca
                rw [if_neg (by rintro ⟨h, -⟩; revert h; decide), if_pos rfl] at hca
                have HCA := Lib.hid hca
                have HTR : Hid (T = onlyT 1 k0) := Lib.hid (by rw [HTT.out]; unfold topT; simp)
                clear HTT hca b8
                go_wp2_with (go_at_call 23; refine HCA.out.mono ?_; rintro en w5 ⟨rfl, hb5⟩; have HB5 := Lib.hid (HB.out.trans (hb5.mono HB.out.size)); clear hb5)
                refine bodyPost_ret (results_tmp2 rfl _ _ _) rfl ?_
                exact ⟨by rw [HTR.out]; rfl, HB5.out⟩
              · have hca := apply_one ⟨5, rop, rv, rtb, rnm, .slice av 1 cv⟩ av 1 cv rfl k0 aO cO (.inr (.inl rfl)) wr HKR.out
                unfold Er.val at hca
                dsimp only at hca
                rw [if_neg (by rintro ⟨h, -⟩; revert h; decide), if_neg (by decide)] at hca
                have HCA := Lib.hid hca
                have HTR : Hid (T = onlyT 2 k0) := Lib.hid (by rw [HTT.out]; unfold topT; simp)
                clear HTT hca b8
                go_wp2_with (go_at_call 23; refine HCA.out.mono ?_; rintro en w5 ⟨rfl, hb5⟩; have HB5 := Lib.hid (HB.out.trans (hb5.mono HB.out.size)); clear hb5)
                refine bodyPost_ret (results_tmp2 rfl _ _ _) rfl ?_
                exact ⟨by rw [HTR.out]; rfl, HB5.out⟩
              · have HTR : Hid (T = (1, 0)) := Lib.hid (by rw [HTT.out]; unfold topT; simp)
                clear HTT b8
                go_wp2_with fail
                refine bodyPost_ret (results_tmp2 rfl _ _ _) rfl ?_
                exact ⟨by rw [HTR.out]; rfl, HB.out⟩
              · have HTR : Hid (T = (1, 0)) := Lib.hid (by rw [HTT.out]; unfold topT; simp)
                clear HTT b8
                go_wp2_with fail
                refine bodyPost_ret (results_tmp2 rfl _ _ _) rfl ?_
                exact ⟨by rw [HTR.out]; rfl, HB.out⟩
            · simp at b8
end Go.Proofs.Ytjnlimahcodomaa.ck
