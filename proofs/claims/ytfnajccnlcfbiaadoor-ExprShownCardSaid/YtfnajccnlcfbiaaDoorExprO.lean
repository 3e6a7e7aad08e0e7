/- Which expressions may be: the program's walk through the tree. -/
import Derived.Test.YtfnajccnlcfbiaaDoorExprM
import Derived.Test.YtfnajccnlcfbiaaDoorExprN
namespace Go.Proofs.YtfnajccnlcfbiaaDoor.ex
set_option linter.unusedVariables false
open Go.RowKit
open val (V null veq6 gB ag3)
open lx (goodL)
attribute [local go_sem] Oper.semAt_some
theorem all_take {α : Type} {p : α → Prop} {l : List α} {j : Nat} {x : α} (h : ∀ y ∈ l.take j, p y) (hx : l[j]? = some x) (hp : p x) : ∀ y ∈ l.take (j + 1), p y := by
  intro y hy
  rw [List.take_add_one, hx] at hy
  rcases List.mem_append.1 hy with hy | hy
  · exact h y hy
  · simp only [Option.toList_some, List.mem_singleton] at hy
    rw [hy]; exact hp
set_option maxRecDepth 100000 in
set_option maxHeartbeats 4000000 in
theorem good_deep : ∀ (dp : Nat), dp ≤ 20 → ∀ (d : Nat) (X : Nat → Prop) (e : Ex) (r : Er) (w : World) (g : Bool), e.slim → Fit e → ExAt TE X d w e r →
    Calls Tryd.prog 22 #[r.val, .int .i64 (dp : Nat), .bool g] w fun en w' => en = .returned (.bool (goodB dp e g)) ∧ Below w.heap.size w w'
  | 0, _, d, X, e, r, w, g, hsl, hft, h => by
    obtain ⟨d', rfl⟩ := h.pos
    obtain ⟨av, cv, us, hlv, -⟩ := h.parts
    have hno : Hid (goodB 0 e g = false) := Lib.hid (pB_false (by unfold goodE; exact id))
    obtain ⟨rk, rop, rv, rtb, rnm, rlv⟩ := r
    dsimp only at hlv
    subst hlv
    clear h
    unfold Er.val
    dsimp only
    go_enter Tryd.func22, Tryd.ntmps22
    go_wp2_with fail
    go_ret
    exact ⟨by first | (rw [hno.out]; done) | (rw [hno.out]; rfl), (Below.refl _ _).alloc (Nat.le_refl _) _⟩
  | dp + 1, hd, d0, X, e, r, w, g, hsl, hft, h => by
    have IH := Lib.hid (fun (d : Nat) (e : Ex) (r : Er) (w : World) (g : Bool) (hs : e.slim) (hf : Fit e) (h : ExAt TE X d w e r) => good_deep dp (by omega) d X e r w g hs hf h)
    obtain ⟨d, rfl⟩ := h.pos
    obtain ⟨av, cv, us, hlv, hul, hrow, hch⟩ := h.parts
    obtain ⟨hsl1, hsl2⟩ := Ex.slim_parts hsl
    have hfs := hft.self
    have HFK := Lib.hid (fun x (hx : x ∈ e.l) => hft.kid hx)
    obtain ⟨f1, f2, f3, f4, f5, -⟩ := h
    have HGK := Lib.hid (goodE_kids (d := dp) (e := e) (g := g))
    obtain ⟨n, hn⟩ : ∃ n, e.l.length = n := ⟨_, rfl⟩
    rw [hn] at hlv hul hrow hsl1
    have HPL0 := Lib.hid (plain_any r av cv n hlv hsl1 (by rw [f5]; have := hfs.1; omega) (by rw [f4]; have := hfs.2.1; omega))
    obtain ⟨P, hP⟩ : ∃ P, plainB r.k r.op r.v r.tb r.nm n = P := ⟨_, rfl⟩
    have HP : Hid (P = pB e.plain) := Lib.hid (by rw [← hP, f1, f2, f3, f4, f5, ← hn]; rfl)
    have HK : Hid (e.k = r.k) := Lib.hid f1.symm
    rw [hP] at HPL0
    have HN := Lib.hid hn; have HUL := Lib.hid hul; have HR := Lib.hid hrow; have HC := Lib.hid hch; have HSL := Lib.hid hsl2
    have hn0 : (0 : Int) ≤ (n : Int) := by omega
    have hn1 : (n : Int) ≤ 1000 := by omega
    have d0' : (0 : Int) ≤ (dp : Int) := by omega
    have d1' : (dp : Int) ≤ 20 := by omega
    have hcast : (((dp + 1 : Nat) : Nat) : Int) = (dp : Int) + 1 := by omega
    have hnz : ((dp : Int) + 1 == 0) = false := by simp; omega
    rw [hcast]
    clear hcast
    obtain ⟨rk, rop, rv, rtb, rnm, rlv⟩ := r
    dsimp only at hlv
    subst hlv
    unfold Er.val at HPL0 ⊢
    dsimp only at HPL0 HK ⊢
    have HPW := Lib.hid (fun (W : World) => HPL0.out W)
    clear hn hul hrow hch hsl hsl2 hft hfs f1 f2 f3 f4 f5 hP HPL0
    have hfe : Flds (w.alloc (.cells #[.int .i64 rk, .int .i64 rop, .int .i64 rv.k, .int .i64 rv.n, .string rv.s, .string rtb, .string rnm, .slice av n cv] TE)) w.heap.size TE [.int .i64 rk, .int .i64 rop, .int .i64 rv.k, .int .i64 rv.n, .string rv.s, .string rtb, .string rnm, .slice av n cv] := Flds.new w TE _
    have hb0 : Below w.heap.size w (w.alloc (.cells #[.int .i64 rk, .int .i64 rop, .int .i64 rv.k, .int .i64 rv.n, .string rv.s, .string rtb, .string rnm, .slice av n cv] TE)) := (Below.refl _ _).alloc (Nat.le_refl _) _
    obtain ⟨W1, hW1⟩ : ∃ W1, (w.alloc (.cells #[.int .i64 rk, .int .i64 rop, .int .i64 rv.k, .int .i64 rv.n, .string rv.s, .string rtb, .string rnm, .slice av n cv] TE)) = W1 := ⟨_, rfl⟩
    rw [hW1] at hfe hb0
    have HFE := Lib.hid hfe; have HB0 := Lib.hid hb0; have HW1 := Lib.hid hW1
    clear hfe hb0 hW1
    cases P with
    | false =>
      have hno : Hid (goodB (dp + 1) e g = false) := Lib.hid (pB_false (fun h => pB_no.1 HP.out.symm (HGK.out.1 h).1))
      go_enter Tryd.func22, Tryd.ntmps22
      go_upto_region 1 with fail
      rw [HW1.out]
      obtain ⟨q0, q1, q2, q3, q4, q5, q6, q7, l1⟩ := of_fe HFE.out
      go_wp2_with (go_at_call 31; refine (HPW.out _).mono ?_; rintro en w2 ⟨rfl, hb2⟩; have HB2 := Lib.hid (HB0.out.trans (hb2.mono HB0.out.size)); have HF2 := Lib.hid (HFE.out.later hb2); obtain ⟨e0, e1, e2, e3, e4, e5, e6, e7, l2⟩ := of_fe HF2.out; clear hb2)
      go_ret
      exact ⟨by first | (rw [hno.out]; done) | (rw [hno.out]; rfl), HB2.out⟩
    | true =>
      by_cases k8 : rk = 8
      · have b8 : (rk == 8) = true := by simp [k8]
        have bn8 : (rk != 8) = false := by simp [k8]
        have B8 := Lib.hid k8
        clear k8
        cases g with
        | false =>
          have hno : Hid (goodB (dp + 1) e false = false) := Lib.hid (pB_false (fun h => (HGK.out.1 h).2.1 ⟨by rw [HK.out]; exact B8.out, rfl⟩))
          go_enter Tryd.func22, Tryd.ntmps22
          go_upto_region 1 with fail
          rw [HW1.out]
          obtain ⟨q0, q1, q2, q3, q4, q5, q6, q7, l1⟩ := of_fe HFE.out
          go_wp2_with (go_at_call 31; refine (HPW.out _).mono ?_; rintro en w2 ⟨rfl, hb2⟩; have HB2 := Lib.hid (HB0.out.trans (hb2.mono HB0.out.size)); have HF2 := Lib.hid (HFE.out.later hb2); obtain ⟨e0, e1, e2, e3, e4, e5, e6, e7, l2⟩ := of_fe HF2.out; clear hb2)
          go_ret
          exact ⟨by first | (rw [hno.out]; done) | (rw [hno.out]; rfl), HB2.out⟩
        | true =>
          go_enter Tryd.func22, Tryd.ntmps22
          go_upto_region 1 with fail
          rw [HW1.out]
          obtain ⟨q0, q1, q2, q3, q4, q5, q6, q7, l1⟩ := of_fe HFE.out
          go_wp2_with (go_at_call 31; refine (HPW.out _).mono ?_; rintro en w2 ⟨rfl, hb2⟩; have HB2 := Lib.hid (HB0.out.trans (hb2.mono HB0.out.size)); have HF2 := Lib.hid (HFE.out.later hb2); obtain ⟨e0, e1, e2, e3, e4, e5, e6, e7, l2⟩ := of_fe HF2.out; clear hb2)
          go_loopw [28] (fun i wr => ∃ j : Nat, i = .int .i64 (j : Int) ∧ j ≤ n ∧ Hid (∀ x ∈ e.l.take j, goodE dp x false) ∧ Hid (Below w2.heap.size w2 wr)) (fun i _ => n - (intOf i).toNat)
          case atStart => exact ⟨0, rfl, Nat.zero_le _, Lib.hid (fun x hx => by simp at hx), Lib.hid (Below.refl _ _)⟩
          case round =>
            obtain ⟨j, rfl, hj, HALL, HB⟩ := hrel
            have j0 : (0 : Int) ≤ (j : Int) := by omega
            have HBW := Lib.hid (HB2.out.trans (HB.out.mono HB2.out.size))
            obtain ⟨y0, y1, y2, y3, y4, y5, y6, y7, l3⟩ := of_fe (HF2.out.later HB.out)
            by_cases hjn : j < n
            · have dj : (j : Int) < (n : Int) := by omega
              have hja : j < e.l.length := by have := HN.out; omega
              have hju : j < us.length := by have := HUL.out; omega
              have hx := List.getElem?_eq_getElem hja
              have hu := List.getElem?_eq_getElem hju
              have HXS := Lib.hid (HSL.out _ (List.getElem_mem hja))
              have HXF := Lib.hid (HFK.out _ (List.getElem_mem hja))
              have HXM := Lib.hid (List.getElem_mem hja)
              generalize e.l[j] = x at hx HXS HXF HXM
              generalize us[j] = u at hu
              have hxu := (HC.out j x u hx hu).later HBW.out
              obtain ⟨ga, rfl, hga, c0, c1, c2, c3, c4, c5, c6, c7⟩ := part_cells (owns_below HR.out HBW.out) hjn hu
              obtain ⟨d', rfl⟩ := hxu.pos
              obtain ⟨au, cu, us', hul', -⟩ := hxu.parts
              obtain ⟨uk, uop, uv, utb, unm, ulv⟩ := u
              dsimp only at hul' c0 c1 c2 c3 c4 c5 c6 c7
              subst hul'
              obtain ⟨Gx, hGx⟩ : ∃ Gx, goodB dp x false = Gx := ⟨_, rfl⟩
              have HGX := Lib.hid hGx
              have hb4 : Below wr.heap.size wr (wr.alloc (.cells #[.int .i64 uk, .int .i64 uop, .int .i64 uv.k, .int .i64 uv.n, .string uv.s, .string utb, .string unm, .slice au x.l.length cu] TE)) := (Below.refl _ _).alloc (Nat.le_refl _) _
              have HB4 := Lib.hid hb4
              have hcl := IH.out _ x ⟨uk, uop, uv, utb, unm, .slice au x.l.length cu⟩ _ false HXS.out HXF.out (hxu.later hb4)
              rw [hGx] at hcl
              unfold Er.val at hcl
              dsimp only at hcl
              have HCL := Lib.hid hcl
              have hz0 := (HF2.out.later HB.out).alloc (.cells #[.int .i64 uk, .int .i64 uop, .int .i64 uv.k, .int .i64 uv.n, .string uv.s, .string utb, .string unm, .slice au x.l.length cu] TE)
              have HXX := Lib.hid hx
              clear hx hu hxu hja hju hcl hb4 hGx hz0
              cases Gx with
              | false =>
                have hno : Hid (goodB (dp + 1) e true = false) := Lib.hid (pB_false (fun h => by have h1 := (HGK.out.1 h).2.2 x HXM.out; rw [HK.out] at h1; exact (pB_no.1 HGX.out) (by simpa [bn8] using h1)))
                go_wp2_with (go_at_call 22; refine HCL.out.mono ?_; rintro en w5 ⟨rfl, hb5⟩; have HB5 := Lib.hid (HB4.out.trans (hb5.mono HB4.out.size)); clear hb5)
                go_ret
                exact ⟨by first | (rw [hno.out]; done) | (rw [hno.out]; rfl), HBW.out.trans (HB5.out.mono HBW.out.size)⟩
              | true =>
                go_wp2_with (go_at_call 22; refine HCL.out.mono ?_; rintro en w5 ⟨rfl, hb5⟩; have HB5 := Lib.hid (HB4.out.trans (hb5.mono HB4.out.size)); clear hb5)
                go_roundw
                case rel => exact ⟨j + 1, by go_num, by omega, Lib.hid (all_take HALL.out HXX.out (pB_iff.1 HGX.out)), Lib.hid (HB.out.trans (HB5.out.mono HB.out.size))⟩
                case measure => simp [intOf]; omega
            · have dj : ¬ (j : Int) < (n : Int) := by omega
              have hyes : Hid (goodB (dp + 1) e true = true) := Lib.hid (pB_yes (HGK.out.2 ⟨pB_iff.1 HP.out.symm, by rw [HK.out]; simp [B8.out], fun x hx => by rw [HK.out]; have := HALL.out x (by rw [List.take_of_length_le (by have := HN.out; omega)]; exact hx); simpa [bn8] using this⟩))
              go_wp2_with fail
              go_ret
              exact ⟨by first | (rw [hyes.out]; done) | (rw [hyes.out]; rfl), HBW.out⟩
      · have b8 : (rk == 8) = false := by simp [k8]
        have bn8 : (rk != 8) = true := by simp [k8]
        have B8 := Lib.hid k8
        clear k8
        cases g with
        | false =>
          go_enter Tryd.func22, Tryd.ntmps22
          go_upto_region 1 with fail
          rw [HW1.out]
          obtain ⟨q0, q1, q2, q3, q4, q5, q6, q7, l1⟩ := of_fe HFE.out
          go_wp2_with (go_at_call 31; refine (HPW.out _).mono ?_; rintro en w2 ⟨rfl, hb2⟩; have HB2 := Lib.hid (HB0.out.trans (hb2.mono HB0.out.size)); have HF2 := Lib.hid (HFE.out.later hb2); obtain ⟨e0, e1, e2, e3, e4, e5, e6, e7, l2⟩ := of_fe HF2.out; clear hb2)
          go_loopw [28] (fun i wr => ∃ j : Nat, i = .int .i64 (j : Int) ∧ j ≤ n ∧ Hid (∀ x ∈ e.l.take j, goodE dp x false) ∧ Hid (Below w2.heap.size w2 wr)) (fun i _ => n - (intOf i).toNat)
          case atStart => exact ⟨0, rfl, Nat.zero_le _, Lib.hid (fun x hx => by simp at hx), Lib.hid (Below.refl _ _)⟩
          case round =>
            obtain ⟨j, rfl, hj, HALL, HB⟩ := hrel
            have j0 : (0 : Int) ≤ (j : Int) := by omega
            have HBW := Lib.hid (HB2.out.trans (HB.out.mono HB2.out.size))
            obtain ⟨y0, y1, y2, y3, y4, y5, y6, y7, l3⟩ := of_fe (HF2.out.later HB.out)
            by_cases hjn : j < n
            · have dj : (j : Int) < (n : Int) := by omega
              have hja : j < e.l.length := by have := HN.out; omega
              have hju : j < us.length := by have := HUL.out; omega
              have hx := List.getElem?_eq_getElem hja
              have hu := List.getElem?_eq_getElem hju
              have HXS := Lib.hid (HSL.out _ (List.getElem_mem hja))
              have HXF := Lib.hid (HFK.out _ (List.getElem_mem hja))
              have HXM := Lib.hid (List.getElem_mem hja)
              generalize e.l[j] = x at hx HXS HXF HXM
              generalize us[j] = u at hu
              have hxu := (HC.out j x u hx hu).later HBW.out
              obtain ⟨ga, rfl, hga, c0, c1, c2, c3, c4, c5, c6, c7⟩ := part_cells (owns_below HR.out HBW.out) hjn hu
              obtain ⟨d', rfl⟩ := hxu.pos
              obtain ⟨au, cu, us', hul', -⟩ := hxu.parts
              obtain ⟨uk, uop, uv, utb, unm, ulv⟩ := u
              dsimp only at hul' c0 c1 c2 c3 c4 c5 c6 c7
              subst hul'
              obtain ⟨Gx, hGx⟩ : ∃ Gx, goodB dp x false = Gx := ⟨_, rfl⟩
              have HGX := Lib.hid hGx
              have hb4 : Below wr.heap.size wr (wr.alloc (.cells #[.int .i64 uk, .int .i64 uop, .int .i64 uv.k, .int .i64 uv.n, .string uv.s, .string utb, .string unm, .slice au x.l.length cu] TE)) := (Below.refl _ _).alloc (Nat.le_refl _) _
              have HB4 := Lib.hid hb4
              have hcl := IH.out _ x ⟨uk, uop, uv, utb, unm, .slice au x.l.length cu⟩ _ false HXS.out HXF.out (hxu.later hb4)
              rw [hGx] at hcl
              unfold Er.val at hcl
              dsimp only at hcl
              have HCL := Lib.hid hcl
              have hz0 := (HF2.out.later HB.out).alloc (.cells #[.int .i64 uk, .int .i64 uop, .int .i64 uv.k, .int .i64 uv.n, .string uv.s, .string utb, .string unm, .slice au x.l.length cu] TE)
              have HXX := Lib.hid hx
              clear hx hu hxu hja hju hcl hb4 hGx hz0
              cases Gx with
              | false =>
                have hno : Hid (goodB (dp + 1) e false = false) := Lib.hid (pB_false (fun h => by have h1 := (HGK.out.1 h).2.2 x HXM.out; rw [HK.out] at h1; exact (pB_no.1 HGX.out) (by simpa [bn8] using h1)))
                go_wp2_with (go_at_call 22; refine HCL.out.mono ?_; rintro en w5 ⟨rfl, hb5⟩; have HB5 := Lib.hid (HB4.out.trans (hb5.mono HB4.out.size)); clear hb5)
                go_ret
                exact ⟨by first | (rw [hno.out]; done) | (rw [hno.out]; rfl), HBW.out.trans (HB5.out.mono HBW.out.size)⟩
              | true =>
                go_wp2_with (go_at_call 22; refine HCL.out.mono ?_; rintro en w5 ⟨rfl, hb5⟩; have HB5 := Lib.hid (HB4.out.trans (hb5.mono HB4.out.size)); clear hb5)
                go_roundw
                case rel => exact ⟨j + 1, by go_num, by omega, Lib.hid (all_take HALL.out HXX.out (pB_iff.1 HGX.out)), Lib.hid (HB.out.trans (HB5.out.mono HB.out.size))⟩
                case measure => simp [intOf]; omega
            · have dj : ¬ (j : Int) < (n : Int) := by omega
              have hyes : Hid (goodB (dp + 1) e false = true) := Lib.hid (pB_yes (HGK.out.2 ⟨pB_iff.1 HP.out.symm, by rw [HK.out]; simp [B8.out], fun x hx => by rw [HK.out]; have := HALL.out x (by rw [List.take_of_length_le (by have := HN.out; omega)]; exact hx); simpa [bn8] using this⟩))
              go_wp2_with fail
              go_ret
              exact ⟨by first | (rw [hyes.out]; done) | (rw [hyes.out]; rfl), HBW.out⟩
        | true =>
          go_enter Tryd.func22, Tryd.ntmps22
          go_upto_region 1 with fail
          rw [HW1.out]
          obtain ⟨q0, q1, q2, q3, q4, q5, q6, q7, l1⟩ := of_fe HFE.out
          go_wp2_with (go_at_call 31; refine (HPW.out _).mono ?_; rintro en w2 ⟨rfl, hb2⟩; have HB2 := Lib.hid (HB0.out.trans (hb2.mono HB0.out.size)); have HF2 := Lib.hid (HFE.out.later hb2); obtain ⟨e0, e1, e2, e3, e4, e5, e6, e7, l2⟩ := of_fe HF2.out; clear hb2)
          go_loopw [28] (fun i wr => ∃ j : Nat, i = .int .i64 (j : Int) ∧ j ≤ n ∧ Hid (∀ x ∈ e.l.take j, goodE dp x true) ∧ Hid (Below w2.heap.size w2 wr)) (fun i _ => n - (intOf i).toNat)
          case atStart => exact ⟨0, rfl, Nat.zero_le _, Lib.hid (fun x hx => by simp at hx), Lib.hid (Below.refl _ _)⟩
          case round =>
            obtain ⟨j, rfl, hj, HALL, HB⟩ := hrel
            have j0 : (0 : Int) ≤ (j : Int) := by omega
            have HBW := Lib.hid (HB2.out.trans (HB.out.mono HB2.out.size))
            obtain ⟨y0, y1, y2, y3, y4, y5, y6, y7, l3⟩ := of_fe (HF2.out.later HB.out)
            by_cases hjn : j < n
            · have dj : (j : Int) < (n : Int) := by omega
              have hja : j < e.l.length := by have := HN.out; omega
              have hju : j < us.length := by have := HUL.out; omega
              have hx := List.getElem?_eq_getElem hja
              have hu := List.getElem?_eq_getElem hju
              have HXS := Lib.hid (HSL.out _ (List.getElem_mem hja))
              have HXF := Lib.hid (HFK.out _ (List.getElem_mem hja))
              have HXM := Lib.hid (List.getElem_mem hja)
              generalize e.l[j] = x at hx HXS HXF HXM
              generalize us[j] = u at hu
              have hxu := (HC.out j x u hx hu).later HBW.out
              obtain ⟨ga, rfl, hga, c0, c1, c2, c3, c4, c5, c6, c7⟩ := part_cells (owns_below HR.out HBW.out) hjn hu
              obtain ⟨d', rfl⟩ := hxu.pos
              obtain ⟨au, cu, us', hul', -⟩ := hxu.parts
              obtain ⟨uk, uop, uv, utb, unm, ulv⟩ := u
              dsimp only at hul' c0 c1 c2 c3 c4 c5 c6 c7
              subst hul'
              obtain ⟨Gx, hGx⟩ : ∃ Gx, goodB dp x true = Gx := ⟨_, rfl⟩
              have HGX := Lib.hid hGx
              have hb4 : Below wr.heap.size wr (wr.alloc (.cells #[.int .i64 uk, .int .i64 uop, .int .i64 uv.k, .int .i64 uv.n, .string uv.s, .string utb, .string unm, .slice au x.l.length cu] TE)) := (Below.refl _ _).alloc (Nat.le_refl _) _
              have HB4 := Lib.hid hb4
              have hcl := IH.out _ x ⟨uk, uop, uv, utb, unm, .slice au x.l.length cu⟩ _ true HXS.out HXF.out (hxu.later hb4)
              rw [hGx] at hcl
              unfold Er.val at hcl
              dsimp only at hcl
              have HCL := Lib.hid hcl
              have hz0 := (HF2.out.later HB.out).alloc (.cells #[.int .i64 uk, .int .i64 uop, .int .i64 uv.k, .int .i64 uv.n, .string uv.s, .string utb, .string unm, .slice au x.l.length cu] TE)
              have HXX := Lib.hid hx
              clear hx hu hxu hja hju hcl hb4 hGx hz0
              cases Gx with
              | false =>
                have hno : Hid (goodB (dp + 1) e true = false) := Lib.hid (pB_false (fun h => by have h1 := (HGK.out.1 h).2.2 x HXM.out; rw [HK.out] at h1; exact (pB_no.1 HGX.out) (by simpa [bn8] using h1)))
                go_wp2_with (go_at_call 22; refine HCL.out.mono ?_; rintro en w5 ⟨rfl, hb5⟩; have HB5 := Lib.hid (HB4.out.trans (hb5.mono HB4.out.size)); clear hb5)
                go_ret
                exact ⟨by first | (rw [hno.out]; done) | (rw [hno.out]; rfl), HBW.out.trans (HB5.out.mono HBW.out.size)⟩
              | true =>
                go_wp2_with (go_at_call 22; refine HCL.out.mono ?_; rintro en w5 ⟨rfl, hb5⟩; have HB5 := Lib.hid (HB4.out.trans (hb5.mono HB4.out.size)); clear hb5)
                go_roundw
                case rel => exact ⟨j + 1, by go_num, by omega, Lib.hid (all_take HALL.out HXX.out (pB_iff.1 HGX.out)), Lib.hid (HB.out.trans (HB5.out.mono HB.out.size))⟩
                case measure => simp [intOf]; omega
            · have dj : ¬ (j : Int) < (n : Int) := by omega
              have hyes : Hid (goodB (dp + 1) e true = true) := Lib.hid (pB_yes (HGK.out.2 ⟨pB_iff.1 HP.out.symm, by rw [HK.out]; simp [B8.out], fun x hx => by rw [HK.out]; have := HALL.out x (by rw [List.take_of_length_le (by have := HN.out; omega)]; exact hx); simpa [bn8] using this⟩))
              go_wp2_with fail
              go_ret
              exact ⟨by first | (rw [hyes.out]; done) | (rw [hyes.out]; rfl), HBW.out⟩
set_option maxRecDepth 100000 in
set_option maxHeartbeats 4000000 in
theorem egood_any {d : Nat} {X : Nat → Prop} {e : Ex} {r : Er} {w : World} (hsl : e.slim) (hft : Fit e) (h : ExAt TE X d w e r) :
    Calls Tryd.prog 10 #[r.val] w fun en w' => en = .returned (.bool (goodB 20 e true)) ∧ Below w.heap.size w w' := by
  obtain ⟨d', rfl⟩ := h.pos
  obtain ⟨av, cv, us, hlv, -⟩ := h.parts
  obtain ⟨rk, rop, rv, rtb, rnm, rlv⟩ := r
  dsimp only at hlv
  subst hlv
  have hb0 : Below w.heap.size w (w.alloc (.cells #[.int .i64 rk, .int .i64 rop, .int .i64 rv.k, .int .i64 rv.n, .string rv.s, .string rtb, .string rnm, .slice av e.l.length cv] TE)) := (Below.refl _ _).alloc (Nat.le_refl _) _
  have HB0 := Lib.hid hb0
  have hcl := good_deep 20 (by decide) (d' + 1) X e ⟨rk, rop, rv, rtb, rnm, .slice av e.l.length cv⟩ (w.alloc (.cells #[.int .i64 rk, .int .i64 rop, .int .i64 rv.k, .int .i64 rv.n, .string rv.s, .string rtb, .string rnm, .slice av e.l.length cv] TE)) true hsl hft (h.later hb0)
  unfold Er.val at hcl ⊢
  dsimp only at hcl ⊢
  have HCL := Lib.hid hcl
  clear hcl hb0 h
  go_enter Tryd.func10, Tryd.ntmps10
  go_wp2_with (go_at_call 22; refine HCL.out.mono ?_; rintro en w5 ⟨rfl, hb5⟩; have HB5 := Lib.hid (HB0.out.trans (hb5.mono HB0.out.size)); clear hb5)
  go_ret
  exact ⟨rfl, HB5.out⟩
end Go.Proofs.YtfnajccnlcfbiaaDoor.ex
