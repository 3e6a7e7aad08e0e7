/- How an expression is shown: the document's text; walked. -/
import Derived.Test.YtfnajccnlcfbiaaDoorExprS
import Derived.Test.YtfnajccnlcfbiaaDoorExprQ
import Derived.Test.YtfnajccnlcfbiaaDoorJBC
namespace Go.Proofs.YtfnajccnlcfbiaaDoor.ex
set_option linter.unusedVariables false
open Go.RowKit
open val (V null veq6 gB ag3 gMax Pow10 showV)
attribute [local go_sem] Oper.semAt_some
theorem count_cat : (⟨#[67, 79, 85, 78, 84]⟩ : ByteArray) ++ ⟨#[40, 42, 41]⟩ = ⟨#[67, 79, 85, 78, 84, 40, 42, 41]⟩ := by
  apply ByteArray.ext
  simp
set_option maxRecDepth 100000 in
set_option maxHeartbeats 4000000 in
theorem operator_any (op : Nat) (h0 : 1 ≤ op) (h1 : op ≤ 14) (w : World) : Calls Tryd.prog 21 #[.int .i64 (op : Nat)] w fun en w' => en = .returned (.string (signE (op : Int))) ∧ Below w.heap.size w w' := by
  have hb : ∀ o, Below w.heap.size w (w.alloc o) := fun o => (Below.refl _ _).alloc (Nat.le_refl _) _
  rcases (by omega : op = 1 ∨ op = 2 ∨ op = 3 ∨ op = 4 ∨ op = 5 ∨ op = 6 ∨ op = 7 ∨ op = 8 ∨ op = 9 ∨ op = 10 ∨ op = 11 ∨ op = 12 ∨ op = 13 ∨ op = 14) with rfl | rfl | rfl | rfl | rfl | rfl | rfl | rfl | rfl | rfl | rfl | rfl | rfl | rfl
  all_goals
    go_enter Tryd.func21, Tryd.ntmps21
    go_wp2_with fail
    go_ret
    exact ⟨rfl, hb _⟩
set_option maxRecDepth 100000 in
set_option maxHeartbeats 4000000 in
theorem rshow_deep : ∀ (d : Nat), d ≤ 1000 → ∀ (X : Nat → Prop) (e : Ex) (r : Er) (w : World) (g : Bool), Fit e → mayE e g → e.parts.length ≤ 100000 → ExAt TQ X d w e r →
    Calls Tryd.prog 9 #[r.val] w fun en w' => en = .returned (.string (showE e)) ∧ Below w.heap.size w w'
  | 0, _, _, _, _, _, _, _, _, _, h => h.elim
  | d + 1, hd, X, e, r, w, g, hft, hmy, hpl, h => by
    have IH := Lib.hid (fun (e : Ex) (r : Er) (w : World) (g : Bool) (hf : Fit e) (hm : mayE e g) (hp : e.parts.length ≤ 100000) (h : ExAt TQ X d w e r) => rshow_deep d (by omega) X e r w g hf hm hp h)
    obtain ⟨av, cv, us, hlv, hul, hrow, hch⟩ := h.parts
    have hfs := hft.self
    have HFK := Lib.hid (fun x (hx : x ∈ e.l) => hft.kid hx)
    have HPK := Lib.hid (fun x (hx : x ∈ e.l) => show x.parts.length ≤ 100000 from by have := kid_parts hx; omega)
    obtain ⟨hmp, -, hmk⟩ := mayE_kids.1 hmy
    obtain ⟨f1, f2, f3, f4, f5, -⟩ := h
    have HSZ := Lib.hid (fun x (hx : x ∈ e.l) => show (showE x).size ≤ 400000000 from by have h1 := showE_size x (hft.kid hx); have h2 := kid_parts hx; omega)
    obtain ⟨n, hn⟩ : ∃ n, e.l.length = n := ⟨_, rfl⟩
    rw [hn] at hlv hul hrow
    have HSV : Hid (showE e = glue r.k r.op r.v r.tb r.nm (e.l.map showE)) := Lib.hid (by rw [showE_eq, f1, f2, f3, f4, f5])
    have HPP : Hid (plainP r.k r.op r.v r.tb r.nm n) := Lib.hid (by have h := hmp; unfold Ex.plain at h; rw [← f1, ← f2, ← f3, ← f4, ← f5, hn] at h; exact h)
    have HFT : Hid (r.nm.size ≤ 1000 ∧ r.tb.size ≤ 1000 ∧ r.v.s.size ≤ 1000 ∧ (-9223372036854775808 ≤ r.v.n ∧ r.v.n ≤ 9223372036854775807)) := Lib.hid (by rw [f5, f4, f3]; exact hfs)
    have HN := Lib.hid hn; have HUL := Lib.hid hul; have HR := Lib.hid hrow; have HC := Lib.hid hch; have HMK := Lib.hid hmk
    obtain ⟨rk, rop, rv, rtb, rnm, rlv⟩ := r
    dsimp only at hlv HSV HPP HFT
    subst hlv
    unfold Er.val
    dsimp only
    have HKID : Hid (∀ j, j < n → ∃ (x : Ex) (uk uop : Int) (uv : V) (utb unm : ByteArray) (au : Option Addr) (cu : Nat), e.l[j]? = some x ∧ (showE x).size ≤ 400000000 ∧ (∀ W, Below w.heap.size w W → Calls Tryd.prog 9 #[.agg #[.int .i64 uk, .int .i64 uop, .int .i64 uv.k, .int .i64 uv.n, .string uv.s, .string utb, .string unm, .slice au x.l.length cu]] W (fun en w' => en = .returned (.string (showE x)) ∧ Below W.heap.size W w')) ∧ (∀ W, Below w.heap.size w W → ∃ g, av = some ⟨g, 0, none⟩ ∧ g < W.heap.size ∧ W.cell? ⟨g, j * 8, none⟩ = some (.int .i64 uk) ∧ W.cell? ⟨g, j * 8 + 1, none⟩ = some (.int .i64 uop) ∧ W.cell? ⟨g, j * 8 + 2, none⟩ = some (.int .i64 uv.k) ∧ W.cell? ⟨g, j * 8 + 3, none⟩ = some (.int .i64 uv.n) ∧ W.cell? ⟨g, j * 8 + 4, none⟩ = some (.string uv.s) ∧ W.cell? ⟨g, j * 8 + 5, none⟩ = some (.string utb) ∧ W.cell? ⟨g, j * 8 + 6, none⟩ = some (.string unm) ∧ W.cell? ⟨g, j * 8 + 7, none⟩ = some (.slice au x.l.length cu))) := Lib.hid (by
      intro j hj
      have hja : j < e.l.length := by omega
      have hju : j < us.length := by omega
      have hx := List.getElem?_eq_getElem hja
      have hu := List.getElem?_eq_getElem hju
      have hm := List.getElem_mem hja
      generalize e.l[j] = x at hx hm
      generalize us[j] = u at hu
      have hxu := HC.out j x u hx hu
      obtain ⟨d', rfl⟩ := hxu.pos
      obtain ⟨au, cu, us', hul', -⟩ := hxu.parts
      obtain ⟨uk, uop, uv, utb, unm, ulv⟩ := u
      dsimp only at hul'
      subst hul'
      exact ⟨x, uk, uop, uv, utb, unm, au, cu, hx, HSZ.out x hm, fun W hb => IH.out x ⟨uk, uop, uv, utb, unm, .slice au x.l.length cu⟩ W _ (HFK.out x hm) (HMK.out x hm) (HPK.out x hm) (hxu.later hb), fun W hb => part_cells (owns_below HR.out hb) hj hu⟩)
    clear hul hrow hch hft hfs f1 f2 f3 f4 f5 hmp hmk hmy
    have hfe : Flds (w.alloc (.cells #[.int .i64 rk, .int .i64 rop, .int .i64 rv.k, .int .i64 rv.n, .string rv.s, .string rtb, .string rnm, .slice av n cv] TQ)) w.heap.size TQ [.int .i64 rk, .int .i64 rop, .int .i64 rv.k, .int .i64 rv.n, .string rv.s, .string rtb, .string rnm, .slice av n cv] := Flds.new w TQ _
    have hb0 : Below w.heap.size w (w.alloc (.cells #[.int .i64 rk, .int .i64 rop, .int .i64 rv.k, .int .i64 rv.n, .string rv.s, .string rtb, .string rnm, .slice av n cv] TQ)) := (Below.refl _ _).alloc (Nat.le_refl _) _
    obtain ⟨W1, hW1⟩ : ∃ W1, (w.alloc (.cells #[.int .i64 rk, .int .i64 rop, .int .i64 rv.k, .int .i64 rv.n, .string rv.s, .string rtb, .string rnm, .slice av n cv] TQ)) = W1 := ⟨_, rfl⟩
    rw [hW1] at hfe hb0
    have HFE := Lib.hid hfe; have HB0 := Lib.hid hb0; have HW1 := Lib.hid hW1
    clear hfe hb0 hW1
    obtain ⟨u1, u2, u3, u4⟩ := HFT.out
    go_enter Tryd.func9, Tryd.ntmps9
    go_upto_region 1 with fail
    rw [HW1.out]
    obtain ⟨e0, e1, e2, e3, e4, e5, e6, e7, l1⟩ := of_fe HFE.out
    rcases HPP.out with ⟨rfl, rfl, rfl, rfl, rfl, -⟩ | ⟨rfl, rfl, rfl, rfl, -⟩ | ⟨rfl, rfl, rfl, rfl, rfl, o1, o2⟩ | ⟨h4, rfl, rfl, rfl, rfl, rfl⟩ | ⟨rfl, rfl, rfl, rfl, o1, o2, h8⟩
    · as_aux_lemma =>
      have HV : Hid (showE e = showV rv.k rv.n rv.s) := Lib.hid (by rw [HSV.out]; unfold glue; rw [if_pos rfl])
      have hsh := val.rshow_any rv.k rv.n rv.s u4 W1
      unfold ag3 at hsh
      have HSH := Lib.hid hsh
      clear hsh
      go_wp2_with (go_at_call 20; refine HSH.out.mono ?_; rintro en w5 ⟨rfl, hb5⟩; have HB5 := Lib.hid (HB0.out.trans (hb5.mono HB0.out.size)); clear hb5)
      go_ret
      exact ⟨by first | (rw [HV.out]; done) | (rw [HV.out]; rfl), by first | exact HB5.out | exact below_drewN HB5.out _⟩
    · as_aux_lemma =>
      by_cases et : rtb.toList = []
      · have be : rtb.toList.isEmpty = true := by rw [et]; rfl
        have HV : Hid (showE e = rnm) := Lib.hid (by rw [HSV.out]; unfold glue; rw [if_neg (by decide), if_pos rfl, be]; rfl)
        go_wp2_with fail
        go_ret
        exact ⟨by first | (rw [HV.out]; done) | (rw [HV.out]; rfl), HB0.out⟩
      · have be : rtb.toList.isEmpty = false := by cases h : rtb.toList with | nil => exact absurd h et | cons _ _ => rfl
        have HV : Hid (showE e = rtb ++ ⟨#[46]⟩ ++ rnm) := Lib.hid (by rw [HSV.out]; unfold glue; rw [if_neg (by decide), if_pos rfl, be]; rfl)
        go_wp2_with fail
        go_ret
        exact ⟨by first | (rw [HV.out]; done) | (rw [HV.out]; rfl), HB0.out⟩
    · as_aux_lemma =>
      obtain ⟨x0, uk0, uop0, uv0, utb0, unm0, au0, cu0, hx0, hs0, hc0, hp0⟩ := HKID.out 0 (by decide)
      obtain ⟨A, hA⟩ : ∃ A, showE x0 = A := ⟨_, rfl⟩
      rw [hA] at hs0 hc0
      have HC0 := Lib.hid hc0; have HP0 := Lib.hid hp0
      clear hc0 hp0
      obtain ⟨x1, uk1, uop1, uv1, utb1, unm1, au1, cu1, hx1, hs1, hc1, hp1⟩ := HKID.out 1 (by decide)
      obtain ⟨B, hB⟩ : ∃ B, showE x1 = B := ⟨_, rfl⟩
      rw [hB] at hs1 hc1
      have HC1 := Lib.hid hc1; have HP1 := Lib.hid hp1
      clear hc1 hp1
      have hl : e.l.map showE = [A, B] := by
        have hn2 := HN.out
        match hl : e.l, hn2 with
        | [p, q], _ => rw [hl] at hx0 hx1; simp only [List.getElem?_cons_zero, List.getElem?_cons_succ, Option.some.injEq] at hx0 hx1; rw [hx0, hx1, List.map_cons, List.map_cons, hA, hB]; rfl
      obtain ⟨q, rfl⟩ : ∃ q : Nat, rop = q := ⟨rop.toNat, by omega⟩
      have hS3 := signE_size (q : Int)
      have HOP := Lib.hid (fun (W : World) => operator_any q (by omega) (by omega) W)
      have HV : Hid (showE e = ⟨#[40]⟩ ++ A ++ ⟨#[32]⟩ ++ signE (q : Int) ++ ⟨#[32]⟩ ++ B ++ ⟨#[41]⟩) := Lib.hid (by rw [HSV.out, hl]; unfold glue; rw [if_neg (by decide), if_neg (by decide), if_pos rfl]; rfl)
      obtain ⟨SG, hSG⟩ : ∃ SG, signE (q : Int) = SG := ⟨_, rfl⟩
      rw [hSG] at hS3 HV HOP
      have HFW := Lib.hid (fun (W : World) (hb : Below W1.heap.size W1 W) => of_fe (HFE.out.later hb))
      have HBW := Lib.hid (fun (W : World) (hb : Below W1.heap.size W1 W) => HB0.out.trans (hb.mono HB0.out.size))
      obtain ⟨ga, rfl, -⟩ := HP0.out W1 HB0.out
      clear hSG hl hx0 hx1 hA hB
      have m1 : ¬ 9223372036854775807 < 1 + A.size := by omega
      have m2 : ¬ 9223372036854775807 < 1 + A.size + 1 := by omega
      have m3 : ¬ 9223372036854775807 < 1 + A.size + 1 + SG.size := by omega
      have m4 : ¬ 9223372036854775807 < 1 + A.size + 1 + SG.size + 1 := by omega
      have m5 : ¬ 9223372036854775807 < 1 + A.size + 1 + SG.size + 1 + B.size := by omega
      have m6 : ¬ 9223372036854775807 < 1 + A.size + 1 + SG.size + 1 + B.size + 1 := by omega
      go_upto_region 9 with fail
      apply ag.region_calm (ag.Spec.val _ :: ag.Spec.val _ :: ag.Spec.val _ :: ag.Spec.val _ :: ag.Spec.sat (fun v _ => v = .string A) ag.grew :: ag.Spec.val (.string (⟨#[40]⟩ ++ A)) :: ag.Spec.val _ :: ag.Spec.val _ :: ag.Spec.val _ :: ag.Spec.sat (fun v _ => v = .string SG) ag.grew :: ag.Spec.val (.string (⟨#[40]⟩ ++ A ++ ⟨#[32]⟩ ++ SG)) :: ag.Spec.val _ :: ag.Spec.val _ :: ag.Spec.val _ :: ag.Spec.val _ :: ag.Spec.val _ :: ag.Spec.sat (fun v _ => v = .string B) ag.grew :: ag.Spec.val (.string (⟨#[40]⟩ ++ A ++ ⟨#[32]⟩ ++ SG ++ ⟨#[32]⟩ ++ B)) :: ag.Spec.val _ :: ag.Spec.val _ :: [])
      case hm => kernel_rfl
      case hB => kernel_rfl
      case hlen => rfl
      case hc => exact ⟨⟨ag.lasts_eq _, rfl⟩, ⟨ag.lasts_eq _, rfl⟩, ⟨ag.lasts_eq _, rfl⟩, trivial⟩
      apply ag.walk_val
      · rfl
      · intro W1 hS hE
        clear hS hE
        unfold ag.does
        go_simp
        first | done | exact ⟨rfl, rfl⟩ | rfl | (exact ⟨by go_num, rfl⟩) | (simp; done) | trace_state
      simp only [Act.put, List.setIfInBounds_toArray, List.set_cons_zero, List.set_cons_succ]
      apply ag.walk_val
      · rfl
      · intro W1 hS hE
        obtain ⟨y0, y1, y2, y3, y4, y5, y6, y7, l3⟩ := HFW.out W1 hS
        clear hS hE
        unfold ag.does
        go_simp
        first | done | exact ⟨rfl, rfl⟩ | rfl | (exact ⟨by go_num, rfl⟩) | (simp; done) | trace_state
      simp only [Act.put, List.setIfInBounds_toArray, List.set_cons_zero, List.set_cons_succ]
      apply ag.walk_val
      · rfl
      · intro W1 hS hE
        clear hS hE
        unfold ag.does
        go_simp
        first | done | exact ⟨rfl, rfl⟩ | rfl | (exact ⟨by go_num, rfl⟩) | (simp; done) | trace_state
      simp only [Act.put, List.setIfInBounds_toArray, List.set_cons_zero, List.set_cons_succ]
      apply ag.walk_val
      · rfl
      · intro W1 hS hE
        obtain ⟨gq, ge, gl, c0, c1, c2, c3, c4, c5, c6, c7⟩ := HP0.out W1 (HBW.out W1 hS)
        (simp only [Option.some.injEq, Addr.mk.injEq, and_true] at ge)
        subst ge
        clear hS hE
        unfold ag.does
        go_simp
        first | done | exact ⟨rfl, rfl⟩ | rfl | (exact ⟨by go_num, rfl⟩) | (simp; done) | trace_state
      simp only [Act.put, List.setIfInBounds_toArray, List.set_cons_zero, List.set_cons_succ]
      refine ag.walk_such (by rfl) (fun W1 hS hE => ?_) (fun y4 => ?_)
      · have hc := HC0.out W1 (HBW.out W1 hS)
        clear hE
        unfold ag.does
        go_simp
        first | done | (exact hc.mono (fun e w' h => ⟨_, h.1, rfl, h.2⟩))
      simp only [Act.put, List.setIfInBounds_toArray, List.set_cons_zero, List.set_cons_succ]
      apply ag.walk_val
      · rfl
      · intro W1 hS hE
        have e4 : y4 = .string A := hE.of 4 (by kernel_rfl)
        subst e4
        clear hS hE
        unfold ag.does
        go_simp
        first | done | exact ⟨rfl, rfl⟩ | rfl | (exact ⟨by go_num, rfl⟩) | (simp; done) | trace_state
      simp only [Act.put, List.setIfInBounds_toArray, List.set_cons_zero, List.set_cons_succ]
      apply ag.walk_val
      · rfl
      · intro W1 hS hE
        clear hS hE
        unfold ag.does
        go_simp
        first | done | exact ⟨rfl, rfl⟩ | rfl | (exact ⟨by go_num, rfl⟩) | (simp; done) | trace_state
      simp only [Act.put, List.setIfInBounds_toArray, List.set_cons_zero, List.set_cons_succ]
      apply ag.walk_val
      · rfl
      · intro W1 hS hE
        clear hS hE
        unfold ag.does
        go_simp
        first | done | exact ⟨rfl, rfl⟩ | rfl | (exact ⟨by go_num, rfl⟩) | (simp; done) | trace_state
      simp only [Act.put, List.setIfInBounds_toArray, List.set_cons_zero, List.set_cons_succ]
      apply ag.walk_val
      · rfl
      · intro W1 hS hE
        obtain ⟨y0, y1, y2, y3, y4, y5, y6, y7, l3⟩ := HFW.out W1 hS
        clear hS hE
        unfold ag.does
        go_simp
        first | done | exact ⟨rfl, rfl⟩ | rfl | (exact ⟨by go_num, rfl⟩) | (simp; done) | trace_state
      simp only [Act.put, List.setIfInBounds_toArray, List.set_cons_zero, List.set_cons_succ]
      refine ag.walk_such (by rfl) (fun W1 hS hE => ?_) (fun y9 => ?_)
      · have hc := HOP.out W1
        clear hE
        unfold ag.does
        go_simp
        first | done | (exact hc.mono (fun e w' h => ⟨_, h.1, rfl, h.2⟩))
      simp only [Act.put, List.setIfInBounds_toArray, List.set_cons_zero, List.set_cons_succ]
      apply ag.walk_val
      · rfl
      · intro W1 hS hE
        have e9 : y9 = .string SG := hE.of 9 (by kernel_rfl)
        subst e9
        clear hS hE
        unfold ag.does
        go_simp
        first | done | exact ⟨rfl, rfl⟩ | rfl | (exact ⟨by go_num, rfl⟩) | (simp; done) | trace_state
      simp only [Act.put, List.setIfInBounds_toArray, List.set_cons_zero, List.set_cons_succ]
      apply ag.walk_val
      · rfl
      · intro W1 hS hE
        clear hS hE
        unfold ag.does
        go_simp
        first | done | exact ⟨rfl, rfl⟩ | rfl | (exact ⟨by go_num, rfl⟩) | (simp; done) | trace_state
      simp only [Act.put, List.setIfInBounds_toArray, List.set_cons_zero, List.set_cons_succ]
      apply ag.walk_val
      · rfl
      · intro W1 hS hE
        clear hS hE
        unfold ag.does
        go_simp
        first | done | exact ⟨rfl, rfl⟩ | rfl | (exact ⟨by go_num, rfl⟩) | (simp; done) | trace_state
      simp only [Act.put, List.setIfInBounds_toArray, List.set_cons_zero, List.set_cons_succ]
      apply ag.walk_val
      · rfl
      · intro W1 hS hE
        obtain ⟨y0, y1, y2, y3, y4, y5, y6, y7, l3⟩ := HFW.out W1 hS
        clear hS hE
        unfold ag.does
        go_simp
        first | done | exact ⟨rfl, rfl⟩ | rfl | (exact ⟨by go_num, rfl⟩) | (simp; done) | trace_state
      simp only [Act.put, List.setIfInBounds_toArray, List.set_cons_zero, List.set_cons_succ]
      apply ag.walk_val
      · rfl
      · intro W1 hS hE
        clear hS hE
        unfold ag.does
        go_simp
        first | done | exact ⟨rfl, rfl⟩ | rfl | (exact ⟨by go_num, rfl⟩) | (simp; done) | trace_state
      simp only [Act.put, List.setIfInBounds_toArray, List.set_cons_zero, List.set_cons_succ]
      apply ag.walk_val
      · rfl
      · intro W1 hS hE
        obtain ⟨gq, ge, gl, c0, c1, c2, c3, c4, c5, c6, c7⟩ := HP1.out W1 (HBW.out W1 hS)
        (simp only [Option.some.injEq, Addr.mk.injEq, and_true] at ge)
        subst ge
        clear hS hE
        unfold ag.does
        go_simp
        first | done | exact ⟨rfl, rfl⟩ | rfl | (exact ⟨by go_num, rfl⟩) | (simp; done) | trace_state
      simp only [Act.put, List.setIfInBounds_toArray, List.set_cons_zero, List.set_cons_succ]
      refine ag.walk_such (by rfl) (fun W1 hS hE => ?_) (fun y16 => ?_)
      · have hc := HC1.out W1 (HBW.out W1 hS)
        clear hE
        unfold ag.does
        go_simp
        first | done | (exact hc.mono (fun e w' h => ⟨_, h.1, rfl, h.2⟩))
      simp only [Act.put, List.setIfInBounds_toArray, List.set_cons_zero, List.set_cons_succ]
      apply ag.walk_val
      · rfl
      · intro W1 hS hE
        have e16 : y16 = .string B := hE.of 16 (by kernel_rfl)
        subst e16
        clear hS hE
        unfold ag.does
        go_simp
        first | done | exact ⟨rfl, rfl⟩ | rfl | (exact ⟨by go_num, rfl⟩) | (simp; done) | trace_state
      simp only [Act.put, List.setIfInBounds_toArray, List.set_cons_zero, List.set_cons_succ]
      apply ag.walk_val
      · rfl
      · intro W1 hS hE
        clear hS hE
        unfold ag.does
        go_simp
        first | done | exact ⟨rfl, rfl⟩ | rfl | (exact ⟨by go_num, rfl⟩) | (simp; done) | trace_state
      simp only [Act.put, List.setIfInBounds_toArray, List.set_cons_zero, List.set_cons_succ]
      apply ag.walk_val
      · rfl
      · intro W1 hS hE
        clear hS hE
        unfold ag.does
        go_simp
        first | done | exact ⟨rfl, rfl⟩ | rfl | (exact ⟨by go_num, rfl⟩) | (simp; done) | trace_state
      simp only [Act.put, List.setIfInBounds_toArray, List.set_cons_zero, List.set_cons_succ]
      refine ag.walk_nil (fun w9 hS hF hP => ?_)
      clear hP
      clear hF
      have HS9 := Lib.hid (HBW.out w9 hS)
      clear hS
      go_wp2_with fail
      go_ret
      exact ⟨by first | (rw [HV.out]; done) | (rw [HV.out]; rfl), by first | exact HS9.out | exact below_drewN HS9.out _⟩
    · as_aux_lemma =>
      obtain ⟨x0, uk0, uop0, uv0, utb0, unm0, au0, cu0, hx0, hs0, hc0, hp0⟩ := HKID.out 0 (by decide)
      obtain ⟨A, hA⟩ : ∃ A, showE x0 = A := ⟨_, rfl⟩
      rw [hA] at hs0 hc0
      have HC0 := Lib.hid hc0; have HP0 := Lib.hid hp0
      clear hc0 hp0
      have hl : e.l.map showE = [A] := by
        have hn2 := HN.out
        match hl : e.l, hn2 with
        | [p], _ => rw [hl] at hx0; simp only [List.getElem?_cons_zero, Option.some.injEq] at hx0; rw [hx0, List.map_cons, hA]; rfl
      have HA0 := Lib.hid (HC0.out W1 HB0.out)
      obtain ⟨ga, rfl, lg, c0, c1, c2, c3, c4, c5, c6, c7⟩ := HP0.out W1 HB0.out
      have HL := Lib.hid hl
      clear hl hx0 hA HP0
      rcases h4 with rfl | rfl | rfl | rfl
      · have HV : Hid (showE e = ⟨#[40, 78, 79, 84, 32]⟩ ++ A ++ ⟨#[41]⟩) := Lib.hid (by rw [HSV.out, HL.out]; unfold glue; rw [if_neg (by decide), if_neg (by decide), if_neg (by decide), if_pos rfl]; rfl)
        go_wp2_with (go_at_call 9; refine HA0.out.mono ?_; rintro en w5 ⟨rfl, hb5⟩; have HB5 := Lib.hid (HB0.out.trans (hb5.mono HB0.out.size)); clear hb5)
        go_ret
        exact ⟨by first | (rw [HV.out]; done) | (rw [HV.out]; rfl), by first | exact HB5.out | exact below_drewN HB5.out _⟩
      · have HV : Hid (showE e = ⟨#[40, 45, 32]⟩ ++ A ++ ⟨#[41]⟩) := Lib.hid (by rw [HSV.out, HL.out]; unfold glue; rw [if_neg (by decide), if_neg (by decide), if_neg (by decide), if_neg (by decide), if_pos rfl]; rfl)
        go_wp2_with (go_at_call 9; refine HA0.out.mono ?_; rintro en w5 ⟨rfl, hb5⟩; have HB5 := Lib.hid (HB0.out.trans (hb5.mono HB0.out.size)); clear hb5)
        go_ret
        exact ⟨by first | (rw [HV.out]; done) | (rw [HV.out]; rfl), by first | exact HB5.out | exact below_drewN HB5.out _⟩
      · have HV : Hid (showE e = ⟨#[40]⟩ ++ A ++ ⟨#[32, 73, 83, 32, 78, 85, 76, 76, 41]⟩) := Lib.hid (by rw [HSV.out, HL.out]; unfold glue; rw [if_neg (by decide), if_neg (by decide), if_neg (by decide), if_neg (by decide), if_neg (by decide), if_pos rfl]; rfl)
        go_wp2_with (go_at_call 9; refine HA0.out.mono ?_; rintro en w5 ⟨rfl, hb5⟩; have HB5 := Lib.hid (HB0.out.trans (hb5.mono HB0.out.size)); clear hb5)
        go_ret
        exact ⟨by first | (rw [HV.out]; done) | (rw [HV.out]; rfl), by first | exact HB5.out | exact below_drewN HB5.out _⟩
      · have HV : Hid (showE e = ⟨#[40]⟩ ++ A ++ ⟨#[32, 73, 83, 32, 78, 79, 84, 32, 78, 85, 76, 76, 41]⟩) := Lib.hid (by rw [HSV.out, HL.out]; unfold glue; rw [if_neg (by decide), if_neg (by decide), if_neg (by decide), if_neg (by decide), if_neg (by decide), if_neg (by decide), if_pos rfl]; rfl)
        go_wp2_with (go_at_call 9; refine HA0.out.mono ?_; rintro en w5 ⟨rfl, hb5⟩; have HB5 := Lib.hid (HB0.out.trans (hb5.mono HB0.out.size)); clear hb5)
        go_ret
        exact ⟨by first | (rw [HV.out]; done) | (rw [HV.out]; rfl), by first | exact HB5.out | exact below_drewN HB5.out _⟩
    · have hkeep : True := trivial
      rcases h8 with ⟨rfl, rfl⟩ | rfl
      · have HV : Hid (showE e = ⟨#[67, 79, 85, 78, 84]⟩ ++ ⟨#[40, 42, 41]⟩) := Lib.hid (by rw [HSV.out]; unfold glue; rw [if_neg (by decide), if_neg (by decide), if_neg (by decide), if_neg (by decide), if_neg (by decide), if_neg (by decide), if_neg (by decide), if_pos (show (e.l.map showE).length = 0 by rw [List.length_map]; exact HN.out), count_cat])
        have HBA : Hid (∀ o, Below w.heap.size w (W1.alloc o)) := Lib.hid (fun o => HB0.out.trans (((Below.refl _ _).alloc (Nat.le_refl _) o).mono HB0.out.size))
        go_wp2_with fail
        go_ret
        exact ⟨by first | (rw [HV.out]; done) | (rw [HV.out]; rfl), HBA.out _⟩
      · obtain ⟨q, rfl⟩ : ∃ q : Nat, rop = q := ⟨rop.toNat, by omega⟩
        obtain ⟨x0, uk0, uop0, uv0, utb0, unm0, au0, cu0, hx0, hs0, hc0, hp0⟩ := HKID.out 0 (by decide)
        obtain ⟨A, hA⟩ : ∃ A, showE x0 = A := ⟨_, rfl⟩
        rw [hA] at hs0 hc0
        have HC0 := Lib.hid hc0; have HP0 := Lib.hid hp0
        clear hc0 hp0
        have hl : e.l.map showE = [A] := by
          have hn2 := HN.out
          match hl : e.l, hn2 with
          | [p], _ => rw [hl] at hx0; simp only [List.getElem?_cons_zero, Option.some.injEq] at hx0; rw [hx0, List.map_cons, hA]; rfl
        have HV : Hid (showE e = nameE (q : Int) ++ ⟨#[40]⟩ ++ A ++ ⟨#[41]⟩) := Lib.hid (by rw [HSV.out, hl]; unfold glue; rw [if_neg (by decide), if_neg (by decide), if_neg (by decide), if_neg (by decide), if_neg (by decide), if_neg (by decide), if_neg (by decide), if_neg (by simp)]; rfl)
        obtain ⟨ga, rfl, -⟩ := HP0.out W1 HB0.out
        have hS3 := nameE_size (q : Int)
        have q1 : 1 ≤ q := by omega
        have q4 : q ≤ 4 := by omega
        have q0' : (0 : Int) ≤ (q : Int) := by omega
        have q4' : (q : Int) ≤ 4 := by omega
        have q5' : (q : Int) < 5 := by omega
        have htc : (W1.alloc (.cells #[.string ⟨#[]⟩, .string ⟨#[67, 79, 85, 78, 84]⟩, .string ⟨#[83, 85, 77]⟩, .string ⟨#[77, 73, 78]⟩, .string ⟨#[77, 65, 88]⟩] 9)).cell? ⟨W1.heap.size, q, none⟩ = some (.string (nameE (q : Int))) := by
          rw [(Flds.new W1 9 [.string ⟨#[]⟩, .string ⟨#[67, 79, 85, 78, 84]⟩, .string ⟨#[83, 85, 77]⟩, .string ⟨#[77, 73, 78]⟩, .string ⟨#[77, 65, 88]⟩]).cell q]
          rcases (by omega : q = 1 ∨ q = 2 ∨ q = 3 ∨ q = 4) with rfl | rfl | rfl | rfl <;> rfl
        obtain ⟨NM, hNM⟩ : ∃ NM, nameE (q : Int) = NM := ⟨_, rfl⟩
        rw [hNM] at hS3 HV htc
        have hb2 : Below W1.heap.size W1 (W1.alloc (.cells #[.string ⟨#[]⟩, .string ⟨#[67, 79, 85, 78, 84]⟩, .string ⟨#[83, 85, 77]⟩, .string ⟨#[77, 73, 78]⟩, .string ⟨#[77, 65, 88]⟩] 9)) := (Below.refl _ _).alloc (Nat.le_refl _) _
        obtain ⟨W2, hW2⟩ : ∃ W2, W1.alloc (.cells #[.string ⟨#[]⟩, .string ⟨#[67, 79, 85, 78, 84]⟩, .string ⟨#[83, 85, 77]⟩, .string ⟨#[77, 73, 78]⟩, .string ⟨#[77, 65, 88]⟩] 9) = W2 := ⟨_, rfl⟩
        obtain ⟨gT, hgT⟩ : ∃ gT, W1.heap.size = gT := ⟨_, rfl⟩
        rw [hW2] at htc hb2
        rw [hgT] at htc
        have HB2 := Lib.hid (HB0.out.trans (hb2.mono HB0.out.size))
        have HF2 := Lib.hid (HFE.out.later hb2)
        have HTC := Lib.hid (fun (W : World) (hb : Below W2.heap.size W2 W) => And.intro (cell_later hb htc) (World.block_lt_of_cell? W _ (cell_later hb htc)))
        have HFW := Lib.hid (fun (W : World) (hb : Below W2.heap.size W2 W) => of_fe (HF2.out.later hb))
        have HBW := Lib.hid (fun (W : World) (hb : Below W2.heap.size W2 W) => HB2.out.trans (hb.mono HB2.out.size))
        have m1 : ¬ 9223372036854775807 < NM.size + 1 := by omega
        have m2 : ¬ 9223372036854775807 < NM.size + 1 + A.size := by omega
        have m3 : ¬ 9223372036854775807 < NM.size + 1 + A.size + 1 := by omega
        have HW2 := Lib.hid hW2
        have HGT := Lib.hid hgT
        clear hNM hl hx0 hA htc hb2 hW2 hgT
        go_upto_region 19 with fail
        rw [HW2.out, HGT.out]
        clear e0 e1 e2 e3 e4 e5 e6 e7 l1
        obtain ⟨e0, e1, e2, e3, e4, e5, e6, e7, l1⟩ := of_fe HF2.out
        go_upto_region 21 with fail
        clear e0 e1 e2 e3 e4 e5 e6 e7 l1
        apply ag.region_calm (ag.Spec.val _ :: ag.Spec.val _ :: ag.Spec.val _ :: ag.Spec.val _ :: ag.Spec.val _ :: ag.Spec.val _ :: ag.Spec.val _ :: ag.Spec.val _ :: ag.Spec.val _ :: ag.Spec.val _ :: ag.Spec.sat (fun v _ => v = .string A) ag.grew :: ag.Spec.val (.string (NM ++ ⟨#[40]⟩ ++ A)) :: ag.Spec.val _ :: ag.Spec.val _ :: [])
        case hm => kernel_rfl
        case hB => kernel_rfl
        case hlen => rfl
        case hc => exact ⟨⟨ag.lasts_eq _, rfl⟩, trivial⟩
        apply ag.walk_val
        · rfl
        · intro W1 hS hE
          clear hS hE
          unfold ag.does
          go_simp
          first | done | exact ⟨rfl, rfl⟩ | rfl | (exact ⟨by go_num, rfl⟩) | (simp; done) | trace_state
        simp only [Act.put, List.setIfInBounds_toArray, List.set_cons_zero, List.set_cons_succ]
        apply ag.walk_val
        · rfl
        · intro W1 hS hE
          clear hS hE
          unfold ag.does
          go_simp
          first | done | exact ⟨rfl, rfl⟩ | rfl | (exact ⟨by go_num, rfl⟩) | (simp; done) | trace_state
        simp only [Act.put, List.setIfInBounds_toArray, List.set_cons_zero, List.set_cons_succ]
        apply ag.walk_val
        · rfl
        · intro W1 hS hE
          obtain ⟨y0, y1, y2, y3, y4, y5, y6, y7, l3⟩ := HFW.out W1 hS
          clear hS hE
          unfold ag.does
          go_simp
          first | done | exact ⟨rfl, rfl⟩ | rfl | (exact ⟨by go_num, rfl⟩) | (simp; done) | trace_state
        simp only [Act.put, List.setIfInBounds_toArray, List.set_cons_zero, List.set_cons_succ]
        apply ag.walk_val
        · rfl
        · intro W1 hS hE
          clear hS hE
          unfold ag.does
          go_simp
          first | done | exact ⟨rfl, rfl⟩ | rfl | (exact ⟨by go_num, rfl⟩) | (simp; done) | trace_state
        simp only [Act.put, List.setIfInBounds_toArray, List.set_cons_zero, List.set_cons_succ]
        apply ag.walk_val
        · rfl
        · intro W1 hS hE
          obtain ⟨tc, tl⟩ := HTC.out W1 hS
          clear hS hE
          unfold ag.does
          go_simp
          first | done | exact ⟨rfl, rfl⟩ | rfl | (exact ⟨by go_num, rfl⟩) | (simp; done) | trace_state
        simp only [Act.put, List.setIfInBounds_toArray, List.set_cons_zero, List.set_cons_succ]
        apply ag.walk_val
        · rfl
        · intro W1 hS hE
          clear hS hE
          unfold ag.does
          go_simp
          first | done | exact ⟨rfl, rfl⟩ | rfl | (exact ⟨by go_num, rfl⟩) | (simp; done) | trace_state
        simp only [Act.put, List.setIfInBounds_toArray, List.set_cons_zero, List.set_cons_succ]
        apply ag.walk_val
        · rfl
        · intro W1 hS hE
          clear hS hE
          unfold ag.does
          go_simp
          first | done | exact ⟨rfl, rfl⟩ | rfl | (exact ⟨by go_num, rfl⟩) | (simp; done) | trace_state
        simp only [Act.put, List.setIfInBounds_toArray, List.set_cons_zero, List.set_cons_succ]
        apply ag.walk_val
        · rfl
        · intro W1 hS hE
          obtain ⟨y0, y1, y2, y3, y4, y5, y6, y7, l3⟩ := HFW.out W1 hS
          clear hS hE
          unfold ag.does
          go_simp
          first | done | exact ⟨rfl, rfl⟩ | rfl | (exact ⟨by go_num, rfl⟩) | (simp; done) | trace_state
        simp only [Act.put, List.setIfInBounds_toArray, List.set_cons_zero, List.set_cons_succ]
        apply ag.walk_val
        · rfl
        · intro W1 hS hE
          clear hS hE
          unfold ag.does
          go_simp
          first | done | exact ⟨rfl, rfl⟩ | rfl | (exact ⟨by go_num, rfl⟩) | (simp; done) | trace_state
        simp only [Act.put, List.setIfInBounds_toArray, List.set_cons_zero, List.set_cons_succ]
        apply ag.walk_val
        · rfl
        · intro W1 hS hE
          obtain ⟨gq, ge, gl, c0, c1, c2, c3, c4, c5, c6, c7⟩ := HP0.out W1 (HBW.out W1 hS)
          (simp only [Option.some.injEq, Addr.mk.injEq, and_true] at ge)
          subst ge
          clear hS hE
          unfold ag.does
          go_simp
          first | done | exact ⟨rfl, rfl⟩ | rfl | (exact ⟨by go_num, rfl⟩) | (simp; done) | trace_state
        simp only [Act.put, List.setIfInBounds_toArray, List.set_cons_zero, List.set_cons_succ]
        refine ag.walk_such (by rfl) (fun W1 hS hE => ?_) (fun y10 => ?_)
        · have hc := HC0.out W1 (HBW.out W1 hS)
          clear hE
          unfold ag.does
          go_simp
          first | done | (exact hc.mono (fun e w' h => ⟨_, h.1, rfl, h.2⟩))
        simp only [Act.put, List.setIfInBounds_toArray, List.set_cons_zero, List.set_cons_succ]
        apply ag.walk_val
        · rfl
        · intro W1 hS hE
          have e10 : y10 = .string A := hE.of 10 (by kernel_rfl)
          subst e10
          clear hS hE
          unfold ag.does
          go_simp
          first | done | exact ⟨rfl, rfl⟩ | rfl | (exact ⟨by go_num, rfl⟩) | (simp; done) | trace_state
        simp only [Act.put, List.setIfInBounds_toArray, List.set_cons_zero, List.set_cons_succ]
        apply ag.walk_val
        · rfl
        · intro W1 hS hE
          clear hS hE
          unfold ag.does
          go_simp
          first | done | exact ⟨rfl, rfl⟩ | rfl | (exact ⟨by go_num, rfl⟩) | (simp; done) | trace_state
        simp only [Act.put, List.setIfInBounds_toArray, List.set_cons_zero, List.set_cons_succ]
        apply ag.walk_val
        · rfl
        · intro W1 hS hE
          clear hS hE
          unfold ag.does
          go_simp
          first | done | exact ⟨rfl, rfl⟩ | rfl | (exact ⟨by go_num, rfl⟩) | (simp; done) | trace_state
        simp only [Act.put, List.setIfInBounds_toArray, List.set_cons_zero, List.set_cons_succ]
        refine ag.walk_nil (fun w9 hS hF hP => ?_)
        clear hP
        clear hF
        have HS9 := Lib.hid (HBW.out w9 hS)
        clear hS
        go_wp2_with fail
        go_ret
        exact ⟨by first | (rw [HV.out]; done) | (rw [HV.out]; rfl), by first | exact HS9.out | exact below_drewN HS9.out _⟩
end Go.Proofs.YtfnajccnlcfbiaaDoor.ex
