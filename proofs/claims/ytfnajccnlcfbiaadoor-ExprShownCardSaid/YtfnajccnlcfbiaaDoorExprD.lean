/- Whether two expressions are the same, by the document; walked. -/
import Derived.Test.YtfnajccnlcfbiaaDoorExprC
namespace Go.Proofs.YtfnajccnlcfbiaaDoor.ex
set_option linter.unusedVariables false
open Go.RowKit
open val (V null veq6)
set_option maxRecDepth 100000 in
set_option maxHeartbeats 4000000 in
theorem rsame_any : ∀ (d : Nat), d ≤ 1000 → ∀ (X Y : Nat → Prop) (a b : Ex) (r s : Er) (w : World), ExAt TQ X d w a r → ExAt TQ Y d w b s →
    Calls Tryd.prog 15 #[r.val, s.val] w fun en w' => en = .returned (.bool (eqE a b)) ∧ Below w.heap.size w w'
  | 0, _, _, _, _, _, _, _, _, h, _ => h.elim
  | d + 1, hd, X, Y, a, b, r, s, w, h, h' => by
    have IH := Lib.hid (rsame_any d (by omega) X Y)
    obtain ⟨aa, ca, us, hla, hua, hra, hca⟩ := h.parts
    obtain ⟨ab, cb, vs, hlb, hub, hrb, hcb⟩ := h'.parts
    obtain ⟨f1, f2, f3, f4, f5⟩ := exat_fields h
    obtain ⟨g1, g2, g3, g4, g5⟩ := exat_fields h'
    have sm : ∀ {a : Option Addr} {n c : Nat} {us : List Er}, w.ownsRow 0 TQ 8 (.slice a n c) n (erCells us) → n ≤ 9223372036854775807 := by
      intro a n c us h
      obtain ⟨-, ⟨-, h0⟩ | ⟨_, _, _, _, _, _, h1, h2, _⟩⟩ := h
      · omega
      · have : maxLen = 9223372036854775807 := rfl
        omega
    have ha1 := sm hra
    have hb1 := sm hrb
    obtain ⟨E, hE⟩ : ∃ E, eqE a b = E := ⟨_, rfl⟩
    have HEP := Lib.hid ((eqE_parts a b).symm.trans hE)
    rw [hE]
    have HUA := Lib.hid hua; have HUB := Lib.hid hub; have HRA := Lib.hid hra; have HRB := Lib.hid hrb; have HCA := Lib.hid hca; have HCB := Lib.hid hcb
    obtain ⟨rk, rop, rv, rtb, rnm, rlv⟩ := r
    obtain ⟨sk, sop, sv, stb, snm, slv⟩ := s
    dsimp only at hla hlb f1 f2 f3 f4 f5 g1 g2 g3 g4 g5
    subst hla
    subst hlb
    have HFE : Hid (eqF a b = @decide (rk = sk ∧ rop = sop ∧ rv = sv ∧ rtb = stb ∧ rnm = snm) (Classical.propDecidable _)) := Lib.hid (by rw [f1, f2, f3, f4, f5, g1, g2, g3, g4, g5]; rfl)
    unfold Er.val
    dsimp only
    obtain ⟨na, hna⟩ : ∃ n, a.l.length = n := ⟨_, rfl⟩
    obtain ⟨nb, hnb⟩ : ∃ n, b.l.length = n := ⟨_, rfl⟩
    rw [hna] at HRA ha1 ⊢
    rw [hnb] at HRB hb1 ⊢
    have HNA := Lib.hid hna
    have HNB := Lib.hid hnb
    have a0 : (0 : Int) ≤ (na : Int) := by omega
    have a1 : (na : Int) ≤ 9223372036854775807 := by omega
    have b0 : (0 : Int) ≤ (nb : Int) := by omega
    have b1 : (nb : Int) ≤ 9223372036854775807 := by omega
    clear h h' hua hra hca hub hrb hcb f1 f2 f3 f4 f5 g1 g2 g3 g4 g5 hE hna hnb sm
    obtain ⟨W1, hW1⟩ : ∃ W1, (w.alloc (.cells #[.int .i64 rk, .int .i64 rop, .int .i64 rv.k, .int .i64 rv.n, .string rv.s, .string rtb, .string rnm, .slice aa na ca] TQ)).alloc (.cells #[.int .i64 sk, .int .i64 sop, .int .i64 sv.k, .int .i64 sv.n, .string sv.s, .string stb, .string snm, .slice ab nb cb] TQ) = W1 := ⟨_, rfl⟩
    have hf1 : Flds W1 w.heap.size TQ [.int .i64 rk, .int .i64 rop, .int .i64 rv.k, .int .i64 rv.n, .string rv.s, .string rtb, .string rnm, .slice aa na ca] := by rw [← hW1]; exact (Flds.new w TQ _).alloc _
    have hf2 : Flds W1 (w.heap.size + 1) TQ [.int .i64 sk, .int .i64 sop, .int .i64 sv.k, .int .i64 sv.n, .string sv.s, .string stb, .string snm, .slice ab nb cb] := by
      rw [← hW1]
      have := Flds.new (w.alloc (.cells #[.int .i64 rk, .int .i64 rop, .int .i64 rv.k, .int .i64 rv.n, .string rv.s, .string rtb, .string rnm, .slice aa na ca] TQ)) TQ [.int .i64 sk, .int .i64 sop, .int .i64 sv.k, .int .i64 sv.n, .string sv.s, .string stb, .string snm, .slice ab nb cb]
      rw [World.size_alloc] at this; exact this
    have hbb : Below w.heap.size w W1 := by rw [← hW1]; exact ((Below.refl _ _).alloc (Nat.le_refl _) _).alloc (by simp) _
    have HW1 := Lib.hid hW1
    have HF1 := Lib.hid hf1
    have HF2 := Lib.hid hf2
    have HB1 := Lib.hid hbb
    clear hW1 hf1 hf2 hbb
    go_enter Tryd.func15, Tryd.ntmps15
    go_upto_region 1 with fail
    rw [HW1.out]
    clear HW1
    have q0 := HF1.out.cell 0; have q1 := HF1.out.cell 1; have q2 := HF1.out.cell 2; have q3 := HF1.out.cell 3; have q4 := HF1.out.cell 4; have q5 := HF1.out.cell 5; have q6 := HF1.out.cell 6; have q7 := HF1.out.cell 7
    have k0 := HF2.out.cell 0; have k1 := HF2.out.cell 1; have k2 := HF2.out.cell 2; have k3 := HF2.out.cell 3; have k4 := HF2.out.cell 4; have k5 := HF2.out.cell 5; have k6 := HF2.out.cell 6; have k7 := HF2.out.cell 7
    have l1 := HF1.out.lt
    have l2 := HF2.out.lt
    simp only [List.getElem?_cons_zero, List.getElem?_cons_succ] at q0 q1 q2 q3 q4 q5 q6 q7 k0 k1 k2 k3 k4 k5 k6 k7
    by_cases e1 : rk = sk
    · subst e1
      have h1 : (rk == rk) = true := by simp
      by_cases e2 : rop = sop
      · subst e2
        have h2 : (rop == rop) = true := by simp
        by_cases e3 : rv = sv
        · subst e3
          have h3 : ∀ W : World, (binOp .neq 25 (.agg #[.int .i64 rv.k, .int .i64 rv.n, .string rv.s]) (.agg #[.int .i64 rv.k, .int .i64 rv.n, .string rv.s])).run Tryd.prog W = .ok (.bool false) W := fun W => by rw [run_neqX, veq_yes]; rfl
          by_cases e4 : rtb = stb
          · subst e4
            have h4 : (rtb.toList == rtb.toList) = true := by simp
            by_cases e5 : rnm = snm
            · subst e5
              have h5 : (rnm.toList == rnm.toList) = true := by simp
              have HEQ : Hid (E = eqL a.l b.l) := Lib.hid (by rw [← HEP.out, HFE.out, @decide_eq_true _ (Classical.propDecidable _) ⟨rfl, rfl, rfl, rfl, rfl⟩]; rfl)
              by_cases e6 : na = nb
              · subst e6
                have h6 : ((na : Int) == (na : Int)) = true := by simp
                clear HFE HEP
                go_wp2_with fail
                go_loopw [5] (fun i wr => ∃ j : Nat, i = .int .i64 (j : Int) ∧ j ≤ na ∧ Hid (a.l.take j = b.l.take j) ∧ Hid (Below W1.heap.size W1 wr)) (fun i _ => na - (intOf i).toNat)
                case atStart => exact ⟨0, rfl, Nat.zero_le _, Lib.hid rfl, Lib.hid (Below.refl _ _)⟩
                case round =>
                  clear q0 q1 q2 q3 q4 q5 q6 q7 k0 k1 k2 k3 k4 k5 k6 k7 l1 l2
                  obtain ⟨j, rfl, hj, HT, HB⟩ := hrel
                  have j0 : (0 : Int) ≤ (j : Int) := by omega
                  have q7 := (HF1.out.later HB.out).cell 7
                  have l1 := (HF1.out.later HB.out).lt
                  simp only [List.getElem?_cons_zero, List.getElem?_cons_succ] at q7
                  by_cases hjn : j < na
                  · have dj : (j : Int) < (na : Int) := by omega
                    have hja : j < a.l.length := by have := HNA.out; omega
                    have hjb : j < b.l.length := by have := HNB.out; omega
                    have hju : j < us.length := by have := HUA.out; omega
                    have hjv : j < vs.length := by have := HUB.out; omega
                    have hx := List.getElem?_eq_getElem hja
                    have hy := List.getElem?_eq_getElem hjb
                    have hu := List.getElem?_eq_getElem hju
                    have hv := List.getElem?_eq_getElem hjv
                    generalize a.l[j] = x at hx
                    generalize b.l[j] = y at hy
                    generalize us[j] = u at hu
                    generalize vs[j] = v at hv
                    have HBW := Lib.hid (HB1.out.trans (HB.out.mono HB1.out.size))
                    have hxu := (HCA.out j x u hx hu).later HBW.out
                    have hyv := (HCB.out j y v hy hv).later HBW.out
                    obtain ⟨ga, rfl, -⟩ := part_cells (owns_below HRA.out HBW.out) hjn hu
                    obtain ⟨gb, rfl, -⟩ := part_cells (owns_below HRB.out HBW.out) hjn hv
                    obtain ⟨d', rfl⟩ := hxu.pos
                    obtain ⟨au, cu, us', hul', -⟩ := hxu.parts
                    obtain ⟨av, cv, vs', hvl', -⟩ := hyv.parts
                    obtain ⟨uk, uop, uv, utb, unm, ulv⟩ := u
                    obtain ⟨vk, vop, vv, vtb, vnm, vlv⟩ := v
                    dsimp only at hul' hvl'
                    subst hul'
                    subst hvl'
                    have HPA := Lib.hid (fun (W : World) (hb : Below wr.heap.size wr W) => part_cells (owns_below (owns_below HRA.out HBW.out) hb) hjn hu)
                    have HPB := Lib.hid (fun (W : World) (hb : Below wr.heap.size wr W) => part_cells (owns_below (owns_below HRB.out HBW.out) hb) hjn hv)
                    have HTS := Lib.hid (take_more HT.out hx hy)
                    have HXY := Lib.hid (And.intro hx hy)
                    obtain ⟨B, hB⟩ : ∃ B, eqE x y = B := ⟨_, rfl⟩
                    have HC1 := Lib.hid (fun (W : World) (hb : Below wr.heap.size wr W) => show Calls Tryd.prog 15 #[.agg #[.int .i64 uk, .int .i64 uop, .int .i64 uv.k, .int .i64 uv.n, .string uv.s, .string utb, .string unm, .slice au x.l.length cu], .agg #[.int .i64 vk, .int .i64 vop, .int .i64 vv.k, .int .i64 vv.n, .string vv.s, .string vtb, .string vnm, .slice av y.l.length cv]] W (fun en w' => en = .returned (.bool B) ∧ Below W.heap.size W w') from hB ▸ IH.out x y ⟨uk, uop, uv, utb, unm, .slice au x.l.length cu⟩ ⟨vk, vop, vv, vtb, vnm, .slice av y.l.length cv⟩ W (hxu.later hb) (hyv.later hb))
                    have HBB := Lib.hid hB
                    clear hx hy hu hv hxu hyv hja hjb hju hjv hB
                    go_upto_region 6 with fail
                    apply ag.region_calm (ag.Spec.val _ :: ag.Spec.val _ :: ag.Spec.val _ :: ag.Spec.val _ :: ag.Spec.val _ :: ag.Spec.val _ :: ag.Spec.val _ :: ag.Spec.val _ :: ag.Spec.val _ :: ag.Spec.val _ :: ag.Spec.sat (fun v _ => v = .bool B) ag.grew :: ag.Spec.val (.bool (!B)) :: [])
                    case hm => kernel_rfl
                    case hB => kernel_rfl
                    case hlen => rfl
                    case hc => exact ⟨⟨ag.lasts_eq _, rfl⟩, trivial⟩
                    apply ag.walk_val
                    · rfl
                    · intro W1 hS hE
                      clear hS hE
                      unfold ag.does
                      go_simp
                      first | done | exact ⟨rfl, rfl⟩ | rfl | (exact ⟨by go_num, rfl⟩) | (simp; done) | trace_state
                    simp only [Act.put, List.setIfInBounds_toArray, List.set_cons_zero, List.set_cons_succ]
                    apply ag.walk_val
                    · rfl
                    · intro W1 hS hE
                      have z := (HF1.out.later (HB.out.trans (hS.mono HB.out.size))).cell 7
                      have zl := (HF1.out.later (HB.out.trans (hS.mono HB.out.size))).lt
                      (simp only [List.getElem?_cons_zero, List.getElem?_cons_succ] at z)
                      clear hS hE
                      unfold ag.does
                      go_simp
                      first | done | exact ⟨rfl, rfl⟩ | rfl | (exact ⟨by go_num, rfl⟩) | (simp; done) | trace_state
                    simp only [Act.put, List.setIfInBounds_toArray, List.set_cons_zero, List.set_cons_succ]
                    apply ag.walk_val
                    · rfl
                    · intro W1 hS hE
                      clear hS hE
                      unfold ag.does
                      go_simp
                      first | done | exact ⟨rfl, rfl⟩ | rfl | (exact ⟨by go_num, rfl⟩) | (simp; done) | trace_state
                    simp only [Act.put, List.setIfInBounds_toArray, List.set_cons_zero, List.set_cons_succ]
                    apply ag.walk_val
                    · rfl
                    · intro W1 hS hE
                      clear hS hE
                      unfold ag.does
                      go_simp
                      first | done | exact ⟨rfl, rfl⟩ | rfl | (exact ⟨by go_num, rfl⟩) | (simp; done) | trace_state
                    simp only [Act.put, List.setIfInBounds_toArray, List.set_cons_zero, List.set_cons_succ]
                    apply ag.walk_val
                    · rfl
                    · intro W1 hS hE
                      obtain ⟨gq, ge, gl, c0, c1, c2, c3, c4, c5, c6, c7⟩ := HPA.out W1 hS
                      (simp only [Option.some.injEq, Addr.mk.injEq, and_true] at ge)
                      subst ge
                      clear hS hE
                      unfold ag.does
                      go_simp
                      first | done | exact ⟨rfl, rfl⟩ | rfl | (exact ⟨by go_num, rfl⟩) | (simp; done) | trace_state
                    simp only [Act.put, List.setIfInBounds_toArray, List.set_cons_zero, List.set_cons_succ]
                    apply ag.walk_val
                    · rfl
                    · intro W1 hS hE
                      clear hS hE
                      unfold ag.does
                      go_simp
                      first | done | exact ⟨rfl, rfl⟩ | rfl | (exact ⟨by go_num, rfl⟩) | (simp; done) | trace_state
                    simp only [Act.put, List.setIfInBounds_toArray, List.set_cons_zero, List.set_cons_succ]
                    apply ag.walk_val
                    · rfl
                    · intro W1 hS hE
                      have z := (HF2.out.later (HB.out.trans (hS.mono HB.out.size))).cell 7
                      have zl := (HF2.out.later (HB.out.trans (hS.mono HB.out.size))).lt
                      (simp only [List.getElem?_cons_zero, List.getElem?_cons_succ] at z)
                      clear hS hE
                      unfold ag.does
                      go_simp
                      first | done | exact ⟨rfl, rfl⟩ | rfl | (exact ⟨by go_num, rfl⟩) | (simp; done) | trace_state
                    simp only [Act.put, List.setIfInBounds_toArray, List.set_cons_zero, List.set_cons_succ]
                    apply ag.walk_val
                    · rfl
                    · intro W1 hS hE
                      clear hS hE
                      unfold ag.does
                      go_simp
                      first | done | exact ⟨rfl, rfl⟩ | rfl | (exact ⟨by go_num, rfl⟩) | (simp; done) | trace_state
                    simp only [Act.put, List.setIfInBounds_toArray, List.set_cons_zero, List.set_cons_succ]
                    apply ag.walk_val
                    · rfl
                    · intro W1 hS hE
                      clear hS hE
                      unfold ag.does
                      go_simp
                      first | done | exact ⟨rfl, rfl⟩ | rfl | (exact ⟨by go_num, rfl⟩) | (simp; done) | trace_state
                    simp only [Act.put, List.setIfInBounds_toArray, List.set_cons_zero, List.set_cons_succ]
                    apply ag.walk_val
                    · rfl
                    · intro W1 hS hE
                      obtain ⟨gq, ge, gl, c0, c1, c2, c3, c4, c5, c6, c7⟩ := HPB.out W1 hS
                      (simp only [Option.some.injEq, Addr.mk.injEq, and_true] at ge)
                      subst ge
                      clear hS hE
                      unfold ag.does
                      go_simp
                      first | done | exact ⟨rfl, rfl⟩ | rfl | (exact ⟨by go_num, rfl⟩) | (simp; done) | trace_state
                    simp only [Act.put, List.setIfInBounds_toArray, List.set_cons_zero, List.set_cons_succ]
                    refine ag.walk_such (by rfl) (fun W1 hS hE => ?_) (fun y10 => ?_)
                    · have hc := HC1.out W1 hS
                      clear hE
                      unfold ag.does
                      go_simp
                      first | done | (exact hc.mono (fun e w' h => ⟨_, h.1, rfl, h.2⟩))
                    simp only [Act.put, List.setIfInBounds_toArray, List.set_cons_zero, List.set_cons_succ]
                    apply ag.walk_val
                    · rfl
                    · intro W1 hS hE
                      have e10 : y10 = .bool B := hE.of 10 (by kernel_rfl)
                      subst e10
                      clear hS hE
                      unfold ag.does
                      go_simp
                      first | done | exact ⟨rfl, rfl⟩ | rfl | (exact ⟨by go_num, rfl⟩) | (simp; done) | trace_state
                    simp only [Act.put, List.setIfInBounds_toArray, List.set_cons_zero, List.set_cons_succ]
                    refine ag.walk_nil (fun w9 hS hF hP => ?_)
                    clear hP
                    clear hF
                    have HS := Lib.hid (HB.out.trans (hS.mono HB.out.size))
                    clear hS
                    cases B with
                    | true =>
                      go_wp2_with fail
                      go_roundw
                      case rel => exact ⟨j + 1, by go_num, by omega, Lib.hid (HTS.out.2 (eqE_yes.1 HBB.out)), HS⟩
                      case measure => simp [intOf]; omega
                    | false =>
                      have HEF : Hid (E = false) := Lib.hid (by
                        rw [HEQ.out]
                        refine @decide_eq_false _ (Classical.propDecidable _) (fun hh => ?_)
                        have h1 := HXY.out
                        rw [hh, h1.2] at h1
                        have h3 := eqE_yes.2 (Option.some.inj h1.1).symm
                        rw [HBB.out] at h3; cases h3)
                      go_wp2_with fail
                      go_ret
                      exact ⟨by rw [HEF.out]; rfl, HB1.out.trans (HS.out.mono HB1.out.size)⟩
                  · have dj : ¬ (j : Int) < (na : Int) := by omega
                    have HET : Hid (E = true) := Lib.hid (by
                      have h := HT.out
                      rw [List.take_of_length_le (by have := HNA.out; omega), List.take_of_length_le (by have := HNB.out; omega)] at h
                      rw [HEQ.out]
                      exact @decide_eq_true _ (Classical.propDecidable _) h)
                    go_wp2_with fail
                    go_ret
                    exact ⟨by rw [HET.out]; rfl, HB1.out.trans (HB.out.mono HB1.out.size)⟩
              · have h6 : ((na : Int) == (nb : Int)) = false := by simp; omega
                have HEF : Hid (E = false) := Lib.hid (by
                  rw [HEQ.out]
                  exact @decide_eq_false _ (Classical.propDecidable _) (fun hh => e6 (by rw [← HNA.out, ← HNB.out, hh])))
                go_wp2_with fail
                go_ret
                exact ⟨by rw [HEF.out]; rfl, HB1.out⟩
            · have h5 := bytes_no e5
              have HEF : Hid (E = false) := Lib.hid (by rw [← HEP.out, HFE.out, @decide_eq_false _ (Classical.propDecidable _) (fun hh => e5 hh.2.2.2.2)]; rfl)
              clear e5
              go_wp2_with fail
              go_ret
              exact ⟨by rw [HEF.out]; rfl, HB1.out⟩
          · have h4 := bytes_no e4
            have HEF : Hid (E = false) := Lib.hid (by rw [← HEP.out, HFE.out, @decide_eq_false _ (Classical.propDecidable _) (fun hh => e4 hh.2.2.2.1)]; rfl)
            clear e4
            go_wp2_with fail
            go_ret
            exact ⟨by rw [HEF.out]; rfl, HB1.out⟩
        · have h3 : ∀ W : World, (binOp .neq 25 (.agg #[.int .i64 rv.k, .int .i64 rv.n, .string rv.s]) (.agg #[.int .i64 sv.k, .int .i64 sv.n, .string sv.s])).run Tryd.prog W = .ok (.bool true) W := fun W => by rw [run_neqX, veq_no e3]; rfl
          have HEF : Hid (E = false) := Lib.hid (by rw [← HEP.out, HFE.out, @decide_eq_false _ (Classical.propDecidable _) (fun hh => e3 hh.2.2.1)]; rfl)
          clear e3
          go_wp2_with fail
          go_ret
          exact ⟨by rw [HEF.out]; rfl, HB1.out⟩
      · have h2 : (rop == sop) = false := by simpa using e2
        have HEF : Hid (E = false) := Lib.hid (by rw [← HEP.out, HFE.out, @decide_eq_false _ (Classical.propDecidable _) (fun hh => e2 hh.2.1)]; rfl)
        go_wp2_with fail
        go_ret
        exact ⟨by rw [HEF.out]; rfl, HB1.out⟩
    · have h1 : (rk == sk) = false := by simpa using e1
      have HEF : Hid (E = false) := Lib.hid (by rw [← HEP.out, HFE.out, @decide_eq_false _ (Classical.propDecidable _) (fun hh => e1 hh.1)]; rfl)
      go_wp2_with fail
      go_ret
      exact ⟨by rw [HEF.out]; rfl, HB1.out⟩
end Go.Proofs.YtfnajccnlcfbiaaDoor.ex
