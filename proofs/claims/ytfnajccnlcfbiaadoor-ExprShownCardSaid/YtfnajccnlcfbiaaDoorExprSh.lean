/- The law ExprShown; walked. -/
import Derived.Test.YtfnajccnlcfbiaaDoorExprW
import Derived.Test.YtfnajccnlcfbiaaDoorExprY
import Derived.Test.YtfnajccnlcfbiaaDoorExprYa
import Derived.Test.YtfnajccnlcfbiaaDoorExprXa
import Derived.Test.YtfnajccnlcfbiaaDoorExprZ
namespace Go.Proofs.YtfnajccnlcfbiaaDoor.ex
set_option linter.unusedVariables false
open Go.RowKit
open val (V null veq6 gB ag3 gMax Pow10 showV)
attribute [local go_sem] Oper.semAt_some
attribute [local go_sem high] run_min_keep
set_option maxRecDepth 100000 in
set_option maxHeartbeats 8000000 in
theorem shown_walk (m : Int) (a1 a2 : Option Addr) (c1 c2 : Nat) (ps qs : List Pt) (hps : ∀ x ∈ ps, PB x) (hqs : ∀ x ∈ qs, PB x) (hl1 : ps.length ≤ 9223372036854775807) (hl2 : qs.length ≤ 9223372036854775807) (hk1 : ps.length ≤ c1) (hk2 : qs.length ≤ c2) (w : World) (hr1 : Row w (.slice a1 ps.length c1) 7 ps.length (pCells ps)) (hr2 : Row w (.slice a2 qs.length c2) 7 qs.length (pCells qs)) (htb : Tabs m w) :
    Calls Tryd.prog 4 #[.slice a1 ps.length c1, .slice a2 qs.length c2] w fun en w' => en = .returned (.bool true) ∧ Below w.heap.size w w' := by
  obtain ⟨n1, hn1⟩ : ∃ n1, ps.length = n1 := ⟨_, rfl⟩
  obtain ⟨n2, hn2⟩ : ∃ n2, qs.length = n2 := ⟨_, rfl⟩
  obtain ⟨M1, hM1⟩ : ∃ M1, min n1 30 = M1 := ⟨_, rfl⟩
  obtain ⟨M2, hM2⟩ : ∃ M2, min n2 30 = M2 := ⟨_, rfl⟩
  obtain ⟨em, nm', hm1, hm2, hm3, hbm⟩ := built_letters (.slice a1 ps.length c1) ps hps 30 (by decide) a1 c1 c1 w hr1 M1 (by rw [hn1, hM1])
  obtain ⟨en, nn', hn1', hn2', hn3', hbn⟩ := built_letters (.slice a2 qs.length c2) qs hqs 30 (by decide) a2 c2 c2 w hr2 M2 (by rw [hn2, hM2])
  have HB1 := Lib.hid hbm
  have HB2 := Lib.hid hbn
  have HM := Lib.hid (And.intro hm1 (And.intro hm2 hm3))
  have HN := Lib.hid (And.intro hn1' (And.intro hn2' hn3'))
  clear hbm hbn hm1 hm2 hm3 hn1' hn2' hn3'
  rw [hn1] at hr1 hl1 hk1 ⊢
  rw [hn2] at hr2 hl2 hk2 ⊢
  have mi1 : min (n1 : Int) 30 = (M1 : Int) := by omega
  have mi2 : min (n2 : Int) 30 = (M2 : Int) := by omega
  have mz1 : (0 : Int) ≤ (M1 : Int) := by omega
  have mz2 : (0 : Int) ≤ (M2 : Int) := by omega
  have mc1 : (M1 : Int) ≤ (c1 : Int) := by omega
  have mc2 : (M2 : Int) ≤ (c2 : Int) := by omega
  clear hM1 hM2 hk1 hk2
  have HTB := Lib.hid htb
  have HSP := Lib.hid (fun (W : World) (hb : Below w.heap.size w W) => speaks_any m W (htb.later hb))
  have z1 : (0 : Int) ≤ (n1 : Int) := by omega
  have z2 : (0 : Int) ≤ (n2 : Int) := by omega
  have z3 : (n1 : Int) ≤ 9223372036854775807 := by omega
  have z4 : (n2 : Int) ≤ 9223372036854775807 := by omega
  clear htb hr1 hr2 hn1 hn2
  go_enter Tryd.func4, Tryd.ntmps4
  go_upto_region 3 with (go_at_call 5; refine (HSP.out _ (Below.refl _ _)).mono ?_; rintro ee w1 ⟨rfl, hb1⟩; have HBa := Lib.hid hb1; clear hb1)
  have HBa0 : Hid (Below w.heap.size w w1) := HBa
  go_upto_region 4 with (go_at_call 6; refine (HB1.out _ HBa0.out).mono ?_; rintro ee pw ⟨r, rfl, hex, hb⟩; have HXp := Lib.hid hex; have HBp := Lib.hid hb; obtain ⟨pa, pc, us', hul', -⟩ := hex.parts; obtain ⟨pk, pop, pv, ptb, pnm, ulv⟩ := r; (dsimp only at hul'); subst hul'; (unfold Er.val); dsimp only; clear hex hb)
  obtain ⟨W2, hW2⟩ : ∃ W2, pw.alloc (.cells #[.int .i64 pk, .int .i64 pop, .int .i64 pv.k, .int .i64 pv.n, .string pv.s, .string ptb, .string pnm, .slice pa em.l.length pc] TQ) = W2 := ⟨_, rfl⟩
  have hb2 : Below w.heap.size w W2 := by rw [← hW2]; exact (HBa0.out.trans (HBp.out.mono HBa0.out.size)).trans (((Below.refl _ _).alloc (Nat.le_refl _) _).mono (by have h1 := HBp.out.size; have h2 := HBa0.out.size; omega))
  rw [hW2]
  have HW2 := Lib.hid hW2; have HB2' := Lib.hid hb2
  clear hW2 hb2
  go_upto_region 5 with (go_at_call 6; refine (HB2.out _ HB2'.out).mono ?_; rintro ee qw ⟨r, rfl, hex, hb⟩; have HXq := Lib.hid hex; have HBq := Lib.hid hb; obtain ⟨qa, qc, us', hul', -⟩ := hex.parts; obtain ⟨qk, qop, qv, qtb, qnm, ulv⟩ := r; (dsimp only at hul'); subst hul'; (unfold Er.val); dsimp only; clear hex hb)
  obtain ⟨X, hX⟩ : ∃ X, qw.alloc (.cells #[.int .i64 qk, .int .i64 qop, .int .i64 qv.k, .int .i64 qv.n, .string qv.s, .string qtb, .string qnm, .slice qa en.l.length qc] TQ) = X := ⟨_, rfl⟩
  have hbX : Below qw.heap.size qw X := by rw [← hX]; exact (Below.refl _ _).alloc (Nat.le_refl _) _
  have hf5 : Flds X pw.heap.size TQ [.int .i64 pk, .int .i64 pop, .int .i64 pv.k, .int .i64 pv.n, .string pv.s, .string ptb, .string pnm, .slice pa em.l.length pc] := by rw [← hX]; exact (((HW2.out ▸ Flds.new pw TQ [.int .i64 pk, .int .i64 pop, .int .i64 pv.k, .int .i64 pv.n, .string pv.s, .string ptb, .string pnm, .slice pa em.l.length pc] : Flds W2 pw.heap.size TQ [.int .i64 pk, .int .i64 pop, .int .i64 pv.k, .int .i64 pv.n, .string pv.s, .string ptb, .string pnm, .slice pa em.l.length pc])).later HBq.out).alloc _
  have hf7 : Flds X qw.heap.size TQ [.int .i64 qk, .int .i64 qop, .int .i64 qv.k, .int .i64 qv.n, .string qv.s, .string qtb, .string qnm, .slice qa en.l.length qc] := by rw [← hX]; exact Flds.new qw TQ _
  have ham : ExAt TQ (fun b => w1.heap.size ≤ b) 26 X em ⟨pk, pop, pv, ptb, pnm, .slice pa em.l.length pc⟩ := ((HXp.out.later (by rw [← HW2.out]; exact (Below.refl _ _).alloc (Nat.le_refl _) _)).later HBq.out).later hbX
  have han : ExAt TQ (fun b => W2.heap.size ≤ b) 26 X en ⟨qk, qop, qv, qtb, qnm, .slice qa en.l.length qc⟩ := HXq.out.later hbX
  have hbw : Below w.heap.size w X := HB2'.out.trans ((HBq.out.trans (hbX.mono HBq.out.size)).mono HB2'.out.size)
  have HF5 := Lib.hid hf5; have HF7 := Lib.hid hf7; have HAM := Lib.hid ham; have HAN := Lib.hid han; have HBX := Lib.hid hbw
  have HT1 := Lib.hid (fun (W : World) (hb : Below X.heap.size X W) => told_any 26 (by decide) _ em ⟨pk, pop, pv, ptb, pnm, .slice pa em.l.length pc⟩ W HM.out.1 (ham.later hb))
  have HT2 := Lib.hid (fun (W : World) (hb : Below X.heap.size X W) => told_any 26 (by decide) _ en ⟨qk, qop, qv, qtb, qnm, .slice qa en.l.length qc⟩ W HN.out.1 (han.later hb))
  rw [hX]
  unfold Er.val at HT1 HT2
  dsimp only at HT1 HT2
  have HX := Lib.hid hX
  clear hX hbX hf5 hf7 ham han hbw
  refine region_two 31 32 33 34 9 10 X em en ⟨pk, pop, pv, ptb, pnm, .slice pa em.l.length pc⟩ ⟨qk, qop, qv, qtb, qnm, .slice qa en.l.length qc⟩ (by kernel_rfl) (by kernel_rfl) rfl ⟨undef, undef, undef, undef, undef, undef, rfl⟩ ?hI ?hend
  case hI =>
    rintro b i o u0 u1 u2 u3 u4 u5 w0 A1 A2 g9 g10 s1 s2 hi ho hoA hbi hc hw ht
    rcases (by omega : i = 0 ∨ i = 1 ∨ i = 2 ∨ i = 3 ∨ i = 4 ∨ i = 5 ∨ i = 6 ∨ i = 7) with rfl | rfl | rfl | rfl | rfl | rfl | rfl | rfl
    · simp only [List.getElem?_cons_zero, Option.some.injEq] at ho
      subst ho
      obtain ⟨y0, y1, y2, y3, y4, y5, y6, y7, l3⟩ := of_fe (HF5.out.later ht.bel)
      refine wpOp_does (K := fun v w' => v = (Er.val ⟨pk, pop, pv, ptb, pnm, .slice pa em.l.length pc⟩) ∧ w' = w0) rfl rfl ?_ (fun v w' h => ?_)
      · have HTI := Lib.hid ht
        clear hw hc ht hbi
        unfold put6; simp only [Act.put, List.setIfInBounds_toArray, List.set_cons_zero, List.set_cons_succ]
        unfold ag.does
        go_simp
        exact ⟨rfl, rfl⟩
      · obtain ⟨rfl, rfl⟩ := h
        exact ⟨(Er.val ⟨pk, pop, pv, ptb, pnm, .slice pa em.l.length pc⟩), u1, u2, u3, u4, u5, (by show Act.put _ (some 31) _ = _; unfold put6; simp only [Act.put, List.setIfInBounds_toArray, List.set_cons_zero, List.set_cons_succ]), A1, A2, g9, g10, s1, s2, ht.op0⟩
    · simp only [List.getElem?_cons_zero, List.getElem?_cons_succ, Option.some.injEq] at ho
      subst ho
      obtain rfl := ht.v0 (hw 0 (by kernel_rfl))
      have h6 : b 6 = false := by
        cases h : b 6 with
        | false => rfl
        | true => have := hc 6 _ rfl h 1 (by kernel_rfl); rw [hbi] at this; cases this
      have HC := Lib.hid (HT1.out w0 ht.bel)
      refine wpOp_does (K := fun v w' => ∃ s : Er, v = s.val ∧ ExAt TE (fun k => w0.heap.size ≤ k) 26 w' em s ∧ Below w0.heap.size w0 w') rfl rfl ?_ (fun v w' h => ?_)
      · have HTI := Lib.hid ht
        clear hw hc ht hbi
        unfold put6; simp only [Act.put, List.setIfInBounds_toArray, List.set_cons_zero, List.set_cons_succ]
        unfold Er.val
        dsimp only
        unfold ag.does
        go_simp
        exact HC.out.mono (fun e w' h => by obtain ⟨s, h1, h2, h3⟩ := h; exact ⟨s.val, h1, s, rfl, h2, h3⟩)
      · obtain ⟨s, rfl, h2, h3⟩ := h
        exact ⟨(Er.val ⟨pk, pop, pv, ptb, pnm, .slice pa em.l.length pc⟩), s.val, u2, u3, u4, u5, (by show Act.put _ (some 32) _ = _; unfold put6; simp only [Act.put, List.setIfInBounds_toArray, List.set_cons_zero, List.set_cons_succ]), _, A2, g9, g10, s, s2, ht.op1 h6 h3 h2⟩
    · simp only [List.getElem?_cons_zero, List.getElem?_cons_succ, Option.some.injEq] at ho
      subst ho
      obtain ⟨y0, y1, y2, y3, y4, y5, y6, y7, l3⟩ := of_fe (HF7.out.later ht.bel)
      refine wpOp_does (K := fun v w' => v = (Er.val ⟨qk, qop, qv, qtb, qnm, .slice qa en.l.length qc⟩) ∧ w' = w0) rfl rfl ?_ (fun v w' h => ?_)
      · have HTI := Lib.hid ht
        clear hw hc ht hbi
        unfold put6; simp only [Act.put, List.setIfInBounds_toArray, List.set_cons_zero, List.set_cons_succ]
        unfold ag.does
        go_simp
        exact ⟨rfl, rfl⟩
      · obtain ⟨rfl, rfl⟩ := h
        exact ⟨u0, u1, (Er.val ⟨qk, qop, qv, qtb, qnm, .slice qa en.l.length qc⟩), u3, u4, u5, (by show Act.put _ (some 33) _ = _; unfold put6; simp only [Act.put, List.setIfInBounds_toArray, List.set_cons_zero, List.set_cons_succ]), A1, A2, g9, g10, s1, s2, ht.op2⟩
    · simp only [List.getElem?_cons_zero, List.getElem?_cons_succ, Option.some.injEq] at ho
      subst ho
      obtain rfl := ht.v2 (hw 2 (by kernel_rfl))
      have h7 : b 7 = false := by
        cases h : b 7 with
        | false => rfl
        | true => have := hc 7 _ rfl h 3 (by kernel_rfl); rw [hbi] at this; cases this
      have HC := Lib.hid (HT2.out w0 ht.bel)
      refine wpOp_does (K := fun v w' => ∃ s : Er, v = s.val ∧ ExAt TE (fun k => w0.heap.size ≤ k) 26 w' en s ∧ Below w0.heap.size w0 w') rfl rfl ?_ (fun v w' h => ?_)
      · have HTI := Lib.hid ht
        clear hw hc ht hbi
        unfold put6; simp only [Act.put, List.setIfInBounds_toArray, List.set_cons_zero, List.set_cons_succ]
        unfold Er.val
        dsimp only
        unfold ag.does
        go_simp
        exact HC.out.mono (fun e w' h => by obtain ⟨s, h1, h2, h3⟩ := h; exact ⟨s.val, h1, s, rfl, h2, h3⟩)
      · obtain ⟨s, rfl, h2, h3⟩ := h
        exact ⟨u0, u1, (Er.val ⟨qk, qop, qv, qtb, qnm, .slice qa en.l.length qc⟩), s.val, u4, u5, (by show Act.put _ (some 34) _ = _; unfold put6; simp only [Act.put, List.setIfInBounds_toArray, List.set_cons_zero, List.set_cons_succ]), A1, _, g9, g10, s1, s, ht.op3 h7 h3 h2⟩
    · simp only [List.getElem?_cons_zero, List.getElem?_cons_succ, Option.some.injEq] at ho
      subst ho
      have h6 : b 6 = false := by
        cases h : b 6 with
        | false => rfl
        | true => have := hc 6 _ rfl h 4 (by kernel_rfl); rw [hbi] at this; cases this
      refine wpOp_does (K := fun v w' => v = .pointer (some ⟨w0.heap.size, 0, none⟩) ∧ w' = w0.alloc (.cells #[.int .i64 0, .int .i64 0, .int .i64 0, .int .i64 0, .string (ByteArray.mk #[]), .string (ByteArray.mk #[]), .string (ByteArray.mk #[]), .slice none 0 0] TE)) rfl rfl ?_ (fun v w' h => ?_)
      · have HTI := Lib.hid ht
        clear hw hc ht hbi
        unfold put6; simp only [Act.put, List.setIfInBounds_toArray, List.set_cons_zero, List.set_cons_succ]
        unfold ag.does
        go_simp
        exact ⟨rfl, rfl⟩
      · obtain ⟨rfl, rfl⟩ := h
        exact ⟨u0, u1, u2, u3, .pointer (some ⟨w0.heap.size, 0, none⟩), u5, (by show Act.put _ (some 9) _ = _; unfold put6; simp only [Act.put, List.setIfInBounds_toArray, List.set_cons_zero, List.set_cons_succ]), A1, A2, _, g10, s1, s2, ht.op4 h6 _ _ _ _ _ _ _ _⟩
    · simp only [List.getElem?_cons_zero, List.getElem?_cons_succ, Option.some.injEq] at ho
      subst ho
      have h7 : b 7 = false := by
        cases h : b 7 with
        | false => rfl
        | true => have := hc 7 _ rfl h 5 (by kernel_rfl); rw [hbi] at this; cases this
      refine wpOp_does (K := fun v w' => v = .pointer (some ⟨w0.heap.size, 0, none⟩) ∧ w' = w0.alloc (.cells #[.int .i64 0, .int .i64 0, .int .i64 0, .int .i64 0, .string (ByteArray.mk #[]), .string (ByteArray.mk #[]), .string (ByteArray.mk #[]), .slice none 0 0] TE)) rfl rfl ?_ (fun v w' h => ?_)
      · have HTI := Lib.hid ht
        clear hw hc ht hbi
        unfold put6; simp only [Act.put, List.setIfInBounds_toArray, List.set_cons_zero, List.set_cons_succ]
        unfold ag.does
        go_simp
        exact ⟨rfl, rfl⟩
      · obtain ⟨rfl, rfl⟩ := h
        exact ⟨u0, u1, u2, u3, u4, .pointer (some ⟨w0.heap.size, 0, none⟩), (by show Act.put _ (some 10) _ = _; unfold put6; simp only [Act.put, List.setIfInBounds_toArray, List.set_cons_zero, List.set_cons_succ]), A1, A2, g9, _, s1, s2, ht.op5 h7 _ _ _ _ _ _ _ _⟩
    · simp only [List.getElem?_cons_zero, List.getElem?_cons_succ, Option.some.injEq] at ho
      have h1w : ag.waits o 1 = true := by rw [← ho]; kernel_rfl
      have h4w : ag.waits o 4 = true := by rw [← ho]; kernel_rfl
      have h5w : ag.waits o 5 = true := by rw [← ho]; kernel_rfl
      have hop : o.op = .store TE (.tmp 9) (.tmp 32) := by rw [← ho]
      have hdst : o.dst = none := by rw [← ho]
      have hgd : ∀ ys, Region.wanted o ys = true := fun ys => by rw [← ho]; rfl
      obtain ⟨rfl, hex⟩ := ht.v1 (hw _ h1w)
      have h4 := hw 4 h4w
      have h5 := hw 5 h5w
      obtain ⟨rfl, -, ⟨x0, x1, x2, x3, x4, x5, x6, x7, hf, -⟩, -, -⟩ := ht.p4 h4
      obtain ⟨sa, sc, us', hul', -⟩ := hex.parts
      clear ho hw hc hbi
      refine wpOp_does hoA (hgd _) (does_store hf s1 sa _ sc hul' hop ?_ ?_) (fun v w' h => ?_)
      · unfold put6; simp only [Act.put, List.setIfInBounds_toArray, List.set_cons_zero, List.set_cons_succ]; rfl
      · unfold put6; simp only [Act.put, List.setIfInBounds_toArray, List.set_cons_zero, List.set_cons_succ]; rfl
      · exact ⟨u0, s1.val, u2, u3, .pointer (some ⟨g9, 0, none⟩), u5, (by rw [hdst]; rfl), A1, A2, g9, g10, _, _, ht.op6 h4 h5 h.1 h.2⟩
    · simp only [List.getElem?_cons_zero, List.getElem?_cons_succ, Option.some.injEq] at ho
      have h1w : ag.waits o 3 = true := by rw [← ho]; kernel_rfl
      have h4w : ag.waits o 4 = true := by rw [← ho]; kernel_rfl
      have h5w : ag.waits o 5 = true := by rw [← ho]; kernel_rfl
      have hop : o.op = .store TE (.tmp 10) (.tmp 34) := by rw [← ho]
      have hdst : o.dst = none := by rw [← ho]
      have hgd : ∀ ys, Region.wanted o ys = true := fun ys => by rw [← ho]; rfl
      obtain ⟨rfl, hex⟩ := ht.v3 (hw _ h1w)
      have h4 := hw 4 h4w
      have h5 := hw 5 h5w
      obtain ⟨rfl, -, ⟨x0, x1, x2, x3, x4, x5, x6, x7, hf, -⟩, -, -⟩ := ht.p5 h5
      obtain ⟨sa, sc, us', hul', -⟩ := hex.parts
      clear ho hw hc hbi
      refine wpOp_does hoA (hgd _) (does_store hf s2 sa _ sc hul' hop ?_ ?_) (fun v w' h => ?_)
      · unfold put6; simp only [Act.put, List.setIfInBounds_toArray, List.set_cons_zero, List.set_cons_succ]; rfl
      · unfold put6; simp only [Act.put, List.setIfInBounds_toArray, List.set_cons_zero, List.set_cons_succ]; rfl
      · exact ⟨u0, u1, u2, s2.val, u4, .pointer (some ⟨g10, 0, none⟩), (by rw [hdst]; rfl), A1, A2, g9, g10, _, _, ht.op7 h4 h5 h.1 h.2⟩
  case hend =>
    rintro v0 v2 w5 g9 g10 s1 s2 hne h9 h10 hf9 hf10 hx1 hx2 hb5
    obtain ⟨sa, sc, us1, hul1, -⟩ := hx1.parts
    obtain ⟨ta, tc, us2, hul2, -⟩ := hx2.parts
    obtain ⟨sk, sop, sv, stb, snm, slv⟩ := s1
    obtain ⟨tk, top, tv, ttb, tnm, tlv⟩ := s2
    dsimp only at hul1 hul2
    subst hul1
    subst hul2
    have HB5 := Lib.hid hb5
    have HF9 : Hid (Flds w5 g9 TE [.int .i64 sk, .int .i64 sop, .int .i64 sv.k, .int .i64 sv.n, .string sv.s, .string stb, .string snm, .slice sa em.l.length sc]) := Lib.hid hf9
    have HF10 : Hid (Flds w5 g10 TE [.int .i64 tk, .int .i64 top, .int .i64 tv.k, .int .i64 tv.n, .string tv.s, .string ttb, .string tnm, .slice ta en.l.length tc]) := Lib.hid hf10
    obtain ⟨G1, hG1⟩ : ∃ G, goodB 20 em true = G := ⟨_, rfl⟩
    obtain ⟨G2, hG2⟩ : ∃ G, goodB 20 en true = G := ⟨_, rfl⟩
    have HW9 := Lib.hid (fun (W : World) (hb : Below w5.heap.size w5 W) => of_fe (HF9.out.later hb))
    have HW10 := Lib.hid (fun (W : World) (hb : Below w5.heap.size w5 W) => of_fe (HF10.out.later hb))
    have HC1 := Lib.hid (fun (W : World) (hb : Below w5.heap.size w5 W) => egood_any HM.out.1 HM.out.2.1 (hx1.later hb))
    have HC2 := Lib.hid (fun (W : World) (hb : Below w5.heap.size w5 W) => egood_any HN.out.1 HN.out.2.1 (hx2.later hb))
    have HC3 := Lib.hid (fun (W : World) (hb : Below w5.heap.size w5 W) => eshow_any m (by decide) HM.out.1 HM.out.2.1 (by have := HM.out.2.2; omega) (HTB.out.later (HBX.out.trans ((hb5.trans (hb.mono hb5.size)).mono HBX.out.size))) (hx1.later hb))
    have HC4 := Lib.hid (fun (W : World) (hb : Below w5.heap.size w5 W) => eshow_any m (by decide) HN.out.1 HN.out.2.1 (by have := HN.out.2.2; omega) (HTB.out.later (HBX.out.trans ((hb5.trans (hb.mono hb5.size)).mono HBX.out.size))) (hx2.later hb))
    have HC5 := Lib.hid (fun (W : World) (hb : Below w5.heap.size w5 W) => same_any 26 _ _ em en _ _ W (hx1.later hb) (hx2.later hb))
    rw [hG1] at HC1 HC3
    rw [hG2] at HC2 HC4
    have HBW : Hid (Below w.heap.size w w5) := Lib.hid (HBX.out.trans (hb5.mono HBX.out.size))
    have HG1 := Lib.hid hG1; have HG2 := Lib.hid hG2
    clear hx1 hx2 hf9 hf10 hb5 hne h9 h10 hG1 hG2
    unfold put6
    unfold Er.val at HC1 HC2 HC3 HC4 HC5 ⊢
    dsimp only at HC1 HC2 HC3 HC4 HC5 ⊢
    simp only [Act.put, List.setIfInBounds_toArray, List.set_cons_zero, List.set_cons_succ]
    obtain ⟨e0, e1, e2, e3, e4, e5, e6, e7, l5⟩ := HW9.out w5 (Below.refl _ _)
    cases G1 with
    | false =>
      clear HC2 HC3 HC4 HC5
      go_wp2_with (go_at_call 10; with_reducible refine (HC1.out _ (Below.refl _ _)).mono ?_; rintro ee w6 ⟨rfl, hb6⟩; have HB6 := Lib.hid hb6; clear hb6)
      go_ret
      exact ⟨rfl, HBW.out.trans (HB6.out.mono HBW.out.size)⟩
    | true =>
      cases G2 with
      | false =>
        clear HC3 HC4 HC5
        go_wp2_with (first
          | (go_at_call 10; with_reducible refine (HC1.out _ (Below.refl _ _)).mono ?_; rintro ee w6 ⟨rfl, hb6⟩; have HB6 := Lib.hid hb6; clear e0 e1 e2 e3 e4 e5 e6 e7 l5; obtain ⟨e0, e1, e2, e3, e4, e5, e6, e7, l5⟩ := HW10.out w6 hb6; clear hb6)
          | (go_at_call 10; with_reducible refine (HC2.out _ HB6.out).mono ?_; rintro ee w7 ⟨rfl, hb7⟩; have HB7 := Lib.hid (HB6.out.trans (hb7.mono HB6.out.size)); clear hb7))
        go_ret
        exact ⟨rfl, HBW.out.trans (HB7.out.mono HBW.out.size)⟩
      | true =>
        have m1 := ((goodE_iff em 20 true).1 (pB_iff.1 HG1.out)).2
        have m2 := ((goodE_iff en 20 true).1 (pB_iff.1 HG2.out)).2
        rw [if_pos rfl] at HC3 HC4
        obtain ⟨S1, hS1⟩ : ∃ S, showE em = S := ⟨_, rfl⟩
        obtain ⟨S2, hS2⟩ : ∃ S, showE en = S := ⟨_, rfl⟩
        obtain ⟨B, hB⟩ : ∃ B, eqE em en = B := ⟨_, rfl⟩
        have hSB : (S1.toList == S2.toList) = B := by
          rw [← hB, Bool.eq_iff_iff, eqE_yes, beq_iff_eq, ← hS1, ← hS2]
          exact ⟨fun h => showE_inj m1 m2 (by rw [Lib.toList_data, Lib.toList_data] at h; exact ByteArray.ext (Array.toList_inj.1 h)), fun h => by rw [h]⟩
        have hne : ¬ S1.toList = [] := fun h => showE_ne m1 (by rw [hS1]; rw [Lib.toList_data, Array.toList_eq_nil_iff] at h; exact ByteArray.ext h)
        have hne2 : S1.toList.isEmpty = false := by cases h : S1.toList with | nil => exact absurd h hne | cons _ _ => rfl
        rw [hS1] at HC3
        rw [hS2] at HC4
        rw [hB] at HC5
        have HSB := Lib.hid hSB; have HNE := Lib.hid (And.intro hne hne2)
        clear m1 m2 hS1 hS2 hB hSB hne hne2
        go_upto_region 8 with (first
          | (go_at_call 10; with_reducible refine (HC1.out _ (Below.refl _ _)).mono ?_; rintro ee w6 ⟨rfl, hb6⟩; have HB6 := Lib.hid hb6; clear e0 e1 e2 e3 e4 e5 e6 e7 l5; obtain ⟨e0, e1, e2, e3, e4, e5, e6, e7, l5⟩ := HW10.out w6 hb6; clear hb6)
          | (go_at_call 10; with_reducible refine (HC2.out _ HB6.out).mono ?_; rintro ee w7 ⟨rfl, hb7⟩; have HB7 := Lib.hid (HB6.out.trans (hb7.mono HB6.out.size)); clear hb7))
        clear e0 e1 e2 e3 e4 e5 e6 e7 l5
        apply ag.region_calm (ag.Spec.val _ :: ag.Spec.sat (fun v _ => v = .string S1) ag.grew :: ag.Spec.val _ :: ag.Spec.sat (fun v _ => v = .string S2) ag.grew :: ag.Spec.val (.bool B) :: ag.Spec.val _ :: ag.Spec.val _ :: ag.Spec.sat (fun v _ => v = .bool B) ag.grew :: ag.Spec.val (.bool true) :: ag.Spec.val _ :: ag.Spec.val _ :: ag.Spec.sat (fun v _ => v = .string S1) ag.grew :: ag.Spec.val (.bool true) :: ag.Spec.val _ :: ag.Spec.val _ :: [])
        case hm => kernel_rfl
        case hB => kernel_rfl
        case hlen => rfl
        case hc => exact ⟨⟨ag.lasts_eq _, rfl⟩, ⟨ag.lasts_eq _, rfl⟩, ⟨ag.lasts_eq _, rfl⟩, ⟨ag.lasts_eq _, rfl⟩, trivial⟩
        apply ag.walk_val
        · rfl
        · intro W1 hS hE
          obtain ⟨y0, y1, y2, y3, y4, y5, y6, y7, l3⟩ := HW9.out W1 (HB7.out.trans (hS.mono HB7.out.size))
          clear hS hE
          unfold ag.does
          go_simp
          first | done | exact ⟨rfl, rfl⟩ | rfl | (exact ⟨by go_num, rfl⟩) | (simp; done) | trace_state
        simp only [Act.put, List.setIfInBounds_toArray, List.set_cons_zero, List.set_cons_succ]
        refine ag.walk_such (by rfl) (fun W1 hS hE => ?_) (fun y1 => ?_)
        · have hc := HC3.out W1 (HB7.out.trans (hS.mono HB7.out.size))
          clear hE
          unfold ag.does
          go_simp
          first | done | (exact hc.mono (fun e w' h => ⟨_, h.1, rfl, h.2⟩))
        simp only [Act.put, List.setIfInBounds_toArray, List.set_cons_zero, List.set_cons_succ]
        apply ag.walk_val
        · rfl
        · intro W1 hS hE
          obtain ⟨y0, y1, y2, y3, y4, y5, y6, y7, l3⟩ := HW10.out W1 (HB7.out.trans (hS.mono HB7.out.size))
          clear hS hE
          unfold ag.does
          go_simp
          first | done | exact ⟨rfl, rfl⟩ | rfl | (exact ⟨by go_num, rfl⟩) | (simp; done) | trace_state
        simp only [Act.put, List.setIfInBounds_toArray, List.set_cons_zero, List.set_cons_succ]
        refine ag.walk_such (by rfl) (fun W1 hS hE => ?_) (fun y3 => ?_)
        · have hc := HC4.out W1 (HB7.out.trans (hS.mono HB7.out.size))
          clear hE
          unfold ag.does
          go_simp
          first | done | (exact hc.mono (fun e w' h => ⟨_, h.1, rfl, h.2⟩))
        simp only [Act.put, List.setIfInBounds_toArray, List.set_cons_zero, List.set_cons_succ]
        apply ag.walk_val
        · rfl
        · intro W1 hS hE
          have f1 : y1 = .string S1 := hE.of 1 (by kernel_rfl)
          subst f1
          have f3 : y3 = .string S2 := hE.of 3 (by kernel_rfl)
          subst f3
          have hsb := HSB.out
          clear hS hE
          unfold ag.does
          go_simp
          first | done | exact ⟨rfl, rfl⟩ | rfl | (exact ⟨by go_num, rfl⟩) | (simp; done) | trace_state
        simp only [Act.put, List.setIfInBounds_toArray, List.set_cons_zero, List.set_cons_succ]
        apply ag.walk_val
        · rfl
        · intro W1 hS hE
          obtain ⟨y0, y1, y2, y3, y4, y5, y6, y7, l3⟩ := HW9.out W1 (HB7.out.trans (hS.mono HB7.out.size))
          clear hS hE
          unfold ag.does
          go_simp
          first | done | exact ⟨rfl, rfl⟩ | rfl | (exact ⟨by go_num, rfl⟩) | (simp; done) | trace_state
        simp only [Act.put, List.setIfInBounds_toArray, List.set_cons_zero, List.set_cons_succ]
        apply ag.walk_val
        · rfl
        · intro W1 hS hE
          obtain ⟨y0, y1, y2, y3, y4, y5, y6, y7, l3⟩ := HW10.out W1 (HB7.out.trans (hS.mono HB7.out.size))
          clear hS hE
          unfold ag.does
          go_simp
          first | done | exact ⟨rfl, rfl⟩ | rfl | (exact ⟨by go_num, rfl⟩) | (simp; done) | trace_state
        simp only [Act.put, List.setIfInBounds_toArray, List.set_cons_zero, List.set_cons_succ]
        refine ag.walk_such (by rfl) (fun W1 hS hE => ?_) (fun y7 => ?_)
        · have hc := HC5.out W1 (HB7.out.trans (hS.mono HB7.out.size))
          clear hE
          unfold ag.does
          go_simp
          first | done | (exact hc.mono (fun e w' h => ⟨_, h.1, rfl, h.2⟩))
        simp only [Act.put, List.setIfInBounds_toArray, List.set_cons_zero, List.set_cons_succ]
        apply ag.walk_val
        · rfl
        · intro W1 hS hE
          have f7 : y7 = .bool B := hE.of 7 (by kernel_rfl)
          subst f7
          have hbb : (B == B) = true := by simp
          clear hS hE
          unfold ag.does
          go_simp
          first | done | exact ⟨rfl, rfl⟩ | rfl | (exact ⟨by go_num, rfl⟩) | (simp; done) | trace_state
        simp only [Act.put, List.setIfInBounds_toArray, List.set_cons_zero, List.set_cons_succ]
        apply ag.walk_val
        · rfl
        · intro W1 hS hE
          clear hS hE
          unfold ag.does
          go_simp
          first | done | exact ⟨rfl, rfl⟩ | rfl | (exact ⟨by go_num, rfl⟩) | (simp; done) | trace_state
        simp only [Act.put, List.setIfInBounds_toArray, List.set_cons_zero, List.set_cons_succ]
        apply ag.walk_val
        · rfl
        · intro W1 hS hE
          obtain ⟨y0, y1, y2, y3, y4, y5, y6, y7, l3⟩ := HW9.out W1 (HB7.out.trans (hS.mono HB7.out.size))
          clear hS hE
          unfold ag.does
          go_simp
          first | done | exact ⟨rfl, rfl⟩ | rfl | (exact ⟨by go_num, rfl⟩) | (simp; done) | trace_state
        simp only [Act.put, List.setIfInBounds_toArray, List.set_cons_zero, List.set_cons_succ]
        refine ag.walk_such (by rfl) (fun W1 hS hE => ?_) (fun y11 => ?_)
        · have hc := HC3.out W1 (HB7.out.trans (hS.mono HB7.out.size))
          clear hE
          unfold ag.does
          go_simp
          first | done | (exact hc.mono (fun e w' h => ⟨_, h.1, rfl, h.2⟩))
        simp only [Act.put, List.setIfInBounds_toArray, List.set_cons_zero, List.set_cons_succ]
        apply ag.walk_val
        · rfl
        · intro W1 hS hE
          have f11 : y11 = .string S1 := hE.of 11 (by kernel_rfl)
          subst f11
          obtain ⟨hn1, hn2⟩ := HNE.out
          clear hS hE
          unfold ag.does
          go_simp
          first | done | exact ⟨rfl, rfl⟩ | rfl | (exact ⟨by go_num, rfl⟩) | (simp; done) | trace_state
        simp only [Act.put, List.setIfInBounds_toArray, List.set_cons_zero, List.set_cons_succ]
        apply ag.walk_val
        · rfl
        · intro W1 hS hE
          clear hS hE
          unfold ag.does
          go_simp
          first | done | exact ⟨rfl, rfl⟩ | rfl | (exact ⟨by go_num, rfl⟩) | (simp; done) | trace_state
        simp only [Act.put, List.setIfInBounds_toArray, List.set_cons_zero, List.set_cons_succ]
        apply ag.walk_val
        · rfl
        · intro W1 hS hE
          clear hS hE
          unfold ag.does
          go_simp
          first | done | exact ⟨rfl, rfl⟩ | rfl | (exact ⟨by go_num, rfl⟩) | (simp; done) | trace_state
        simp only [Act.put, List.setIfInBounds_toArray, List.set_cons_zero, List.set_cons_succ]
        refine ag.walk_nil (fun w9 hS hF hP => ?_)
        clear hP
        clear hF
        have HB9 := Lib.hid (HB7.out.trans (hS.mono HB7.out.size))
        clear hS
        go_wp2_with fail
        go_ret
        exact ⟨rfl, HBW.out.trans (HB9.out.mono HBW.out.size)⟩
end Go.Proofs.YtfnajccnlcfbiaaDoor.ex
