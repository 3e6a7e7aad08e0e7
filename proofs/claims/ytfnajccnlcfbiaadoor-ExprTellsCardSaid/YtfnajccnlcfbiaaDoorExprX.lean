/- The law ExprTells; walked. -/
import Derived.Test.YtfnajccnlcfbiaaDoorExprW
import Derived.Test.YtfnajccnlcfbiaaDoorExprY
import Derived.Test.YtfnajccnlcfbiaaDoorExprYa
import Derived.Test.YtfnajccnlcfbiaaDoorExprXa
namespace Go.Proofs.YtfnajccnlcfbiaaDoor.ex
set_option linter.unusedVariables false
open Go.RowKit
open val (V null veq6 gB ag3 gMax Pow10 showV)
attribute [local go_sem] Oper.semAt_some
attribute [local go_sem high] run_min_keep
abbrev TBo : TypeId := 4
/-- two documents' trees in boxes -/
structure Two (w : World) (g4 g5 g7 : Nat) (em en : Ex) (rm rn : Er) (W : World) : Prop where
  f4 : Flds W g4 TBo [.bool false]
  f5 : Flds W g5 TQ rm.cells
  f7 : Flds W g7 TQ rn.cells
  am : ExAt TQ (fun b => w.heap.size < b ∧ b ≠ g5 ∧ b ≠ g7) 26 W em rm
  an : ExAt TQ (fun b => w.heap.size < b ∧ b ≠ g5 ∧ b ≠ g7) 26 W en rn
  bel : Below w.heap.size w W
set_option maxRecDepth 100000 in
set_option maxHeartbeats 8000000 in
theorem tells_walk (m : Int) (a1 a2 : Option Addr) (c1 c2 : Nat) (ps qs : List Pt) (hps : ∀ x ∈ ps, PB x) (hqs : ∀ x ∈ qs, PB x) (hl1 : ps.length ≤ 9223372036854775807) (hl2 : qs.length ≤ 9223372036854775807) (hk1 : ps.length ≤ c1) (hk2 : qs.length ≤ c2) (w : World) (hr1 : Row w (.slice a1 ps.length c1) 7 ps.length (pCells ps)) (hr2 : Row w (.slice a2 qs.length c2) 7 qs.length (pCells qs)) (htb : Tabs m w) :
    Calls Tryd.prog 3 #[.slice a1 ps.length c1, .slice a2 qs.length c2] w fun en w' => en = .returned (.bool true) ∧ Below w.heap.size w w' := by
  obtain ⟨n1, hn1⟩ : ∃ n1, ps.length = n1 := ⟨_, rfl⟩
  obtain ⟨n2, hn2⟩ : ∃ n2, qs.length = n2 := ⟨_, rfl⟩
  obtain ⟨M1, hM1⟩ : ∃ M1, min n1 40 = M1 := ⟨_, rfl⟩
  obtain ⟨M2, hM2⟩ : ∃ M2, min n2 40 = M2 := ⟨_, rfl⟩
  obtain ⟨em, nm', hm1, hm2, hm3, hbm⟩ := built_letters (.slice a1 ps.length c1) ps hps 40 (by decide) a1 c1 c1 w hr1 M1 (by rw [hn1, hM1])
  obtain ⟨en, nn', hn1', hn2', hn3', hbn⟩ := built_letters (.slice a2 qs.length c2) qs hqs 40 (by decide) a2 c2 c2 w hr2 M2 (by rw [hn2, hM2])
  have HB1 := Lib.hid hbm
  have HB2 := Lib.hid hbn
  have HM := Lib.hid (And.intro hm1 (And.intro hm2 hm3))
  have HN := Lib.hid (And.intro hn1' (And.intro hn2' hn3'))
  clear hbm hbn hm1 hm2 hm3 hn1' hn2' hn3'
  rw [hn1] at hr1 hl1 hk1 ⊢
  rw [hn2] at hr2 hl2 hk2 ⊢
  have mi1 : min (n1 : Int) 40 = (M1 : Int) := by omega
  have mi2 : min (n2 : Int) 40 = (M2 : Int) := by omega
  have mz1 : (0 : Int) ≤ (M1 : Int) := by omega
  have mz2 : (0 : Int) ≤ (M2 : Int) := by omega
  have mc1 : (M1 : Int) ≤ (c1 : Int) := by omega
  have mc2 : (M2 : Int) ≤ (c2 : Int) := by omega
  clear hM1 hM2 hk1 hk2
  have HTB := Lib.hid htb
  have HSP := Lib.hid (fun (W : World) (hb : Below w.heap.size w W) => speaks_any m W (htb.later hb))
  have z1 : (0 : Int) ≤ (n1 : Int) := by omega
  have z2 : (0 : Int) ≤ (n2 : Int) := by omega
  have z3 : (n1 : Int) ≤ 9223372036854775807 := by omega
  have z4 : (n2 : Int) ≤ 9223372036854775807 := by omega
  clear htb hr1 hr2 hn1 hn2
  refine callsIn_wide.1 (callsIn_of_wp_marks (n := 3) Tryd.func3 rfl trivial (wpIn_wide.2 ?_) rfl)
  simp only [Tryd.ntmps3, List.size_toArray, List.length_cons, List.length_nil, Nat.reduceAdd, Nat.reduceSub, Array.replicate_succ, Array.replicate_zero, List.push_toArray, List.append_toArray, List.nil_append, List.cons_append]
  go_upto_region 3 with (go_at_call 5; refine (HSP.out _ ((Below.refl _ _).alloc (Nat.le_refl _) _)).mono ?_; rintro ee w1 ⟨rfl, hb1⟩; have HBa := Lib.hid hb1; clear hb1)
  have HF4a : Hid (Flds w1 w.heap.size TBo [.bool false]) := Lib.hid ((Flds.new w TBo [.bool false]).later HBa.out)
  have HBa0 : Hid (Below w.heap.size w w1) := Lib.hid (((Below.refl _ _).alloc (Nat.le_refl _) _).trans (HBa.out.mono (by rw [World.size_alloc]; omega)))
  go_upto_region 4 with (go_at_call 6; refine (HB1.out _ HBa0.out).mono ?_; rintro ee pw ⟨r, rfl, hex, hb⟩; have HXp := Lib.hid hex; have HBp := Lib.hid hb; obtain ⟨pa, pc, us', hul', -⟩ := hex.parts; obtain ⟨pk, pop, pv, ptb, pnm, ulv⟩ := r; (dsimp only at hul'); subst hul'; (unfold Er.val); dsimp only; clear hex hb)
  obtain ⟨W2, hW2⟩ : ∃ W2, pw.alloc (.cells #[.int .i64 pk, .int .i64 pop, .int .i64 pv.k, .int .i64 pv.n, .string pv.s, .string ptb, .string pnm, .slice pa em.l.length pc] TQ) = W2 := ⟨_, rfl⟩
  have hb2 : Below w.heap.size w W2 := by rw [← hW2]; exact (HBa0.out.trans (HBp.out.mono HBa0.out.size)).trans (((Below.refl _ _).alloc (Nat.le_refl _) _).mono (by have h1 := HBp.out.size; have h2 := HBa0.out.size; omega))
  rw [hW2]
  have HW2 := Lib.hid hW2; have HB2' := Lib.hid hb2
  clear hW2 hb2
  go_upto_region 5 with (go_at_call 6; refine (HB2.out _ HB2'.out).mono ?_; rintro ee qw ⟨r, rfl, hex, hb⟩; have HXq := Lib.hid hex; have HBq := Lib.hid hb; obtain ⟨qa, qc, us', hul', -⟩ := hex.parts; obtain ⟨qk, qop, qv, qtb, qnm, ulv⟩ := r; (dsimp only at hul'); subst hul'; (unfold Er.val); dsimp only; clear hex hb)
  obtain ⟨X, hX⟩ : ∃ X, qw.alloc (.cells #[.int .i64 qk, .int .i64 qop, .int .i64 qv.k, .int .i64 qv.n, .string qv.s, .string qtb, .string qnm, .slice qa en.l.length qc] TQ) = X := ⟨_, rfl⟩
  have hbX : Below qw.heap.size qw X := by rw [← hX]; exact (Below.refl _ _).alloc (Nat.le_refl _) _
  have hf5 : Flds X pw.heap.size TQ [.int .i64 pk, .int .i64 pop, .int .i64 pv.k, .int .i64 pv.n, .string pv.s, .string ptb, .string pnm, .slice pa em.l.length pc] := by rw [← hX]; exact (((HW2.out ▸ Flds.new pw TQ [.int .i64 pk, .int .i64 pop, .int .i64 pv.k, .int .i64 pv.n, .string pv.s, .string ptb, .string pnm, .slice pa em.l.length pc] : Flds W2 pw.heap.size TQ [.int .i64 pk, .int .i64 pop, .int .i64 pv.k, .int .i64 pv.n, .string pv.s, .string ptb, .string pnm, .slice pa em.l.length pc])).later HBq.out).alloc _
  have hf7 : Flds X qw.heap.size TQ [.int .i64 qk, .int .i64 qop, .int .i64 qv.k, .int .i64 qv.n, .string qv.s, .string qtb, .string qnm, .slice qa en.l.length qc] := by rw [← hX]; exact Flds.new qw TQ _
  have ham : ExAt TQ (fun b => w1.heap.size ≤ b) 26 X em ⟨pk, pop, pv, ptb, pnm, .slice pa em.l.length pc⟩ := ((HXp.out.later (by rw [← HW2.out]; exact (Below.refl _ _).alloc (Nat.le_refl _) _)).later HBq.out).later hbX
  have han : ExAt TQ (fun b => W2.heap.size ≤ b) 26 X en ⟨qk, qop, qv, qtb, qnm, .slice qa en.l.length qc⟩ := HXq.out.later hbX
  have hbw : Below w.heap.size w X := HB2'.out.trans ((HBq.out.trans (hbX.mono HBq.out.size)).mono HB2'.out.size)
  have HF4X : Hid (Flds X w.heap.size TBo [.bool false]) := Lib.hid ((((HF4a.out.later HBp.out).later (by rw [← HW2.out]; exact (Below.refl _ _).alloc (Nat.le_refl _) _)).later HBq.out).later hbX)
  have HF5 := Lib.hid hf5; have HF7 := Lib.hid hf7; have HAM := Lib.hid ham; have HAN := Lib.hid han; have HBX := Lib.hid hbw
  have HT1 := Lib.hid (fun (W : World) (hb : Below X.heap.size X W) => told_any 26 (by decide) _ em ⟨pk, pop, pv, ptb, pnm, .slice pa em.l.length pc⟩ W HM.out.1 (ham.later hb))
  have HT2 := Lib.hid (fun (W : World) (hb : Below X.heap.size X W) => told_any 26 (by decide) _ en ⟨qk, qop, qv, qtb, qnm, .slice qa en.l.length qc⟩ W HN.out.1 (han.later hb))
  rw [hX]
  unfold Er.val at HT1 HT2
  dsimp only at HT1 HT2
  have HX := Lib.hid hX
  clear hX hbX hf5 hf7 ham han hbw
  refine region_two 36 37 38 39 9 10 X em en ⟨pk, pop, pv, ptb, pnm, .slice pa em.l.length pc⟩ ⟨qk, qop, qv, qtb, qnm, .slice qa en.l.length qc⟩ (by kernel_rfl) (by kernel_rfl) rfl ⟨undef, undef, undef, undef, undef, undef, rfl⟩ ?hI ?hend
  case hI =>
    rintro b i o u0 u1 u2 u3 u4 u5 w0 A1 A2 g9 g10 s1 s2 hi ho hoA hbi hc hw ht
    rcases (by omega : i = 0 ∨ i = 1 ∨ i = 2 ∨ i = 3 ∨ i = 4 ∨ i = 5 ∨ i = 6 ∨ i = 7) with rfl | rfl | rfl | rfl | rfl | rfl | rfl | rfl
    · simp only [List.getElem?_cons_zero, Option.some.injEq] at ho
      subst ho
      obtain ⟨y0, y1, y2, y3, y4, y5, y6, y7, l3⟩ := of_fe (HF5.out.later ht.bel)
      refine wpOp_does (K := fun v w' => v = (Er.val ⟨pk, pop, pv, ptb, pnm, .slice pa em.l.length pc⟩) ∧ w' = w0) rfl rfl ?_ (fun v w' h => ?_)
      · have HTI := Lib.hid ht
        clear hw hc ht hbi
        unfold put6; simp only [Act.put, List.setIfInBounds_toArray, List.set_cons_zero, List.set_cons_succ]
        unfold ag.does
        go_simp
        exact ⟨rfl, rfl⟩
      · obtain ⟨rfl, rfl⟩ := h
        exact ⟨(Er.val ⟨pk, pop, pv, ptb, pnm, .slice pa em.l.length pc⟩), u1, u2, u3, u4, u5, (by show Act.put _ (some 36) _ = _; unfold put6; simp only [Act.put, List.setIfInBounds_toArray, List.set_cons_zero, List.set_cons_succ]), A1, A2, g9, g10, s1, s2, ht.op0⟩
    · simp only [List.getElem?_cons_zero, List.getElem?_cons_succ, Option.some.injEq] at ho
      subst ho
      obtain rfl := ht.v0 (hw 0 (by kernel_rfl))
      have h6 : b 6 = false := by
        cases h : b 6 with
        | false => rfl
        | true => have := hc 6 _ rfl h 1 (by kernel_rfl); rw [hbi] at this; cases this
      have HC := Lib.hid (HT1.out w0 ht.bel)
      refine wpOp_does (K := fun v w' => ∃ s : Er, v = s.val ∧ ExAt TE (fun k => w0.heap.size ≤ k) 26 w' em s ∧ Below w0.heap.size w0 w') rfl rfl ?_ (fun v w' h => ?_)
      · have HTI := Lib.hid ht
        clear hw hc ht hbi
        unfold put6; simp only [Act.put, List.setIfInBounds_toArray, List.set_cons_zero, List.set_cons_succ]
        unfold Er.val
        dsimp only
        unfold ag.does
        go_simp
        exact HC.out.mono (fun e w' h => by obtain ⟨s, h1, h2, h3⟩ := h; exact ⟨s.val, h1, s, rfl, h2, h3⟩)
      · obtain ⟨s, rfl, h2, h3⟩ := h
        exact ⟨(Er.val ⟨pk, pop, pv, ptb, pnm, .slice pa em.l.length pc⟩), s.val, u2, u3, u4, u5, (by show Act.put _ (some 37) _ = _; unfold put6; simp only [Act.put, List.setIfInBounds_toArray, List.set_cons_zero, List.set_cons_succ]), _, A2, g9, g10, s, s2, ht.op1 h6 h3 h2⟩
    · simp only [List.getElem?_cons_zero, List.getElem?_cons_succ, Option.some.injEq] at ho
      subst ho
      obtain ⟨y0, y1, y2, y3, y4, y5, y6, y7, l3⟩ := of_fe (HF7.out.later ht.bel)
      refine wpOp_does (K := fun v w' => v = (Er.val ⟨qk, qop, qv, qtb, qnm, .slice qa en.l.length qc⟩) ∧ w' = w0) rfl rfl ?_ (fun v w' h => ?_)
      · have HTI := Lib.hid ht
        clear hw hc ht hbi
        unfold put6; simp only [Act.put, List.setIfInBounds_toArray, List.set_cons_zero, List.set_cons_succ]
        unfold ag.does
        go_simp
        exact ⟨rfl, rfl⟩
      · obtain ⟨rfl, rfl⟩ := h
        exact ⟨u0, u1, (Er.val ⟨qk, qop, qv, qtb, qnm, .slice qa en.l.length qc⟩), u3, u4, u5, (by show Act.put _ (some 38) _ = _; unfold put6; simp only [Act.put, List.setIfInBounds_toArray, List.set_cons_zero, List.set_cons_succ]), A1, A2, g9, g10, s1, s2, ht.op2⟩
    · simp only [List.getElem?_cons_zero, List.getElem?_cons_succ, Option.some.injEq] at ho
      subst ho
      obtain rfl := ht.v2 (hw 2 (by kernel_rfl))
      have h7 : b 7 = false := by
        cases h : b 7 with
        | false => rfl
        | true => have := hc 7 _ rfl h 3 (by kernel_rfl); rw [hbi] at this; cases this
      have HC := Lib.hid (HT2.out w0 ht.bel)
      refine wpOp_does (K := fun v w' => ∃ s : Er, v = s.val ∧ ExAt TE (fun k => w0.heap.size ≤ k) 26 w' en s ∧ Below w0.heap.size w0 w') rfl rfl ?_ (fun v w' h => ?_)
      · have HTI := Lib.hid ht
        clear hw hc ht hbi
        unfold put6; simp only [Act.put, List.setIfInBounds_toArray, List.set_cons_zero, List.set_cons_succ]
        unfold Er.val
        dsimp only
        unfold ag.does
        go_simp
        exact HC.out.mono (fun e w' h => by obtain ⟨s, h1, h2, h3⟩ := h; exact ⟨s.val, h1, s, rfl, h2, h3⟩)
      · obtain ⟨s, rfl, h2, h3⟩ := h
        exact ⟨u0, u1, (Er.val ⟨qk, qop, qv, qtb, qnm, .slice qa en.l.length qc⟩), s.val, u4, u5, (by show Act.put _ (some 39) _ = _; unfold put6; simp only [Act.put, List.setIfInBounds_toArray, List.set_cons_zero, List.set_cons_succ]), A1, _, g9, g10, s1, s, ht.op3 h7 h3 h2⟩
    · simp only [List.getElem?_cons_zero, List.getElem?_cons_succ, Option.some.injEq] at ho
      subst ho
      have h6 : b 6 = false := by
        cases h : b 6 with
        | false => rfl
        | true => have := hc 6 _ rfl h 4 (by kernel_rfl); rw [hbi] at this; cases this
      refine wpOp_does (K := fun v w' => v = .pointer (some ⟨w0.heap.size, 0, none⟩) ∧ w' = w0.alloc (.cells #[.int .i64 0, .int .i64 0, .int .i64 0, .int .i64 0, .string (ByteArray.mk #[]), .string (ByteArray.mk #[]), .string (ByteArray.mk #[]), .slice none 0 0] TE)) rfl rfl ?_ (fun v w' h => ?_)
      · have HTI := Lib.hid ht
        clear hw hc ht hbi
        unfold put6; simp only [Act.put, List.setIfInBounds_toArray, List.set_cons_zero, List.set_cons_succ]
        unfold ag.does
        go_simp
        exact ⟨rfl, rfl⟩
      · obtain ⟨rfl, rfl⟩ := h
        exact ⟨u0, u1, u2, u3, .pointer (some ⟨w0.heap.size, 0, none⟩), u5, (by show Act.put _ (some 9) _ = _; unfold put6; simp only [Act.put, List.setIfInBounds_toArray, List.set_cons_zero, List.set_cons_succ]), A1, A2, _, g10, s1, s2, ht.op4 h6 _ _ _ _ _ _ _ _⟩
    · simp only [List.getElem?_cons_zero, List.getElem?_cons_succ, Option.some.injEq] at ho
      subst ho
      have h7 : b 7 = false := by
        cases h : b 7 with
        | false => rfl
        | true => have := hc 7 _ rfl h 5 (by kernel_rfl); rw [hbi] at this; cases this
      refine wpOp_does (K := fun v w' => v = .pointer (some ⟨w0.heap.size, 0, none⟩) ∧ w' = w0.alloc (.cells #[.int .i64 0, .int .i64 0, .int .i64 0, .int .i64 0, .string (ByteArray.mk #[]), .string (ByteArray.mk #[]), .string (ByteArray.mk #[]), .slice none 0 0] TE)) rfl rfl ?_ (fun v w' h => ?_)
      · have HTI := Lib.hid ht
        clear hw hc ht hbi
        unfold put6; simp only [Act.put, List.setIfInBounds_toArray, List.set_cons_zero, List.set_cons_succ]
        unfold ag.does
        go_simp
        exact ⟨rfl, rfl⟩
      · obtain ⟨rfl, rfl⟩ := h
        exact ⟨u0, u1, u2, u3, u4, .pointer (some ⟨w0.heap.size, 0, none⟩), (by show Act.put _ (some 10) _ = _; unfold put6; simp only [Act.put, List.setIfInBounds_toArray, List.set_cons_zero, List.set_cons_succ]), A1, A2, g9, _, s1, s2, ht.op5 h7 _ _ _ _ _ _ _ _⟩
    · simp only [List.getElem?_cons_zero, List.getElem?_cons_succ, Option.some.injEq] at ho
      have h1w : ag.waits o 1 = true := by rw [← ho]; kernel_rfl
      have h4w : ag.waits o 4 = true := by rw [← ho]; kernel_rfl
      have h5w : ag.waits o 5 = true := by rw [← ho]; kernel_rfl
      have hop : o.op = .store TE (.tmp 9) (.tmp 37) := by rw [← ho]
      have hdst : o.dst = none := by rw [← ho]
      have hgd : ∀ ys, Region.wanted o ys = true := fun ys => by rw [← ho]; rfl
      obtain ⟨rfl, hex⟩ := ht.v1 (hw _ h1w)
      have h4 := hw 4 h4w
      have h5 := hw 5 h5w
      obtain ⟨rfl, -, ⟨x0, x1, x2, x3, x4, x5, x6, x7, hf, -⟩, -, -⟩ := ht.p4 h4
      obtain ⟨sa, sc, us', hul', -⟩ := hex.parts
      clear ho hw hc hbi
      refine wpOp_does hoA (hgd _) (does_store hf s1 sa _ sc hul' hop ?_ ?_) (fun v w' h => ?_)
      · unfold put6; simp only [Act.put, List.setIfInBounds_toArray, List.set_cons_zero, List.set_cons_succ]; rfl
      · unfold put6; simp only [Act.put, List.setIfInBounds_toArray, List.set_cons_zero, List.set_cons_succ]; rfl
      · exact ⟨u0, s1.val, u2, u3, .pointer (some ⟨g9, 0, none⟩), u5, (by rw [hdst]; rfl), A1, A2, g9, g10, _, _, ht.op6 h4 h5 h.1 h.2⟩
    · simp only [List.getElem?_cons_zero, List.getElem?_cons_succ, Option.some.injEq] at ho
      have h1w : ag.waits o 3 = true := by rw [← ho]; kernel_rfl
      have h4w : ag.waits o 4 = true := by rw [← ho]; kernel_rfl
      have h5w : ag.waits o 5 = true := by rw [← ho]; kernel_rfl
      have hop : o.op = .store TE (.tmp 10) (.tmp 39) := by rw [← ho]
      have hdst : o.dst = none := by rw [← ho]
      have hgd : ∀ ys, Region.wanted o ys = true := fun ys => by rw [← ho]; rfl
      obtain ⟨rfl, hex⟩ := ht.v3 (hw _ h1w)
      have h4 := hw 4 h4w
      have h5 := hw 5 h5w
      obtain ⟨rfl, -, ⟨x0, x1, x2, x3, x4, x5, x6, x7, hf, -⟩, -, -⟩ := ht.p5 h5
      obtain ⟨sa, sc, us', hul', -⟩ := hex.parts
      clear ho hw hc hbi
      refine wpOp_does hoA (hgd _) (does_store hf s2 sa _ sc hul' hop ?_ ?_) (fun v w' h => ?_)
      · unfold put6; simp only [Act.put, List.setIfInBounds_toArray, List.set_cons_zero, List.set_cons_succ]; rfl
      · unfold put6; simp only [Act.put, List.setIfInBounds_toArray, List.set_cons_zero, List.set_cons_succ]; rfl
      · exact ⟨u0, u1, u2, s2.val, u4, .pointer (some ⟨g10, 0, none⟩), (by rw [hdst]; rfl), A1, A2, g9, g10, _, _, ht.op7 h4 h5 h.1 h.2⟩
  case hend =>
    rintro v0 v2 w5 g9 g10 s1 s2 hne h9 h10 hf9 hf10 hx1 hx2 hb5
    obtain ⟨sa, sc, us1, hul1, -⟩ := hx1.parts
    obtain ⟨ta, tc, us2, hul2, -⟩ := hx2.parts
    obtain ⟨sk, sop, sv, stb, snm, slv⟩ := s1
    obtain ⟨tk, top, tv, ttb, tnm, tlv⟩ := s2
    dsimp only at hul1 hul2
    subst hul1
    subst hul2
    have HB5 := Lib.hid hb5
    have HX1 := Lib.hid hx1
    have HX2 := Lib.hid hx2
    have HF9 : Hid (Flds w5 g9 TE [.int .i64 sk, .int .i64 sop, .int .i64 sv.k, .int .i64 sv.n, .string sv.s, .string stb, .string snm, .slice sa em.l.length sc]) := Lib.hid hf9
    have HF10 : Hid (Flds w5 g10 TE [.int .i64 tk, .int .i64 top, .int .i64 tv.k, .int .i64 tv.n, .string tv.s, .string ttb, .string tnm, .slice ta en.l.length tc]) := Lib.hid hf10
    have HGS := Lib.hid (And.intro hne (And.intro h9 h10))
    obtain ⟨G, hG⟩ : ∃ G, goodB 20 em true = G := ⟨_, rfl⟩
    have HGD := Lib.hid (fun (W : World) (hb : Below w5.heap.size w5 W) => rgood_any (by decide) HM.out.1 HM.out.2.1 (HAM.out.later (hb5.trans (hb.mono hb5.size))))
    rw [hG] at HGD
    have HG := Lib.hid hG
    clear hx1 hx2 hf9 hf10 hb5 hne h9 h10 hG
    unfold put6
    unfold Er.val at HGD ⊢
    dsimp only at HGD ⊢
    simp only [Act.put, List.setIfInBounds_toArray, List.set_cons_zero, List.set_cons_succ]
    obtain ⟨e0, e1, e2, e3, e4, e5, e6, e7, l5⟩ := of_fe (HF5.out.later HB5.out)
    obtain ⟨SH, hSH⟩ : ∃ SH, (if G = true then showE em else ByteArray.empty) = SH := ⟨_, rfl⟩
    have HSH := Lib.hid hSH
    clear hSH
    go_upto_if 41 with (go_at_call 8; refine (HGD.out _ (Below.refl _ _)).mono ?_; rintro ee w6 ⟨rfl, hb6⟩; have HB6 := Lib.hid hb6; clear hb6)
    clear e0 e1 e2 e3 e4 e5 e6 e7 l5
    go_cut [11] from 42 to 43 (fun v wx => v = .string SH ∧ Hid (Below w5.heap.size w5 wx))
    case first =>
      cases G with
      | false =>
        have hs : SH = ByteArray.empty := by rw [← HSH.out]; rfl
        have HS := Lib.hid hs
        clear hs
        go_wp2_with fail
        go_meet
        exact ⟨by rw [HS.out]; rfl, HB6⟩
      | true =>
        have hs : SH = showE em := by rw [← HSH.out]; rfl
        have hmay := ((goodE_iff em 20 true).1 (pB_iff.1 HG.out)).2
        have hcl := rshow_deep 26 (by decide) _ em _ w6 false HM.out.2.1 hmay (by have := HM.out.2.2; omega) (HAM.out.later (HB5.out.trans (HB6.out.mono HB5.out.size)))
        rw [← hs] at hcl
        unfold Er.val at hcl
        dsimp only at hcl
        have HCL := Lib.hid hcl
        obtain ⟨e0, e1, e2, e3, e4, e5, e6, e7, l5⟩ := of_fe (HF5.out.later (HB5.out.trans (HB6.out.mono HB5.out.size)))
        clear hs hmay hcl
        go_wp2_with (go_at_call 9; refine HCL.out.mono ?_; rintro ee w7 ⟨rfl, hb7⟩; have HB7 := Lib.hid (HB6.out.trans (hb7.mono HB6.out.size)); clear hb7)
        go_meet
        exact ⟨rfl, HB7⟩
    case rest =>
      obtain ⟨rfl, hcut⟩ := hcut
      generalize wc = w7 at *
      have HB7 := Lib.hid hcut.out
      clear hcut HB6 HGD
      have hb57 := HB5.out
      have hbx := HB7.out
      have HW9 := Lib.hid (fun (W : World) (hb : Below w7.heap.size w7 W) => of_fe (HF9.out.later (hbx.trans (hb.mono hbx.size))))
      have HW10 := Lib.hid (fun (W : World) (hb : Below w7.heap.size w7 W) => of_fe (HF10.out.later (hbx.trans (hb.mono hbx.size))))
      have HXW := Lib.hid (fun (W : World) (hb : Below w7.heap.size w7 W) => show Below X.heap.size X W from hb57.trans ((hbx.trans (hb.mono hbx.size)).mono hb57.size))
      have HW5 := Lib.hid (fun (W : World) (hb : Below w7.heap.size w7 W) => of_fe (HF5.out.later (HXW.out W hb)))
      have HW7 := Lib.hid (fun (W : World) (hb : Below w7.heap.size w7 W) => of_fe (HF7.out.later (HXW.out W hb)))
      have HE1 := Lib.hid (fun (W : World) (hb : Below w7.heap.size w7 W) => HX1.out.later (hbx.trans (hb.mono hbx.size)))
      have HE2 := Lib.hid (fun (W : World) (hb : Below w7.heap.size w7 W) => HX2.out.later (hbx.trans (hb.mono hbx.size)))
      have HC1 := Lib.hid (fun (W : World) (hb : Below w7.heap.size w7 W) => egood_any HM.out.1 HM.out.2.1 (HE1.out W hb))
      have HC2 := Lib.hid (fun (W : World) (hb : Below w7.heap.size w7 W) => rgood_any (by decide) HM.out.1 HM.out.2.1 (HAM.out.later (HXW.out W hb)))
      have HC3 := Lib.hid (fun (W : World) (hb : Below w7.heap.size w7 W) => depth_any 26 (by decide) _ em _ W (HE1.out W hb))
      have HC4 := Lib.hid (fun (W : World) (hb : Below w7.heap.size w7 W) => rdepth_any 26 (by decide) _ em _ W (HAM.out.later (HXW.out W hb)))
      have HC5 := Lib.hid (fun (W : World) (hb : Below w7.heap.size w7 W) => eshow_any m (by decide) HM.out.1 HM.out.2.1 (by have := HM.out.2.2; omega) (HTB.out.later (HBX.out.trans ((HXW.out W hb).mono HBX.out.size))) (HE1.out W hb))
      have HC6 := Lib.hid (fun (W : World) (hb : Below w7.heap.size w7 W) => same_any 26 _ _ em en _ _ W (HE1.out W hb) (HE2.out W hb))
      have HC7 := Lib.hid (fun (W : World) (hb : Below w7.heap.size w7 W) => rsame_any 26 (by decide) _ _ em en _ _ W (HAM.out.later (HXW.out W hb)) (HAN.out.later (HXW.out W hb)))
      have HC8 := Lib.hid (fun (W : World) (hb : Below w7.heap.size w7 W) => told_any 26 (by decide) _ em _ W HM.out.1 (HAM.out.later (HXW.out W hb)))
      have HC9 := Lib.hid (fun (W : World) (hb : Below w7.heap.size w7 W) (s : Er) (hs : ExAt TE (fun _ => True) 26 W em s) => same_any 26 _ _ em em _ _ W (HE1.out W hb) hs)
      rw [HG.out] at HC1 HC2 HC5
      rw [HSH.out] at HC5
      obtain ⟨D, hD⟩ : ∃ D : Int, ((em.depth : Nat) : Int) = D := ⟨_, rfl⟩
      obtain ⟨B, hB⟩ : ∃ B, eqE em en = B := ⟨_, rfl⟩
      rw [hD] at HC3 HC4
      rw [hB] at HC6 HC7
      rw [eqE_self] at HC9
      unfold Er.val at HC1 HC2 HC3 HC4 HC5 HC6 HC7 HC8
      dsimp only at HC1 HC2 HC3 HC4 HC5 HC6 HC7 HC8
      clear hb57 hbx hD hB
      go_upto_region 9 with fail
      apply ag.region_calm (ag.Spec.val _ :: ag.Spec.sat (fun v _ => v = .bool G) ag.grew :: ag.Spec.val _ :: ag.Spec.sat (fun v _ => v = .bool G) ag.grew :: ag.Spec.val (.bool false) :: ag.Spec.val _ :: ag.Spec.val _ :: ag.Spec.sat (fun v _ => v = .int .i64 D) ag.grew :: ag.Spec.val _ :: ag.Spec.sat (fun v _ => v = .int .i64 D) ag.grew :: ag.Spec.val (.bool false) :: ag.Spec.val _ :: ag.Spec.val _ :: ag.Spec.val _ :: ag.Spec.sat (fun v _ => v = .string SH) ag.grew :: ag.Spec.val _ :: ag.Spec.val (.bool false) :: ag.Spec.val _ :: ag.Spec.val _ :: ag.Spec.val _ :: ag.Spec.val _ :: ag.Spec.sat (fun v _ => v = .bool B) ag.grew :: ag.Spec.val _ :: ag.Spec.val _ :: ag.Spec.sat (fun v _ => v = .bool B) ag.grew :: ag.Spec.val (.bool false) :: ag.Spec.val _ :: ag.Spec.val _ :: ag.Spec.val _ :: ag.Spec.val _ :: ag.Spec.sat (fun v W => ∃ s : Er, v = s.val ∧ ExAt TE (fun _ => True) 26 W em s) ag.grew :: ag.Spec.sat (fun v _ => v = .bool true) ag.grew :: ag.Spec.val (.bool false) :: ag.Spec.val _ :: [])
      case hm => kernel_rfl
      case hB => kernel_rfl
      case hlen => rfl
      case hc => exact ⟨⟨ag.lasts_eq _, rfl⟩, ⟨ag.lasts_eq _, rfl⟩, ⟨ag.lasts_eq _, rfl⟩, ⟨ag.lasts_eq _, rfl⟩, ⟨ag.lasts_eq _, rfl⟩, ⟨ag.lasts_eq _, rfl⟩, ⟨ag.lasts_eq _, rfl⟩, ⟨(fun v W W' h hb => by obtain ⟨s, h1, h2⟩ := h; exact ⟨s, h1, h2.later hb⟩), rfl⟩, ⟨ag.lasts_eq _, rfl⟩, trivial⟩
      apply ag.walk_val
      · rfl
      · intro W1 hS hE
        obtain ⟨y0, y1, y2, y3, y4, y5, y6, y7, l3⟩ := HW9.out W1 hS
        clear hS hE
        unfold ag.does
        go_simp
        first | done | exact ⟨rfl, rfl⟩ | rfl | (exact ⟨by go_num, rfl⟩) | (simp; done) | trace_state
      simp only [Act.put, List.setIfInBounds_toArray, List.set_cons_zero, List.set_cons_succ]
      refine ag.walk_such (by rfl) (fun W1 hS hE => ?_) (fun y1 => ?_)
      · have hc := HC1.out W1 hS
        clear hE
        unfold ag.does
        go_simp
        first | done | (exact hc.mono (fun e w' h => ⟨_, h.1, rfl, h.2⟩))
      simp only [Act.put, List.setIfInBounds_toArray, List.set_cons_zero, List.set_cons_succ]
      apply ag.walk_val
      · rfl
      · intro W1 hS hE
        obtain ⟨y0, y1, y2, y3, y4, y5, y6, y7, l3⟩ := HW5.out W1 hS
        clear hS hE
        unfold ag.does
        go_simp
        first | done | exact ⟨rfl, rfl⟩ | rfl | (exact ⟨by go_num, rfl⟩) | (simp; done) | trace_state
      simp only [Act.put, List.setIfInBounds_toArray, List.set_cons_zero, List.set_cons_succ]
      refine ag.walk_such (by rfl) (fun W1 hS hE => ?_) (fun y3 => ?_)
      · have hc := HC2.out W1 hS
        clear hE
        unfold ag.does
        go_simp
        first | done | (exact hc.mono (fun e w' h => ⟨_, h.1, rfl, h.2⟩))
      simp only [Act.put, List.setIfInBounds_toArray, List.set_cons_zero, List.set_cons_succ]
      apply ag.walk_val
      · rfl
      · intro W1 hS hE
        have f1 : y1 = .bool G := hE.of 1 (by kernel_rfl)
        subst f1
        have f3 : y3 = .bool G := hE.of 3 (by kernel_rfl)
        subst f3
        have hgg : (G != G) = false := by simp
        clear hS hE
        unfold ag.does
        go_simp
        first | done | exact ⟨rfl, rfl⟩ | rfl | (exact ⟨by go_num, rfl⟩) | (simp; done) | trace_state
      simp only [Act.put, List.setIfInBounds_toArray, List.set_cons_zero, List.set_cons_succ]
      apply ag.walk_val
      · rfl
      · intro W1 hS hE
        clear hS hE
        unfold ag.does
        go_simp
        first | done | exact ⟨rfl, rfl⟩ | rfl | (exact ⟨by go_num, rfl⟩) | (simp; done) | trace_state
      simp only [Act.put, List.setIfInBounds_toArray, List.set_cons_zero, List.set_cons_succ]
      apply ag.walk_val
      · rfl
      · intro W1 hS hE
        obtain ⟨y0, y1, y2, y3, y4, y5, y6, y7, l3⟩ := HW9.out W1 hS
        clear hS hE
        unfold ag.does
        go_simp
        first | done | exact ⟨rfl, rfl⟩ | rfl | (exact ⟨by go_num, rfl⟩) | (simp; done) | trace_state
      simp only [Act.put, List.setIfInBounds_toArray, List.set_cons_zero, List.set_cons_succ]
      refine ag.walk_such (by rfl) (fun W1 hS hE => ?_) (fun y7 => ?_)
      · have hc := HC3.out W1 hS
        clear hE
        unfold ag.does
        go_simp
        first | done | (exact hc.mono (fun e w' h => ⟨_, h.1, rfl, h.2⟩))
      simp only [Act.put, List.setIfInBounds_toArray, List.set_cons_zero, List.set_cons_succ]
      apply ag.walk_val
      · rfl
      · intro W1 hS hE
        obtain ⟨y0, y1, y2, y3, y4, y5, y6, y7, l3⟩ := HW5.out W1 hS
        clear hS hE
        unfold ag.does
        go_simp
        first | done | exact ⟨rfl, rfl⟩ | rfl | (exact ⟨by go_num, rfl⟩) | (simp; done) | trace_state
      simp only [Act.put, List.setIfInBounds_toArray, List.set_cons_zero, List.set_cons_succ]
      refine ag.walk_such (by rfl) (fun W1 hS hE => ?_) (fun y9 => ?_)
      · have hc := HC4.out W1 hS
        clear hE
        unfold ag.does
        go_simp
        first | done | (exact hc.mono (fun e w' h => ⟨_, h.1, rfl, h.2⟩))
      simp only [Act.put, List.setIfInBounds_toArray, List.set_cons_zero, List.set_cons_succ]
      apply ag.walk_val
      · rfl
      · intro W1 hS hE
        have f7 : y7 = .int .i64 D := hE.of 7 (by kernel_rfl)
        subst f7
        have f9 : y9 = .int .i64 D := hE.of 9 (by kernel_rfl)
        subst f9
        clear hS hE
        unfold ag.does
        go_simp
        first | done | exact ⟨rfl, rfl⟩ | rfl | (exact ⟨by go_num, rfl⟩) | (simp; done) | trace_state
      simp only [Act.put, List.setIfInBounds_toArray, List.set_cons_zero, List.set_cons_succ]
      apply ag.walk_val
      · rfl
      · intro W1 hS hE
        clear hS hE
        unfold ag.does
        go_simp
        first | done | exact ⟨rfl, rfl⟩ | rfl | (exact ⟨by go_num, rfl⟩) | (simp; done) | trace_state
      simp only [Act.put, List.setIfInBounds_toArray, List.set_cons_zero, List.set_cons_succ]
      apply ag.walk_val
      · rfl
      · intro W1 hS hE
        clear hS hE
        unfold ag.does
        go_simp
        first | done | exact ⟨rfl, rfl⟩ | rfl | (exact ⟨by go_num, rfl⟩) | (simp; done) | trace_state
      simp only [Act.put, List.setIfInBounds_toArray, List.set_cons_zero, List.set_cons_succ]
      apply ag.walk_val
      · rfl
      · intro W1 hS hE
        obtain ⟨y0, y1, y2, y3, y4, y5, y6, y7, l3⟩ := HW9.out W1 hS
        clear hS hE
        unfold ag.does
        go_simp
        first | done | exact ⟨rfl, rfl⟩ | rfl | (exact ⟨by go_num, rfl⟩) | (simp; done) | trace_state
      simp only [Act.put, List.setIfInBounds_toArray, List.set_cons_zero, List.set_cons_succ]
      refine ag.walk_such (by rfl) (fun W1 hS hE => ?_) (fun y14 => ?_)
      · have hc := HC5.out W1 hS
        clear hE
        unfold ag.does
        go_simp
        first | done | (exact hc.mono (fun e w' h => ⟨_, h.1, rfl, h.2⟩))
      simp only [Act.put, List.setIfInBounds_toArray, List.set_cons_zero, List.set_cons_succ]
      apply ag.walk_val
      · rfl
      · intro W1 hS hE
        clear hS hE
        unfold ag.does
        go_simp
        first | done | exact ⟨rfl, rfl⟩ | rfl | (exact ⟨by go_num, rfl⟩) | (simp; done) | trace_state
      simp only [Act.put, List.setIfInBounds_toArray, List.set_cons_zero, List.set_cons_succ]
      apply ag.walk_val
      · rfl
      · intro W1 hS hE
        have f14 : y14 = .string SH := hE.of 14 (by kernel_rfl)
        subst f14
        have hsb : (SH.toList == SH.toList) = true := by simp
        clear hS hE
        unfold ag.does
        go_simp
        first | done | exact ⟨rfl, rfl⟩ | rfl | (exact ⟨by go_num, rfl⟩) | (simp; done) | trace_state
      simp only [Act.put, List.setIfInBounds_toArray, List.set_cons_zero, List.set_cons_succ]
      apply ag.walk_val
      · rfl
      · intro W1 hS hE
        clear hS hE
        unfold ag.does
        go_simp
        first | done | exact ⟨rfl, rfl⟩ | rfl | (exact ⟨by go_num, rfl⟩) | (simp; done) | trace_state
      simp only [Act.put, List.setIfInBounds_toArray, List.set_cons_zero, List.set_cons_succ]
      apply ag.walk_val
      · rfl
      · intro W1 hS hE
        clear hS hE
        unfold ag.does
        go_simp
        first | done | exact ⟨rfl, rfl⟩ | rfl | (exact ⟨by go_num, rfl⟩) | (simp; done) | trace_state
      simp only [Act.put, List.setIfInBounds_toArray, List.set_cons_zero, List.set_cons_succ]
      apply ag.walk_val
      · rfl
      · intro W1 hS hE
        obtain ⟨y0, y1, y2, y3, y4, y5, y6, y7, l3⟩ := HW9.out W1 hS
        clear hS hE
        unfold ag.does
        go_simp
        first | done | exact ⟨rfl, rfl⟩ | rfl | (exact ⟨by go_num, rfl⟩) | (simp; done) | trace_state
      simp only [Act.put, List.setIfInBounds_toArray, List.set_cons_zero, List.set_cons_succ]
      apply ag.walk_val
      · rfl
      · intro W1 hS hE
        obtain ⟨y0, y1, y2, y3, y4, y5, y6, y7, l3⟩ := HW10.out W1 hS
        clear hS hE
        unfold ag.does
        go_simp
        first | done | exact ⟨rfl, rfl⟩ | rfl | (exact ⟨by go_num, rfl⟩) | (simp; done) | trace_state
      simp only [Act.put, List.setIfInBounds_toArray, List.set_cons_zero, List.set_cons_succ]
      refine ag.walk_such (by rfl) (fun W1 hS hE => ?_) (fun y21 => ?_)
      · have hc := HC6.out W1 hS
        clear hE
        unfold ag.does
        go_simp
        first | done | (exact hc.mono (fun e w' h => ⟨_, h.1, rfl, h.2⟩))
      simp only [Act.put, List.setIfInBounds_toArray, List.set_cons_zero, List.set_cons_succ]
      apply ag.walk_val
      · rfl
      · intro W1 hS hE
        obtain ⟨y0, y1, y2, y3, y4, y5, y6, y7, l3⟩ := HW5.out W1 hS
        clear hS hE
        unfold ag.does
        go_simp
        first | done | exact ⟨rfl, rfl⟩ | rfl | (exact ⟨by go_num, rfl⟩) | (simp; done) | trace_state
      simp only [Act.put, List.setIfInBounds_toArray, List.set_cons_zero, List.set_cons_succ]
      apply ag.walk_val
      · rfl
      · intro W1 hS hE
        obtain ⟨y0, y1, y2, y3, y4, y5, y6, y7, l3⟩ := HW7.out W1 hS
        clear hS hE
        unfold ag.does
        go_simp
        first | done | exact ⟨rfl, rfl⟩ | rfl | (exact ⟨by go_num, rfl⟩) | (simp; done) | trace_state
      simp only [Act.put, List.setIfInBounds_toArray, List.set_cons_zero, List.set_cons_succ]
      refine ag.walk_such (by rfl) (fun W1 hS hE => ?_) (fun y24 => ?_)
      · have hc := HC7.out W1 hS
        clear hE
        unfold ag.does
        go_simp
        first | done | (exact hc.mono (fun e w' h => ⟨_, h.1, rfl, h.2⟩))
      simp only [Act.put, List.setIfInBounds_toArray, List.set_cons_zero, List.set_cons_succ]
      apply ag.walk_val
      · rfl
      · intro W1 hS hE
        have f21 : y21 = .bool B := hE.of 21 (by kernel_rfl)
        subst f21
        have f24 : y24 = .bool B := hE.of 24 (by kernel_rfl)
        subst f24
        have hbb : (B != B) = false := by simp
        clear hS hE
        unfold ag.does
        go_simp
        first | done | exact ⟨rfl, rfl⟩ | rfl | (exact ⟨by go_num, rfl⟩) | (simp; done) | trace_state
      simp only [Act.put, List.setIfInBounds_toArray, List.set_cons_zero, List.set_cons_succ]
      apply ag.walk_val
      · rfl
      · intro W1 hS hE
        clear hS hE
        unfold ag.does
        go_simp
        first | done | exact ⟨rfl, rfl⟩ | rfl | (exact ⟨by go_num, rfl⟩) | (simp; done) | trace_state
      simp only [Act.put, List.setIfInBounds_toArray, List.set_cons_zero, List.set_cons_succ]
      apply ag.walk_val
      · rfl
      · intro W1 hS hE
        clear hS hE
        unfold ag.does
        go_simp
        first | done | exact ⟨rfl, rfl⟩ | rfl | (exact ⟨by go_num, rfl⟩) | (simp; done) | trace_state
      simp only [Act.put, List.setIfInBounds_toArray, List.set_cons_zero, List.set_cons_succ]
      apply ag.walk_val
      · rfl
      · intro W1 hS hE
        obtain ⟨y0, y1, y2, y3, y4, y5, y6, y7, l3⟩ := HW9.out W1 hS
        clear hS hE
        unfold ag.does
        go_simp
        first | done | exact ⟨rfl, rfl⟩ | rfl | (exact ⟨by go_num, rfl⟩) | (simp; done) | trace_state
      simp only [Act.put, List.setIfInBounds_toArray, List.set_cons_zero, List.set_cons_succ]
      apply ag.walk_val
      · rfl
      · intro W1 hS hE
        obtain ⟨y0, y1, y2, y3, y4, y5, y6, y7, l3⟩ := HW5.out W1 hS
        clear hS hE
        unfold ag.does
        go_simp
        first | done | exact ⟨rfl, rfl⟩ | rfl | (exact ⟨by go_num, rfl⟩) | (simp; done) | trace_state
      simp only [Act.put, List.setIfInBounds_toArray, List.set_cons_zero, List.set_cons_succ]
      refine ag.walk_such (by rfl) (fun W1 hS hE => ?_) (fun y30 => ?_)
      · have hc := HC8.out W1 hS
        clear hE
        unfold ag.does
        go_simp
        first | done | (exact hc.mono (fun e w' h => by obtain ⟨s, h1, h2, h3⟩ := h; exact ⟨s.val, h1, ⟨s, rfl, h2.mono (Nat.le_refl _) (fun _ _ _ => trivial)⟩, h3⟩))
      simp only [Act.put, List.setIfInBounds_toArray, List.set_cons_zero, List.set_cons_succ]
      refine ag.walk_such (by rfl) (fun W1 hS hE => ?_) (fun y31 => ?_)
      · have f30 : ∃ s : Er, y30 = s.val ∧ ExAt TE (fun _ => True) 26 W1 em s := hE.of 30 (by kernel_rfl)
        obtain ⟨s, rfl, hs⟩ := f30
        have hc := HC9.out W1 hS s hs
        clear hE
        unfold ag.does
        go_simp
        first | done | (exact hc.mono (fun e w' h => ⟨_, h.1, rfl, h.2⟩))
      simp only [Act.put, List.setIfInBounds_toArray, List.set_cons_zero, List.set_cons_succ]
      apply ag.walk_val
      · rfl
      · intro W1 hS hE
        have f31 : y31 = .bool true := hE.of 31 (by kernel_rfl)
        subst f31
        clear hS hE
        unfold ag.does
        go_simp
        first | done | exact ⟨rfl, rfl⟩ | rfl | (exact ⟨by go_num, rfl⟩) | (simp; done) | trace_state
      simp only [Act.put, List.setIfInBounds_toArray, List.set_cons_zero, List.set_cons_succ]
      apply ag.walk_val
      · rfl
      · intro W1 hS hE
        clear hS hE
        unfold ag.does
        go_simp
        first | done | exact ⟨rfl, rfl⟩ | rfl | (exact ⟨by go_num, rfl⟩) | (simp; done) | trace_state
      simp only [Act.put, List.setIfInBounds_toArray, List.set_cons_zero, List.set_cons_succ]
      refine ag.walk_nil (fun w9 hS hF hP => ?_)
      clear hP
      clear hF
      have HS9 := Lib.hid hS
      have hpc := parts_any 26 (by decide) (fun b => w1.heap.size ≤ b ∧ b < w9.heap.size) em _ w9 (fun b hb => hb.2) (by have := HM.out.2.2; omega) HM.out.1 ((HAM.out.later (HXW.out w9 hS)).mono (Nat.le_refl _) (fun b hb hx => ⟨hx, hb⟩))
      obtain ⟨L, hL⟩ : ∃ L, em.parts.length = L := ⟨_, rfl⟩
      rw [hL] at hpc
      unfold Er.val at hpc
      dsimp only at hpc
      have HPC := Lib.hid hpc
      have HL := Lib.hid hL
      have l0 : (0 : Int) ≤ (L : Int) := by omega
      have l1 : (L : Int) ≤ 121 := by have := HM.out.2.2; omega
      obtain ⟨y0, y1, y2, y3, y4, y5, y6, y7, l3⟩ := HW5.out w9 hS
      clear hS hpc hL HC1 HC2 HC3 HC4 HC5 HC6 HC7 HC8 HC9
      go_upto_region 12 with (go_at_call 16; refine HPC.out.mono ?_; rintro ee wp ⟨pta, ptc, rfl, hrow, hbp⟩; have HRW := Lib.hid hrow; have HBP := Lib.hid hbp; clear hrow hbp)
      clear y0 y1 y2 y3 y4 y5 y6 y7 l3
      obtain ⟨WB, hWB⟩ : ∃ WB, wp.alloc (.cells #[.slice pta L ptc] 26) = WB := ⟨_, rfl⟩
      rw [hWB]
      have hbB : Below wp.heap.size wp WB := by rw [← hWB]; exact (Below.refl _ _).alloc (Nat.le_refl _) _
      have hf12 : Flds WB wp.heap.size 26 [.slice pta L ptc] := by rw [← hWB]; exact Flds.new wp _ _
      obtain ⟨g12, hg12⟩ : ∃ g12, wp.heap.size = g12 := ⟨_, rfl⟩
      rw [hg12] at hf12
      have H12 := Lib.hid hf12
      have HRB := Lib.hid (HRW.out.later hbB)
      have HBB : Hid (Below w7.heap.size w7 WB) := Lib.hid (HS9.out.trans ((HBP.out.trans (hbB.mono HBP.out.size)).mono HS9.out.size))
      have HB9 : Hid (w9.heap.size ≤ WB.heap.size) := Lib.hid (Nat.le_trans HBP.out.size hbB.size)
      clear hf12 hbB hWB
      try rw [hg12]
      have HG12 := Lib.hid hg12
      clear hg12
      go_upto_region 13 with fail
      obtain ⟨WC, hWC⟩ : ∃ WC, WB.alloc (.cells #[.int .i64 0] 3) = WC := ⟨_, rfl⟩
      rw [hWC]
      have hbC : Below WB.heap.size WB WC := by rw [← hWC]; exact (Below.refl _ _).alloc (Nat.le_refl _) _
      have hf13 : Flds WC WB.heap.size 3 [.int .i64 0] := by rw [← hWC]; exact Flds.new WB _ _
      obtain ⟨g13, hg13⟩ : ∃ g13, WB.heap.size = g13 := ⟨_, rfl⟩
      rw [hg13] at hf13
      obtain ⟨gA, hgA⟩ : ∃ gA, WC.heap.size = gA := ⟨_, rfl⟩
      have hgA1 : gA = g13 + 1 := by rw [← hgA, ← hWC, World.size_alloc, hg13]
      have hbWC : Below w7.heap.size w7 WC := HBB.out.trans (hbC.mono HBB.out.size)
      obtain ⟨y0, y1, y2, y3, y4, y5, y6, y7, l3⟩ := HW9.out WC hbWC
      have haa := all_any ⟨sk, sop, sv, stb, snm, .slice sa em.l.length sc⟩ sa em.l.length sc rfl WC
      unfold Er.val Er.cells at haa
      dsimp only at haa
      obtain ⟨WD, hWD⟩ : ∃ WD, WC.alloc (.cells #[.int .i64 sk, .int .i64 sop, .int .i64 sv.k, .int .i64 sv.n, .string sv.s, .string stb, .string snm, .slice sa em.l.length sc] TE) = WD := ⟨_, rfl⟩
      have hbD : Below WC.heap.size WC WD := by rw [← hWD]; exact (Below.refl _ _).alloc (Nat.le_refl _) _
      have hfA : Flds WD gA TE [.int .i64 sk, .int .i64 sop, .int .i64 sv.k, .int .i64 sv.n, .string sv.s, .string stb, .string snm, .slice sa em.l.length sc] := by rw [← hWD, ← hgA]; exact Flds.new WC _ _
      have hzD : WD.heap.size = gA + 1 := by rw [← hWD, World.size_alloc, hgA]
      have HAA := Lib.hid haa
      have HWD := Lib.hid hWD
      have HGA := Lib.hid hgA
      have HZ : Hid (gA = g13 + 1 ∧ WD.heap.size = gA + 1 ∧ WB.heap.size = g13) := Lib.hid ⟨hgA1, hzD, hg13⟩
      have HI0 : Hid (KI WB 3 g13 0 WD) := Lib.hid ⟨hf13.later hbD, hbC.trans (hbD.mono hbC.size)⟩
      have HFA := Lib.hid hfA
      have HEX : Hid (ExAt TE (fun b => b < g13) 26 WB em ⟨sk, sop, sv, stb, snm, .slice sa em.l.length sc⟩) := Lib.hid ((HE1.out WB HBB.out).mono (Nat.le_refl _) (fun b hb _ => by rw [← hg13]; exact hb))
      clear hWC hbC hf13 hbWC haa hWD hbD hfA hzD hgA hgA1
      try rw [hg13]
      clear hg13
      go_wp2_with (go_at_call 17; refine HAA.out.mono ?_; rintro ee wz ⟨rfl, rfl⟩; (rw [HWD.out, HGA.out]))
      clear y0 y1 y2 y3 y4 y5 y6 y7 l3
      refine (wpIn_wide (n := 3)).1 ?_
      refine' range_box rfl (by decide) (gf := 26) (lb := #[.pointer (some ⟨gA, 0, none⟩)]) rfl trivial (enters_of Tryd.func26 (by kernel_rfl) rfl)
        (all_seq _ gA (d := 26) (by decide) (X := fun b => b < g13) (P := fun b => b = g13) (HEX.out.later HI0.out.2) HM.out.1 (fun b hb hp => by omega) (fun b hp => by have := HZ.out; omega) HFA.out (by have := HZ.out; omega))
        (fun k W xs l o1 o2 hl h1 h2 _ hA => PartA.put (fun b hb hp => by omega) hl h1 h2 hA) (fun {A B C} h h' => OnlyX.trans h h') (fun W l o1 o2 hl h1 h2 _ => OnlyX.put W l o1 o2 hl h1 h2) rfl
        (fun k W W' xs hb hA => by obtain ⟨x, s, e1, e2, e3⟩ := hA; exact ⟨x, s, e1, e2, e3.later hb⟩) (fun {W W'} hb => OnlyX.of_below hb)
        (fun k W => KI WB 3 g13 k W) (fun _ _ _ => False) (KI.own (by have := HZ.out; omega)) (fun _ _ _ _ _ hs _ _ => hs)
        HI0.out (fun x : Ev => .agg #[.int .i64 x.k, .int .i64 x.op, .int .i64 x.vk, .int .i64 x.vn, .string x.vs, .string x.tb, .string x.nm, .slice x.a x.n x.c]) (fun x : Ev => [.int .i64 x.k, .int .i64 x.op, .int .i64 x.vk, .int .i64 x.vn, .string x.vs, .string x.tb, .string x.nm, .slice x.a x.n x.c]) TE _ (fun k W xs hA => hA.ev) ?assign ?body ?done ?stop
      case stop =>
        rintro D c k W _ _ h _
        exact h.elim
      case assign =>
        rintro l k W s gx K hk hI hA hgx hgx2 hK
        clear hk hI hA
        gi_wp2
        exact hK
      case body =>
        rintro l k W s gx hk hI hA hgx hf14
        obtain ⟨x, hxk, hxn, hs⟩ := hA.at
        obtain ⟨xk, xop, xvk, xvn, xvs, xtb, xnm, xa, xn, xc⟩ := s
        unfold Ev.er at hs
        dsimp only at hs hf14 hxn ⊢
        subst hxn
        rw [HL.out] at hk
        obtain ⟨hf13, hbw⟩ := hI
        obtain ⟨ga, uk, uop, uv, utb, unm, ua, uc, rfl, hxu, hga, c0, c1, c2, c3, c4, c5, c6, c7⟩ := (HRB.out.later hbw).kids HL.out hk hxk
        have hsl := Ex.slim_part em HM.out.1 x (List.mem_of_getElem? hxk)
        have K13 : Hid (∀ W1, Below W.heap.size W W1 → W1.cell? ⟨g13, 0, none⟩ = some (.int .i64 (k : Int)) ∧ g13 < W1.heap.size) := Lib.hid (fun W1 h => ⟨(hf13.later h).cell 0, (hf13.later h).lt⟩)
        have K12 : Hid (∀ W1, Below W.heap.size W W1 → W1.cell? ⟨g12, 0, none⟩ = some (.slice (some ⟨ga, 0, none⟩) L ptc) ∧ g12 < W1.heap.size) := Lib.hid (fun W1 h => ⟨((H12.out.later hbw).later h).cell 0, ((H12.out.later hbw).later h).lt⟩)
        have K14 := Lib.hid (fun (W1 : World) (h : Below W.heap.size W W1) => of_fe (hf14.later h))
        have KU : Hid (∀ W1, Below W.heap.size W W1 → W1.cell? ⟨ga, k * 8, none⟩ = some (.int .i64 uk) ∧ W1.cell? ⟨ga, k * 8 + 1, none⟩ = some (.int .i64 uop) ∧ W1.cell? ⟨ga, k * 8 + 2, none⟩ = some (.int .i64 uv.k) ∧ W1.cell? ⟨ga, k * 8 + 3, none⟩ = some (.int .i64 uv.n) ∧ W1.cell? ⟨ga, k * 8 + 4, none⟩ = some (.string uv.s) ∧ W1.cell? ⟨ga, k * 8 + 5, none⟩ = some (.string utb) ∧ W1.cell? ⟨ga, k * 8 + 6, none⟩ = some (.string unm) ∧ W1.cell? ⟨ga, k * 8 + 7, none⟩ = some (.slice ua x.l.length uc) ∧ ga < W1.heap.size) := Lib.hid (fun W1 h => ⟨cell_later h c0, cell_later h c1, cell_later h c2, cell_later h c3, cell_later h c4, cell_later h c5, cell_later h c6, cell_later h c7, Nat.lt_of_lt_of_le hga h.size⟩)
        have HT := Lib.hid (fun (W1 : World) (h : Below W.heap.size W W1) => told_any 26 (by decide) _ x _ W1 hsl (hxu.later h))
        have HS := Lib.hid (fun (W1 : World) (h : Below W.heap.size W W1) (s : Er) (h' : ExAt TE (fun _ => True) 26 W1 x s) => same_any 26 _ _ x x _ s W1 (hs.later h) h')
        rw [eqE_self] at HS
        unfold Er.val at HT
        dsimp only at HT
        have HF13 := Lib.hid hf13
        have HBW := Lib.hid hbw
        have k0 : (0 : Int) ≤ (k : Int) := by omega
        have k1 : (k : Int) < (L : Int) := by omega
        have k2 : decide ((L : Int) ≤ (k : Int)) = false := by simp; omega
        have k3 : ¬ (L : Int) ≤ (k : Int) := by omega
        clear hf13 hbw hxu hga c0 c1 c2 c3 c4 c5 c6 c7 hs hf14 hxk hsl hA hgx
        gi_wp2
        apply ag.region_calm_in _ _ (ag.Spec.val _ :: ag.Spec.val _ :: ag.Spec.val _ :: ag.Spec.val (.bool false) :: ag.Spec.val _ :: ag.Spec.val _ :: ag.Spec.val _ :: ag.Spec.val _ :: ag.Spec.val _ :: ag.Spec.val _ :: ag.Spec.sat (fun v W => ∃ s : Er, v = s.val ∧ ExAt TE (fun _ => True) 26 W x s) ag.grew :: ag.Spec.sat (fun v _ => v = .bool true) ag.grew :: ag.Spec.val (.bool false) :: ag.Spec.val _ :: [])
        case hnd => rfl
        case hm => kernel_rfl
        case hB => kernel_rfl
        case hlen => rfl
        case hc => exact ⟨⟨(fun v W W' h hb => by obtain ⟨s, h1, h2⟩ := h; exact ⟨s, h1, h2.later hb⟩), rfl⟩, ⟨ag.lasts_eq _, rfl⟩, trivial⟩
        apply ag.walk_val
        · rfl
        · intro W1 hS hE
          obtain ⟨z1, z2⟩ := K13.out W1 hS
          clear hS hE
          unfold ag.does
          go_simp
          first | done | exact ⟨rfl, rfl⟩ | rfl | (exact ⟨by go_num, rfl⟩) | (simp; done) | trace_state
        simp only [Act.put, List.setIfInBounds_toArray, List.set_cons_zero, List.set_cons_succ]
        apply ag.walk_val
        · rfl
        · intro W1 hS hE
          obtain ⟨z1, z2⟩ := K12.out W1 hS
          clear hS hE
          unfold ag.does
          go_simp
          first | done | exact ⟨rfl, rfl⟩ | rfl | (exact ⟨by go_num, rfl⟩) | (simp; done) | trace_state
        simp only [Act.put, List.setIfInBounds_toArray, List.set_cons_zero, List.set_cons_succ]
        apply ag.walk_val
        · rfl
        · intro W1 hS hE
          clear hS hE
          unfold ag.does
          go_simp
          first | done | exact ⟨rfl, rfl⟩ | rfl | (exact ⟨by go_num, rfl⟩) | (simp; done) | trace_state
        simp only [Act.put, List.setIfInBounds_toArray, List.set_cons_zero, List.set_cons_succ]
        apply ag.walk_val
        · rfl
        · intro W1 hS hE
          clear hS hE
          unfold ag.does
          go_simp
          first | done | exact ⟨rfl, rfl⟩ | rfl | (exact ⟨by go_num, rfl⟩) | (simp; done) | trace_state
        simp only [Act.put, List.setIfInBounds_toArray, List.set_cons_zero, List.set_cons_succ]
        apply ag.walk_val
        · rfl
        · intro W1 hS hE
          clear hS hE
          unfold ag.does
          go_simp
          first | done | exact ⟨rfl, rfl⟩ | rfl | (exact ⟨by go_num, rfl⟩) | (simp; done) | trace_state
        simp only [Act.put, List.setIfInBounds_toArray, List.set_cons_zero, List.set_cons_succ]
        apply ag.walk_val
        · rfl
        · intro W1 hS hE
          obtain ⟨y0, y1, y2, y3, y4, y5, y6, y7, z3⟩ := K14.out W1 hS
          clear hS hE
          unfold ag.does
          go_simp
          first | done | exact ⟨rfl, rfl⟩ | rfl | (exact ⟨by go_num, rfl⟩) | (simp; done) | trace_state
        simp only [Act.put, List.setIfInBounds_toArray, List.set_cons_zero, List.set_cons_succ]
        apply ag.walk_val
        · rfl
        · intro W1 hS hE
          obtain ⟨z1, z2⟩ := K12.out W1 hS
          clear hS hE
          unfold ag.does
          go_simp
          first | done | exact ⟨rfl, rfl⟩ | rfl | (exact ⟨by go_num, rfl⟩) | (simp; done) | trace_state
        simp only [Act.put, List.setIfInBounds_toArray, List.set_cons_zero, List.set_cons_succ]
        apply ag.walk_val
        · rfl
        · intro W1 hS hE
          obtain ⟨z1, z2⟩ := K13.out W1 hS
          clear hS hE
          unfold ag.does
          go_simp
          first | done | exact ⟨rfl, rfl⟩ | rfl | (exact ⟨by go_num, rfl⟩) | (simp; done) | trace_state
        simp only [Act.put, List.setIfInBounds_toArray, List.set_cons_zero, List.set_cons_succ]
        apply ag.walk_val
        · rfl
        · intro W1 hS hE
          clear hS hE
          unfold ag.does
          go_simp
          first | done | exact ⟨rfl, rfl⟩ | rfl | (exact ⟨by go_num, rfl⟩) | (simp; done) | trace_state
        simp only [Act.put, List.setIfInBounds_toArray, List.set_cons_zero, List.set_cons_succ]
        apply ag.walk_val
        · rfl
        · intro W1 hS hE
          obtain ⟨y0, y1, y2, y3, y4, y5, y6, y7, z3⟩ := KU.out W1 hS
          clear hS hE
          unfold ag.does
          go_simp
          first | done | exact ⟨rfl, rfl⟩ | rfl | (exact ⟨by go_num, rfl⟩) | (simp; done) | trace_state
        simp only [Act.put, List.setIfInBounds_toArray, List.set_cons_zero, List.set_cons_succ]
        refine ag.walk_such (by rfl) (fun W1 hS hE => ?_) (fun y10 => ?_)
        · have hc := HT.out W1 hS
          clear hE
          unfold ag.does
          go_simp
          first | done | (exact hc.mono (fun e w' h => by obtain ⟨s, h1, h2, h3⟩ := h; exact ⟨s.val, h1, ⟨s, rfl, h2.mono (Nat.le_refl _) (fun _ _ _ => trivial)⟩, h3⟩))
        simp only [Act.put, List.setIfInBounds_toArray, List.set_cons_zero, List.set_cons_succ]
        refine ag.walk_such (by rfl) (fun W1 hS hE => ?_) (fun y11 => ?_)
        · have f10 : ∃ s : Er, y10 = s.val ∧ ExAt TE (fun _ => True) 26 W1 x s := hE.of 10 (by kernel_rfl)
          obtain ⟨s, rfl, hs⟩ := f10
          have hc := HS.out W1 hS s hs
          clear hE
          unfold ag.does
          go_simp
          first | done | (exact hc.mono (fun e w' h => ⟨_, h.1, rfl, h.2⟩))
        simp only [Act.put, List.setIfInBounds_toArray, List.set_cons_zero, List.set_cons_succ]
        apply ag.walk_val
        · rfl
        · intro W1 hS hE
          have f11 : y11 = .bool true := hE.of 11 (by kernel_rfl)
          subst f11
          clear hS hE
          unfold ag.does
          go_simp
          first | done | exact ⟨rfl, rfl⟩ | rfl | (exact ⟨by go_num, rfl⟩) | (simp; done) | trace_state
        simp only [Act.put, List.setIfInBounds_toArray, List.set_cons_zero, List.set_cons_succ]
        apply ag.walk_val
        · rfl
        · intro W1 hS hE
          clear hS hE
          unfold ag.does
          go_simp
          first | done | exact ⟨rfl, rfl⟩ | rfl | (exact ⟨by go_num, rfl⟩) | (simp; done) | trace_state
        simp only [Act.put, List.setIfInBounds_toArray, List.set_cons_zero, List.set_cons_succ]
        refine ag.walk_nil (fun w6 hS hF hP => ?_)
        clear hP
        clear hF
        have hf13 := HF13.out.later hS
        obtain ⟨z1, z2⟩ := K13.out w6 hS
        have z3 := hf13.frozen 0
        have s1 : IntKind.i64.wrap ((k : Int) + 1) = (k : Int) + 1 := Go.IntWalk.i64_in _ (by omega)
        have P1 := Lib.hid ((keeps_b (B := WD.heap.size) hS).trans (keeps_s w6 ⟨g13, 0, none⟩ (.int .i64 ((k : Int) + 1))))
        have P2 : Hid (OnlyX WD.heap.size (fun b => b = g13) W (w6.setCell ⟨g13, 0, none⟩ (.int .i64 ((k : Int) + 1)))) := Lib.hid ((OnlyX.of_below hS).trans (onlyX_s (P := fun b => b = g13) w6 g13 0 rfl _))
        have P3 : Hid (KI WB 3 g13 (k + 1) (w6.setCell ⟨g13, 0, none⟩ (.int .i64 ((k : Int) + 1)))) := Lib.hid ⟨by rw [Int.natCast_add]; exact hf13.set 0 (.int .i64 ((k : Int) + 1)), (HBW.out.trans (hS.mono HBW.out.size)).setCell (by show _ ≤ g13; have := HZ.out; omega) _⟩
        clear hS hf13 K13 K12 K14 KU HT HS
        gi_wp2
        exact ⟨P1.out, P2.out, P3.out⟩
      case done =>
        rintro D W hD hI hK
        obtain ⟨hf13, hbw⟩ := hI
        rw [HL.out] at hf13
        have hbw7 : Below w7.heap.size w7 W := HBB.out.trans (hbw.mono HBB.out.size)
        have h12 := H12.out.later hbw
        obtain ⟨y0, y1, y2, y3, y4, y5, y6, y7, l3⟩ := HW9.out W hbw7
        obtain ⟨g15, hg15⟩ : ∃ g, W.heap.size = g := ⟨_, rfl⟩
        obtain ⟨WE, hWE⟩ : ∃ WE, W.alloc (.cells #[.int .i64 0] 3) = WE := ⟨_, rfl⟩
        have hbE : Below W.heap.size W WE := by rw [← hWE]; exact (Below.refl _ _).alloc (Nat.le_refl _) _
        have hf15 : Flds WE g15 3 [.int .i64 0] := by rw [← hWE, ← hg15]; exact Flds.new W _ _
        obtain ⟨gB, hgB⟩ : ∃ g, WE.heap.size = g := ⟨_, rfl⟩
        have hgB1 : gB = g15 + 1 := by rw [← hgB, ← hWE, World.size_alloc, hg15]
        have haa := all_any ⟨sk, sop, sv, stb, snm, .slice sa em.l.length sc⟩ sa em.l.length sc rfl WE
        unfold Er.val Er.cells at haa
        dsimp only at haa
        obtain ⟨WF, hWF⟩ : ∃ WF, WE.alloc (.cells #[.int .i64 sk, .int .i64 sop, .int .i64 sv.k, .int .i64 sv.n, .string sv.s, .string stb, .string snm, .slice sa em.l.length sc] TE) = WF := ⟨_, rfl⟩
        have hbF : Below WE.heap.size WE WF := by rw [← hWF]; exact (Below.refl _ _).alloc (Nat.le_refl _) _
        have hfB : Flds WF gB TE [.int .i64 sk, .int .i64 sop, .int .i64 sv.k, .int .i64 sv.n, .string sv.s, .string stb, .string snm, .slice sa em.l.length sc] := by rw [← hWF, ← hgB]; exact Flds.new WE _ _
        have hzF : WF.heap.size = gB + 1 := by rw [← hWF, World.size_alloc, hgB]
        have hbWF : Below W.heap.size W WF := hbE.trans (hbF.mono hbE.size)
        have HAA2 := Lib.hid haa
        have HWE := Lib.hid hWE; have HWF := Lib.hid hWF; have HGB := Lib.hid hgB; have HG15 := Lib.hid hg15
        have HI1 : Hid (KZ W 3 g15 0 WF) := Lib.hid ⟨rfl, hf15.later hbF, hbWF⟩
        have HFB := Lib.hid hfB
        have HZ2 : Hid (gB = g15 + 1 ∧ WF.heap.size = gB + 1 ∧ W.heap.size = g15 ∧ g13 < g15 ∧ g12 < g15 ∧ D < g15 ∧ w.heap.size < D) := Lib.hid ⟨hgB1, hzF, hg15, by rw [← hg15]; exact hf13.lt, by rw [← hg15]; exact h12.lt, by rw [← hg15]; exact (Array.getElem?_eq_some_iff.1 hK).1, by have h1 := HZ.out; have h2 := (HW9.out WB HBB.out); have h3 := HBX.out.size; have h4 := HB5.out.size; have h5 := HBB.out.size; have h6 := HB7.out.size; have h7 := HF5.out.lt; omega⟩
        have HEX2 : Hid (ExAt TE (fun b => b < g13) 26 WF em ⟨sk, sop, sv, stb, snm, .slice sa em.l.length sc⟩) := Lib.hid ((HEX.out.later hbw).later hbWF)
        have HF13 := Lib.hid hf13; have HF12 := Lib.hid h12
        have HBW := Lib.hid hbw
        have HKK := Lib.hid hK
        have hbwE : Below w7.heap.size w7 WE := hbw7.trans (hbE.mono hbw7.size)
        clear hf13 hbw hbw7 h12 hbE hf15 hgB1 haa hbF hfB hzF hbWF hWE hWF hgB hg15 hK y0 y1 y2 y3 y4 y5 y6 y7 l3
        go_upto_region 19 with fail
        rw [HWE.out, HG15.out]
        obtain ⟨y0, y1, y2, y3, y4, y5, y6, y7, l3⟩ := HW9.out WE hbwE
        clear hbwE
        go_wp2_with (go_at_call 17; refine HAA2.out.mono ?_; rintro ee wz ⟨rfl, rfl⟩; (rw [HWF.out, HGB.out]))
        clear y0 y1 y2 y3 y4 y5 y6 y7 l3
        refine (wpIn_wide (n := 3)).1 ?_
        refine' range_arg rfl (by decide) (gf := 26) (lb := #[.pointer (some ⟨gB, 0, none⟩)]) rfl trivial (enters_of Tryd.func26 (by kernel_rfl) rfl)
          (all_seq _ gB (d := 26) (by decide) (X := fun b => b < g13) (P := fun b => b = g15) HEX2.out HM.out.1 (fun b hb hp => by have := HZ2.out; omega) (fun b hp => by have := HZ2.out; omega) HFB.out (by have := HZ2.out; omega))
          (fun k W xs l o1 o2 hl h1 h2 _ hA => PartA.put (P := fun b => b = g15) (fun b hb hp => by have := HZ2.out; omega) hl h1 h2 hA) (fun {A B C} h h' => OnlyX.trans h h') (fun W l o1 o2 hl h1 h2 _ => OnlyX.put W l o1 o2 hl h1 h2) (fun k W xs hA => hA.one)
          (fun k W' => KZ W 3 g15 k W') (KX W 3 g15 (.exit 2)) (KZ.own (by have := HZ2.out; omega)) (KX.own (by have := HZ2.out; omega))
          HI1.out _ ?assign ?body ?done ?stop
        case assign =>
          rintro l k W xs K hk hI hA hK
          have hx : xs = #[xs.getD 0 undef] := by
            obtain ⟨x, s, -, rfl, -⟩ := hA
            rfl
          rw [hx]
          clear hk hI hA hx
          gi_wp2
          exact hK
        case body =>
          rintro l k W1 xs hk ⟨rfl, hf15, hb15⟩ hA
          have z1 := hf15.cell 0
          have z2 := hf15.frozen 0
          have z3 := hf15.lt
          simp only [List.getElem?_cons_zero] at z1
          have P1 := Lib.hid (keeps_s (B := WF.heap.size) W1 ⟨g15, 0, none⟩ (.int .i64 1))
          have P3 : Hid (KI W 3 g15 1 (W1.setCell ⟨g15, 0, none⟩ (.int .i64 1))) := Lib.hid ⟨hf15.set 0 (.int .i64 1), hb15.setCell (by show _ ≤ g15; have := HZ2.out; omega) _⟩
          clear hf15 hb15 hA hk
          gi_wp2
          exact ⟨P1.out, rfl, P3.out⟩
        case done =>
          rintro D2 W2 hD2 ⟨h0, -⟩ hK2
          exfalso
          rw [HL.out] at h0
          have h1 := HL.out
          rw [em.parts_eq, List.length_cons] at h1
          omega
        case stop =>
          rintro D2 c k W2 hD2 hk ⟨rfl, hf15, hb15⟩ hK2
          have hb7 : Below w7.heap.size w7 W2 := HBB.out.trans ((HBW.out.trans (hb15.mono HBW.out.size)).mono HBB.out.size)
          have hf13 := HF13.out.later hb15
          have hf12 := HF12.out.later hb15
          have hf4 := HF4X.out.later (HXW.out W2 hb7)
          have HF4W := Lib.hid hf4
          have HBW2 : Hid (Below w.heap.size w W2) := Lib.hid (HBX.out.trans ((HXW.out W2 hb7).mono HBX.out.size))
          have c13 := hf13.cell 0; have c12 := hf12.cell 0; have c15 := hf15.cell 0; have c4 := hf4.cell 0; have z4 := hf4.frozen 0
          have l13 := hf13.lt; have l12 := hf12.lt; have l15 := hf15.lt; have l4 := hf4.lt
          simp only [List.getElem?_cons_zero] at c13 c12 c15 c4
          have hll : ((L : Int) == (L : Int)) = true := by simp
          have h11 : (((1 : Nat) : Int) == 1) = true := by simp
          have HKD : Hid (D ≠ D2 ∧ W2.heap[D]? = some (.deferred (some [])) ∧ W2.heap[D2]? = some (.deferred (some [])) ∧ w.heap.size < D ∧ w.heap.size < D2) := Lib.hid (by
            have h1 := HZ2.out
            refine ⟨by omega, (hb15.block D (by omega)).trans HKK.out, hK2, by omega, by omega⟩)
          clear hb7 hf13 hf12 hf4 hf15 hb15 hK2
          refine (wpIn_wide (n := 3)).2 ?_
          go_wp2_with fail
          obtain ⟨k0, k1, k2, k3, k4⟩ := HKD.out
          have g1 := grown_setCell W2 ⟨w.heap.size, 0, none⟩ (.bool true)
          have h7 : Flds (W2.setCell ⟨w.heap.size, 0, none⟩ (.bool true)) w.heap.size TBo [.bool true] := HF4W.out.set 0 _
          have hb7 : Below w.heap.size w (W2.setCell ⟨w.heap.size, 0, none⟩ (.bool true)) := HBW2.out.setCell (Nat.le_refl _) _
          have hKA : (W2.setCell ⟨w.heap.size, 0, none⟩ (.bool true)).heap[D2]? = some (.deferred (some [])) := (g1.block D2 (Array.getElem?_eq_some_iff.1 k2).1 (fun e => by simp only [Option.some.injEq] at e; omega)).trans k2
          have hKB : (W2.setCell ⟨w.heap.size, 0, none⟩ (.bool true)).heap[D]? = some (.deferred (some [])) := (g1.block D (Array.getElem?_eq_some_iff.1 k1).1 (fun e => by simp only [Option.some.injEq] at e; omega)).trans k1
          generalize W2.setCell ⟨w.heap.size, 0, none⟩ (.bool true) = W3 at *
          refine ⟨by simp, .inl ⟨_, _, rfl, run_takeDeferred hKA, ?_⟩⟩
          have hKC : (W3.putObj D2 (.deferred none)).heap[D]? = some (.deferred (some [])) := (World.putObj_heap_other k0).trans hKB
          refine ⟨by simp, .inl ⟨_, _, rfl, run_takeDeferred hKC, ?_⟩⟩
          have h8 : Flds ((W3.putObj D2 (.deferred none)).putObj D (.deferred none)) w.heap.size TBo [.bool true] := (World.putObj_heap_other (by omega)).trans ((World.putObj_heap_other (by omega)).trans h7)
          have q8 := h8.cell 0
          simp only [List.getElem?_cons_zero] at q8
          have hb8 : Below w.heap.size w ((W3.putObj D2 (.deferred none)).putObj D (.deferred none)) :=
            (hb7.trans (belowK_b (w := w) (Nat.le_refl _) _ D2 _ _ (by omega) hKA rfl rfl)).trans (belowK_b (w := w) (Nat.le_refl _) _ D _ _ (by omega) hKC rfl rfl)
          generalize (W3.putObj D2 (.deferred none)).putObj D (.deferred none) = W4 at *
          refine ⟨.bool true, by simp [results, Tryd.results3, go_sem, q8], rfl, hb8⟩
end Go.Proofs.YtfnajccnlcfbiaaDoor.ex
