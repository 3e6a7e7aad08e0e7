/- The law CheckTypes, walked. -/
import Derived.Test.YtjnlimahcodomaaCheckO
import Derived.Test.YtjnlimahcodomaaCheckF
import Derived.Test.YtjnlimahcodomaaCheckH
import Derived.Test.YtjnlimahcodomaaCheckR
import Derived.Test.YtjnlimahcodomaaCheckT
import Derived.Test.YtjnlimahcodomaaCheckX
import Derived.Test.YtjnlimahcodomaaCheckV
import Derived.Test.YtjnlimahcodomaaCheckZZ
import Derived.Test.YtjnlimahcodomaaExprOU
import Derived.Test.YtjnlimahcodomaaExprKW
import Derived.Test.YtjnlimahcodomaaExprB
namespace Go.Proofs.Ytjnlimahcodomaa.ck
set_option linter.unusedVariables false
open Go.RowKit
open val (V null TV TR vv ag3)
open ex (Ex Er TE TQ ExAt Pt PB pCells of_fe goodB goodE_iff pB_iff built_letters rgood_any rdepth_any told17_any mayE RowAt NewL erCells)
attribute [local go_sem high] run_min_keep
theorem gB_good {v : V} (h : val.Good v) : val.gB v.k v.n v.s = true := by
  obtain ⟨k, n, s⟩ := v
  rcases h with ⟨h1, h2, h3⟩ | ⟨h1, h2, h3⟩ | ⟨h1, h2, h3⟩ | ⟨h1, h2, h3⟩
  · dsimp only at h1 h2 h3; subst h1 h2 h3; kernel_rfl
  · dsimp only at h1 h2 h3; subst h1 h3; rcases h2 with rfl | rfl <;> kernel_rfl
  · dsimp only at h1 h2 h3; subst h1 h2; show ByteArray.empty.toList.isEmpty = true; kernel_rfl
  · dsimp only at h1 h2 h3; subst h1 h2
    show (((0 : Int) == 0) && decide ((s.size : Int) ≤ 64)) = true
    simp; omega
/-- the two lists of aggregates -/
def VA (d : Nat) (B N : Nat) (l : List Ex) (v : Value) (W : World) : Prop := ∃ (a : Option Addr) (c : Nat) (ss : List Er), v = .slice a N c ∧ NewL TE B d l N (.slice a N c) ss W
def VR (X : Nat → Prop) (d : Nat) (B N : Nat) (l : List Ex) (v : Value) (W : World) : Prop := ∃ (a : Option Addr) (c : Nat), v = .slice a N c ∧ RowAt TQ X B d (.slice a N c) l W
theorem VA.lasts {d B N : Nat} {l : List Ex} {v : Value} {W W' : World} (h : VA d B N l v W) (hb : Below W.heap.size W W') : VA d B N l v W' := by
  obtain ⟨a, c, ss, h1, h2⟩ := h
  exact ⟨a, c, ss, h1, h2.grown (row := none) (ex.grown_any hb) (fun b e => by cases e)⟩
theorem VR.lasts {X : Nat → Prop} {d B N : Nat} {l : List Ex} {v : Value} {W W' : World} (h : VR X d B N l v W) (hb : Below W.heap.size W W') : VR X d B N l v W' := by
  obtain ⟨a, c, h1, h2⟩ := h
  exact ⟨a, c, h1, h2.later hb⟩
theorem VA.mk {d B N : Nat} {l : List Ex} {a : Option Addr} {c : Nat} {ss : List Er} {W : World} (h : NewL TE B d l N (.slice a N c) ss W) : VA d B N l (.slice a N c) W := ⟨a, c, ss, rfl, h⟩
theorem VR.mk {X : Nat → Prop} {d B N : Nat} {l : List Ex} {a : Option Addr} {c : Nat} {W : World} (h : RowAt TQ X B d (.slice a N c) l W) : VR X d B N l (.slice a N c) W := ⟨a, c, rfl, h⟩
theorem rowAt_base {X : Nat → Prop} {B d : Nat} {v : Value} {l : List Ex} {W : World} (h : RowAt TQ X B d v l W) : RowAt TQ X 0 d v l W := by
  obtain ⟨rs, h1, h2, h3⟩ := h
  exact ⟨rs, h1, owns_base h2 (fun g _ => Nat.zero_le _), h3⟩
theorem VA.out {d B N : Nat} {l : List Ex} {v : Value} {W : World} (h : VA d B N l v W) : ∃ (a : Option Addr) (c : Nat) (ss : List Er), v = .slice a N c ∧ NewL TE B d l N (.slice a N c) ss W := h
theorem VR.out {X : Nat → Prop} {d B N : Nat} {l : List Ex} {v : Value} {W : World} (h : VR X d B N l v W) : ∃ (a : Option Addr) (c : Nat), v = .slice a N c ∧ RowAt TQ X B d (.slice a N c) l W := h
attribute [local irreducible] VA VR
set_option maxRecDepth 100000 in
set_option maxHeartbeats 12000000 in
theorem types_walk (ga : Bool) (a1 a2 : Option Addr) (c1 c2 : Nat) (ps : List Pt) (xs : List Cl) (hps : ∀ x ∈ ps, PB x) (hxs : ∀ x ∈ xs, CB x) (hl1 : ps.length ≤ 9223372036854775807) (hl2 : xs.length ≤ 9223372036854775807) (hk1 : ps.length ≤ c1) (w : World) (hr1 : Row w (.slice a1 ps.length c1) 7 ps.length (pCells ps)) (hr2 : Row w (.slice a2 xs.length c2) 6 xs.length (cCells xs)) :
    Calls Try.prog 3 #[.slice a1 ps.length c1, .slice a2 xs.length c2, .bool ga] w fun en w' => en = .returned (.bool true) ∧ Below w.heap.size w w' := by
  obtain ⟨n1, hn1⟩ : ∃ n1, ps.length = n1 := ⟨_, rfl⟩
  obtain ⟨n2, hn2⟩ : ∃ n2, xs.length = n2 := ⟨_, rfl⟩
  obtain ⟨M1, hM1⟩ : ∃ M1, min n1 30 = M1 := ⟨_, rfl⟩
  obtain ⟨M2, hM2⟩ : ∃ M2, min n2 6 = M2 := ⟨_, rfl⟩
  obtain ⟨em, nm', hm1, hm2, hm3, hbm⟩ := built_letters (.slice a1 ps.length c1) ps hps 30 (by decide) a1 c1 c1 w hr1 M1 (by rw [hn1, hM1])
  have HB1 := Lib.hid hbm
  have HM := Lib.hid (And.intro hm1 (And.intro hm2 hm3))
  have HRO := Lib.hid (rowC_ok hxs)
  have HRW := Lib.hid (fun (W : World) (hb : Below w.heap.size w W) => row_any xs hxs a2 n2 c2 hn2 (by omega) W (by rw [← hn2]; exact hr2.later hb) M2 hM2)
  clear hbm hm1 hm2 hm3
  have HFL : Hid ((fldsC xs).length = M2) := Lib.hid (by unfold fldsC; rw [List.length_map, List.length_take]; omega)
  have HM6 : Hid (M2 ≤ 6) := Lib.hid (by omega)
  rw [hn1] at hr1 hl1 hk1 ⊢
  rw [hn2] at hr2 hl2 ⊢
  have mi1 : min (n1 : Int) 30 = (M1 : Int) := by omega
  have mz1 : (0 : Int) ≤ (M1 : Int) := by omega
  have mc1 : (M1 : Int) ≤ (c1 : Int) := by omega
  have z1 : (0 : Int) ≤ (n1 : Int) := by omega
  have z2 : (0 : Int) ≤ (n2 : Int) := by omega
  have z3 : (n1 : Int) ≤ 9223372036854775807 := by omega
  have z4 : (n2 : Int) ≤ 9223372036854775807 := by omega
  have HSP := Lib.hid speaks_any
  clear hM1 hM2 hk1 hr1 hr2 hn1 hn2 hps hxs
  go_enter Try.func3, Try.ntmps3
  go_upto_region 3 with (go_at_call 5; refine (HSP.out w).mono ?_; rintro ee w1 ⟨rfl, hb1⟩; have HBa := Lib.hid hb1; clear hb1)
  go_upto_region 4 with (go_at_call 6; refine (HB1.out _ HBa.out).mono ?_; rintro ee pw ⟨r, rfl, hex, hb⟩; have HXp := Lib.hid hex; have HBp := Lib.hid hb; obtain ⟨pa, pc, us', hul', -⟩ := hex.parts; obtain ⟨pk, pop, pv, ptb, pnm, ulv⟩ := r; (dsimp only at hul'); subst hul'; (unfold Er.val); dsimp only; clear hex hb)
  obtain ⟨W2, hW2⟩ : ∃ W2, pw.alloc (.cells #[.int .i64 pk, .int .i64 pop, .int .i64 pv.k, .int .i64 pv.n, .string pv.s, .string ptb, .string pnm, .slice pa em.l.length pc] TQ) = W2 := ⟨_, rfl⟩
  obtain ⟨g5, hg5⟩ : ∃ g, pw.heap.size = g := ⟨_, rfl⟩
  have hb2 : Below pw.heap.size pw W2 := by rw [← hW2]; exact (Below.refl _ _).alloc (Nat.le_refl _) _
  have hf5 : Flds W2 g5 TQ [.int .i64 pk, .int .i64 pop, .int .i64 pv.k, .int .i64 pv.n, .string pv.s, .string ptb, .string pnm, .slice pa em.l.length pc] := by rw [← hW2, ← hg5]; exact Flds.new pw TQ _
  have ham : ExAt TQ (fun b => b < W2.heap.size) 26 W2 em ⟨pk, pop, pv, ptb, pnm, .slice pa em.l.length pc⟩ := (HXp.out.later hb2).mono (Nat.le_refl _) (fun b hb _ => hb)
  have hbw : Below w.heap.size w W2 := HBa.out.trans ((HBp.out.trans (hb2.mono HBp.out.size)).mono HBa.out.size)
  rw [hW2]
  try rw [hg5]
  have HF5 := Lib.hid hf5; have HAM := Lib.hid ham; have HBW := Lib.hid hbw
  obtain ⟨G, hG⟩ : ∃ G, goodB 20 em true = G := ⟨_, rfl⟩
  have hgd := rgood_any (by decide) HM.out.1 HM.out.2.1 ham
  rw [hG] at hgd
  have HGD := Lib.hid hgd
  have HG := Lib.hid hG
  have HAC := Lib.hid (fun (W : World) (hb : Below W2.heap.size W2 W) => raggs_any 26 (by decide) _ em _ W (fun b h => Nat.lt_of_lt_of_le h hb.size) (by have := HM.out.2.2; omega) HM.out.1 (ham.later hb))
  obtain ⟨NA, hNA⟩ : ∃ N, (aggE em).length = N := ⟨_, rfl⟩
  rw [hNA] at HAC
  have HNA := Lib.hid hNA
  have HTD := Lib.hid (fun (W : World) (hb : Below W2.heap.size W2 W) => told17_any 26 (by decide) _ em _ W HM.out.1 (ham.later hb))
  have HFW := Lib.hid (fun (W : World) (hb : Below W2.heap.size W2 W) => of_fe (hf5.later hb))
  unfold Er.val at HGD HAC HTD
  dsimp only at HGD HAC HTD
  clear hW2 hg5 hb2 hf5 ham hbw hgd hG hNA
  obtain ⟨e0, e1, e2, e3, e4, e5, e6, e7, l5⟩ := HFW.out W2 (Below.refl _ _)
  cases G with
  | false =>
    as_aux_lemma =>
    go_wp2_with (go_at_call 7; refine HGD.out.mono ?_; rintro ee w6 ⟨rfl, hb6⟩; have HB6 := Lib.hid hb6; clear hb6)
    go_ret
    exact ⟨rfl, HBW.out.trans (HB6.out.mono HBW.out.size)⟩
  | true =>
    go_upto_region 6 with (go_at_call 7; refine HGD.out.mono ?_; rintro ee w6 ⟨rfl, hb6⟩; have HB6 := Lib.hid hb6; clear e0 e1 e2 e3 e4 e5 e6 e7 l5; obtain ⟨e0, e1, e2, e3, e4, e5, e6, e7, l5⟩ := HFW.out w6 hb6; clear hb6)
    go_upto_region 7 with (go_at_call 8; refine (HTD.out _ HB6.out).mono ?_; rintro ee pw2 ⟨s, rfl, hex, hb⟩; have HXs := Lib.hid hex; have HBs := Lib.hid (HB6.out.trans (hb.mono HB6.out.size)); obtain ⟨sa, sc, us2, hsl, -⟩ := hex.parts; obtain ⟨sk, sop, sv, stb, snm, slv⟩ := s; (dsimp only at hsl); subst hsl; dsimp only; clear hex hb)
    clear e0 e1 e2 e3 e4 e5 e6 e7 l5 HGD
    obtain ⟨W3, hW3⟩ : ∃ W3, pw2.alloc (.cells #[.int .i64 sk, .int .i64 sop, .int .i64 sv.k, .int .i64 sv.n, .string sv.s, .string stb, .string snm, .slice sa em.l.length sc] TE) = W3 := ⟨_, rfl⟩
    obtain ⟨g7, hg7⟩ : ∃ g, pw2.heap.size = g := ⟨_, rfl⟩
    have hb3 : Below pw2.heap.size pw2 W3 := by rw [← hW3]; exact (Below.refl _ _).alloc (Nat.le_refl _) _
    have hf7 : Flds W3 g7 TE [.int .i64 sk, .int .i64 sop, .int .i64 sv.k, .int .i64 sv.n, .string sv.s, .string stb, .string snm, .slice sa em.l.length sc] := by rw [← hW3, ← hg7]; exact Flds.new pw2 TE _
    have hat : ExAt TE (fun b => b < W3.heap.size) 26 W3 em ⟨sk, sop, sv, stb, snm, .slice sa em.l.length sc⟩ := (HXs.out.later hb3).mono (Nat.le_refl _) (fun b hb _ => hb)
    have hbw3 : Below w.heap.size w W3 := HBW.out.trans ((HBs.out.trans (hb3.mono HBs.out.size)).mono HBW.out.size)
    rw [hW3]
    try rw [hg7]
    have HAT := Lib.hid hat; have HBW3 := Lib.hid hbw3
    have H23 : Hid (Below W2.heap.size W2 W3) := Lib.hid (HBs.out.trans (hb3.mono HBs.out.size))
    have HFE := Lib.hid (fun (W : World) (hb : Below W3.heap.size W3 W) => of_fe (hf7.later hb))
    clear hW3 hg7 hb3 hf7 hat hbw3
    obtain ⟨q0, q1, q2, q3, q4, q5, q6, q7, lq⟩ := HFE.out W3 (Below.refl _ _)
    go_upto_region 8 with (go_at_call 9; refine (HRW.out _ HBW3.out).mono ?_; rintro ee pw3 ⟨v0, v1, v2, v3, rfl, ho0, ho1, ho2, ho3, hb⟩; obtain ⟨b0, d0, rfl, -⟩ := id ho0; obtain ⟨b1, d1', rfl, -⟩ := id ho1; obtain ⟨b2, d2', rfl, -⟩ := id ho2; obtain ⟨b3, d3, rfl, -⟩ := id ho3; have HO0 := Lib.hid ho0; have HO1 := Lib.hid ho1; have HO2 := Lib.hid ho2; have HO3 := Lib.hid ho3; have HBr := Lib.hid hb; clear ho0 ho1 ho2 ho3 hb)
    clear q0 q1 q2 q3 q4 q5 q6 q7 lq
    have hmay : mayE em false := by
      have h := ex.pB_iff.1 HG.out
      exact ((ex.goodE_iff em 20 true).1 h).2
    have HMAY := Lib.hid hmay
    have hHT := fun (W : World) (hb : Below W3.heap.size W3 W) (h : Row W (.slice b0 M2 d0) 3 M2 (fCells (fldsC xs))) => type_any b0 M2 d0 (fldsC xs) HFL.out (by have := HM6.out; omega) HRO.out.kinds ga 26 (by decide) _ em _ false W HM.out.1 HM.out.2.1 HMAY.out (HAT.out.later hb) h
    have hHR := fun (W : World) (hb : Below W3.heap.size W3 W) (h : Row W (.slice b1 M2 d1') 3 M2 (fCells (fldsC xs))) => rtype_any b1 M2 d1' (fldsC xs) HFL.out (by have := HM6.out; omega) HRO.out.kinds ga 26 (by decide) _ em _ false W HM.out.1 HM.out.2.1 HMAY.out (HAM.out.later (H23.out.trans (hb.mono H23.out.size))) h
    have HTY := Lib.hid hHT
    have HRT := Lib.hid hHR
    clear hHT hHR hmay
    obtain ⟨TK, hTK⟩ : ∃ t, (typeE ga (fldsC xs) em).1 = t := ⟨_, rfl⟩
    obtain ⟨TX, hTX⟩ : ∃ t, (typeE ga (fldsC xs) em).2 = t := ⟨_, rfl⟩
    rw [hTK, hTX] at HTY HRT
    have HTK := Lib.hid hTK
    have HTX := Lib.hid hTX
    clear hTK hTX
    unfold Er.val at HTY HRT
    dsimp only at HTY HRT
    have HFWW := Lib.hid (fun (W : World) (hb : Below W3.heap.size W3 W) => HFW.out W (H23.out.trans (hb.mono H23.out.size)))
    obtain ⟨q0, q1, q2, q3, q4, q5, q6, q7, lq⟩ := HFE.out pw3 HBr.out
    go_upto_region 9 with (go_at_call 10; refine (HTY.out _ HBr.out HO0.out).mono ?_; rintro ee w9 ⟨rfl, hb9⟩; have HB9 := Lib.hid (HBr.out.trans (hb9.mono HBr.out.size)); have HC9 := Lib.hid hb9; clear hb9)
    clear q0 q1 q2 q3 q4 q5 q6 q7 lq
    obtain ⟨q0, q1, q2, q3, q4, q5, q6, q7, lq⟩ := HFWW.out w9 HB9.out
    go_upto_region 12 with (go_at_call 11; refine (HRT.out _ HB9.out (HO1.out.later HC9.out)).mono ?_; rintro ee w10 ⟨rfl, hb10⟩; have HB10 := Lib.hid (HB9.out.trans (hb10.mono HB9.out.size)); have HC10 := Lib.hid (HC9.out.trans (hb10.mono HC9.out.size)); clear hb10)
    clear q0 q1 q2 q3 q4 q5 q6 q7 lq
    have hag := fun (W : World) (hb : Below W3.heap.size W3 W) => aggs_any 25 (by decide) _ em _ W (fun b h => Nat.lt_of_lt_of_le h hb.size) (by have := HM.out.2.2; omega) HM.out.1 (HAT.out.later hb)
    rw [HNA.out] at hag
    unfold Er.val at hag
    dsimp only at hag
    have HAG := Lib.hid hag
    have HAR := Lib.hid (fun (W : World) (hb : Below W3.heap.size W3 W) => HAC.out W (H23.out.trans (hb.mono H23.out.size)))
    clear hag
    apply ag.region_ag  (fun W => Below w10.heap.size w10 W) (fun _ _ _ _ => True) (ag.Spec.val _ :: ag.Spec.sat (VA 26 0 NA (aggE em)) (ag.grew) :: ag.Spec.val _ :: ag.Spec.sat (VR (fun b => b < W2.heap.size) 26 0 NA (aggE em)) (ag.grew) :: ag.Spec.cpy 1 :: ag.Spec.cpy 3 :: [])
    case hm => kernel_rfl
    case hB => kernel_rfl
    case hlen => rfl
    case hS => exact (Below.refl _ _).drew
    case hst =>
      simp only [ag.Stab, ag.Row2, ag.Ok2, and_true]
      repeat' apply And.intro
      all_goals first
        | exact fun h => absurd rfl h
        | (exact fun _ _ f v W W' _ hv _ ht => VA.lasts hv ht)
        | (exact fun _ _ f v W W' _ hv _ ht => VR.lasts hv ht)
        | trivial
        | exact fun _ h => absurd (h.symm.trans (show _ = true by kernel_rfl)) (by decide)
    case hk =>
      simp only [ag.Keeps, and_true]
      repeat' apply And.intro
      all_goals first
        | (exact fun f W W' hS _ ht => hS.trans (ht.mono hS.size))
        | trivial
    apply ag.walk_val
    · rfl
    · intro W1 hS hE
      obtain ⟨q0, q1, q2, q3, q4, q5, q6, q7, lq⟩ := HFE.out W1 (HB10.out.trans (hS.mono HB10.out.size))
      clear hS hE
      all_goals unfold ag.does
      all_goals go_simp
      all_goals first | done | exact ⟨rfl, rfl⟩ | rfl | (exact ⟨by go_num, rfl⟩) | (simp; done) | trace_state
    simp only [Act.put, List.setIfInBounds_toArray, List.set_cons_zero, List.set_cons_succ]
    refine ag.walk_sat (by rfl) (fun W1 hS hE => ?_) (fun y1 => ?_)
    · have hb := HB10.out.trans (hS.mono HB10.out.size)
      have hc := HAG.out W1 hb
      clear hE
      all_goals unfold ag.does
      all_goals go_simp
      all_goals first | done | (exact hc.mono (fun e w' h => by obtain ⟨a, c, ss, h1, h2, h3⟩ := h; exact ⟨_, h1, VA.mk (newL_base h2 (Nat.zero_le _)), h3, ag.News.none (fun _ _ => trivial) _ _⟩))
    simp only [Act.put, List.setIfInBounds_toArray, List.set_cons_zero, List.set_cons_succ]
    apply ag.walk_val
    · rfl
    · intro W1 hS hE
      obtain ⟨q0, q1, q2, q3, q4, q5, q6, q7, lq⟩ := HFWW.out W1 (HB10.out.trans (hS.mono HB10.out.size))
      clear hS hE
      all_goals unfold ag.does
      all_goals go_simp
      all_goals first | done | exact ⟨rfl, rfl⟩ | rfl | (exact ⟨by go_num, rfl⟩) | (simp; done) | trace_state
    simp only [Act.put, List.setIfInBounds_toArray, List.set_cons_zero, List.set_cons_succ]
    refine ag.walk_sat (by rfl) (fun W1 hS hE => ?_) (fun y3 => ?_)
    · have hb := HB10.out.trans (hS.mono HB10.out.size)
      have hc := HAR.out W1 hb
      clear hE
      all_goals unfold ag.does
      all_goals go_simp
      all_goals first | done | (exact hc.mono (fun e w' h => by obtain ⟨a, c, h1, h2, h3⟩ := h; exact ⟨_, h1, VR.mk (rowAt_base h2), h3, ag.News.none (fun _ _ => trivial) _ _⟩))
    simp only [Act.put, List.setIfInBounds_toArray, List.set_cons_zero, List.set_cons_succ]
    refine ag.walk_cpy (by kernel_rfl) (by rfl) (by rfl) (fun W1 hS hE => ?_) ?_
    · clear hS hE
      unfold ag.does
      go_simp
      first | exact ⟨rfl, rfl⟩ | rfl
    simp only [ag.lookX, Nat.reduceAdd, Nat.reduceEqDiff, if_false, if_true]
    simp only [Act.put, List.setIfInBounds_toArray, List.set_cons_zero, List.set_cons_succ]
    refine ag.walk_cpy (by kernel_rfl) (by rfl) (by rfl) (fun W1 hS hE => ?_) ?_
    · clear hS hE
      unfold ag.does
      go_simp
      first | exact ⟨rfl, rfl⟩ | rfl
    simp only [ag.lookX, Nat.reduceAdd, Nat.reduceEqDiff, if_false, if_true]
    simp only [Act.put, List.setIfInBounds_toArray, List.set_cons_zero, List.set_cons_succ]
    refine ag.walk_nil (fun w11 hS hF hP => ?_)
    clear hP
    have f1 := hF.of 1
    have f3 := hF.of 3
    simp only [ag.lookE, Nat.reduceEqDiff, if_false, if_true] at f1 f3
    obtain ⟨aP, cP, ssP, rfl, hnP⟩ := f1.out
    obtain ⟨aQ, cQ, rfl, hrQ⟩ := f3.out
    have HPR : Hid (RowAt TE (fun _ => True) 0 26 (.slice aP NA cP) (aggE em) w11) := Lib.hid ⟨ssP, by rw [hnP.len, HNA.out], by rw [HNA.out]; exact hnP.row, fun i x u hx hu => (hnP.at_ i x u (by have := (List.getElem?_eq_some_iff.1 hx).1; rw [HNA.out] at this; exact this) hx hu).mono (Nat.le_refl _) (fun _ _ _ => trivial)⟩
    have HQR := Lib.hid hrQ
    have HB11 : Hid (Below W3.heap.size W3 w11) := Lib.hid (HB10.out.trans (hS.mono HB10.out.size))
    have HC11 : Hid (Below pw3.heap.size pw3 w11) := Lib.hid (HC10.out.trans (hS.mono HC10.out.size))
    have na0 : (0 : Int) ≤ (NA : Int) := by omega
    have na1 : (NA : Int) ≤ 121 := by
      have h1 : (aggE em).length ≤ em.parts.length := by rw [aggE_parts]; exact List.length_filter_le ..
      have h2 := HM.out.2.2
      have h3 := HNA.out
      omega
    clear hF hS hnP hrQ f1 f3
    go_wp2_with fail
    go_loopw [20] (fun iv wr => ∃ k : Nat, iv = .int .i64 (k : Int) ∧ k ≤ NA ∧ Hid (Below w11.heap.size w11 wr)) (fun iv _ => NA - (intOf iv).toNat)
    case atStart => exact ⟨0, rfl, Nat.zero_le _, Lib.hid (Below.refl _ _)⟩
    case round =>
      obtain ⟨k, rfl, hk, HB⟩ := hrel
      have k0 : (0 : Int) ≤ (k : Int) := by omega
      by_cases hkn : k < NA
      · have k1 : (k : Int) < (NA : Int) := by omega
        have hkl : k < (aggE em).length := by rw [HNA.out]; exact hkn
        have hx := List.getElem?_eq_getElem hkl
        generalize (aggE em)[k] = x at hx
        have hxp : x ∈ em.parts := by
          have h1 := List.mem_of_getElem? hx
          rw [aggE_parts] at h1
          exact (List.mem_filter.1 h1).1
        have hxs := ex.Ex.slim_part em HM.out.1 x hxp
        obtain ⟨gP, uk, uop, uv, utb, unm, ua, uc, rfl, hxu, hgP, c0, c1', c2', c3, c4, c5, c6, c7⟩ := (HPR.out.later HB.out).kids HNA.out hkn hx
        obtain ⟨gQ, vk, vop, vw, vtb, vnm, va, vc, rfl, hxv, hgQ, d0', d1'', d2'', d3', d4, d5, d6, d7⟩ := (HQR.out.later HB.out).kids HNA.out hkn hx
        have KP : Hid (∀ W1, Below wr.heap.size wr W1 → W1.cell? ⟨gP, k * 8, none⟩ = some (.int .i64 uk) ∧ W1.cell? ⟨gP, k * 8 + 1, none⟩ = some (.int .i64 uop) ∧ W1.cell? ⟨gP, k * 8 + 2, none⟩ = some (.int .i64 uv.k) ∧ W1.cell? ⟨gP, k * 8 + 3, none⟩ = some (.int .i64 uv.n) ∧ W1.cell? ⟨gP, k * 8 + 4, none⟩ = some (.string uv.s) ∧ W1.cell? ⟨gP, k * 8 + 5, none⟩ = some (.string utb) ∧ W1.cell? ⟨gP, k * 8 + 6, none⟩ = some (.string unm) ∧ W1.cell? ⟨gP, k * 8 + 7, none⟩ = some (.slice ua x.l.length uc) ∧ gP < W1.heap.size) := Lib.hid (fun W1 h => ⟨cell_later h c0, cell_later h c1', cell_later h c2', cell_later h c3, cell_later h c4, cell_later h c5, cell_later h c6, cell_later h c7, Nat.lt_of_lt_of_le hgP h.size⟩)
        have KQ : Hid (∀ W1, Below wr.heap.size wr W1 → W1.cell? ⟨gQ, k * 8, none⟩ = some (.int .i64 vk) ∧ W1.cell? ⟨gQ, k * 8 + 1, none⟩ = some (.int .i64 vop) ∧ W1.cell? ⟨gQ, k * 8 + 2, none⟩ = some (.int .i64 vw.k) ∧ W1.cell? ⟨gQ, k * 8 + 3, none⟩ = some (.int .i64 vw.n) ∧ W1.cell? ⟨gQ, k * 8 + 4, none⟩ = some (.string vw.s) ∧ W1.cell? ⟨gQ, k * 8 + 5, none⟩ = some (.string vtb) ∧ W1.cell? ⟨gQ, k * 8 + 6, none⟩ = some (.string vnm) ∧ W1.cell? ⟨gQ, k * 8 + 7, none⟩ = some (.slice va x.l.length vc) ∧ gQ < W1.heap.size) := Lib.hid (fun W1 h => ⟨cell_later h d0', cell_later h d1'', cell_later h d2'', cell_later h d3', cell_later h d4, cell_later h d5, cell_later h d6, cell_later h d7, Nat.lt_of_lt_of_le hgQ h.size⟩)
        have HT := Lib.hid (fun (W1 : World) (h : Below wr.heap.size wr W1) => told17_any 26 (by decide) _ x _ W1 hxs (hxv.later h))
        have HS := Lib.hid (fun (W1 : World) (h : Below wr.heap.size wr W1) (s : Er) (h' : ExAt TE (fun _ => True) 26 W1 x s) => ex.same_any 26 _ _ x x _ s W1 (hxu.later h) h')
        rw [ex.eqE_self] at HS
        unfold Er.val at HT
        dsimp only at HT
        clear hxu hxv hgP hgQ c0 c1' c2' c3 c4 c5 c6 c7 d0' d1'' d2'' d3' d4 d5 d6 d7 hx hxp hxs hkl
        go_upto_region 18 with fail
        apply ag.region_calm (ag.Spec.val _ :: ag.Spec.val _ :: ag.Spec.val _ :: ag.Spec.val _ :: ag.Spec.val _ :: ag.Spec.val _ :: ag.Spec.val _ :: ag.Spec.val _ :: ag.Spec.sat (fun v W => ∃ s : Er, v = s.val ∧ ExAt TE (fun _ => True) 26 W x s) ag.grew :: ag.Spec.sat (fun v _ => v = .bool true) ag.grew :: ag.Spec.val (.bool false) :: [])
        case hm => kernel_rfl
        case hB => kernel_rfl
        case hlen => rfl
        case hc => exact ⟨⟨(fun v W W' h hb => by obtain ⟨s, h1, h2⟩ := h; exact ⟨s, h1, h2.later hb⟩), rfl⟩, ⟨ag.lasts_eq _, rfl⟩, trivial⟩
        apply ag.walk_val
        · rfl
        · intro W1 hS hE
          clear hS hE
          unfold ag.does
          go_simp
          first | done | exact ⟨rfl, rfl⟩ | rfl | (exact ⟨by go_num, rfl⟩) | (simp; done) | trace_state
        simp only [Act.put, List.setIfInBounds_toArray, List.set_cons_zero, List.set_cons_succ]
        apply ag.walk_val
        · rfl
        · intro W1 hS hE
          clear hS hE
          unfold ag.does
          go_simp
          first | done | exact ⟨rfl, rfl⟩ | rfl | (exact ⟨by go_num, rfl⟩) | (simp; done) | trace_state
        simp only [Act.put, List.setIfInBounds_toArray, List.set_cons_zero, List.set_cons_succ]
        apply ag.walk_val
        · rfl
        · intro W1 hS hE
          clear hS hE
          unfold ag.does
          go_simp
          first | done | exact ⟨rfl, rfl⟩ | rfl | (exact ⟨by go_num, rfl⟩) | (simp; done) | trace_state
        simp only [Act.put, List.setIfInBounds_toArray, List.set_cons_zero, List.set_cons_succ]
        apply ag.walk_val
        · rfl
        · intro W1 hS hE
          obtain ⟨y0, y1, y2, y3, y4, y5, y6, y7, z3⟩ := KP.out W1 hS
          clear hS hE
          unfold ag.does
          go_simp
          first | done | exact ⟨rfl, rfl⟩ | rfl | (exact ⟨by go_num, rfl⟩) | (simp; done) | trace_state
        simp only [Act.put, List.setIfInBounds_toArray, List.set_cons_zero, List.set_cons_succ]
        apply ag.walk_val
        · rfl
        · intro W1 hS hE
          clear hS hE
          unfold ag.does
          go_simp
          first | done | exact ⟨rfl, rfl⟩ | rfl | (exact ⟨by go_num, rfl⟩) | (simp; done) | trace_state
        simp only [Act.put, List.setIfInBounds_toArray, List.set_cons_zero, List.set_cons_succ]
        apply ag.walk_val
        · rfl
        · intro W1 hS hE
          clear hS hE
          unfold ag.does
          go_simp
          first | done | exact ⟨rfl, rfl⟩ | rfl | (exact ⟨by go_num, rfl⟩) | (simp; done) | trace_state
        simp only [Act.put, List.setIfInBounds_toArray, List.set_cons_zero, List.set_cons_succ]
        apply ag.walk_val
        · rfl
        · intro W1 hS hE
          clear hS hE
          unfold ag.does
          go_simp
          first | done | exact ⟨rfl, rfl⟩ | rfl | (exact ⟨by go_num, rfl⟩) | (simp; done) | trace_state
        simp only [Act.put, List.setIfInBounds_toArray, List.set_cons_zero, List.set_cons_succ]
        apply ag.walk_val
        · rfl
        · intro W1 hS hE
          obtain ⟨y0, y1, y2, y3, y4, y5, y6, y7, z3⟩ := KQ.out W1 hS
          clear hS hE
          unfold ag.does
          go_simp
          first | done | exact ⟨rfl, rfl⟩ | rfl | (exact ⟨by go_num, rfl⟩) | (simp; done) | trace_state
        simp only [Act.put, List.setIfInBounds_toArray, List.set_cons_zero, List.set_cons_succ]
        refine ag.walk_such (by rfl) (fun W1 hS hE => ?_) (fun y8 => ?_)
        · have hc := HT.out W1 hS
          clear hE
          unfold ag.does
          go_simp
          first | done | (exact hc.mono (fun e w' h => by obtain ⟨s, h1, h2, h3⟩ := h; exact ⟨s.val, h1, ⟨s, rfl, h2.mono (Nat.le_refl _) (fun _ _ _ => trivial)⟩, h3⟩))
        simp only [Act.put, List.setIfInBounds_toArray, List.set_cons_zero, List.set_cons_succ]
        refine ag.walk_such (by rfl) (fun W1 hS hE => ?_) (fun y9 => ?_)
        · have f10 : ∃ s : Er, y8 = s.val ∧ ExAt TE (fun _ => True) 26 W1 x s := hE.of 8 (by kernel_rfl)
          obtain ⟨s, rfl, hs⟩ := f10
          have hc := HS.out W1 hS s hs
          clear hE
          unfold ag.does
          go_simp
          first | done | (exact hc.mono (fun e w' h => ⟨_, h.1, rfl, h.2⟩))
        simp only [Act.put, List.setIfInBounds_toArray, List.set_cons_zero, List.set_cons_succ]
        apply ag.walk_val
        · rfl
        · intro W1 hS hE
          have f11 : y9 = .bool true := hE.of 9 (by kernel_rfl)
          subst f11
          clear hS hE
          unfold ag.does
          go_simp
          first | done | exact ⟨rfl, rfl⟩ | rfl | (exact ⟨by go_num, rfl⟩) | (simp; done) | trace_state
        simp only [Act.put, List.setIfInBounds_toArray, List.set_cons_zero, List.set_cons_succ]
        refine ag.walk_nil (fun w12 hS hF hP => ?_)
        clear hP
        clear hF
        have HB12 := Lib.hid (HB.out.trans (hS.mono HB.out.size))
        clear hS
        go_wp2_with fail
        go_roundw
        case rel => exact ⟨k + 1, by go_num, by omega, HB12⟩
        case measure => simp [intOf]; omega
      · have hke : NA = k := by omega
        subst hke
        by_cases ht : TX = 0
        · subst ht
          by_cases hn : NA = 0
          · subst hn
            have hno : ∀ x ∈ em.parts, x.k ≠ 8 := parts_noagg HNA.out
            have hans : Ans TK (evalE (fldsC xs) (valsC xs) em) := by rw [← HTK.out]; exact sound em ga false _ _ HRO.out HMAY.out HM.out.2.1 hno HTX.out
            have hbr : Below W3.heap.size W3 wr := HB11.out.trans (HB.out.mono HB11.out.size)
            have hcr : Below pw3.heap.size pw3 wr := HC11.out.trans (HB.out.mono HC11.out.size)
            have hE1 := fun (W : World) (hb : Below wr.heap.size wr W) => eval_any b0 M2 d0 (fldsC xs) HFL.out (by have := HM6.out; omega) b2 d2' (valsC xs) HRO.out ga 26 (by decide) _ em _ false W HM.out.1 HM.out.2.1 HMAY.out hno HTX.out (HAT.out.later (hbr.trans (hb.mono hbr.size))) (HO0.out.later (hcr.trans (hb.mono hcr.size))) (HO2.out.later (hcr.trans (hb.mono hcr.size)))
            have hE2 := fun (W : World) (hb : Below wr.heap.size wr W) => reval_any b1 M2 d1' (fldsC xs) HFL.out (by have := HM6.out; omega) b3 d3 (valsC xs) HRO.out ga 26 (by decide) _ em _ false W HM.out.1 HM.out.2.1 HMAY.out hno HTX.out (HAM.out.later (H23.out.trans ((hbr.trans (hb.mono hbr.size)).mono H23.out.size))) (HO1.out.later (hcr.trans (hb.mono hcr.size))) (HO3.out.later (hcr.trans (hb.mono hcr.size)))
            generalize evalE (fldsC xs) (valsC xs) em = r1 at hE1 hE2 hans
            obtain ⟨⟨yk, yn, ys⟩, p1⟩ := r1
            have HE1 := Lib.hid hE1
            have HE2 := Lib.hid hE2
            have HANS := Lib.hid hans
            have HBR := Lib.hid hbr
            clear hE1 hE2 hans hno hbr hcr
            unfold Er.val vv ag3 at HE1 HE2
            dsimp only at HE1 HE2
            obtain ⟨q0, q1, q2, q3, q4, q5, q6, q7, lq⟩ := HFE.out wr HBR.out
            go_upto_region 23 with (go_at_call 15; refine (HE1.out _ (Below.refl _ _)).mono ?_; rintro ee w13 ⟨rfl, hb13⟩; have HB13 := Lib.hid hb13; clear hb13)
            clear q0 q1 q2 q3 q4 q5 q6 q7 lq
            obtain ⟨X1, hX1⟩ : ∃ W, w13.alloc (.cells #[.int .i64 yk, .int .i64 yn, .string ys] TV) = W := ⟨_, rfl⟩
            obtain ⟨gv, hgv⟩ : ∃ g, w13.heap.size = g := ⟨_, rfl⟩
            have hfv : Flds X1 gv TV [.int .i64 yk, .int .i64 yn, .string ys] := by rw [← hX1, ← hgv]; exact Flds.new w13 TV _
            have hx1 : Below wr.heap.size wr X1 := by rw [← hX1]; exact HB13.out.trans ((Below.refl _ _).alloc (HB13.out.size) _)
            rw [hX1, hgv]
            have HFV := Lib.hid (fun (W : World) (hb : Below X1.heap.size X1 W) => fd3 (hfv.later hb))
            have HX1 := Lib.hid hx1
            clear hX1 hgv hfv hx1
            obtain ⟨q0, q1, q2, q3, q4, q5, q6, q7, lq⟩ := HFWW.out X1 (HBR.out.trans (HX1.out.mono HBR.out.size))
            go_upto_region 24 with (go_at_call 16; refine (HE2.out _ HX1.out).mono ?_; rintro ee w14 ⟨rfl, hb14⟩; have HB14 := Lib.hid hb14; clear hb14)
            clear q0 q1 q2 q3 q4 q5 q6 q7 lq
            obtain ⟨X2, hX2⟩ : ∃ W, w14.alloc (.cells #[.int .i64 yk, .int .i64 yn, .string ys] TR) = W := ⟨_, rfl⟩
            obtain ⟨gw, hgw⟩ : ∃ g, w14.heap.size = g := ⟨_, rfl⟩
            have hfw : Flds X2 gw TR [.int .i64 yk, .int .i64 yn, .string ys] := by rw [← hX2, ← hgw]; exact Flds.new w14 TR _
            have hx2 : Below X1.heap.size X1 X2 := by rw [← hX2]; exact HB14.out.trans ((Below.refl _ _).alloc (HB14.out.size) _)
            rw [hX2, hgw]
            obtain ⟨v0, v1, v2, -, lv⟩ := HFV.out X2 hx2
            obtain ⟨u0, u1, u2, -, lu⟩ := fd3 hfw
            have hbw1 : Below w.heap.size w wr := HBW3.out.trans (HBR.out.mono HBW3.out.size)
            have hbw2 : Below w.heap.size w X1 := hbw1.trans (HX1.out.mono hbw1.size)
            have HZZ := Lib.hid (hbw2.trans (hx2.mono hbw2.size))
            clear hX2 hgw hfw hx2 hbw1 hbw2
            have HGG := Lib.hid (val.good_any yk yn ys X2)
            unfold ag3 at HGG
            have hend : p1 = 8 ∨ p1 = 9 ∨ p1 = 0 ∧ val.gB yk yn ys = true ∧ (yk = 0 ∨ yk = TK) := by
              rcases HANS.out with ⟨hp, hg, hk⟩ | ⟨hp, -⟩
              · exact .inr (.inr ⟨hp, gB_good hg, hk⟩)
              · rcases hp with h | h
                · exact .inl h
                · exact .inr (.inl h)
            rcases hend with rfl | rfl | ⟨rfl, hgb, hk⟩
            · as_aux_lemma =>
              go_wp2_with fail
              go_ret
              exact ⟨rfl, HZZ.out⟩
            · as_aux_lemma =>
              go_wp2_with fail
              go_ret
              exact ⟨rfl, HZZ.out⟩
            · rw [hgb] at HGG
              by_cases hk0 : yk = 0
              · subst hk0
                as_aux_lemma =>
                go_wp2_with (go_at_call 17; refine HGG.out.mono ?_; rintro ee w15 ⟨rfl, hb15⟩; have HB15 := Lib.hid hb15; clear hb15)
                go_ret
                exact ⟨rfl, HZZ.out.trans (HB15.out.mono HZZ.out.size)⟩
              · have hkt : TK = yk := by
                  rcases hk with h | h
                  · exact absurd h hk0
                  · exact h.symm
                subst hkt
                have n0 : decide (TK = 0) = false := by simp; exact hk0
                as_aux_lemma =>
                go_wp2_with (go_at_call 17; refine HGG.out.mono ?_; rintro ee w15 ⟨rfl, hb15⟩; have HB15 := Lib.hid hb15; clear hb15)
                go_ret
                exact ⟨rfl, HZZ.out.trans (HB15.out.mono HZZ.out.size)⟩
          · have n1 : (0 : Int) < (NA : Int) := by omega
            have n2 : decide ((0 : Int) < (NA : Int)) = true := by simp; omega
            as_aux_lemma =>
            go_wp2_with fail
            go_ret
            exact ⟨rfl, HBW3.out.trans ((HB11.out.trans (HB.out.mono HB11.out.size)).mono HBW3.out.size)⟩
        · have t1 : decide (TX = 0) = false := by simp; exact ht
          have t2 : ¬ TX = 0 := ht
          as_aux_lemma =>
          go_wp2_with fail
          go_ret
          exact ⟨rfl, HBW3.out.trans ((HB11.out.trans (HB.out.mono HB11.out.size)).mono HBW3.out.size)⟩
end Go.Proofs.Ytjnlimahcodomaa.ck
