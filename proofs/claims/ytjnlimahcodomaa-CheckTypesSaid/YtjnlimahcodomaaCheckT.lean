/- The program's expression of the document's, as layer 17's law makes it; walked. -/
import Derived.Test.YtjnlimahcodomaaExprEG
namespace Go.Proofs.Ytjnlimahcodomaa.ex
set_option linter.unusedVariables false
open Go.RowKit
open val (V null veq6)
attribute [local irreducible] V7 V8 V9 T9 S9
set_option maxRecDepth 100000 in
set_option maxHeartbeats 4000000 in
theorem told17_any : ∀ (d : Nat), d ≤ 1000 → ∀ (X : Nat → Prop) (e : Ex) (r : Er) (w : World), e.slim → ExAt TQ X d w e r →
    Calls Try.prog 8 #[r.val] w fun en w' => ∃ s : Er, en = .returned s.val ∧ ExAt TE (fun b => w.heap.size ≤ b) d w' e s ∧ Below w.heap.size w w'
  | 0, _, _, _, _, _, _, h => h.elim
  | d + 1, hd, X, e, r, w, hsl, h => by
    have IH := Lib.hid (fun (X : Nat → Prop) (e : Ex) (r : Er) (w : World) (hs : e.slim) (h : ExAt TQ X d w e r) => told17_any d (by omega) X e r w hs h)
    obtain ⟨hsl1, hsl2⟩ := Ex.slim_parts hsl
    obtain ⟨av, cv, us, hlv, hul, hrow, hch⟩ := h.parts
    have HFF := Lib.hid (exat_fields h)
    obtain ⟨n, hn⟩ : ∃ n, e.l.length = n := ⟨_, rfl⟩
    rw [hn] at hlv hul hrow hsl1
    have HN := Lib.hid hn
    have HUL := Lib.hid hul
    have HR := Lib.hid hrow
    have HC := Lib.hid hch
    have HSL := Lib.hid hsl2
    have hn0 : (0 : Int) ≤ (n : Int) := by omega
    have hn1 : (n : Int) ≤ 1000 := by omega
    clear h hn hul hrow hch hsl hsl2
    obtain ⟨rk, rop, rv, rtb, rnm, rlv⟩ := r
    dsimp only at hlv HFF
    subst hlv
    unfold Er.val
    dsimp only
    obtain ⟨i0, hi, hz0, hz1, hz2⟩ := info_of infoE
    go_enter Try.func8, Try.ntmps8
    go_upto_region 2 with fail
    obtain ⟨zL, hzL⟩ : ∃ zL : List Value, zL = [.int .i64 0, .int .i64 0, .int .i64 0, .int .i64 0, .string (ByteArray.mk #[]), .string (ByteArray.mk #[]), .string (ByteArray.mk #[]), .slice none 0 0] := ⟨_, rfl⟩
    obtain ⟨W1, hW1⟩ : ∃ W1, ((w.alloc (.cells #[.int .i64 rk, .int .i64 rop, .int .i64 rv.k, .int .i64 rv.n, .string rv.s, .string rtb, .string rnm, .slice av n cv] TQ)).alloc (.cells #[.int .i64 0, .int .i64 0, .int .i64 0, .int .i64 0, .string (ByteArray.mk #[]), .string (ByteArray.mk #[]), .string (ByteArray.mk #[]), .slice none 0 0] TE)).alloc (.cells #[.int .i64 rk, .int .i64 rop, .int .i64 rv.k, .int .i64 rv.n, .string rv.s, .string rtb, .string rnm, .slice none 0 0] TE) = W1 := ⟨_, rfl⟩
    have f1 : Flds W1 w.heap.size TQ [.int .i64 rk, .int .i64 rop, .int .i64 rv.k, .int .i64 rv.n, .string rv.s, .string rtb, .string rnm, .slice av n cv] := by rw [← hW1]; exact ((Flds.new w TQ _).alloc _).alloc _
    have f2 : Flds W1 (w.heap.size + 1) TE zL := by
      rw [← hW1, hzL]
      have := (Flds.new (w.alloc (.cells #[.int .i64 rk, .int .i64 rop, .int .i64 rv.k, .int .i64 rv.n, .string rv.s, .string rtb, .string rnm, .slice av n cv] TQ)) TE [.int .i64 0, .int .i64 0, .int .i64 0, .int .i64 0, .string (ByteArray.mk #[]), .string (ByteArray.mk #[]), .string (ByteArray.mk #[]), .slice none 0 0]).alloc (.cells #[.int .i64 rk, .int .i64 rop, .int .i64 rv.k, .int .i64 rv.n, .string rv.s, .string rtb, .string rnm, .slice none 0 0] TE)
      rw [World.size_alloc] at this; exact this
    have f3 : Flds W1 (w.heap.size + 2) TE [.int .i64 rk, .int .i64 rop, .int .i64 rv.k, .int .i64 rv.n, .string rv.s, .string rtb, .string rnm, .slice none 0 0] := by
      rw [← hW1]
      have := Flds.new ((w.alloc (.cells #[.int .i64 rk, .int .i64 rop, .int .i64 rv.k, .int .i64 rv.n, .string rv.s, .string rtb, .string rnm, .slice av n cv] TQ)).alloc (.cells #[.int .i64 0, .int .i64 0, .int .i64 0, .int .i64 0, .string (ByteArray.mk #[]), .string (ByteArray.mk #[]), .string (ByteArray.mk #[]), .slice none 0 0] TE)) TE [.int .i64 rk, .int .i64 rop, .int .i64 rv.k, .int .i64 rv.n, .string rv.s, .string rtb, .string rnm, .slice none 0 0]
      rw [World.size_alloc, World.size_alloc] at this; exact this
    have hb1 : Below w.heap.size w W1 := by rw [← hW1]; exact (((Below.refl _ _).alloc (Nat.le_refl _) _).alloc (by simp) _).alloc (by simp; omega) _
    have hz1' : W1.heap.size = w.heap.size + 3 := by rw [← hW1]; simp
    rw [hW1]
    obtain ⟨B, hB⟩ : ∃ B, w.heap.size + 3 = B := ⟨_, rfl⟩
    obtain ⟨g2, hg2⟩ : ∃ g2, w.heap.size + 1 = g2 := ⟨_, rfl⟩
    obtain ⟨g3, hg3⟩ : ∃ g3, w.heap.size + 1 + 1 = g3 := ⟨_, rfl⟩
    have HG : Hid (w.heap.size + 3 = B ∧ w.heap.size + 1 = g2 ∧ w.heap.size + 2 = g3) := Lib.hid ⟨hB, hg2, hg3⟩
    rw [hg2] at f2
    rw [show w.heap.size + 2 = g3 from hg3] at f3
    rw [hg3, hg2]
    have HX : Hid (∀ (i : Nat) x u, e.l[i]? = some x → us[i]? = some u → ExAt TQ (fun b => b < w.heap.size) d w x u) := Lib.hid (fun i x u hx hu => (HC.out i x u hx hu).mono (Nat.le_refl _) (fun b hb _ => hb))
    clear hW1 hB hg2 hg3
    go_wp2_with fail
    go_loopw [4] (fun i wr => ∃ (j : Nat) (L : Value) (ss : List Er), i = .int .i64 (j : Int) ∧ j ≤ n ∧ Hid (Flds wr w.heap.size TQ [.int .i64 rk, .int .i64 rop, .int .i64 rv.k, .int .i64 rv.n, .string rv.s, .string rtb, .string rnm, .slice av n cv]) ∧ Hid (Flds wr g2 TE zL) ∧ Hid (Flds wr g3 TE [.int .i64 rk, .int .i64 rop, .int .i64 rv.k, .int .i64 rv.n, .string rv.s, .string rtb, .string rnm, L]) ∧ Hid (NewL TE B d e.l j L ss wr) ∧ Hid (Below w.heap.size w wr) ∧ Hid (B ≤ wr.heap.size)) (fun i _ => n - (intOf i).toNat)
    case atStart => exact ⟨0, _, [], rfl, Nat.zero_le _, Lib.hid f1, Lib.hid f2, Lib.hid f3, Lib.hid (NewL.no TE B d e.l W1), Lib.hid hb1, Lib.hid (by have := HG.out.1; omega)⟩
    case round =>
      obtain ⟨j, L, ss, rfl, hj, HF1, HF2, HF3, HNL, HB, HBS⟩ := hrel
      have j0 : (0 : Int) ≤ (j : Int) := by omega
      obtain ⟨aL, cL, rfl⟩ := HNL.out.form
      have q7 := HF1.out.cell 7
      have l1 := HF1.out.lt
      simp only [List.getElem?_cons_zero, List.getElem?_cons_succ] at q7
      by_cases hjn : j < n
      · have dj : (j : Int) < (n : Int) := by omega
        have hja : j < e.l.length := by have := HN.out; omega
        have hju : j < us.length := by have := HUL.out; omega
        have hx := List.getElem?_eq_getElem hja
        have hu := List.getElem?_eq_getElem hju
        have HXS := Lib.hid (HSL.out _ (List.getElem_mem hja))
        generalize e.l[j] = x at hx HXS
        generalize us[j] = u at hu
        have hxu := HX.out j x u hx hu
        have HLB : Hid (∀ b, (Value.slice aL j cL).ownBlock = some b → b < wr.heap.size ∧ B ≤ b) := Lib.hid (fun b hb => ⟨(HNL.out.row.lt b hb).2, (HNL.out.row.lt b hb).1⟩)
        obtain ⟨ga, rfl, -⟩ := part_cells (owns_below HR.out HB.out) hjn hu
        obtain ⟨d', rfl⟩ := hxu.pos
        obtain ⟨au, cu, us', hul', -⟩ := hxu.parts
        obtain ⟨uk, uop, uv, utb, unm, ulv⟩ := u
        dsimp only at hul'
        subst hul'
        have HSW : Hid (∀ W, S9 wr B (.slice aL j cL) j ss W → Below w.heap.size w W) := Lib.hid (fun W hS => HB.out.grown hS.gr HB.out.size (fun b e => by have := (HLB.out b e).2; have := HG.out.1; omega))
        have HPA := Lib.hid (fun (W : World) (hb : Below w.heap.size w W) => part_cells (owns_below HR.out hb) hjn hu)
        have HFA := Lib.hid (fun (W : World) (hS : S9 wr B (.slice aL j cL) j ss W) => And.intro (HF1.out.grown hS.gr (fun e => by have := (HLB.out _ e.symm).2; have := HG.out.1; omega)) (HF3.out.grown hS.gr (fun e => by have := (HLB.out _ e.symm).2; have := HG.out; omega)))
        have HC1 := Lib.hid (fun (W : World) (hb : Below w.heap.size w W) => show Calls Try.prog 8 #[.agg #[.int .i64 uk, .int .i64 uop, .int .i64 uv.k, .int .i64 uv.n, .string uv.s, .string utb, .string unm, .slice au x.l.length cu]] W (fun en w' => ∃ s : Er, en = .returned s.val ∧ ExAt TE (fun b => W.heap.size ≤ b) (d' + 1) w' x s ∧ Below W.heap.size W w') from IH.out (fun b => b < w.heap.size) x ⟨uk, uop, uv, utb, unm, .slice au x.l.length cu⟩ W HXS.out (hxu.later hb))
        have HXJ := Lib.hid hx
        clear hx hu hxu hja hju
        go_upto_region 5 with fail
        apply ag.region_ag_tail 11  (fun W => S9 wr B (.slice aL j cL) j ss W) (fun _ _ _ _ => True) (ag.Spec.val _ :: ag.Spec.val _ :: ag.Spec.val _ :: ag.Spec.val _ :: ag.Spec.val _ :: ag.Spec.val _ :: ag.Spec.val _ :: ag.Spec.sat (V7 wr (d' + 1) x) (ag.grew) :: ag.Spec.sat (V8 wr (d' + 1) x) (ag.grew) :: ag.Spec.sat (V9 B (d' + 1) e.l j ss) (T9 B (.slice aL j cL) j ss) :: ag.Spec.val _ :: [])
        case hm => kernel_rfl
        case hT => kernel_rfl
        case hlen => rfl
        case hS => exact S9.start HNL.out.row
        case hst =>
          simp only [List.take_succ_cons, List.take_zero]
          simp only [ag.Stab, ag.Row2, ag.Ok2, and_true]
          repeat' apply And.intro
          all_goals first
            | exact fun h => absurd rfl h
            | (exact fun _ _ f v W W' _ hv _ ht => V7.lasts hv ht)
            | (exact fun _ _ f v W W' _ hv _ ht => V8.lasts hv ht)
            | (exact fun _ _ f v W W' _ hv _ ht => V9.lasts hv ht)
            | (exact fun _ _ f v W W' _ hv _ ht => V7.app (fun b hb => (HLB.out b hb).1) hv ht)
            | (exact fun _ _ f v W W' _ hv _ ht => V8.app (fun b hb => (HLB.out b hb).1) hv ht)
            | trivial
            | exact fun _ h => absurd (h.symm.trans (show _ = true by kernel_rfl)) (by decide)
        case hk =>
          simp only [List.take_succ_cons, List.take_zero]
          simp only [ag.Keeps, and_true]
          repeat' apply And.intro
          all_goals first
            | (exact fun f W W' hS _ ht => S9.grew hS ht)
            | (exact fun f W W' hS _ ht => S9.app hS ht)
            | trivial
        simp only [List.take_succ_cons, List.take_zero, List.drop_succ_cons, List.drop_zero]
        apply ag.walk_val
        · rfl
        · intro W1 hS hE
          clear hS hE
          all_goals unfold ag.does
          all_goals go_simp
          all_goals first | done | exact ⟨rfl, rfl⟩ | rfl | (exact ⟨by go_num, rfl⟩) | (simp; done) | trace_state
        simp only [Act.put, List.setIfInBounds_toArray, List.set_cons_zero, List.set_cons_succ]
        apply ag.walk_val
        · rfl
        · intro W1 hS hE
          obtain ⟨p1, p3⟩ := HFA.out W1 hS
          have z := p3.cell 7
          have zl := p3.lt
          (simp only [List.getElem?_cons_zero, List.getElem?_cons_succ] at z)
          clear hS hE
          all_goals unfold ag.does
          all_goals go_simp
          all_goals first | done | exact ⟨rfl, rfl⟩ | rfl | (exact ⟨by go_num, rfl⟩) | (simp; done) | trace_state
        simp only [Act.put, List.setIfInBounds_toArray, List.set_cons_zero, List.set_cons_succ]
        apply ag.walk_val
        · rfl
        · intro W1 hS hE
          clear hS hE
          all_goals unfold ag.does
          all_goals go_simp
          all_goals first | done | exact ⟨rfl, rfl⟩ | rfl | (exact ⟨by go_num, rfl⟩) | (simp; done) | trace_state
        simp only [Act.put, List.setIfInBounds_toArray, List.set_cons_zero, List.set_cons_succ]
        apply ag.walk_val
        · rfl
        · intro W1 hS hE
          obtain ⟨p1, p3⟩ := HFA.out W1 hS
          have z := p1.cell 7
          have zl := p1.lt
          (simp only [List.getElem?_cons_zero, List.getElem?_cons_succ] at z)
          clear hS hE
          all_goals unfold ag.does
          all_goals go_simp
          all_goals first | done | exact ⟨rfl, rfl⟩ | rfl | (exact ⟨by go_num, rfl⟩) | (simp; done) | trace_state
        simp only [Act.put, List.setIfInBounds_toArray, List.set_cons_zero, List.set_cons_succ]
        apply ag.walk_val
        · rfl
        · intro W1 hS hE
          clear hS hE
          all_goals unfold ag.does
          all_goals go_simp
          all_goals first | done | exact ⟨rfl, rfl⟩ | rfl | (exact ⟨by go_num, rfl⟩) | (simp; done) | trace_state
        simp only [Act.put, List.setIfInBounds_toArray, List.set_cons_zero, List.set_cons_succ]
        apply ag.walk_val
        · rfl
        · intro W1 hS hE
          clear hS hE
          all_goals unfold ag.does
          all_goals go_simp
          all_goals first | done | exact ⟨rfl, rfl⟩ | rfl | (exact ⟨by go_num, rfl⟩) | (simp; done) | trace_state
        simp only [Act.put, List.setIfInBounds_toArray, List.set_cons_zero, List.set_cons_succ]
        apply ag.walk_val
        · rfl
        · intro W1 hS hE
          obtain ⟨gq, ge, gl, c0, c1, c2, c3, c4, c5, c6, c7⟩ := HPA.out W1 (HSW.out W1 hS)
          (simp only [Option.some.injEq, Addr.mk.injEq, and_true] at ge)
          subst ge
          clear hS hE
          all_goals unfold ag.does
          all_goals go_simp
          all_goals first | done | exact ⟨rfl, rfl⟩ | rfl | (exact ⟨by go_num, rfl⟩) | (simp; done) | trace_state
        simp only [Act.put, List.setIfInBounds_toArray, List.set_cons_zero, List.set_cons_succ]
        refine ag.walk_sat (by rfl) (fun W1 hS hE => ?_) (fun y7 => ?_)
        · have hc := HC1.out W1 (HSW.out W1 hS)
          have hsz := hS.gr.size
          clear hE
          all_goals unfold ag.does
          all_goals go_simp
          all_goals first | done | (exact hc.mono (fun e w' h => by obtain ⟨s, h1, h2, h3⟩ := h; exact ⟨s.val, h1, V7.mk rfl (h2.mono (Nat.le_refl _) (fun b _ hb => Nat.le_trans hsz hb)), h3, ag.News.none (fun _ _ => trivial) _ _⟩))
        simp only [Act.put, List.setIfInBounds_toArray, List.set_cons_zero, List.set_cons_succ]
        refine ag.walk_sat (by rfl) (fun W1 hS hE => ?_) (fun y8 => ?_)
        · have h7 : V7 wr (d' + 1) x y7 W1 := hE.of 7 (by kernel_rfl)
          have hsz := hS.gr.size
          clear hE
          obtain ⟨s, rfl, hex⟩ := h7.out
          obtain ⟨ax, cs, vs, hlv, -⟩ := hex.parts
          obtain ⟨sk, sop, sv, stb, snm, slv⟩ := s
          (dsimp only at hlv)
          subst hlv
          have HEX := Lib.hid hex
          clear hex
          unfold Er.val
          dsimp only
          all_goals unfold ag.does
          all_goals go_simp
          all_goals first | done | (exact ⟨V8.mk (s := ⟨sk, sop, sv, stb, snm, .slice ax x.l.length cs⟩) rfl (Flds.new W1 TE _) hsz (HEX.out.later ((Below.refl _ _).alloc (Nat.le_refl _) _)), (Below.refl _ _).alloc (Nat.le_refl _) _, ag.News.none (fun _ _ => trivial) _ _⟩)
        simp only [Act.put, List.setIfInBounds_toArray, List.set_cons_zero, List.set_cons_succ]
        refine ag.walk_sat (by rfl) (fun W1 hS hE => ?_) (fun y9 => ?_)
        · have h8 : V8 wr (d' + 1) x y8 W1 := hE.of 8 (by kernel_rfl)
          have hsz := hS.gr.size
          clear hE
          obtain ⟨s, g, rfl, hF, hg, hex⟩ := h8.out
          have hNL := HNL.out
          have hone := cells_one hex
          exact does_append (.tmp 24) (.tmp 31) 34 (by rfl) B TE i0 _ 8 104 Try.underlying34 hi hz0 hz1 hz2 rfl (by decide) (.slice aL j cL) j (erCells ss) (by rfl) hS.row (.slice (some ⟨g, 0, none⟩) 1 1) 1 s.cells (by rfl) (Row.of_flds hF rfl 1) hone (by simp only [maxLen]; omega) (by omega) (by have := HBS.out; omega) (fun v' W' hap => ⟨V9.mk (s := s) (NewL.more (C := wr.heap.size) HBS.out (fun b hb => (HLB.out b hb).1) (fun i y t hi hy ht => (hNL.at_ i y t hi hy ht).grown hS.gr (fun b e hX => hX.2 e)) hNL.len HXJ.out hex hap), T9.mk hap.grown hap.old, ag.News.none (fun _ _ => trivial) _ _⟩)
          all_goals unfold ag.does
          all_goals go_simp
        simp only [Act.put, List.setIfInBounds_toArray, List.set_cons_zero, List.set_cons_succ]
        apply ag.walk_val
        · rfl
        · intro W1 hS hE
          clear hS hE
          all_goals unfold ag.does
          all_goals go_simp
          all_goals first | done | exact ⟨rfl, rfl⟩ | rfl | (exact ⟨by go_num, rfl⟩) | (simp; done) | trace_state
        simp only [Act.put, List.setIfInBounds_toArray, List.set_cons_zero, List.set_cons_succ]
        refine ag.walk_nil (fun w9 hS hF hP => ?_)
        clear hP
        have h9 := hF.of 9
        simp only [ag.lookE, Nat.reduceEqDiff, if_false, if_true] at h9
        obtain ⟨s, hn9⟩ := V9.out h9
        obtain ⟨a9, c9, rfl⟩ := hn9.form
        have HN9 := Lib.hid hn9
        have HS9 := Lib.hid hS
        obtain ⟨p1, p3⟩ := HFA.out w9 hS
        have HP3 := Lib.hid p3
        have HP1 := Lib.hid p1
        have HP2 : Hid (Flds w9 g2 TE zL) := Lib.hid (HF2.out.grown hS.gr (fun e => by have := (HLB.out _ e.symm).2; have := HG.out; omega))
        have z := p3.cell 7
        have zf := p3.frozen 7
        have zl := p3.lt
        simp only [List.getElem?_cons_zero, List.getElem?_cons_succ] at z
        clear hF hS hn9 p1 p3
        go_wp2_with fail
        go_roundw
        case rel =>
          have hgs := grown_setCell w9 ⟨g3, 7, none⟩ (.slice a9 (j + 1) c9)
          exact ⟨j + 1, _, ss ++ [s], by go_num, by omega, Lib.hid (HP1.out.other _ _ (by show w.heap.size ≠ g3; have := HG.out; omega)), Lib.hid (HP2.out.other _ _ (by show g2 ≠ g3; have := HG.out; omega)), Lib.hid (HP3.out.set 7 _), Lib.hid (HN9.out.grown hgs (fun b e => by simp only [Option.some.injEq] at e; have := HG.out; omega)), Lib.hid ((HSW.out w9 HS9.out).setCell (by show w.heap.size ≤ g3; have := HG.out; omega) _), Lib.hid (by rw [World.size_setCell]; exact Nat.le_trans HBS.out HS9.out.gr.size)⟩
        case measure => simp [intOf]; omega
      · have dj : ¬ (j : Int) < (n : Int) := by omega
        have hjn' : j = n := by omega
        subst hjn'
        have q30 := HF3.out.cell 0; have q31 := HF3.out.cell 1; have q32 := HF3.out.cell 2; have q33 := HF3.out.cell 3; have q34 := HF3.out.cell 4; have q35 := HF3.out.cell 5; have q36 := HF3.out.cell 6; have q37 := HF3.out.cell 7
        have l3 := HF3.out.lt
        have f2' := HF2.out
        rw [hzL] at f2'
        have k20 := f2'.cell 0; have k21 := f2'.cell 1; have k22 := f2'.cell 2; have k23 := f2'.cell 3; have k24 := f2'.cell 4; have k25 := f2'.cell 5; have k26 := f2'.cell 6; have k27 := f2'.cell 7
        have z20 := f2'.frozen 0; have z21 := f2'.frozen 1; have z22 := f2'.frozen 2; have z23 := f2'.frozen 3; have z24 := f2'.frozen 4; have z25 := f2'.frozen 5; have z26 := f2'.frozen 6; have z27 := f2'.frozen 7
        have l2 := f2'.lt
        simp only [List.getElem?_cons_zero, List.getElem?_cons_succ] at q30 q31 q32 q33 q34 q35 q36 q37 k20 k21 k22 k23 k24 k25 k26 k27
        have hfs := (((((((f2'.set 0 (.int .i64 rk)).set 1 (.int .i64 rop)).set 2 (.int .i64 rv.k)).set 3 (.int .i64 rv.n)).set 4 (.string rv.s)).set 5 (.string rtb)).set 6 (.string rnm)).set 7 (.slice aL j cL)
        have hgw : wr.grownBy ((((((((wr.setCell ⟨g2, 0, none⟩ (.int .i64 rk)).setCell ⟨g2, 1, none⟩ (.int .i64 rop)).setCell ⟨g2, 2, none⟩ (.int .i64 rv.k)).setCell ⟨g2, 3, none⟩ (.int .i64 rv.n)).setCell ⟨g2, 4, none⟩ (.string rv.s)).setCell ⟨g2, 5, none⟩ (.string rtb)).setCell ⟨g2, 6, none⟩ (.string rnm)).setCell ⟨g2, 7, none⟩ (.slice aL j cL)) (some g2) := (grown_two (grown_two (grown_two (grown_two (grown_two (grown_two (grown_two (grown_setCell _ ⟨g2, 0, none⟩ _) (grown_setCell _ ⟨g2, 1, none⟩ _)) (grown_setCell _ ⟨g2, 2, none⟩ _)) (grown_setCell _ ⟨g2, 3, none⟩ _)) (grown_setCell _ ⟨g2, 4, none⟩ _)) (grown_setCell _ ⟨g2, 5, none⟩ _)) (grown_setCell _ ⟨g2, 6, none⟩ _)) (grown_setCell _ ⟨g2, 7, none⟩ _))
        have HFS := Lib.hid hfs
        have HGW := Lib.hid hgw
        clear f2' hfs hgw
        go_wp2_with fail
        have hfs := HFS.out
        have hgw := HGW.out
        clear q30 q31 q32 q33 q34 q35 q36 q37 k20 k21 k22 k23 k24 k25 k26 k27 z20 z21 z22 z23 z24 z25 z26 z27 HFS HGW
        generalize ((((((((wr.setCell ⟨g2, 0, none⟩ (.int .i64 rk)).setCell ⟨g2, 1, none⟩ (.int .i64 rop)).setCell ⟨g2, 2, none⟩ (.int .i64 rv.k)).setCell ⟨g2, 3, none⟩ (.int .i64 rv.n)).setCell ⟨g2, 4, none⟩ (.string rv.s)).setCell ⟨g2, 5, none⟩ (.string rtb)).setCell ⟨g2, 6, none⟩ (.string rnm)).setCell ⟨g2, 7, none⟩ (.slice aL j cL)) = WF at *
        have c0 := hfs.cell 0; have c1 := hfs.cell 1; have c2 := hfs.cell 2; have c3 := hfs.cell 3; have c4 := hfs.cell 4; have c5 := hfs.cell 5; have c6 := hfs.cell 6; have c7 := hfs.cell 7
        simp at c0 c1 c2 c3 c4 c5 c6 c7
        have hNL := HNL.out.grown hgw (fun b e => by simp only [Option.some.injEq] at e; have := HG.out; omega)
        have hbF : Below w.heap.size w WF := HB.out.grown hgw HB.out.size (fun b e => by simp only [Option.some.injEq] at e; have := HG.out; omega)
        have hB3 := HG.out.1
        have hEN := HN.out
        refine bodyPost_ret (v := Er.val ⟨rk, rop, rv, rtb, rnm, .slice aL j cL⟩) (by simp [results, Try.results8, go_sem, c0, c1, c2, c3, c4, c5, c6, c7, Er.val]) rfl ⟨_, rfl, ⟨HFF.out.1, HFF.out.2.1, HFF.out.2.2.1, HFF.out.2.2.2.1, HFF.out.2.2.2.2, fun b hb => by have := (hNL.row.lt b hb).1; omega, ss, ?_, ?_, ?_⟩, hbF⟩
        · rw [hNL.len, hEN]
        · rw [hEN]; exact owns_base hNL.row (fun g hg => Nat.zero_le _)
        · intro i x s hx hs
          have hil := (List.getElem?_eq_some_iff.1 hx).1
          exact (hNL.at_ i x s (by omega) hx hs).mono (Nat.le_refl _) (fun b _ hb => by have := hb.1; omega)
end Go.Proofs.Ytjnlimahcodomaa.ex
