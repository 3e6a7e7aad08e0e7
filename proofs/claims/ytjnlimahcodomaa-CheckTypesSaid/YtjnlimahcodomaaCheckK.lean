/- Copies of expressions; walked. -/
import Derived.Test.YtjnlimahcodomaaCheckD
namespace Go.Proofs.Ytjnlimahcodomaa.ck
set_option linter.unusedVariables false
open Go.RowKit
open val (V null veq6)
open ex (Ex Er TE TQ ExAt of_fe NewL info_of infoE part_cells erCells cells_one exat_fields)
/-- what a copy of an expression gives -/
def CopyPost (W : World) (d : Nat) (x : Ex) (en : Ending) (w' : World) : Prop := ∃ s : Er, en = .returned s.val ∧ ExAt TE (fun b => W.heap.size ≤ b) d w' x s ∧ Below W.heap.size W w'
set_option maxRecDepth 100000 in
set_option maxHeartbeats 4000000 in
theorem clones_any (d : Nat) (X : Nat → Prop) (IH : ∀ (x : Ex) (u : Er) (W : World), x.slim → ExAt TE X d W x u → Calls Try.prog 28 #[u.val] W (CopyPost W d x))
    (l : List Ex) (us : List Er) (av : Option Addr) (n cv : Nat) (hn : l.length = n) (hul : us.length = n) (hn1 : n ≤ 1000) (hsl : ∀ x ∈ l, x.slim) (w : World) (hrow : w.ownsRow 0 TE 8 (.slice av n cv) n (erCells us)) (hch : ∀ (i : Nat) x u, l[i]? = some x → us[i]? = some u → ExAt TE X d w x u) :
    Calls Try.prog 46 #[.slice av n cv] w fun en w' => ∃ (a : Option Addr) (c : Nat) (ss : List Er), en = .returned (.slice a n c) ∧ NewL TE w.heap.size d l n (.slice a n c) ss w' ∧ Below w.heap.size w w' := by
  have HIH := Lib.hid IH
  have HN := Lib.hid hn; have HUL := Lib.hid hul; have HR := Lib.hid hrow; have HC := Lib.hid hch; have HSL := Lib.hid hsl
  have hm0 : (0 : Int) ≤ (n : Int) := by omega
  have hm1 : (n : Int) ≤ 1000 := by omega
  obtain ⟨i0, hi, hz0, hz1, hz2⟩ := info_of infoE
  clear hn hul hrow hch hsl IH
  by_cases h0 : n = 0
  · subst h0
    go_enter Try.func46, Try.ntmps46
    go_wp2_with fail
    go_ret
    exact ⟨none, 0, [], rfl, NewL.no _ _ _ _ _, Below.refl _ _⟩
  · have bn : ((n : Int) == 0) = false := by simp; omega
    go_enter Try.func46, Try.ntmps46
    go_upto_region 4 with (at_make; refine wpList_make_own _ rfl _ _ 34 rfl w.heap.size TE i0 _ 8 Try.underlying34 hi hz0 hz1 .i64 .i64 _ n rfl rfl rfl (by rw [hz2]; omega) (by unfold maxLen; omega) (Nat.le_refl _) ?_; intro w2 hown0 hgrow0)
    have HB2 := Lib.hid (below_grown hgrow0)
    obtain ⟨a0, c0, ea0⟩ := owns_shape hown0
    have HL2 : Hid (NewL TE w.heap.size d l 0 _ [] w2) := Lib.hid ⟨⟨_, _, rfl⟩, rfl, hown0, fun i x s h => by omega⟩
    clear hown0 hgrow0 ea0
    go_wp2_with fail
    go_loopw [3, 14] (fun sv i wr => ∃ (j : Nat) (aO : Option Addr) (cO : Nat) (ss : List Er), i = .int .i64 (j : Int) ∧ j ≤ n ∧ sv = .slice aO j cO ∧ Hid (NewL TE w.heap.size d l j (.slice aO j cO) ss wr) ∧ Hid (Below w.heap.size w wr)) (fun _ i _ => n - (intOf i).toNat)
    case atStart => exact ⟨0, _, _, [], rfl, Nat.zero_le _, rfl, HL2, HB2⟩
    case round =>
      obtain ⟨j, aO, cO, ss, rfl, hj, rfl, HL, HB⟩ := hrel
      have j0 : (0 : Int) ≤ (j : Int) := by omega
      by_cases hjn : j < n
      · have dj : (j : Int) < (n : Int) := by omega
        have hja : j < l.length := by have := HN.out; omega
        have hju : j < us.length := by have := HUL.out; omega
        obtain ⟨x, hx⟩ : ∃ x, l[j]? = some x := ⟨_, List.getElem?_eq_getElem hja⟩
        obtain ⟨u, hu⟩ : ∃ u, us[j]? = some u := ⟨_, List.getElem?_eq_getElem hju⟩
        have hxs := HSL.out x (List.mem_of_getElem? hx)
        have hxu := (HC.out j x u hx hu).later HB.out
        obtain ⟨ga, rfl, hga, c0, c1, c2, c3, c4, c5, c6, c7⟩ := part_cells (owns_below HR.out HB.out) hjn hu
        obtain ⟨d', rfl⟩ := hxu.pos
        obtain ⟨au, cu, us', hul', -⟩ := hxu.parts
        obtain ⟨uk, uop, uv, utb, unm, ulv⟩ := u
        dsimp only at hul' c0 c1 c2 c3 c4 c5 c6 c7
        subst hul'
        have hb4 : Below wr.heap.size wr (wr.alloc (.cells #[.int .i64 uk, .int .i64 uop, .int .i64 uv.k, .int .i64 uv.n, .string uv.s, .string utb, .string unm, .slice au x.l.length cu] TE)) := (Below.refl _ _).alloc (Nat.le_refl _) _
        have hcl := HIH.out x ⟨uk, uop, uv, utb, unm, .slice au x.l.length cu⟩ _ hxs (hxu.later hb4)
        unfold Er.val CopyPost at hcl
        dsimp only at hcl
        have HCL := Lib.hid hcl
        have HB4 := Lib.hid hb4
        have HXJ := Lib.hid hx
        have HLB : Hid (∀ b, (Value.slice aO j cO).ownBlock = some b → b < wr.heap.size ∧ w.heap.size ≤ b) := Lib.hid (fun b hb => ⟨(HL.out.row.lt b hb).2, (HL.out.row.lt b hb).1⟩)
        have h63 : j + 1 ≤ maxLen := by unfold maxLen; omega
        have h64 : (j + 1) * 104 ≤ 140737488355328 := by omega
        clear hx hu hxu hja hju hcl hb4 hxs
        go_wp2_with (first
          | (go_at_call 28; refine HCL.out.mono ?_; rintro en w5 ⟨s, rfl, hex, hb5⟩; have HEX := Lib.hid hex; have HB5 := Lib.hid (HB4.out.trans (hb5.mono HB4.out.size)); obtain ⟨ax, cs, vs, hlv, -⟩ := hex.parts; obtain ⟨sk, sop, sv, stb, snm, slv⟩ := s; (dsimp only at hlv); subst hlv; (unfold Er.val); dsimp only; clear hex hb5)
          | (at_builtin; refine wpList_append_row _ rfl (.tmp 18) (.tmp 21) 34 (by rfl) w.heap.size TE i0 _ 8 104 Try.underlying34 hi hz0 hz1 hz2 rfl (by decide) (.slice aO j cO) j (erCells ss) (by rfl) (owns_below HL.out.row (HB5.out.trans (((Below.refl _ _).alloc (Nat.le_refl _) (.cells #[.int .i64 sk, .int .i64 sop, .int .i64 sv.k, .int .i64 sv.n, .string sv.s, .string stb, .string snm, .slice ax x.l.length cs] TE)).mono HB5.out.size))) (.slice (some ⟨w5.heap.size, 0, none⟩) 1 1) 1 [.int .i64 sk, .int .i64 sop, .int .i64 sv.k, .int .i64 sv.n, .string sv.s, .string stb, .string snm, .slice ax x.l.length cs] (by rfl) (Row.of_flds (Flds.new w5 TE _) rfl 1) (cells_one HEX.out) h63 h64 (by rw [World.size_alloc]; have h1 := HB.out.size; have h2 := HB5.out.size; omega) ?_; intro a9 c9 w9 hap; have HAP := Lib.hid hap; clear hap))
        go_roundw
        case rel =>
          have hap := HAP.out
          have hb6 : Below w5.heap.size w5 (w5.alloc (.cells #[.int .i64 sk, .int .i64 sop, .int .i64 sv.k, .int .i64 sv.n, .string sv.s, .string stb, .string snm, .slice ax x.l.length cs] TE)) := (Below.refl _ _).alloc (Nat.le_refl _) _
          have hb56 := HB5.out.trans (hb6.mono HB5.out.size)
          have hnl := NewL.more (T := TE) (B := w.heap.size) (d := d' + 1) (l := l) (j := j) (C := wr.heap.size) (s := ⟨sk, sop, sv, stb, snm, .slice ax x.l.length cs⟩) HB.out.size (fun b hb => (HLB.out b hb).1) (fun i y t hij hy ht => (HL.out.at_ i y t hij hy ht).later hb56) HL.out.len HXJ.out ((HEX.out.later hb6).mono (Nat.le_refl _) (fun b _ hb => by have := HB4.out.size; omega)) hap
          exact ⟨j + 1, a9, c9, _, by go_num, by omega, rfl, Lib.hid hnl, Lib.hid ((HB.out.trans (hb56.mono HB.out.size)).grown hap.grown (Nat.le_trans HB.out.size hb56.size) (fun b e => (HLB.out b e).2))⟩
        case measure => simp [intOf]; omega
      · have dj : ¬ (j : Int) < (n : Int) := by omega
        obtain rfl : j = n := by omega
        go_wp2_with fail
        go_ret
        first | exact ⟨_, _, _, rfl, HL.out, HB.out⟩ | exact ⟨_, _, rfl, ⟨_, HL.out⟩, HB.out⟩
set_option maxRecDepth 100000 in
set_option maxHeartbeats 4000000 in
theorem clone_any : ∀ (d : Nat), d ≤ 1000 → ∀ (X : Nat → Prop) (e : Ex) (r : Er) (w : World), e.slim → ExAt TE X d w e r → Calls Try.prog 28 #[r.val] w (CopyPost w d e)
  | 0, _, _, _, _, _, _, h => h.elim
  | d + 1, hd, X, e, r, w, hsl, h => by
    have IH := fun (x : Ex) (u : Er) (W : World) (hs : x.slim) (h : ExAt TE X d W x u) => clone_any d (by omega) X x u W hs h
    obtain ⟨hsl1, hsl2⟩ := ex.Ex.slim_parts hsl
    obtain ⟨av, cv, us, hlv, hul, hrow, hch⟩ := h.parts
    have HFF := Lib.hid (exat_fields h)
    obtain ⟨n, hn⟩ : ∃ n, e.l.length = n := ⟨_, rfl⟩
    rw [hn] at hlv hul hrow hsl1
    obtain ⟨rk, rop, rv, rtb, rnm, rlv⟩ := r
    dsimp only at hlv HFF
    subst hlv
    unfold Er.val
    dsimp only
    obtain ⟨W1, hW1⟩ : ∃ W1, (w.alloc (.cells #[.int .i64 rk, .int .i64 rop, .int .i64 rv.k, .int .i64 rv.n, .string rv.s, .string rtb, .string rnm, .slice av n cv] TE)).alloc (.cells #[.int .i64 0, .int .i64 0, .int .i64 0, .int .i64 0, .string (ByteArray.mk #[]), .string (ByteArray.mk #[]), .string (ByteArray.mk #[]), .slice none 0 0] TE) = W1 := ⟨_, rfl⟩
    obtain ⟨g2, hg2⟩ : ∃ g2, w.heap.size + 1 = g2 := ⟨_, rfl⟩
    have f1 : Flds W1 w.heap.size TE [.int .i64 rk, .int .i64 rop, .int .i64 rv.k, .int .i64 rv.n, .string rv.s, .string rtb, .string rnm, .slice av n cv] := by rw [← hW1]; exact (Flds.new w TE _).alloc _
    have f2 : Flds W1 g2 TE [.int .i64 0, .int .i64 0, .int .i64 0, .int .i64 0, .string (ByteArray.mk #[]), .string (ByteArray.mk #[]), .string (ByteArray.mk #[]), .slice none 0 0] := by
      rw [← hW1, ← hg2]
      have := Flds.new (w.alloc (.cells #[.int .i64 rk, .int .i64 rop, .int .i64 rv.k, .int .i64 rv.n, .string rv.s, .string rtb, .string rnm, .slice av n cv] TE)) TE [.int .i64 0, .int .i64 0, .int .i64 0, .int .i64 0, .string (ByteArray.mk #[]), .string (ByteArray.mk #[]), .string (ByteArray.mk #[]), .slice none 0 0]
      rw [World.size_alloc] at this; exact this
    have hb1 : Below w.heap.size w W1 := by rw [← hW1]; exact ((Below.refl _ _).alloc (Nat.le_refl _) _).alloc (by simp) _
    have HCL := Lib.hid (clones_any d X IH e.l us av n cv hn hul hsl1 hsl2 W1 (owns_below hrow hb1) (fun i x u hx hu => (hch i x u hx hu).later hb1))
    obtain ⟨e0, e1, e2, e3, e4, e5, e6, e7, l5⟩ := of_fe f1
    have HW1 := Lib.hid hW1; have HG2 := Lib.hid hg2; have HB1 := Lib.hid hb1; have HF1 := Lib.hid f1; have HF2 := Lib.hid f2
    have HN := Lib.hid hn
    clear hW1 hg2 hb1 f1 f2 hn hul hrow hch hsl hsl2 h IH
    go_enter Try.func28, Try.ntmps28
    go_upto_region 1 with fail
    rw [HW1.out, HG2.out]
    go_upto_region 2 with (go_at_call 46; refine HCL.out.mono ?_; rintro en w5 hpp; obtain ⟨aL, cL, ss, rfl, hnl, hb5⟩ : ∃ (aL : Option Addr) (cL : Nat) (ss : List Er), en = .returned (.slice aL n cL) ∧ NewL TE W1.heap.size d e.l n (.slice aL n cL) ss w5 ∧ Below W1.heap.size W1 w5 := (by first | exact hpp | (obtain ⟨a, c, h1, ⟨ss, h2⟩, h3⟩ := hpp; exact ⟨a, c, ss, h1, h2, h3⟩)); have HNL := Lib.hid hnl; have HB5 := Lib.hid hb5; have hf15 := HF1.out.later hb5; obtain ⟨y0, y1, y2, y3, y4, y5, y6, y7, l6⟩ := of_fe hf15; have z7 := hf15.frozen 7; have HF15 := Lib.hid hf15; clear hnl hb5 hf15 hpp)
    have hf16 := HF15.out.set 7 (.slice aL n cL)
    have hg7 := grown_setCell w5 ⟨w.heap.size, 7, none⟩ (.slice aL n cL)
    have hf26 : Flds (w5.setCell ⟨w.heap.size, 7, none⟩ (.slice aL n cL)) g2 TE [.int .i64 0, .int .i64 0, .int .i64 0, .int .i64 0, .string (ByteArray.mk #[]), .string (ByteArray.mk #[]), .string (ByteArray.mk #[]), .slice none 0 0] := (HF2.out.later HB5.out).other _ _ (by show g2 ≠ w.heap.size; have := HG2.out; omega)
    have hnl7 := HNL.out.grown hg7 (fun b e => by simp only [Option.some.injEq] at e; have := HF1.out.lt; omega)
    have hb7 : Below w.heap.size w (w5.setCell ⟨w.heap.size, 7, none⟩ (.slice aL n cL)) := (HB1.out.trans (HB5.out.mono HB1.out.size)).setCell (Nat.le_refl _) _
    clear y0 y1 y2 y3 y4 y5 y6 y7 l6 z7 hg7 e0 e1 e2 e3 e4 e5 e6 e7 l5
    generalize w5.setCell ⟨w.heap.size, 7, none⟩ (.slice aL n cL) = W7 at *
    simp only [List.set_cons_succ, List.set_cons_zero] at hf16
    obtain ⟨y0, y1, y2, y3, y4, y5, y6, y7, l6⟩ := of_fe hf16
    obtain ⟨x0, x1, x2, x3, x4, x5, x6, x7, l7⟩ := of_fe hf26
    have z0 := hf26.frozen 0; have z1 := hf26.frozen 1; have z2 := hf26.frozen 2; have z3 := hf26.frozen 3; have z4 := hf26.frozen 4; have z5 := hf26.frozen 5; have z6 := hf26.frozen 6; have z7 := hf26.frozen 7
    have hfs := (((((((hf26.set 0 (.int .i64 rk)).set 1 (.int .i64 rop)).set 2 (.int .i64 rv.k)).set 3 (.int .i64 rv.n)).set 4 (.string rv.s)).set 5 (.string rtb)).set 6 (.string rnm)).set 7 (.slice aL n cL)
    have hgw : W7.grownBy ((((((((W7.setCell ⟨g2, 0, none⟩ (.int .i64 rk)).setCell ⟨g2, 1, none⟩ (.int .i64 rop)).setCell ⟨g2, 2, none⟩ (.int .i64 rv.k)).setCell ⟨g2, 3, none⟩ (.int .i64 rv.n)).setCell ⟨g2, 4, none⟩ (.string rv.s)).setCell ⟨g2, 5, none⟩ (.string rtb)).setCell ⟨g2, 6, none⟩ (.string rnm)).setCell ⟨g2, 7, none⟩ (.slice aL n cL)) (some g2) := (grown_two (grown_two (grown_two (grown_two (grown_two (grown_two (grown_two (grown_setCell _ ⟨g2, 0, none⟩ _) (grown_setCell _ ⟨g2, 1, none⟩ _)) (grown_setCell _ ⟨g2, 2, none⟩ _)) (grown_setCell _ ⟨g2, 3, none⟩ _)) (grown_setCell _ ⟨g2, 4, none⟩ _)) (grown_setCell _ ⟨g2, 5, none⟩ _)) (grown_setCell _ ⟨g2, 6, none⟩ _)) (grown_setCell _ ⟨g2, 7, none⟩ _))
    have HFS := Lib.hid hfs; have HGW := Lib.hid hgw; have HNL7 := Lib.hid hnl7; have HB7 := Lib.hid hb7
    clear hfs hgw hf16 hf26 hnl7 hb7
    go_wp2_with fail
    have hfs := HFS.out
    have hgw := HGW.out
    clear y0 y1 y2 y3 y4 y5 y6 y7 l6 x0 x1 x2 x3 x4 x5 x6 x7 l7 z0 z1 z2 z3 z4 z5 z6 z7 HFS HGW
    generalize ((((((((W7.setCell ⟨g2, 0, none⟩ (.int .i64 rk)).setCell ⟨g2, 1, none⟩ (.int .i64 rop)).setCell ⟨g2, 2, none⟩ (.int .i64 rv.k)).setCell ⟨g2, 3, none⟩ (.int .i64 rv.n)).setCell ⟨g2, 4, none⟩ (.string rv.s)).setCell ⟨g2, 5, none⟩ (.string rtb)).setCell ⟨g2, 6, none⟩ (.string rnm)).setCell ⟨g2, 7, none⟩ (.slice aL n cL)) = WF at *
    have c0 := hfs.cell 0; have c1 := hfs.cell 1; have c2 := hfs.cell 2; have c3 := hfs.cell 3; have c4 := hfs.cell 4; have c5 := hfs.cell 5; have c6 := hfs.cell 6; have c7 := hfs.cell 7
    simp at c0 c1 c2 c3 c4 c5 c6 c7
    have hz := HG2.out
    have hz1 := HB1.out.size
    have hl2 := HF2.out.lt
    have hNL := HNL7.out.grown hgw (fun b e => by simp only [Option.some.injEq] at e; omega)
    have hbF : Below w.heap.size w WF := HB7.out.grown hgw HB7.out.size (fun b e => by simp only [Option.some.injEq] at e; omega)
    have hEN := HN.out
    refine bodyPost_ret (v := Er.val ⟨rk, rop, rv, rtb, rnm, .slice aL n cL⟩) (by simp [results, Try.results28, go_sem, c0, c1, c2, c3, c4, c5, c6, c7, Er.val]) rfl ⟨_, rfl, ⟨HFF.out.1, HFF.out.2.1, HFF.out.2.2.1, HFF.out.2.2.2.1, HFF.out.2.2.2.2, fun b hb => by have := (hNL.row.lt b hb).1; omega, ss, ?_, ?_, ?_⟩, hbF⟩
    · rw [hNL.len, hEN]
    · rw [hEN]; exact owns_base hNL.row (fun g hg => Nat.zero_le _)
    · intro i x s hx hs
      have hil := (List.getElem?_eq_some_iff.1 hx).1
      exact (hNL.at_ i x s (by omega) hx hs).mono (Nat.le_refl _) (fun b _ hb => by have := hb.1; omega)
end Go.Proofs.Ytjnlimahcodomaa.ck
