/- All parts of an expression, told one by one, while the loop's body lets a list grow: the list in a box, its row of records wherever it lies. Walked. -/
import Derived.Test.YtjnlimahcodomaaExprHJ
namespace Go.Proofs.Ytjnlimahcodomaa.ex
set_option linter.unusedVariables false
open Go.RowKit
open val (V null veq6)
/-- the block of the row that the box holds -/
def rowOf (g : Nat) (w : World) : Option Nat := (w.cell? ⟨g, 0, none⟩).bind Value.ownBlock
theorem rowOf_flds {g : Nat} {w : World} {T : TypeId} {v : Value} {l : List Value} (h : Flds w g T (v :: l)) : rowOf g w = v.ownBlock := by
  unfold rowOf
  rw [h.cell 0]; rfl
/-- what a loop's body keeps that lets a list grow: all cells but the box and the row in it; the row stays where it lies, or is a new one -/
structure OnlyL (g : Nat) (w w' : World) : Prop where
  os : w'.os = w.os
  tape : w'.tape = w.tape
  output : w'.output = w.output
  size : w.heap.size ≤ w'.heap.size
  cells : g < w.heap.size → ∀ k o, w.heap[k]? = some o → o.isCells = true → k ≠ g → rowOf g w ≠ some k → w'.heap[k]? = some o
  held : g < w.heap.size → rowOf g w' = rowOf g w ∨ ∀ k, rowOf g w' = some k → w.heap.size ≤ k
  wf : g < w.heap.size → (∀ k, rowOf g w = some k → k < w.heap.size) → ∀ k, rowOf g w' = some k → k < w'.heap.size
theorem OnlyL.trans {g : Nat} {a b c : World} (h : OnlyL g a b) (h' : OnlyL g b c) : OnlyL g a c := by
  refine ⟨h'.os.trans h.os, h'.tape.trans h.tape, h'.output.trans h.output, Nat.le_trans h.size h'.size, fun hg k o ho hc hk hr => ?_, fun hg => ?_, fun hg hw => h'.wf (Nat.lt_of_lt_of_le hg h.size) (h.wf hg hw)⟩
  · have hl := (Array.getElem?_eq_some_iff.1 ho).1
    refine h'.cells (Nat.lt_of_lt_of_le hg h.size) k o (h.cells hg k o ho hc hk hr) hc hk (fun e => ?_)
    rcases h.held hg with h1 | h1
    · rw [h1] at e; exact hr e
    · have := h1 k e; omega
  · rcases h'.held (Nat.lt_of_lt_of_le hg h.size) with h1 | h1
    · rw [h1]; exact h.held hg
    · exact .inr (fun k e => Nat.le_trans h.size (h1 k e))
theorem rowOf_below {g : Nat} {a b : World} (hg : g < a.heap.size) (h : Below a.heap.size a b) : rowOf g b = rowOf g a := by
  unfold rowOf
  rw [h.cell (p := ⟨g, 0, none⟩) hg]
theorem OnlyL.of_below {g : Nat} {a b : World} (h : Below a.heap.size a b) : OnlyL g a b :=
  ⟨h.os, h.tape, h.output, h.size, fun _ k o ho _ _ _ => (h.block k (Array.getElem?_eq_some_iff.1 ho).1).trans ho, fun hg => .inl (rowOf_below hg h), fun hg hw k e => Nat.lt_of_lt_of_le (hw k (rowOf_below hg h ▸ e)) h.size⟩
theorem OnlyL.put {g : Nat} (W : World) (l : Nat) (o o' : Go.Obj) (hl : g < l) (h : W.heap[l]? = some o) (hc : o.isCells = false) : OnlyL g W (W.putObj l o') := by
  have hr : rowOf g (W.putObj l o') = rowOf g W := by
    unfold rowOf
    rw [World.cell?_of_block (w := W) (World.putObj_heap_other (by show g ≠ l; omega))]
  exact ⟨rfl, rfl, rfl, by simp, fun _ k x hk hx _ _ => by
    by_cases e : l = k
    · subst e; rw [h] at hk; cases hk; rw [hc] at hx; cases hx
    · exact (World.putObj_heap_other (fun e2 => e e2.symm)).trans hk, fun _ => .inl hr, fun _ hw k e => by rw [hr] at e; simpa using hw k e⟩
theorem owns_onlyL {g : Nat} {w w' : World} {B : Nat} {e : TypeId} {k : Nat} {v : Value} {n : Nat} {xs : List Value} (hg0 : g < w.heap.size) (h : w.ownsRow B e k v n xs) (ho : OnlyL g w w') (hn : ∀ b, v.ownBlock = some b → b ≠ g ∧ rowOf g w ≠ some b) : w'.ownsRow B e k v n xs := by
  obtain ⟨hl, h0 | ⟨b, cap, cur, rfl, hB, hg, r⟩⟩ := h
  · exact ⟨hl, .inl h0⟩
  · exact ⟨hl, .inr ⟨b, cap, cur, rfl, hB, ho.cells hg0 b _ hg rfl (hn b rfl).1 (hn b rfl).2, r⟩⟩
theorem Flds.onlyL {g : Nat} {W W' : World} {b : Nat} {T : TypeId} {fs : List Value} (hg0 : g < W.heap.size) (h : Flds W b T fs) (ho : OnlyL g W W') (hn : b ≠ g) (hr : rowOf g W ≠ some b) : Flds W' b T fs := ho.cells hg0 b _ h rfl hn hr
theorem ExAt.onlyL {T : TypeId} {g : Nat} {X : Nat → Prop} {W W' : World} (hg0 : g < W.heap.size) (hX : ∀ b, X b → b ≠ g ∧ rowOf g W ≠ some b) (ho : OnlyL g W W') : ∀ {d : Nat} {e : Ex} {r : Er}, ExAt T X d W e r → ExAt T X d W' e r
  | 0, _, _, h => h.elim
  | d + 1, e, r, ⟨h1, h2, h3, h4, h5, h6, us, h7, h8, h9⟩ =>
    ⟨h1, h2, h3, h4, h5, h6, us, h7, owns_onlyL hg0 h8 ho (fun g hg => hX g (h6 g hg)), fun i x u hx hu => (h9 i x u hx hu).onlyL hg0 hX ho⟩
/-- the walk goes on, or it stopped -/
def VPostL (gL : Nat) (N k : Nat) (J Jx : Nat → World → Prop) (W : World) (en : Ending) (W' : World) : Prop := ∃ bb, en = .returned (.bool bb) ∧ ((bb = true ∧ J k W' ∧ OnlyL gL W W') ∨ (bb = false ∧ ∃ k', k' ≤ N ∧ Jx k' W'))
set_option maxRecDepth 100000 in
set_option maxHeartbeats 4000000 in
theorem visit_inL : ∀ (d : Nat), d ≤ 1000 → ∀ (d0 n l k0 S gL : Nat) (X : Nat → Prop) (ps : List Ex) (e : Ex) (r : Er) (w W : World) (J Jx : Nat → World → Prop), d ≤ d0 → ExAt TE X d w e r → (∀ b, X b → b ≠ gL) → (gL < w.heap.size ∧ rowOf gL w = none) → OnlyL gL w W → S ≤ W.heap.size → AbidesFrom S J →
    (∀ i x, e.parts[i]? = some x → ps[k0 + i]? = some x) → e.slim →
    (∀ k W1 xs, k < ps.length → J k W1 → PartA X d0 ps k W1 xs → YieldAt Fence.wide 0 Try.prog l xs W1 fun en W' =>
      (en = .returned (.bool true) ∧ J (k + 1) W' ∧ OnlyL gL W1 W') ∨ (en = .returned (.bool false) ∧ Jx (k + 1) W')) → J k0 W →
    CallsIn Fence.wide n Try.prog 45 #[r.val, .func (.yield l) #[] #[]] W (VPostL gL ps.length (k0 + e.parts.length) J Jx W)
  | 0, _, _, _, _, _, _, _, _, _, _, _, _, _, _, _, _, h, _, _, _, _, _, _, _, _, _ => h.elim
  | d + 1, hd, d0, n, l, k0, S, gL, X, ps, e, r, w, W, J, Jx, hd0, h, hXP, hP, hW, hS, hJ, hps, hslim, hY, hJ0 => by
    have IH := Lib.hid (fun (k1 : Nat) (e1 : Ex) (r1 : Er) (W1 : World) (h1 : ExAt TE X d w e1 r1) (hW1 : OnlyL gL w W1) (hS1 : S ≤ W1.heap.size) (hp1 : ∀ i x, e1.parts[i]? = some x → ps[k1 + i]? = some x) (hs1 : e1.slim) (hJ1 : J k1 W1) => callsIn_wide.1 (visit_inL d (by omega) d0 0 l k1 S gL X ps e1 r1 w W1 J Jx (by omega) h1 hXP hP hW1 hS1 hJ hp1 hs1 hY hJ1))
    obtain ⟨hsl1, hsl2⟩ := Ex.slim_parts hslim
    obtain ⟨av, cv, us, hlv, hul, hrow, hch⟩ := h.parts
    have HP0 : Hid (ps[k0]? = some e) := Lib.hid (by have := hps 0 e (by rw [e.parts_eq]; rfl); simpa using this)
    have HPK : Hid (∀ j x, e.l[j]? = some x → ∀ i y, x.parts[i]? = some y → ps[k0 + 1 + (partsL (e.l.take j)).length + i]? = some y) := Lib.hid (fun j x hx i y hy => by
      have h1 := partsL_at hx hy
      have := hps (1 + ((partsL (e.l.take j)).length + i)) y (by rw [e.parts_eq, Nat.add_comm 1, List.getElem?_cons_succ]; exact h1)
      rw [← this]; congr 1; omega)
    obtain ⟨N, hN⟩ : ∃ N, e.l.length = N := ⟨_, rfl⟩
    rw [hN] at hlv hul hrow hsl1
    have HN := Lib.hid hN; have HUL := Lib.hid hul; have HR := Lib.hid hrow; have HC := Lib.hid hch; have HSL := Lib.hid hsl2; have HW := Lib.hid hW
    have HX := Lib.hid hXP; have HPB := Lib.hid hP; have HJ := Lib.hid hJ; have HS := Lib.hid hS
    have HPE : Hid (k0 + e.parts.length = k0 + 1 + (partsL e.l).length) := Lib.hid (by rw [e.parts_eq, List.length_cons]; omega)
    have HXB : Hid (∀ b, (Value.slice av N cv).ownBlock = some b → X b) := Lib.hid (by rw [← hlv]; exact h.2.2.2.2.2.1)
    have hn0 : (0 : Int) ≤ (N : Int) := by omega
    have hn1 : (N : Int) ≤ 1000 := by omega
    obtain ⟨rk, rop, rv, rtb, rnm, rlv⟩ := r
    dsimp only at hlv
    subst hlv
    obtain ⟨W1, hW1⟩ : ∃ W1, W.alloc (.cells #[.int .i64 rk, .int .i64 rop, .int .i64 rv.k, .int .i64 rv.n, .string rv.s, .string rtb, .string rnm, .slice av N cv] TE) = W1 := ⟨_, rfl⟩
    have f1 : Flds W1 W.heap.size TE [.int .i64 rk, .int .i64 rop, .int .i64 rv.k, .int .i64 rv.n, .string rv.s, .string rtb, .string rnm, .slice av N cv] := by rw [← hW1]; exact Flds.new W TE _
    have hb1 : Below W.heap.size W W1 := by rw [← hW1]; exact (Below.refl _ _).alloc (Nat.le_refl _) _
    have hJ1 : J k0 W1 := hJ k0 W W1 none hJ0 (grown_of_below hb1) (fun r h => by cases h)
    have hgW : gL < W.heap.size := Nat.lt_of_lt_of_le hP.1 hW.size
    have hX1 : OnlyL gL w W1 := hW.trans (OnlyL.of_below hb1)
    have hA1 : ExAt TE X (d + 1) W1 e ⟨rk, rop, rv, rtb, rnm, .slice av N cv⟩ := h.onlyL hP.1 (fun b hb => ⟨hXP b hb, by rw [hP.2]; exact fun e => by cases e⟩) hX1
    have hk0 : k0 < ps.length := (List.getElem?_eq_some_iff.1 HP0.out).1
    have HYY := Lib.hid (hY k0 W1 _ hk0 hJ1 ⟨e, _, HP0.out, rfl, hA1.mono hd0 (fun b _ hb => hb)⟩)
    obtain ⟨fn, tmps, assign, body, hy, hR⟩ := HYY.out
    have HRD := Lib.hid (round_wide (m := n - 1) hR)
    have F1 := Lib.hid f1
    have HOX : Hid (OnlyL gL W W1) := Lib.hid (OnlyL.of_below hb1)
    have hrn : rowOf gL W1 ≠ some W.heap.size := fun e => by
      rw [rowOf_below hgW hb1] at e
      have := hW.wf hP.1 (fun k e => by rw [hP.2] at e; cases e) _ e
      omega
    have HRN := Lib.hid hrn
    have HGW1 : Hid (gL < W1.heap.size) := Lib.hid (Nat.lt_of_lt_of_le hgW hb1.size)
    have H1W := Lib.hid hW1; have HX1 := Lib.hid hX1
    clear hrn hgW hW1 f1 hb1 hJ1 hX1 hA1 HYY hR h hul hrow hch hsl2 hW hXP hP hJ hS hJ0 hY hps hslim hN
    unfold Er.val
    dsimp only
    refine callsIn_of_wp Try.func45 rfl trivial ?_ rfl
    simp only [Try.ntmps45, List.size_toArray, List.length_cons, List.length_nil, Nat.reduceAdd, Nat.reduceSub, Array.replicate_succ, Array.replicate_zero, List.push_toArray, List.append_toArray, List.nil_append, List.cons_append]
    unfold Er.val at hy
    dsimp only at hy
    gi_wp2_with fail
    rw [H1W.out, hy]
    have q7 := F1.out.cell 7
    have l7 := F1.out.lt
    simp only [List.getElem?_cons_zero, List.getElem?_cons_succ] at q7
    refine ⟨(fun h => (by cases h)), HRD.out.mono ?_⟩
    rintro en W3 hpp
    obtain ⟨bb, rfl, hbb⟩ := yield_bb hpp
    have HBB := Lib.hid hbb
    clear hbb hpp q7 l7 hy HRD
    cases bb with
    | false =>
      have hJx : Jx (k0 + 1) W3 := by
        rcases HBB.out with ⟨h1, -⟩ | ⟨-, h1⟩
        · cases h1
        · exact h1
      clear HBB
      gi_wp2
      go_ret
      exact ⟨false, rfl, .inr ⟨rfl, _, hk0, hJx⟩⟩
    | true =>
      obtain ⟨hJ3, hO3⟩ : J (k0 + 1) W3 ∧ OnlyL gL W1 W3 := by
        rcases HBB.out with ⟨-, h1, h2⟩ | ⟨h1, -⟩
        · exact ⟨h1, h2⟩
        · cases h1
      have HO3 := Lib.hid (HX1.out.trans hO3)
      have HOW := Lib.hid (HOX.out.trans hO3)
      have F3 := Lib.hid (Flds.onlyL HGW1.out F1.out hO3 (fun e => by have := HPB.out.1; have := HW.out.size; omega) HRN.out)
      have q7 := F3.out.cell 7
      have l7 := F3.out.lt
      simp only [List.getElem?_cons_zero, List.getElem?_cons_succ] at q7
      clear HBB hO3
      gi_wp2
      gi_loopw [14] (fun i wr => ∃ j : Nat, i = .int .i64 (j : Int) ∧ j ≤ N ∧ J (k0 + 1 + (partsL (e.l.take j)).length) wr ∧ Hid (OnlyL gL W wr)) (fun i _ => N - (intOf i).toNat)
      case atStart => exact ⟨0, rfl, Nat.zero_le _, hJ3, HOW⟩
      case round =>
        obtain ⟨j, rfl, hj, hJw, HWO⟩ := hrel
        have j0 : (0 : Int) ≤ (j : Int) := by omega
        by_cases hjn : j < N
        · have dj : (j : Int) < (N : Int) := by omega
          have hja : j < e.l.length := by have := HN.out; omega
          have hju : j < us.length := by have := HUL.out; omega
          have hx := List.getElem?_eq_getElem hja
          have hu := List.getElem?_eq_getElem hju
          have HXS := Lib.hid (HSL.out _ (List.getElem_mem hja))
          generalize e.l[j] = x at hx HXS
          generalize us[j] = u at hu
          have HXU := Lib.hid (HC.out j x u hx hu)
          have HO0 := Lib.hid (HW.out.trans HWO.out)
          have hrw := owns_onlyL HPB.out.1 HR.out HO0.out (fun g hg => ⟨HX.out g (HXB.out g hg), by rw [HPB.out.2]; exact fun e => by cases e⟩)
          obtain ⟨ga, rfl, hga, c0, c1, c2, c3, c4, c5, c6, c7⟩ := part_cells hrw hjn hu
          obtain ⟨d', rfl⟩ := HXU.out.pos
          obtain ⟨au, cu, us', hul', -⟩ := HXU.out.parts
          obtain ⟨uk, uop, uv, utb, unm, ulv⟩ := u
          dsimp only at hul' c0 c1 c2 c3 c4 c5 c6 c7
          subst hul'
          have hb2 : Below wr.heap.size wr (wr.alloc (.cells #[.int .i64 uk, .int .i64 uop, .int .i64 uv.k, .int .i64 uv.n, .string uv.s, .string utb, .string unm, .slice au x.l.length cu] TE)) := (Below.refl _ _).alloc (Nat.le_refl _) _
          have HB2 : Hid (OnlyL gL wr (wr.alloc (.cells #[.int .i64 uk, .int .i64 uop, .int .i64 uv.k, .int .i64 uv.n, .string uv.s, .string utb, .string unm, .slice au x.l.length cu] TE))) := Lib.hid (OnlyL.of_below hb2)
          have hSw : S ≤ wr.heap.size := Nat.le_trans HS.out HWO.out.size
          have hJ2 := HJ.out _ _ _ none hJw (grown_of_below hb2) (fun r h => by cases h)
          have hK : k0 + 1 + (partsL (e.l.take (j + 1))).length = k0 + 1 + (partsL (e.l.take j)).length + x.parts.length := by rw [partsL_take hx, List.length_append]; omega
          have HK := Lib.hid hK
          have HCL := Lib.hid (IH.out (k0 + 1 + (partsL (e.l.take j)).length) x ⟨uk, uop, uv, utb, unm, .slice au x.l.length cu⟩ _ HXU.out (HO0.out.trans HB2.out) (by rw [World.size_alloc]; omega) (HPK.out j x hx) HXS.out hJ2)
          clear hJ2 hb2 hSw hK hx hu hrw hja hju hJw
          unfold Er.val at HCL
          dsimp only at HCL
          gi_wp2_with fail
          refine ⟨trivial, (fun h => (by cases h)), (callsIn_wide.2 HCL.out).mono ?_⟩
          rintro en W5 ⟨bb, rfl, hbb⟩
          have HBB := Lib.hid hbb
          clear hbb HCL c0 c1 c2 c3 c4 c5 c6 c7
          cases bb with
          | false =>
            have hst : ∃ k', k' ≤ ps.length ∧ Jx k' W5 := by
              rcases HBB.out with ⟨h1, -⟩ | ⟨-, h1⟩
              · cases h1
              · exact h1
            clear HBB
            gi_wp2
            go_ret
            exact ⟨false, rfl, .inr ⟨rfl, hst⟩⟩
          | true =>
            obtain ⟨hJ5, hO5⟩ : J (k0 + 1 + (partsL (e.l.take (j + 1))).length) W5 ∧ OnlyL gL (wr.alloc (.cells #[.int .i64 uk, .int .i64 uop, .int .i64 uv.k, .int .i64 uv.n, .string uv.s, .string utb, .string unm, .slice au x.l.length cu] TE)) W5 := by
              rcases HBB.out with ⟨-, h1, h2⟩ | ⟨h1, -⟩
              · exact ⟨by rw [HK.out]; exact h1, h2⟩
              · cases h1
            have HO5 := Lib.hid (HWO.out.trans (HB2.out.trans hO5))
            clear HBB hO5
            gi_wp2
            go_roundw
            case rel => exact ⟨j + 1, by go_num, by omega, hJ5, HO5⟩
            case measure => simp [intOf]; omega
        · have dj : ¬ (j : Int) < (N : Int) := by omega
          have hjn' : j = N := by omega
          have hJN : J (k0 + e.parts.length) wr := by
            rw [HPE.out]
            rw [List.take_of_length_le (by have := HN.out; omega)] at hJw
            exact hJw
          gi_wp2
          go_ret
          exact ⟨true, rfl, .inl ⟨rfl, hJN, HWO.out⟩⟩
set_option maxRecDepth 100000 in
set_option maxHeartbeats 4000000 in
theorem all_seqL (n : Nat) (g : Nat) {d : Nat} (hd : d ≤ 1000) {gL : Nat} {X : Nat → Prop} {e : Ex} {r : Er} {w : World} (h : ExAt TE X d w e r) (hs : e.slim) (hXP : ∀ b, X b → b ≠ gL) (hP : gL < w.heap.size ∧ rowOf gL w = none) (hg : Flds w g TE r.cells) (hgP : g ≠ gL) :
    SeqArg Fence.wide n Try.prog 44 #[.pointer (some ⟨g, 0, none⟩)] (PartA X d e.parts) (OnlyL gL) e.parts.length w := by
  intro l J Jx W hW hJ hJx hY h0
  have hO : OnlyL gL w W := OnlyL.of_below hW
  have hgW := Flds.onlyL hP.1 hg hO hgP (by rw [hP.2]; exact fun e => by cases e)
  have HV := Lib.hid (visit_inL d hd d n l 0 W.heap.size gL X e.parts e r w W J Jx (Nat.le_refl _) h hXP hP hO (Nat.le_refl _) hJ (fun i x hx => by rw [Nat.zero_add]; exact hx) hs (fun k W1 xs hk hJ1 hA => yield_wide (hY k W1 xs hk hJ1 hA)) h0)
  obtain ⟨d', rfl⟩ := h.pos
  obtain ⟨av, cv, us, hlv, -⟩ := h.parts
  obtain ⟨rk, rop, rv, rtb, rnm, rlv⟩ := r
  dsimp only at hlv
  subst hlv
  have q0 := hgW.cell 0; have q1 := hgW.cell 1; have q2 := hgW.cell 2; have q3 := hgW.cell 3; have q4 := hgW.cell 4; have q5 := hgW.cell 5; have q6 := hgW.cell 6; have q7 := hgW.cell 7
  have hl := hgW.lt
  unfold Er.cells at q0 q1 q2 q3 q4 q5 q6 q7
  simp only [List.getElem?_cons_zero, List.getElem?_cons_succ] at q0 q1 q2 q3 q4 q5 q6 q7
  unfold Er.val at HV
  dsimp only at HV
  clear hY hJ hJx h0 h hg hgW hO hW
  refine callsIn_of_wp Try.func44 rfl trivial ?_ rfl
  simp only [Try.ntmps44, List.size_toArray, List.length_cons, List.length_nil, Nat.reduceAdd, Nat.reduceSub, Array.replicate_succ, Array.replicate_zero, List.push_toArray, List.append_toArray, List.nil_append, List.cons_append]
  gi_wp2_with fail
  refine ⟨trivial, (fun h => (by cases h)), (callsIn_wide.2 (callsIn_wide.1 HV.out)).mono ?_⟩
  rintro en W5 ⟨bb, rfl, hbb⟩
  have HBB := Lib.hid hbb
  clear hbb
  gi_wp2
  have hpost : J e.parts.length W5 ∨ ∃ k, k ≤ e.parts.length ∧ Jx k W5 := by
    rcases HBB.out with ⟨-, h1, -⟩ | ⟨-, h1⟩
    · exact .inl (by rw [Nat.zero_add] at h1; exact h1)
    · exact .inr h1
  refine (by first | exact bodyPost_end (results_none rfl _ _ _) rfl ⟨⟨_, rfl⟩, hpost⟩ | exact bodyPost_ret (results_none rfl _ _ _) rfl ⟨⟨_, rfl⟩, hpost⟩)
end Go.Proofs.Ytjnlimahcodomaa.ex
