/- The aggregates of an expression, by the document; walked. -/
import Derived.Test.YtjnlimahcodomaaCheckP
import Derived.Test.YtjnlimahcodomaaExprEG
import Derived.Test.YtjnlimahcodomaaExprM
import Derived.Deep.CutBlock
import Derived.StillTailTactics
namespace Go.Proofs.Ytjnlimahcodomaa.ck
set_option linter.unusedVariables false
open Go.RowKit
open val (V null veq6)
open ex (Ex Er TE TQ ExAt of_fe RowAt info_of infoQ part_cells erCells cells_one)
theorem aggsE_take {l : List Ex} {j : Nat} {x : Ex} (h : l[j]? = some x) : aggsE (l.take (j + 1)) = aggsE (l.take j) ++ aggE x := by
  obtain ⟨hj, rfl⟩ := List.getElem?_eq_some_iff.1 h
  rw [aggsE_flat, aggsE_flat, List.take_succ_eq_append_getElem hj, List.flatMap_append]; simp
theorem aggsE_take_le (l : List Ex) (j : Nat) : (aggsE (l.take j)).length ≤ (aggsE l).length := by
  rw [aggsE_flat, aggsE_flat]
  conv => rhs; rw [← List.take_append_drop j l, List.flatMap_append, List.length_append]
  omega
/-- the expression itself, if it is an aggregate -/
def ownA (e : Ex) : List Ex := if e.k = 8 then [e] else []
theorem aggE_eq (e : Ex) : aggE e = ownA e ++ aggsE e.l := by cases e; rfl
theorem aggE_le (e : Ex) : (aggE e).length ≤ e.parts.length := by rw [aggE_parts]; exact List.length_filter_le _ _
theorem kid_le {e x : Ex} (hx : x ∈ e.l) : x.parts.length ≤ e.parts.length := by
  rw [ex.Ex.parts_eq e, List.length_cons, ex.partsL_flat]
  have : x.parts.length ≤ (e.l.flatMap Ex.parts).length := by
    generalize e.l = l at *
    induction l with
    | nil => cases hx
    | cons a l ih =>
      rw [List.flatMap_cons, List.length_append]
      rcases List.mem_cons.1 hx with rfl | hx
      · omega
      · have := ih hx; omega
  omega
theorem ownA_len (e : Ex) : (ownA e).length ≤ 1 := by unfold ownA; split <;> simp
set_option maxRecDepth 100000 in
set_option maxHeartbeats 4000000 in
theorem raggs_any : ∀ (d : Nat), d ≤ 1000 → ∀ (X : Nat → Prop) (e : Ex) (r : Er) (w : World), (∀ b, X b → b < w.heap.size) → e.parts.length ≤ 100000 → e.slim → ExAt TQ X d w e r →
    Calls Try.prog 13 #[r.val] w fun en w' => ∃ a c, en = .returned (.slice a (aggE e).length c) ∧ RowAt TQ X w.heap.size d (.slice a (aggE e).length c) (aggE e) w' ∧ Below w.heap.size w w'
  | 0, _, _, _, _, _, _, _, _, h => h.elim
  | d + 1, hd, X, e, r, w, hX, hpl, hsl, h => by
    have IH := Lib.hid (fun (e : Ex) (r : Er) (w : World) (hX : ∀ b, X b → b < w.heap.size) (hp : e.parts.length ≤ 100000) (hs : e.slim) (h : ExAt TQ X d w e r) => raggs_any d (by omega) X e r w hX hp hs h)
    obtain ⟨hsl1, hsl2⟩ := ex.Ex.slim_parts hsl
    obtain ⟨av, cv, us, hlv, hul, hrow, hch⟩ := h.parts
    have HSELF := Lib.hid h
    have HX := Lib.hid hX
    have HPL : Hid ((aggE e).length ≤ 100000) := Lib.hid (Nat.le_trans (aggE_le e) hpl)
    have HPX : Hid (∀ x ∈ e.l, x.parts.length ≤ 100000) := Lib.hid (fun x hx => Nat.le_trans (kid_le hx) hpl)
    have HPE : Hid (aggE e = ownA e ++ aggsE e.l) := Lib.hid (aggE_eq e)
    have HK1 : Hid (r.k = e.k) := Lib.hid h.1
    obtain ⟨n, hn⟩ : ∃ n, e.l.length = n := ⟨_, rfl⟩
    rw [hn] at hlv hul hrow hsl1
    have HN := Lib.hid hn
    have HUL := Lib.hid hul
    have HR := Lib.hid hrow
    have HC := Lib.hid hch
    have HSL := Lib.hid hsl2
    have hn0 : (0 : Int) ≤ (n : Int) := by omega
    have hn1 : (n : Int) ≤ 1000 := by omega
    clear h hn hul hrow hch hsl hsl2 hX hpl
    obtain ⟨rk, rop, rv, rtb, rnm, rlv⟩ := r
    dsimp only at hlv HK1
    subst hlv
    unfold Er.val
    dsimp only
    obtain ⟨i0, hi, hz0, hz1, hz2⟩ := info_of infoQ
    obtain ⟨W1, hW1⟩ : ∃ W1, w.alloc (.cells #[.int .i64 rk, .int .i64 rop, .int .i64 rv.k, .int .i64 rv.n, .string rv.s, .string rtb, .string rnm, .slice av n cv] TQ) = W1 := ⟨_, rfl⟩
    have f1 : Flds W1 w.heap.size TQ [.int .i64 rk, .int .i64 rop, .int .i64 rv.k, .int .i64 rv.n, .string rv.s, .string rtb, .string rnm, .slice av n cv] := by rw [← hW1]; exact Flds.new w TQ _
    have hb1 : Below w.heap.size w W1 := by rw [← hW1]; exact (Below.refl _ _).alloc (Nat.le_refl _) _
    have hz1' : W1.heap.size = w.heap.size + 1 := by rw [← hW1]; simp
    have HW1 := Lib.hid hW1
    have HZ1 := Lib.hid hz1'
    have HF1 := Lib.hid f1
    have HB1 := Lib.hid hb1
    obtain ⟨e0, e1, e2, e3, e4, e5, e6, e7, l5⟩ := of_fe f1
    clear hW1 f1 hb1 hz1'
    go_enter Try.func13, Try.ntmps13
    go_upto_region 1 with fail
    rw [HW1.out]
    clear HW1
    go_upto_if 7 with fail
    go_cut [3] from 8 to 11 (fun o wx => ∃ (aO : Option Addr) (cO : Nat), o = .slice aO (ownA e).length cO ∧ Hid (RowAt TQ X (w.heap.size + 1) (d + 1) (.slice aO (ownA e).length cO) (ownA e) wx) ∧ Hid (Flds wx w.heap.size TQ [.int .i64 rk, .int .i64 rop, .int .i64 rv.k, .int .i64 rv.n, .string rv.s, .string rtb, .string rnm, .slice av n cv]) ∧ Hid (Below w.heap.size w wx))
    case first =>
      by_cases h8 : rk = 8
      · subst h8
        have HOW : Hid (ownA e = [e]) := Lib.hid (by unfold ownA; rw [← HK1.out]; rfl)
        have HC6 := Lib.hid (Flds.new W1 TQ [.int .i64 8, .int .i64 rop, .int .i64 rv.k, .int .i64 rv.n, .string rv.s, .string rtb, .string rnm, .slice av n cv])
        have HB6 : Hid (Below W1.heap.size W1 (W1.alloc (.cells #[.int .i64 8, .int .i64 rop, .int .i64 rv.k, .int .i64 rv.n, .string rv.s, .string rtb, .string rnm, .slice av n cv] TQ))) := Lib.hid ((Below.refl _ _).alloc (Nat.le_refl _) _)
        have HS6 : Hid (w.heap.size + 1 ≤ (W1.alloc (.cells #[.int .i64 8, .int .i64 rop, .int .i64 rv.k, .int .i64 rv.n, .string rv.s, .string rtb, .string rnm, .slice av n cv] TQ)).heap.size) := Lib.hid (by rw [World.size_alloc, HZ1.out]; omega)
        have HONE := Lib.hid (cells_one HSELF.out)
        go_wp2_with (at_builtin; refine wpList_append_row _ rfl (.tmp 8) (.tmp 10) 27 (by rfl) (w.heap.size + 1) TQ i0 _ 8 104 Try.underlying27 hi hz0 hz1 hz2 rfl (by decide) (.slice none 0 0) 0 [] (by rfl) (World.ownsRow_nil _ _ _ _) (.slice (some ⟨W1.heap.size, 0, none⟩) 1 1) 1 [.int .i64 8, .int .i64 rop, .int .i64 rv.k, .int .i64 rv.n, .string rv.s, .string rtb, .string rnm, .slice av n cv] (by rfl) (Row.of_flds HC6.out rfl 1) HONE.out (by unfold maxLen; omega) (by omega) HS6.out ?_; intro a9 c9 w9 hap; have HAP := Lib.hid hap; clear hap)
        go_meet
        have hap := HAP.out
        have hg9 := hap.grown
        rw [HOW.out]
        refine ⟨a9, c9, rfl, Lib.hid ?_, Lib.hid (((HF1.out.later HB6.out).grown hg9 (fun e => by cases e))), Lib.hid ((HB1.out.trans (HB6.out.mono HB1.out.size)).grown hg9 (Nat.le_trans HB1.out.size HB6.out.size) (fun b e => by cases e))⟩
        exact RowAt.app (l := []) (l' := [e]) (rs := []) (ps := [⟨8, rop, rv, rtb, rnm, .slice av n cv⟩]) (fun b hb => by have := HX.out b hb; omega) rfl (World.ownsRow_nil _ _ _ _) (fun i x s hx => by simp at hx) rfl (fun i x s hx hs => by
          cases i with
          | zero => simp at hx hs; subst hx; subst hs; exact HSELF.out.later (HB1.out.trans (HB6.out.mono HB1.out.size))
          | succ i => simp at hx) hap
      · have b8 : (rk == 8) = false := by simpa using h8
        have HOW : Hid (ownA e = []) := Lib.hid (by unfold ownA; rw [← HK1.out, if_neg h8])
        clear h8
        go_wp2_with fail
        go_meet
        rw [HOW.out]
        exact ⟨none, 0, rfl, Lib.hid ⟨[], rfl, World.ownsRow_nil _ _ _ _, fun i x s hx => by simp at hx⟩, HF1, HB1⟩
    case rest =>
      obtain ⟨aS, cS, rfl, HRA, HFA, HBA⟩ := hcut
      generalize wc = WC at *
      clear e0 e1 e2 e3 e4 e5 e6 e7 l5
      obtain ⟨e0, e1, e2, e3, e4, e5, e6, e7, l5⟩ := of_fe HFA.out
      go_wp2_with fail
      go_loopw [3, 4] (fun o i wr => ∃ (j m : Nat) (aO : Option Addr) (cO : Nat), i = .int .i64 (j : Int) ∧ j ≤ n ∧ o = .slice aO m cO ∧ m = (ownA e ++ aggsE (e.l.take j)).length ∧ Hid (RowAt TQ X (w.heap.size + 1) (d + 1) (.slice aO m cO) (ownA e ++ aggsE (e.l.take j)) wr) ∧ Hid (Flds wr w.heap.size TQ [.int .i64 rk, .int .i64 rop, .int .i64 rv.k, .int .i64 rv.n, .string rv.s, .string rtb, .string rnm, .slice av n cv]) ∧ Hid (Below w.heap.size w wr)) (fun _ i _ => n - (intOf i).toNat)
      case atStart => exact ⟨0, _, _, _, rfl, Nat.zero_le _, rfl, by simp [aggsE], by simpa [aggsE] using HRA, HFA, HBA⟩
      case round =>
        obtain ⟨j, m, aO, cO, rfl, hj, rfl, hm, HRW, HF, HB⟩ := hrel
        clear e0 e1 e2 e3 e4 e5 e6 e7 l5
        have j0 : (0 : Int) ≤ (j : Int) := by omega
        have q7 := HF.out.cell 7
        have l7 := HF.out.lt
        simp only [List.getElem?_cons_zero, List.getElem?_cons_succ] at q7
        by_cases hjn : j < n
        · have dj : (j : Int) < (n : Int) := by omega
          have hja : j < e.l.length := by have := HN.out; omega
          have hju : j < us.length := by have := HUL.out; omega
          have hx := List.getElem?_eq_getElem hja
          have hu := List.getElem?_eq_getElem hju
          have hxs := HSL.out _ (List.getElem_mem hja)
          have hxp := HPX.out _ (List.getElem_mem hja)
          generalize e.l[j] = x at hx hxs hxp
          generalize us[j] = u at hu
          have hxu := (HC.out j x u hx hu).later HB.out
          obtain ⟨ga, rfl, hga, c0, c1, c2, c3, c4, c5, c6, c7⟩ := part_cells (owns_below HR.out HB.out) hjn hu
          obtain ⟨d', rfl⟩ := hxu.pos
          obtain ⟨au, cu, us', hul', -⟩ := hxu.parts
          obtain ⟨uk, uop, uv, utb, unm, ulv⟩ := u
          dsimp only at hul' c0 c1 c2 c3 c4 c5 c6 c7
          subst hul'
          have HPT := Lib.hid (aggsE_take hx)
          have hlen : (aggsE (e.l.take (j + 1))).length ≤ (aggsE e.l).length := aggsE_take_le _ _
          have hpl : (ownA e ++ aggsE (e.l.take j)).length + (aggE x).length ≤ 100000 := by
            have h1 := HPL.out
            rw [HPE.out, List.length_append] at h1
            rw [HPT.out, List.length_append] at hlen
            rw [List.length_append]
            omega
          have HCL := Lib.hid (show Calls Try.prog 13 #[.agg #[.int .i64 uk, .int .i64 uop, .int .i64 uv.k, .int .i64 uv.n, .string uv.s, .string utb, .string unm, .slice au x.l.length cu]] wr (fun en w' => ∃ a c, en = .returned (.slice a (aggE x).length c) ∧ RowAt TQ X wr.heap.size (d' + 1) (.slice a (aggE x).length c) (aggE x) w' ∧ Below wr.heap.size wr w') from IH.out x ⟨uk, uop, uv, utb, unm, .slice au x.l.length cu⟩ wr (fun b hb => Nat.lt_of_lt_of_le (HX.out b hb) HB.out.size) hxp hxs hxu)
          have hmm : m + (aggE x).length ≤ 100000 := by rw [hm]; exact hpl
          have HM := Lib.hid hm
          have hrs := HRW.out
          obtain ⟨rs, r1, r2, r3⟩ := hrs
          have HR1 := Lib.hid r1; have HR2 := Lib.hid r2; have HR3 := Lib.hid r3
          obtain ⟨K, hK⟩ : ∃ K, (aggE x).length = K := ⟨_, rfl⟩
          rw [hK] at HCL hmm
          have HKK := Lib.hid hK
          have h63 : m + K ≤ maxLen := by unfold maxLen; omega
          have h64 : (m + K) * 104 ≤ 140737488355328 := by omega
          clear hx hu hxs hxp hxu hlen hpl hja hju hm r1 r2 r3 hK
          go_wp2_with (first
            | (go_at_call 13; refine HCL.out.mono ?_; rintro en w2 ⟨a2, cc2, rfl, hr2, hb2⟩; have HB2 := Lib.hid hb2; obtain ⟨ps, s1, s2, s3⟩ := hr2; have HS1 := Lib.hid s1; have HS2 := Lib.hid s2; have HS3 := Lib.hid s3; have HONE := Lib.hid (RowAt.ones s1 s3); have HO2 := Lib.hid (owns_below HR2.out hb2); (rw [← HM.out] at HO2); clear hb2 s1 s2 s3)
            | (at_builtin; refine wpList_append_row _ rfl (.tmp 19) (.tmp 25) 27 (by rfl) (w.heap.size + 1) TQ i0 _ 8 104 Try.underlying27 hi hz0 hz1 hz2 rfl (by decide) (.slice aO m cO) m (erCells rs) (by rfl) HO2.out (.slice a2 K cc2) K (erCells ps) (by rfl) (by have := Row.of_owns HS2.out; rw [HKK.out] at this; exact this) HONE.out h63 h64 (Nat.le_trans HF.out.lt HB2.out.size) ?_; intro a9 c9 w9 hap; have HAP := Lib.hid hap; clear hap))
          go_roundw
          case rel =>
            have hap := HAP.out
            rw [HM.out, ← HKK.out] at hap
            have hnew := RowAt.app (fun b hb => by have := HX.out b hb; omega) HR1.out (owns_below HR2.out HB2.out |> fun h => by rw [← HM.out]; rw [← HM.out] at h; exact h) (fun i y t hy ht => (HR3.out i y t hy ht).later HB2.out) HS1.out (fun i y t hy ht => (HS3.out i y t hy ht).mono (by omega) (fun b _ hb => hb)) hap
            have hlt := fun b (hb : (Value.slice aO m cO).ownBlock = some b) => (HO2.out.lt b hb).1
            have hg9 := HAP.out.grown
            have hll : m + K = (ownA e ++ aggsE (e.l.take (j + 1))).length := by rw [HM.out, HPT.out, ← List.append_assoc]; simp only [List.length_append, HKK.out]
            refine ⟨j + 1, m + K, a9, c9, by go_num, by omega, rfl, hll, Lib.hid ?_, Lib.hid ((HF.out.later HB2.out).grown hg9 (fun e => by have := hlt _ e.symm; omega)), Lib.hid ((HB.out.trans (HB2.out.mono HB.out.size)).grown hg9 (Nat.le_trans HB.out.size HB2.out.size) (fun b e => by have := hlt b e; omega))⟩
            rw [HPT.out, ← List.append_assoc]
            rw [← HM.out, HKK.out] at hnew
            exact hnew
          case measure => simp [intOf]; omega
        · have dj : ¬ (j : Int) < (n : Int) := by omega
          have hjn' : j = n := by omega
          have HE : Hid (ownA e ++ aggsE (e.l.take j) = aggE e) := Lib.hid (by rw [HPE.out, List.take_of_length_le (by have := HN.out; omega)])
          have hrw := HRW.out
          rw [HE.out] at hrw hm
          subst hm
          have HRF := Lib.hid hrw
          clear hrw
          go_wp2_with fail
          go_ret
          obtain ⟨rs, r1, r2, r3⟩ := HRF.out
          exact ⟨_, _, rfl, ⟨rs, r1, owns_base r2 (fun g hg => by have := (r2.lt g hg).1; omega), r3⟩, HB.out⟩
end Go.Proofs.Ytjnlimahcodomaa.ck
