/- How an expression is shown: the program's text; walked. -/
import Derived.Test.YtfnajccnlcfbiaaDoorExprR
import Derived.Test.YtfnajccnlcfbiaaDoorExprO
import Derived.Test.YtfnajccnlcfbiaaDoorJBC
import Derived.OwnWalk
import Derived.BigQuiet
namespace Go.Proofs.YtfnajccnlcfbiaaDoor.ex
set_option linter.unusedVariables false
open Go.RowKit
open val (V null veq6 gB ag3 gMax Pow10 showV)
attribute [local go_sem] Oper.semAt_some
abbrev gSg : Nat := 0
abbrev gNm : Nat := 1
/-- the tables that are read -/
structure Tabs (m : Int) (W : World) : Prop where
  max : W.cell? ⟨gMax, 0, none⟩ = some (.int .i64 m)
  pow : Pow10 W
  sg : ∀ (j : Nat) (x : List UInt8), signT[j]? = some x → W.cell? ⟨gSg, j, none⟩ = some (.string ⟨x.toArray⟩)
  nm : ∀ (j : Nat) (x : List UInt8), nameT[j]? = some x → W.cell? ⟨gNm, j, none⟩ = some (.string ⟨x.toArray⟩)
theorem Tabs.later {m : Int} {W W' : World} (h : Tabs m W) (hb : Below W.heap.size W W') : Tabs m W' :=
  ⟨cell_later hb h.max, val.pow10_later h.pow hb, fun j x hj => cell_later hb (h.sg j x hj), fun j x hj => cell_later hb (h.nm j x hj)⟩
theorem Tabs.sign {m : Int} {W : World} (h : Tabs m W) {op : Nat} (ho : op < 15) : W.cell? ⟨gSg, op, none⟩ = some (.string (signE (op : Int))) := by
  refine h.sg op (signT.getD op []) ?_
  rw [List.getD_eq_getElem?_getD, List.getElem?_eq_getElem (show op < signT.length from ho)]; rfl
theorem Tabs.name {m : Int} {W : World} (h : Tabs m W) {op : Nat} (ho : op < 5) : W.cell? ⟨gNm, op, none⟩ = some (.string (nameE (op : Int))) := by
  refine h.nm op (nameT.getD op []) ?_
  rw [List.getD_eq_getElem?_getD, List.getElem?_eq_getElem (show op < nameT.length from ho)]; rfl
theorem infoStr : (Tryd.prog.info? 9).map (fun i => (i.zero, i.size, i.bytes)) = some (some (.string ⟨#[]⟩), 1, 16) := by kernel_rfl
theorem below_grown {w w' : World} (h : w.grownBy w' none) : Below w.heap.size w w' := ⟨h.os, h.tape, h.output, h.size, fun k hk => h.block k hk (by simp)⟩
/-- the texts of a node's parts, in a slice -/
theorem row_texts {w : World} {B : Nat} {a : Option Addr} {n c : Nat} {ss : List ByteArray} (h : w.ownsRow B 9 1 (.slice a n c) n (ss.map Value.string)) (hn : 0 < n) : ∃ g, a = some ⟨g, 0, none⟩ ∧ g < w.heap.size ∧ ∀ j s, j < n → ss[j]? = some s → w.cell? ⟨g, j, none⟩ = some (.string s) := by
  obtain ⟨g, rfl, hg1, hg2, hc, -⟩ := owns_cellAt h hn
  exact ⟨g, rfl, hg2, fun j s hj hs => by rw [hc j (by omega), List.getElem?_map, hs]; rfl⟩
theorem below_drewN {B : Nat} {a W : World} (h : Below B a W) (n : Nat) : Below B a (W.drewN n) := ⟨h.os, h.tape, h.output, h.size, h.block⟩
set_option maxRecDepth 100000 in
set_option maxHeartbeats 4000000 in
theorem show_deep (m : Int) : ∀ (d : Nat), d ≤ 1000 → ∀ (X : Nat → Prop) (e : Ex) (r : Er) (w : World) (g : Bool), e.slim → Fit e → mayE e g → e.parts.length ≤ 100000 → Tabs m w → ExAt TE X d w e r →
    Calls Tryd.prog 23 #[r.val] w fun en w' => en = .returned (.string (showE e)) ∧ Below w.heap.size w w'
  | 0, _, _, _, _, _, _, _, _, _, _, _, h => h.elim
  | d + 1, hd, X, e, r, w, g, hsl, hft, hmy, hpl, htb, h => by
    have IH := Lib.hid (fun (e : Ex) (r : Er) (w : World) (g : Bool) (hs : e.slim) (hf : Fit e) (hm : mayE e g) (hp : e.parts.length ≤ 100000) (ht : Tabs m w) (h : ExAt TE X d w e r) => show_deep m d (by omega) X e r w g hs hf hm hp ht h)
    obtain ⟨av, cv, us, hlv, hul, hrow, hch⟩ := h.parts
    obtain ⟨hsl1, hsl2⟩ := Ex.slim_parts hsl
    have hfs := hft.self
    have HFK := Lib.hid (fun x (hx : x ∈ e.l) => hft.kid hx)
    have HPK := Lib.hid (fun x (hx : x ∈ e.l) => show x.parts.length ≤ 100000 from by have := kid_parts hx; omega)
    obtain ⟨hmp, -, hmk⟩ := mayE_kids.1 hmy
    obtain ⟨f1, f2, f3, f4, f5, -⟩ := h
    have HSZ := Lib.hid (fun x (hx : x ∈ e.l) => show (showE x).size ≤ 400000000 from by have h1 := showE_size x (hft.kid hx); have h2 := kid_parts hx; omega)
    obtain ⟨n, hn⟩ : ∃ n, e.l.length = n := ⟨_, rfl⟩
    rw [hn] at hlv hul hrow hsl1
    have HSE : Hid (showE e = glue r.k r.op r.v r.tb r.nm (e.l.map showE)) := Lib.hid (by rw [showE_eq, f1, f2, f3, f4, f5])
    have HPP : Hid (plainP r.k r.op r.v r.tb r.nm n) := Lib.hid (by have h := hmp; unfold Ex.plain at h; rw [← f1, ← f2, ← f3, ← f4, ← f5, hn] at h; exact h)
    have HFT : Hid (r.nm.size ≤ 1000 ∧ r.tb.size ≤ 1000 ∧ r.v.s.size ≤ 1000 ∧ (-9223372036854775808 ≤ r.v.n ∧ r.v.n ≤ 9223372036854775807)) := Lib.hid (by rw [f5, f4, f3]; exact hfs)
    have HN := Lib.hid hn; have HUL := Lib.hid hul; have HR := Lib.hid hrow; have HC := Lib.hid hch; have HSL := Lib.hid hsl2; have HMK := Lib.hid hmk; have HTB := Lib.hid htb
    have hn0 : (0 : Int) ≤ (n : Int) := by omega
    have hn1 : (n : Int) ≤ 1000 := by omega
    obtain ⟨rk, rop, rv, rtb, rnm, rlv⟩ := r
    dsimp only at hlv HSE HPP HFT
    subst hlv
    unfold Er.val
    dsimp only
    obtain ⟨i0, hi, hz0, hz1, hz2⟩ := info_of infoStr
    clear hn hul hrow hch hsl hsl2 hft hfs f1 f2 f3 f4 f5 hmp hmk hmy htb
    have hfe : Flds (w.alloc (.cells #[.int .i64 rk, .int .i64 rop, .int .i64 rv.k, .int .i64 rv.n, .string rv.s, .string rtb, .string rnm, .slice av n cv] TE)) w.heap.size TE [.int .i64 rk, .int .i64 rop, .int .i64 rv.k, .int .i64 rv.n, .string rv.s, .string rtb, .string rnm, .slice av n cv] := Flds.new w TE _
    have hb0 : Below w.heap.size w (w.alloc (.cells #[.int .i64 rk, .int .i64 rop, .int .i64 rv.k, .int .i64 rv.n, .string rv.s, .string rtb, .string rnm, .slice av n cv] TE)) := (Below.refl _ _).alloc (Nat.le_refl _) _
    obtain ⟨W1, hW1⟩ : ∃ W1, (w.alloc (.cells #[.int .i64 rk, .int .i64 rop, .int .i64 rv.k, .int .i64 rv.n, .string rv.s, .string rtb, .string rnm, .slice av n cv] TE)) = W1 := ⟨_, rfl⟩
    rw [hW1] at hfe hb0
    have HFE := Lib.hid hfe; have HB0 := Lib.hid hb0; have HW1 := Lib.hid hW1
    clear hfe hb0 hW1
    go_enter Tryd.func23, Tryd.ntmps23
    go_upto_region 1 with fail
    rw [HW1.out]
    go_upto_region 2 with (at_make; refine wpList_make_own _ rfl _ _ 54 rfl W1.heap.size 9 i0 (.string ⟨#[]⟩) 1 Tryd.underlying54 hi hz0 hz1 .i64 .i64 _ 2 rfl rfl rfl (by rw [hz2]; omega) (by unfold maxLen; omega) (Nat.le_refl _) ?_; intro w2 hown0 hgrow0)
    have HWL : Hid (w.heap.size < W1.heap.size) := Lib.hid HFE.out.lt
    have HB2 := Lib.hid (HB0.out.trans ((below_grown hgrow0).mono HB0.out.size))
    have HF2 := Lib.hid (HFE.out.later (below_grown hgrow0))
    have HO2 := Lib.hid hown0
    have HZ2 : Hid (W1.heap.size ≤ w2.heap.size) := Lib.hid hgrow0.size
    clear hown0 hgrow0
    obtain ⟨e0, e1, e2, e3, e4, e5, e6, e7, l2⟩ := of_fe HF2.out
    go_wp2_with fail
    go_loopw [3, 10] (fun sv i wr => ∃ (j : Nat) (aO : Option Addr) (cO : Nat), i = .int .i64 (j : Int) ∧ j ≤ n ∧ sv = .slice aO j cO ∧ Hid (wr.ownsRow W1.heap.size 9 1 (.slice aO j cO) j (((e.l.take j).map showE).map Value.string)) ∧ Hid (W1.heap.size ≤ wr.heap.size) ∧ Hid (Flds wr w.heap.size TE [.int .i64 rk, .int .i64 rop, .int .i64 rv.k, .int .i64 rv.n, .string rv.s, .string rtb, .string rnm, .slice av n cv]) ∧ Hid (Below w.heap.size w wr)) (fun _ i _ => n - (intOf i).toNat)
    case atStart => exact ⟨0, _, _, rfl, Nat.zero_le _, rfl, HO2, HZ2, HF2, HB2⟩
    case round =>
      obtain ⟨j, aO, cO, rfl, hj, rfl, HO, HZW, HF, HB⟩ := hrel
      clear e0 e1 e2 e3 e4 e5 e6 e7 l2
      have j0 : (0 : Int) ≤ (j : Int) := by omega
      obtain ⟨y0, y1, y2, y3, y4, y5, y6, y7, l3⟩ := of_fe HF.out
      by_cases hjn : j < n
      · have dj : (j : Int) < (n : Int) := by omega
        have hja : j < e.l.length := by have := HN.out; omega
        have hju : j < us.length := by have := HUL.out; omega
        have hx := List.getElem?_eq_getElem hja
        have hu := List.getElem?_eq_getElem hju
        have HXS := Lib.hid (HSL.out _ (List.getElem_mem hja))
        have HXF := Lib.hid (HFK.out _ (List.getElem_mem hja))
        have HXP := Lib.hid (HPK.out _ (List.getElem_mem hja))
        have HXM := Lib.hid (HMK.out _ (List.getElem_mem hja))
        have HTK : Hid (((e.l.take (j + 1)).map showE).map Value.string = ((e.l.take j).map showE).map Value.string ++ [.string (showE e.l[j])]) := Lib.hid (by rw [List.take_succ_eq_append_getElem hja, List.map_append, List.map_append]; rfl)
        generalize e.l[j] = x at hx HXS HXF HXP HXM HTK
        generalize us[j] = u at hu
        have hxu := (HC.out j x u hx hu).later HB.out
        obtain ⟨ga, rfl, hga, c0, c1, c2, c3, c4, c5, c6, c7⟩ := part_cells (owns_below HR.out HB.out) hjn hu
        obtain ⟨d', rfl⟩ := hxu.pos
        obtain ⟨au, cu, us', hul', -⟩ := hxu.parts
        obtain ⟨uk, uop, uv, utb, unm, ulv⟩ := u
        dsimp only at hul' c0 c1 c2 c3 c4 c5 c6 c7
        subst hul'
        have hb4 : Below wr.heap.size wr (wr.alloc (.cells #[.int .i64 uk, .int .i64 uop, .int .i64 uv.k, .int .i64 uv.n, .string uv.s, .string utb, .string unm, .slice au x.l.length cu] TE)) := (Below.refl _ _).alloc (Nat.le_refl _) _
        have hcl := IH.out x ⟨uk, uop, uv, utb, unm, .slice au x.l.length cu⟩ _ _ HXS.out HXF.out HXM.out HXP.out (HTB.out.later (HB.out.trans (hb4.mono HB.out.size))) (hxu.later hb4)
        unfold Er.val at hcl
        dsimp only at hcl
        obtain ⟨SX, hSX⟩ : ∃ SX, showE x = SX := ⟨_, rfl⟩
        rw [hSX] at hcl HTK
        have HCL := Lib.hid hcl
        have HB4 := Lib.hid hb4
        have h63 : j + 1 ≤ maxLen := by unfold maxLen; omega
        have h64 : (j + 1) * 16 ≤ 140737488355328 := by omega
        clear hx hu hxu hja hju hcl hb4 hSX
        go_wp2_with (first
          | (go_at_call 23; refine HCL.out.mono ?_; rintro en w5 ⟨rfl, hb5⟩; have HB5 := Lib.hid (HB4.out.trans (hb5.mono HB4.out.size)); have HB6 := Lib.hid (HB5.out.trans (((Below.refl _ _).alloc (Nat.le_refl _) (.cells #[.string SX] 9)).mono HB5.out.size)); have HO6 := Lib.hid (owns_below HO.out HB6.out); have HF6 := Lib.hid (HF.out.later HB6.out); have HC6 := Lib.hid (Flds.new w5 9 [.string SX]); have HS6 : Hid (W1.heap.size ≤ (w5.alloc (.cells #[.string SX] 9)).heap.size) := Lib.hid (by have h1 := HZW.out; have h2 := HB6.out.size; omega); clear hb5)
          | (at_builtin; refine wpList_append_row _ rfl (.tmp 14) (.tmp 17) 54 (by rfl) W1.heap.size 9 i0 (.string ⟨#[]⟩) 1 16 Tryd.underlying54 hi hz0 hz1 hz2 rfl (by decide) (.slice aO j cO) j (((e.l.take j).map showE).map Value.string) (by rfl) HO6.out (.slice (some ⟨w5.heap.size, 0, none⟩) 1 1) 1 [.string SX] (by rfl) (Row.of_flds HC6.out rfl 1) (by intro u hu; simp only [List.mem_singleton] at hu; subst hu; rfl) h63 h64 HS6.out ?_; intro a9 c9 w9 hap; have HAP := Lib.hid hap; clear hap))
        go_roundw
        case rel =>
          have hlt := fun b (hb : (Value.slice aO j cO).ownBlock = some b) => (HO6.out.lt b hb).1
          have hw1 := HWL.out
          exact ⟨j + 1, a9, c9, by go_num, by omega, rfl, Lib.hid (by rw [HTK.out]; exact HAP.out.own), Lib.hid (Nat.le_trans HS6.out HAP.out.grown.size), Lib.hid (HF6.out.grown HAP.out.grown (fun e => by have := hlt _ e.symm; omega)), Lib.hid ((HB.out.trans (HB6.out.mono HB.out.size)).grown HAP.out.grown (Nat.le_trans HB.out.size HB6.out.size) (fun b e => by have := hlt b e; omega))⟩
        case measure => simp [intOf]; omega
      · have dj : ¬ (j : Int) < (n : Int) := by omega
        have hjn' : j = n := by omega
        subst hjn'
        clear hj
        have hown := HO.out
        rw [List.take_of_length_le (by have := HN.out; omega)] at hown
        have HRW := Lib.hid hown
        have HTR := Lib.hid (HTB.out.later HB.out)
        clear hown HO
        obtain ⟨ss, hss⟩ : ∃ ss, e.l.map showE = ss := ⟨_, rfl⟩
        have hsl' : ss.length = j := by rw [← hss, List.length_map]; exact HN.out
        have hsz' : ∀ s ∈ ss, s.size ≤ 400000000 := by
          intro s hs
          rw [← hss] at hs
          obtain ⟨x, hx, rfl⟩ := List.mem_map.1 hs
          exact HSZ.out x hx
        have HSV : Hid (showE e = glue rk rop rv rtb rnm ss) := Lib.hid (by rw [HSE.out, hss])
        have HRS : Hid (wr.ownsRow W1.heap.size 9 1 (.slice aO j cO) j (ss.map Value.string)) := Lib.hid (by rw [← hss]; exact HRW.out)
        have HSL' := Lib.hid hsl'
        have HSZ' := Lib.hid hsz'
        clear hss hsl' hsz' HRW HSE
        obtain ⟨u1, u2, u3, u4⟩ := HFT.out
        rcases HPP.out with ⟨rfl, rfl, rfl, rfl, rfl, -⟩ | ⟨rfl, rfl, rfl, rfl, -⟩ | ⟨rfl, rfl, rfl, rfl, rfl, o1, o2⟩ | ⟨h4, rfl, rfl, rfl, rfl, rfl⟩ | ⟨rfl, rfl, rfl, rfl, o1, o2, h8⟩
        · as_aux_lemma =>
          have HV : Hid (showE e = showV rv.k rv.n rv.s) := Lib.hid (by rw [HSV.out]; unfold glue; rw [if_pos rfl])
          have hsh := val.show_any rv.k rv.n rv.s u4 m wr HTR.out.max HTR.out.pow
          unfold ag3 at hsh
          have HSH := Lib.hid hsh
          clear hsh
          go_wp2_with (go_at_call 32; refine HSH.out.mono ?_; rintro en w5 ⟨rfl, hb5⟩; have HB5 := Lib.hid (HB.out.trans (hb5.mono HB.out.size)); clear hb5)
          go_ret
          exact ⟨by first | (rw [HV.out]; done) | (rw [HV.out]; rfl), by first | exact HB5.out | exact below_drewN HB5.out _⟩
        · as_aux_lemma =>
          by_cases et : rtb.toList = []
          · have be : rtb.toList.isEmpty = true := by rw [et]; rfl
            have HV : Hid (showE e = rnm) := Lib.hid (by rw [HSV.out]; unfold glue; rw [if_neg (by decide), if_pos rfl, be]; rfl)
            go_wp2_with fail
            go_ret
            exact ⟨by first | (rw [HV.out]; done) | (rw [HV.out]; rfl), HB.out⟩
          · have be : rtb.toList.isEmpty = false := by cases h : rtb.toList with | nil => exact absurd h et | cons _ _ => rfl
            have HV : Hid (showE e = rtb ++ ⟨#[46]⟩ ++ rnm) := Lib.hid (by rw [HSV.out]; unfold glue; rw [if_neg (by decide), if_pos rfl, be]; rfl)
            go_wp2_with fail
            go_ret
            exact ⟨by first | (rw [HV.out]; done) | (rw [HV.out]; rfl), HB.out⟩
        · as_aux_lemma =>
          obtain ⟨A, B, rfl⟩ : ∃ A B, ss = [A, B] := by match ss, HSL'.out with | [a, b], _ => exact ⟨a, b, rfl⟩
          have hA : A.size ≤ 400000000 := HSZ'.out A (by simp)
          have hB : B.size ≤ 400000000 := HSZ'.out B (by simp)
          obtain ⟨gl, rfl, lg, hc⟩ := row_texts HRS.out (by decide)
          have t0 := hc 0 A (by decide) rfl
          have t1 := hc 1 B (by decide) rfl
          clear hc
          obtain ⟨q, rfl⟩ : ∃ q : Nat, rop = q := ⟨rop.toNat, by omega⟩
          have tS := HTR.out.sign (show q < 15 by omega)
          have lS := World.block_lt_of_cell? wr _ tS
          have hS3 := signE_size (q : Int)
          have HV : Hid (showE e = ⟨#[40]⟩ ++ A ++ ⟨#[32]⟩ ++ signE (q : Int) ++ ⟨#[32]⟩ ++ B ++ ⟨#[41]⟩) := Lib.hid (by rw [HSV.out]; unfold glue; rw [if_neg (by decide), if_neg (by decide), if_pos rfl]; rfl)
          obtain ⟨SG, hSG⟩ : ∃ SG, signE (q : Int) = SG := ⟨_, rfl⟩
          rw [hSG] at tS hS3 HV
          clear hSG
          go_upto_region 15 with fail
          go_quiet (fail)
          go_wp2_with fail
          go_ret
          exact ⟨by first | (rw [HV.out]; done) | (rw [HV.out]; rfl), by first | exact HB.out | exact below_drewN HB.out _⟩
        · as_aux_lemma =>
          obtain ⟨A, rfl⟩ : ∃ A, ss = [A] := by match ss, HSL'.out with | [a], _ => exact ⟨a, rfl⟩
          have hA : A.size ≤ 400000000 := HSZ'.out A (by simp)
          obtain ⟨gl, rfl, lg, hc⟩ := row_texts HRS.out (by decide)
          have t0 := hc 0 A (by decide) rfl
          clear hc
          rcases h4 with rfl | rfl | rfl | rfl
          · have HV : Hid (showE e = ⟨#[40, 78, 79, 84, 32]⟩ ++ A ++ ⟨#[41]⟩) := Lib.hid (by rw [HSV.out]; unfold glue; rw [if_neg (by decide), if_neg (by decide), if_neg (by decide), if_pos rfl]; rfl)
            go_wp2_with fail
            go_ret
            exact ⟨by first | (rw [HV.out]; done) | (rw [HV.out]; rfl), by first | exact HB.out | exact below_drewN HB.out _⟩
          · have HV : Hid (showE e = ⟨#[40, 45, 32]⟩ ++ A ++ ⟨#[41]⟩) := Lib.hid (by rw [HSV.out]; unfold glue; rw [if_neg (by decide), if_neg (by decide), if_neg (by decide), if_neg (by decide), if_pos rfl]; rfl)
            go_wp2_with fail
            go_ret
            exact ⟨by first | (rw [HV.out]; done) | (rw [HV.out]; rfl), by first | exact HB.out | exact below_drewN HB.out _⟩
          · have HV : Hid (showE e = ⟨#[40]⟩ ++ A ++ ⟨#[32, 73, 83, 32, 78, 85, 76, 76, 41]⟩) := Lib.hid (by rw [HSV.out]; unfold glue; rw [if_neg (by decide), if_neg (by decide), if_neg (by decide), if_neg (by decide), if_neg (by decide), if_pos rfl]; rfl)
            go_wp2_with fail
            go_ret
            exact ⟨by first | (rw [HV.out]; done) | (rw [HV.out]; rfl), by first | exact HB.out | exact below_drewN HB.out _⟩
          · have HV : Hid (showE e = ⟨#[40]⟩ ++ A ++ ⟨#[32, 73, 83, 32, 78, 79, 84, 32, 78, 85, 76, 76, 41]⟩) := Lib.hid (by rw [HSV.out]; unfold glue; rw [if_neg (by decide), if_neg (by decide), if_neg (by decide), if_neg (by decide), if_neg (by decide), if_neg (by decide), if_pos rfl]; rfl)
            go_wp2_with fail
            go_ret
            exact ⟨by first | (rw [HV.out]; done) | (rw [HV.out]; rfl), by first | exact HB.out | exact below_drewN HB.out _⟩
        · as_aux_lemma =>
          rcases h8 with ⟨rfl, rfl⟩ | rfl
          · have HV : Hid (showE e = ⟨#[67, 79, 85, 78, 84, 40, 42, 41]⟩) := Lib.hid (by rw [HSV.out]; unfold glue; rw [if_neg (by decide), if_neg (by decide), if_neg (by decide), if_neg (by decide), if_neg (by decide), if_neg (by decide), if_neg (by decide), if_pos HSL'.out])
            go_wp2_with fail
            go_ret
            exact ⟨by first | (rw [HV.out]; done) | (rw [HV.out]; rfl), by first | exact HB.out | exact below_drewN HB.out _⟩
          · obtain ⟨q, rfl⟩ : ∃ q : Nat, rop = q := ⟨rop.toNat, by omega⟩
            obtain ⟨A, rfl⟩ : ∃ A, ss = [A] := by match ss, HSL'.out with | [a], _ => exact ⟨a, rfl⟩
            have hA : A.size ≤ 400000000 := HSZ'.out A (by simp)
            obtain ⟨gl, rfl, lg, hc⟩ := row_texts HRS.out (by decide)
            have t0 := hc 0 A (by decide) rfl
            clear hc
            have tS := HTR.out.name (show q < 5 by omega)
            have lS := World.block_lt_of_cell? wr _ tS
            have hS3 := nameE_size (q : Int)
            have HV : Hid (showE e = nameE (q : Int) ++ ⟨#[40]⟩ ++ A ++ ⟨#[41]⟩) := Lib.hid (by rw [HSV.out]; unfold glue; rw [if_neg (by decide), if_neg (by decide), if_neg (by decide), if_neg (by decide), if_neg (by decide), if_neg (by decide), if_neg (by decide), if_neg (by simp)]; rfl)
            obtain ⟨SG, hSG⟩ : ∃ SG, nameE (q : Int) = SG := ⟨_, rfl⟩
            rw [hSG] at tS hS3 HV
            clear hSG
            go_upto_region 26 with fail
            go_quiet (fail)
            go_wp2_with fail
            go_ret
            exact ⟨by first | (rw [HV.out]; done) | (rw [HV.out]; rfl), by first | exact HB.out | exact below_drewN HB.out _⟩
set_option maxRecDepth 100000 in
set_option maxHeartbeats 4000000 in
theorem eshow_any (m : Int) {d : Nat} (hd : d ≤ 1000) {X : Nat → Prop} {e : Ex} {r : Er} {w : World} (hsl : e.slim) (hft : Fit e) (hpl : e.parts.length ≤ 100000) (htb : Tabs m w) (h : ExAt TE X d w e r) :
    Calls Tryd.prog 13 #[r.val] w fun en w' => en = .returned (.string (if goodB 20 e true = true then showE e else ByteArray.empty)) ∧ Below w.heap.size w w' := by
  have HGE : Hid (goodB 20 e true = true → mayE e false) := Lib.hid (fun hh => ((goodE_iff e 20 true).1 (pB_iff.1 hh)).2)
  obtain ⟨d', rfl⟩ := h.pos
  obtain ⟨av, cv, us, hlv, -⟩ := h.parts
  obtain ⟨rk, rop, rv, rtb, rnm, rlv⟩ := r
  dsimp only at hlv
  subst hlv
  have hb0 : Below w.heap.size w (w.alloc (.cells #[.int .i64 rk, .int .i64 rop, .int .i64 rv.k, .int .i64 rv.n, .string rv.s, .string rtb, .string rnm, .slice av e.l.length cv] TE)) := (Below.refl _ _).alloc (Nat.le_refl _) _
  have hfe : Flds (w.alloc (.cells #[.int .i64 rk, .int .i64 rop, .int .i64 rv.k, .int .i64 rv.n, .string rv.s, .string rtb, .string rnm, .slice av e.l.length cv] TE)) w.heap.size TE [.int .i64 rk, .int .i64 rop, .int .i64 rv.k, .int .i64 rv.n, .string rv.s, .string rtb, .string rnm, .slice av e.l.length cv] := Flds.new w TE _
  obtain ⟨W1, hW1⟩ : ∃ W1, w.alloc (.cells #[.int .i64 rk, .int .i64 rop, .int .i64 rv.k, .int .i64 rv.n, .string rv.s, .string rtb, .string rnm, .slice av e.l.length cv] TE) = W1 := ⟨_, rfl⟩
  rw [hW1] at hb0 hfe
  have hcl := egood_any hsl hft (h.later hb0)
  have HSD := Lib.hid (fun (hg : goodB 20 e true = true) (W : World) (hb : Below w.heap.size w W) => show_deep m (d' + 1) hd X e ⟨rk, rop, rv, rtb, rnm, .slice av e.l.length cv⟩ W false hsl hft (HGE.out hg) hpl (htb.later hb) (h.later hb))
  obtain ⟨G, hG⟩ : ∃ G, goodB 20 e true = G := ⟨_, rfl⟩
  rw [hG] at hcl HSD ⊢
  unfold Er.val at hcl HSD ⊢
  dsimp only at hcl HSD ⊢
  have HCL := Lib.hid hcl
  have HB0 := Lib.hid hb0
  have HFE := Lib.hid hfe
  have HW1 := Lib.hid hW1
  clear hcl hb0 hfe hW1 hG h htb hsl hft hpl HGE
  go_enter Tryd.func13, Tryd.ntmps13
  go_upto_region 1 with fail
  rw [HW1.out]
  obtain ⟨q0, q1, q2, q3, q4, q5, q6, q7, l1⟩ := of_fe HFE.out
  cases G with
  | false =>
    go_wp2_with (go_at_call 10; refine HCL.out.mono ?_; rintro en w5 ⟨rfl, hb5⟩; have HB5 := Lib.hid (HB0.out.trans (hb5.mono HB0.out.size)); clear hb5)
    go_ret
    exact ⟨rfl, HB5.out⟩
  | true =>
    go_wp2_with (first
      | (go_at_call 10; refine HCL.out.mono ?_; rintro en w5 ⟨rfl, hb5⟩; have HB5 := Lib.hid (HB0.out.trans (hb5.mono HB0.out.size)); obtain ⟨e0, e1, e2, e3, e4, e5, e6, e7, l2⟩ := of_fe (HFE.out.later hb5); clear hb5)
      | (go_at_call 23; refine (HSD.out (by trivial) _ HB5.out).mono ?_; rintro en w6 ⟨rfl, hb6⟩; have HB6 := Lib.hid (HB5.out.trans (hb6.mono HB5.out.size)); clear hb6))
    go_ret
    exact ⟨rfl, HB6.out⟩
end Go.Proofs.YtfnajccnlcfbiaaDoor.ex
