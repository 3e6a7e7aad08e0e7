/- What an expression is of a row, by the document; walked. -/
import Derived.Test.YtjnlimahcodomaaCheckG
import Derived.Test.YtjnlimahcodomaaCheckF
namespace Go.Proofs.Ytjnlimahcodomaa.ck
set_option linter.unusedVariables false
open Go.RowKit
open val (V null doV fitB notV negV ofB ofN ofS gB vv ag3 TR)
open ex (Ex Er TE TQ ExAt of_fe plainP mayE mayE_kids Fit info_of exat_fields part_cells)
theorem infoR : (Try.prog.info? TR).map (fun i => (i.zero, i.size, i.bytes)) = some (some (.agg #[.int .i64 0, .int .i64 0, .string ⟨#[]⟩]), 3, 32) := by kernel_rfl
theorem neg_do {v : V} (h : val.Good v) (h0 : v.k ≠ 0) : doV 8 ⟨2, 0, ByteArray.empty⟩ v = negV v := by
  obtain ⟨k, n, s⟩ := v
  dsimp only at h0
  have hk := good_kind h
  dsimp only at hk
  have hc : -9223372036854775808 ≤ n ∧ n ≤ 9223372036854775807 → val.countV 8 0 n = if n = -9223372036854775808 then (0, 8) else (-n, 0) := fun hn => by
    have e1 : val.exact 8 0 n = -n := by unfold val.exact; simp
    unfold val.countV
    rw [if_neg (by omega), e1]
    by_cases hm : n = -9223372036854775808
    · rw [if_pos hm, if_neg (by omega)]
    · rw [if_neg hm, if_pos (by omega)]
  unfold doV negV
  dsimp only
  rw [if_neg (by decide)]
  rcases (by omega : k = 1 ∨ k = 2 ∨ k = 3) with rfl | rfl | rfl
  · rw [if_pos (by decide), if_neg (by decide), if_pos (by decide)]
  · rw [if_neg (by decide), if_neg (by decide), if_neg (by decide), if_neg (by decide), if_neg (by decide), hc (good_n h)]
    by_cases hm : n = -9223372036854775808
    · subst hm; rfl
    · rw [if_neg hm, if_neg hm]; rfl
  · rw [if_pos (by decide), if_neg (by decide), if_pos (by decide)]
theorem topV_not (op : Int) (v : V) (tb nm : ByteArray) (l : List Fd) (row : List V) (a : V) : topV 4 op v tb nm l row [a] = notV a := rfl
theorem notV_one : notV ⟨1, 1, ByteArray.empty⟩ = (ofB false, 0) := by
  unfold notV
  rw [if_neg (by decide), if_pos rfl, show (⟨1, 1, ByteArray.empty⟩ : V) = ofB true from rfl, val.veq_self]; rfl
theorem typed_not {g gg : Bool} {l : List Fd} {row : List V} {e x : Ex} (hro : RowOk l row) (hm : mayE e gg) (hft : Fit e) (hno : ∀ x ∈ e.parts, x.k ≠ 8) (hk : e.k = 4) (ht : (typeE g l e).2 = 0) (hx : x ∈ e.l) (hz : (evalE l row x).2 = 0) : (evalE l row x).1.k = 0 ∨ (evalE l row x).1.k = 1 := by
  obtain ⟨hp, -, hmk⟩ := mayE_kids.1 hm
  have h8 : e.k ≠ 8 := by omega
  have hnx : ∀ y ∈ x.parts, y.k ≠ 8 := fun y hy => hno y (by
      rw [ex.Ex.parts_eq, ex.partsL_flat]
      exact List.mem_cons_of_mem _ (List.mem_flatMap.2 ⟨x, hx, hy⟩))
  have htx := typed_kid h8 ht hx
  have hs := sound x g _ l row hro (hmk x hx) (hft.kid hx) hnx htx
  have hh : Has (typeE g l x).1 (evalE l row x).1 := by
    rcases hs with h | ⟨h, -⟩
    · exact h.2
    · omega
  have h1 : e.l.length = 1 := by
    unfold ex.Ex.plain plainP at hp
    omega
  obtain ⟨y, hy⟩ := List.length_eq_one_iff.1 h1
  rw [hy, List.mem_singleton] at hx
  subst hx
  rw [typeE_eq, if_neg (by rintro ⟨h, -⟩; exact h8 h), hk, hy] at ht
  have hf0 : firstE ([x].map (typeE g l)) = 0 := firstE_zero.2 (fun z hz => by simp only [List.map_cons, List.map_nil, List.mem_singleton] at hz; subst hz; exact htx)
  rw [if_neg (by rw [hf0]; exact fun h => h rfl)] at ht
  change (onlyT 1 (typeE g l x).1).2 = 0 at ht
  unfold onlyT at ht
  have hc : ¬ ((typeE g l x).1 ≠ 0 ∧ (typeE g l x).1 ≠ 1) := fun h => by rw [if_pos h] at ht; cases ht
  have := hh.2
  omega
set_option maxRecDepth 100000 in
set_option maxHeartbeats 8000000 in
theorem reval_any (a : Option Addr) (n cap : Nat) (l : List Fd) (hn : l.length = n) (hn8 : n ≤ 1000) (aR : Option Addr) (cR : Nat) (row : List V) (hro : RowOk l row) (g : Bool) : ∀ (d : Nat), d ≤ 1000 → ∀ (X : Nat → Prop) (e : Ex) (r : Er) (gg : Bool) (w : World), e.slim → Fit e → mayE e gg → (∀ x ∈ e.parts, x.k ≠ 8) → (typeE g l e).2 = 0 → ExAt TQ X d w e r → Row w (.slice a n cap) 3 n (fCells l) → Row w (.slice aR n cR) 3 n (vCells row) →
    Calls Try.prog 16 #[r.val, .slice a n cap, .slice aR n cR] w fun en w' => en = .returned (.tuple #[vv (evalE l row e).1, .int .i64 (evalE l row e).2]) ∧ Below w.heap.size w w'
  | 0, _, _, _, _, _, _, _, _, _, _, _, h, _, _ => h.elim
  | d + 1, hd, X, e, r, gg, w, hsl, hft, hm, hno, hty, h, hrw, hrv => by
    have IH := Lib.hid (fun (e : Ex) (r : Er) (gg : Bool) (w : World) (hs : e.slim) (hf : Fit e) (hm : mayE e gg) (hno : ∀ x ∈ e.parts, x.k ≠ 8) (hty : (typeE g l e).2 = 0) (h : ExAt TQ X d w e r) (hr : Row w (.slice a n cap) 3 n (fCells l)) (hv : Row w (.slice aR n cR) 3 n (vCells row)) => reval_any a n cap l hn hn8 aR cR row hro g d (by omega) X e r gg w hs hf hm hno hty h hr hv)
    obtain ⟨hsl1, hsl2⟩ := ex.Ex.slim_parts hsl
    obtain ⟨hmp, h8, hmk⟩ := mayE_kids.1 hm
    have hk8 : e.k ≠ 8 := hno e (by rw [ex.Ex.parts_eq]; exact List.mem_cons_self ..)
    have hnok : ∀ x ∈ e.l, ∀ y ∈ x.parts, y.k ≠ 8 := fun x hx y hy => hno y (by
      rw [ex.Ex.parts_eq, ex.partsL_flat]
      exact List.mem_cons_of_mem _ (List.mem_flatMap.2 ⟨x, hx, hy⟩))
    obtain ⟨av, cv, us, hlv, hul, hrow, hch⟩ := h.parts
    obtain ⟨f1, f2, f3, f4, f5⟩ := exat_fields h
    have hte := evalE_eq l row e
    rw [← f1, ← f2, ← f3, ← f4, ← f5] at hte
    rw [← f1] at hk8
    have HPP : Hid (plainP r.k r.op r.v r.tb r.nm e.l.length) := Lib.hid (by have h := hmp; unfold ex.Ex.plain at h; rw [← f1, ← f2, ← f3, ← f4, ← f5] at h; exact h)
    have HGD := Lib.hid (fun x (hx : x ∈ e.l) => ans_good (sound x g _ l row hro (hmk x hx) (hft.kid hx) (hnok x hx) (typed_kid (by rw [f1] at hk8; exact hk8) hty hx)))
    have HTY := Lib.hid (fun x (hx : x ∈ e.l) => typed_kid (by rw [f1] at hk8; exact hk8) hty hx)
    have HNO := Lib.hid hnok
    have HN4 := Lib.hid (fun (h4 : r.k = 4) x (hx : x ∈ e.l) hz => typed_not hro hm hft hno (by rw [← f1]; exact h4) hty hx hz)
    obtain ⟨m, hm'⟩ : ∃ m, e.l.length = m := ⟨_, rfl⟩
    rw [hm'] at hlv hul hrow hsl1 HPP
    have HN := Lib.hid hm'; have HUL := Lib.hid hul; have HR := Lib.hid hrow; have HC := Lib.hid hch; have HSL := Lib.hid hsl2
    have HMK := Lib.hid hmk; have HFK := Lib.hid (fun x (hx : x ∈ e.l) => hft.kid hx)
    have HRW := Lib.hid hrw
    have HRV := Lib.hid hrv
    have HLN := Lib.hid hn
    have HRO := Lib.hid hro
    have hm0 : (0 : Int) ≤ (m : Int) := by omega
    have hm1 : (m : Int) ≤ 1000 := by omega
    have hn0 : (0 : Int) ≤ (n : Int) := by omega
    obtain ⟨rk, rop, rv, rtb, rnm, rlv⟩ := r
    dsimp only at hlv hte HPP hk8 HN4
    subst hlv
    unfold Er.val
    dsimp only
    obtain ⟨T, hT⟩ : ∃ T, evalE l row e = T := ⟨_, rfl⟩
    rw [hT] at hte ⊢
    have HT2 : Hid (T = if firstE (e.l.map (evalE l row)) ≠ 0 then (null, firstE (e.l.map (evalE l row))) else topV rk rop rv rtb rnm l row (e.l.map (fun x => (evalE l row x).1))) := Lib.hid hte
    obtain ⟨WX, hW1⟩ : ∃ WX, ((w.alloc (.cells #[.int .i64 rk, .int .i64 rop, .int .i64 rv.k, .int .i64 rv.n, .string rv.s, .string rtb, .string rnm, .slice av m cv] TQ)).alloc (.cells #[.int .i64 0, .int .i64 0, .string (ByteArray.mk #[])] TR)).alloc (.cells #[.int .i64 0, .int .i64 0, .string (ByteArray.mk #[])] TR) = WX := ⟨_, rfl⟩
    obtain ⟨G6, hG6⟩ : ∃ G6, w.heap.size + 1 = G6 := ⟨_, rfl⟩
    have hfe : Flds WX w.heap.size TQ [.int .i64 rk, .int .i64 rop, .int .i64 rv.k, .int .i64 rv.n, .string rv.s, .string rtb, .string rnm, .slice av m cv] := by rw [← hW1]; exact ((Flds.new w TQ _).alloc _).alloc _
    obtain ⟨G8, hG8⟩ : ∃ G8, w.heap.size + 1 + 1 = G8 := ⟨_, rfl⟩
    have hf6 : Flds WX G6 TR [.int .i64 0, .int .i64 0, .string (ByteArray.mk #[])] := by
      rw [← hW1, ← hG6]
      have := Flds.new (w.alloc (.cells #[.int .i64 rk, .int .i64 rop, .int .i64 rv.k, .int .i64 rv.n, .string rv.s, .string rtb, .string rnm, .slice av m cv] TQ)) TR [.int .i64 0, .int .i64 0, .string (ByteArray.mk #[])]
      rw [World.size_alloc] at this
      exact this.alloc _
    have hf8 : Flds WX G8 TR [.int .i64 0, .int .i64 0, .string (ByteArray.mk #[])] := by
      rw [← hW1, ← hG8]
      have := Flds.new ((w.alloc (.cells #[.int .i64 rk, .int .i64 rop, .int .i64 rv.k, .int .i64 rv.n, .string rv.s, .string rtb, .string rnm, .slice av m cv] TQ)).alloc (.cells #[.int .i64 0, .int .i64 0, .string (ByteArray.mk #[])] TR)) TR [.int .i64 0, .int .i64 0, .string (ByteArray.mk #[])]
      rw [World.size_alloc, World.size_alloc] at this
      exact this
    have hb0 : Below w.heap.size w WX := by rw [← hW1]; exact (((Below.refl _ _).alloc (Nat.le_refl _) _).alloc (by simp) _).alloc (by simp; omega) _
    have HFE := Lib.hid hfe; have HB0 := Lib.hid hb0; have HW1 := Lib.hid hW1; have HG6 := Lib.hid hG6; have HF6 := Lib.hid hf6; have HF8 := Lib.hid hf8; have HG8 := Lib.hid hG8
    have HWG : Hid (w.heap.size < WX.heap.size ∧ G6 < WX.heap.size ∧ G8 < WX.heap.size) := Lib.hid ⟨hfe.lt, hf6.lt, hf8.lt⟩
    obtain ⟨e0, e1, e2, e3, e4, e5, e6, e7, l5⟩ := of_fe hfe
    obtain ⟨r0, r1, r2, z0, z1, z2, l6⟩ := fd3z hf6
    -- a value is stored into the result
    have HFIN := Lib.hid (fun (W2 : World) (hf : Flds W2 G6 TR [.int .i64 0, .int .i64 0, .string (ByteArray.mk #[])]) (hb : Below w.heap.size w W2) (k n : Int) (s : ByteArray) => (⟨((hf.set 0 (.int .i64 k)).set 1 (.int .i64 n)).set 2 (.string s), ((hb.setCell (by show _ ≤ G6; omega) _).setCell (by show _ ≤ G6; omega) _).setCell (by show _ ≤ G6; omega) _⟩ : Flds (((W2.setCell ⟨G6, 0, none⟩ (.int .i64 k)).setCell ⟨G6, 1, none⟩ (.int .i64 n)).setCell ⟨G6, 2, none⟩ (.string s)) G6 TR [.int .i64 k, .int .i64 n, .string s] ∧ Below w.heap.size w (((W2.setCell ⟨G6, 0, none⟩ (.int .i64 k)).setCell ⟨G6, 1, none⟩ (.int .i64 n)).setCell ⟨G6, 2, none⟩ (.string s))))
    clear hfe hf6 hf8 hb0 hW1 hG6 hG8 hT hm' hul hrow hch hsl hsl2 hft hmk hmp hm h8 h hrw hrv hte f1 f2 f3 f4 f5 hn hro hno hnok hty
    obtain ⟨i0, hi, hz0, hz1, hz2⟩ := info_of infoR
    go_enter Try.func16, Try.ntmps16
    go_upto_region 2 with fail
    rw [HW1.out, HG8.out, HG6.out]
    have HB2 := HB0
    have HF2 := HFE
    have H62 := HF6
    have H82 := HF8
    have HO2 : Hid (WX.ownsRow WX.heap.size TR 3 (.slice none 0 0) 0 []) := Lib.hid (World.ownsRow_nil _ _ _ _)
    have HZ2 : Hid (WX.heap.size ≤ WX.heap.size) := Lib.hid (Nat.le_refl _)
    clear e0 e1 e2 e3 e4 e5 e6 e7 l5 r0 r1 r2 z0 z1 z2 l6
    obtain ⟨e0, e1, e2, e3, e4, e5, e6, e7, l2⟩ := of_fe HF2.out
    go_wp2_with fail
    go_loopw [9, 10] (fun sv i wr => ∃ (j : Nat) (aO : Option Addr) (cO : Nat), i = .int .i64 (j : Int) ∧ j ≤ m ∧ sv = .slice aO j cO ∧ Hid (wr.ownsRow WX.heap.size TR 3 (.slice aO j cO) j (vCells (valsE l row (e.l.take j)))) ∧ Hid (∀ y ∈ e.l.take j, (evalE l row y).2 = 0) ∧ Hid (WX.heap.size ≤ wr.heap.size) ∧ Hid (Flds wr w.heap.size TQ [.int .i64 rk, .int .i64 rop, .int .i64 rv.k, .int .i64 rv.n, .string rv.s, .string rtb, .string rnm, .slice av m cv]) ∧ Hid (Flds wr G6 TR [.int .i64 0, .int .i64 0, .string (ByteArray.mk #[])]) ∧ Hid (Flds wr G8 TR [.int .i64 0, .int .i64 0, .string (ByteArray.mk #[])]) ∧ Hid (Below w.heap.size w wr)) (fun _ i _ => m - (intOf i).toNat)
    case atStart => exact ⟨0, _, _, rfl, Nat.zero_le _, rfl, HO2, Lib.hid (by simp), HZ2, HF2, H62, H82, HB2⟩
    case round =>
      obtain ⟨j, aO, cO, rfl, hj, rfl, HO, HZ0, HZW, HF, H6, H8, HB⟩ := hrel
      clear e0 e1 e2 e3 e4 e5 e6 e7 l2
      have j0 : (0 : Int) ≤ (j : Int) := by omega
      obtain ⟨y0, y1, y2, y3, y4, y5, y6, y7, l3⟩ := of_fe HF.out
      by_cases hjn : j < m
      · have dj : (j : Int) < (m : Int) := by omega
        have hja : j < e.l.length := by have := HN.out; omega
        have hju : j < us.length := by have := HUL.out; omega
        have hx := List.getElem?_eq_getElem hja
        have hu := List.getElem?_eq_getElem hju
        have HXS := Lib.hid (HSL.out _ (List.getElem_mem hja))
        have HXF := Lib.hid (HFK.out _ (List.getElem_mem hja))
        have HXM := Lib.hid (HMK.out _ (List.getElem_mem hja))
        have HXN := Lib.hid (HNO.out _ (List.getElem_mem hja))
        have HXT := Lib.hid (HTY.out _ (List.getElem_mem hja))
        generalize e.l[j] = x at hx HXS HXF HXM HXN HXT
        generalize us[j] = u at hu
        have hxu := (HC.out j x u hx hu).later HB.out
        obtain ⟨ga, rfl, hga, c0, c1, c2, c3, c4, c5, c6, c7⟩ := part_cells (owns_below HR.out HB.out) hjn hu
        obtain ⟨d', rfl⟩ := hxu.pos
        obtain ⟨au, cu, us', hul', -⟩ := hxu.parts
        obtain ⟨uk, uop, uv, utb, unm, ulv⟩ := u
        dsimp only at hul' c0 c1 c2 c3 c4 c5 c6 c7
        subst hul'
        have hb4 : Below wr.heap.size wr wr := Below.refl _ _
        have hcl := IH.out x ⟨uk, uop, uv, utb, unm, .slice au x.l.length cu⟩ _ _ HXS.out HXF.out HXM.out HXN.out HXT.out (hxu.later hb4) (HRW.out.later (HB.out.trans (hb4.mono HB.out.size))) (HRV.out.later (HB.out.trans (hb4.mono HB.out.size)))
        unfold Er.val at hcl
        dsimp only at hcl
        have HKT := Lib.hid (valsE_take (l := l) (row := row) hx)
        have HZT := Lib.hid (vzero_take (l := l) (row := row) hx HZ0.out)
        have HET := Lib.hid (verr_at (l := l) (row := row) hx HZ0.out)
        obtain ⟨P, hP⟩ : ∃ P, evalE l row x = P := ⟨_, rfl⟩
        obtain ⟨⟨VK, VN, VS⟩, EX⟩ := P
        rw [hP] at hcl HKT HZT HET
        dsimp only at hcl HKT HZT HET
        have HCL := Lib.hid hcl
        have HB4 := Lib.hid hb4
        have h63 : j + 1 ≤ maxLen := by unfold maxLen; omega
        have h64 : (j + 1) * 32 ≤ 140737488355328 := by omega
        clear hx hu hxu hja hju hcl hb4 hP
        -- behind the call, the box of its value
        by_cases hE : EX = 0
        · subst hE
          go_upto_region 7 with (go_at_call 16; refine HCL.out.mono ?_; rintro en w5 ⟨rfl, hb5⟩; have HB5 := Lib.hid (HB4.out.trans (hb5.mono HB4.out.size)); clear hb5)
          obtain ⟨WA, hWA⟩ : ∃ WA, w5.alloc (.cells #[.int .i64 VK, .int .i64 VN, .string VS] TR) = WA := ⟨_, rfl⟩
          obtain ⟨GA, hGA⟩ : ∃ GA, w5.heap.size = GA := ⟨_, rfl⟩
          have hfA : Flds WA GA TR [.int .i64 VK, .int .i64 VN, .string VS] := by rw [← hWA, ← hGA]; exact Flds.new w5 TR _
          have hbA : Below wr.heap.size wr WA := by rw [← hWA]; exact HB5.out.trans (((Below.refl _ _).alloc (Nat.le_refl _) _).mono HB5.out.size)
          rw [hWA]
          try rw [hGA]
          obtain ⟨q0, q1, q2, v0, v1, v2, lA⟩ := fd3z hfA
          have HBA := Lib.hid hbA
          clear hWA hGA hfA hbA
          have HB6 := Lib.hid (HBA.out.trans (((Below.refl _ _).alloc (Nat.le_refl _) (.cells #[.int .i64 VK, .int .i64 VN, .string VS] TR)).mono HBA.out.size))
          have HO6 := Lib.hid (owns_below HO.out HB6.out)
          have HF6' := Lib.hid (HF.out.later HB6.out)
          have H66 := Lib.hid (H6.out.later HB6.out)
          have H88 := Lib.hid (H8.out.later HB6.out)
          have HC6 := Lib.hid (Flds.new WA TR [.int .i64 VK, .int .i64 VN, .string VS])
          have HS6 : Hid (WX.heap.size ≤ (WA.alloc (.cells #[.int .i64 VK, .int .i64 VN, .string VS] TR)).heap.size) := Lib.hid (by have h1 := HZW.out; have h2 := HB6.out.size; omega)
          go_wp2_with (at_builtin; refine wpList_append_row _ rfl (.tmp 38) (.tmp 40) 41 (by rfl) WX.heap.size TR i0 (.agg #[.int .i64 0, .int .i64 0, .string ⟨#[]⟩]) 3 32 Try.underlying41 hi hz0 hz1 hz2 rfl (by decide) (.slice aO j cO) j (vCells (valsE l row (e.l.take j))) (by rfl) HO6.out (.slice (some ⟨WA.heap.size, 0, none⟩) 1 1) 1 [.int .i64 VK, .int .i64 VN, .string VS] (by rfl) (Row.of_flds HC6.out rfl 1) (by intro u hu; simp only [List.mem_cons, List.not_mem_nil, or_false] at hu; rcases hu with rfl | rfl | rfl <;> rfl) h63 h64 HS6.out ?_; intro a9 c9 w9 hap; have HAP := Lib.hid hap; clear hap)
          go_roundw
          case rel =>
            have hlt := fun b (hb : (Value.slice aO j cO).ownBlock = some b) => (HO6.out.lt b hb).1
            have hw1 := HWG.out
            exact ⟨j + 1, a9, c9, by go_num, by omega, rfl, Lib.hid (by rw [HKT.out]; exact HAP.out.own), Lib.hid (by first | exact HZT.out rfl | exact HZT.out trivial), Lib.hid (Nat.le_trans HS6.out HAP.out.grown.size), Lib.hid (HF6'.out.grown HAP.out.grown (fun e => by have := hlt _ e.symm; omega)), Lib.hid (H66.out.grown HAP.out.grown (fun e => by have := hlt _ e.symm; omega)), Lib.hid (H88.out.grown HAP.out.grown (fun e => by have := hlt _ e.symm; omega)), Lib.hid ((HB.out.trans (HB6.out.mono HB.out.size)).grown HAP.out.grown (Nat.le_trans HB.out.size HB6.out.size) (fun b e => by have := hlt b e; omega))⟩
          case measure => simp [intOf]; omega
        · have bE : (EX != 0) = true := by simpa using hE
          have HTR : Hid (T = (null, EX)) := Lib.hid (by rw [HT2.out, HET.out hE, if_pos hE])
          clear hE
          go_upto_region 7 with (go_at_call 16; refine HCL.out.mono ?_; rintro en w5 ⟨rfl, hb5⟩; have HB5 := Lib.hid (HB4.out.trans (hb5.mono HB4.out.size)); clear hb5)
          obtain ⟨WA, hWA⟩ : ∃ WA, w5.alloc (.cells #[.int .i64 VK, .int .i64 VN, .string VS] TR) = WA := ⟨_, rfl⟩
          have hbA : Below wr.heap.size wr WA := by rw [← hWA]; exact HB5.out.trans (((Below.refl _ _).alloc (Nat.le_refl _) _).mono HB5.out.size)
          rw [hWA]
          have h6A := H6.out.later hbA
          obtain ⟨r0, r1, r2, z0, z1, z2, l6⟩ := fd3z h6A
          obtain ⟨s0, s1, s2, -, -, -, l8⟩ := fd3z (H8.out.later hbA)
          have HBA := Lib.hid (HB.out.trans (hbA.mono HB.out.size))
          have H6A := Lib.hid h6A
          clear hWA hbA h6A
          go_wp2_with fail
          obtain ⟨g1, g2⟩ := HFIN.out WA H6A.out HBA.out 0 0 (ByteArray.mk #[])
          generalize (((WA.setCell ⟨G6, 0, none⟩ (.int .i64 0)).setCell ⟨G6, 1, none⟩ (.int .i64 0)).setCell ⟨G6, 2, none⟩ (.string (ByteArray.mk #[]))) = W9 at g1 g2 ⊢
          obtain ⟨k0, k1, k2, -, k3⟩ := fd3 g1
          refine bodyPost_ret (v := .tuple #[vv null, .int .i64 EX]) (by simp [results, Try.results16, go_sem, k0, k1, k2]; first | done | exact ⟨rfl, rfl, rfl⟩ | rfl) rfl ⟨by rw [HTR.out], g2⟩
      · have dj : ¬ (j : Int) < (m : Int) := by omega
        obtain rfl : j = m := by omega
        have hz := HZ0.out
        rw [List.take_of_length_le (by have := HN.out; omega)] at hz
        have HTT : Hid (T = topV rk rop rv rtb rnm l row (valsE l row e.l)) := Lib.hid (by
          have h0 : firstE (e.l.map (evalE l row)) = 0 := firstE_zero.2 (fun y hy => by obtain ⟨z, hz', rfl⟩ := List.mem_map.1 hy; exact hz z hz')
          rw [HT2.out, h0, if_neg (fun h => h rfl)]; rfl)
        have hown := HO.out
        rw [List.take_of_length_le (by have := HN.out; omega)] at hown
        have HKR := Lib.hid (Row.of_owns hown)
        have HK0 : Hid (∀ v ∈ valsE l row e.l, val.Good v) := Lib.hid (fun k hk => by
          unfold valsE at hk
          obtain ⟨x, hx, rfl⟩ := List.mem_map.1 hk
          exact HGD.out x hx)
        have HK4 : Hid (rk = 4 → ∀ v ∈ valsE l row e.l, v.k = 0 ∨ v.k = 1) := Lib.hid (fun h4 v hv => by
          unfold valsE at hv
          obtain ⟨x, hx, rfl⟩ := List.mem_map.1 hv
          exact HN4.out h4 x hx (hz x hx))
        have HKL : Hid ((valsE l row e.l).length = j) := Lib.hid (by unfold valsE; rw [List.length_map]; exact HN.out)
        clear hown HO hz HT2
        generalize valsE l row e.l = vs at HTT HKR HK0 HKL HK4
        obtain ⟨r0, r1, r2, z0, z1, z2, l6⟩ := fd3z H6.out
        obtain ⟨s0, s1, s2, -, -, -, l8⟩ := fd3z H8.out
        have hpp := HPP.out
        unfold plainP at hpp
        rcases hpp with ⟨rfl, -⟩ | ⟨rfl, -, -, -⟩ | ⟨rfl, -, -, -, hj2, ho1, ho2⟩ | ⟨hk', -, -, -, -, hj1⟩ | ⟨rfl, -⟩
        · have HTR : Hid (T = (rv, 0)) := Lib.hid (by rw [HTT.out]; rfl)
          clear HTT
          as_aux_lemma =>
          go_wp2_with fail
          obtain ⟨g1, g2⟩ := HFIN.out wr H6.out HB.out rv.k rv.n rv.s
          generalize (((wr.setCell ⟨G6, 0, none⟩ (.int .i64 rv.k)).setCell ⟨G6, 1, none⟩ (.int .i64 rv.n)).setCell ⟨G6, 2, none⟩ (.string rv.s)) = W9 at g1 g2 ⊢
          obtain ⟨k0, k1, k2, -, k3⟩ := fd3 g1
          refine bodyPost_ret (v := .tuple #[vv rv, .int .i64 0]) (by simp [results, Try.results16, go_sem, k0, k1, k2]; first | done | exact ⟨rfl, rfl, rfl⟩ | rfl) rfl ⟨by rw [HTR.out]; first | done | rfl, g2⟩
        · have hrw := HRW.out.later HB.out
          have hca := rfind_any a n cap l ⟨2, rop, rv, rtb, rnm, .slice av j cv⟩ av j cv rfl HLN.out hn8 wr hrw
          unfold Er.val at hca
          dsimp only at hca
          have HCA := Lib.hid hca
          have HFL := Lib.hid (fun (hf : (findF l rtb rnm).2 = 0) => findF_lt hf)
          have HTR : Hid (T = if (findF l rtb rnm).2 = 0 then (row.getD (findF l rtb rnm).1 null, 0) else (null, (findF l rtb rnm).2)) := Lib.hid (by rw [HTT.out]; rfl)
          obtain ⟨P, hP⟩ : ∃ P, findF l rtb rnm = P := ⟨_, rfl⟩
          obtain ⟨F, E⟩ := P
          rw [hP] at HCA HFL HTR
          dsimp only at HCA HFL HTR
          clear HTT hrw hca hP r0 r1 r2 z0 z1 z2 l6 s0 s1 s2 l8
          by_cases hE : E = 0
          · subst hE
            have hF := HFL.out rfl
            have hFn : F < n := by rw [← HLN.out]; exact hF
            obtain ⟨⟨vk, vn, vs'⟩, hf⟩ : ∃ v, row[F]? = some v := ⟨_, List.getElem?_eq_getElem (by rw [HRO.out.len]; exact hF)⟩
            obtain ⟨bF, oF, rfl, hcs⟩ := v_at (HRV.out.later HB.out) hFn hf
            have HCS := Lib.hid hcs
            have HTS : Hid (T = (⟨vk, vn, vs'⟩, 0)) := Lib.hid (by rw [HTR.out, if_pos rfl, List.getD_eq_getElem?_getD, hf]; rfl)
            have F0 : (0 : Int) ≤ (F : Int) := by omega
            have F1 : (F : Int) < (n : Int) := by omega
            have F2 : decide ((n : Int) ≤ (F : Int)) = false := by simp; omega
            have F3 : ¬ (n : Int) ≤ (F : Int) := by omega
            clear hcs HTR HFL hF hf
            as_aux_lemma =>
            go_wp2_with (go_at_call 24; refine HCA.out.mono ?_; rintro en w5 ⟨rfl, hb5⟩; obtain ⟨q0, q1, q2, lq⟩ := HCS.out w5 hb5; obtain ⟨r0, r1, r2, z0, z1, z2, l6⟩ := fd3z (H6.out.later hb5); obtain ⟨s0, s1, s2, -, -, -, l8⟩ := fd3z (H8.out.later hb5); have HB5 := Lib.hid hb5; clear hb5)
            obtain ⟨g1, g2⟩ := HFIN.out w5 (H6.out.later HB5.out) (HB.out.trans (HB5.out.mono HB.out.size)) vk vn vs'
            generalize (((w5.setCell ⟨G6, 0, none⟩ (.int .i64 vk)).setCell ⟨G6, 1, none⟩ (.int .i64 vn)).setCell ⟨G6, 2, none⟩ (.string vs')) = W9 at g1 g2 ⊢
            obtain ⟨k0, k1, k2, -, k3⟩ := fd3 g1
            refine bodyPost_ret (v := .tuple #[ag3 vk vn vs', .int .i64 0]) (by simp [results, Try.results16, go_sem, k0, k1, k2]; first | done | exact ⟨rfl, rfl, rfl⟩ | rfl) rfl ⟨by rw [HTS.out]; first | done | rfl, g2⟩
          · have bE : (E != 0) = true := by simpa using hE
            have HTS : Hid (T = (null, E)) := Lib.hid (by rw [HTR.out, if_neg hE])
            clear HTR HFL hE
            as_aux_lemma =>
            go_wp2_with (go_at_call 24; refine HCA.out.mono ?_; rintro en w5 ⟨rfl, hb5⟩; obtain ⟨r0, r1, r2, z0, z1, z2, l6⟩ := fd3z (H6.out.later hb5); obtain ⟨s0, s1, s2, -, -, -, l8⟩ := fd3z (H8.out.later hb5); have HB5 := Lib.hid hb5; clear hb5)
            obtain ⟨g1, g2⟩ := HFIN.out w5 (H6.out.later HB5.out) (HB.out.trans (HB5.out.mono HB.out.size)) 0 0 (ByteArray.mk #[])
            generalize (((w5.setCell ⟨G6, 0, none⟩ (.int .i64 0)).setCell ⟨G6, 1, none⟩ (.int .i64 0)).setCell ⟨G6, 2, none⟩ (.string (ByteArray.mk #[]))) = W9 at g1 g2 ⊢
            obtain ⟨k0, k1, k2, -, k3⟩ := fd3 g1
            refine bodyPost_ret (v := .tuple #[vv null, .int .i64 E]) (by simp [results, Try.results16, go_sem, k0, k1, k2]; first | done | exact ⟨rfl, rfl, rfl⟩ | rfl) rfl ⟨by rw [HTS.out]; first | done | rfl, g2⟩
        · subst hj2
          obtain ⟨⟨ak, an, asx⟩, ⟨bk, bn, bs⟩, rfl⟩ : ∃ x y, vs = [x, y] := by
            have := HKL.out
            match vs, this with
            | [x, y], _ => exact ⟨x, y, rfl⟩
          obtain ⟨b, off, ha, hc0⟩ := v_at HKR.out (k := 0) (by decide) rfl
          obtain ⟨b', off', ha', hc1⟩ := v_at HKR.out (k := 1) (by decide) rfl
          obtain ⟨rfl, rfl⟩ := same_base ha ha'
          subst ha
          obtain ⟨D, hD⟩ : ∃ D, doV rop ⟨ak, an, asx⟩ ⟨bk, bn, bs⟩ = D := ⟨_, rfl⟩
          have hd := fun W => val.ref_do_any rop ak an bk bn asx bs W (HK0.out _ (by simp)) (HK0.out _ (by simp))
          simp only [hD] at hd
          obtain ⟨⟨Dk, Dn, Ds⟩, D2⟩ := D
          dsimp only at hd
          have HD := Lib.hid hd
          have HTR : Hid (T = (⟨Dk, Dn, Ds⟩, D2)) := Lib.hid (by rw [HTT.out]; exact hD)
          have HE := Lib.hid (fun (W : World) (hb : Below wr.heap.size wr W) => of_fe (HF.out.later hb))
          have HC0 := Lib.hid hc0; have HC1 := Lib.hid hc1
          clear HTT hD hd hc0 hc1 ha' r0 r1 r2 z0 z1 z2 l6 s0 s1 s2 l8 ho1 ho2
          go_upto_region 19 with fail
          clear y0 y1 y2 y3 y4 y5 y6 y7 l3
          apply ag.region_calm_tail 11 (ag.Spec.val _ :: ag.Spec.val _ :: ag.Spec.val _ :: ag.Spec.val _ :: ag.Spec.val _ :: ag.Spec.val _ :: ag.Spec.val _ :: ag.Spec.val _ :: ag.Spec.sat (fun v _ => v = .tuple #[ag3 Dk Dn Ds, .int .i64 D2]) ag.grew :: ag.Spec.val _ :: ag.Spec.val _ :: [])
          case hm => kernel_rfl
          case hB => kernel_rfl
          case hlen => rfl
          case hc => exact ⟨⟨ag.lasts_eq _, rfl⟩, trivial⟩
          simp only [List.take_succ_cons, List.take_zero, List.drop_succ_cons, List.drop_zero]
          apply ag.walk_val
          · rfl
          · intro W1 hS hE
            obtain ⟨y0, y1, y2, y3, y4, y5, y6, y7, l3⟩ := HE.out W1 hS
            clear hS hE
            unfold ag.does
            go_simp
            first | done | exact ⟨rfl, rfl⟩ | rfl | (exact ⟨by go_num, rfl⟩) | (simp; done) | trace_state
          simp only [Act.put, List.setIfInBounds_toArray, List.set_cons_zero, List.set_cons_succ]
          apply ag.walk_val
          · rfl
          · intro W1 hS hE
            obtain ⟨y0, y1, y2, y3, y4, y5, y6, y7, l3⟩ := HE.out W1 hS
            clear hS hE
            unfold ag.does
            go_simp
            first | done | exact ⟨rfl, rfl⟩ | rfl | (exact ⟨by go_num, rfl⟩) | (simp; done) | trace_state
          simp only [Act.put, List.setIfInBounds_toArray, List.set_cons_zero, List.set_cons_succ]
          apply ag.walk_val
          · rfl
          · intro W1 hS hE
            clear hS hE
            unfold ag.does
            go_simp
            first | done | exact ⟨rfl, rfl⟩ | rfl | (exact ⟨by go_num, rfl⟩) | (simp; done) | trace_state
          simp only [Act.put, List.setIfInBounds_toArray, List.set_cons_zero, List.set_cons_succ]
          apply ag.walk_val
          · rfl
          · intro W1 hS hE
            clear hS hE
            unfold ag.does
            go_simp
            first | done | exact ⟨rfl, rfl⟩ | rfl | (exact ⟨by go_num, rfl⟩) | (simp; done) | trace_state
          simp only [Act.put, List.setIfInBounds_toArray, List.set_cons_zero, List.set_cons_succ]
          apply ag.walk_val
          · rfl
          · intro W1 hS hE
            obtain ⟨q0, q1, q2, lq⟩ := HC0.out W1 hS
            (try simp only [Nat.zero_mul, Nat.add_zero] at q0 q1 q2)
            clear hS hE
            unfold ag.does
            go_simp
            first | done | exact ⟨rfl, rfl⟩ | rfl | (exact ⟨by go_num, rfl⟩) | (simp; done) | trace_state
          simp only [Act.put, List.setIfInBounds_toArray, List.set_cons_zero, List.set_cons_succ]
          apply ag.walk_val
          · rfl
          · intro W1 hS hE
            clear hS hE
            unfold ag.does
            go_simp
            first | done | exact ⟨rfl, rfl⟩ | rfl | (exact ⟨by go_num, rfl⟩) | (simp; done) | trace_state
          simp only [Act.put, List.setIfInBounds_toArray, List.set_cons_zero, List.set_cons_succ]
          apply ag.walk_val
          · rfl
          · intro W1 hS hE
            clear hS hE
            unfold ag.does
            go_simp
            first | done | exact ⟨rfl, rfl⟩ | rfl | (exact ⟨by go_num, rfl⟩) | (simp; done) | trace_state
          simp only [Act.put, List.setIfInBounds_toArray, List.set_cons_zero, List.set_cons_succ]
          apply ag.walk_val
          · rfl
          · intro W1 hS hE
            obtain ⟨q0, q1, q2, lq⟩ := HC1.out W1 hS
            (try simp only [Nat.one_mul] at q0 q1 q2)
            clear hS hE
            unfold ag.does
            go_simp
            first | done | exact ⟨rfl, rfl⟩ | rfl | (exact ⟨by go_num, rfl⟩) | (simp; done) | trace_state
          simp only [Act.put, List.setIfInBounds_toArray, List.set_cons_zero, List.set_cons_succ]
          refine ag.walk_such (by rfl) (fun W1 hS hE => ?_) (fun y8 => ?_)
          · have hc := HD.out W1
            clear hE
            unfold ag.does
            go_simp
            first | done | (exact hc.mono (fun e w' h => ⟨_, h.1, rfl, h.2⟩))
          simp only [Act.put, List.setIfInBounds_toArray, List.set_cons_zero, List.set_cons_succ]
          apply ag.walk_val
          · rfl
          · intro W1 hS hE
            have f8 : y8 = .tuple #[ag3 Dk Dn Ds, .int .i64 D2] := hE.of 8 (by kernel_rfl)
            subst f8
            clear hS hE
            unfold ag.does
            go_simp
            first | done | exact ⟨rfl, rfl⟩ | rfl | (exact ⟨by go_num, rfl⟩) | (simp; done) | trace_state
          simp only [Act.put, List.setIfInBounds_toArray, List.set_cons_zero, List.set_cons_succ]
          apply ag.walk_val
          · rfl
          · intro W1 hS hE
            have f8 : y8 = .tuple #[ag3 Dk Dn Ds, .int .i64 D2] := hE.of 8 (by kernel_rfl)
            subst f8
            clear hS hE
            unfold ag.does
            go_simp
            first | done | exact ⟨rfl, rfl⟩ | rfl | (exact ⟨by go_num, rfl⟩) | (simp; done) | trace_state
          simp only [Act.put, List.setIfInBounds_toArray, List.set_cons_zero, List.set_cons_succ]
          refine ag.walk_nil (fun w9 hS hF hP => ?_)
          clear hP
          clear hF
          have HB5 := Lib.hid hS
          obtain ⟨r0, r1, r2, z0, z1, z2, l6⟩ := fd3z (H6.out.later hS)
          clear hS
          go_wp2_with fail
          obtain ⟨g1, g2⟩ := HFIN.out w9 (H6.out.later HB5.out) (HB.out.trans (HB5.out.mono HB.out.size)) Dk Dn Ds
          generalize (((w9.setCell ⟨G6, 0, none⟩ (.int .i64 Dk)).setCell ⟨G6, 1, none⟩ (.int .i64 Dn)).setCell ⟨G6, 2, none⟩ (.string Ds)) = W9 at g1 g2 ⊢
          obtain ⟨k0, k1, k2, -, k3⟩ := fd3 g1
          refine bodyPost_ret (v := .tuple #[ag3 Dk Dn Ds, .int .i64 D2]) (by simp [results, Try.results16, go_sem, k0, k1, k2]; first | done | exact ⟨rfl, rfl, rfl⟩ | rfl) rfl ⟨by rw [HTR.out]; first | done | rfl, g2⟩
        · subst hj1
          obtain ⟨⟨ak, an, asx⟩, rfl⟩ : ∃ x, vs = [x] := List.length_eq_one_iff.1 HKL.out
          have hgd := good_n (HK0.out ⟨ak, an, asx⟩ (by simp))
          dsimp only at hgd
          obtain ⟨b, off, rfl, hc0⟩ := v_at HKR.out (k := 0) (by decide) rfl
          obtain ⟨q0, q1, q2, lq⟩ := hc0 wr (Below.refl _ _)
          simp only [Nat.zero_mul, Nat.add_zero] at q0 q1 q2
          have HC0 := Lib.hid hc0
          clear hc0
          rcases hk' with rfl | rfl | rfl | rfl
          · have h4 := HK4.out rfl ⟨ak, an, asx⟩ (by simp)
            dsimp only at h4
            have hgd2 := HK0.out ⟨ak, an, asx⟩ (by simp)
            rcases h4 with rfl | rfl
            · have HTR : Hid (T = (null, 0)) := Lib.hid (by rw [HTT.out]; first | rfl | (rw [topV_not, notV_one]))
              clear HTT
              as_aux_lemma =>
              go_wp2_with fail
              obtain ⟨g1, g2⟩ := HFIN.out wr H6.out HB.out 0 0 (ByteArray.mk #[])
              generalize (((wr.setCell ⟨G6, 0, none⟩ (.int .i64 0)).setCell ⟨G6, 1, none⟩ (.int .i64 0)).setCell ⟨G6, 2, none⟩ (.string (ByteArray.mk #[]))) = W9 at g1 g2 ⊢
              obtain ⟨k0, k1, k2, -, k3⟩ := fd3 g1
              refine bodyPost_ret (v := .tuple #[vv null, .int .i64 0]) (by simp [results, Try.results16, go_sem, k0, k1, k2]; first | done | exact ⟨rfl, rfl, rfl⟩ | rfl) rfl ⟨by rw [HTR.out]; first | done | rfl, g2⟩

            · have h01 : (an = 0 ∨ an = 1) ∧ asx = ByteArray.empty := by
                rcases hgd2 with h | h | h | h
                · exfalso; have := h.1; dsimp only at this; omega
                · exact h.2
                · exfalso; have := h.1; dsimp only at this; omega
                · exfalso; have := h.1; dsimp only at this; omega
              obtain ⟨hn01, rfl⟩ := h01
              rcases hn01 with rfl | rfl
              · have HTR : Hid (T = (ofB true, 0)) := Lib.hid (by rw [HTT.out]; first | rfl | (rw [topV_not, notV_one]))
                clear HTT
                as_aux_lemma =>
                go_wp2_with fail
                obtain ⟨g1, g2⟩ := HFIN.out wr H6.out HB.out 1 1 (ByteArray.mk #[])
                generalize (((wr.setCell ⟨G6, 0, none⟩ (.int .i64 1)).setCell ⟨G6, 1, none⟩ (.int .i64 1)).setCell ⟨G6, 2, none⟩ (.string (ByteArray.mk #[]))) = W9 at g1 g2 ⊢
                obtain ⟨k0, k1, k2, -, k3⟩ := fd3 g1
                refine bodyPost_ret (v := .tuple #[vv (ofB true), .int .i64 0]) (by simp [results, Try.results16, go_sem, k0, k1, k2]; first | done | exact ⟨rfl, rfl, rfl⟩ | rfl) rfl ⟨by rw [HTR.out]; first | done | rfl, g2⟩

              · have HTR : Hid (T = (ofB false, 0)) := Lib.hid (by rw [HTT.out]; first | rfl | (rw [topV_not, notV_one]))
                clear HTT
                as_aux_lemma =>
                go_wp2_with fail
                obtain ⟨g1, g2⟩ := HFIN.out wr H6.out HB.out 1 0 (ByteArray.mk #[])
                generalize (((wr.setCell ⟨G6, 0, none⟩ (.int .i64 1)).setCell ⟨G6, 1, none⟩ (.int .i64 0)).setCell ⟨G6, 2, none⟩ (.string (ByteArray.mk #[]))) = W9 at g1 g2 ⊢
                obtain ⟨k0, k1, k2, -, k3⟩ := fd3 g1
                refine bodyPost_ret (v := .tuple #[vv (ofB false), .int .i64 0]) (by simp [results, Try.results16, go_sem, k0, k1, k2]; first | done | exact ⟨rfl, rfl, rfl⟩ | rfl) rfl ⟨by rw [HTR.out]; first | done | rfl, g2⟩

          · by_cases h0 : ak = 0
            · subst h0
              have HTR : Hid (T = (null, 0)) := Lib.hid (by rw [HTT.out]; first | rfl | (rw [topV_not, notV_one]))
              clear HTT
              as_aux_lemma =>
              go_wp2_with fail
              obtain ⟨g1, g2⟩ := HFIN.out wr H6.out HB.out 0 0 (ByteArray.mk #[])
              generalize (((wr.setCell ⟨G6, 0, none⟩ (.int .i64 0)).setCell ⟨G6, 1, none⟩ (.int .i64 0)).setCell ⟨G6, 2, none⟩ (.string (ByteArray.mk #[]))) = W9 at g1 g2 ⊢
              obtain ⟨k0, k1, k2, -, k3⟩ := fd3 g1
              refine bodyPost_ret (v := .tuple #[vv null, .int .i64 0]) (by simp [results, Try.results16, go_sem, k0, k1, k2]; first | done | exact ⟨rfl, rfl, rfl⟩ | rfl) rfl ⟨by rw [HTR.out]; first | done | rfl, g2⟩

            · have b0 : (ak == 0) = false := by simpa using h0
              have hnd := neg_do (HK0.out ⟨ak, an, asx⟩ (by simp)) h0
              obtain ⟨D, hD⟩ : ∃ D, negV ⟨ak, an, asx⟩ = D := ⟨_, rfl⟩
              have hd := fun W => val.ref_do_any 8 2 0 ak an ByteArray.empty asx W (.inr (.inr (.inl ⟨rfl, rfl, by decide, by decide⟩))) (HK0.out ⟨ak, an, asx⟩ (by simp))
              simp only [hnd, hD] at hd
              obtain ⟨⟨Dk, Dn, Ds⟩, D2⟩ := D
              dsimp only at hd
              have HCA := Lib.hid (hd wr)
              have HTR : Hid (T = (⟨Dk, Dn, Ds⟩, D2)) := Lib.hid (by rw [HTT.out]; exact hD)
              clear HTT hD hd hnd
              as_aux_lemma =>
              go_wp2_with (go_at_call 25; refine HCA.out.mono ?_; rintro en w5 ⟨rfl, hb5⟩; obtain ⟨r0, r1, r2, z0, z1, z2, l6⟩ := fd3z (H6.out.later hb5); have HB5 := Lib.hid hb5; clear hb5)
              obtain ⟨g1, g2⟩ := HFIN.out w5 (H6.out.later HB5.out) (HB.out.trans (HB5.out.mono HB.out.size)) Dk Dn Ds
              generalize (((w5.setCell ⟨G6, 0, none⟩ (.int .i64 Dk)).setCell ⟨G6, 1, none⟩ (.int .i64 Dn)).setCell ⟨G6, 2, none⟩ (.string Ds)) = W9 at g1 g2 ⊢
              obtain ⟨k0, k1, k2, -, k3⟩ := fd3 g1
              refine bodyPost_ret (v := .tuple #[ag3 Dk Dn Ds, .int .i64 D2]) (by simp [results, Try.results16, go_sem, k0, k1, k2]; first | done | exact ⟨rfl, rfl, rfl⟩ | rfl) rfl ⟨by rw [HTR.out]; first | done | rfl, g2⟩

          · by_cases h0 : ak = 0
            · subst h0
              have HTR : Hid (T = (ofB true, 0)) := Lib.hid (by rw [HTT.out]; show (ofB (decide ((0 : Int) = 0)), (0 : Int)) = _; rw [show decide ((0 : Int) = 0) = true by simp])
              clear HTT
              as_aux_lemma =>
              go_wp2_with fail
              obtain ⟨g1, g2⟩ := HFIN.out wr H6.out HB.out 1 1 (ByteArray.mk #[])
              generalize (((wr.setCell ⟨G6, 0, none⟩ (.int .i64 1)).setCell ⟨G6, 1, none⟩ (.int .i64 1)).setCell ⟨G6, 2, none⟩ (.string (ByteArray.mk #[]))) = W9 at g1 g2 ⊢
              obtain ⟨k0, k1, k2, -, k3⟩ := fd3 g1
              refine bodyPost_ret (v := .tuple #[vv (ofB true), .int .i64 0]) (by simp [results, Try.results16, go_sem, k0, k1, k2]; first | done | exact ⟨rfl, rfl, rfl⟩ | rfl) rfl ⟨by rw [HTR.out]; first | done | rfl, g2⟩
            · have b0 : (ak == 0) = false := by simpa using h0
              have HTR : Hid (T = (ofB false, 0)) := Lib.hid (by rw [HTT.out]; show (ofB (decide ((ak : Int) = 0)), (0 : Int)) = _; rw [show decide ((ak : Int) = 0) = false by simp [h0]])
              clear HTT
              as_aux_lemma =>
              go_wp2_with fail
              obtain ⟨g1, g2⟩ := HFIN.out wr H6.out HB.out 1 0 (ByteArray.mk #[])
              generalize (((wr.setCell ⟨G6, 0, none⟩ (.int .i64 1)).setCell ⟨G6, 1, none⟩ (.int .i64 0)).setCell ⟨G6, 2, none⟩ (.string (ByteArray.mk #[]))) = W9 at g1 g2 ⊢
              obtain ⟨k0, k1, k2, -, k3⟩ := fd3 g1
              refine bodyPost_ret (v := .tuple #[vv (ofB false), .int .i64 0]) (by simp [results, Try.results16, go_sem, k0, k1, k2]; first | done | exact ⟨rfl, rfl, rfl⟩ | rfl) rfl ⟨by rw [HTR.out]; first | done | rfl, g2⟩

          · by_cases h0 : ak = 0
            · subst h0
              have HTR : Hid (T = (ofB false, 0)) := Lib.hid (by rw [HTT.out]; show (ofB (decide ((0 : Int) ≠ 0)), (0 : Int)) = _; rw [show decide ((0 : Int) ≠ 0) = false by simp])
              clear HTT
              as_aux_lemma =>
              go_wp2_with fail
              obtain ⟨g1, g2⟩ := HFIN.out wr H6.out HB.out 1 0 (ByteArray.mk #[])
              generalize (((wr.setCell ⟨G6, 0, none⟩ (.int .i64 1)).setCell ⟨G6, 1, none⟩ (.int .i64 0)).setCell ⟨G6, 2, none⟩ (.string (ByteArray.mk #[]))) = W9 at g1 g2 ⊢
              obtain ⟨k0, k1, k2, -, k3⟩ := fd3 g1
              refine bodyPost_ret (v := .tuple #[vv (ofB false), .int .i64 0]) (by simp [results, Try.results16, go_sem, k0, k1, k2]; first | done | exact ⟨rfl, rfl, rfl⟩ | rfl) rfl ⟨by rw [HTR.out]; first | done | rfl, g2⟩
            · have b0 : (ak != 0) = true := by simpa using h0
              have HTR : Hid (T = (ofB true, 0)) := Lib.hid (by rw [HTT.out]; show (ofB (decide ((ak : Int) ≠ 0)), (0 : Int)) = _; rw [show decide ((ak : Int) ≠ 0) = true by simp [h0]])
              clear HTT
              as_aux_lemma =>
              go_wp2_with fail
              obtain ⟨g1, g2⟩ := HFIN.out wr H6.out HB.out 1 1 (ByteArray.mk #[])
              generalize (((wr.setCell ⟨G6, 0, none⟩ (.int .i64 1)).setCell ⟨G6, 1, none⟩ (.int .i64 1)).setCell ⟨G6, 2, none⟩ (.string (ByteArray.mk #[]))) = W9 at g1 g2 ⊢
              obtain ⟨k0, k1, k2, -, k3⟩ := fd3 g1
              refine bodyPost_ret (v := .tuple #[vv (ofB true), .int .i64 0]) (by simp [results, Try.results16, go_sem, k0, k1, k2]; first | done | exact ⟨rfl, rfl, rfl⟩ | rfl) rfl ⟨by rw [HTR.out]; first | done | rfl, g2⟩

        · exact absurd rfl hk8
end Go.Proofs.Ytjnlimahcodomaa.ck
