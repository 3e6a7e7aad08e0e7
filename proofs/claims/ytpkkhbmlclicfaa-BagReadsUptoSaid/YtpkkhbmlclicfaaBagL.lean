/- The bag of a key, walked. -/
import Derived.Test.YtpkkhbmlclicfaaMH
import Derived.Test.YtpkkhbmlclicfaaMD
import Derived.Test.YtpkkhbmlclicfaaBagV
namespace Go.Proofs.Ytpkkhbmlclicfaa.val
set_option linter.unusedVariables false
open Go.RowKit Go.Sort
attribute [local go_sem ↓ high] apZ_eq
/-- what Get says of a text -/
def GetB (s : ByteArray) (o : BL) (er : Int) : Prop :=
  ((splitS s).2 = false ∧ er = 2 ∧ o = []) ∨ ((splitS s).2 = true ∧ errK (splitS s).1 ≠ 0 ∧ er = errK (splitS s).1 ∧ o = []) ∨
  ((splitS s).2 = true ∧ errK (splitS s).1 = 0 ∧ ∃ ls, KeyRows (splitS s).1 ls ∧ ((¬ Adj ls ∧ er = 4 ∧ o = []) ∨ (Adj ls ∧ er = 0 ∧ (∀ r, cnt o r = cnt (once ls) r) ∧ total o = ls.length)))
set_option maxRecDepth 100000 in
set_option maxHeartbeats 8000000 in
theorem bagget_any (s : ByteArray) (hs : s.size ≤ 4000000) (w : World) : Calls Try.prog 11 #[.string s] w fun e w' => ∃ bv er, e = .returned (.tuple #[bv, .int .i64 er]) ∧ ∃ o, IsBag w' bv o ∧ GetB s o er ∧ Below w.heap.size w w' := by
  obtain ⟨i0, hi, hz0, hz1, hz2⟩ := info_parts infoRow
  obtain ⟨W1, hW1⟩ : ∃ W1, w.alloc (.cells #[.slice none 0 0] TB) = W1 := ⟨_, rfl⟩
  have hb1 : Below w.heap.size w W1 := by rw [← hW1]; exact (Below.refl _ _).alloc (Nat.le_refl _) _
  have hfl : Flds W1 w.heap.size TB [.slice none 0 0] := by rw [← hW1]; exact Flds.new w TB [.slice none 0 0]
  obtain ⟨hsl, hsm⟩ := split_len _ s (Nat.le_refl _)
  have HB1 := Lib.hid hb1
  have HFL := Lib.hid hfl
  obtain ⟨wh, hwh⟩ : ∃ wh, (splitS s).2 = wh := ⟨_, rfl⟩
  obtain ⟨ss, hss⟩ : ∃ ss, (splitS s).1 = ss := ⟨_, rfl⟩
  rw [hss] at hsl hsm
  have HWH := Lib.hid hwh
  have HSS := Lib.hid hss
  have hsp : Calls Try.prog 28 #[.string s] W1 fun e w' => ∃ v, e = .returned (.tuple #[v, .int .i64 (if wh then 0 else 2)]) ∧ (if wh then w'.ownsRow W1.heap.size 9 1 v ss.length (ss.map Value.string) else v = .slice none 0 0) ∧ Below W1.heap.size W1 w' := by
    refine (split_any s W1 (by omega)).mono ?_
    rintro e w' ⟨v, h1, h2, h3⟩
    rw [HWH.out, HSS.out] at *
    exact ⟨v, h1, h2, h3⟩
  have HSP := Lib.hid hsp
  clear hsp
  have HSM := Lib.hid hsm
  clear hb1 hfl hwh hss hsm
  go_enter Try.func11, Try.ntmps11
  go_upto_region 1 with fail
  clear hW1
  obtain ⟨g0, hg0⟩ : ∃ g0, w.heap.size = g0 := ⟨_, rfl⟩
  rw [hg0] at HFL ⊢
  cases wh with
  | false =>
    go_wp2_with (go_at_call 28; (with_reducible refine (HSP.out).mono ?_); rintro e w2 ⟨v, rfl, hv, hb2⟩; simp only [Bool.false_eq_true, if_false] at hv; subst hv; have hf2 := HFL.out.later hb2; have q0 := hf2.cell 0; have qf := hf2.frozen 0; simp only [List.getElem?_cons_zero] at q0; have ql := hf2.lt; have HB2 := Lib.hid (HB1.out.trans (hb2.mono HB1.out.size)); clear hb2 hf2)
    have HBE := Lib.hid (HB2.out.setCell (p := ⟨g0, 0, none⟩) (by rw [hg0]; exact Nat.le_refl _) (.slice none 0 0))
    refine bodyPost_ret (v := .tuple #[.agg #[.slice none 0 0], .int .i64 2]) ?_ (by rfl) ?_
    · simp only [results, Try.results11]; go_simp
    · exact ⟨_, _, rfl, [], isBag_none _, .inl ⟨HWH.out, rfl, rfl⟩, by first | exact HBE.out | (rw [← hg0]; exact HBE.out)⟩
  | true =>
    go_wp2_with (first | (go_at_call 28; (with_reducible refine (HSP.out).mono ?_); rintro e w2 ⟨v, rfl, hv, hb2⟩; simp only [if_true] at hv; have HV := Lib.hid (Row.of_owns hv); obtain ⟨av, cv, rfl⟩ := owns_shape hv; have HF2 := Lib.hid (HFL.out.later hb2); have HB2 := Lib.hid (HB1.out.trans (hb2.mono HB1.out.size)); have hs2 : W1.heap.size ≤ w2.heap.size := hb2.size; clear hv hb2) | (at_make; refine wpList_make_own _ rfl _ _ 24 rfl w2.heap.size 49 i0 (.slice none 0 0) 1 Try.underlying24 hi hz0 hz1 .i64 .i64 _ ss.length rfl rfl rfl (by rw [hz2]; omega) (by unfold maxLen; omega) (Nat.le_refl _) ?_; intro w3 hown3 hgrow3))
    have hb3 := below_grown hgrow3
    have hpl := parts_len HWH.out
    rw [HSS.out] at hpl
    generalize hn : ss.length = n at *
    have HN := Lib.hid hn
    have n0 : (0 : Int) ≤ (n : Int) := by omega
    have n1 : (n : Int) ≤ 1000000 := by omega
    have HO3 := Lib.hid hown3
    have HB3 := Lib.hid hb3
    have HGZ := Lib.hid HF2.out.lt
    have HSZ := Lib.hid hs
    clear hn hown3 hgrow3 hb3 hpl hs HSP hsl hs2
    go_wp2_with fail
    go_loopw [6, 25] (fun sl i wr => ∃ (k : Nat) (al : Option Addr) (cl : Nat) (us : List Value) (ls : List (List V)), sl = .slice al k cl ∧ i = .int .i64 (k : Int) ∧ k ≤ n ∧ Hid (us.length = k ∧ wr.ownsRow w2.heap.size 49 1 (.slice al k cl) k us ∧ RwT TV 0 wr us ls ∧ KeyRows (ss.take k) ls ∧ ∀ x ∈ ss.take k, errR x = 0) ∧ Hid (Below w2.heap.size w2 wr)) (fun _ i _ => n - (intOf i).toNat)
    case atStart => exact ⟨0, _, _, [], [], rfl, rfl, Nat.zero_le _, Lib.hid ⟨rfl, HO3.out, RwT.nil _ _ _, KeyRows.nil, fun x hx => by simp at hx⟩, HB3⟩
    case round =>
      obtain ⟨k, al, cl, us, ls, rfl, rfl, hk, HI, HB⟩ := hrel
      have hd0 : (0 : Int) ≤ (k : Int) := by omega
      by_cases hkn : k < n
      · have dk : (k : Int) < (n : Int) := by omega
        have hks : k < ss.length := by rw [HN.out]; exact hkn
        obtain ⟨b, off, cap', ea, hcell⟩ := (HV.out.later HB.out).pos (by omega)
        simp only [Value.slice.injEq] at ea
        obtain ⟨rfl, -, rfl⟩ := ea
        have c0 := hcell k (by omega)
        rw [List.getElem?_map, List.getElem?_eq_getElem hks] at c0
        simp only [Option.map_some] at c0
        have hzk := HSM.out _ (List.getElem_mem hks)
        have htk : ss.take (k + 1) = ss.take k ++ [ss[k]] := List.take_succ_eq_append_getElem hks
        have hdk := fun hb => errK_at ss k hks hb
        have hdr := fun (hb : errR ss[k] ≠ 0) => (show errK ss ≠ 0 ∧ errK ss = errR ss[k] from by
          have e : errK ss = errK (ss.drop k) := by
            have : ∀ j, j ≤ k → errK ss = errK (ss.drop j) := by
              intro j
              induction j with
              | zero => intro _; rw [List.drop_zero]
              | succ j ih =>
                intro hj
                rw [ih (by omega), errK_drop ss j (by omega) (HI.out.2.2.2.2 _ (by
                  rw [List.mem_iff_getElem?]
                  exact ⟨j, by rw [List.getElem?_take_of_lt (by omega)]; exact List.getElem?_eq_getElem (by omega)⟩))]
            exact this k (Nat.le_refl _)
          rw [e, errK_at ss k hks hb]; exact ⟨hb, rfl⟩)
        have HG := Lib.hid (fun (W : World) => get_parts ss[k] (by have := HSZ.out; omega) W)
        have HTK := Lib.hid htk
        have HDR := Lib.hid hdr
        generalize ss[k] = x at *
        clear hcell htk hdr hdk hzk
        by_cases h0 : errR x = 0
        · have HG0 : Hid (∀ W, Calls Try.prog 19 #[.string x] W fun e w' => ∃ (a : Option Addr) (c : Nat) (l : List V), e = .returned (.tuple #[.slice a l.length c, .int .i64 0]) ∧ Hid (w'.ownsRow W.heap.size TV 3 (.slice a l.length c) l.length (vCells l) ∧ Goods l ∧ (errR x = 0 → l.map encS = (splitS x).1) ∧ (errR x ≠ 0 → l = [] ∧ a = none ∧ c = 0)) ∧ Below W.heap.size W w') := Lib.hid (fun W => by have := HG.out W; rw [h0] at this; rw [h0]; exact this)
          have HE0 := Lib.hid h0
          clear HG h0 HDR
          go_wp2_with fail
          (with_reducible refine (HG0.out _).mono ?_); rintro e w4 ⟨a4, c4, l4, rfl, H4, hb4⟩
          have HB4 := Lib.hid (HB.out.trans (hb4.mono HB.out.size))
          obtain ⟨a5, c5, w5, hrun, ho5, hb5, hr5⟩ := apZ_rows (u := .slice a4 l4.length c4) (r := l4) k HI.out.1 (by omega) (owns_below HI.out.2.1 hb4) HB4.out.size (HI.out.2.2.1.later hb4) (owns_base H4.out.1 (fun g hg => Nat.zero_le _))
          have HP : Hid (KeyRows (ss.take (k + 1)) (ls ++ [l4]) ∧ ∀ y ∈ ss.take (k + 1), errR y = 0) := Lib.hid (by
            rw [HTK.out]
            refine ⟨HI.out.2.2.2.1.snoc H4.out.2.1 (H4.out.2.2.1 HE0.out), fun y hy => ?_⟩
            rcases List.mem_append.1 hy with hy | hy
            · exact HI.out.2.2.2.2 y hy
            · rw [List.mem_singleton.1 hy]; exact HE0.out)
          have HU : Hid ((us ++ [Value.slice a4 l4.length c4]).length = k + 1) := Lib.hid (by rw [List.length_append, HI.out.1]; rfl)
          have HO5 := Lib.hid ho5
          have HR5 := Lib.hid hr5
          have HB5 := Lib.hid (HB4.out.trans hb5)
          clear ho5 hb5 hr5 hb4
          go_wp2_with fail
          go_roundw
          case rel => exact ⟨k + 1, a5, c5, us ++ [.slice a4 l4.length c4], ls ++ [l4], rfl, by go_num, by omega, Lib.hid ⟨HU.out, HO5.out, HR5.out, HP.out.1, HP.out.2⟩, HB5⟩
          case measure => simp [intOf]; omega
        · obtain ⟨hd1, hd2⟩ := HDR.out h0
          obtain ⟨E, hE⟩ : ∃ E, errR x = E := ⟨_, rfl⟩
          rw [hE] at HG h0 hd2
          have HD1 := Lib.hid hd1
          have HD2 := Lib.hid hd2
          have e1 : (E != 0) = true := by simpa using h0
          clear HDR hd1 hd2 h0
          go_wp2_with fail
          (with_reducible refine (HG.out _).mono ?_); rintro e w4 ⟨a4, c4, l4, rfl, H4, hb4⟩
          have HB4 := Lib.hid (HB.out.trans (hb4.mono HB.out.size))
          have HF4 : Hid (Flds w4 g0 TB [.slice none 0 0]) := Lib.hid ((HB4.out.block g0 HGZ.out).trans HF2.out)
          have q0 := HF4.out.cell 0
          have qf := HF4.out.frozen 0
          have ql := HF4.out.lt
          simp only [List.getElem?_cons_zero] at q0
          clear hE hb4
          go_wp2_with fail
          have HBE := Lib.hid ((HB2.out.trans (HB4.out.mono HB2.out.size)).setCell (p := ⟨g0, 0, none⟩) (by rw [hg0]; exact Nat.le_refl _) (.slice none 0 0))
          refine bodyPost_ret (v := .tuple #[.agg #[.slice none 0 0], .int .i64 E]) ?_ (by rfl) ?_
          · simp only [results, Try.results11]; go_simp
          · exact ⟨_, _, rfl, [], isBag_none _, .inr (.inl ⟨HWH.out, by rw [HSS.out]; exact HD1.out, by rw [HSS.out]; exact HD2.out.symm, rfl⟩), by first | exact HBE.out | (rw [← hg0]; exact HBE.out)⟩
      · have dk : ¬ (k : Int) < (n : Int) := by omega
        obtain rfl : k = n := by omega
        obtain ⟨hul, ho, hr, hkr, hz⟩ := HI.out
        rw [List.take_of_length_le (by rw [HN.out]; exact Nat.le_refl _)] at hkr hz
        have hsh := keyRows_short hkr hz s.size HSM.out
        have hlg : ls.length ≤ 1000000 := by rw [hkr.1, HN.out]; omega
        have HIS := Lib.hid (fun W (hb : Below wr.heap.size wr W) => issorted_any (.slice al k cl) us ls (by rw [hul]; omega) (fun l hl => (hsh l hl).1) (fun l hl => by have := (hsh l hl).2; have := HSZ.out; omega) W (by rw [hul]; exact (Row.of_owns ho).later hb) (hr.later hb).rws)
        have HKR := Lib.hid hkr
        have HZ := Lib.hid hz
        have HSH := Lib.hid hsh
        clear hul ho hr hkr hz hsh hk hlg
        by_cases ha : Adj ls
        · rw [adjB_t ha] at HIS
          have HA := Lib.hid ha
          clear ha
          go_wp2_with fail
          (with_reducible refine (HIS.out _ (Below.refl _ _)).mono ?_); rintro e w4 ⟨rfl, hb4⟩
          have HB4 := Lib.hid (HB.out.trans (hb4.mono HB.out.size))
          have HOF := Lib.hid (of_any (.slice al k cl) us ls (by rw [HI.out.1]; omega) (fun l hl => (HSH.out l hl).1) (fun l hl => by have := (HSH.out l hl).2; have := HSZ.out; omega) w4 (by rw [HI.out.1]; exact (Row.of_owns HI.out.2.1).later hb4) (HI.out.2.2.1.later hb4).rws (fun u hu m c e => by
            obtain ⟨j, hj, rfl⟩ := List.getElem_of_mem hu
            exact owns_nilcap (HI.out.2.2.1.2 j _ _ (List.getElem?_eq_getElem hj) (List.getElem?_eq_getElem (by rw [← HI.out.2.2.1.1]; exact hj))) m c e))
          clear hb4 HIS
          go_wp2_with fail
          (with_reducible refine HOF.out.mono ?_); rintro e w5 ⟨bv, rfl, o, hbg, hct, hto, hb5⟩
          have HB5 := Lib.hid (HB4.out.trans (hb5.mono HB4.out.size))
          obtain ⟨s5, rfl⟩ := isBag_agg hbg
          obtain ⟨x5, m5, y5, hs5⟩ : ∃ x m y, s5 = .slice x m y := by
            obtain ⟨a5, c5, xs5, e5, -⟩ := hbg
            simp only [Value.agg.injEq, Array.mk.injEq, List.cons.injEq, and_true] at e5
            exact ⟨_, _, _, e5⟩
          subst hs5
          have HBG := Lib.hid hbg
          have HCT := Lib.hid hct
          have HTO := Lib.hid hto
          have HF5 : Hid (Flds w5 g0 TB [.slice none 0 0]) := Lib.hid ((HB5.out.block g0 HGZ.out).trans HF2.out)
          have q0 := HF5.out.cell 0
          have qf := HF5.out.frozen 0
          have ql := HF5.out.lt
          simp only [List.getElem?_cons_zero] at q0
          clear hb5 hbg hct hto HOF
          go_wp2_with fail
          have HBE := Lib.hid ((HB2.out.trans (HB5.out.mono HB2.out.size)).setCell (p := ⟨g0, 0, none⟩) (by rw [hg0]; exact Nat.le_refl _) (.slice x5 m5 y5))
          have HBS := Lib.hid (HBG.out.setObj HF5.out 0 (.slice x5 m5 y5))
          have hcell := (HF5.out.set 0 (.slice x5 m5 y5)).cell 0
          simp only [List.set_cons_zero, List.getElem?_cons_zero] at hcell
          refine bodyPost_ret (v := .tuple #[.agg #[.slice x5 m5 y5], .int .i64 0]) ?_ (by rfl) ?_
          · simp only [results, Try.results11]; go_simp
          · exact ⟨_, _, rfl, o, HBS.out, .inr (.inr ⟨HWH.out, by rw [HSS.out]; exact (errK_good ss).2 HZ.out, ls, by rw [HSS.out]; exact HKR.out, .inr ⟨HA.out, rfl, HCT.out, HTO.out⟩⟩), by first | exact HBE.out | (rw [← hg0]; exact HBE.out)⟩
        · rw [adjB_f ha] at HIS
          have HA := Lib.hid ha
          clear ha
          go_wp2_with fail
          (with_reducible refine (HIS.out _ (Below.refl _ _)).mono ?_); rintro e w4 ⟨rfl, hb4⟩
          have HB4 := Lib.hid (HB.out.trans (hb4.mono HB.out.size))
          have HF4 : Hid (Flds w4 g0 TB [.slice none 0 0]) := Lib.hid ((HB4.out.block g0 HGZ.out).trans HF2.out)
          have q0 := HF4.out.cell 0
          have qf := HF4.out.frozen 0
          have ql := HF4.out.lt
          simp only [List.getElem?_cons_zero] at q0
          clear hb4 HIS
          go_wp2_with fail
          have HBE := Lib.hid ((HB2.out.trans (HB4.out.mono HB2.out.size)).setCell (p := ⟨g0, 0, none⟩) (by rw [hg0]; exact Nat.le_refl _) (.slice none 0 0))
          refine bodyPost_ret (v := .tuple #[.agg #[.slice none 0 0], .int .i64 4]) ?_ (by rfl) ?_
          · simp only [results, Try.results11]; go_simp
          · exact ⟨_, _, rfl, [], isBag_none _, .inr (.inr ⟨HWH.out, by rw [HSS.out]; exact (errK_good ss).2 HZ.out, ls, by rw [HSS.out]; exact HKR.out, .inl ⟨HA.out, rfl, rfl⟩⟩), by first | exact HBE.out | (rw [← hg0]; exact HBE.out)⟩
end Go.Proofs.Ytpkkhbmlclicfaa.val
