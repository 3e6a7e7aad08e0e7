/- A text token, walked: the text between its quotes. -/
import Derived.Test.YtkgfmjejcpjfiaaDoorLexC
namespace Go.Proofs.YtkgfmjejcpjfiaaDoor.lx
set_option linter.unusedVariables false
open Go.RowKit

theorem below_alloc2 (w : World) (o o' : Go.Obj) : Below w.heap.size w ((w.alloc o).alloc o') := ((Below.refl _ _).alloc (Nat.le_refl _) _).alloc (by simp) _
theorem fl_keep {w w' : World} {B b : Nat} {T : TypeId} {fs : List Value} (h : Flds w b T fs) (hb : Below B w w') (hlt : b < B) : Flds w' b T fs := (hb.block b hlt).trans h
theorem len_at (B b : Nat) (p : Value) (bs : List Value) (w : World) (h : Lib.BuilderAt 56 5 B b p bs w) :
    Calls Tryd.prog 31 #[.pointer (some ⟨b, 0, none⟩)] w fun e w' => e = .returned (.int .i64 (bs.length : Int)) ∧ w = w' := by
  obtain ⟨hB, v, hbk, hown, hne⟩ := h
  obtain ⟨a, c, rfl⟩ : ∃ a c, v = .slice a bs.length c := by
    rcases hown.2 with ⟨hv, h0⟩ | ⟨g, cap, cur, hv, _⟩
    · exact ⟨_, _, by rw [hv, h0]⟩
    · exact ⟨_, _, hv⟩
  have c0 : w.cell? ⟨b, 0, none⟩ = some p := by rw [Lib.cell_of_heap hbk]; rfl
  have c1 : w.cell? ⟨b, 1, none⟩ = some (.slice a bs.length c) := by rw [Lib.cell_of_heap hbk]; rfl
  clear hbk hown hne
  go_enter Tryd.func31, Tryd.ntmps31
  go_wp2
  go_ret
  exact ⟨rfl, rfl⟩
theorem len_any (B b : Nat) (bs : List Value) (w : World) (h : Lib.IsBuilder 56 5 B b bs w) :
    Calls Tryd.prog 31 #[.pointer (some ⟨b, 0, none⟩)] w fun e w' => e = .returned (.int .i64 (bs.length : Int)) ∧ w = w' := by
  rcases h with h | h
  · exact len_at _ _ _ _ _ h
  · exact len_at _ _ _ _ _ h
theorem text_end (l : List UInt8) (i : Nat) (acc : List UInt8) (h : i < l.length) (hq : l[i] = 39) (hq2 : l[i + 1]? ≠ some 39) : textL l i acc = if 64 < acc.length then .bad 8 else .tok 4 acc 0 i := by
  rw [textL, dif_pos h, if_pos hq, if_neg hq2]
theorem text_two (l : List UInt8) (i : Nat) (acc : List UInt8) (h : i < l.length) (hq : l[i] = 39) (hq2 : l[i + 1]? = some 39) : textL l i acc = textL l (i + 2) (acc ++ [39]) := by
  rw [textL, dif_pos h, if_pos hq, if_pos hq2]
theorem text_one (l : List UInt8) (i : Nat) (acc : List UInt8) (h : i < l.length) (hq : l[i] ≠ 39) : textL l i acc = textL l (i + 1) (acc ++ [l[i]]) := by
  rw [textL, dif_pos h, if_neg hq]
theorem text_out (l : List UInt8) (i : Nat) (acc : List UInt8) (h : l.length ≤ i) : textL l i acc = .bad 4 := by
  rw [textL, dif_neg (by omega)]

set_option maxRecDepth 100000 in
set_option maxHeartbeats 4000000 in
theorem text_any (s : ByteArray) (hs : s.size ≤ 1099511627776) (h0 : 0 < s.size) (W : World) : Calls Tryd.prog 24 #[.string s] W fun e w' => e = .returned (fstV (textL s.data.toList 1 [])) ∧ Below W.heap.size W w' := by
  have hs0 : (0 : Int) ≤ (s.size : Int) := by omega
  have hs1 : (s.size : Int) ≤ 1099511627776 := by omega
  obtain ⟨F, hF⟩ : ∃ F, textL s.data.toList 1 [] = F := ⟨_, rfl⟩
  rw [hF]
  have HF := Lib.hid hF
  clear hF
  have hfr := (Flds.new W 32 [.int .i64 0, .string nob, .int .i64 0, .int .i64 0]).alloc (.cells #[.pointer none, .slice none 0 0] 56)
  have hfb := Lib.fresh_isBuilder 56 5 (W.alloc (.cells #[.int .i64 0, .string nob, .int .i64 0, .int .i64 0] 32))
  rw [World.size_alloc] at hfb
  have HFR := Lib.hid hfr
  have HFB := Lib.hid hfb
  clear hfr hfb
  go_enter Tryd.func24, Tryd.ntmps24
  go_wp2_with fail
  go_loopw [6] (fun i wr => ∃ (k : Nat) (acc : List UInt8), i = .int .i64 (k : Int) ∧ 1 ≤ k ∧ k ≤ s.size ∧ acc.length ≤ k ∧ Hid (textL s.data.toList k acc = F) ∧ Hid (Lib.IsBuilder 56 5 (W.heap.size + 1) (W.heap.size + 1) (Lib.byteCells acc) wr) ∧ Hid (Flds wr W.heap.size 32 [.int .i64 0, .string nob, .int .i64 0, .int .i64 0]) ∧ Hid (Below W.heap.size W wr)) (fun i _ => s.size - (intOf i).toNat)
  case atStart => exact ⟨1, [], rfl, Nat.le_refl _, h0, by simp, HF, HFB, HFR, Lib.hid (below_alloc2 _ _ _)⟩
  case round =>
    obtain ⟨k, acc, rfl, hk1, hk2, hac, HT, HBU, HFL, HB⟩ := hrel
    have hd0 : (1 : Int) ≤ (k : Int) := by omega
    have hd1 : (k : Int) ≤ (s.size : Int) := by omega
    have hsz : W.heap.size + 1 < wr.heap.size := by
      rcases HBU.out with ⟨_, v, hb, _⟩ | ⟨_, v, hb, _⟩ <;> exact (Array.getElem?_eq_some_iff.1 hb).1
    have c0 := HFL.out.cell 0
    have c1 := HFL.out.cell 1
    have c2 := HFL.out.cell 2
    have c3 := HFL.out.cell 3
    have f0 := HFL.out.frozen 0
    have f1 := HFL.out.frozen 1
    have f2 := HFL.out.frozen 2
    have f3 := HFL.out.frozen 3
    simp only [List.getElem?_cons_zero, List.getElem?_cons_succ] at c0 c1 c2 c3
    by_cases hz : k < s.size
    · have dz : (k : Int) < (s.size : Int) := by omega
      have hl : k < s.data.toList.length := by rw [data_len]; exact hz
      have hcl := Lib.byteCells_length acc
      have HLEN := Lib.hid (len_any _ _ _ _ HBU.out)
      rw [hcl] at HLEN
      have HSTR := Lib.hid (builderString_any _ _ _ _ HBU.out (by omega))
      have hc : (s[k].toNat : Int) < 256 := by have := s[k].toNat_lt; omega
      have hc0 : (0 : Int) ≤ (s[k].toNat : Int) := by omega
      by_cases hq : s[k].toNat = 39
      · have e1 : ((s[k].toNat : Int) == 39) = true := by simp [hq]
        have hq' : s.data.toList[k] = 39 := by rw [data_at s k hz]; exact UInt8.toNat_inj.1 hq
        by_cases hy : k + 1 < s.size
        · have dy : ((k : Int) + 1 == (s.size : Int)) = false := by simp; omega
          have dy2 : (k : Int) + 1 < (s.size : Int) := by omega
          have hl2 : k + 1 < s.data.toList.length := by rw [data_len]; exact hy
          have hca : (s[k + 1].toNat : Int) < 256 := by have := s[k + 1].toNat_lt; omega
          have hcb : (0 : Int) ≤ (s[k + 1].toNat : Int) := by omega
          by_cases hx : s[k + 1].toNat = 39
          · have e2 : ((s[k + 1].toNat : Int) == 39) = true := by simp [hx]
            have hx' : s.data.toList[k + 1]? = some 39 := by rw [List.getElem?_eq_getElem hl2, data_at s (k + 1) hy]; exact congrArg some (UInt8.toNat_inj.1 hx)
            have HT2 := Lib.hid ((text_two _ _ _ hl hq' hx').symm.trans HT.out)
            have hx2 : s[k + 1] = 39 := UInt8.toNat_inj.1 hx
            have HWB := Lib.hid (writeByte_any (W.heap.size + 1) (W.heap.size + 1) (Lib.byteCells acc) (39 : Int) wr HBU.out (by rw [hcl]; omega) (by omega))
            clear hq' hx'
            go_wp2_with (go_at_call 32; (with_reducible refine HWB.out.mono ?_); rintro e w1 ⟨rfl, hbu, hbw⟩; have HBU1 := Lib.hid hbu; have HBW := Lib.hid hbw; clear hbu hbw)
            go_roundw
            case rel => exact ⟨k + 2, acc ++ [39], by go_num, by omega, by omega, by simp; omega, HT2, Lib.hid (.inr (by rw [Lib.byteCells_append]; exact HBU1.out)), Lib.hid (fl_keep HFL.out HBW.out (by omega)), Lib.hid (HB.out.trans (HBW.out.mono (by omega)))⟩
            case measure => simp [intOf]; omega
          · have e2 : ((s[k + 1].toNat : Int) == 39) = false := by simp; omega
            have hx' : s.data.toList[k + 1]? ≠ some 39 := by
              rw [List.getElem?_eq_getElem hl2, data_at s (k + 1) hy]
              intro h
              exact hx (by rw [Option.some.inj h]; rfl)
            have HE := Lib.hid ((text_end _ _ _ hl hq' hx').symm.trans HT.out)
            clear hq' hx'
            by_cases hm : 64 < acc.length
            · have dm : (64 : Int) < (acc.length : Int) := by omega
              have HE2 := HE.out
              rw [if_pos hm] at HE2
              subst HE2
              go_wp2_with (go_at_call 31; (with_reducible refine HLEN.out.mono ?_); rintro e w1 ⟨rfl, rfl⟩)
              refine bodyPost_ret (v := .tuple #[tkV 0 nob 0 0, .int .i64 0, .int .i64 8]) ?_ (by rfl) ⟨rfl, ?_⟩
              · simp only [results, Tryd.results24]; go_simp
              · exact (((HB.out.setCell (p := ⟨W.heap.size, 0, none⟩) (Nat.le_refl _) _).setCell (p := ⟨W.heap.size, 1, none⟩) (Nat.le_refl _) _).setCell (p := ⟨W.heap.size, 2, none⟩) (Nat.le_refl _) _).setCell (p := ⟨W.heap.size, 3, none⟩) (Nat.le_refl _) _
            · have dm : ¬ (64 : Int) < (acc.length : Int) := by omega
              have HE2 := HE.out
              rw [if_neg hm] at HE2
              subst HE2
              go_wp2_with (first | (go_at_call 31; (with_reducible refine HLEN.out.mono ?_); rintro e w1 ⟨rfl, rfl⟩) | (go_at_call 30; (with_reducible refine HSTR.out.mono ?_); rintro e w2 ⟨rfl, hbs⟩; have HBS := Lib.hid hbs; have HFL2 := fl_keep HFL.out hbs (by omega); have g0 := HFL2.cell 0; have g1 := HFL2.cell 1; have g2 := HFL2.cell 2; have g3 := HFL2.cell 3; have k0 := HFL2.frozen 0; have k1 := HFL2.frozen 1; have k2 := HFL2.frozen 2; have k3 := HFL2.frozen 3; simp only [List.getElem?_cons_zero, List.getElem?_cons_succ] at g0 g1 g2 g3; have hsz2 := hbs.size; clear hbs))
              refine bodyPost_ret (v := .tuple #[tkV 4 ⟨acc.toArray⟩ 0 0, .int .i64 ((k + 1 : Nat) : Int), .int .i64 0]) ?_ (by rfl) ⟨rfl, ?_⟩
              · simp only [results, Tryd.results24]; go_simp
              · have HB := Lib.hid (HB.out.trans (HBS.out.mono (by omega)))
                exact (((HB.out.setCell (p := ⟨W.heap.size, 0, none⟩) (Nat.le_refl _) _).setCell (p := ⟨W.heap.size, 1, none⟩) (Nat.le_refl _) _).setCell (p := ⟨W.heap.size, 2, none⟩) (Nat.le_refl _) _).setCell (p := ⟨W.heap.size, 3, none⟩) (Nat.le_refl _) _
        · have dy : ((k : Int) + 1 == (s.size : Int)) = true := by simp; omega
          have hx' : s.data.toList[k + 1]? ≠ some 39 := by
            rw [List.getElem?_eq_none (by rw [data_len]; omega)]; decide
          have HE := Lib.hid ((text_end _ _ _ hl hq' hx').symm.trans HT.out)
          clear hq' hx'
          by_cases hm : 64 < acc.length
          · have dm : (64 : Int) < (acc.length : Int) := by omega
            have HE2 := HE.out
            rw [if_pos hm] at HE2
            subst HE2
            go_wp2_with (go_at_call 31; (with_reducible refine HLEN.out.mono ?_); rintro e w1 ⟨rfl, rfl⟩)
            refine bodyPost_ret (v := .tuple #[tkV 0 nob 0 0, .int .i64 0, .int .i64 8]) ?_ (by rfl) ⟨rfl, ?_⟩
            · simp only [results, Tryd.results24]; go_simp
            · exact (((HB.out.setCell (p := ⟨W.heap.size, 0, none⟩) (Nat.le_refl _) _).setCell (p := ⟨W.heap.size, 1, none⟩) (Nat.le_refl _) _).setCell (p := ⟨W.heap.size, 2, none⟩) (Nat.le_refl _) _).setCell (p := ⟨W.heap.size, 3, none⟩) (Nat.le_refl _) _
          · have dm : ¬ (64 : Int) < (acc.length : Int) := by omega
            have HE2 := HE.out
            rw [if_neg hm] at HE2
            subst HE2
            go_wp2_with (first | (go_at_call 31; (with_reducible refine HLEN.out.mono ?_); rintro e w1 ⟨rfl, rfl⟩) | (go_at_call 30; (with_reducible refine HSTR.out.mono ?_); rintro e w2 ⟨rfl, hbs⟩; have HBS := Lib.hid hbs; have HFL2 := fl_keep HFL.out hbs (by omega); have g0 := HFL2.cell 0; have g1 := HFL2.cell 1; have g2 := HFL2.cell 2; have g3 := HFL2.cell 3; have k0 := HFL2.frozen 0; have k1 := HFL2.frozen 1; have k2 := HFL2.frozen 2; have k3 := HFL2.frozen 3; simp only [List.getElem?_cons_zero, List.getElem?_cons_succ] at g0 g1 g2 g3; have hsz2 := hbs.size; clear hbs))
            refine bodyPost_ret (v := .tuple #[tkV 4 ⟨acc.toArray⟩ 0 0, .int .i64 ((k + 1 : Nat) : Int), .int .i64 0]) ?_ (by rfl) ⟨rfl, ?_⟩
            · simp only [results, Tryd.results24]; go_simp
            · have HB := Lib.hid (HB.out.trans (HBS.out.mono (by omega)))
              exact (((HB.out.setCell (p := ⟨W.heap.size, 0, none⟩) (Nat.le_refl _) _).setCell (p := ⟨W.heap.size, 1, none⟩) (Nat.le_refl _) _).setCell (p := ⟨W.heap.size, 2, none⟩) (Nat.le_refl _) _).setCell (p := ⟨W.heap.size, 3, none⟩) (Nat.le_refl _) _
      · have e1 : ((s[k].toNat : Int) == 39) = false := by simp; omega
        have hq' : s.data.toList[k] ≠ 39 := by
          rw [data_at s k hz]; intro h; exact hq (by rw [h]; rfl)
        have HT2 := (text_one _ _ _ hl hq').symm.trans HT.out
        rw [data_at s k hz] at HT2
        have HT2 := Lib.hid HT2
        have HWB := Lib.hid (writeByte_any (W.heap.size + 1) (W.heap.size + 1) (Lib.byteCells acc) (s[k].toNat : Int) wr HBU.out (by rw [hcl]; omega) (by omega))
        clear hq'
        go_wp2_with (go_at_call 32; (with_reducible refine HWB.out.mono ?_); rintro e w1 ⟨rfl, hbu, hbw⟩; have HBU1 := Lib.hid hbu; have HBW := Lib.hid hbw; clear hbu hbw)
        go_roundw
        case rel => exact ⟨k + 1, acc ++ [s[k]], by go_num, by omega, by omega, by simp; omega, HT2, Lib.hid (.inr (by rw [Lib.byteCells_append]; exact HBU1.out)), Lib.hid (fl_keep HFL.out HBW.out (by omega)), Lib.hid (HB.out.trans (HBW.out.mono (by omega)))⟩
        case measure => simp [intOf]; omega
    · have dz : ¬ (k : Int) < (s.size : Int) := by omega
      have HE := (text_out s.data.toList k acc (by rw [data_len]; omega)).symm.trans HT.out
      subst HE
      go_wp2_with fail
      refine bodyPost_ret (v := .tuple #[tkV 0 nob 0 0, .int .i64 0, .int .i64 4]) ?_ (by rfl) ⟨rfl, ?_⟩
      · simp only [results, Tryd.results24]; go_simp
      · exact (((HB.out.setCell (p := ⟨W.heap.size, 0, none⟩) (Nat.le_refl _) _).setCell (p := ⟨W.heap.size, 1, none⟩) (Nat.le_refl _) _).setCell (p := ⟨W.heap.size, 2, none⟩) (Nat.le_refl _) _).setCell (p := ⟨W.heap.size, 3, none⟩) (Nat.le_refl _) _
end Go.Proofs.YtkgfmjejcpjfiaaDoor.lx

