/- The document's tokens of a text, walked. -/
import Derived.Test.YtkgfmjejcpjfiaaDoorLexR
import Derived.OwnWalk
import Derived.RegionTactic
import Derived.BigRegion
namespace Go.Proofs.YtkgfmjejcpjfiaaDoor.lx
set_option linter.unusedVariables false
open Go.RowKit

abbrev RK : TypeId := 31
theorem infoRk : (Tryd.prog.info? RK).map (fun i => (i.zero, i.size, i.bytes)) = some (some (tkV 0 ⟨#[]⟩ 0 0), 4, 40) := by kernel_rfl
/-- what the document's Split tells, in parts -/
def RsplitR (F : Out) (W w' : World) (a : Option Addr) (n c : Nat) (i er : Int) : Prop := match F with
  | .bad p q => a = none ∧ n = 0 ∧ c = 0 ∧ i = (p : Int) ∧ er = (q : Int)
  | .ok ts => n = ts.length ∧ i = 0 ∧ er = 0 ∧ w'.ownsRow W.heap.size RK 4 (.slice a n c) n (tCells ts)
def RPost (F : Out) (W : World) (e : Ending) (w' : World) : Prop := ∃ (a : Option Addr) (n c : Nat) (i er : Int), e = .returned (.tuple #[.slice a n c, .int .i64 i, .int .i64 er]) ∧ Hid (RsplitR F W w' a n c i er) ∧ Below W.heap.size W w'
theorem low_lt {c : UInt8} (h : lowB c = true) : 97 ≤ c.toNat ∧ c.toNat ≤ 122 := by unfold lowB at h; simpa using h
theorem dig_lt {c : UInt8} (h : digB c = true) : 48 ≤ c.toNat ∧ c.toNat ≤ 57 := by unfold digB at h; simpa using h
theorem four_cells (a : Int) (s : ByteArray) (b c : Int) : ∀ u ∈ [Value.int .i64 a, .string s, .int .i64 b, .int .i64 c], u.oneCell' = true := by
  intro u hu
  simp only [List.mem_cons, List.mem_nil_iff, or_false] at hu
  rcases hu with rfl | rfl | rfl | rfl <;> rfl
theorem pre_at (p : UInt8 → Bool) (l : List UInt8) (j : Nat) (h : j < (l.takeWhile p).length) : (l.takeWhile p)[j]? = l[j]? := by
  obtain ⟨t, ht⟩ := List.takeWhile_prefix p (l := l)
  have e : l[j]? = (l.takeWhile p ++ t)[j]? := by rw [ht]
  rw [e, List.getElem?_append_left h]
theorem up_lt {c : UInt8} (h : upB c = true) : 65 ≤ c.toNat ∧ c.toNat ≤ 90 := by unfold upB at h; simpa using h
theorem ext_one (acc : List UInt8) (s : ByteArray) (j : Nat) (h : j < s.size) : (⟨acc.toArray⟩ : ByteArray) ++ s.extract j (j + 1) = ⟨(acc ++ [s[j]]).toArray⟩ := by
  have e : (s.extract j (j + 1)).data.toList = [s[j]] := by
    rw [ByteArray.data_extract, Array.toList_extract, List.extract_eq_take_drop, List.drop_eq_getElem_cons (by rw [data_len]; exact h), data_at s j h]
    rw [show j + 1 - j = 1 by omega]; rfl
  rw [bytes_of e]
  apply ByteArray.ext
  rw [ByteArray.data_append]
  simp
theorem first_low (s : ByteArray) (k : Nat) (h : k < s.size) (hl : lowB s[k] = true) : firstL (s.data.toList.drop k) = wordL 1 ((s.data.toList.drop k).takeWhile nameB) := by
  rw [List.drop_eq_getElem_cons (by rw [data_len]; exact h), data_at s k h]
  simp only [firstL]
  rw [if_pos hl]
theorem class_up (c : UInt8) : upB c = (classN c == 2 || classN c == 2 || classN c == 2) := by
  unfold classN
  cases hl : lowB c with
  | true =>
    have := low_lt hl
    have hu : upB c = false := by unfold upB; simp; omega
    rw [hu]; simp
  | false => cases upB c <;> cases digB c <;> by_cases h7 : c.toNat = 95 <;> by_cases h8 : c.toNat = 39 <;> cases blankB c <;> simp [h7, h8]
theorem class_dig (c : UInt8) : digB c = (classN c == 3 || classN c == 3 || classN c == 3) := by
  unfold classN
  cases hd : digB c with
  | true =>
    have := dig_lt hd
    have hl : lowB c = false := by unfold lowB; simp; omega
    have hu : upB c = false := by unfold upB; simp; omega
    rw [hl, hu]; simp
  | false => cases lowB c <;> cases upB c <;> by_cases h7 : c.toNat = 95 <;> by_cases h8 : c.toNat = 39 <;> cases blankB c <;> simp [h7, h8]
theorem first_at (s : ByteArray) (k : Nat) (h : k < s.size) : firstL (s.data.toList.drop k) = if lowB s[k] then wordL 1 ((s.data.toList.drop k).takeWhile nameB) else if upB s[k] then wordL 2 ((s.data.toList.drop k).takeWhile upB) else if digB s[k] then numL ((s.data.toList.drop k).takeWhile digB) else if s[k] = 39 then textL (s.data.toList.drop k) 1 [] else signL (s.data.toList.drop k) := by
  rw [List.drop_eq_getElem_cons (by rw [data_len]; exact h), data_at s k h]
  rfl
theorem ext_run (p : UInt8 → Bool) (s : ByteArray) (k : Nat) (h : k ≤ s.size) : (s.extract k (k + ((s.data.toList.drop k).takeWhile p).length)).data.toList = (s.data.toList.drop k).takeWhile p := by
  rw [ByteArray.data_extract, Array.toList_extract, List.extract_eq_take_drop]
  rw [show k + ((s.data.toList.drop k).takeWhile p).length - k = ((s.data.toList.drop k).takeWhile p).length by omega]
  exact (List.prefix_iff_eq_take.1 (List.takeWhile_prefix p)).symm

set_option maxRecDepth 100000 in
set_option maxHeartbeats 4000000 in
theorem rsplit_any (s : ByteArray) (hs : s.size ≤ 1099511627776) (W : World) : Calls Tryd.prog 7 #[.string s] W (RPost (splitT s.data.toList) W) := by
  obtain ⟨i0, hi, hz0, hz1, hz2⟩ := info_parts infoRk
  have hs0 : (0 : Int) ≤ (s.size : Int) := by omega
  by_cases h : 2000 < s.size
  · have d : (2000 : Int) < (s.size : Int) := by omega
    rw [splitT_long _ (by rw [data_len]; exact h)]
    go_enter Tryd.func7, Tryd.ntmps7
    go_wp2_with fail
    refine bodyPost_ret (v := .tuple #[.slice none 0 0, .int .i64 0, .int .i64 3]) ?_ (by rfl) ⟨_, _, _, _, _, rfl, Lib.hid ⟨rfl, rfl, rfl, rfl, rfl⟩, Below.refl _ _⟩
    · simp only [results, Tryd.results7]; go_simp
  · have d : ¬ (2000 : Int) < (s.size : Int) := by omega
    have hF0 : splitT s.data.toList = splitL s.data.toList 0 [] := by unfold splitT; rw [if_neg (by rw [data_len]; exact h)]
    obtain ⟨F, hF⟩ : ∃ F, splitL s.data.toList 0 [] = F := ⟨_, rfl⟩
    rw [hF0, hF]
    have HF := Lib.hid hF
    clear hF0 hF
    have d2 : (s.size : Int) ≤ 2000 := by omega
    go_enter Tryd.func7, Tryd.ntmps7
    go_wp2_with fail
    go_loopw [5, 6] (fun sv i wr => ∃ (k : Nat) (ts : List Tk) (a : Option Addr) (c : Nat), sv = .slice a ts.length c ∧ i = .int .i64 (k : Int) ∧ k ≤ s.size ∧ ts.length ≤ k ∧ Hid (splitL s.data.toList k ts = F) ∧ Hid (wr.ownsRow W.heap.size RK 4 sv ts.length (tCells ts)) ∧ Hid (Below W.heap.size W wr)) (fun _ i _ => s.size - (intOf i).toNat)
    case atStart => exact ⟨0, [], none, 0, rfl, rfl, Nat.zero_le _, Nat.le_refl _, HF, Lib.hid (World.ownsRow_nil _ _ _ _), Lib.hid (Below.refl _ _)⟩
    case round =>
      obtain ⟨k, ts, a, c, rfl, rfl, hk, htk, HT, HO, HB⟩ := hrel
      have hd0 : (0 : Int) ≤ (k : Int) := by omega
      by_cases hz : k < s.size
      · have dz : (k : Int) < (s.size : Int) := by omega
        have hl : k < s.data.toList.length := by rw [data_len]; exact hz
        have hc : (s[k].toNat : Int) < 256 := by have := s[k].toNat_lt; omega
        have hc0 : (0 : Int) ≤ (s[k].toNat : Int) := by omega
        have HFL0 := Lib.hid (Flds.new wr RK [.int .i64 0, .string nob, .int .i64 0, .int .i64 (k : Int)])
        have HBT := Lib.hid (HB.out.alloc HB.out.size (.cells #[.int .i64 0, .string nob, .int .i64 0, .int .i64 (k : Int)] RK))
        have HOT := Lib.hid (HO.out.alloc (.cells #[.int .i64 0, .string nob, .int .i64 0, .int .i64 (k : Int)] RK))
        have hgW : W.heap.size ≤ wr.heap.size := HB.out.size
        have HNE : Hid ((Value.slice a ts.length c).ownBlock ≠ some wr.heap.size) := Lib.hid (fun e => by have := (HO.out.lt _ e).2; omega)
        go_upto_region 8 with fail
        generalize wr.alloc (.cells #[.int .i64 0, .string nob, .int .i64 0, .int .i64 (k : Int)] RK) = wt at *
        generalize wr.heap.size = g at *
        have hglt : g < wt.heap.size := HFL0.out.lt
        have c0 := HFL0.out.cell 0
        have c1 := HFL0.out.cell 1
        have c2 := HFL0.out.cell 2
        have c3 := HFL0.out.cell 3
        have k0 := HFL0.out.frozen 0
        have k1 := HFL0.out.frozen 1
        have k2 := HFL0.out.frozen 2
        have k3 := HFL0.out.frozen 3
        simp only [List.getElem?_cons_zero, List.getElem?_cons_succ] at c0 c1 c2 c3
        clear HO HB
        cases hlow : lowB s[k] with
        | true =>
          have hbl : blankB s.data.toList[k] = false := by rw [data_at s k hz]; exact low_blank hlow
          have HC : Hid (∀ W, Calls Tryd.prog 12 #[.int .u8 (s[k].toNat : Int)] W fun e w' => e = .returned (.int .i64 1) ∧ W = w') := Lib.hid (fun W => by have h := class_any s[k] W; rw [show classN s[k] = 1 by unfold classN; rw [hlow]; rfl] at h; exact h)
          have hff := (first_at s k hz).trans (by rw [if_pos hlow])
          have HRUN : Hid (∀ W, Calls Tryd.prog 13 #[.string s, .int .i64 (k : Int), .int .i64 1, .int .i64 3, .int .i64 4] W fun e w' => e = .returned (.int .i64 (((s.data.toList.drop k).takeWhile nameB).length : Int)) ∧ W = w') := Lib.hid (fun W => rrun_any nameB 1 3 4 class_name s k hk hs W)
          have hext := ext_run nameB s k hk
          have hnl : ((s.data.toList.drop k).takeWhile nameB).length ≤ s.size - k := by rw [← data_len, ← List.length_drop]; exact (List.takeWhile_prefix nameB).length_le
          have hpos : 0 < ((s.data.toList.drop k).takeWhile nameB).length := by
            rw [List.drop_eq_getElem_cons hl, data_at s k hz, List.takeWhile_cons, if_pos (low_name hlow)]; simp
          have hall := all_of_takeWhile nameB (s.data.toList.drop k)
          have hpre := fun j => pre_at nameB (s.data.toList.drop k) j
          generalize (s.data.toList.drop k).takeWhile nameB = SS at *
          generalize hN : SS.length = N at *
          have hN0 : (0 : Int) ≤ (N : Int) := by omega
          have hN1 : (k : Int) + (N : Int) ≤ (s.size : Int) := by omega
          have hE := bytes_of hext
          go_upto_region 18 with (first | (go_at_call 12; (with_reducible refine (HC.out _).mono ?_); rintro e w1 ⟨rfl, rfl⟩) | (go_at_call 13; (with_reducible refine (HRUN.out _).mono ?_); rintro e w1 ⟨rfl, rfl⟩))
          go_region
          clear hE hext hpre
          have HFY : Hid (Flds ((wt.setCell ⟨g, 0, none⟩ (.int .i64 1)).setCell ⟨g, 1, none⟩ (.string ⟨SS.toArray⟩)).drew g RK [.int .i64 1, .string ⟨SS.toArray⟩, .int .i64 0, .int .i64 (k : Int)]) := Lib.hid ((HFL0.out.set 0 (.int .i64 1)).set 1 (.string ⟨SS.toArray⟩))
          have HOY : Hid ((((wt.setCell ⟨g, 0, none⟩ (.int .i64 1)).setCell ⟨g, 1, none⟩ (.string ⟨SS.toArray⟩)).drew).ownsRow W.heap.size RK 4 (.slice a ts.length c) ts.length (tCells ts)) := Lib.hid ((owns_setCell (owns_setCell HOT.out ⟨g, 0, none⟩ (.int .i64 1) HNE.out) ⟨g, 1, none⟩ (.string ⟨SS.toArray⟩) HNE.out)).drew
          have HBY : Hid (Below W.heap.size W ((wt.setCell ⟨g, 0, none⟩ (.int .i64 1)).setCell ⟨g, 1, none⟩ (.string ⟨SS.toArray⟩)).drew) := Lib.hid (((HBT.out.setCell (p := ⟨g, 0, none⟩) hgW (.int .i64 1)).setCell (p := ⟨g, 1, none⟩) hgW (.string ⟨SS.toArray⟩))).drew
          clear c0 c1 c2 c3 k0 k1 k2 k3 hglt
          generalize ((wt.setCell ⟨g, 0, none⟩ (.int .i64 1)).setCell ⟨g, 1, none⟩ (.string ⟨SS.toArray⟩)).drew = wy at *
          have hglt : g < wy.heap.size := HFY.out.lt
          have c0 := HFY.out.cell 0
          have k0 := HFY.out.frozen 0
          have c1 := HFY.out.cell 1
          have k1 := HFY.out.frozen 1
          have c2 := HFY.out.cell 2
          have k2 := HFY.out.frozen 2
          have c3 := HFY.out.cell 3
          have k3 := HFY.out.frozen 3
          simp only [List.getElem?_cons_zero, List.getElem?_cons_succ] at c0 c1 c2 c3
          clear HFL0 HOT HBT
          by_cases h16 : 16 < N
          · have d16 : (16 : Int) < (N : Int) := by omega
            have hre := (split_bad _ _ ts 8 hl hbl (by rw [hff]; unfold wordL; rw [if_pos (by omega)])).symm.trans HT.out
            subst hre
            go_wp2_with fail
            refine bodyPost_ret (v := .tuple #[.slice none 0 0, .int .i64 (k : Int), .int .i64 8]) ?_ (by rfl) ⟨_, _, _, _, _, rfl, Lib.hid ⟨rfl, rfl, rfl, rfl, rfl⟩, HBY.out⟩
            · simp only [results, Tryd.results7]; go_simp
          · have d16 : ¬ (16 : Int) < (N : Int) := by omega
            have HT2 := Lib.hid ((split_tok _ _ ts 1 SS 0 (N - 1) hl hbl (by rw [hff]; unfold wordL; rw [if_neg (by omega), hN])).symm.trans HT.out)
            go_wp2_with (at_builtin; refine wpList_append_own _ rfl _ _ 27 rfl W.heap.size RK i0 (tkV 0 ⟨#[]⟩ 0 0) 4 40 Tryd.underlying27 hi hz0 hz1 hz2 rfl (by decide) _ _ _ rfl (HOY.out.alloc _) ⟨wy.heap.size, 0, none⟩ 1 1 [.int .i64 1, .string ⟨SS.toArray⟩, .int .i64 0, .int .i64 (k : Int)] rfl rfl (cells_new_add wy [.int .i64 1, .string ⟨SS.toArray⟩, .int .i64 0, .int .i64 (k : Int)] RK) (four_cells _ _ _ _) (by unfold maxLen; omega) (by omega) (by have := HBY.out.size; simp only [World.size_alloc]; omega) ?_; intro v' w5 hown' hgrow _)
            have hB5 : Below W.heap.size W w5 := (HBY.out.alloc HBY.out.size _).grown hgrow (by have := HBY.out.size; simp only [World.size_alloc]; omega) (fun k hk => (HOY.out.lt k hk).1)
            obtain ⟨a5, c5, rfl⟩ := owns_shape hown'
            have HO2 := Lib.hid hown'
            have HB5 := Lib.hid hB5
            clear hown' hgrow hB5
            go_wp2
            go_roundw
            case rel => exact ⟨k + ((N - 1) + 1), ts ++ [⟨1, SS, 0, k⟩], a5, c5, by rw [List.length_append]; rfl, by first | go_num | (congr 1; omega), by omega, by rw [List.length_append]; simp; omega, HT2, Lib.hid (by rw [tCells_snoc, List.length_append]; exact HO2.out), HB5⟩
            case measure => simp [intOf]; omega
        | false =>
          cases hup : upB s[k] with
          | true =>
            have hbl : blankB s.data.toList[k] = false := by rw [data_at s k hz]; have := up_lt hup; unfold blankB; simp; omega
            have HC : Hid (∀ W, Calls Tryd.prog 12 #[.int .u8 (s[k].toNat : Int)] W fun e w' => e = .returned (.int .i64 2) ∧ W = w') := Lib.hid (fun W => by have h := class_any s[k] W; rw [show classN s[k] = 2 by unfold classN; rw [hlow, hup]; rfl] at h; exact h)
            have hff := (first_at s k hz).trans (show _ = wordL 2 ((s.data.toList.drop k).takeWhile upB) by rw [hlow, hup]; rfl)
            have HRUN : Hid (∀ W, Calls Tryd.prog 13 #[.string s, .int .i64 (k : Int), .int .i64 2, .int .i64 2, .int .i64 2] W fun e w' => e = .returned (.int .i64 (((s.data.toList.drop k).takeWhile upB).length : Int)) ∧ W = w') := Lib.hid (fun W => rrun_any upB 2 2 2 class_up s k hk hs W)
            have hext := ext_run upB s k hk
            have hnl : ((s.data.toList.drop k).takeWhile upB).length ≤ s.size - k := by rw [← data_len, ← List.length_drop]; exact (List.takeWhile_prefix upB).length_le
            have hpos : 0 < ((s.data.toList.drop k).takeWhile upB).length := by
              rw [List.drop_eq_getElem_cons hl, data_at s k hz, List.takeWhile_cons, if_pos (hup)]; simp
            have hall := all_of_takeWhile upB (s.data.toList.drop k)
            have hpre := fun j => pre_at upB (s.data.toList.drop k) j
            generalize (s.data.toList.drop k).takeWhile upB = SS at *
            generalize hN : SS.length = N at *
            have hN0 : (0 : Int) ≤ (N : Int) := by omega
            have hN1 : (k : Int) + (N : Int) ≤ (s.size : Int) := by omega
            have hE := bytes_of hext
            go_upto_region 23 with (first | (go_at_call 12; (with_reducible refine (HC.out _).mono ?_); rintro e w1 ⟨rfl, rfl⟩) | (go_at_call 13; (with_reducible refine (HRUN.out _).mono ?_); rintro e w1 ⟨rfl, rfl⟩))
            go_region
            clear hE hext hpre
            have HFY : Hid (Flds ((wt.setCell ⟨g, 0, none⟩ (.int .i64 2)).setCell ⟨g, 1, none⟩ (.string ⟨SS.toArray⟩)).drew g RK [.int .i64 2, .string ⟨SS.toArray⟩, .int .i64 0, .int .i64 (k : Int)]) := Lib.hid ((HFL0.out.set 0 (.int .i64 2)).set 1 (.string ⟨SS.toArray⟩))
            have HOY : Hid ((((wt.setCell ⟨g, 0, none⟩ (.int .i64 2)).setCell ⟨g, 1, none⟩ (.string ⟨SS.toArray⟩)).drew).ownsRow W.heap.size RK 4 (.slice a ts.length c) ts.length (tCells ts)) := Lib.hid ((owns_setCell (owns_setCell HOT.out ⟨g, 0, none⟩ (.int .i64 2) HNE.out) ⟨g, 1, none⟩ (.string ⟨SS.toArray⟩) HNE.out)).drew
            have HBY : Hid (Below W.heap.size W ((wt.setCell ⟨g, 0, none⟩ (.int .i64 2)).setCell ⟨g, 1, none⟩ (.string ⟨SS.toArray⟩)).drew) := Lib.hid (((HBT.out.setCell (p := ⟨g, 0, none⟩) hgW (.int .i64 2)).setCell (p := ⟨g, 1, none⟩) hgW (.string ⟨SS.toArray⟩))).drew
            clear c0 c1 c2 c3 k0 k1 k2 k3 hglt
            generalize ((wt.setCell ⟨g, 0, none⟩ (.int .i64 2)).setCell ⟨g, 1, none⟩ (.string ⟨SS.toArray⟩)).drew = wy at *
            have hglt : g < wy.heap.size := HFY.out.lt
            have c0 := HFY.out.cell 0
            have k0 := HFY.out.frozen 0
            have c1 := HFY.out.cell 1
            have k1 := HFY.out.frozen 1
            have c2 := HFY.out.cell 2
            have k2 := HFY.out.frozen 2
            have c3 := HFY.out.cell 3
            have k3 := HFY.out.frozen 3
            simp only [List.getElem?_cons_zero, List.getElem?_cons_succ] at c0 c1 c2 c3
            clear HFL0 HOT HBT
            by_cases h16 : 16 < N
            · have d16 : (16 : Int) < (N : Int) := by omega
              have hre := (split_bad _ _ ts 8 hl hbl (by rw [hff]; unfold wordL; rw [if_pos (by omega)])).symm.trans HT.out
              subst hre
              go_wp2_with fail
              refine bodyPost_ret (v := .tuple #[.slice none 0 0, .int .i64 (k : Int), .int .i64 8]) ?_ (by rfl) ⟨_, _, _, _, _, rfl, Lib.hid ⟨rfl, rfl, rfl, rfl, rfl⟩, HBY.out⟩
              · simp only [results, Tryd.results7]; go_simp
            · have d16 : ¬ (16 : Int) < (N : Int) := by omega
              have HT2 := Lib.hid ((split_tok _ _ ts 2 SS 0 (N - 1) hl hbl (by rw [hff]; unfold wordL; rw [if_neg (by omega), hN])).symm.trans HT.out)
              go_wp2_with (at_builtin; refine wpList_append_own _ rfl _ _ 27 rfl W.heap.size RK i0 (tkV 0 ⟨#[]⟩ 0 0) 4 40 Tryd.underlying27 hi hz0 hz1 hz2 rfl (by decide) _ _ _ rfl (HOY.out.alloc _) ⟨wy.heap.size, 0, none⟩ 1 1 [.int .i64 2, .string ⟨SS.toArray⟩, .int .i64 0, .int .i64 (k : Int)] rfl rfl (cells_new_add wy [.int .i64 2, .string ⟨SS.toArray⟩, .int .i64 0, .int .i64 (k : Int)] RK) (four_cells _ _ _ _) (by unfold maxLen; omega) (by omega) (by have := HBY.out.size; simp only [World.size_alloc]; omega) ?_; intro v' w5 hown' hgrow _)
              have hB5 : Below W.heap.size W w5 := (HBY.out.alloc HBY.out.size _).grown hgrow (by have := HBY.out.size; simp only [World.size_alloc]; omega) (fun k hk => (HOY.out.lt k hk).1)
              obtain ⟨a5, c5, rfl⟩ := owns_shape hown'
              have HO2 := Lib.hid hown'
              have HB5 := Lib.hid hB5
              clear hown' hgrow hB5
              go_wp2
              go_roundw
              case rel => exact ⟨k + ((N - 1) + 1), ts ++ [⟨2, SS, 0, k⟩], a5, c5, by rw [List.length_append]; rfl, by first | go_num | (congr 1; omega), by omega, by rw [List.length_append]; simp; omega, HT2, Lib.hid (by rw [tCells_snoc, List.length_append]; exact HO2.out), HB5⟩
              case measure => simp [intOf]; omega
          | false =>
            cases hdig : digB s[k] with
            | true =>
              have hbl : blankB s.data.toList[k] = false := by rw [data_at s k hz]; have := dig_lt hdig; unfold blankB; simp; omega
              have HC : Hid (∀ W, Calls Tryd.prog 12 #[.int .u8 (s[k].toNat : Int)] W fun e w' => e = .returned (.int .i64 3) ∧ W = w') := Lib.hid (fun W => by have h := class_any s[k] W; rw [show classN s[k] = 3 by unfold classN; rw [hlow, hup, hdig]; rfl] at h; exact h)
              have hff := (first_at s k hz).trans (show _ = numL ((s.data.toList.drop k).takeWhile digB) by rw [hlow, hup, hdig]; rfl)
              have HRUN : Hid (∀ W, Calls Tryd.prog 13 #[.string s, .int .i64 (k : Int), .int .i64 3, .int .i64 3, .int .i64 3] W fun e w' => e = .returned (.int .i64 (((s.data.toList.drop k).takeWhile digB).length : Int)) ∧ W = w') := Lib.hid (fun W => rrun_any digB 3 3 3 class_dig s k hk hs W)
              have hext := ext_run digB s k hk
              have hnl : ((s.data.toList.drop k).takeWhile digB).length ≤ s.size - k := by rw [← data_len, ← List.length_drop]; exact (List.takeWhile_prefix digB).length_le
              have hpos : 0 < ((s.data.toList.drop k).takeWhile digB).length := by
                rw [List.drop_eq_getElem_cons hl, data_at s k hz, List.takeWhile_cons, if_pos (hdig)]; simp
              have hall := all_of_takeWhile digB (s.data.toList.drop k)
              have hpre := fun j => pre_at digB (s.data.toList.drop k) j
              generalize (s.data.toList.drop k).takeWhile digB = SS at *
              generalize hN : SS.length = N at *
              have hN0 : (0 : Int) ≤ (N : Int) := by omega
              have hN1 : (k : Int) + (N : Int) ≤ (s.size : Int) := by omega
              have hE := bytes_of hext
              go_upto_region 28 with (first | (go_at_call 12; (with_reducible refine (HC.out _).mono ?_); rintro e w1 ⟨rfl, rfl⟩) | (go_at_call 13; (with_reducible refine (HRUN.out _).mono ?_); rintro e w1 ⟨rfl, rfl⟩))
              go_region
              clear hE hext
              have HPRE := Lib.hid hpre
              clear hpre
              have HFY : Hid (Flds ((wt.setCell ⟨g, 0, none⟩ (.int .i64 3)).setCell ⟨g, 1, none⟩ (.string ⟨SS.toArray⟩)).drew g RK [.int .i64 3, .string ⟨SS.toArray⟩, .int .i64 0, .int .i64 (k : Int)]) := Lib.hid ((HFL0.out.set 0 (.int .i64 3)).set 1 (.string ⟨SS.toArray⟩))
              have HOY : Hid ((((wt.setCell ⟨g, 0, none⟩ (.int .i64 3)).setCell ⟨g, 1, none⟩ (.string ⟨SS.toArray⟩)).drew).ownsRow W.heap.size RK 4 (.slice a ts.length c) ts.length (tCells ts)) := Lib.hid ((owns_setCell (owns_setCell HOT.out ⟨g, 0, none⟩ (.int .i64 3) HNE.out) ⟨g, 1, none⟩ (.string ⟨SS.toArray⟩) HNE.out)).drew
              have HBY : Hid (Below W.heap.size W ((wt.setCell ⟨g, 0, none⟩ (.int .i64 3)).setCell ⟨g, 1, none⟩ (.string ⟨SS.toArray⟩)).drew) := Lib.hid (((HBT.out.setCell (p := ⟨g, 0, none⟩) hgW (.int .i64 3)).setCell (p := ⟨g, 1, none⟩) hgW (.string ⟨SS.toArray⟩))).drew
              clear c0 c1 c2 c3 k0 k1 k2 k3 hglt
              generalize ((wt.setCell ⟨g, 0, none⟩ (.int .i64 3)).setCell ⟨g, 1, none⟩ (.string ⟨SS.toArray⟩)).drew = wy at *
              have hglt : g < wy.heap.size := HFY.out.lt
              have c0 := HFY.out.cell 0
              have k0 := HFY.out.frozen 0
              have c1 := HFY.out.cell 1
              have k1 := HFY.out.frozen 1
              have c2 := HFY.out.cell 2
              have k2 := HFY.out.frozen 2
              have c3 := HFY.out.cell 3
              have k3 := HFY.out.frozen 3
              simp only [List.getElem?_cons_zero, List.getElem?_cons_succ] at c0 c1 c2 c3
              clear HFL0 HOT HBT
              by_cases h19 : 19 < N
              · have d19 : (19 : Int) < (N : Int) := by omega
                have hre := (split_bad _ _ ts 8 hl hbl (by rw [hff]; unfold numL; rw [if_pos (by omega)])).symm.trans HT.out
                subst hre
                go_wp2_with fail
                refine bodyPost_ret (v := .tuple #[.slice none 0 0, .int .i64 (k : Int), .int .i64 8]) ?_ (by rfl) ⟨_, _, _, _, _, rfl, Lib.hid ⟨rfl, rfl, rfl, rfl, rfl⟩, HBY.out⟩
                · simp only [results, Tryd.results7]; go_simp
              · have d19 : ¬ (19 : Int) < (N : Int) := by omega
                have HV : Hid (∀ q ≤ N, valL (SS.take q) < 10000000000000000000 ∧ (q < N → valL (SS.take q) < 1000000000000000000)) := Lib.hid (fun q hq => by
                  have ha : (SS.take q).all digB = true := by
                    rw [List.all_eq_true]
                    exact fun x hx => List.all_eq_true.1 hall x (List.mem_of_mem_take hx)
                  have h1 := valL_lt _ ha
                  have hlq : (SS.take q).length = q := by rw [List.length_take]; omega
                  rw [hlq] at h1
                  exact ⟨Nat.lt_of_lt_of_le h1 (Nat.pow_le_pow_right (by decide) (show q ≤ 19 by omega)), fun hk' => Nat.lt_of_lt_of_le h1 (Nat.pow_le_pow_right (by decide) (show q ≤ 18 by omega))⟩)
                have HALL := Lib.hid hall
                have HFF := Lib.hid hff
                have HN := Lib.hid hN
                have HBL := Lib.hid hbl
                clear hall hff hN hbl
                go_wp2_with fail
                go_loopw [9, 10] (fun u i w2 => ∃ q : Nat, u = .int .u64 (valL (SS.take q) : Int) ∧ i = .int .i64 (q : Int) ∧ q ≤ N ∧ wy = w2) (fun _ i _ => N - (intOf i).toNat)
                case atStart => exact ⟨0, rfl, rfl, Nat.zero_le _, rfl⟩
                case round =>
                  obtain ⟨q, rfl, rfl, hq, rfl⟩ := hrel
                  have hq0 : (0 : Int) ≤ (q : Int) := by omega
                  by_cases hqn : q < N
                  · have dq : (q : Int) < (N : Int) := by omega
                    have hkq : k + q < s.size := by omega
                    have dkq : (k : Int) + (q : Int) < (s.size : Int) := by omega
                    have hsq : SS[q]? = some s[k + q] := by
                      rw [HPRE.out q hqn, List.getElem?_drop, List.getElem?_eq_getElem (by rw [data_len]; exact hkq)]; rfl
                    have hcd : digB s[k + q] = true := List.all_eq_true.1 HALL.out _ (List.mem_of_getElem? hsq)
                    unfold digB at hcd
                    simp only [Bool.and_eq_true, decide_eq_true_eq] at hcd
                    obtain ⟨e1, e2⟩ := hcd
                    have b1 := (HV.out q hq).2 hqn
                    have e4 : SS.take (q + 1) = SS.take q ++ [s[k + q]] := by rw [List.take_add_one, hsq]; rfl
                    have e5 : valL (SS.take (q + 1)) = valL (SS.take q) * 10 + (s[k + q].toNat - 48) := by rw [e4, valL_snoc]
                    have E5 := Lib.hid e5
                    clear e4 e5 hsq
                    generalize valL (SS.take q) = V at *
                    have q1 : (48 : Int) ≤ (s[k + q].toNat : Int) := by omega
                    have q2 : (s[k + q].toNat : Int) ≤ 57 := by omega
                    have q3 : (0 : Int) ≤ (V : Int) := by omega
                    have q4 : (V : Int) < 1000000000000000000 := by omega
                    clear b1
                    obtain ⟨z, hzz⟩ : ∃ z : Int, (V : Int) = z := ⟨_, rfl⟩
                    rw [hzz] at q3 q4 ⊢
                    have HZZ := Lib.hid hzz
                    clear hzz
                    go_wp2_with fail
                    go_roundw
                    case rel => exact ⟨q + 1, by rw [E5.out]; have := HZZ.out; congr 1; omega, by go_num, by omega, by first | rfl | trivial⟩
                    case measure => simp [intOf]; omega
                  · have dq : ¬ (q : Int) < (N : Int) := by omega
                    have e0 : SS.take q = SS := by rw [show q = N by omega, ← HN.out, List.take_length]
                    have b1 := (HV.out q hq).1
                    have e3 : valL (SS.take q) = valL SS := by rw [e0]
                    rw [e0] at b1
                    rw [e3]
                    clear e0 e3
                    obtain ⟨V, hV⟩ : ∃ V, valL SS = V := ⟨_, rfl⟩
                    rw [hV] at b1 ⊢
                    have HVV := Lib.hid hV
                    clear hV
                    obtain ⟨z, hzz⟩ : ∃ z : Int, (V : Int) = z := ⟨_, rfl⟩
                    rw [hzz]
                    have q3 : (0 : Int) ≤ z := by omega
                    have hbl := HBL.out
                    by_cases hbig : 9223372036854775807 < V
                    · have dV : (9223372036854775807 : Int) < z := by omega
                      have HBIG := Lib.hid hbig
                      clear hbig b1 hzz
                      have hre := (split_bad _ _ ts 8 hl hbl (by rw [HFF.out]; unfold numL; rw [HN.out, if_neg (by omega), HVV.out, if_pos HBIG.out])).symm.trans HT.out
                      subst hre
                      go_wp2_with fail
                      refine bodyPost_ret (v := .tuple #[.slice none 0 0, .int .i64 (k : Int), .int .i64 8]) ?_ (by rfl) ⟨_, _, _, _, _, rfl, Lib.hid ⟨rfl, rfl, rfl, rfl, rfl⟩, HBY.out⟩
                      · simp only [results, Tryd.results7]; go_simp
                    · have q5 : z ≤ 9223372036854775807 := by omega
                      have dV : ¬ (9223372036854775807 : Int) < z := by omega
                      have HBIG := Lib.hid hbig
                      have HZZ := Lib.hid hzz
                      clear hbig b1 hzz
                      go_upto_region 52 with fail
                      clear q5 dV q3
                      have hzz := HZZ.out
                      subst hzz
                      have HFYn : Hid (Flds (wy.setCell ⟨g, 2, none⟩ (.int .i64 (V : Int))) g RK [.int .i64 3, .string ⟨SS.toArray⟩, .int .i64 (V : Int), .int .i64 (k : Int)]) := Lib.hid (HFY.out.set 2 (.int .i64 (V : Int)))
                      have HOYn : Hid (((wy.setCell ⟨g, 2, none⟩ (.int .i64 (V : Int)))).ownsRow W.heap.size RK 4 (.slice a ts.length c) ts.length (tCells ts)) := Lib.hid (owns_setCell HOY.out ⟨g, 2, none⟩ (.int .i64 (V : Int)) HNE.out)
                      have HBYn : Hid (Below W.heap.size W (wy.setCell ⟨g, 2, none⟩ (.int .i64 (V : Int)))) := Lib.hid (HBY.out.setCell (p := ⟨g, 2, none⟩) hgW (.int .i64 (V : Int)))
                      clear c0 c1 c2 c3 k0 k1 k2 k3 hglt
                      generalize (wy.setCell ⟨g, 2, none⟩ (.int .i64 (V : Int))) = wn at *
                      have hglt : g < wn.heap.size := HFYn.out.lt
                      have c0 := HFYn.out.cell 0
                      have k0 := HFYn.out.frozen 0
                      have c1 := HFYn.out.cell 1
                      have k1 := HFYn.out.frozen 1
                      have c2 := HFYn.out.cell 2
                      have k2 := HFYn.out.frozen 2
                      have c3 := HFYn.out.cell 3
                      have k3 := HFYn.out.frozen 3
                      simp only [List.getElem?_cons_zero, List.getElem?_cons_succ] at c0 c1 c2 c3
                      have HT2 := Lib.hid ((split_tok _ _ ts 3 SS V (N - 1) hl hbl (by rw [HFF.out]; unfold numL; rw [HN.out, if_neg (by omega), HVV.out, if_neg HBIG.out])).symm.trans HT.out)
                      go_wp2_with (at_builtin; refine wpList_append_own _ rfl _ _ 27 rfl W.heap.size RK i0 (tkV 0 ⟨#[]⟩ 0 0) 4 40 Tryd.underlying27 hi hz0 hz1 hz2 rfl (by decide) _ _ _ rfl (HOYn.out.alloc _) ⟨wn.heap.size, 0, none⟩ 1 1 [.int .i64 3, .string ⟨SS.toArray⟩, .int .i64 (V : Int), .int .i64 (k : Int)] rfl rfl (cells_new_add wn [.int .i64 3, .string ⟨SS.toArray⟩, .int .i64 (V : Int), .int .i64 (k : Int)] RK) (four_cells _ _ _ _) (by unfold maxLen; omega) (by omega) (by have := HBYn.out.size; simp only [World.size_alloc]; omega) ?_; intro v' w5 hown' hgrow _)
                      have hB5 : Below W.heap.size W w5 := (HBYn.out.alloc HBYn.out.size _).grown hgrow (by have := HBYn.out.size; simp only [World.size_alloc]; omega) (fun k hk => (HOYn.out.lt k hk).1)
                      obtain ⟨a5, c5, rfl⟩ := owns_shape hown'
                      have HO2 := Lib.hid hown'
                      have HB5 := Lib.hid hB5
                      clear hown' hgrow hB5
                      go_wp2
                      go_roundw
                      case rel => exact ⟨k + ((N - 1) + 1), ts ++ [⟨3, SS, V, k⟩], a5, c5, by rw [List.length_append]; rfl, by first | go_num | (congr 1; omega), by omega, by rw [List.length_append]; simp; omega, HT2, Lib.hid (by rw [tCells_snoc, List.length_append]; exact HO2.out), HB5⟩
                      case measure => simp [intOf]; omega
            | false =>
              by_cases hq : s[k].toNat = 39
              · have hbl : blankB s.data.toList[k] = false := by rw [data_at s k hz]; unfold blankB; rw [hq]; rfl
                have HC : Hid (∀ W, Calls Tryd.prog 12 #[.int .u8 (s[k].toNat : Int)] W fun e w' => e = .returned (.int .i64 5) ∧ W = w') := Lib.hid (fun W => by have h := class_any s[k] W; rw [show classN s[k] = 5 by unfold classN; rw [hlow, hup, hdig]; simp [hq]] at h; exact h)
                have hff : firstL (s.data.toList.drop k) = textL (s.data.toList.drop k) 1 [] := (first_at s k hz).trans (by simp only [hlow, hup, hdig, Bool.false_eq_true, if_false]; rw [if_pos (UInt8.toNat_inj.1 hq)])
                obtain ⟨F1, hF1⟩ : ∃ F1, textL (s.data.toList.drop k) 1 [] = F1 := ⟨_, rfl⟩
                rw [hF1] at hff
                have HF1 := Lib.hid hF1
                have HFF := Lib.hid hff
                clear hF1 hff hq
                go_upto_region 41 with (go_at_call 12; (with_reducible refine (HC.out _).mono ?_); rintro e w1 ⟨rfl, rfl⟩)
                have HFY : Hid (Flds (wt.setCell ⟨g, 0, none⟩ (.int .i64 4)) g RK [.int .i64 4, .string nob, .int .i64 0, .int .i64 (k : Int)]) := Lib.hid (HFL0.out.set 0 (.int .i64 4))
                have HOY : Hid (((wt.setCell ⟨g, 0, none⟩ (.int .i64 4))).ownsRow W.heap.size RK 4 (.slice a ts.length c) ts.length (tCells ts)) := Lib.hid (owns_setCell HOT.out ⟨g, 0, none⟩ (.int .i64 4) HNE.out)
                have HBY : Hid (Below W.heap.size W (wt.setCell ⟨g, 0, none⟩ (.int .i64 4))) := Lib.hid (HBT.out.setCell (p := ⟨g, 0, none⟩) hgW (.int .i64 4))
                clear c0 c1 c2 c3 k0 k1 k2 k3 hglt
                generalize (wt.setCell ⟨g, 0, none⟩ (.int .i64 4)) = wy at *
                have hglt : g < wy.heap.size := HFY.out.lt
                have c0 := HFY.out.cell 0
                have k0 := HFY.out.frozen 0
                have c1 := HFY.out.cell 1
                have k1 := HFY.out.frozen 1
                have c2 := HFY.out.cell 2
                have k2 := HFY.out.frozen 2
                have c3 := HFY.out.cell 3
                have k3 := HFY.out.frozen 3
                simp only [List.getElem?_cons_zero, List.getElem?_cons_succ] at c0 c1 c2 c3
                clear HFL0 HOT HBT
                go_wp2_with fail
                go_loopw [11] (fun iv w2 => ∃ (j q : Nat) (acc : List UInt8), iv = .int .i64 (j : Int) ∧ Hid (j = k + q) ∧ 1 ≤ q ∧ k + 1 ≤ j ∧ j ≤ s.size ∧ acc.length ≤ j ∧ Hid (textL (s.data.toList.drop k) q acc = F1) ∧ Hid (Flds w2 g RK [.int .i64 4, .string ⟨acc.toArray⟩, .int .i64 0, .int .i64 (k : Int)]) ∧ Hid (w2.ownsRow W.heap.size RK 4 (.slice a ts.length c) ts.length (tCells ts)) ∧ Hid (Below W.heap.size W w2)) (fun iv _ => s.size - (intOf iv).toNat)
                case atStart => exact ⟨k + 1, 1, [], by go_num, Lib.hid rfl, by decide, Nat.le_refl _, by omega, by simp, HF1, HFY, HOY, HBY⟩
                case round =>
                  clear HF1 HFY HOY HBY c0 c1 c2 c3 k0 k1 k2 k3 hglt
                  obtain ⟨j, q, acc, rfl, HQ, hq1, hj1, hj2, hac, HTX, HFY, HOY, HBY⟩ := hrel
                  rename World => wr2
                  have hglt : g < wr2.heap.size := HFY.out.lt
                  have c0 := HFY.out.cell 0
                  have k0 := HFY.out.frozen 0
                  have c1 := HFY.out.cell 1
                  have k1 := HFY.out.frozen 1
                  have c2 := HFY.out.cell 2
                  have k2 := HFY.out.frozen 2
                  have c3 := HFY.out.cell 3
                  have k3 := HFY.out.frozen 3
                  simp only [List.getElem?_cons_zero, List.getElem?_cons_succ] at c0 c1 c2 c3
                  have hj0 : (0 : Int) ≤ (j : Int) := by omega
                  have hj3 : (j : Int) ≤ (s.size : Int) := by omega
                  have hjk : (k : Int) + 1 ≤ (j : Int) := by omega
                  have hlen : (s.data.toList.drop k).length = s.size - k := by rw [List.length_drop, data_len]
                  by_cases hjz : j < s.size
                  · have dj : (j : Int) < (s.size : Int) := by omega
                    have djn : ¬ (s.size : Int) ≤ (j : Int) := by omega
                    have hlq : q < (s.data.toList.drop k).length := by rw [hlen]; have := HQ.out; omega
                    have hatq : (s.data.toList.drop k)[q] = s[j] := by
                      have h := HQ.out
                      subst h
                      rw [List.getElem_drop]; rfl
                    have hcj : (s[j].toNat : Int) < 256 := by have := s[j].toNat_lt; omega
                    have hcj0 : (0 : Int) ≤ (s[j].toNat : Int) := by omega
                    by_cases h39 : s[j].toNat = 39
                    · have e39 : ((s[j].toNat : Int) == 39) = true := by simp [h39]
                      have hq39 : (s.data.toList.drop k)[q] = 39 := by rw [hatq]; exact UInt8.toNat_inj.1 h39
                      by_cases hy : j + 1 < s.size
                      · have dy : (j : Int) + 1 < (s.size : Int) := by omega
                        have dyn : ¬ (s.size : Int) ≤ (j : Int) + 1 := by omega
                        have hl2 : q + 1 < (s.data.toList.drop k).length := by rw [hlen]; have := HQ.out; omega
                        have hat2 : (s.data.toList.drop k)[q + 1] = s[j + 1] := by
                          have h := HQ.out
                          subst h
                          rw [List.getElem_drop]; rfl
                        have hca : (s[j + 1].toNat : Int) < 256 := by have := s[j + 1].toNat_lt; omega
                        have hcb : (0 : Int) ≤ (s[j + 1].toNat : Int) := by omega
                        by_cases hx : s[j + 1].toNat = 39
                        · have e2 : ((s[j + 1].toNat : Int) == 39) = true := by simp [hx]
                          have e3 : ((s[j + 1].toNat : Int) != 39) = false := by simp [hx]
                          have hx' : (s.data.toList.drop k)[q + 1]? = some 39 := by rw [List.getElem?_eq_getElem hl2, hat2]; exact congrArg some (UInt8.toNat_inj.1 hx)
                          have HTX2 := Lib.hid ((text_two _ _ _ hlq hq39 hx').symm.trans HTX.out)
                          have hE := ext_one acc s (j + 1) hy
                          rw [show s[j + 1] = 39 from UInt8.toNat_inj.1 hx] at hE
                          obtain ⟨A2, hA2⟩ : ∃ A2 : ByteArray, (⟨(acc ++ [39]).toArray⟩ : ByteArray) = A2 := ⟨_, rfl⟩
                          rw [hA2] at hE
                          have HA2 := Lib.hid hA2
                          clear hA2 hatq hq39 hlen hlq hx' hat2 hl2
                          go_upto_region 47 with fail
                          go_region
                          clear hE
                          have HFY2 : Hid (Flds (wr2.setCell ⟨g, 1, none⟩ (.string A2)).drew g RK [.int .i64 4, .string A2, .int .i64 0, .int .i64 (k : Int)]) := Lib.hid (HFY.out.set 1 (.string A2))
                          have HOY2 : Hid (((wr2.setCell ⟨g, 1, none⟩ (.string A2)).drew).ownsRow W.heap.size RK 4 (.slice a ts.length c) ts.length (tCells ts)) := Lib.hid ((owns_setCell HOY.out ⟨g, 1, none⟩ (.string A2) HNE.out)).drew
                          have HBY2 : Hid (Below W.heap.size W (wr2.setCell ⟨g, 1, none⟩ (.string A2)).drew) := Lib.hid ((HBY.out.setCell (p := ⟨g, 1, none⟩) hgW (.string A2))).drew
                          clear c0 c1 c2 c3 k0 k1 k2 k3 hglt
                          generalize (wr2.setCell ⟨g, 1, none⟩ (.string A2)).drew = w9 at *
                          have hglt : g < w9.heap.size := HFY2.out.lt
                          have c0 := HFY2.out.cell 0
                          have k0 := HFY2.out.frozen 0
                          have c1 := HFY2.out.cell 1
                          have k1 := HFY2.out.frozen 1
                          have c2 := HFY2.out.cell 2
                          have k2 := HFY2.out.frozen 2
                          have c3 := HFY2.out.cell 3
                          have k3 := HFY2.out.frozen 3
                          simp only [List.getElem?_cons_zero, List.getElem?_cons_succ] at c0 c1 c2 c3
                          have hA2 := HA2.out
                          subst hA2
                          go_wp2_with fail
                          go_roundw
                          case rel => exact ⟨j + 2, q + 2, acc ++ [39], by go_num, Lib.hid (by rw [HQ.out]; omega), by omega, by omega, by omega, by rw [List.length_append]; simp; omega, HTX2, HFY2, HOY2, HBY2⟩
                          case measure => simp [intOf]; omega
                        · have e2 : ((s[j + 1].toNat : Int) == 39) = false := by simp; omega
                          have e3 : ((s[j + 1].toNat : Int) != 39) = true := by simp; omega
                          have hx' : (s.data.toList.drop k)[q + 1]? ≠ some 39 := by
                            rw [List.getElem?_eq_getElem hl2, hat2]
                            intro h
                            exact hx (by rw [Option.some.inj h]; rfl)
                          have HE := Lib.hid ((text_end _ _ _ hlq hq39 hx').symm.trans HTX.out)
                          clear hx' hq39 hatq hat2 hlen hlq hl2
                          have hal : ((⟨acc.toArray⟩ : ByteArray).size : Int) = (acc.length : Int) := by show (acc.toArray.size : Int) = _; simp
                          obtain ⟨T, hT⟩ : ∃ T : ByteArray, (⟨acc.toArray⟩ : ByteArray) = T := ⟨_, rfl⟩
                          rw [hT] at hal c1 HFY
                          have HTT := Lib.hid hT
                          clear hT
                          by_cases h64 : 64 < acc.length
                          · have d64 : (64 : Int) < (T.size : Int) := by omega
                            have HH := Lib.hid h64
                            clear h64
                            have hre := (split_bad _ _ ts 8 hl hbl (by rw [HFF.out, ← HE.out, if_pos HH.out])).symm.trans HT.out
                            subst hre
                            go_wp2_with fail
                            refine bodyPost_ret (v := .tuple #[.slice none 0 0, .int .i64 (k : Int), .int .i64 8]) ?_ (by rfl) ⟨_, _, _, _, _, rfl, Lib.hid ⟨rfl, rfl, rfl, rfl, rfl⟩, HBY.out⟩
                            · simp only [results, Tryd.results7]; go_simp
                          · have d64 : ¬ (64 : Int) < (T.size : Int) := by omega
                            have HH := Lib.hid h64
                            clear h64
                            go_upto_region 52 with fail
                            have hT := HTT.out
                            subst hT
                            have HT2 := Lib.hid ((split_tok _ _ ts 4 acc 0 q hl hbl (by rw [HFF.out, ← HE.out, if_neg HH.out])).symm.trans HT.out)
                            go_wp2_with (at_builtin; refine wpList_append_own _ rfl _ _ 27 rfl W.heap.size RK i0 (tkV 0 ⟨#[]⟩ 0 0) 4 40 Tryd.underlying27 hi hz0 hz1 hz2 rfl (by decide) _ _ _ rfl (HOY.out.alloc _) ⟨wr2.heap.size, 0, none⟩ 1 1 [.int .i64 4, .string ⟨acc.toArray⟩, .int .i64 0, .int .i64 (k : Int)] rfl rfl (cells_new_add wr2 [.int .i64 4, .string ⟨acc.toArray⟩, .int .i64 0, .int .i64 (k : Int)] RK) (four_cells _ _ _ _) (by unfold maxLen; omega) (by omega) (by have := HBY.out.size; simp only [World.size_alloc]; omega) ?_; intro v' w5 hown' hgrow _)
                            have hB5 : Below W.heap.size W w5 := (HBY.out.alloc HBY.out.size _).grown hgrow (by have := HBY.out.size; simp only [World.size_alloc]; omega) (fun k hk => (HOY.out.lt k hk).1)
                            obtain ⟨a5, c5, rfl⟩ := owns_shape hown'
                            have HO2 := Lib.hid hown'
                            have HB5 := Lib.hid hB5
                            clear hown' hgrow hB5
                            go_wp2
                            go_roundw
                            case rel => exact ⟨k + (q + 1), ts ++ [⟨4, acc, 0, k⟩], a5, c5, by rw [List.length_append]; rfl, by first | go_num | (have := HQ.out; congr 1; omega), by have := HQ.out; omega, by rw [List.length_append]; simp; omega, HT2, Lib.hid (by rw [tCells_snoc, List.length_append]; exact HO2.out), HB5⟩
                            case measure => have := HQ.out; simp [intOf]; omega
                      · have dy : (s.size : Int) ≤ (j : Int) + 1 := by omega
                        have hx' : (s.data.toList.drop k)[q + 1]? ≠ some 39 := by
                          rw [List.getElem?_eq_none (by rw [hlen]; have := HQ.out; omega)]; decide
                        have HE := Lib.hid ((text_end _ _ _ hlq hq39 hx').symm.trans HTX.out)
                        clear hx' hq39 hatq hlen hlq
                        have hal : ((⟨acc.toArray⟩ : ByteArray).size : Int) = (acc.length : Int) := by show (acc.toArray.size : Int) = _; simp
                        obtain ⟨T, hT⟩ : ∃ T : ByteArray, (⟨acc.toArray⟩ : ByteArray) = T := ⟨_, rfl⟩
                        rw [hT] at hal c1 HFY
                        have HTT := Lib.hid hT
                        clear hT
                        by_cases h64 : 64 < acc.length
                        · have d64 : (64 : Int) < (T.size : Int) := by omega
                          have HH := Lib.hid h64
                          clear h64
                          have hre := (split_bad _ _ ts 8 hl hbl (by rw [HFF.out, ← HE.out, if_pos HH.out])).symm.trans HT.out
                          subst hre
                          go_wp2_with fail
                          refine bodyPost_ret (v := .tuple #[.slice none 0 0, .int .i64 (k : Int), .int .i64 8]) ?_ (by rfl) ⟨_, _, _, _, _, rfl, Lib.hid ⟨rfl, rfl, rfl, rfl, rfl⟩, HBY.out⟩
                          · simp only [results, Tryd.results7]; go_simp
                        · have d64 : ¬ (64 : Int) < (T.size : Int) := by omega
                          have HH := Lib.hid h64
                          clear h64
                          go_upto_region 52 with fail
                          have hT := HTT.out
                          subst hT
                          have HT2 := Lib.hid ((split_tok _ _ ts 4 acc 0 q hl hbl (by rw [HFF.out, ← HE.out, if_neg HH.out])).symm.trans HT.out)
                          go_wp2_with (at_builtin; refine wpList_append_own _ rfl _ _ 27 rfl W.heap.size RK i0 (tkV 0 ⟨#[]⟩ 0 0) 4 40 Tryd.underlying27 hi hz0 hz1 hz2 rfl (by decide) _ _ _ rfl (HOY.out.alloc _) ⟨wr2.heap.size, 0, none⟩ 1 1 [.int .i64 4, .string ⟨acc.toArray⟩, .int .i64 0, .int .i64 (k : Int)] rfl rfl (cells_new_add wr2 [.int .i64 4, .string ⟨acc.toArray⟩, .int .i64 0, .int .i64 (k : Int)] RK) (four_cells _ _ _ _) (by unfold maxLen; omega) (by omega) (by have := HBY.out.size; simp only [World.size_alloc]; omega) ?_; intro v' w5 hown' hgrow _)
                          have hB5 : Below W.heap.size W w5 := (HBY.out.alloc HBY.out.size _).grown hgrow (by have := HBY.out.size; simp only [World.size_alloc]; omega) (fun k hk => (HOY.out.lt k hk).1)
                          obtain ⟨a5, c5, rfl⟩ := owns_shape hown'
                          have HO2 := Lib.hid hown'
                          have HB5 := Lib.hid hB5
                          clear hown' hgrow hB5
                          go_wp2
                          go_roundw
                          case rel => exact ⟨k + (q + 1), ts ++ [⟨4, acc, 0, k⟩], a5, c5, by rw [List.length_append]; rfl, by first | go_num | (have := HQ.out; congr 1; omega), by have := HQ.out; omega, by rw [List.length_append]; simp; omega, HT2, Lib.hid (by rw [tCells_snoc, List.length_append]; exact HO2.out), HB5⟩
                          case measure => have := HQ.out; simp [intOf]; omega
                    · have e39 : ((s[j].toNat : Int) == 39) = false := by simp; omega
                      have hq39 : (s.data.toList.drop k)[q] ≠ 39 := by rw [hatq]; intro h; exact h39 (by rw [h]; rfl)
                      have HTX2 := (text_one _ _ _ hlq hq39).symm.trans HTX.out
                      rw [hatq] at HTX2
                      have HTX2 := Lib.hid HTX2
                      have hE := ext_one acc s j hjz
                      obtain ⟨A2, hA2⟩ : ∃ A2 : ByteArray, (⟨(acc ++ [s[j]]).toArray⟩ : ByteArray) = A2 := ⟨_, rfl⟩
                      rw [hA2] at hE
                      have HA2 := Lib.hid hA2
                      clear hA2 hatq hq39 hlen hlq
                      go_upto_region 47 with fail
                      go_region
                      clear hE
                      have HFY2 : Hid (Flds (wr2.setCell ⟨g, 1, none⟩ (.string A2)).drew g RK [.int .i64 4, .string A2, .int .i64 0, .int .i64 (k : Int)]) := Lib.hid (HFY.out.set 1 (.string A2))
                      have HOY2 : Hid (((wr2.setCell ⟨g, 1, none⟩ (.string A2)).drew).ownsRow W.heap.size RK 4 (.slice a ts.length c) ts.length (tCells ts)) := Lib.hid ((owns_setCell HOY.out ⟨g, 1, none⟩ (.string A2) HNE.out)).drew
                      have HBY2 : Hid (Below W.heap.size W (wr2.setCell ⟨g, 1, none⟩ (.string A2)).drew) := Lib.hid ((HBY.out.setCell (p := ⟨g, 1, none⟩) hgW (.string A2))).drew
                      clear c0 c1 c2 c3 k0 k1 k2 k3 hglt
                      generalize (wr2.setCell ⟨g, 1, none⟩ (.string A2)).drew = w9 at *
                      have hglt : g < w9.heap.size := HFY2.out.lt
                      have c0 := HFY2.out.cell 0
                      have k0 := HFY2.out.frozen 0
                      have c1 := HFY2.out.cell 1
                      have k1 := HFY2.out.frozen 1
                      have c2 := HFY2.out.cell 2
                      have k2 := HFY2.out.frozen 2
                      have c3 := HFY2.out.cell 3
                      have k3 := HFY2.out.frozen 3
                      simp only [List.getElem?_cons_zero, List.getElem?_cons_succ] at c0 c1 c2 c3
                      have hA2 := HA2.out
                      subst hA2
                      go_wp2_with fail
                      go_roundw
                      case rel => exact ⟨j + 1, q + 1, acc ++ [s[j]], by go_num, Lib.hid (by rw [HQ.out]; omega), by omega, by omega, by omega, by rw [List.length_append]; simp; omega, HTX2, HFY2, HOY2, HBY2⟩
                      case measure => simp [intOf]; omega
                  · have dj : (s.size : Int) ≤ (j : Int) := by omega
                    have hre0 : textL (s.data.toList.drop k) q acc = .bad 4 := text_out _ _ _ (by rw [hlen]; have := HQ.out; omega)
                    have hre1 : F1 = .bad 4 := HTX.out.symm.trans hre0
                    have hre := (split_bad _ _ ts 4 hl hbl (by rw [HFF.out, hre1])).symm.trans HT.out
                    subst hre
                    clear hre0 hre1
                    go_wp2_with fail
                    refine bodyPost_ret (v := .tuple #[.slice none 0 0, .int .i64 (k : Int), .int .i64 4]) ?_ (by rfl) ⟨_, _, _, _, _, rfl, Lib.hid ⟨rfl, rfl, rfl, rfl, rfl⟩, HBY.out⟩
                    · simp only [results, Tryd.results7]; go_simp
              · by_cases hbk : blankB s[k] = true
                · have h95 : ¬ s[k].toNat = 95 := by unfold blankB at hbk; simp at hbk; omega
                  have hb6 : blankB s.data.toList[k] = true := by rw [data_at s k hz]; exact hbk
                  have HC : Hid (∀ W, Calls Tryd.prog 12 #[.int .u8 (s[k].toNat : Int)] W fun e w' => e = .returned (.int .i64 6) ∧ W = w') := Lib.hid (fun W => by have h := class_any s[k] W; rw [show classN s[k] = 6 by unfold classN; rw [hlow, hup, hdig, hbk]; simp [h95, hq]] at h; exact h)
                  have HT2 := Lib.hid ((split_blank _ _ ts hl hb6).symm.trans HT.out)
                  go_wp2_with (go_at_call 12; (with_reducible refine (HC.out _).mono ?_); rintro e w1 ⟨rfl, rfl⟩)
                  go_roundw
                  case rel => exact ⟨k + 1, ts, a, c, rfl, by go_num, by omega, by omega, HT2, HOT, HBT⟩
                  case measure => simp [intOf]; omega
                · have hbl : blankB s.data.toList[k] = false := by rw [data_at s k hz]; simpa using hbk
                  by_cases h95 : s[k].toNat = 95
                  · have HC : Hid (∀ W, Calls Tryd.prog 12 #[.int .u8 (s[k].toNat : Int)] W fun e w' => e = .returned (.int .i64 4) ∧ W = w') := Lib.hid (fun W => by have h := class_any s[k] W; rw [show classN s[k] = 4 by unfold classN; rw [hlow, hup, hdig]; simp [h95]] at h; exact h)
                    have hff : firstL (s.data.toList.drop k) = signL (s.data.toList.drop k) := (first_at s k hz).trans (by simp only [hlow, hup, hdig, Bool.false_eq_true, if_false]; rw [if_neg (fun h => hq (by rw [h]; rfl))])
                    have hext : (s.extract k s.size).data.toList = s.data.toList.drop k := Lib.extract_to_end s k
                    have hexz : (s.extract k s.size).size = s.size - k := by rw [ByteArray.size_extract]; omega
                    clear h95 hq hbk
                    have HSG := fun W => rsign_any (s.extract k s.size) (by omega) (by omega) W
                    rw [hext] at HSG
                    unfold signL at hff
                    unfold signR at HSG
                    have HFS : Hid (∀ x, signsL.find? (fun x => x.isPrefixOf (s.data.toList.drop k)) = some x → 1 ≤ x.length ∧ x.length ≤ 2 ∧ x.length ≤ s.size - k) := Lib.hid (fun x hx => by
                      have hm := List.mem_of_find?_eq_some hx
                      have hp := List.isPrefixOf_iff_prefix.1 (List.find?_some (p := fun x : List UInt8 => x.isPrefixOf (s.data.toList.drop k)) hx)
                      have hpl := hp.length_le
                      rw [List.length_drop, data_len] at hpl
                      have hsm : ∀ y ∈ signsL, 1 ≤ y.length ∧ y.length ≤ 2 := by decide
                      exact ⟨(hsm _ hm).1, (hsm _ hm).2, hpl⟩)
                    cases hfind : signsL.find? (fun x => x.isPrefixOf (s.data.toList.drop k)) with
                    | none =>
                      rw [hfind] at hff HSG
                      simp only at hff HSG
                      have HFF := Lib.hid hff
                      have HSG := Lib.hid HSG
                      clear hff hfind hext
                      have hre := (split_bad _ _ ts 4 hl hbl HFF.out).symm.trans HT.out
                      subst hre
                      go_wp2_with (first | (go_at_call 12; (with_reducible refine (HC.out _).mono ?_); rintro e w1 ⟨rfl, rfl⟩) | (go_at_call 14; (with_reducible refine (HSG.out _).mono ?_); rintro e w1 ⟨rfl, rfl⟩))
                      refine bodyPost_ret (v := .tuple #[.slice none 0 0, .int .i64 (k : Int), .int .i64 4]) ?_ (by rfl) ⟨_, _, _, _, _, rfl, Lib.hid ⟨rfl, rfl, rfl, rfl, rfl⟩, HBT.out⟩
                      · simp only [results, Tryd.results7]; go_simp
                    | some X =>
                      obtain ⟨x1, x2, x3⟩ := HFS.out X hfind
                      rw [hfind] at hff HSG
                      simp only at hff HSG
                      have hTs : (⟨X.toArray⟩ : ByteArray).size = X.length := by show X.toArray.size = _; simp
                      have hTe : (⟨X.toArray⟩ : ByteArray).toList.isEmpty = false := not_empty _ (by omega)
                      obtain ⟨M, hM⟩ : ∃ M, X.length = M := ⟨_, rfl⟩
                      rw [hM] at hTs x1 x2 x3
                      have HFF := Lib.hid hff
                      have HSG := Lib.hid HSG
                      have HM := Lib.hid hM
                      clear hff hfind hM hext
                      have m0 : (1 : Int) ≤ (M : Int) := by omega
                      have m1 : (M : Int) ≤ 2 := by omega
                      obtain ⟨T, hT⟩ : ∃ T : ByteArray, (⟨X.toArray⟩ : ByteArray) = T := ⟨_, rfl⟩
                      rw [hT] at hTs hTe HSG
                      have HTT := Lib.hid hT
                      clear hT
                      go_upto_region 52 with (first | (go_at_call 12; (with_reducible refine (HC.out _).mono ?_); rintro e w1 ⟨rfl, rfl⟩) | (go_at_call 14; (with_reducible refine (HSG.out _).mono ?_); rintro e w1 ⟨rfl, rfl⟩))
                      have hT := HTT.out
                      subst hT
                      clear hTe
                      have HFY : Hid (Flds ((wt.setCell ⟨g, 0, none⟩ (.int .i64 5)).setCell ⟨g, 1, none⟩ (.string ⟨X.toArray⟩)) g RK [.int .i64 5, .string ⟨X.toArray⟩, .int .i64 0, .int .i64 (k : Int)]) := Lib.hid ((HFL0.out.set 0 (.int .i64 5)).set 1 (.string ⟨X.toArray⟩))
                      have HOY : Hid ((((wt.setCell ⟨g, 0, none⟩ (.int .i64 5)).setCell ⟨g, 1, none⟩ (.string ⟨X.toArray⟩))).ownsRow W.heap.size RK 4 (.slice a ts.length c) ts.length (tCells ts)) := Lib.hid (owns_setCell (owns_setCell HOT.out ⟨g, 0, none⟩ (.int .i64 5) HNE.out) ⟨g, 1, none⟩ (.string ⟨X.toArray⟩) HNE.out)
                      have HBY : Hid (Below W.heap.size W ((wt.setCell ⟨g, 0, none⟩ (.int .i64 5)).setCell ⟨g, 1, none⟩ (.string ⟨X.toArray⟩))) := Lib.hid ((HBT.out.setCell (p := ⟨g, 0, none⟩) hgW (.int .i64 5)).setCell (p := ⟨g, 1, none⟩) hgW (.string ⟨X.toArray⟩))
                      clear c0 c1 c2 c3 k0 k1 k2 k3 hglt
                      generalize ((wt.setCell ⟨g, 0, none⟩ (.int .i64 5)).setCell ⟨g, 1, none⟩ (.string ⟨X.toArray⟩)) = wy at *
                      have hglt : g < wy.heap.size := HFY.out.lt
                      have c0 := HFY.out.cell 0
                      have k0 := HFY.out.frozen 0
                      have c1 := HFY.out.cell 1
                      have k1 := HFY.out.frozen 1
                      have c2 := HFY.out.cell 2
                      have k2 := HFY.out.frozen 2
                      have c3 := HFY.out.cell 3
                      have k3 := HFY.out.frozen 3
                      simp only [List.getElem?_cons_zero, List.getElem?_cons_succ] at c0 c1 c2 c3
                      clear HFL0 HOT HBT
                      have HT2 := Lib.hid ((split_tok _ _ ts 5 X 0 (M - 1) hl hbl (by rw [HFF.out, HM.out])).symm.trans HT.out)
                      go_wp2_with (at_builtin; refine wpList_append_own _ rfl _ _ 27 rfl W.heap.size RK i0 (tkV 0 ⟨#[]⟩ 0 0) 4 40 Tryd.underlying27 hi hz0 hz1 hz2 rfl (by decide) _ _ _ rfl (HOY.out.alloc _) ⟨wy.heap.size, 0, none⟩ 1 1 [.int .i64 5, .string ⟨X.toArray⟩, .int .i64 0, .int .i64 (k : Int)] rfl rfl (cells_new_add wy [.int .i64 5, .string ⟨X.toArray⟩, .int .i64 0, .int .i64 (k : Int)] RK) (four_cells _ _ _ _) (by unfold maxLen; omega) (by omega) (by have := HBY.out.size; simp only [World.size_alloc]; omega) ?_; intro v' w5 hown' hgrow _)
                      have hB5 : Below W.heap.size W w5 := (HBY.out.alloc HBY.out.size _).grown hgrow (by have := HBY.out.size; simp only [World.size_alloc]; omega) (fun k hk => (HOY.out.lt k hk).1)
                      obtain ⟨a5, c5, rfl⟩ := owns_shape hown'
                      have HO2 := Lib.hid hown'
                      have HB5 := Lib.hid hB5
                      clear hown' hgrow hB5
                      go_wp2
                      go_roundw
                      case rel => exact ⟨k + ((M - 1) + 1), ts ++ [⟨5, X, 0, k⟩], a5, c5, by rw [List.length_append]; rfl, by first | go_num | (congr 1; omega), by omega, by rw [List.length_append]; simp; omega, HT2, Lib.hid (by rw [tCells_snoc, List.length_append]; exact HO2.out), HB5⟩
                      case measure => simp [intOf]; omega
                  · have HC : Hid (∀ W, Calls Tryd.prog 12 #[.int .u8 (s[k].toNat : Int)] W fun e w' => e = .returned (.int .i64 0) ∧ W = w') := Lib.hid (fun W => by have h := class_any s[k] W; rw [show classN s[k] = 0 by unfold classN; rw [hlow, hup, hdig]; simp [h95, hq, hbk]] at h; exact h)
                    have hff : firstL (s.data.toList.drop k) = signL (s.data.toList.drop k) := (first_at s k hz).trans (by simp only [hlow, hup, hdig, Bool.false_eq_true, if_false]; rw [if_neg (fun h => hq (by rw [h]; rfl))])
                    have hext : (s.extract k s.size).data.toList = s.data.toList.drop k := Lib.extract_to_end s k
                    have hexz : (s.extract k s.size).size = s.size - k := by rw [ByteArray.size_extract]; omega
                    clear h95 hq hbk
                    have HSG := fun W => rsign_any (s.extract k s.size) (by omega) (by omega) W
                    rw [hext] at HSG
                    unfold signL at hff
                    unfold signR at HSG
                    have HFS : Hid (∀ x, signsL.find? (fun x => x.isPrefixOf (s.data.toList.drop k)) = some x → 1 ≤ x.length ∧ x.length ≤ 2 ∧ x.length ≤ s.size - k) := Lib.hid (fun x hx => by
                      have hm := List.mem_of_find?_eq_some hx
                      have hp := List.isPrefixOf_iff_prefix.1 (List.find?_some (p := fun x : List UInt8 => x.isPrefixOf (s.data.toList.drop k)) hx)
                      have hpl := hp.length_le
                      rw [List.length_drop, data_len] at hpl
                      have hsm : ∀ y ∈ signsL, 1 ≤ y.length ∧ y.length ≤ 2 := by decide
                      exact ⟨(hsm _ hm).1, (hsm _ hm).2, hpl⟩)
                    cases hfind : signsL.find? (fun x => x.isPrefixOf (s.data.toList.drop k)) with
                    | none =>
                      rw [hfind] at hff HSG
                      simp only at hff HSG
                      have HFF := Lib.hid hff
                      have HSG := Lib.hid HSG
                      clear hff hfind hext
                      have hre := (split_bad _ _ ts 4 hl hbl HFF.out).symm.trans HT.out
                      subst hre
                      go_wp2_with (first | (go_at_call 12; (with_reducible refine (HC.out _).mono ?_); rintro e w1 ⟨rfl, rfl⟩) | (go_at_call 14; (with_reducible refine (HSG.out _).mono ?_); rintro e w1 ⟨rfl, rfl⟩))
                      refine bodyPost_ret (v := .tuple #[.slice none 0 0, .int .i64 (k : Int), .int .i64 4]) ?_ (by rfl) ⟨_, _, _, _, _, rfl, Lib.hid ⟨rfl, rfl, rfl, rfl, rfl⟩, HBT.out⟩
                      · simp only [results, Tryd.results7]; go_simp
                    | some X =>
                      obtain ⟨x1, x2, x3⟩ := HFS.out X hfind
                      rw [hfind] at hff HSG
                      simp only at hff HSG
                      have hTs : (⟨X.toArray⟩ : ByteArray).size = X.length := by show X.toArray.size = _; simp
                      have hTe : (⟨X.toArray⟩ : ByteArray).toList.isEmpty = false := not_empty _ (by omega)
                      obtain ⟨M, hM⟩ : ∃ M, X.length = M := ⟨_, rfl⟩
                      rw [hM] at hTs x1 x2 x3
                      have HFF := Lib.hid hff
                      have HSG := Lib.hid HSG
                      have HM := Lib.hid hM
                      clear hff hfind hM hext
                      have m0 : (1 : Int) ≤ (M : Int) := by omega
                      have m1 : (M : Int) ≤ 2 := by omega
                      obtain ⟨T, hT⟩ : ∃ T : ByteArray, (⟨X.toArray⟩ : ByteArray) = T := ⟨_, rfl⟩
                      rw [hT] at hTs hTe HSG
                      have HTT := Lib.hid hT
                      clear hT
                      go_upto_region 52 with (first | (go_at_call 12; (with_reducible refine (HC.out _).mono ?_); rintro e w1 ⟨rfl, rfl⟩) | (go_at_call 14; (with_reducible refine (HSG.out _).mono ?_); rintro e w1 ⟨rfl, rfl⟩))
                      have hT := HTT.out
                      subst hT
                      clear hTe
                      have HFY : Hid (Flds ((wt.setCell ⟨g, 0, none⟩ (.int .i64 5)).setCell ⟨g, 1, none⟩ (.string ⟨X.toArray⟩)) g RK [.int .i64 5, .string ⟨X.toArray⟩, .int .i64 0, .int .i64 (k : Int)]) := Lib.hid ((HFL0.out.set 0 (.int .i64 5)).set 1 (.string ⟨X.toArray⟩))
                      have HOY : Hid ((((wt.setCell ⟨g, 0, none⟩ (.int .i64 5)).setCell ⟨g, 1, none⟩ (.string ⟨X.toArray⟩))).ownsRow W.heap.size RK 4 (.slice a ts.length c) ts.length (tCells ts)) := Lib.hid (owns_setCell (owns_setCell HOT.out ⟨g, 0, none⟩ (.int .i64 5) HNE.out) ⟨g, 1, none⟩ (.string ⟨X.toArray⟩) HNE.out)
                      have HBY : Hid (Below W.heap.size W ((wt.setCell ⟨g, 0, none⟩ (.int .i64 5)).setCell ⟨g, 1, none⟩ (.string ⟨X.toArray⟩))) := Lib.hid ((HBT.out.setCell (p := ⟨g, 0, none⟩) hgW (.int .i64 5)).setCell (p := ⟨g, 1, none⟩) hgW (.string ⟨X.toArray⟩))
                      clear c0 c1 c2 c3 k0 k1 k2 k3 hglt
                      generalize ((wt.setCell ⟨g, 0, none⟩ (.int .i64 5)).setCell ⟨g, 1, none⟩ (.string ⟨X.toArray⟩)) = wy at *
                      have hglt : g < wy.heap.size := HFY.out.lt
                      have c0 := HFY.out.cell 0
                      have k0 := HFY.out.frozen 0
                      have c1 := HFY.out.cell 1
                      have k1 := HFY.out.frozen 1
                      have c2 := HFY.out.cell 2
                      have k2 := HFY.out.frozen 2
                      have c3 := HFY.out.cell 3
                      have k3 := HFY.out.frozen 3
                      simp only [List.getElem?_cons_zero, List.getElem?_cons_succ] at c0 c1 c2 c3
                      clear HFL0 HOT HBT
                      have HT2 := Lib.hid ((split_tok _ _ ts 5 X 0 (M - 1) hl hbl (by rw [HFF.out, HM.out])).symm.trans HT.out)
                      go_wp2_with (at_builtin; refine wpList_append_own _ rfl _ _ 27 rfl W.heap.size RK i0 (tkV 0 ⟨#[]⟩ 0 0) 4 40 Tryd.underlying27 hi hz0 hz1 hz2 rfl (by decide) _ _ _ rfl (HOY.out.alloc _) ⟨wy.heap.size, 0, none⟩ 1 1 [.int .i64 5, .string ⟨X.toArray⟩, .int .i64 0, .int .i64 (k : Int)] rfl rfl (cells_new_add wy [.int .i64 5, .string ⟨X.toArray⟩, .int .i64 0, .int .i64 (k : Int)] RK) (four_cells _ _ _ _) (by unfold maxLen; omega) (by omega) (by have := HBY.out.size; simp only [World.size_alloc]; omega) ?_; intro v' w5 hown' hgrow _)
                      have hB5 : Below W.heap.size W w5 := (HBY.out.alloc HBY.out.size _).grown hgrow (by have := HBY.out.size; simp only [World.size_alloc]; omega) (fun k hk => (HOY.out.lt k hk).1)
                      obtain ⟨a5, c5, rfl⟩ := owns_shape hown'
                      have HO2 := Lib.hid hown'
                      have HB5 := Lib.hid hB5
                      clear hown' hgrow hB5
                      go_wp2
                      go_roundw
                      case rel => exact ⟨k + ((M - 1) + 1), ts ++ [⟨5, X, 0, k⟩], a5, c5, by rw [List.length_append]; rfl, by first | go_num | (congr 1; omega), by omega, by rw [List.length_append]; simp; omega, HT2, Lib.hid (by rw [tCells_snoc, List.length_append]; exact HO2.out), HB5⟩
                      case measure => simp [intOf]; omega
      · have dz : ¬ (k : Int) < (s.size : Int) := by omega
        have hre := (split_end s.data.toList k ts (by rw [data_len]; omega)).symm.trans HT.out
        subst hre
        go_wp2_with fail
        refine bodyPost_ret (v := .tuple #[.slice a ts.length c, .int .i64 0, .int .i64 0]) ?_ (by rfl) ⟨_, _, _, _, _, rfl, Lib.hid ⟨rfl, rfl, rfl, HO.out⟩, HB.out⟩
        · simp only [results, Tryd.results7]; go_simp
end Go.Proofs.YtkgfmjejcpjfiaaDoor.lx
