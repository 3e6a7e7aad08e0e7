/- The key of a bag, walked. -/
import Derived.Test.YtpkkhbmlclicfaaBagQ
import Derived.Test.YtpkkhbmlclicfaaME
import Derived.Test.YtpkkhbmlclicfaaMD
namespace Go.Proofs.Ytpkkhbmlclicfaa.val
set_option linter.unusedVariables false
open Go.RowKit Go.Sort
/-- a row's key, as bytes -/
def kB (r : List V) : ByteArray := ⟨(keyB r).toArray⟩
/-- the keys of a bag's rows -/
def keysB (o : BL) : List ByteArray := o.flatMap fun x => List.replicate x.2 (kB x.1)
theorem keysB_snoc (o : BL) (x : List V × Nat) : keysB (o ++ [x]) = keysB o ++ List.replicate x.2 (kB x.1) := by simp [keysB]
theorem keysB_len (o : BL) : (keysB o).length = total o := by
  induction o with
  | nil => rfl
  | cons a l ih =>
    unfold keysB total at ih ⊢
    simp only [List.flatMap_cons, List.length_append, List.length_replicate, List.map_cons, List.sum_cons] at ih ⊢
    omega
set_option maxRecDepth 100000 in
set_option maxHeartbeats 4000000 in
theorem bagkey_room (bv : Value) (o : BL) (ht : total o ≤ 1000000) (hroom : (packB (keysB o)).length ≤ 140737488355328) (w : World) (h : IsBag w bv o) :
    Calls Try.prog 12 #[bv] w fun e w' => e = .returned (.string ⟨(packB (keysB o)).toArray⟩) ∧ Below w.heap.size w w' := by
  obtain ⟨i0, hi, hz0, hz1, hz2⟩ := info_parts infoStr
  have hsh := h.short
  obtain ⟨a, c, xs, rfl, ho, hsx, hst, hgd, hsm⟩ := h
  have HO := Lib.hid ho
  have HS := Lib.hid hsx
  have HT := Lib.hid ht
  have HGD := Lib.hid hgd
  have HSM := Lib.hid hsm
  have HRM := Lib.hid hroom
  have hn0 : (0 : Int) ≤ (o.length : Int) := by omega
  have hn1 : (o.length : Int) ≤ 1000000 := by omega
  clear ho hsx ht hroom hst hgd hsm
  go_enter Try.func12, Try.ntmps12
  go_wp2_with fail
  go_loopw [3, 10] (fun sv iv wr => ∃ (k : Nat) (aa : Option Addr) (cc : Nat) (ss : List ByteArray), sv = .slice aa ss.length cc ∧ iv = .int .i64 (k : Int) ∧ k ≤ o.length ∧ Hid (ss = keysB (o.take k)) ∧ Hid (wr.ownsRow w.heap.size 9 1 sv ss.length (ss.map Value.string)) ∧ Hid (Below w.heap.size w wr)) (fun _ iv _ => o.length - (intOf iv).toNat)
  case atStart => exact ⟨0, none, 0, [], rfl, rfl, Nat.zero_le _, Lib.hid rfl, Lib.hid (World.ownsRow_nil _ _ _ _), Lib.hid (below_alloc1 _ _)⟩
  case round =>
    obtain ⟨k, aa, cc, ss, rfl, rfl, hk, HSS, HOW, HB⟩ := hrel
    have hd0 : (0 : Int) ≤ (k : Int) := by omega
    by_cases hkn : k < o.length
    · have dk : (k : Int) < (o.length : Int) := by omega
      obtain ⟨g, ua, uc, rfl, hgl, hru, hc⟩ := bag_at HO.out HS.out k hkn
      obtain ⟨c0, c1⟩ := hc _ HB.out
      have hglt : g < wr.heap.size := Nat.lt_of_lt_of_le hgl HB.out.size
      have htk : o.take (k + 1) = o.take k ++ [o[k]] := List.take_succ_eq_append_getElem hkn
      have hgr := HGD.out _ (List.getElem_mem hkn)
      have hsr := HSM.out _ (List.getElem_mem hkn)
      have htd := total_mem _ _ (List.getElem_mem hkn)
      have hts : ss.length + (o[k]).2 ≤ 1000000 := by
        have h1 := total_take o (k + 1)
        rw [htk, total_snoc] at h1
        have h2 := HT.out
        have h3 : ss.length = total (o.take k) := by rw [HSS.out, keysB_len]
        omega
      generalize o[k] = x at *
      obtain ⟨r, d⟩ := x
      simp only at c0 c1 hru hgr hsr htd hts
      have hal := below_alloc1 wr (.cells #[.slice ua r.length uc, .int .i64 (d : Int)] TS)
      have HTK := Lib.hid htk
      have HOT := Lib.hid (HOW.out.alloc (.cells #[.slice ua r.length uc, .int .i64 (d : Int)] TS))
      have HB3 := Lib.hid (HB.out.trans (hal.mono HB.out.size))
      have HF5 := Lib.hid (Flds.new wr TS [.slice ua r.length uc, .int .i64 (d : Int)])
      have HK := Lib.hid (key_any (.slice ua r.length uc) r hgr hsr (wr.alloc (.cells #[.slice ua r.length uc, .int .i64 (d : Int)] TS)) (((Row.of_owns hru).later HB.out).later hal))
      have hdd0 : (0 : Int) ≤ (d : Int) := by omega
      have hdd1 : (d : Int) ≤ 1000000 := by omega
      clear hc hru htk hal HOW htd
      go_upto_region 5 with fail
      generalize wr.alloc (.cells #[.slice ua r.length uc, .int .i64 (d : Int)] TS) = w3 at *
      generalize wr.heap.size = g5 at *
      clear c0 c1
      have c0 := HF5.out.cell 0
      simp only [List.getElem?_cons_zero] at c0
      have hl5 : g5 < w3.heap.size := HF5.out.lt
      go_upto_region 6 with (go_at_call 30; (with_reducible refine (HK.out).mono ?_); rintro e w4 ⟨rfl, hb4⟩; have HF6 := Lib.hid (HF5.out.later hb4); have HO4 := Lib.hid (owns_below HOT.out hb4); have HB4 := Lib.hid (HB3.out.trans (hb4.mono HB3.out.size)); clear hb4)
      obtain ⟨KR, hKR⟩ : ∃ KR, kB r = KR := ⟨_, rfl⟩
      have hkb : (⟨(keyB r).toArray⟩ : ByteArray) = KR := hKR
      rw [hkb]
      have HKR := Lib.hid hKR
      clear hkb hKR c0 hl5
      have c1 := HF6.out.cell 1
      simp only [List.getElem?_cons_zero, List.getElem?_cons_succ] at c1
      have hl6 : g5 < w4.heap.size := HF6.out.lt
      go_wp2_with fail
      go_loopw [3, 19] (fun sv jv w2 => ∃ (j : Nat) (ab : Option Addr) (cb : Nat) (tt : List ByteArray), sv = .slice ab tt.length cb ∧ jv = .int .i64 (j : Int) ∧ j ≤ d ∧ Hid (tt = ss ++ List.replicate j KR) ∧ Hid (w2.ownsRow w.heap.size 9 1 sv tt.length (tt.map Value.string)) ∧ Hid (Below w.heap.size w w2)) (fun _ jv _ => d - (intOf jv).toNat)
      case atStart => exact ⟨0, aa, cc, ss, rfl, rfl, Nat.zero_le _, Lib.hid (by simp), HO4, HB4⟩
      case round =>
        clear HO4 HOT HB3 HF5 HF6 hglt hgl c1 hl6 HB4
        obtain ⟨j, ab, cb, tt, rfl, rfl, hj, HTT, HOJ, HBJ⟩ := hrel
        have hj0 : (0 : Int) ≤ (j : Int) := by omega
        have htl : tt.length = ss.length + j := by rw [HTT.out, List.length_append, List.length_replicate]
        by_cases hjd : j < d
        · have dj : (j : Int) < (d : Int) := by omega
          have hbs := HBJ.out.size
          go_wp2_with (at_builtin; refine wpList_append_own _ rfl _ _ 46 rfl w.heap.size 9 i0 (.string ⟨#[]⟩) 1 16 Try.underlying46 hi hz0 hz1 hz2 rfl (by decide) _ _ _ rfl (HOJ.out.alloc _) ⟨wr.heap.size, 0, none⟩ 1 1 [.string KR] rfl rfl (cells_new_add' wr [.string KR] 9) (fun u hu => by rw [List.mem_singleton.1 hu]; rfl) (by unfold maxLen; omega) (by omega) (by simp only [World.size_alloc]; omega) ?_; intro v' w5 hown' hgrow _)
          have hgr' : (wr.alloc (.cells #[.string KR] 9)).grownBy w5 (Value.slice ab tt.length cb).ownBlock := hgrow
          have HB5 := Lib.hid ((HBJ.out.alloc hbs (.cells #[.string KR] 9)).grown hgr' (by simp only [World.size_alloc]; omega) (fun jj hjj => (HOJ.out.lt jj hjj).1))
          obtain ⟨a5, c5, rfl⟩ := owns_shape hown'
          have HO5 := Lib.hid hown'
          clear hgr' hgrow hown'
          go_roundw
          case rel => exact ⟨j + 1, a5, c5, tt ++ [KR], by rw [List.length_append]; rfl, by go_num, by omega, Lib.hid (by rw [HTT.out, List.replicate_succ', List.append_assoc]), Lib.hid (by rw [List.map_append, List.length_append]; exact HO5.out), HB5⟩
          case measure => simp [intOf]; omega
        · have dj : ¬ (j : Int) < (d : Int) := by omega
          have hje : j = d := by omega
          have HJE := Lib.hid hje
          have HTL := Lib.hid htl
          clear hje htl
          go_wp2_with fail
          go_roundw
          case rel => exact ⟨k + 1, ab, cb, tt, rfl, by go_num, by omega, Lib.hid (by rw [HTK.out, keysB_snoc, HTT.out, HSS.out, HKR.out, HJE.out]), HOJ, HBJ⟩
          case measure => simp [intOf]; omega
    · have dk : ¬ (k : Int) < (o.length : Int) := by omega
      have htk : o.take k = o := List.take_of_length_le (by omega)
      have hss := HSS.out
      rw [htk] at hss
      have hsl : ss.length ≤ 1000000 := by rw [hss, keysB_len]; exact HT.out
      have HPK := Lib.hid (pack_any (.slice aa ss.length cc) ss wr (by omega) (Row.of_owns HOW.out) (by rw [hss]; exact HRM.out))
      have HSE := Lib.hid hss
      clear hss htk
      go_wp2_with (go_at_call 31; (with_reducible refine (HPK.out).mono ?_); rintro e w4 ⟨rfl, hb4⟩; have HB4 := Lib.hid hb4; clear hb4)
      go_ret
      exact ⟨by rw [HSE.out]; rfl, HB.out.trans (HB4.out.mono HB.out.size)⟩
end Go.Proofs.Ytpkkhbmlclicfaa.val
/- slices.IsSortedFunc over rows, walked. -/
namespace Go.Proofs.Ytpkkhbmlclicfaa.val
set_option linter.unusedVariables false
open Go.RowKit Go.Sort
/-- no row stands ahead of the one before it -/
def Adj (ls : List (List V)) : Prop := ∀ (j : Nat) x y, ls[j]? = some x → ls[j + 1]? = some y → beforeL y x = false
noncomputable def adjB (ls : List (List V)) : Bool := @decide (Adj ls) (Classical.propDecidable _)
theorem adjB_t {ls : List (List V)} (h : Adj ls) : adjB ls = true := @decide_eq_true _ (Classical.propDecidable _) h
theorem adjB_f {ls : List (List V)} (h : ¬ Adj ls) : adjB ls = false := @decide_eq_false _ (Classical.propDecidable _) h
set_option maxRecDepth 100000 in
set_option maxHeartbeats 4000000 in
theorem issorted_any (v : Value) (us : List Value) (ls : List (List V)) (hn : us.length ≤ 1000000) (hg : ∀ l ∈ ls, Goods l) (hl : ∀ l ∈ ls, l.length ≤ 1000000) (w : World) (hv : Row w v 1 us.length us) (hr : Rws w us ls) :
    Calls Try.prog 29 #[v, .func (.func 21) #[] #[]] w fun e w' => e = .returned (.bool (adjB ls)) ∧ Below w.heap.size w w' := by
  have HV := Lib.hid hv
  have HR := Lib.hid hr
  have HG := Lib.hid hg
  have HL := Lib.hid hl
  have HLL : Hid (ls.length = us.length) := Lib.hid hr.1.symm
  obtain ⟨a, cap, rfl, -⟩ := hv
  have hn0 : (0 : Int) ≤ (us.length : Int) := by omega
  have hn1 : (us.length : Int) ≤ 1000000 := by omega
  clear hr hg hl
  go_enter Try.func29, Try.ntmps29
  go_wp2_with fail
  go_loopw [5] (fun iv wr => ∃ (k : Nat) (i : Int), iv = .int .i64 i ∧ i = (k : Int) - 1 ∧ k ≤ us.length ∧ Hid (∀ (j : Nat) x y, k ≤ j + 1 → ls[j]? = some x → ls[j + 1]? = some y → beforeL y x = false) ∧ Hid (Below w.heap.size w wr)) (fun iv _ => (intOf iv).toNat)
  case atStart => exact ⟨us.length, (us.length : Int) - 1, rfl, rfl, Nat.le_refl _, Lib.hid (fun j x y h1 h2 h3 => by have := (List.getElem?_eq_some_iff.1 h3).1; rw [HLL.out] at this; omega), Lib.hid (Below.refl _ _)⟩
  case round =>
    obtain ⟨k, i, rfl, hik, hk, HA, HB⟩ := hrel
    by_cases h2 : 2 ≤ k
    · obtain ⟨M, rfl⟩ : ∃ M, k = M + 2 := ⟨k - 2, by omega⟩
      have hi : i = (M : Int) + 1 := by omega
      subst hi
      clear hik
      have hm0 : (0 : Int) ≤ (M : Int) := by omega
      have hm1 : (M : Int) ≤ 1000000 := by omega
      have d0 : (0 : Int) < (M : Int) + 1 := by omega
      have d1 : (M : Int) + 1 < (us.length : Int) := by omega
      have d3 : (0 : Int) ≤ (M : Int) + 1 := by omega
      have tn : ((M : Int) + 1).toNat = M + 1 := by omega
      have d2 : (M : Int) < (us.length : Int) := by omega
      have hM : M < us.length := by omega
      have hM1 : M + 1 < us.length := by omega
      have hL : M < ls.length := by rw [HLL.out]; exact hM
      have hL1 : M + 1 < ls.length := by rw [HLL.out]; exact hM1
      obtain ⟨b, off, cap', ea, g0⟩ := row_at (HV.out.later HB.out) M hM
      obtain ⟨b', off', cap2, ea2, g1⟩ := row_at (HV.out.later HB.out) (M + 1) hM1
      simp only [Value.slice.injEq] at ea
      obtain ⟨rfl, -, rfl⟩ := ea
      simp only [Value.slice.injEq, Option.some.injEq, Addr.mk.injEq] at ea2
      obtain ⟨⟨rfl, rfl, -⟩, -, rfl⟩ := ea2
      have hra := (HR.out.later HB.out).2 M _ _ (List.getElem?_eq_getElem hM) (List.getElem?_eq_getElem hL)
      have hrb := (HR.out.later HB.out).2 (M + 1) _ _ (List.getElem?_eq_getElem hM1) (List.getElem?_eq_getElem hL1)
      have ga := HG.out _ (List.getElem_mem hL)
      have gb := HG.out _ (List.getElem_mem hL1)
      have la := HL.out _ (List.getElem_mem hL)
      have lb := HL.out _ (List.getElem_mem hL1)
      have ex := List.getElem?_eq_getElem hL
      have ey := List.getElem?_eq_getElem hL1
      generalize us[M] = u at *
      generalize us[M + 1] = u1 at *
      generalize ls[M] = x at *
      generalize ls[M + 1] = y at *
      have hblk := World.block_lt_of_cell? wr _ g0
      dsimp only at hblk
      obtain ⟨R, hR⟩ : ∃ R, cmpL y x = R := ⟨_, rfl⟩
      have HC := fun W (hb : Below wr.heap.size wr W) => rcompare_any u1 u y x (by omega) (by omega) W (hrb.later hb) (hra.later hb)
      rw [hR] at HC
      have hcl := (cmpL_lt y x gb ga).1
      rw [hR] at hcl
      have HCL := Lib.hid hcl
      have mixed : Try.prog.follows .mixedOrders = true := by kernel_rfl
      have hcx : ∀ n os, Calls Try.prog 21 #[u1, u] (grow (wr.drewN n) os) fun e w' => e = .returned (.int .i64 R) ∧ ∃ q os', w' = grow ((grow (wr.drewN n) os).drewN q) os' := fun n os => (HC _ (below_growN wr n os)).mono (fun e w' h => ⟨h.1, h.2.form⟩)
      have x0 : ∀ n os, (grow (wr.drewN n) os).cell? ⟨b, off + M, none⟩ = some u := fun n os => cell_grown (by exact hblk) g0 n os
      have x1 : ∀ n os, (grow (wr.drewN n) os).cell? ⟨b, off + (M + 1), none⟩ = some u1 := fun n os => cell_grown (by exact hblk) g1 n os
      have hwM : IntKind.i64.wrap (M : Int) = (M : Int) := by simp [IntKind.wrap, IntKind.bits, IntKind.signed]; omega
      have HEX := Lib.hid ex
      have HEY := Lib.hid ey
      clear HC hcl hra hrb ga gb la lb ex ey g0 g1 hR
      by_cases hneg : R < 0
      · have e0 : (decide (R < 0)) = true := by simp [hneg]
        go_upto_region 4 with fail
        go_quiet_grown (first | (go_at_call 21; refine Calls.grown_of (hcx _ _)))
        clear hcx x0 x1
        go_wp2_with fail
        go_ret
        exact ⟨ret_b (adjB_f (fun h => by have := h M x y HEX.out HEY.out; rw [HCL.out.1 hneg] at this; cases this)).symm, HB.out.trans ((below_growN _ _ _).mono HB.out.size)⟩
      · have e0 : (decide (R < 0)) = false := by simp [hneg]
        have HNG := Lib.hid hneg
        go_upto_region 4 with fail
        go_quiet_grown (first | (go_at_call 21; refine Calls.grown_of (hcx _ _)))
        clear hcx x0 x1
        go_wp2_with fail
        go_roundw
        case rel => exact ⟨M + 1, (M : Int), rfl, by omega, by omega, Lib.hid (fun j a c p1 p2 p3 => by
          by_cases e : j = M
          · subst e
            rw [HEX.out] at p2
            rw [HEY.out] at p3
            cases p2
            cases p3
            cases hbf : beforeL y x with
            | false => rfl
            | true => exact absurd (HCL.out.2 hbf) HNG.out
          · exact HA.out j a c (by omega) p2 p3), Lib.hid (HB.out.trans ((below_growN _ _ _).mono HB.out.size))⟩
        case measure => simp [intOf] <;> omega
    · have d0 : ¬ (0 : Int) < i := by omega
      clear hik
      have HK2 := Lib.hid h2
      clear h2
      go_wp2_with fail
      go_ret
      exact ⟨ret_b (adjB_t (fun j x y h1 h3 => HA.out j x y (by have := HK2.out; omega) h1 h3)).symm, HB.out⟩
end Go.Proofs.Ytpkkhbmlclicfaa.val
/- What a text says as a row's key, by its parts. -/
namespace Go.Proofs.Ytpkkhbmlclicfaa.val
set_option linter.unusedVariables false
open Go.RowKit Go.Sort
/-- why a text is no row's key, or 0 -/
def errR (s : ByteArray) : Int := if (splitS s).2 = false then 2 else if (splitS s).1.all shapeB = false then 4 else 0
/-- what row.Get tells: a row, where there is one; why not -/
theorem get_parts (s : ByteArray) (hs : s.size ≤ 1099511627776) (w : World) : Calls Try.prog 19 #[.string s] w fun e w' => ∃ (a : Option Addr) (c : Nat) (l : List V), e = .returned (.tuple #[.slice a l.length c, .int .i64 (errR s)]) ∧ Hid (w'.ownsRow w.heap.size TV 3 (.slice a l.length c) l.length (vCells l) ∧ Goods l ∧ (errR s = 0 → l.map encS = (splitS s).1) ∧ (errR s ≠ 0 → l = [] ∧ a = none ∧ c = 0)) ∧ Below w.heap.size w w' := by
  refine (get_any s hs w).mono ?_
  rintro e w' ⟨h, hb⟩
  unfold errR
  by_cases h1 : (splitS s).2 = false
  · rw [if_pos h1] at h ⊢
    exact ⟨none, 0, [], h, Lib.hid ⟨World.ownsRow_nil _ _ _ _, fun x hx => (by cases hx), fun h => absurd h (by decide), fun _ => ⟨rfl, rfl, rfl⟩⟩, hb⟩
  · rw [if_neg h1] at h ⊢
    by_cases h2 : (splitS s).1.all shapeB = false
    · rw [if_pos h2] at h ⊢
      exact ⟨none, 0, [], h, Lib.hid ⟨World.ownsRow_nil _ _ _ _, fun x hx => (by cases hx), fun h => absurd h (by decide), fun _ => ⟨rfl, rfl, rfl⟩⟩, hb⟩
    · rw [if_neg h2] at h ⊢
      obtain ⟨v, l, h3, h4, h5, h6⟩ := h
      obtain ⟨a, c, rfl⟩ := owns_shape h4
      exact ⟨a, c, l, h3, Lib.hid ⟨h4, h5, fun _ => h6, fun h => absurd rfl h⟩, hb⟩
/-- the keys of a text of keys: the first that is none, if any -/
def errK : List ByteArray → Int
  | [] => 0
  | s :: ss => if errR s ≠ 0 then errR s else errK ss
theorem errK_good : ∀ ss : List ByteArray, errK ss = 0 ↔ ∀ s ∈ ss, errR s = 0
  | [] => by simp [errK]
  | s :: ss => by
    unfold errK
    by_cases h : errR s = 0
    · rw [if_neg (by simp [h]), errK_good ss]
      simp [h]
    · rw [if_pos h]
      simp [h]
theorem errK_drop (ss : List ByteArray) (k : Nat) (hk : k < ss.length) (hb : errR ss[k] = 0) : errK (ss.drop k) = errK (ss.drop (k + 1)) := by
  rw [List.drop_eq_getElem_cons hk]
  show (if errR ss[k] ≠ 0 then errR ss[k] else errK (ss.drop (k + 1))) = _
  rw [if_neg (by simp [hb])]
theorem errK_at (ss : List ByteArray) (k : Nat) (hk : k < ss.length) (hb : errR ss[k] ≠ 0) : errK (ss.drop k) = errR ss[k] := by
  rw [List.drop_eq_getElem_cons hk]
  show (if errR ss[k] ≠ 0 then errR ss[k] else errK (ss.drop (k + 1))) = _
  rw [if_pos hb]
end Go.Proofs.Ytpkkhbmlclicfaa.val
/- A bag of rows that come in order is what they are, one by one: plain. -/
namespace Go.Proofs.Ytpkkhbmlclicfaa.val
set_option linter.unusedVariables false
theorem keysB_exp (o : BL) : keysB o = (expB o).map kB := by
  induction o with
  | nil => rfl
  | cons x o ih =>
    unfold keysB expB at ih ⊢
    rw [List.flatMap_cons, List.flatMap_cons, List.map_append, ih, List.map_replicate]
theorem notBefore_trans {x y z : List V} (hx : Goods x) (hy : Goods y) (h1 : beforeL y x = false) (h2 : beforeL z y = false) : beforeL z x = false := by
  cases h : beforeL z x with
  | false => rfl
  | true =>
    cases h3 : beforeL x y with
    | true => rw [beforeL_trans _ _ _ h h3] at h2; cases h2
    | false =>
      have := beforeL_total x y hx hy h3 h1
      subst this
      rw [h] at h2; cases h2
theorem adj_le {ls : List (List V)} (hg : ∀ l ∈ ls, Goods l) (h : Adj ls) : ∀ (d i : Nat) x y, ls[i]? = some x → ls[i + 1 + d]? = some y → beforeL y x = false
  | 0, i, x, y, h1, h2 => h i x y h1 h2
  | d + 1, i, x, y, h1, h2 => by
    have hi : i + 1 < ls.length := by have := (List.getElem?_eq_some_iff.1 h2).1; omega
    have e := List.getElem?_eq_getElem hi
    have a := h i x _ h1 e
    have b := adj_le hg h d (i + 1) _ y e (by rw [show i + 1 + 1 + d = i + 1 + (d + 1) by omega]; exact h2)
    exact notBefore_trans (hg x (List.mem_of_getElem? h1)) (hg _ (List.getElem_mem hi)) a b
theorem once_len (ls : List (List V)) : (once ls).length = ls.length := List.length_map _
theorem once_get (ls : List (List V)) (j : Nat) (h : j < (once ls).length) (h' : j < ls.length) : (once ls)[j] = (ls[j], 1) := List.getElem_map (fun r : List V => (r, 1))
theorem adj_sorted {ls : List (List V)} (hg : ∀ l ∈ ls, Goods l) (h : Adj ls) : SortedB (once ls) := by
  unfold SortedB
  rw [List.pairwise_iff_getElem]
  intro i j hi hj hij
  have hi' : i < ls.length := by rw [← once_len]; exact hi
  have hj' : j < ls.length := by rw [← once_len]; exact hj
  have := adj_le hg h (j - (i + 1)) i ls[i] ls[j] (List.getElem?_eq_getElem hi') (by rw [show i + 1 + (j - (i + 1)) = j by omega]; exact List.getElem?_eq_getElem hj')
  rw [once_get ls i hi hi', once_get ls j hj hj']
  exact this
theorem expB_add (p : BL) (r : List V) (c : Nat) : expB (p ++ [(r, c + 1)]) = expB (p ++ [(r, c)]) ++ [r] := by
  rw [expB_snoc, expB_snoc, List.append_assoc, List.replicate_succ']
theorem rle {ls : List (List V)} (hg : ∀ l ∈ ls, Goods l) (hs : SortedB (once ls)) : ∀ k, k ≤ ls.length → ∃ o, Gat o ((once ls).take k) ∧ expB o = ls.take k
  | 0, _ => ⟨[], Gat.nil, rfl⟩
  | k + 1, hk => by
    obtain ⟨o, h1, h2⟩ := rle hg hs k (by omega)
    have hkl : k < ls.length := by omega
    have hko : k < (once ls).length := by rw [once_len]; exact hkl
    have et : (once ls).take (k + 1) = (once ls).take k ++ [(ls[k], 1)] := by
      rw [List.take_succ_eq_append_getElem hko, once_get ls k hko hkl]
    have el : ls.take (k + 1) = ls.take k ++ [ls[k]] := List.take_succ_eq_append_getElem hkl
    have ek : (once ls)[k].1 = ls[k] := by rw [once_get ls k hko hkl]
    rw [et, el, ← h2]
    rcases List.eq_nil_or_concat o with rfl | ⟨p, z, rfl⟩
    · exact ⟨[] ++ [(ls[k], 1)], h1.more (by decide) (.inl rfl), by rw [expB_snoc]; rfl⟩
    · obtain ⟨ro, co⟩ := z
      rw [List.concat_eq_append] at h1 ⊢
      have hl := gat_last (p := p) (ro := ro) (co := co) h1 hs hko rfl
      rw [ek] at hl
      cases hb : beforeL ro ls[k] with
      | true => exact ⟨p ++ [(ro, co)] ++ [(ls[k], 1)], h1.more (by decide) (.inr ⟨p, _, rfl, hb⟩), by rw [expB_snoc]; rfl⟩
      | false =>
        have hgo : Goods ro := by
          obtain ⟨y, hy, e⟩ := h1.2.2.2.1 (ro, co) (by simp)
          have hm := List.mem_of_mem_take hy
          unfold once at hm
          obtain ⟨x, hx, rfl⟩ := List.mem_map.1 hm
          have e' : x = ro := e
          rw [← e']; exact hg x hx
        have := beforeL_total ro ls[k] hgo (hg _ (List.getElem_mem hkl)) hb hl
        rw [← this]
        exact ⟨p ++ [(ro, co + 1)], h1.same, expB_add p ro co⟩
/-- rows in order: their bag holds them as they come -/
theorem exp_sorted {ls : List (List V)} {o : BL} (hg : ∀ l ∈ ls, Goods l) (h : Adj ls) (ho : Strict o) (hc : ∀ r, cnt o r = cnt (once ls) r) : expB o = ls := by
  obtain ⟨p, h1, h2⟩ := rle hg (adj_sorted hg h) ls.length (Nat.le_refl _)
  rw [List.take_length] at h2
  have hl : (once ls).take ls.length = once ls := by rw [List.take_of_length_le (by rw [once_len]; exact Nat.le_refl _)]
  rw [hl] at h1
  have : o = p := strict_unique o p ho h1.1 (fun r => by rw [hc, h1.2.1])
  rw [this, h2]
/-- rows of keys -/
def KeyRows (ks : List ByteArray) (ls : List (List V)) : Prop := ls.length = ks.length ∧ ∀ (j : Nat) r k, ls[j]? = some r → ks[j]? = some k → Goods r ∧ r.map encS = (splitS k).1
theorem KeyRows.nil : KeyRows [] [] := ⟨rfl, fun j r k h => by simp at h⟩
theorem KeyRows.snoc {ks : List ByteArray} {ls : List (List V)} {k : ByteArray} {r : List V} (h : KeyRows ks ls) (h1 : Goods r) (h2 : r.map encS = (splitS k).1) : KeyRows (ks ++ [k]) (ls ++ [r]) := by
  refine ⟨by rw [List.length_append, List.length_append, h.1]; rfl, fun j x y e1 e2 => ?_⟩
  rcases getElem?_snoc ls r x j e1 with ⟨k1, f1⟩ | ⟨k1, f1⟩
  · rcases getElem?_snoc ks k y j e2 with ⟨k2, f2⟩ | ⟨k2, f2⟩
    · exact h.2 j x y f1 f2
    · rw [h.1] at k1; omega
  · rcases getElem?_snoc ks k y j e2 with ⟨k2, f2⟩ | ⟨k2, f2⟩
    · rw [k1, h.1] at k2; omega
    · subst f1 f2; exact ⟨h1, h2⟩
/-- a key of a row, out of its parts -/
theorem errR_split {s : ByteArray} (h : errR s = 0) : (splitS s).2 = true ∧ (splitS s).1.all shapeB = true := by
  unfold errR at h
  split at h
  · cases h
  · rename_i h1
    split at h
    · cases h
    · rename_i h2
      exact ⟨by simpa using h1, by simpa using h2⟩
theorem key_back {s : ByteArray} (h : errR s = 0) {r : List V} (hr : r.map encS = (splitS s).1) : kB r = s := by
  unfold kB keyB
  rw [hr, packB_split _ s (Nat.le_refl _) (errR_split h).1]
theorem parts_len {s : ByteArray} (h : (splitS s).2 = true) : (splitS s).1.length * 4 ≤ s.size := by
  have h1 := congrArg List.length (packB_split _ s (Nat.le_refl _) h)
  rw [packB_length] at h1
  have h2 : ∀ m : List ByteArray, m.length * 4 ≤ (m.map fun s => s.size + 4).sum := by
    intro m
    induction m with
    | nil => simp
    | cons x m ih => simp only [List.length_cons, List.map_cons, List.sum_cons]; omega
  have h3 := h2 (splitS s).1
  have h4 : s.data.toList.length = s.size := by simp
  omega
theorem keyRows_back {ks : List ByteArray} {ls : List (List V)} (h : KeyRows ks ls) (hg : ∀ k ∈ ks, errR k = 0) : ls.map kB = ks := by
  refine List.ext_getElem (by rw [List.length_map, h.1]) fun j h1 h2 => ?_
  rw [List.length_map] at h1
  rw [List.getElem_map]
  exact key_back (hg _ (List.getElem_mem h2)) (h.2 j _ _ (List.getElem?_eq_getElem h1) (List.getElem?_eq_getElem h2)).2
theorem keyRows_short {ks : List ByteArray} {ls : List (List V)} (h : KeyRows ks ls) (hg : ∀ k ∈ ks, errR k = 0) (N : Nat) (hn : ∀ k ∈ ks, k.size ≤ N) : ∀ l ∈ ls, Goods l ∧ l.length * 4 ≤ N := by
  intro l hl
  obtain ⟨j, hj, rfl⟩ := List.getElem_of_mem hl
  have hk : j < ks.length := by rw [← h.1]; exact hj
  have hm := List.getElem_mem hk
  obtain ⟨h1, h2⟩ := h.2 j _ _ (List.getElem?_eq_getElem hj) (List.getElem?_eq_getElem hk)
  refine ⟨h1, ?_⟩
  have h3 := congrArg List.length h2
  rw [List.length_map] at h3
  have := parts_len (errR_split (hg _ hm)).1
  have := hn _ hm
  omega
/-- the rows of a bag's key -/
theorem keysB_sorted {ks : List ByteArray} {ls : List (List V)} {o : BL} (h : KeyRows ks ls) (hg : ∀ k ∈ ks, errR k = 0) (ha : Adj ls) (ho : Strict o) (hc : ∀ r, cnt o r = cnt (once ls) r) : keysB o = ks := by
  rw [keysB_exp, exp_sorted (fun l hl => by
    obtain ⟨j, hj, rfl⟩ := List.getElem_of_mem hl
    exact (h.2 j _ _ (List.getElem?_eq_getElem hj) (List.getElem?_eq_getElem (by rw [← h.1]; exact hj))).1) ha ho hc, keyRows_back h hg]
end Go.Proofs.Ytpkkhbmlclicfaa.val
