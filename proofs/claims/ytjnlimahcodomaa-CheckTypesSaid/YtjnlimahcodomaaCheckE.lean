/- A column among fields, by the document; walked. -/
import Derived.Test.YtjnlimahcodomaaCheckC
import Derived.BigQuiet
namespace Go.Proofs.Ytjnlimahcodomaa.ck
set_option linter.unusedVariables false
open Go.RowKit
open val (V null doV fitB notV negV ofB ofN ofS gB vv ag3)
open ex (Er TE TQ of_fe)
theorem below_drewN {B : Nat} {a w : World} (h : Below B a w) (n : Nat) : Below B a (w.drewN n) := ⟨h.os, h.tape, h.output, h.size, h.block⟩
def atV (F C : Nat) : Int := if C = 0 then -1 else (F : Int)
theorem find_two {l : List Fd} {tb nm : ByteArray} {j : Nat} (hj : j ≤ l.length) (h : 2 ≤ (scanF l tb nm j).2) : findF l tb nm = (0, 7) := by
  have := scanF_mono (l := l) (tb := tb) (nm := nm) hj
  unfold findF
  rw [if_neg (by omega), if_neg (by omega)]
set_option maxRecDepth 100000 in
set_option maxHeartbeats 4000000 in
theorem rfind_any (a : Option Addr) (n cap : Nat) (l : List Fd) (r : Er) (ar : Option Addr) (nr cr : Nat) (hlv : r.lv = .slice ar nr cr) (hn : l.length = n) (hn8 : n ≤ 1000) (w : World) (hr : Row w (.slice a n cap) 3 n (fCells l)) :
    Calls Try.prog 24 #[.slice a n cap, r.val] w fun en w' => en = .returned (.tuple #[.int .i64 ((findF l r.tb r.nm).1 : Int), .int .i64 (findF l r.tb r.nm).2]) ∧ Below w.heap.size w w' := by
  obtain ⟨rk, rop, rv, rtb, rnm, rlv⟩ := r
  dsimp only at hlv ⊢
  subst hlv
  unfold Er.val
  dsimp only
  have hn0 : (0 : Int) ≤ (n : Int) := by omega
  have hn1 : (n : Int) ≤ 1000 := by omega
  have HN := Lib.hid hn
  have HR := Lib.hid hr
  have hfe : Flds (w.alloc (.cells #[.int .i64 rk, .int .i64 rop, .int .i64 rv.k, .int .i64 rv.n, .string rv.s, .string rtb, .string rnm, .slice ar nr cr] TQ)) w.heap.size TQ [.int .i64 rk, .int .i64 rop, .int .i64 rv.k, .int .i64 rv.n, .string rv.s, .string rtb, .string rnm, .slice ar nr cr] := Flds.new w TQ _
  have hb0 : Below w.heap.size w (w.alloc (.cells #[.int .i64 rk, .int .i64 rop, .int .i64 rv.k, .int .i64 rv.n, .string rv.s, .string rtb, .string rnm, .slice ar nr cr] TQ)) := (Below.refl _ _).alloc (Nat.le_refl _) _
  have HFE := Lib.hid hfe; have HB0 := Lib.hid hb0
  clear hn hr hfe hb0
  go_enter Try.func24, Try.ntmps24
  go_wp2_with fail
  go_loopw [6, 7] (fun f i wr => ∃ j : Nat, i = .int .i64 (j : Int) ∧ j ≤ n ∧ f = .int .i64 (atV (scanF l rtb rnm j).1 (scanF l rtb rnm j).2) ∧ (scanF l rtb rnm j).2 ≤ 1 ∧ Hid (Flds wr w.heap.size TQ [.int .i64 rk, .int .i64 rop, .int .i64 rv.k, .int .i64 rv.n, .string rv.s, .string rtb, .string rnm, .slice ar nr cr]) ∧ Hid (Below w.heap.size w wr)) (fun _ i _ => n - (intOf i).toNat)
  case atStart => exact ⟨0, rfl, Nat.zero_le _, rfl, Nat.zero_le _, HFE, HB0⟩
  case round =>
    obtain ⟨j, rfl, hj, rfl, hC, HF, HB⟩ := hrel
    have j0 : (0 : Int) ≤ (j : Int) := by omega
    by_cases hjn : j < n
    · have dj : (j : Int) < (n : Int) := by omega
      obtain ⟨f, hx⟩ : ∃ f, l[j]? = some f := ⟨_, List.getElem?_eq_getElem (show j < l.length by have := HN.out; omega)⟩
      have HS := Lib.hid (scanF_succ (tb := rtb) (nm := rnm) hx)
      have HTW := Lib.hid (find_two (l := l) (tb := rtb) (nm := rnm) (show j + 1 ≤ l.length by have := HN.out; omega))
      obtain ⟨b, off, rfl, hcs⟩ := fd_at HR.out hjn hx
      obtain ⟨c0, c1, c2, lb⟩ := hcs wr HB.out
      obtain ⟨q0, q1, q2, q3, q4, q5, q6, q7, lq⟩ := of_fe HF.out
      obtain ⟨p, hp⟩ : ∃ p, scanF l rtb rnm j = p := ⟨_, rfl⟩
      obtain ⟨F, C⟩ := p
      rw [hp] at HS hC ⊢
      dsimp only at HS hC ⊢
      clear hp
      obtain ⟨ftb, fnm, fk⟩ := f
      dsimp only at c0 c1 c2
      clear hcs hx
      by_cases hh : hitB rtb rnm ⟨ftb, fnm, fk⟩ = true
      · have HSY : Hid (scanF l rtb rnm (j + 1) = (j, C + 1)) := Lib.hid (by rw [HS.out, if_pos hh])
        clear HS
        unfold hitB at hh
        simp only [Bool.and_eq_true, Bool.or_eq_true, decide_eq_true_eq] at hh
        obtain ⟨rfl, hh⟩ := hh
        have t1 := bytes_yes fnm
        by_cases hc : C = 0
        · subst hc
          have e0 : atV F 0 = -1 := rfl
          rw [e0]
          rcases hh with hh | hh
          · have t2 : rtb.toList.isEmpty = true := by rw [hh, Lib.toList_data]; rfl
            have t3 : rtb.toList = [] := by rw [hh, Lib.toList_data]; rfl
            clear hh HTW
            go_upto_region 5 with fail
            go_quiet (fail)
            go_wp2_with fail
            go_roundw
            case rel => exact ⟨j + 1, by go_num, by omega, by rw [HSY.out]; rfl, by rw [HSY.out]; exact Nat.le_refl _, HF, Lib.hid (below_drewN HB.out _)⟩
            case measure => simp [intOf]; omega
          · subst hh
            have t4 := bytes_yes ftb
            clear HTW
            by_cases e2 : ftb = ByteArray.empty
            · have t2 : ftb.toList.isEmpty = true := by rw [e2, Lib.toList_data]; rfl
              have t3 : ftb.toList = [] := by rw [e2, Lib.toList_data]; rfl
              clear e2
              go_upto_region 5 with fail
              go_quiet (fail)
              go_wp2_with fail
              go_roundw
              case rel => exact ⟨j + 1, by go_num, by omega, by rw [HSY.out]; rfl, by rw [HSY.out]; exact Nat.le_refl _, HF, Lib.hid (below_drewN HB.out _)⟩
              case measure => simp [intOf]; omega
            · have t2 := emp_no' e2
              have t3 := emp_no e2
              clear e2
              go_upto_region 5 with fail
              go_quiet (fail)
              go_wp2_with fail
              go_roundw
              case rel => exact ⟨j + 1, by go_num, by omega, by rw [HSY.out]; rfl, by rw [HSY.out]; exact Nat.le_refl _, HF, Lib.hid (below_drewN HB.out _)⟩
              case measure => simp [intOf]; omega
        · obtain rfl : C = 1 := by omega
          have e0 : atV F 1 = (F : Int) := rfl
          rw [e0]
          have hF0 : (0 : Int) ≤ (F : Int) := by omega
          have HA : Hid (findF l rtb fnm = (0, 7)) := Lib.hid (HTW.out (by rw [HSY.out]; exact Nat.le_refl _))
          clear HTW hc HSY
          rcases hh with hh | hh
          · have t2 : rtb.toList.isEmpty = true := by rw [hh, Lib.toList_data]; rfl
            have t3 : rtb.toList = [] := by rw [hh, Lib.toList_data]; rfl
            clear hh
            go_upto_region 5 with fail
            go_quiet (fail)
            go_wp2_with fail
            refine bodyPost_ret (results_tmp2 rfl _ _ _) rfl ?_
            exact ⟨by rw [HA.out]; rfl, below_drewN HB.out _⟩
          · subst hh
            have t4 := bytes_yes ftb
            by_cases e2 : ftb = ByteArray.empty
            · have t2 : ftb.toList.isEmpty = true := by rw [e2, Lib.toList_data]; rfl
              have t3 : ftb.toList = [] := by rw [e2, Lib.toList_data]; rfl
              clear e2
              go_upto_region 5 with fail
              go_quiet (fail)
              go_wp2_with fail
              refine bodyPost_ret (results_tmp2 rfl _ _ _) rfl ?_
              exact ⟨by rw [HA.out]; rfl, below_drewN HB.out _⟩
            · have t2 := emp_no' e2
              have t3 := emp_no e2
              clear e2
              go_upto_region 5 with fail
              go_quiet (fail)
              go_wp2_with fail
              refine bodyPost_ret (results_tmp2 rfl _ _ _) rfl ?_
              exact ⟨by rw [HA.out]; rfl, below_drewN HB.out _⟩
      · have HSY : Hid (scanF l rtb rnm (j + 1) = (F, C)) := Lib.hid (by rw [HS.out, if_neg hh])
        clear HS HTW
        by_cases e1 : fnm = rnm
        · subst e1
          have t1 := bytes_yes fnm
          have e2 : rtb ≠ ByteArray.empty := fun e => hh (by unfold hitB; simp [e])
          have e3 : ftb ≠ rtb := fun e => hh (by unfold hitB; simp [e])
          have t2 := emp_no' e2
          have t3 := emp_no e2
          have t4 := bytes_no' e3
          clear hh e2 e3
          go_upto_region 5 with fail
          go_quiet (fail)
          go_wp2_with fail
          go_roundw
          case rel => exact ⟨j + 1, by go_num, by omega, by rw [HSY.out], by rw [HSY.out]; exact hC, HF, Lib.hid (below_drewN HB.out _)⟩
          case measure => simp [intOf]; omega
        · have t1 := bytes_no' e1
          clear hh e1
          go_upto_region 5 with fail
          go_quiet (fail)
          go_wp2_with fail
          go_roundw
          case rel => exact ⟨j + 1, by go_num, by omega, by rw [HSY.out], by rw [HSY.out]; exact hC, HF, Lib.hid (below_drewN HB.out _)⟩
          case measure => simp [intOf]; omega
    · have dj : ¬ (j : Int) < (n : Int) := by omega
      obtain rfl : j = n := by omega
      have HFF : Hid (findF l rtb rnm = if (scanF l rtb rnm j).2 = 0 then (0, 6) else if (scanF l rtb rnm j).2 = 1 then ((scanF l rtb rnm j).1, 0) else (0, 7)) := Lib.hid (by unfold findF; rw [HN.out])
      obtain ⟨p, hp⟩ : ∃ p, scanF l rtb rnm j = p := ⟨_, rfl⟩
      obtain ⟨F, C⟩ := p
      rw [hp] at HFF hC ⊢
      dsimp only at HFF hC ⊢
      clear hp
      by_cases h0 : C = 0
      · subst h0
        have e0 : atV F 0 = -1 := rfl
        rw [e0]
        have HA : Hid (findF l rtb rnm = (0, 6)) := Lib.hid (by rw [HFF.out]; rfl)
        clear HFF
        go_wp2_with fail
        refine bodyPost_ret (results_tmp2 rfl _ _ _) rfl ?_
        exact ⟨by rw [HA.out]; rfl, HB.out⟩
      · obtain rfl : C = 1 := by omega
        have e0 : atV F 1 = (F : Int) := rfl
        rw [e0]
        have hF0 : (0 : Int) ≤ (F : Int) := by omega
        have HA : Hid (findF l rtb rnm = (F, 0)) := Lib.hid (by rw [HFF.out]; rfl)
        clear HFF h0
        go_wp2_with fail
        refine bodyPost_ret (results_tmp2 rfl _ _ _) rfl ?_
        exact ⟨by rw [HA.out]; rfl, HB.out⟩
end Go.Proofs.Ytjnlimahcodomaa.ck
