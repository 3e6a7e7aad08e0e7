/- The law LexSplits, walked. -/
import Derived.Test.YtkgfmjejcpjfiaaDoorLexT
import Derived.Test.YtkgfmjejcpjfiaaDoorLexJ
import Derived.Deep.QuietTactic
import Derived.BigQuiet
namespace Go.Proofs.YtkgfmjejcpjfiaaDoor.lx
set_option linter.unusedVariables false
open Go.RowKit
attribute [local go_sem high] run_min_keep
theorem run_neqR (k : Int) (s : ByteArray) (n a k' : Int) (s' : ByteArray) (n' a' : Int) (w : World) : (binOp .neq RK (tkV k s n a) (tkV k' s' n' a')).run Tryd.prog w = .ok (.bool (!(k == k' && s.toList == s'.toList && n == n' && a == a'))) w := by
  rw [run_neq_struct]
  go_simp
  by_cases h1 : k = k' <;> by_cases h2 : n = n' <;> by_cases h3 : s.toList = s'.toList <;> by_cases h4 : a = a' <;> simp [h1, h2, h3, h4]
attribute [local go_sem high] run_neqR
theorem below_drewN {B : Nat} {a w : World} (h : Below B a w) (n : Nat) : Below B a (w.drewN n) := ⟨h.os, h.tape, h.output, h.size, h.block⟩
theorem row_tk {w : World} {B : Nat} {T : TypeId} {a : Option Addr} {c : Nat} {ts : List Tk} (h : w.ownsRow B T 4 (.slice a ts.length c) ts.length (tCells ts)) (k : Nat) (hk : k < ts.length) : ∃ g, a = some ⟨g, 0, none⟩ ∧ B ≤ g ∧ g < w.heap.size ∧ ∀ W1, Below w.heap.size w W1 → W1.cell? ⟨g, k * 4, none⟩ = some (.int .i64 (ts[k].k : Int)) ∧ W1.cell? ⟨g, k * 4 + 1, none⟩ = some (.string ⟨ts[k].s.toArray⟩) ∧ W1.cell? ⟨g, k * 4 + 2, none⟩ = some (.int .i64 (ts[k].n : Int)) ∧ W1.cell? ⟨g, k * 4 + 3, none⟩ = some (.int .i64 (ts[k].at_ : Int)) := by
  obtain ⟨g, rfl, hB, hl, hc, -⟩ := owns_cellAt h (by omega)
  obtain ⟨c0, c1, c2, c3⟩ := tCells_at ts k _ (List.getElem?_eq_getElem hk)
  exact ⟨g, rfl, hB, hl, fun W1 hb => ⟨cell_later hb ((hc _ (by omega)).trans c0), cell_later hb ((hc _ (by omega)).trans c1), cell_later hb ((hc _ (by omega)).trans c2), cell_later hb ((hc _ (by omega)).trans c3)⟩⟩
set_option maxRecDepth 100000 in
set_option maxHeartbeats 8000000 in
theorem splits_walk (t : ByteArray) (ht : t.size ≤ 9223372036854775807) (m : Int) (W : World) (hm : W.cell? ⟨gMax, 0, none⟩ = some (.int .i64 m)) (hp : Pow10 W) (hS : Signs W) : Calls Tryd.prog 3 #[.string t] W fun e w' => e = .returned (.bool true) ∧ Below W.heap.size W w' := by
  have HSP := Lib.hid (speaks_any W hS)
  have HS := Lib.hid hS
  have HM := Lib.hid hm
  have HP := Lib.hid hp
  have hmn0 : 0 ≤ min (t.size : Int) 300 := by omega
  have hmn1 : min (t.size : Int) 300 ≤ t.size := by omega
  clear hS hm hp
  go_enter Tryd.func3, Tryd.ntmps3
  go_upto_region 4 with (go_at_call 5; (with_reducible refine (HSP.out).mono ?_); rintro e w1 ⟨rfl, hb1⟩; have HB1 := Lib.hid hb1; clear hb1)
  have hsz : (t.extract 0 (min (t.size : Int) 300).toNat).size ≤ 300 := by rw [ByteArray.size_extract]; omega
  generalize t.extract 0 (min (t.size : Int) 300).toNat = s at *
  have HSPL := Lib.hid (split_parts s (by omega) w1 (HS.out.later HB1.out))
  have HRSP := Lib.hid (fun W => rsplit_any s (by omega) W)
  obtain ⟨F, hF⟩ : ∃ F, splitT s.data.toList = F := ⟨_, rfl⟩
  rw [hF] at HSPL HRSP
  have HFF := Lib.hid hF
  clear hF
  go_upto_region 6 with (first | (go_at_call 6; (with_reducible refine (HSPL.out).mono ?_); rintro e w3 ⟨a, len, c, i, er, rfl, hr, hb3⟩; have HB3 := Lib.hid (HB1.out.trans (hb3.mono HB1.out.size)); clear hb3) | (go_at_call 7; (with_reducible refine (HRSP.out _).mono ?_); rintro e w4 ⟨a4, len4, c4, i4, er4, rfl, hr4, hb4⟩; have HB4 := Lib.hid hb4; clear hb4))
  have HBW := Lib.hid (HB3.out.trans (HB4.out.mono HB3.out.size))
  cases F with
  | bad p q =>
    obtain ⟨rfl, rfl, rfl, rfl, rfl⟩ := hr.out
    obtain ⟨rfl, rfl, rfl, rfl, rfl⟩ := hr4.out
    have hq := split_err _ _ _ HFF.out
    have e : ((q : Int) != 0) = true := by simp; omega
    generalize (q : Int) = qz at *
    generalize (p : Int) = pz at *
    clear hq
    go_wp2_with fail
    refine wp_loop_rounds 1 ?_; rw [rounds_succ]
    go_wp2_with fail
    go_ret
    exact ⟨rfl, HBW.out⟩
  | ok ts =>
    obtain ⟨rfl, rfl, rfl, ho⟩ := hr.out
    obtain ⟨rfl, rfl, rfl, ho4⟩ := hr4.out
    obtain ⟨hsm, hsl⟩ := split_small _ _ HFF.out
    rw [data_len] at hsl
    have HSM := Lib.hid hsm
    have HO := Lib.hid (owns_below ho HB4.out)
    have HO4 := Lib.hid ho4
    have hn0 : (0 : Int) ≤ (ts.length : Int) := by omega
    have hn1 : (ts.length : Int) ≤ 300 := by omega
    clear hr hr4 ho ho4 hsm HRSP HSPL
    go_wp2_with fail
    go_loopw [9] (fun iv wr => ∃ k : Nat, iv = .int .i64 (k : Int) ∧ k ≤ ts.length ∧ Hid (Below w4.heap.size w4 wr)) (fun iv _ => ts.length - (intOf iv).toNat)
    case atStart => exact ⟨0, rfl, Nat.zero_le _, Lib.hid (Below.refl _ _)⟩
    case round =>
      obtain ⟨k, rfl, hk, HX⟩ := hrel
      have hd0 : (0 : Int) ≤ (k : Int) := by omega
      by_cases hkn : k < ts.length
      · have dk : (k : Int) < (ts.length : Int) := by omega
        obtain ⟨gA, rfl, -, glA, hcA⟩ := row_tk HO.out k hkn
        obtain ⟨gB, rfl, -, glB, hcB⟩ := row_tk HO4.out k hkn
        obtain ⟨c0, c1, c2, c3⟩ := hcA _ HX.out
        obtain ⟨d0, d1, d2, d3⟩ := hcB _ HX.out
        have hzA : gA < wr.heap.size := by have := HX.out.size; omega
        have hzB : gB < wr.heap.size := by have := HX.out.size; omega
        generalize ts[k] = x at *
        have hne : (!((x.k : Int) == (x.k : Int) && (⟨x.s.toArray⟩ : ByteArray).toList == (⟨x.s.toArray⟩ : ByteArray).toList && (x.n : Int) == (x.n : Int) && (x.at_ : Int) == (x.at_ : Int))) = false := by simp
        clear hcA hcB glA glB
        go_upto_region 11 with fail
        go_quiet (fail)
        go_wp2
        go_roundw
        case rel => exact ⟨k + 1, by go_num, by omega, Lib.hid (below_drewN HX.out _)⟩
        case measure => simp [intOf]; omega
      · have dk : ¬ (k : Int) < (ts.length : Int) := by omega
        have HJ := fun W1 (hb : Below w4.heap.size w4 W1) => join_any (.slice a ts.length c) ts HSM.out (by omega) m W1 (cell_later (HBW.out.trans (hb.mono HBW.out.size)) HM.out) (pow10_later HP.out (HBW.out.trans (hb.mono HBW.out.size))) ((Row.of_owns HO.out).later hb)
        have hjl := join_len ts HSM.out
        have hjz : (⟨(joinT ts).toArray⟩ : ByteArray).size = (joinT ts).length := by show (joinT ts).toArray.size = _; simp
        have hjd : (⟨(joinT ts).toArray⟩ : ByteArray).data.toList = joinT ts := rfl
        have HS2 := fun W1 (hb : Below w4.heap.size w4 W1) => split_parts ⟨(joinT ts).toArray⟩ (by rw [hjz]; omega) W1 (HS.out.later (HBW.out.trans (hb.mono HBW.out.size)))
        rw [hjd] at HS2
        have hre := resplit _ _ HFF.out
        generalize (⟨(joinT ts).toArray⟩ : ByteArray) = J at *
        have hj1 : (J.size : Int) ≤ 40000 := by omega
        have hj0 : (0 : Int) ≤ (J.size : Int) := by omega
        have HJ := Lib.hid HJ
        rcases hre with ⟨hlong, hF2⟩ | ⟨us, hshort, hF2, hsame⟩
        · have dl : (2000 : Int) < (J.size : Int) := by omega
          rw [hF2] at HS2
          have HS2 := Lib.hid HS2
          clear hF2 hlong hjl hjz hjd
          go_wp2_with (first | (go_at_call 8; (with_reducible refine (HJ.out _ HB6.out).mono ?_); rintro e w7 ⟨rfl, hb7⟩; have HB7 := Lib.hid (HB6.out.trans (hb7.mono HB6.out.size)); clear hb7) | (go_at_call 8; (with_reducible refine (HJ.out _ HX.out).mono ?_); rintro e w5 ⟨rfl, hb5⟩; have HB5 := Lib.hid (HX.out.trans (hb5.mono HX.out.size)); clear hb5) | (go_at_call 6; (with_reducible refine (HS2.out _ HB5.out).mono ?_); rintro e w6 ⟨a6, len6, c6, i6, er6, rfl, hr6, hb6⟩; obtain ⟨rfl, rfl, rfl, rfl, rfl⟩ := hr6.out; have HB6 := Lib.hid (HB5.out.trans (hb6.mono HB5.out.size)); clear hb6 hr6))
          go_ret
          exact ⟨rfl, HBW.out.trans (HB7.out.mono HBW.out.size)⟩
        · have dl : ¬ (2000 : Int) < (J.size : Int) := by omega
          rw [hF2] at HS2
          have HS2 := Lib.hid HS2
          have hul := same_len _ _ hsame
          have HSA := Lib.hid (same_at _ _ hsame)
          clear hF2 hshort hjl hjz hjd hsame
          have HUL := Lib.hid hul
          clear hul
          go_wp2_with (first | (go_at_call 8; (with_reducible refine (HJ.out _ HB6.out).mono ?_); rintro e w7 ⟨rfl, hb7⟩; have HB7 := Lib.hid (HB6.out.trans (hb7.mono HB6.out.size)); have HO6 := Lib.hid (owns_below HR6.out hb7); clear hb7) | (go_at_call 8; (with_reducible refine (HJ.out _ HX.out).mono ?_); rintro e w5 ⟨rfl, hb5⟩; have HB5 := Lib.hid (HX.out.trans (hb5.mono HX.out.size)); clear hb5) | (go_at_call 6; (with_reducible refine (HS2.out _ HB5.out).mono ?_); rintro e w6 ⟨a6, len6, c6, i6, er6, rfl, hr6, hb6⟩; obtain ⟨hlen6, rfl, rfl, ho6⟩ := hr6.out; rw [hlen6] at ho6; have HR6 := Lib.hid ho6; obtain rfl : len6 = ts.length := hlen6.trans HUL.out; have HB6 := Lib.hid (HB5.out.trans (hb6.mono HB5.out.size)); clear hb6 hr6 ho6 hlen6))
          have HO7 := Lib.hid (owns_below HO.out HB7.out)
          have HBE := Lib.hid (HBW.out.trans (HB7.out.mono HBW.out.size))
          go_loopw [13] (fun iv wq => ∃ q : Nat, iv = .int .i64 (q : Int) ∧ q ≤ ts.length ∧ Hid (Below w7.heap.size w7 wq)) (fun iv _ => ts.length - (intOf iv).toNat)
          case atStart => exact ⟨0, rfl, Nat.zero_le _, Lib.hid (Below.refl _ _)⟩
          case round =>
            obtain ⟨q, rfl, hq, HX2⟩ := hrel
            have hq0 : (0 : Int) ≤ (q : Int) := by omega
            by_cases hqn : q < ts.length
            · have dq : (q : Int) < (ts.length : Int) := by omega
              have hqu : q < us.length := by rw [HUL.out]; exact hqn
              obtain ⟨gA, rfl, -, glA, hcA⟩ := row_tk HO7.out q hqn
              obtain ⟨gB, rfl, -, glB, hcB⟩ := row_tk HO6.out q hqu
              obtain ⟨c0, c1, c2, -⟩ := hcA _ HX2.out
              obtain ⟨d0, d1, d2, -⟩ := hcB _ HX2.out
              obtain ⟨s1, s2, s3⟩ := HSA.out q _ _ (List.getElem?_eq_getElem hqn) (List.getElem?_eq_getElem hqu)
              rw [s1] at d0
              rw [s2] at d2
              have hzA : gA < wr.heap.size := by have := HX2.out.size; omega
              have hzB : gB < wr.heap.size := by have := HX2.out.size; omega
              generalize ts[q] = x at *
              generalize us[q] = y at *
              clear hcA hcB glA glB s1 s2 hqu
              obtain ⟨xk, hxk⟩ : ∃ xk : Int, (x.k : Int) = xk := ⟨_, rfl⟩
              obtain ⟨xn, hxn⟩ : ∃ xn : Int, (x.n : Int) = xn := ⟨_, rfl⟩
              rw [hxk] at c0 d0
              rw [hxn] at c2 d2
              have p1 : (xk != xk) = false := by simp
              have p2 : (xn != xn) = false := by simp
              by_cases h3 : x.k = 3
              · have p3 : (xk != 3) = false := by rw [← hxk, h3]; rfl
                clear h3 s3 hxk hxn
                go_upto_region 23 with fail
                go_quiet (fail)
                go_wp2
                go_roundw
                case rel => exact ⟨q + 1, by go_num, by omega, Lib.hid (below_drewN HX2.out _)⟩
                case measure => simp [intOf]; omega
              · have p3 : (xk != 3) = true := by rw [← hxk]; simp; omega
                rw [s3 h3] at d1
                have p4 : ((⟨x.s.toArray⟩ : ByteArray).toList != (⟨x.s.toArray⟩ : ByteArray).toList) = false := by simp
                generalize (⟨x.s.toArray⟩ : ByteArray) = S at *
                clear h3 s3 hxk hxn
                go_upto_region 23 with fail
                go_quiet (fail)
                go_wp2
                go_roundw
                case rel => exact ⟨q + 1, by go_num, by omega, Lib.hid (below_drewN HX2.out _)⟩
                case measure => simp [intOf]; omega
            · have dq : ¬ (q : Int) < (ts.length : Int) := by omega
              go_wp2_with fail
              go_ret
              exact ⟨rfl, HBE.out.trans (HX2.out.mono HBE.out.size)⟩
end Go.Proofs.YtkgfmjejcpjfiaaDoor.lx
