/- A sign at the beginning of a text, walked; the first token of any text. -/
import Derived.Test.YtkgfmjejcpjfiaaDoorLexE
namespace Go.Proofs.YtkgfmjejcpjfiaaDoor.lx
set_option linter.unusedVariables false
open Go.RowKit

theorem find_yes {l x : List UInt8} {r : List (List UInt8)} (h : x.isPrefixOf l = true) : (x :: r).find? (fun y => y.isPrefixOf l) = some x := by rw [List.find?_cons, h]
theorem find_no {l x : List UInt8} {r : List (List UInt8)} (h : x.isPrefixOf l = false) : (x :: r).find? (fun y => y.isPrefixOf l) = r.find? (fun y => y.isPrefixOf l) := by rw [List.find?_cons, h]
theorem run_sgn0 (w : World) : (Instr.index 50 (.agg #[.string ⟨#[60, 62]⟩, .string ⟨#[60, 61]⟩, .string ⟨#[62, 61]⟩, .string ⟨#[124, 124]⟩, .string ⟨#[40]⟩, .string ⟨#[41]⟩, .string ⟨#[44]⟩, .string ⟨#[46]⟩, .string ⟨#[42]⟩, .string ⟨#[43]⟩, .string ⟨#[45]⟩, .string ⟨#[47]⟩, .string ⟨#[37]⟩, .string ⟨#[61]⟩, .string ⟨#[60]⟩, .string ⟨#[62]⟩]) (.int .i64 0)).run Tryd.prog w = .ok (.string ⟨#[60, 62]⟩) w := by kernel_rfl
theorem run_sgn1 (w : World) : (Instr.index 50 (.agg #[.string ⟨#[60, 62]⟩, .string ⟨#[60, 61]⟩, .string ⟨#[62, 61]⟩, .string ⟨#[124, 124]⟩, .string ⟨#[40]⟩, .string ⟨#[41]⟩, .string ⟨#[44]⟩, .string ⟨#[46]⟩, .string ⟨#[42]⟩, .string ⟨#[43]⟩, .string ⟨#[45]⟩, .string ⟨#[47]⟩, .string ⟨#[37]⟩, .string ⟨#[61]⟩, .string ⟨#[60]⟩, .string ⟨#[62]⟩]) (.int .i64 1)).run Tryd.prog w = .ok (.string ⟨#[60, 61]⟩) w := by kernel_rfl
theorem run_sgn2 (w : World) : (Instr.index 50 (.agg #[.string ⟨#[60, 62]⟩, .string ⟨#[60, 61]⟩, .string ⟨#[62, 61]⟩, .string ⟨#[124, 124]⟩, .string ⟨#[40]⟩, .string ⟨#[41]⟩, .string ⟨#[44]⟩, .string ⟨#[46]⟩, .string ⟨#[42]⟩, .string ⟨#[43]⟩, .string ⟨#[45]⟩, .string ⟨#[47]⟩, .string ⟨#[37]⟩, .string ⟨#[61]⟩, .string ⟨#[60]⟩, .string ⟨#[62]⟩]) (.int .i64 2)).run Tryd.prog w = .ok (.string ⟨#[62, 61]⟩) w := by kernel_rfl
theorem run_sgn3 (w : World) : (Instr.index 50 (.agg #[.string ⟨#[60, 62]⟩, .string ⟨#[60, 61]⟩, .string ⟨#[62, 61]⟩, .string ⟨#[124, 124]⟩, .string ⟨#[40]⟩, .string ⟨#[41]⟩, .string ⟨#[44]⟩, .string ⟨#[46]⟩, .string ⟨#[42]⟩, .string ⟨#[43]⟩, .string ⟨#[45]⟩, .string ⟨#[47]⟩, .string ⟨#[37]⟩, .string ⟨#[61]⟩, .string ⟨#[60]⟩, .string ⟨#[62]⟩]) (.int .i64 3)).run Tryd.prog w = .ok (.string ⟨#[124, 124]⟩) w := by kernel_rfl
theorem run_sgn4 (w : World) : (Instr.index 50 (.agg #[.string ⟨#[60, 62]⟩, .string ⟨#[60, 61]⟩, .string ⟨#[62, 61]⟩, .string ⟨#[124, 124]⟩, .string ⟨#[40]⟩, .string ⟨#[41]⟩, .string ⟨#[44]⟩, .string ⟨#[46]⟩, .string ⟨#[42]⟩, .string ⟨#[43]⟩, .string ⟨#[45]⟩, .string ⟨#[47]⟩, .string ⟨#[37]⟩, .string ⟨#[61]⟩, .string ⟨#[60]⟩, .string ⟨#[62]⟩]) (.int .i64 4)).run Tryd.prog w = .ok (.string ⟨#[40]⟩) w := by kernel_rfl
theorem run_sgn5 (w : World) : (Instr.index 50 (.agg #[.string ⟨#[60, 62]⟩, .string ⟨#[60, 61]⟩, .string ⟨#[62, 61]⟩, .string ⟨#[124, 124]⟩, .string ⟨#[40]⟩, .string ⟨#[41]⟩, .string ⟨#[44]⟩, .string ⟨#[46]⟩, .string ⟨#[42]⟩, .string ⟨#[43]⟩, .string ⟨#[45]⟩, .string ⟨#[47]⟩, .string ⟨#[37]⟩, .string ⟨#[61]⟩, .string ⟨#[60]⟩, .string ⟨#[62]⟩]) (.int .i64 5)).run Tryd.prog w = .ok (.string ⟨#[41]⟩) w := by kernel_rfl
theorem run_sgn6 (w : World) : (Instr.index 50 (.agg #[.string ⟨#[60, 62]⟩, .string ⟨#[60, 61]⟩, .string ⟨#[62, 61]⟩, .string ⟨#[124, 124]⟩, .string ⟨#[40]⟩, .string ⟨#[41]⟩, .string ⟨#[44]⟩, .string ⟨#[46]⟩, .string ⟨#[42]⟩, .string ⟨#[43]⟩, .string ⟨#[45]⟩, .string ⟨#[47]⟩, .string ⟨#[37]⟩, .string ⟨#[61]⟩, .string ⟨#[60]⟩, .string ⟨#[62]⟩]) (.int .i64 6)).run Tryd.prog w = .ok (.string ⟨#[44]⟩) w := by kernel_rfl
theorem run_sgn7 (w : World) : (Instr.index 50 (.agg #[.string ⟨#[60, 62]⟩, .string ⟨#[60, 61]⟩, .string ⟨#[62, 61]⟩, .string ⟨#[124, 124]⟩, .string ⟨#[40]⟩, .string ⟨#[41]⟩, .string ⟨#[44]⟩, .string ⟨#[46]⟩, .string ⟨#[42]⟩, .string ⟨#[43]⟩, .string ⟨#[45]⟩, .string ⟨#[47]⟩, .string ⟨#[37]⟩, .string ⟨#[61]⟩, .string ⟨#[60]⟩, .string ⟨#[62]⟩]) (.int .i64 7)).run Tryd.prog w = .ok (.string ⟨#[46]⟩) w := by kernel_rfl
theorem run_sgn8 (w : World) : (Instr.index 50 (.agg #[.string ⟨#[60, 62]⟩, .string ⟨#[60, 61]⟩, .string ⟨#[62, 61]⟩, .string ⟨#[124, 124]⟩, .string ⟨#[40]⟩, .string ⟨#[41]⟩, .string ⟨#[44]⟩, .string ⟨#[46]⟩, .string ⟨#[42]⟩, .string ⟨#[43]⟩, .string ⟨#[45]⟩, .string ⟨#[47]⟩, .string ⟨#[37]⟩, .string ⟨#[61]⟩, .string ⟨#[60]⟩, .string ⟨#[62]⟩]) (.int .i64 8)).run Tryd.prog w = .ok (.string ⟨#[42]⟩) w := by kernel_rfl
theorem run_sgn9 (w : World) : (Instr.index 50 (.agg #[.string ⟨#[60, 62]⟩, .string ⟨#[60, 61]⟩, .string ⟨#[62, 61]⟩, .string ⟨#[124, 124]⟩, .string ⟨#[40]⟩, .string ⟨#[41]⟩, .string ⟨#[44]⟩, .string ⟨#[46]⟩, .string ⟨#[42]⟩, .string ⟨#[43]⟩, .string ⟨#[45]⟩, .string ⟨#[47]⟩, .string ⟨#[37]⟩, .string ⟨#[61]⟩, .string ⟨#[60]⟩, .string ⟨#[62]⟩]) (.int .i64 9)).run Tryd.prog w = .ok (.string ⟨#[43]⟩) w := by kernel_rfl
theorem run_sgn10 (w : World) : (Instr.index 50 (.agg #[.string ⟨#[60, 62]⟩, .string ⟨#[60, 61]⟩, .string ⟨#[62, 61]⟩, .string ⟨#[124, 124]⟩, .string ⟨#[40]⟩, .string ⟨#[41]⟩, .string ⟨#[44]⟩, .string ⟨#[46]⟩, .string ⟨#[42]⟩, .string ⟨#[43]⟩, .string ⟨#[45]⟩, .string ⟨#[47]⟩, .string ⟨#[37]⟩, .string ⟨#[61]⟩, .string ⟨#[60]⟩, .string ⟨#[62]⟩]) (.int .i64 10)).run Tryd.prog w = .ok (.string ⟨#[45]⟩) w := by kernel_rfl
theorem run_sgn11 (w : World) : (Instr.index 50 (.agg #[.string ⟨#[60, 62]⟩, .string ⟨#[60, 61]⟩, .string ⟨#[62, 61]⟩, .string ⟨#[124, 124]⟩, .string ⟨#[40]⟩, .string ⟨#[41]⟩, .string ⟨#[44]⟩, .string ⟨#[46]⟩, .string ⟨#[42]⟩, .string ⟨#[43]⟩, .string ⟨#[45]⟩, .string ⟨#[47]⟩, .string ⟨#[37]⟩, .string ⟨#[61]⟩, .string ⟨#[60]⟩, .string ⟨#[62]⟩]) (.int .i64 11)).run Tryd.prog w = .ok (.string ⟨#[47]⟩) w := by kernel_rfl
theorem run_sgn12 (w : World) : (Instr.index 50 (.agg #[.string ⟨#[60, 62]⟩, .string ⟨#[60, 61]⟩, .string ⟨#[62, 61]⟩, .string ⟨#[124, 124]⟩, .string ⟨#[40]⟩, .string ⟨#[41]⟩, .string ⟨#[44]⟩, .string ⟨#[46]⟩, .string ⟨#[42]⟩, .string ⟨#[43]⟩, .string ⟨#[45]⟩, .string ⟨#[47]⟩, .string ⟨#[37]⟩, .string ⟨#[61]⟩, .string ⟨#[60]⟩, .string ⟨#[62]⟩]) (.int .i64 12)).run Tryd.prog w = .ok (.string ⟨#[37]⟩) w := by kernel_rfl
theorem run_sgn13 (w : World) : (Instr.index 50 (.agg #[.string ⟨#[60, 62]⟩, .string ⟨#[60, 61]⟩, .string ⟨#[62, 61]⟩, .string ⟨#[124, 124]⟩, .string ⟨#[40]⟩, .string ⟨#[41]⟩, .string ⟨#[44]⟩, .string ⟨#[46]⟩, .string ⟨#[42]⟩, .string ⟨#[43]⟩, .string ⟨#[45]⟩, .string ⟨#[47]⟩, .string ⟨#[37]⟩, .string ⟨#[61]⟩, .string ⟨#[60]⟩, .string ⟨#[62]⟩]) (.int .i64 13)).run Tryd.prog w = .ok (.string ⟨#[61]⟩) w := by kernel_rfl
theorem run_sgn14 (w : World) : (Instr.index 50 (.agg #[.string ⟨#[60, 62]⟩, .string ⟨#[60, 61]⟩, .string ⟨#[62, 61]⟩, .string ⟨#[124, 124]⟩, .string ⟨#[40]⟩, .string ⟨#[41]⟩, .string ⟨#[44]⟩, .string ⟨#[46]⟩, .string ⟨#[42]⟩, .string ⟨#[43]⟩, .string ⟨#[45]⟩, .string ⟨#[47]⟩, .string ⟨#[37]⟩, .string ⟨#[61]⟩, .string ⟨#[60]⟩, .string ⟨#[62]⟩]) (.int .i64 14)).run Tryd.prog w = .ok (.string ⟨#[60]⟩) w := by kernel_rfl
theorem run_sgn15 (w : World) : (Instr.index 50 (.agg #[.string ⟨#[60, 62]⟩, .string ⟨#[60, 61]⟩, .string ⟨#[62, 61]⟩, .string ⟨#[124, 124]⟩, .string ⟨#[40]⟩, .string ⟨#[41]⟩, .string ⟨#[44]⟩, .string ⟨#[46]⟩, .string ⟨#[42]⟩, .string ⟨#[43]⟩, .string ⟨#[45]⟩, .string ⟨#[47]⟩, .string ⟨#[37]⟩, .string ⟨#[61]⟩, .string ⟨#[60]⟩, .string ⟨#[62]⟩]) (.int .i64 15)).run Tryd.prog w = .ok (.string ⟨#[62]⟩) w := by kernel_rfl
attribute [local go_sem high] run_sgn0 run_sgn1 run_sgn2 run_sgn3 run_sgn4 run_sgn5 run_sgn6 run_sgn7 run_sgn8 run_sgn9 run_sgn10 run_sgn11 run_sgn12 run_sgn13 run_sgn14 run_sgn15
def sgn (o : Option (List UInt8)) : Fst := match o with
  | some x => .tok 5 x 0 (x.length - 1)
  | none => .bad 4

set_option maxRecDepth 100000 in
set_option maxHeartbeats 8000000 in
theorem first_sign (s : ByteArray) (hs : s.size ≤ 1099511627776) (h0 : 0 < s.size) (hl : lowB s[0] = false) (hu : upB s[0] = false) (hd : digB s[0] = false) (hq : s[0].toNat ≠ 39) (W : World) (hS : Signs W) : Calls Tryd.prog 11 #[.string s] W fun e w' => e = .returned (fstV (signL s.data.toList)) ∧ Below W.heap.size W w' := by
  have hs0 : (0 : Int) ≤ (s.size : Int) := by omega
  have hs1 : (0 : Int) < (s.size : Int) := by omega
  have hc : (s[0].toNat : Int) < 256 := by have := s[0].toNat_lt; omega
  have hc0 : (0 : Int) ≤ (s[0].toNat : Int) := by omega
  have HL := Lib.hid (fun W => lower_any s[0] W)
  rw [hl] at HL
  have HU := Lib.hid (fun W => upper_any s[0] W)
  rw [hu] at HU
  have HD := Lib.hid (fun W => digit_any s[0] W)
  rw [hd] at HD
  have e1 : ((s[0].toNat : Int) == 39) = false := by simp; omega
  obtain ⟨R, hR⟩ : ∃ R, signsL.find? (fun y => y.isPrefixOf s.data.toList) = R := ⟨_, rfl⟩
  have hres : signL s.data.toList = sgn R := by unfold signL; rw [hR]; rfl
  rw [hres]
  have HR := Lib.hid hR
  have hB := ((Below.refl W.heap.size W).alloc (Nat.le_refl _) (.cells #[.int .i64 0, .string nob, .int .i64 0, .int .i64 0] 32))
  obtain ⟨c0, c1, c2, c3, c4, c5, c6, c7, c8, c9, c10, c11, c12, c13, c14, c15⟩ := (hS.later hB).all
  clear hres hR hl hu hd hq hS
  go_enter Tryd.func11, Tryd.ntmps11
  go_wp2_with (first | (go_at_call 17; (with_reducible refine (HL.out _).mono ?_); rintro e w1 ⟨rfl, rfl⟩) | (go_at_call 21; (with_reducible refine (HU.out _).mono ?_); rintro e w1 ⟨rfl, rfl⟩) | (go_at_call 22; (with_reducible refine (HD.out _).mono ?_); rintro e w1 ⟨rfl, rfl⟩))
  clear c0 c1 c2 c3 c4 c5 c6 c7 c8 c9 c10 c11 c12 c13 c14 c15
  go_loopw [7, 52] (fun _ i wr => ∃ k : Nat, i = .int .i64 (k : Int) ∧ k ≤ 16 ∧ Hid ((signsL.drop k).find? (fun y => y.isPrefixOf s.data.toList) = R) ∧ wr = W.alloc (.cells #[.int .i64 0, .string nob, .int .i64 0, .int .i64 0] 32)) (fun _ i _ => 16 - (intOf i).toNat)
  case atStart => exact ⟨0, rfl, by decide, HR, rfl⟩
  case round =>
    obtain ⟨k, rfl, hk, HF, rfl⟩ := hrel
    have hk' : k = 0 ∨ k = 1 ∨ k = 2 ∨ k = 3 ∨ k = 4 ∨ k = 5 ∨ k = 6 ∨ k = 7 ∨ k = 8 ∨ k = 9 ∨ k = 10 ∨ k = 11 ∨ k = 12 ∨ k = 13 ∨ k = 14 ∨ k = 15 ∨ k = 16 := by omega
    rcases hk' with rfl | rfl | rfl | rfl | rfl | rfl | rfl | rfl | rfl | rfl | rfl | rfl | rfl | rfl | rfl | rfl | rfl
    · have HP := Lib.hid (fun W => Tryd.strings_HasPrefix s ⟨#[60, 62]⟩ W)
      have e : Lib.hasPrefix s.data.toList (⟨#[60, 62]⟩ : ByteArray).data.toList = List.isPrefixOf [60, 62] s.data.toList := rfl
      rw [e] at HP
      by_cases hp : List.isPrefixOf [60, 62] s.data.toList = true
      · have hr := (find_yes hp).symm.trans HF.out
        rw [hp] at HP
        subst hr
        clear hp e HF HR
        go_wp2_with (go_at_call 25; (with_reducible refine (HP.out _).mono ?_); rintro e w1 ⟨rfl, rfl⟩)
        refine bodyPost_ret (v := .tuple #[tkV 5 ⟨#[60, 62]⟩ 0 0, .int .i64 2, .int .i64 0]) ?_ (by rfl) ⟨rfl, ?_⟩
        · simp only [results, Tryd.results11]; go_simp
        · exact (Below.refl _ _).alloc (Nat.le_refl _) _
      · have hp : List.isPrefixOf [60, 62] s.data.toList = false := Bool.eq_false_iff.2 hp
        have HF2 := Lib.hid ((find_no hp).symm.trans HF.out)
        rw [hp] at HP
        clear hp e HF
        go_wp2_with (go_at_call 25; (with_reducible refine (HP.out _).mono ?_); rintro e w1 ⟨rfl, rfl⟩)
        go_roundw
        case rel => exact ⟨1, by go_num, by decide, HF2, by first | rfl | trivial⟩
        case measure => simp [intOf]
    · have HP := Lib.hid (fun W => Tryd.strings_HasPrefix s ⟨#[60, 61]⟩ W)
      have e : Lib.hasPrefix s.data.toList (⟨#[60, 61]⟩ : ByteArray).data.toList = List.isPrefixOf [60, 61] s.data.toList := rfl
      rw [e] at HP
      by_cases hp : List.isPrefixOf [60, 61] s.data.toList = true
      · have hr := (find_yes hp).symm.trans HF.out
        rw [hp] at HP
        subst hr
        clear hp e HF HR
        go_wp2_with (go_at_call 25; (with_reducible refine (HP.out _).mono ?_); rintro e w1 ⟨rfl, rfl⟩)
        refine bodyPost_ret (v := .tuple #[tkV 5 ⟨#[60, 61]⟩ 0 0, .int .i64 2, .int .i64 0]) ?_ (by rfl) ⟨rfl, ?_⟩
        · simp only [results, Tryd.results11]; go_simp
        · exact (Below.refl _ _).alloc (Nat.le_refl _) _
      · have hp : List.isPrefixOf [60, 61] s.data.toList = false := Bool.eq_false_iff.2 hp
        have HF2 := Lib.hid ((find_no hp).symm.trans HF.out)
        rw [hp] at HP
        clear hp e HF
        go_wp2_with (go_at_call 25; (with_reducible refine (HP.out _).mono ?_); rintro e w1 ⟨rfl, rfl⟩)
        go_roundw
        case rel => exact ⟨2, by go_num, by decide, HF2, by first | rfl | trivial⟩
        case measure => simp [intOf]
    · have HP := Lib.hid (fun W => Tryd.strings_HasPrefix s ⟨#[62, 61]⟩ W)
      have e : Lib.hasPrefix s.data.toList (⟨#[62, 61]⟩ : ByteArray).data.toList = List.isPrefixOf [62, 61] s.data.toList := rfl
      rw [e] at HP
      by_cases hp : List.isPrefixOf [62, 61] s.data.toList = true
      · have hr := (find_yes hp).symm.trans HF.out
        rw [hp] at HP
        subst hr
        clear hp e HF HR
        go_wp2_with (go_at_call 25; (with_reducible refine (HP.out _).mono ?_); rintro e w1 ⟨rfl, rfl⟩)
        refine bodyPost_ret (v := .tuple #[tkV 5 ⟨#[62, 61]⟩ 0 0, .int .i64 2, .int .i64 0]) ?_ (by rfl) ⟨rfl, ?_⟩
        · simp only [results, Tryd.results11]; go_simp
        · exact (Below.refl _ _).alloc (Nat.le_refl _) _
      · have hp : List.isPrefixOf [62, 61] s.data.toList = false := Bool.eq_false_iff.2 hp
        have HF2 := Lib.hid ((find_no hp).symm.trans HF.out)
        rw [hp] at HP
        clear hp e HF
        go_wp2_with (go_at_call 25; (with_reducible refine (HP.out _).mono ?_); rintro e w1 ⟨rfl, rfl⟩)
        go_roundw
        case rel => exact ⟨3, by go_num, by decide, HF2, by first | rfl | trivial⟩
        case measure => simp [intOf]
    · have HP := Lib.hid (fun W => Tryd.strings_HasPrefix s ⟨#[124, 124]⟩ W)
      have e : Lib.hasPrefix s.data.toList (⟨#[124, 124]⟩ : ByteArray).data.toList = List.isPrefixOf [124, 124] s.data.toList := rfl
      rw [e] at HP
      by_cases hp : List.isPrefixOf [124, 124] s.data.toList = true
      · have hr := (find_yes hp).symm.trans HF.out
        rw [hp] at HP
        subst hr
        clear hp e HF HR
        go_wp2_with (go_at_call 25; (with_reducible refine (HP.out _).mono ?_); rintro e w1 ⟨rfl, rfl⟩)
        refine bodyPost_ret (v := .tuple #[tkV 5 ⟨#[124, 124]⟩ 0 0, .int .i64 2, .int .i64 0]) ?_ (by rfl) ⟨rfl, ?_⟩
        · simp only [results, Tryd.results11]; go_simp
        · exact (Below.refl _ _).alloc (Nat.le_refl _) _
      · have hp : List.isPrefixOf [124, 124] s.data.toList = false := Bool.eq_false_iff.2 hp
        have HF2 := Lib.hid ((find_no hp).symm.trans HF.out)
        rw [hp] at HP
        clear hp e HF
        go_wp2_with (go_at_call 25; (with_reducible refine (HP.out _).mono ?_); rintro e w1 ⟨rfl, rfl⟩)
        go_roundw
        case rel => exact ⟨4, by go_num, by decide, HF2, by first | rfl | trivial⟩
        case measure => simp [intOf]
    · have HP := Lib.hid (fun W => Tryd.strings_HasPrefix s ⟨#[40]⟩ W)
      have e : Lib.hasPrefix s.data.toList (⟨#[40]⟩ : ByteArray).data.toList = List.isPrefixOf [40] s.data.toList := rfl
      rw [e] at HP
      by_cases hp : List.isPrefixOf [40] s.data.toList = true
      · have hr := (find_yes hp).symm.trans HF.out
        rw [hp] at HP
        subst hr
        clear hp e HF HR
        go_wp2_with (go_at_call 25; (with_reducible refine (HP.out _).mono ?_); rintro e w1 ⟨rfl, rfl⟩)
        refine bodyPost_ret (v := .tuple #[tkV 5 ⟨#[40]⟩ 0 0, .int .i64 1, .int .i64 0]) ?_ (by rfl) ⟨rfl, ?_⟩
        · simp only [results, Tryd.results11]; go_simp
        · exact (Below.refl _ _).alloc (Nat.le_refl _) _
      · have hp : List.isPrefixOf [40] s.data.toList = false := Bool.eq_false_iff.2 hp
        have HF2 := Lib.hid ((find_no hp).symm.trans HF.out)
        rw [hp] at HP
        clear hp e HF
        go_wp2_with (go_at_call 25; (with_reducible refine (HP.out _).mono ?_); rintro e w1 ⟨rfl, rfl⟩)
        go_roundw
        case rel => exact ⟨5, by go_num, by decide, HF2, by first | rfl | trivial⟩
        case measure => simp [intOf]
    · have HP := Lib.hid (fun W => Tryd.strings_HasPrefix s ⟨#[41]⟩ W)
      have e : Lib.hasPrefix s.data.toList (⟨#[41]⟩ : ByteArray).data.toList = List.isPrefixOf [41] s.data.toList := rfl
      rw [e] at HP
      by_cases hp : List.isPrefixOf [41] s.data.toList = true
      · have hr := (find_yes hp).symm.trans HF.out
        rw [hp] at HP
        subst hr
        clear hp e HF HR
        go_wp2_with (go_at_call 25; (with_reducible refine (HP.out _).mono ?_); rintro e w1 ⟨rfl, rfl⟩)
        refine bodyPost_ret (v := .tuple #[tkV 5 ⟨#[41]⟩ 0 0, .int .i64 1, .int .i64 0]) ?_ (by rfl) ⟨rfl, ?_⟩
        · simp only [results, Tryd.results11]; go_simp
        · exact (Below.refl _ _).alloc (Nat.le_refl _) _
      · have hp : List.isPrefixOf [41] s.data.toList = false := Bool.eq_false_iff.2 hp
        have HF2 := Lib.hid ((find_no hp).symm.trans HF.out)
        rw [hp] at HP
        clear hp e HF
        go_wp2_with (go_at_call 25; (with_reducible refine (HP.out _).mono ?_); rintro e w1 ⟨rfl, rfl⟩)
        go_roundw
        case rel => exact ⟨6, by go_num, by decide, HF2, by first | rfl | trivial⟩
        case measure => simp [intOf]
    · have HP := Lib.hid (fun W => Tryd.strings_HasPrefix s ⟨#[44]⟩ W)
      have e : Lib.hasPrefix s.data.toList (⟨#[44]⟩ : ByteArray).data.toList = List.isPrefixOf [44] s.data.toList := rfl
      rw [e] at HP
      by_cases hp : List.isPrefixOf [44] s.data.toList = true
      · have hr := (find_yes hp).symm.trans HF.out
        rw [hp] at HP
        subst hr
        clear hp e HF HR
        go_wp2_with (go_at_call 25; (with_reducible refine (HP.out _).mono ?_); rintro e w1 ⟨rfl, rfl⟩)
        refine bodyPost_ret (v := .tuple #[tkV 5 ⟨#[44]⟩ 0 0, .int .i64 1, .int .i64 0]) ?_ (by rfl) ⟨rfl, ?_⟩
        · simp only [results, Tryd.results11]; go_simp
        · exact (Below.refl _ _).alloc (Nat.le_refl _) _
      · have hp : List.isPrefixOf [44] s.data.toList = false := Bool.eq_false_iff.2 hp
        have HF2 := Lib.hid ((find_no hp).symm.trans HF.out)
        rw [hp] at HP
        clear hp e HF
        go_wp2_with (go_at_call 25; (with_reducible refine (HP.out _).mono ?_); rintro e w1 ⟨rfl, rfl⟩)
        go_roundw
        case rel => exact ⟨7, by go_num, by decide, HF2, by first | rfl | trivial⟩
        case measure => simp [intOf]
    · have HP := Lib.hid (fun W => Tryd.strings_HasPrefix s ⟨#[46]⟩ W)
      have e : Lib.hasPrefix s.data.toList (⟨#[46]⟩ : ByteArray).data.toList = List.isPrefixOf [46] s.data.toList := rfl
      rw [e] at HP
      by_cases hp : List.isPrefixOf [46] s.data.toList = true
      · have hr := (find_yes hp).symm.trans HF.out
        rw [hp] at HP
        subst hr
        clear hp e HF HR
        go_wp2_with (go_at_call 25; (with_reducible refine (HP.out _).mono ?_); rintro e w1 ⟨rfl, rfl⟩)
        refine bodyPost_ret (v := .tuple #[tkV 5 ⟨#[46]⟩ 0 0, .int .i64 1, .int .i64 0]) ?_ (by rfl) ⟨rfl, ?_⟩
        · simp only [results, Tryd.results11]; go_simp
        · exact (Below.refl _ _).alloc (Nat.le_refl _) _
      · have hp : List.isPrefixOf [46] s.data.toList = false := Bool.eq_false_iff.2 hp
        have HF2 := Lib.hid ((find_no hp).symm.trans HF.out)
        rw [hp] at HP
        clear hp e HF
        go_wp2_with (go_at_call 25; (with_reducible refine (HP.out _).mono ?_); rintro e w1 ⟨rfl, rfl⟩)
        go_roundw
        case rel => exact ⟨8, by go_num, by decide, HF2, by first | rfl | trivial⟩
        case measure => simp [intOf]
    · have HP := Lib.hid (fun W => Tryd.strings_HasPrefix s ⟨#[42]⟩ W)
      have e : Lib.hasPrefix s.data.toList (⟨#[42]⟩ : ByteArray).data.toList = List.isPrefixOf [42] s.data.toList := rfl
      rw [e] at HP
      by_cases hp : List.isPrefixOf [42] s.data.toList = true
      · have hr := (find_yes hp).symm.trans HF.out
        rw [hp] at HP
        subst hr
        clear hp e HF HR
        go_wp2_with (go_at_call 25; (with_reducible refine (HP.out _).mono ?_); rintro e w1 ⟨rfl, rfl⟩)
        refine bodyPost_ret (v := .tuple #[tkV 5 ⟨#[42]⟩ 0 0, .int .i64 1, .int .i64 0]) ?_ (by rfl) ⟨rfl, ?_⟩
        · simp only [results, Tryd.results11]; go_simp
        · exact (Below.refl _ _).alloc (Nat.le_refl _) _
      · have hp : List.isPrefixOf [42] s.data.toList = false := Bool.eq_false_iff.2 hp
        have HF2 := Lib.hid ((find_no hp).symm.trans HF.out)
        rw [hp] at HP
        clear hp e HF
        go_wp2_with (go_at_call 25; (with_reducible refine (HP.out _).mono ?_); rintro e w1 ⟨rfl, rfl⟩)
        go_roundw
        case rel => exact ⟨9, by go_num, by decide, HF2, by first | rfl | trivial⟩
        case measure => simp [intOf]
    · have HP := Lib.hid (fun W => Tryd.strings_HasPrefix s ⟨#[43]⟩ W)
      have e : Lib.hasPrefix s.data.toList (⟨#[43]⟩ : ByteArray).data.toList = List.isPrefixOf [43] s.data.toList := rfl
      rw [e] at HP
      by_cases hp : List.isPrefixOf [43] s.data.toList = true
      · have hr := (find_yes hp).symm.trans HF.out
        rw [hp] at HP
        subst hr
        clear hp e HF HR
        go_wp2_with (go_at_call 25; (with_reducible refine (HP.out _).mono ?_); rintro e w1 ⟨rfl, rfl⟩)
        refine bodyPost_ret (v := .tuple #[tkV 5 ⟨#[43]⟩ 0 0, .int .i64 1, .int .i64 0]) ?_ (by rfl) ⟨rfl, ?_⟩
        · simp only [results, Tryd.results11]; go_simp
        · exact (Below.refl _ _).alloc (Nat.le_refl _) _
      · have hp : List.isPrefixOf [43] s.data.toList = false := Bool.eq_false_iff.2 hp
        have HF2 := Lib.hid ((find_no hp).symm.trans HF.out)
        rw [hp] at HP
        clear hp e HF
        go_wp2_with (go_at_call 25; (with_reducible refine (HP.out _).mono ?_); rintro e w1 ⟨rfl, rfl⟩)
        go_roundw
        case rel => exact ⟨10, by go_num, by decide, HF2, by first | rfl | trivial⟩
        case measure => simp [intOf]
    · have HP := Lib.hid (fun W => Tryd.strings_HasPrefix s ⟨#[45]⟩ W)
      have e : Lib.hasPrefix s.data.toList (⟨#[45]⟩ : ByteArray).data.toList = List.isPrefixOf [45] s.data.toList := rfl
      rw [e] at HP
      by_cases hp : List.isPrefixOf [45] s.data.toList = true
      · have hr := (find_yes hp).symm.trans HF.out
        rw [hp] at HP
        subst hr
        clear hp e HF HR
        go_wp2_with (go_at_call 25; (with_reducible refine (HP.out _).mono ?_); rintro e w1 ⟨rfl, rfl⟩)
        refine bodyPost_ret (v := .tuple #[tkV 5 ⟨#[45]⟩ 0 0, .int .i64 1, .int .i64 0]) ?_ (by rfl) ⟨rfl, ?_⟩
        · simp only [results, Tryd.results11]; go_simp
        · exact (Below.refl _ _).alloc (Nat.le_refl _) _
      · have hp : List.isPrefixOf [45] s.data.toList = false := Bool.eq_false_iff.2 hp
        have HF2 := Lib.hid ((find_no hp).symm.trans HF.out)
        rw [hp] at HP
        clear hp e HF
        go_wp2_with (go_at_call 25; (with_reducible refine (HP.out _).mono ?_); rintro e w1 ⟨rfl, rfl⟩)
        go_roundw
        case rel => exact ⟨11, by go_num, by decide, HF2, by first | rfl | trivial⟩
        case measure => simp [intOf]
    · have HP := Lib.hid (fun W => Tryd.strings_HasPrefix s ⟨#[47]⟩ W)
      have e : Lib.hasPrefix s.data.toList (⟨#[47]⟩ : ByteArray).data.toList = List.isPrefixOf [47] s.data.toList := rfl
      rw [e] at HP
      by_cases hp : List.isPrefixOf [47] s.data.toList = true
      · have hr := (find_yes hp).symm.trans HF.out
        rw [hp] at HP
        subst hr
        clear hp e HF HR
        go_wp2_with (go_at_call 25; (with_reducible refine (HP.out _).mono ?_); rintro e w1 ⟨rfl, rfl⟩)
        refine bodyPost_ret (v := .tuple #[tkV 5 ⟨#[47]⟩ 0 0, .int .i64 1, .int .i64 0]) ?_ (by rfl) ⟨rfl, ?_⟩
        · simp only [results, Tryd.results11]; go_simp
        · exact (Below.refl _ _).alloc (Nat.le_refl _) _
      · have hp : List.isPrefixOf [47] s.data.toList = false := Bool.eq_false_iff.2 hp
        have HF2 := Lib.hid ((find_no hp).symm.trans HF.out)
        rw [hp] at HP
        clear hp e HF
        go_wp2_with (go_at_call 25; (with_reducible refine (HP.out _).mono ?_); rintro e w1 ⟨rfl, rfl⟩)
        go_roundw
        case rel => exact ⟨12, by go_num, by decide, HF2, by first | rfl | trivial⟩
        case measure => simp [intOf]
    · have HP := Lib.hid (fun W => Tryd.strings_HasPrefix s ⟨#[37]⟩ W)
      have e : Lib.hasPrefix s.data.toList (⟨#[37]⟩ : ByteArray).data.toList = List.isPrefixOf [37] s.data.toList := rfl
      rw [e] at HP
      by_cases hp : List.isPrefixOf [37] s.data.toList = true
      · have hr := (find_yes hp).symm.trans HF.out
        rw [hp] at HP
        subst hr
        clear hp e HF HR
        go_wp2_with (go_at_call 25; (with_reducible refine (HP.out _).mono ?_); rintro e w1 ⟨rfl, rfl⟩)
        refine bodyPost_ret (v := .tuple #[tkV 5 ⟨#[37]⟩ 0 0, .int .i64 1, .int .i64 0]) ?_ (by rfl) ⟨rfl, ?_⟩
        · simp only [results, Tryd.results11]; go_simp
        · exact (Below.refl _ _).alloc (Nat.le_refl _) _
      · have hp : List.isPrefixOf [37] s.data.toList = false := Bool.eq_false_iff.2 hp
        have HF2 := Lib.hid ((find_no hp).symm.trans HF.out)
        rw [hp] at HP
        clear hp e HF
        go_wp2_with (go_at_call 25; (with_reducible refine (HP.out _).mono ?_); rintro e w1 ⟨rfl, rfl⟩)
        go_roundw
        case rel => exact ⟨13, by go_num, by decide, HF2, by first | rfl | trivial⟩
        case measure => simp [intOf]
    · have HP := Lib.hid (fun W => Tryd.strings_HasPrefix s ⟨#[61]⟩ W)
      have e : Lib.hasPrefix s.data.toList (⟨#[61]⟩ : ByteArray).data.toList = List.isPrefixOf [61] s.data.toList := rfl
      rw [e] at HP
      by_cases hp : List.isPrefixOf [61] s.data.toList = true
      · have hr := (find_yes hp).symm.trans HF.out
        rw [hp] at HP
        subst hr
        clear hp e HF HR
        go_wp2_with (go_at_call 25; (with_reducible refine (HP.out _).mono ?_); rintro e w1 ⟨rfl, rfl⟩)
        refine bodyPost_ret (v := .tuple #[tkV 5 ⟨#[61]⟩ 0 0, .int .i64 1, .int .i64 0]) ?_ (by rfl) ⟨rfl, ?_⟩
        · simp only [results, Tryd.results11]; go_simp
        · exact (Below.refl _ _).alloc (Nat.le_refl _) _
      · have hp : List.isPrefixOf [61] s.data.toList = false := Bool.eq_false_iff.2 hp
        have HF2 := Lib.hid ((find_no hp).symm.trans HF.out)
        rw [hp] at HP
        clear hp e HF
        go_wp2_with (go_at_call 25; (with_reducible refine (HP.out _).mono ?_); rintro e w1 ⟨rfl, rfl⟩)
        go_roundw
        case rel => exact ⟨14, by go_num, by decide, HF2, by first | rfl | trivial⟩
        case measure => simp [intOf]
    · have HP := Lib.hid (fun W => Tryd.strings_HasPrefix s ⟨#[60]⟩ W)
      have e : Lib.hasPrefix s.data.toList (⟨#[60]⟩ : ByteArray).data.toList = List.isPrefixOf [60] s.data.toList := rfl
      rw [e] at HP
      by_cases hp : List.isPrefixOf [60] s.data.toList = true
      · have hr := (find_yes hp).symm.trans HF.out
        rw [hp] at HP
        subst hr
        clear hp e HF HR
        go_wp2_with (go_at_call 25; (with_reducible refine (HP.out _).mono ?_); rintro e w1 ⟨rfl, rfl⟩)
        refine bodyPost_ret (v := .tuple #[tkV 5 ⟨#[60]⟩ 0 0, .int .i64 1, .int .i64 0]) ?_ (by rfl) ⟨rfl, ?_⟩
        · simp only [results, Tryd.results11]; go_simp
        · exact (Below.refl _ _).alloc (Nat.le_refl _) _
      · have hp : List.isPrefixOf [60] s.data.toList = false := Bool.eq_false_iff.2 hp
        have HF2 := Lib.hid ((find_no hp).symm.trans HF.out)
        rw [hp] at HP
        clear hp e HF
        go_wp2_with (go_at_call 25; (with_reducible refine (HP.out _).mono ?_); rintro e w1 ⟨rfl, rfl⟩)
        go_roundw
        case rel => exact ⟨15, by go_num, by decide, HF2, by first | rfl | trivial⟩
        case measure => simp [intOf]
    · have HP := Lib.hid (fun W => Tryd.strings_HasPrefix s ⟨#[62]⟩ W)
      have e : Lib.hasPrefix s.data.toList (⟨#[62]⟩ : ByteArray).data.toList = List.isPrefixOf [62] s.data.toList := rfl
      rw [e] at HP
      by_cases hp : List.isPrefixOf [62] s.data.toList = true
      · have hr := (find_yes hp).symm.trans HF.out
        rw [hp] at HP
        subst hr
        clear hp e HF HR
        go_wp2_with (go_at_call 25; (with_reducible refine (HP.out _).mono ?_); rintro e w1 ⟨rfl, rfl⟩)
        refine bodyPost_ret (v := .tuple #[tkV 5 ⟨#[62]⟩ 0 0, .int .i64 1, .int .i64 0]) ?_ (by rfl) ⟨rfl, ?_⟩
        · simp only [results, Tryd.results11]; go_simp
        · exact (Below.refl _ _).alloc (Nat.le_refl _) _
      · have hp : List.isPrefixOf [62] s.data.toList = false := Bool.eq_false_iff.2 hp
        have HF2 := Lib.hid ((find_no hp).symm.trans HF.out)
        rw [hp] at HP
        clear hp e HF
        go_wp2_with (go_at_call 25; (with_reducible refine (HP.out _).mono ?_); rintro e w1 ⟨rfl, rfl⟩)
        go_roundw
        case rel => exact ⟨16, by go_num, by decide, HF2, by first | rfl | trivial⟩
        case measure => simp [intOf]
    · have hr : none = R := HF.out
      subst hr
      clear HF HR
      go_wp2_with fail
      refine bodyPost_ret (v := .tuple #[tkV 0 nob 0 0, .int .i64 0, .int .i64 4]) ?_ (by rfl) ⟨rfl, ?_⟩
      · simp only [results, Tryd.results11]; go_simp
      · exact (Below.refl _ _).alloc (Nat.le_refl _) _
theorem first_any (s : ByteArray) (hs : s.size ≤ 1099511627776) (h0 : 0 < s.size) (W : World) (hS : Signs W) : Calls Tryd.prog 11 #[.string s] W fun e w' => e = .returned (fstV (firstL s.data.toList)) ∧ Below W.heap.size W w' := by
  obtain ⟨r, hr⟩ := first_0 s h0
  have hf : firstL s.data.toList = if lowB s[0] then wordL 1 (s.data.toList.takeWhile nameB) else if upB s[0] then wordL 2 (s.data.toList.takeWhile upB) else if digB s[0] then numL (s.data.toList.takeWhile digB) else if s[0] = 39 then textL s.data.toList 1 [] else signL s.data.toList := by
    rw [hr]; rfl
  rw [hf]
  cases hl : lowB s[0] with
  | true => exact first_name s hs h0 hl W
  | false =>
    cases hu : upB s[0] with
    | true => exact first_key s hs h0 hl hu W
    | false =>
      cases hd : digB s[0] with
      | true => exact first_num s hs h0 hl hu hd W
      | false =>
        by_cases hq : s[0] = 39
        · rw [if_pos hq]; exact first_text s hs h0 hl hu hd (by rw [hq]; rfl) W
        · rw [if_neg hq]; exact first_sign s hs h0 hl hu hd (fun h => hq (UInt8.toNat_inj.1 h)) W hS
end Go.Proofs.YtkgfmjejcpjfiaaDoor.lx
