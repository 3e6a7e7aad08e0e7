/- Tokens of a text, plain: what both texts say of them. -/
import Derived.Test.YtjnlimahcodomaaRows
import Derived.Test.YtjnlimahcodomaaOwn
import Derived.Test.YtjnlimahcodomaaObj
import Derived.Lib.Hide
import Derived.WalkKit
import Derived.WalkSpells
import Derived.Lib.Strings
import Derived.Lib.Builder
import Derived.Lib.AppendStr
import Derived.Laws.Externs
import Derived.OwnWalk
namespace Go.Proofs.Ytjnlimahcodomaa.lx
set_option linter.unusedVariables false
def lowB (c : UInt8) : Bool := 97 ≤ c.toNat && c.toNat ≤ 122
def upB (c : UInt8) : Bool := 65 ≤ c.toNat && c.toNat ≤ 90
def digB (c : UInt8) : Bool := 48 ≤ c.toNat && c.toNat ≤ 57
def nameB (c : UInt8) : Bool := lowB c || digB c || c.toNat == 95
def blankB (c : UInt8) : Bool := c.toNat == 32 || c.toNat == 10
def goodL (l : List UInt8) : Bool := match l with
  | [] => false
  | c :: _ => decide (l.length ≤ 16) && lowB c && l.all nameB
end Go.Proofs.Ytjnlimahcodomaa.lx
/- How many bytes at the beginning of a text are of a class, walked. -/
namespace Go.Proofs.Ytjnlimahcodomaa.lx
set_option linter.unusedVariables false
open Go.RowKit
theorem data_len (s : ByteArray) : s.data.toList.length = s.size := by rw [← ByteArray.size_data]; simp
theorem data_at (s : ByteArray) (k : Nat) (h : k < s.size) (h' : k < s.data.toList.length) : s.data.toList[k] = s[k] := rfl
end Go.Proofs.Ytjnlimahcodomaa.lx
/- The first token of a text, walked. -/
namespace Go.Proofs.Ytjnlimahcodomaa.lx
set_option linter.unusedVariables false
open Go.RowKit
theorem first_0 (s : ByteArray) (h0 : 0 < s.size) : ∃ r, s.data.toList = s[0] :: r := by
  have h : 0 < s.data.toList.length := by rw [data_len]; exact h0
  refine ⟨s.data.toList.drop 1, ?_⟩
  have h1 := List.drop_eq_getElem_cons h
  rw [List.drop_zero] at h1
  rw [← data_at s 0 h0 h]
  exact h1
end Go.Proofs.Ytjnlimahcodomaa.lx
/- Which texts are names, by the program and by the document, walked. -/
namespace Go.Proofs.Ytjnlimahcodomaa.lx
set_option linter.unusedVariables false
open Go.RowKit
theorem empty_of (s : ByteArray) (h : s.size = 0) : s = ⟨#[]⟩ := by
  cases s with
  | mk a => congr 1; exact Array.eq_empty_of_size_eq_zero h
theorem good_big (s : ByteArray) (h : 16 < s.size) : goodL s.data.toList = false := by
  unfold goodL
  have hl := data_len s
  cases hd : s.data.toList with
  | nil => rfl
  | cons c r => rw [hd] at hl; simp; intro h1; simp at hl; omega
theorem good_val (s : ByteArray) (h0 : 0 < s.size) (h : s.size ≤ 16) : goodL s.data.toList = (lowB s[0] && s.data.toList.all nameB) := by
  obtain ⟨r, hr⟩ := first_0 s h0
  have hl := data_len s
  unfold goodL
  rw [hr]
  rw [hr] at hl
  simp only
  rw [decide_eq_true (by omega), Bool.true_and]
/-- the document's class of a byte -/
def classN (c : UInt8) : Nat := if lowB c then 1 else if upB c then 2 else if digB c then 3 else if c.toNat = 95 then 4 else if c.toNat = 39 then 5 else if blankB c then 6 else 0
theorem class_name (c : UInt8) : nameB c = (classN c == 1 || classN c == 3 || classN c == 4) := by
  unfold nameB classN lowB upB digB blankB
  by_cases h1 : 97 ≤ c.toNat <;> by_cases h2 : c.toNat ≤ 122 <;> by_cases h3 : 65 ≤ c.toNat <;> by_cases h4 : c.toNat ≤ 90 <;> by_cases h5 : 48 ≤ c.toNat <;> by_cases h6 : c.toNat ≤ 57 <;> by_cases h7 : c.toNat = 95 <;> by_cases h8 : c.toNat = 39 <;> by_cases h9 : c.toNat = 32 <;> by_cases h10 : c.toNat = 10 <;> first | omega | simp [h1, h2, h3, h4, h5, h6, h7, h8, h9, h10]
theorem class_low (c : UInt8) : (classN c == 1) = lowB c := by
  unfold classN
  cases lowB c <;> cases upB c <;> cases digB c <;> by_cases h7 : c.toNat = 95 <;> by_cases h8 : c.toNat = 39 <;> cases blankB c <;> simp [h7, h8]
set_option maxRecDepth 100000 in
set_option maxHeartbeats 2000000 in
theorem class_any (c : UInt8) (W : World) : Calls Try.prog 53 #[.int .u8 (c.toNat : Int)] W fun e w' => e = .returned (.int .i64 (classN c : Int)) ∧ W = w' := by
  have h0 : (0 : Int) ≤ (c.toNat : Int) := by omega
  have b1 : (97 : Int) ≤ (c.toNat : Int) ↔ 97 ≤ c.toNat := by omega
  unfold classN lowB upB digB blankB
  generalize c.toNat = m at *
  clear b1
  by_cases a1 : 97 ≤ m
  · have c1 : (97 : Int) ≤ (m : Int) := by omega
    by_cases a2 : m ≤ 122
    · have c2 : (m : Int) ≤ 122 := by omega
      have e : (if (decide (97 ≤ m) && decide (m ≤ 122)) = true then 1 else if (decide (65 ≤ m) && decide (m ≤ 90)) = true then 2 else if (decide (48 ≤ m) && decide (m ≤ 57)) = true then 3 else if m = 95 then 4 else if m = 39 then 5 else if (m == 32 || m == 10) = true then 6 else 0) = 1 := by simp [a1, a2]
      rw [e]
      go_enter Try.func53, Try.ntmps53
      go_wp2_with fail
      go_ret
      exact ⟨rfl, rfl⟩
    · have c2 : ¬ (m : Int) ≤ 122 := by omega
      have c3 : (65 : Int) ≤ (m : Int) := by omega
      have c4 : ¬ (m : Int) ≤ 90 := by omega
      have c5 : (48 : Int) ≤ (m : Int) := by omega
      have c6 : ¬ (m : Int) ≤ 57 := by omega
      have c7 : ((m : Int) == 95) = false := by simp; omega
      have c8 : ((m : Int) == 39) = false := by simp; omega
      have c9 : ((m : Int) == 32) = false := by simp; omega
      have c10 : ((m : Int) == 10) = false := by simp; omega
      have e : (if (decide (97 ≤ m) && decide (m ≤ 122)) = true then 1 else if (decide (65 ≤ m) && decide (m ≤ 90)) = true then 2 else if (decide (48 ≤ m) && decide (m ≤ 57)) = true then 3 else if m = 95 then 4 else if m = 39 then 5 else if (m == 32 || m == 10) = true then 6 else 0) = 0 := by
        have k4 : ¬ m ≤ 90 := by omega
        have k6 : ¬ m ≤ 57 := by omega
        have k7 : ¬ m = 95 := by omega
        have k8 : ¬ m = 39 := by omega
        have k9 : ¬ m = 32 := by omega
        have k10 : ¬ m = 10 := by omega
        simp [a2, k4, k6, k7, k8, k9, k10]
      rw [e]
      go_enter Try.func53, Try.ntmps53
      go_wp2_with fail
      go_ret
      exact ⟨rfl, rfl⟩
  · have c1 : ¬ (97 : Int) ≤ (m : Int) := by omega
    by_cases a3 : 65 ≤ m
    · have c3 : (65 : Int) ≤ (m : Int) := by omega
      by_cases a4 : m ≤ 90
      · have c4 : (m : Int) ≤ 90 := by omega
        have e : (if (decide (97 ≤ m) && decide (m ≤ 122)) = true then 1 else if (decide (65 ≤ m) && decide (m ≤ 90)) = true then 2 else if (decide (48 ≤ m) && decide (m ≤ 57)) = true then 3 else if m = 95 then 4 else if m = 39 then 5 else if (m == 32 || m == 10) = true then 6 else 0) = 2 := by simp [a1, a3, a4]
        rw [e]
        go_enter Try.func53, Try.ntmps53
        go_wp2_with fail
        go_ret
        exact ⟨rfl, rfl⟩
      · have c4 : ¬ (m : Int) ≤ 90 := by omega
        have c5 : (48 : Int) ≤ (m : Int) := by omega
        have c6 : ¬ (m : Int) ≤ 57 := by omega
        have k6 : ¬ m ≤ 57 := by omega
        by_cases a7 : m = 95
        · subst a7
          go_enter Try.func53, Try.ntmps53
          go_wp2_with fail
          go_ret
          exact ⟨rfl, rfl⟩
        · have c7 : ((m : Int) == 95) = false := by simp; omega
          have c8 : ((m : Int) == 39) = false := by simp; omega
          have c9 : ((m : Int) == 32) = false := by simp; omega
          have c10 : ((m : Int) == 10) = false := by simp; omega
          have e : (if (decide (97 ≤ m) && decide (m ≤ 122)) = true then 1 else if (decide (65 ≤ m) && decide (m ≤ 90)) = true then 2 else if (decide (48 ≤ m) && decide (m ≤ 57)) = true then 3 else if m = 95 then 4 else if m = 39 then 5 else if (m == 32 || m == 10) = true then 6 else 0) = 0 := by
            have k8 : ¬ m = 39 := by omega
            have k9 : ¬ m = 32 := by omega
            have k10 : ¬ m = 10 := by omega
            simp [a1, a4, k6, a7, k8, k9, k10]
          rw [e]
          go_enter Try.func53, Try.ntmps53
          go_wp2_with fail
          go_ret
          exact ⟨rfl, rfl⟩
    · have c3 : ¬ (65 : Int) ≤ (m : Int) := by omega
      have c7 : ((m : Int) == 95) = false := by simp; omega
      have k7 : ¬ m = 95 := by omega
      by_cases a5 : 48 ≤ m
      · have c5 : (48 : Int) ≤ (m : Int) := by omega
        by_cases a6 : m ≤ 57
        · have c6 : (m : Int) ≤ 57 := by omega
          have e : (if (decide (97 ≤ m) && decide (m ≤ 122)) = true then 1 else if (decide (65 ≤ m) && decide (m ≤ 90)) = true then 2 else if (decide (48 ≤ m) && decide (m ≤ 57)) = true then 3 else if m = 95 then 4 else if m = 39 then 5 else if (m == 32 || m == 10) = true then 6 else 0) = 3 := by simp [a1, a3, a5, a6]
          rw [e]
          go_enter Try.func53, Try.ntmps53
          go_wp2_with fail
          go_ret
          exact ⟨rfl, rfl⟩
        · have c6 : ¬ (m : Int) ≤ 57 := by omega
          have c8 : ((m : Int) == 39) = false := by simp; omega
          have c9 : ((m : Int) == 32) = false := by simp; omega
          have c10 : ((m : Int) == 10) = false := by simp; omega
          have e : (if (decide (97 ≤ m) && decide (m ≤ 122)) = true then 1 else if (decide (65 ≤ m) && decide (m ≤ 90)) = true then 2 else if (decide (48 ≤ m) && decide (m ≤ 57)) = true then 3 else if m = 95 then 4 else if m = 39 then 5 else if (m == 32 || m == 10) = true then 6 else 0) = 0 := by
            have k8 : ¬ m = 39 := by omega
            have k9 : ¬ m = 32 := by omega
            have k10 : ¬ m = 10 := by omega
            simp [a1, a3, a6, k7, k8, k9, k10]
          rw [e]
          go_enter Try.func53, Try.ntmps53
          go_wp2_with fail
          go_ret
          exact ⟨rfl, rfl⟩
      · have c5 : ¬ (48 : Int) ≤ (m : Int) := by omega
        by_cases a8 : m = 39
        · subst a8
          go_enter Try.func53, Try.ntmps53
          go_wp2_with fail
          go_ret
          exact ⟨rfl, rfl⟩
        · have c8 : ((m : Int) == 39) = false := by simp; omega
          by_cases a9 : m = 32
          · subst a9
            go_enter Try.func53, Try.ntmps53
            go_wp2_with fail
            go_ret
            exact ⟨rfl, rfl⟩
          · have c9 : ((m : Int) == 32) = false := by simp; omega
            by_cases a10 : m = 10
            · subst a10
              go_enter Try.func53, Try.ntmps53
              go_wp2_with fail
              go_ret
              exact ⟨rfl, rfl⟩
            · have c10 : ((m : Int) == 10) = false := by simp; omega
              have e : (if (decide (97 ≤ m) && decide (m ≤ 122)) = true then 1 else if (decide (65 ≤ m) && decide (m ≤ 90)) = true then 2 else if (decide (48 ≤ m) && decide (m ≤ 57)) = true then 3 else if m = 95 then 4 else if m = 39 then 5 else if (m == 32 || m == 10) = true then 6 else 0) = 0 := by simp [a1, a3, a5, k7, a8, a9, a10]
              rw [e]
              go_enter Try.func53, Try.ntmps53
              go_wp2_with fail
              go_ret
              exact ⟨rfl, rfl⟩
set_option maxRecDepth 100000 in
set_option maxHeartbeats 2000000 in
theorem rgood_any (s : ByteArray) (hs : s.size ≤ 1099511627776) (W : World) : Calls Try.prog 36 #[.string s] W fun e w' => e = .returned (.bool (goodL s.data.toList)) ∧ W = w' := by
  have hs0 : (0 : Int) ≤ (s.size : Int) := by omega
  by_cases h0 : s.size = 0
  · have := empty_of s h0
    subst this
    go_enter Try.func36, Try.ntmps36
    go_wp2_with fail
    go_ret
    exact ⟨rfl, rfl⟩
  · have d0 : ¬ (s.size : Int) < 1 := by omega
    by_cases h1 : 16 < s.size
    · have d : (16 : Int) < (s.size : Int) := by omega
      rw [good_big s h1]
      go_enter Try.func36, Try.ntmps36
      go_wp2_with fail
      go_ret
      exact ⟨rfl, rfl⟩
    · have d : ¬ (16 : Int) < (s.size : Int) := by omega
      have d1 : (0 : Int) < (s.size : Int) := by omega
      have hz : 0 < s.size := by omega
      rw [good_val s (by omega) (by omega)]
      have hc : (s[0].toNat : Int) < 256 := by have := s[0].toNat_lt; omega
      have hc0 : (0 : Int) ≤ (s[0].toNat : Int) := by omega
      have HL := Lib.hid (fun W => class_any s[0] W)
      have hcl := class_low s[0]
      cases hl : lowB s[0] with
      | false =>
        rw [hl] at hcl
        have e : ((classN s[0] : Int) != 1) = true := by simp at hcl ⊢; omega
        clear hl hcl
        go_enter Try.func36, Try.ntmps36
        go_wp2_with (go_at_call 53; (with_reducible refine (HL.out _).mono ?_); rintro e w1 ⟨rfl, rfl⟩)
        go_ret
        exact ⟨rfl, rfl⟩
      | true =>
        rw [hl] at hcl
        have e : ((classN s[0] : Int) != 1) = false := by simp at hcl ⊢; omega
        clear hl hcl
        obtain ⟨R, hR⟩ : ∃ R, s.data.toList.all nameB = R := ⟨_, rfl⟩
        rw [hR]
        have HR := Lib.hid hR
        clear hR
        go_enter Try.func36, Try.ntmps36
        go_wp2_with (go_at_call 53; (with_reducible refine (HL.out _).mono ?_); rintro e w1 ⟨rfl, rfl⟩)
        go_loopw [3] (fun i wr => ∃ k : Nat, i = .int .i64 (k : Int) ∧ k ≤ s.size ∧ Hid ((s.data.toList.drop k).all nameB = R) ∧ W = wr) (fun i _ => s.size - (intOf i).toNat)
        case atStart => exact ⟨0, rfl, Nat.zero_le _, by rw [List.drop_zero]; exact HR, rfl⟩
        case round =>
          obtain ⟨k, rfl, hk, HT, rfl⟩ := hrel
          have hd0 : (0 : Int) ≤ (k : Int) := by omega
          by_cases hzk : k < s.size
          · have dz : (k : Int) < (s.size : Int) := by omega
            have hl : k < s.data.toList.length := by rw [data_len]; exact hzk
            have HT2 := HT.out
            rw [List.drop_eq_getElem_cons hl, List.all_cons, data_at s k hzk hl] at HT2
            have HC := Lib.hid (fun W => class_any s[k] W)
            have hcn := class_name s[k]
            have hq0 : (0 : Int) ≤ (classN s[k] : Int) := by omega
            cases hnm : nameB s[k] with
            | false =>
              rw [hnm, Bool.false_and] at HT2
              rw [hnm] at hcn
              simp only [Bool.false_eq, Bool.or_eq_false_iff, beq_eq_false_iff_ne] at hcn
              have e1 : ((classN s[k] : Int) != 1) = true := by simp; omega
              have e3 : ((classN s[k] : Int) != 3) = true := by simp; omega
              have e4 : ((classN s[k] : Int) != 4) = true := by simp; omega
              subst HT2
              clear hnm hcn
              go_wp2_with (go_at_call 53; (with_reducible refine (HC.out _).mono ?_); rintro e w1 ⟨rfl, rfl⟩)
              go_ret
              exact ⟨rfl, rfl⟩
            | true =>
              rw [hnm, Bool.true_and] at HT2
              rw [hnm] at hcn
              have HT2 := Lib.hid HT2
              simp only [Bool.true_eq, Bool.or_eq_true, beq_iff_eq] at hcn
              rcases hcn with (hcn | hcn) | hcn
              · rw [hcn] at HC
                clear hnm hcn hq0
                go_wp2_with (go_at_call 53; (refine (HC.out _).mono ?_); rintro e w1 ⟨rfl, rfl⟩)
                go_roundw
                case rel => exact ⟨k + 1, by go_num, by omega, HT2, by first | rfl | trivial⟩
                case measure => simp [intOf]; omega
              · rw [hcn] at HC
                clear hnm hcn hq0
                go_wp2_with (go_at_call 53; (refine (HC.out _).mono ?_); rintro e w1 ⟨rfl, rfl⟩)
                go_roundw
                case rel => exact ⟨k + 1, by go_num, by omega, HT2, by first | rfl | trivial⟩
                case measure => simp [intOf]; omega
              · rw [hcn] at HC
                clear hnm hcn hq0
                go_wp2_with (go_at_call 53; (refine (HC.out _).mono ?_); rintro e w1 ⟨rfl, rfl⟩)
                go_roundw
                case rel => exact ⟨k + 1, by go_num, by omega, HT2, by first | rfl | trivial⟩
                case measure => simp [intOf]; omega
          · have dz : ¬ (k : Int) < (s.size : Int) := by omega
            have HT2 := HT.out
            rw [List.drop_eq_nil_of_le (by rw [data_len]; omega)] at HT2
            have hr : true = R := HT2
            subst hr
            go_wp2_with fail
            go_ret
            exact ⟨rfl, rfl⟩
end Go.Proofs.Ytjnlimahcodomaa.lx
