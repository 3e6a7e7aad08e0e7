/- How many bytes at the beginning of a text are of a class, walked. -/
import Derived.Test.YtkgfmjejcpjfiaaDoorLexA
namespace Go.Proofs.YtkgfmjejcpjfiaaDoor.lx
set_option linter.unusedVariables false
open Go.RowKit

theorem run_lt {α} (p : α → Bool) (l : List α) (n : Nat) (h : n < (l.takeWhile p).length) : ∃ h : n < l.length, p l[n] = true := by
  have hp := List.takeWhile_prefix p (l := l)
  have hl : n < l.length := Nat.lt_of_lt_of_le h hp.length_le
  refine ⟨hl, ?_⟩
  have ha := all_of_takeWhile p l
  rw [List.all_eq_true] at ha
  have := ha _ (List.getElem_mem h)
  rwa [hp.getElem h] at this
theorem run_end {α} (p : α → Bool) : ∀ (l : List α) (h : (l.takeWhile p).length < l.length), p l[(l.takeWhile p).length] = false
  | [], h => by simp at h
  | a :: l, h => by
    by_cases hp : p a = true
    · simp only [List.takeWhile_cons, if_pos hp, List.length_cons] at h ⊢
      exact run_end p l (by omega)
    · simp only [List.takeWhile_cons, if_neg hp, List.length_nil] at h ⊢
      simpa using hp
theorem data_len (s : ByteArray) : s.data.toList.length = s.size := by rw [← ByteArray.size_data]; simp
theorem data_at (s : ByteArray) (k : Nat) (h : k < s.size) (h' : k < s.data.toList.length) : s.data.toList[k] = s[k] := rfl
theorem run_le (p : UInt8 → Bool) (s : ByteArray) : (s.data.toList.takeWhile p).length ≤ s.size := by
  rw [← data_len]; exact (List.takeWhile_prefix p).length_le

set_option maxHeartbeats 1000000 in
theorem span_name (s : ByteArray) (hs : s.size ≤ 1099511627776) (W : World) : Calls Tryd.prog 18 #[.string s, .func (.func 19) #[] #[]] W fun e w' => e = .returned (.int .i64 ((s.data.toList.takeWhile nameB).length : Int)) ∧ W = w' := by
  have hd1 : (0 : Int) ≤ (s.size : Int) := by omega
  obtain ⟨N, hN⟩ : ∃ N, (s.data.toList.takeWhile nameB).length = N := ⟨_, rfl⟩
  have hle := run_le nameB s
  have h1 := run_lt nameB s.data.toList
  have h2 := run_end nameB s.data.toList
  rw [hN] at hle ⊢
  have H1 := Lib.hid h1
  have H2 := Lib.hid h2
  have HN := Lib.hid hN
  clear h1 h2 hN
  go_enter Tryd.func18, Tryd.ntmps18
  go_wp2
  go_loopw [5] (fun i wr => ∃ k : Nat, i = .int .i64 (k : Int) ∧ k ≤ N ∧ W = wr) (fun i _ => N - (intOf i).toNat)
  case atStart => exact ⟨0, rfl, Nat.zero_le _, rfl⟩
  case round =>
    obtain ⟨k, rfl, hk, rfl⟩ := hrel
    have hd0 : (0 : Int) ≤ (k : Int) := by omega
    by_cases hz : k < s.size
    · have dz : (k : Int) < (s.size : Int) := by omega
      have hl : k < s.data.toList.length := by rw [data_len]; exact hz
      by_cases hk2 : k < N
      · obtain ⟨_, hp⟩ := H1.out k (by rw [HN.out]; exact hk2)
        rw [data_at s k hz] at hp
        have HC := inName_any s[k] W
        rw [hp] at HC
        clear hp
        go_wp2_with (go_at_call 19; (with_reducible refine HC.mono ?_); rintro e w1 ⟨rfl, rfl⟩)
        go_roundw
        case rel => exact ⟨k + 1, by go_num, by omega, by first | rfl | trivial⟩
        case measure => simp [intOf]; omega
      · obtain rfl : k = N := by omega
        have hp : nameB s.data.toList[k] = false := by
          have h := H2.out
          simp only [HN.out] at h
          exact h hl
        rw [data_at s k hz] at hp
        have HC := inName_any s[k] W
        rw [hp] at HC
        clear hp
        go_wp2_with (go_at_call 19; (with_reducible refine HC.mono ?_); rintro e w1 ⟨rfl, rfl⟩)
        go_ret
        exact ⟨rfl, rfl⟩
    · have dz : ¬ (k : Int) < (s.size : Int) := by omega
      obtain rfl : k = N := by omega
      go_wp2_with fail
      go_ret
      exact ⟨rfl, rfl⟩

set_option maxHeartbeats 1000000 in
theorem span_up (s : ByteArray) (hs : s.size ≤ 1099511627776) (W : World) : Calls Tryd.prog 18 #[.string s, .func (.func 21) #[] #[]] W fun e w' => e = .returned (.int .i64 ((s.data.toList.takeWhile upB).length : Int)) ∧ W = w' := by
  have hd1 : (0 : Int) ≤ (s.size : Int) := by omega
  obtain ⟨N, hN⟩ : ∃ N, (s.data.toList.takeWhile upB).length = N := ⟨_, rfl⟩
  have hle := run_le upB s
  have h1 := run_lt upB s.data.toList
  have h2 := run_end upB s.data.toList
  rw [hN] at hle ⊢
  have H1 := Lib.hid h1
  have H2 := Lib.hid h2
  have HN := Lib.hid hN
  clear h1 h2 hN
  go_enter Tryd.func18, Tryd.ntmps18
  go_wp2
  go_loopw [5] (fun i wr => ∃ k : Nat, i = .int .i64 (k : Int) ∧ k ≤ N ∧ W = wr) (fun i _ => N - (intOf i).toNat)
  case atStart => exact ⟨0, rfl, Nat.zero_le _, rfl⟩
  case round =>
    obtain ⟨k, rfl, hk, rfl⟩ := hrel
    have hd0 : (0 : Int) ≤ (k : Int) := by omega
    by_cases hz : k < s.size
    · have dz : (k : Int) < (s.size : Int) := by omega
      have hl : k < s.data.toList.length := by rw [data_len]; exact hz
      by_cases hk2 : k < N
      · obtain ⟨_, hp⟩ := H1.out k (by rw [HN.out]; exact hk2)
        rw [data_at s k hz] at hp
        have HC := upper_any s[k] W
        rw [hp] at HC
        clear hp
        go_wp2_with (go_at_call 21; (with_reducible refine HC.mono ?_); rintro e w1 ⟨rfl, rfl⟩)
        go_roundw
        case rel => exact ⟨k + 1, by go_num, by omega, by first | rfl | trivial⟩
        case measure => simp [intOf]; omega
      · obtain rfl : k = N := by omega
        have hp : upB s.data.toList[k] = false := by
          have h := H2.out
          simp only [HN.out] at h
          exact h hl
        rw [data_at s k hz] at hp
        have HC := upper_any s[k] W
        rw [hp] at HC
        clear hp
        go_wp2_with (go_at_call 21; (with_reducible refine HC.mono ?_); rintro e w1 ⟨rfl, rfl⟩)
        go_ret
        exact ⟨rfl, rfl⟩
    · have dz : ¬ (k : Int) < (s.size : Int) := by omega
      obtain rfl : k = N := by omega
      go_wp2_with fail
      go_ret
      exact ⟨rfl, rfl⟩

set_option maxHeartbeats 1000000 in
theorem span_dig (s : ByteArray) (hs : s.size ≤ 1099511627776) (W : World) : Calls Tryd.prog 18 #[.string s, .func (.func 22) #[] #[]] W fun e w' => e = .returned (.int .i64 ((s.data.toList.takeWhile digB).length : Int)) ∧ W = w' := by
  have hd1 : (0 : Int) ≤ (s.size : Int) := by omega
  obtain ⟨N, hN⟩ : ∃ N, (s.data.toList.takeWhile digB).length = N := ⟨_, rfl⟩
  have hle := run_le digB s
  have h1 := run_lt digB s.data.toList
  have h2 := run_end digB s.data.toList
  rw [hN] at hle ⊢
  have H1 := Lib.hid h1
  have H2 := Lib.hid h2
  have HN := Lib.hid hN
  clear h1 h2 hN
  go_enter Tryd.func18, Tryd.ntmps18
  go_wp2
  go_loopw [5] (fun i wr => ∃ k : Nat, i = .int .i64 (k : Int) ∧ k ≤ N ∧ W = wr) (fun i _ => N - (intOf i).toNat)
  case atStart => exact ⟨0, rfl, Nat.zero_le _, rfl⟩
  case round =>
    obtain ⟨k, rfl, hk, rfl⟩ := hrel
    have hd0 : (0 : Int) ≤ (k : Int) := by omega
    by_cases hz : k < s.size
    · have dz : (k : Int) < (s.size : Int) := by omega
      have hl : k < s.data.toList.length := by rw [data_len]; exact hz
      by_cases hk2 : k < N
      · obtain ⟨_, hp⟩ := H1.out k (by rw [HN.out]; exact hk2)
        rw [data_at s k hz] at hp
        have HC := digit_any s[k] W
        rw [hp] at HC
        clear hp
        go_wp2_with (go_at_call 22; (with_reducible refine HC.mono ?_); rintro e w1 ⟨rfl, rfl⟩)
        go_roundw
        case rel => exact ⟨k + 1, by go_num, by omega, by first | rfl | trivial⟩
        case measure => simp [intOf]; omega
      · obtain rfl : k = N := by omega
        have hp : digB s.data.toList[k] = false := by
          have h := H2.out
          simp only [HN.out] at h
          exact h hl
        rw [data_at s k hz] at hp
        have HC := digit_any s[k] W
        rw [hp] at HC
        clear hp
        go_wp2_with (go_at_call 22; (with_reducible refine HC.mono ?_); rintro e w1 ⟨rfl, rfl⟩)
        go_ret
        exact ⟨rfl, rfl⟩
    · have dz : ¬ (k : Int) < (s.size : Int) := by omega
      obtain rfl : k = N := by omega
      go_wp2_with fail
      go_ret
      exact ⟨rfl, rfl⟩
end Go.Proofs.YtkgfmjejcpjfiaaDoor.lx
