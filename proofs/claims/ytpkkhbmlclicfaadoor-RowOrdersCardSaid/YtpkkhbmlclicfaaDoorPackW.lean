import Derived.Test.YtpkkhbmlclicfaaDoorRows
import Derived.Test.YtpkkhbmlclicfaaDoorStrb
import Derived.Test.YtpkkhbmlclicfaaDoorKit
import Derived.Test.YtpkkhbmlclicfaaDoorBytes
import Derived.WalkLawsBesides
namespace Go.Proofs.YtpkkhbmlclicfaaDoor
set_option linter.unusedVariables false
open Go.RowKit

/-- an int64 as a uint64 that is ordered as it is -/
def uI (n : Int) : Int := IntKind.u64.wrap (IntKind.u64.wrap n + 9223372036854775808)
/-- its eight bytes, the greatest first, as the walk has them -/
def be8I (u : Int) : List Int := [u / 72057594037927936 % 256, u / 281474976710656 % 256, u / 1099511627776 % 256, u / 4294967296 % 256, u / 16777216 % 256, u / 65536 % 256, u / 256 % 256, u % 256]
theorem uI_eq (n : Int) (h : -9223372036854775808 ≤ n ∧ n ≤ 9223372036854775807) : uI n = ((n + 9223372036854775808).toNat : Int) := by
  unfold uI; rw [IntKind.wrap_u64, IntKind.wrap_u64]; omega
theorem digit_eq (u k m : Nat) (h : 256 ^ k = m) : UInt8.ofNat ((u : Int) / (m : Int) % 256).toNat = UInt8.ofNat (u / 256 ^ k % 256) := by
  rw [h, show ((u : Int) / (m : Int) % 256) = ((u / m % 256 : Nat) : Int) by rw [Int.natCast_emod, Int.natCast_ediv]; rfl, Int.toNat_natCast]
theorem be8I_eq (u : Nat) : strOfNums (be8I (u : Int)) = ⟨(beD 8 u).toArray⟩ := by
  have e : (be8I (u : Int)).map (fun n => UInt8.ofNat n.toNat) = beD 8 u := by
    rw [beD_cons, beD_cons, beD_cons, beD_cons, beD_cons, beD_cons, beD_cons, beD_cons, beD,
      ← digit_eq u 7 72057594037927936 rfl, ← digit_eq u 6 281474976710656 rfl, ← digit_eq u 5 1099511627776 rfl, ← digit_eq u 4 4294967296 rfl, ← digit_eq u 3 16777216 rfl, ← digit_eq u 2 65536 rfl, ← digit_eq u 1 256 rfl]
    have h0 : UInt8.ofNat ((u : Int) % 256).toNat = UInt8.ofNat (u / 256 ^ 0 % 256) := by
      rw [show ((u : Int) % 256) = ((u % 256 : Nat) : Int) by rw [Int.natCast_emod]; rfl, Int.toNat_natCast, Nat.pow_zero, Nat.div_one]
    rw [← h0]
    rfl
  unfold strOfNums
  rw [e]
theorem int_eq (n : Int) (h : -9223372036854775808 ≤ n ∧ n ≤ 9223372036854775807) : strOfNums (be8I (uI n)) = ⟨(intB n).toArray⟩ := by
  rw [uI_eq n h, be8I_eq]; rfl

theorem run_convert8 (w : World) (a0 a1 a2 a3 a4 a5 a6 a7 : Int) :
    (convert 96 9 (.slice (some ⟨w.heap.size, 0, none⟩) 8 8)).run Tryd.prog (w.alloc (.cells #[.int .u8 a0, .int .u8 a1, .int .u8 a2, .int .u8 a3, .int .u8 a4, .int .u8 a5, .int .u8 a6, .int .u8 a7] 142)) = .ok (.string (strOfNums [a0, a1, a2, a3, a4, a5, a6, a7])) (w.alloc (.cells #[.int .u8 a0, .int .u8 a1, .int .u8 a2, .int .u8 a3, .int .u8 a4, .int .u8 a5, .int .u8 a6, .int .u8 a7] 142)) :=
  run_convert_block w _ _ _ 142 Tryd.underlying96 Tryd.underlying5 Tryd.underlying9 [a0, a1, a2, a3, a4, a5, a6, a7] 8

set_option maxHeartbeats 400000 in
theorem packInt_any (n : Int) (hn : -9223372036854775808 ≤ n ∧ n ≤ 9223372036854775807) (w : World) :
    Calls Tryd.prog 75 #[.int .i64 n] w fun e w' => e = .returned (.string ⟨(intB n).toArray⟩) ∧ Below w.heap.size w w' := by
  have hcv := run_convert8
  have HE := Lib.hid (int_eq n hn); clear hn
  go_enter Tryd.func75, Tryd.ntmps75
  go_wp2
  refine wp_loop_rounds 9 ?_
  iterate 9
    rw [rounds_succ]
    go_wp2
  go_ret
  exact ⟨by rw [← HE.out]; rfl, (Below.refl _ _).alloc (Nat.le_refl _) _⟩

set_option maxHeartbeats 400000 in
theorem getInt_no (s : ByteArray) (h : s.size ≠ 8) (w : World) :
    Calls Tryd.prog 77 #[.string s] w fun e w' => e = .returned (.tuple #[.int .i64 0, .bool false]) ∧ w = w' := by
  go_enter Tryd.func77, Tryd.ntmps77
  go_wp2
  go_ret2
  exact ⟨rfl, rfl⟩

theorem beVal_take (s : ByteArray) (k : Nat) (h : s.size = 8) (hk : k < 8) : beVal (s.data.toList.take k) < 72057594037927936 := by
  have := beVal_lt (s.data.toList.take k)
  have hl : (s.data.toList.take k).length ≤ 7 := by rw [List.length_take]; omega
  have := Nat.pow_le_pow_right (show 1 ≤ 256 by decide) hl
  omega
theorem beVal_take_snoc (s : ByteArray) (k : Nat) (h : s.size = 8) (hk : k < s.size) :
    bits .or .u64 (IntKind.u64.wrap (↑(beVal (s.data.toList.take k)) * 256)) (IntKind.u64.wrap ↑s[k].toNat) = ((beVal (s.data.toList.take (k + 1)) : Nat) : Int) := by
  rw [take_snoc s k hk, beVal_snoc, or_byte _ _ (beVal_take s k h (by omega))]
/-- the number of eight bytes -/
def getIv (s : ByteArray) : Int := (beVal s.data.toList : Int) - 9223372036854775808
theorem getIv_wrap (s : ByteArray) (h : s.size = 8) (k : Nat) (hk : 8 ≤ k) : wrap64 (IntKind.u64.wrap (↑(beVal (s.data.toList.take k)) - 9223372036854775808)) = getIv s := by
  rw [take_all s k (by omega)]
  have := beVal_lt s.data.toList
  have hl : s.data.toList.length = 8 := by simpa using h
  rw [hl] at this
  unfold getIv wrap64
  rw [IntKind.wrap_u64]
  omega

set_option maxHeartbeats 400000 in
theorem getInt_yes (s : ByteArray) (h : s.size = 8) (w : World) :
    Calls Tryd.prog 77 #[.string s] w fun e w' => e = .returned (.tuple #[.int .i64 (getIv s), .bool true]) ∧ w = w' := by
  have h1 : (s.size != 8) = false := by simp [h]
  go_enter Tryd.func77, Tryd.ntmps77
  go_wp2
  go_loop [4, 9] (fun u i => ∃ k : Nat, k ≤ 8 ∧ i = .int .i64 k ∧ ∃ H : Nat, u = .int .u64 H ∧ Hid (H = beVal (s.data.toList.take k))) (fun _ i => 8 - (intOf i).toNat)
  case atStart => exact ⟨0, Nat.zero_le _, rfl, 0, rfl, rfl⟩
  case round =>
    obtain ⟨k, hk, rfl, H, rfl, hH⟩ := hrel
    by_cases hlt : k < 8
    · have hks : k < s.size := by omega
      have HB := Lib.hid (beVal_take_snoc s k h hks)
      rw [← hH.out] at HB
      go_wp2
      go_round
      case rel => exact ⟨k + 1, by omega, by go_num, _, by rw [HB.out], rfl⟩
      case measure => simp [intOf]; omega
    · have HB := Lib.hid (getIv_wrap s h k (by omega))
      rw [← hH.out] at HB
      go_wp2
      go_ret2
      exact ⟨by rw [← HB.out]; rfl, rfl⟩

theorem run_convert1 (w : World) (x : Int) (T : TypeId) :
    (convert 96 9 (.slice (some ⟨w.heap.size, 0, none⟩) 1 1)).run Tryd.prog (w.alloc (.cells #[.int .u8 x] T)) = .ok (.string (strOfNums [x])) (w.alloc (.cells #[.int .u8 x] T)) :=
  run_convert_block w _ _ _ T Tryd.underlying96 Tryd.underlying5 Tryd.underlying9 [x] 1

theorem prep (u k : Nat) (l : List UInt8) : strOfNums [((u / 256 ^ k : Nat) : Int) % 256] ++ ⟨l.toArray⟩ = ⟨(UInt8.ofNat (u / 256 ^ k % 256) :: l).toArray⟩ := by
  unfold strOfNums
  rw [ByteArray.mk_append_mk]
  simp only [List.map_cons, List.map_nil, List.singleton_append]
  rw [show (((u / 256 ^ k : Nat) : Int) % 256) = ((u / 256 ^ k % 256 : Nat) : Int) by rw [Int.natCast_emod]; rfl, Int.toNat_natCast]

set_option maxHeartbeats 400000 in
theorem refInt_any (n : Int) (hn : -9223372036854775808 ≤ n ∧ n ≤ 9223372036854775807) (w : World) :
    Calls Tryd.prog 59 #[.int .i64 n] w fun e w' => e = .returned (.string ⟨(intB n).toArray⟩) ∧ Below w.heap.size w w' := by
  have hcv := run_convert1
  have hz1 : ∀ x, (strOfNums [x]).size = 1 := fun _ => rfl
  have HE := Lib.hid (uI_eq n hn); clear hn
  go_enter Tryd.func59, Tryd.ntmps59
  go_wp2
  go_loopw [3, 4, 5] (fun u o i wr => ∃ k : Nat, k ≤ 8 ∧ i = .int .i64 k ∧ (∃ H : Int, 0 ≤ H ∧ H < 18446744073709551616 ∧ u = .int .u64 H ∧ Hid (H = (((n + 9223372036854775808).toNat / 256 ^ k : Nat) : Int))) ∧ (∃ S : ByteArray, S.size = k ∧ o = .string S ∧ Hid (S = ⟨(beD k (n + 9223372036854775808).toNat).toArray⟩)) ∧ Below w.heap.size w wr) (fun _ _ i _ => 8 - (intOf i).toNat)
  case atStart => exact ⟨0, Nat.zero_le _, rfl, ⟨_, (wrap_u64_bd _).1, (wrap_u64_bd _).2, rfl, by show uI n = _; rw [HE.out]; simp⟩, ⟨_, rfl, rfl, rfl⟩, Below.refl _ _⟩
  case round =>
    obtain ⟨k, hk, rfl, ⟨H, hH0, hH1, rfl, hH⟩, ⟨S, hS0, rfl, hS⟩, hB⟩ := hrel
    by_cases hlt : k < 8
    · go_wp2
      go_roundw
      case rel => exact ⟨k + 1, by omega, by go_num, ⟨_, by omega, by omega, rfl, by rw [hH.out, Nat.pow_succ, ← Nat.div_div_eq_div_mul]; rfl⟩, ⟨_, by rw [ByteArray.size_append, hz1, hS0]; omega, rfl, by rw [hS.out, hH.out, beD_cons]; exact prep _ _ _⟩, hB.alloc hB.size _⟩
      case measure => simp [intOf]; omega
    · obtain rfl : k = 8 := by omega
      go_wp2
      go_ret
      exact ⟨by rw [hS.out]; rfl, hB⟩

end Go.Proofs.YtpkkhbmlclicfaaDoor
