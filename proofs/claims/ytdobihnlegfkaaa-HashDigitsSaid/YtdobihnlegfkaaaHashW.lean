import Derived.Test.YtdobihnlegfkaaaRows
import Derived.WalkKit
import Derived.WalkSpells
import Derived.WalkLawsBesides
import Derived.Lib.Hide
namespace Go.Proofs.Ytdobihnlegfkaaa
open Go.RowKit

theorem and3_u64 (x : Int) (h0 : 0 ≤ x) (h1 : x < 18446744073709551616) : bits .and .u64 x 3 = x % 4 := by
  rw [u64_and x 3 h0 h1 (by decide) (by decide)]
  rw [show (3 : Int).toNat = 3 from rfl, nat_mask2]; omega

/-- the digit of a sum at a level -/
def digitI (s l : Int) : Int := if l < 0 ∨ 31 < l then 0 else s / 2 ^ (2 * l).toNat % 4

theorem digitI_bd (s l : Int) : 0 ≤ digitI s l ∧ digitI s l ≤ 3 := by
  unfold digitI; split <;> omega

theorem digit_in (s l : Int) (h0 : 0 ≤ l) (h1 : l ≤ 31) (hs : 0 ≤ s) (hs' : s < 18446744073709551616) :
    wrap64 (bits BinOp.and IntKind.u64 (s / 2 ^ (2 * l).toNat) 3) = digitI s l := by
  have hp : (1 : Int) ≤ 2 ^ (2 * l).toNat := by exact_mod_cast Nat.one_le_two_pow
  have a : 0 ≤ s / 2 ^ (2 * l).toNat := Int.ediv_nonneg hs (by omega)
  have b : s / 2 ^ (2 * l).toNat ≤ s := Int.ediv_le_self _ hs
  rw [and3_u64 _ a (by omega)]
  rw [IntWalk.wrap64_in _ ⟨by omega, by omega⟩]
  unfold digitI; rw [if_neg (by omega)]

set_option maxHeartbeats 400000 in
theorem digit_any (s l : Int) (w : World) (hs : 0 ≤ s) (hs' : s < 18446744073709551616) (hl : -9223372036854775808 ≤ l ∧ l ≤ 9223372036854775807) :
    Calls Try.prog 22 #[.int .u64 s, .int .i64 l] w fun e w' => e = .returned (.int .i64 (digitI s l)) ∧ w = w' := by
  by_cases h0 : l < 0
  · have e : digitI s l = 0 := by unfold digitI; rw [if_pos (by omega)]
    have E := Lib.hid e; clear e
    go_enter Try.func22, Try.ntmps22
    go_wp2
    go_ret
    exact ⟨by rw [E.out]; rfl, rfl⟩
  · by_cases h1 : 31 < l
    · have e : digitI s l = 0 := by unfold digitI; rw [if_pos (by omega)]
      have E := Lib.hid e; clear e
      go_enter Try.func22, Try.ntmps22
      go_wp2
      go_ret
      exact ⟨by rw [E.out]; rfl, rfl⟩
    · have E := Lib.hid (digit_in s l (by omega) (by omega) hs hs')
      go_enter Try.func22, Try.ntmps22
      go_wp2
      go_ret
      exact ⟨by rw [← E.out]; rfl, rfl⟩


/-- one byte of the sum, as the walk spells it -/
def hStep (h : Int) (b : UInt8) : Int := IntKind.u64.wrap (bits BinOp.xor IntKind.u64 h (IntKind.u64.wrap ↑b.toNat) * 1099511628211)
def hEnd1 (h : Int) : Int := IntKind.u64.wrap (bits BinOp.xor IntKind.u64 h (h / 4294967296) * 11400714819323198485)
def hEnd (h : Int) : Int := bits BinOp.xor IntKind.u64 (hEnd1 h) (hEnd1 h / 536870912)
def hBody (n : Int) (l : List UInt8) : Int := l.foldl hStep (bits BinOp.xor IntKind.u64 n 14695981039346656037)
/-- the sum of a text -/
def sumI (n : Int) (l : List UInt8) : Int := hEnd (hBody n l)

theorem wrap_u64_bd (n : Int) : 0 ≤ IntKind.u64.wrap n ∧ IntKind.u64.wrap n < 18446744073709551616 := by
  rw [IntKind.wrap_u64]; omega
theorem bits_u64_bd (op : BinOp) (a b : Int) : 0 ≤ bits op .u64 a b ∧ bits op .u64 a b < 18446744073709551616 := by
  unfold bits; exact wrap_u64_bd _
theorem sumI_bd (n : Int) (l : List UInt8) : 0 ≤ sumI n l ∧ sumI n l < 18446744073709551616 := by
  unfold sumI hEnd; exact bits_u64_bd _ _ _
theorem tdiv_u64 (x : Int) (h0 : 0 ≤ x) (h1 : x < 18446744073709551616) : IntKind.u64.wrap (x.tdiv 536870912) = x / 536870912 := by
  rw [IntKind.wrap_u64, Int.tdiv_eq_ediv_of_nonneg h0]; omega
theorem hEnd_ref (H : Int) : bits BinOp.xor IntKind.u64 (IntKind.u64.wrap (bits BinOp.xor IntKind.u64 H (H / 4294967296) * 11400714819323198485))
      (IntKind.u64.wrap ((IntKind.u64.wrap (bits BinOp.xor IntKind.u64 H (H / 4294967296) * 11400714819323198485)).tdiv 536870912)) = hEnd H := by
  rw [tdiv_u64 _ (wrap_u64_bd _).1 (wrap_u64_bd _).2]; rfl
theorem take_snoc (s : ByteArray) (k : Nat) (h : k < s.size) : s.data.toList.take (k + 1) = s.data.toList.take k ++ [s[k]] := by
  rw [List.take_succ_eq_append_getElem (by simpa using h)]; rfl
theorem hBody_snoc (n : Int) (s : ByteArray) (k : Nat) (h : k < s.size) : hBody n (s.data.toList.take (k + 1)) = hStep (hBody n (s.data.toList.take k)) s[k] := by
  rw [take_snoc s k h, hBody, List.foldl_append]; rfl
theorem take_all (s : ByteArray) (k : Nat) (h : s.size ≤ k) : s.data.toList.take k = s.data.toList :=
  List.take_of_length_le (by simpa using h)
theorem ret_u64 {a b : Int} (h : a = b) : Ending.returned (.int .u64 a) = .returned (.int .u64 b) := by rw [h]

set_option maxHeartbeats 400000 in
theorem sum_any (n : Int) (s : ByteArray) (w : World) (hs : s.size ≤ 9223372036854775807) :
    Calls Try.prog 20 #[.int .u64 n, .string s] w fun e w' => e = .returned (.int .u64 (sumI n s.data.toList)) ∧ w = w' := by
  go_enter Try.func20, Try.ntmps20
  go_wp2
  go_loop [5, 11] (fun h i => ∃ k : Nat, k ≤ s.size ∧ i = .int .i64 k ∧ ∃ H : Int, h = .int .u64 H ∧ Hid (H = hBody n (s.data.toList.take k))) (fun _ i => s.size - (intOf i).toNat)
  case atStart => exact ⟨0, Nat.zero_le _, rfl, _, rfl, rfl⟩
  case round =>
    obtain ⟨k, hk, rfl, H, rfl, hH⟩ := hrel
    by_cases hlt : k < s.size
    · go_wp2
      go_round
      case rel => exact ⟨k + 1, by omega, by go_num, _, rfl, by rw [hBody_snoc n s k hlt, ← hH.out]; rfl⟩
      case measure => simp [intOf]; omega
    · go_wp2
      go_ret
      exact ⟨ret_u64 (by unfold sumI; rw [← take_all s k (by omega), ← hH.out]; rfl), rfl⟩

set_option maxHeartbeats 400000 in
theorem refsum_any (n : Int) (s : ByteArray) (w : World) (hs : s.size ≤ 9223372036854775807) :
    Calls Try.prog 21 #[.int .u64 n, .string s] w fun e w' => e = .returned (.int .u64 (sumI n s.data.toList)) ∧ w = w' := by
  go_enter Try.func21, Try.ntmps21
  go_wp2
  go_loop [5, 6] (fun h i => ∃ k : Nat, k ≤ s.size ∧ i = .int .i64 k ∧ ∃ H : Int, 0 ≤ H ∧ H < 18446744073709551616 ∧ h = .int .u64 H ∧ Hid (H = hBody n (s.data.toList.take k))) (fun _ i => s.size - (intOf i).toNat)
  case atStart => exact ⟨0, Nat.zero_le _, rfl, _, (bits_u64_bd _ _ _).1, (bits_u64_bd _ _ _).2, rfl, rfl⟩
  case round =>
    obtain ⟨k, hk, rfl, H, hH0, hH1, rfl, hH⟩ := hrel
    by_cases hlt : k < s.size
    · go_wp2
      go_round
      case rel => exact ⟨k + 1, by omega, by go_num, _, (wrap_u64_bd _).1, (wrap_u64_bd _).2, rfl, by rw [hBody_snoc n s k hlt, ← hH.out]; rfl⟩
      case measure => simp [intOf]; omega
    · go_wp2
      go_ret
      exact ⟨ret_u64 (by unfold sumI; rw [← take_all s k (by omega), ← hH.out]; exact hEnd_ref H), rfl⟩


theorem digitI_succ (s : Int) (k l : Nat) (h : k < l) : s / 4 ^ (l - k) = s / 4 / 4 ^ (l - (k + 1)) := by
  rw [Int.ediv_ediv_of_nonneg (by decide), show l - k = (l - (k + 1)) + 1 from by omega, Int.pow_succ, Int.mul_comm]
theorem digitI_four (s l : Int) (h0 : 0 ≤ l) (h1 : l ≤ 31) : digitI s l = s / 4 ^ l.toNat % 4 := by
  unfold digitI; rw [if_neg (by omega), show (2 * l).toNat = 2 * l.toNat from by omega, Int.pow_mul]; rfl

set_option maxHeartbeats 400000 in
theorem refdigit_any (s l : Int) (w : World) (hs : 0 ≤ s) (hs' : s < 18446744073709551616) (hl : -9223372036854775808 ≤ l ∧ l ≤ 9223372036854775807) :
    Calls Try.prog 23 #[.int .u64 s, .int .i64 l] w fun e w' => e = .returned (.int .i64 (digitI s l)) ∧ w = w' := by
  by_cases h0 : l < 0
  · have e : digitI s l = 0 := by unfold digitI; rw [if_pos (by omega)]
    have E := Lib.hid e; clear e
    go_enter Try.func23, Try.ntmps23
    go_wp2
    go_ret
    exact ⟨by rw [E.out]; rfl, rfl⟩
  · by_cases h1 : 31 < l
    · have e : digitI s l = 0 := by unfold digitI; rw [if_pos (by omega)]
      have E := Lib.hid e; clear e
      go_enter Try.func23, Try.ntmps23
      go_wp2
      go_ret
      exact ⟨by rw [E.out]; rfl, rfl⟩
    · obtain ⟨n, rfl⟩ : ∃ n : Nat, l = n := ⟨l.toNat, by omega⟩
      have E := Lib.hid (digitI_four s n (by omega) (by omega))
      go_enter Try.func23, Try.ntmps23
      go_wp2
      go_loop [0, 5] (fun h i => ∃ k : Nat, k ≤ n ∧ i = .int .i64 k ∧ ∃ H : Int, 0 ≤ H ∧ H < 18446744073709551616 ∧ h = .int .u64 H ∧ Hid (s / 4 ^ n = H / 4 ^ (n - k))) (fun _ i => n - (intOf i).toNat)
      case atStart => exact ⟨0, Nat.zero_le _, rfl, _, hs, hs', rfl, rfl⟩
      case round =>
        obtain ⟨k, hk, rfl, H, hH0, hH1, rfl, hH⟩ := hrel
        by_cases hlt : k < n
        · go_wp2
          go_round
          case rel => exact ⟨k + 1, by omega, by go_num, _, by omega, by omega, rfl, by rw [hH.out]; exact digitI_succ H k n hlt⟩
          case measure => simp [intOf]; omega
        · go_wp2
          go_ret
          obtain rfl : n = k := by omega
          exact ⟨by rw [E.out, show ((n : Nat) : Int).toNat = n from rfl, hH.out, Nat.sub_self, Int.pow_zero, Int.ediv_one]; rfl, rfl⟩

theorem sum_facts : (sumI 1 [97] != sumI 1 [98]) = true ∧ (sumI 0 [] != 0) = true := by decide +kernel

set_option maxHeartbeats 400000 in
theorem hash_speaks (w : World) :
    Calls Try.prog 19 #[] w fun e w' => e = .returned (.bool true) ∧ w = w' := by
  have d0 : digitI 6 0 = 2 := rfl
  have d1 : digitI 6 1 = 1 := rfl
  obtain ⟨s1, s2⟩ := sum_facts
  go_enter Try.func19, Try.ntmps19
  go_wp2_with (first | (go_at_call 22; refine (digit_any _ _ _ (by omega) (by omega) (by omega)).mono ?_; rintro e w' ⟨rfl, rfl⟩) | (go_at_call 20; refine (sum_any _ _ _ (by decide)).mono ?_; rintro e w' ⟨rfl, rfl⟩))
  go_ret
  exact ⟨rfl, rfl⟩

end Go.Proofs.Ytdobihnlegfkaaa
