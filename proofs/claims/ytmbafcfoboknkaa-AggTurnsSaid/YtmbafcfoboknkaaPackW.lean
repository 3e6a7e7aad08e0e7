import Derived.Test.YtmbafcfoboknkaaRows
import Derived.Test.YtmbafcfoboknkaaStrb
import Derived.Test.YtmbafcfoboknkaaKit
import Derived.Test.YtmbafcfoboknkaaBytes
import Derived.WalkLawsBesides
namespace Go.Proofs.Ytmbafcfoboknkaa
set_option linter.unusedVariables false
open Go.RowKit
/-- an int64 as a uint64 that is ordered as it is -/
def uI (n : Int) : Int := IntKind.u64.wrap (IntKind.u64.wrap n + 9223372036854775808)
/-- its eight bytes, the greatest first, as the walk has them -/
def be8I (u : Int) : List Int := [u / 72057594037927936 % 256, u / 281474976710656 % 256, u / 1099511627776 % 256, u / 4294967296 % 256, u / 16777216 % 256, u / 65536 % 256, u / 256 % 256, u % 256]
theorem uI_eq (n : Int) (h : -9223372036854775808 ≤ n ∧ n ≤ 9223372036854775807) : uI n = ((n + 9223372036854775808).toNat : Int) := by
  unfold uI; rw [IntKind.wrap_u64, IntKind.wrap_u64]; omega
theorem digit_eq (u k m : Nat) (h : 256 ^ k = m) : UInt8.ofNat ((u : Int) / (m : Int) % 256).toNat = UInt8.ofNat (u / 256 ^ k % 256) := by
  rw [h, show ((u : Int) / (m : Int) % 256) = ((u / m % 256 : Nat) : Int) by rw [Int.natCast_emod, Int.natCast_ediv]; rfl, Int.toNat_natCast]
theorem be8I_eq (u : Nat) : strOfNums (be8I (u : Int)) = ⟨(beD 8 u).toArray⟩ := by
  have e : (be8I (u : Int)).map (fun n => UInt8.ofNat n.toNat) = beD 8 u := by
    rw [beD_cons, beD_cons, beD_cons, beD_cons, beD_cons, beD_cons, beD_cons, beD_cons, beD,
      ← digit_eq u 7 72057594037927936 rfl, ← digit_eq u 6 281474976710656 rfl, ← digit_eq u 5 1099511627776 rfl, ← digit_eq u 4 4294967296 rfl, ← digit_eq u 3 16777216 rfl, ← digit_eq u 2 65536 rfl, ← digit_eq u 1 256 rfl]
    have h0 : UInt8.ofNat ((u : Int) % 256).toNat = UInt8.ofNat (u / 256 ^ 0 % 256) := by
      rw [show ((u : Int) % 256) = ((u % 256 : Nat) : Int) by rw [Int.natCast_emod]; rfl, Int.toNat_natCast, Nat.pow_zero, Nat.div_one]
    rw [← h0]
    rfl
  unfold strOfNums
  rw [e]
theorem int_eq (n : Int) (h : -9223372036854775808 ≤ n ∧ n ≤ 9223372036854775807) : strOfNums (be8I (uI n)) = ⟨(intB n).toArray⟩ := by
  rw [uI_eq n h, be8I_eq]; rfl
theorem run_convert8 (w : World) (a0 a1 a2 a3 a4 a5 a6 a7 : Int) :
    (convert 23 9 (.slice (some ⟨w.heap.size, 0, none⟩) 8 8)).run Try.prog (w.alloc (.cells #[.int .u8 a0, .int .u8 a1, .int .u8 a2, .int .u8 a3, .int .u8 a4, .int .u8 a5, .int .u8 a6, .int .u8 a7] 133)) = .ok (.string (strOfNums [a0, a1, a2, a3, a4, a5, a6, a7])) (w.alloc (.cells #[.int .u8 a0, .int .u8 a1, .int .u8 a2, .int .u8 a3, .int .u8 a4, .int .u8 a5, .int .u8 a6, .int .u8 a7] 133)) :=
  run_convert_block w _ _ _ 133 Try.underlying23 Try.underlying5 Try.underlying9 [a0, a1, a2, a3, a4, a5, a6, a7] 8
set_option maxHeartbeats 400000 in
theorem packInt_any (n : Int) (hn : -9223372036854775808 ≤ n ∧ n ≤ 9223372036854775807) (w : World) :
    Calls Try.prog 46 #[.int .i64 n] w fun e w' => e = .returned (.string ⟨(intB n).toArray⟩) ∧ Below w.heap.size w w' := by
  have hcv := run_convert8
  have HE := Lib.hid (int_eq n hn); clear hn
  go_enter Try.func46, Try.ntmps46
  go_wp2
  refine wp_loop_rounds 9 ?_
  iterate 9
    rw [rounds_succ]
    go_wp2
  go_ret
  exact ⟨by rw [← HE.out]; rfl, (Below.refl _ _).alloc (Nat.le_refl _) _⟩
theorem run_convert1 (w : World) (x : Int) (T : TypeId) :
    (convert 23 9 (.slice (some ⟨w.heap.size, 0, none⟩) 1 1)).run Try.prog (w.alloc (.cells #[.int .u8 x] T)) = .ok (.string (strOfNums [x])) (w.alloc (.cells #[.int .u8 x] T)) :=
  run_convert_block w _ _ _ T Try.underlying23 Try.underlying5 Try.underlying9 [x] 1
end Go.Proofs.Ytmbafcfoboknkaa
