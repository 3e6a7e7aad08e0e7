/- Numerals of the document, walked. -/
import Derived.Test.YtpkkhbmlclicfaaDoorValueF
import Derived.Test.YtpkkhbmlclicfaaDoorValueK
import Derived.LoopTactic
import Derived.Outline
namespace Go.Proofs.YtpkkhbmlclicfaaDoor.val
set_option linter.unusedVariables false
open Go.RowKit

theorem dig_str (u : Nat) (out : List UInt8) : strOfNums [((48 + u % 10 : Nat) : Int)] ++ (⟨out.toArray⟩ : ByteArray) = ⟨(dig u :: out).toArray⟩ := by
  have e : strOfNums [((48 + u % 10 : Nat) : Int)] = ⟨#[dig u]⟩ := by
    unfold strOfNums dig
    rw [List.map_cons, List.map_nil, Int.toNat_natCast]
  rw [e]
  apply ByteArray.ext
  simp
theorem dig_len {n u : Nat} {out : List UInt8} (hn : n ≤ 9223372036854775808) (h : u * 10 ^ out.length ≤ n) (h0 : u = 0 → out = []) : out.length ≤ 18 := by
  by_cases hu : u = 0
  · rw [h0 hu]; decide
  · have h1 : 10 ^ out.length ≤ n := Nat.le_trans (Nat.le_mul_of_pos_left _ (by omega)) h
    have h2 : (10 : Nat) ^ out.length < 10 ^ 19 := by have : (10 : Nat) ^ 19 = 10000000000000000000 := by decide
                                                      omega
    have := (Nat.pow_lt_pow_iff_right (by decide : 1 < 10)).1 h2
    omega
theorem dig_next {n u : Nat} {out : List UInt8} (c : UInt8) (h : u * 10 ^ out.length ≤ n) : (u / 10) * 10 ^ (c :: out).length ≤ n := by
  rw [List.length_cons, Nat.pow_succ, Nat.mul_comm (10 ^ _) 10, ← Nat.mul_assoc]
  exact Nat.le_trans (Nat.mul_le_mul_right _ (Nat.div_mul_le_self u 10)) h
/-- ahead of a round -/
structure DL (n u : Nat) (out : List UInt8) (S : ByteArray) : Prop where
  dig : Dig n u out
  bd : u * 10 ^ out.length ≤ n
  nil : u = 0 → out = []
  str : S = ⟨out.toArray⟩
theorem DL.size {n u : Nat} {out : List UInt8} {S : ByteArray} (h : DL n u out S) (hn : n ≤ 9223372036854775808) : S.size ≤ 18 := by
  have := dig_len hn h.bd h.nil
  rw [h.str]; exact this
theorem DL.next {n u : Nat} {out : List UInt8} {S : ByteArray} (h : DL n u out S) (hu : u / 10 ≠ 0) : DL n (u / 10) (val.dig u :: out) (strOfNums [((48 + u % 10 : Nat) : Int)] ++ S) :=
  ⟨h.dig.step hu, dig_next _ h.bd, fun e => absurd e hu, by rw [h.str]; exact dig_str u out⟩
theorem DL.done {n u : Nat} {out : List UInt8} {S : ByteArray} (h : DL n u out S) (hu : u / 10 = 0) : strOfNums [((48 + u % 10 : Nat) : Int)] ++ S = ⟨(Lib.decDigits n).toArray⟩ := by
  rw [h.dig.done hu, h.str]; exact dig_str u out
theorem conv1 (wr : World) (x : Int) : (convert 96 9 (.slice (some ⟨wr.heap.size, 0, none⟩) 1 1)).run Tryd.prog (wr.alloc (.cells #[.int .u8 x] 5)) = .ok (.string (strOfNums [x])) (wr.alloc (.cells #[.int .u8 x] 5)) :=
  run_convert_block wr _ _ _ 5 Tryd.underlying96 Tryd.underlying5 Tryd.underlying9 [x] 1
theorem emp_app (x : ByteArray) : (⟨#[]⟩ : ByteArray) ++ x = x := by apply ByteArray.ext; simp
theorem num1_size (x : Int) : (strOfNums [x]).size = 1 := rfl

set_option maxRecDepth 100000 in
set_option maxHeartbeats 2000000 in
theorem digits_pos (n : Nat) (hn : n ≤ 9223372036854775807) (W : World) :
    Calls Tryd.prog 53 #[.int .i64 (n : Int)] W fun e w' => e = .returned (.string ⟨(Lib.decDigits n).toArray⟩) ∧ Below W.heap.size W w' := by
  go_enter Tryd.func53, Tryd.ntmps53
  go_wp2
  go_loopw [0, 4] (fun m o wr => ∃ (u : Nat) (out : List UInt8) (S : ByteArray), u ≤ 9223372036854775807 ∧ m = .int .i64 (u : Int) ∧ o = .string S ∧ Hid (DL n u out S) ∧ Hid (Below W.heap.size W wr)) (fun m _ _ => (intOf m).toNat)
  case atStart => exact ⟨n, [], ⟨#[]⟩, hn, rfl, rfl, Lib.hid ⟨Dig.start n, by simp, fun _ => rfl, rfl⟩, Lib.hid (Below.refl _ _)⟩
  case round =>
    obtain ⟨u, out, S, hu, rfl, rfl, hD, hB⟩ := hrel
    have hsz := hD.out.size (by omega)
    have hcv := conv1 wr (48 + (u : Int) % 10)
    have hxc : (48 + (u : Int) % 10) = ((48 + u % 10 : Nat) : Int) := by omega
    have hts := num1_size (48 + (u : Int) % 10)
    obtain ⟨T, hT⟩ : ∃ T, strOfNums [48 + (u : Int) % 10] = T := ⟨_, rfl⟩
    rw [hT] at hcv hts
    rw [hxc] at hT
    have HT := Lib.hid hT
    have t1 : T.size ≤ 1 := by omega
    clear hxc hT hts
    by_cases h0 : u / 10 = 0
    · have q0 : ((u : Int) / 10 == 0) = true := by simp; omega
      have HE := Lib.hid (hD.out.done h0)
      rw [HT.out] at HE
      clear h0
      go_wp2
      go_ret
      exact ⟨(ret_str (emp_app (T ++ S))).trans (ret_str HE.out), hB.out.alloc hB.out.size _⟩
    · have q0 : ((u : Int) / 10 == 0) = false := by simp; omega
      have HE := Lib.hid (hD.out.next h0)
      rw [HT.out] at HE
      have h10 : u / 10 < u := by omega
      clear h0
      go_wp2
      refine ⟨⟨u / 10, _, _, by omega, by go_num, rfl, HE, Lib.hid (hB.out.alloc hB.out.size _)⟩, ?_⟩
      simp [intOf]; omega

theorem minus_str (x : ByteArray) (l : List UInt8) (h : x = ⟨l.toArray⟩) : (⟨#[45]⟩ : ByteArray) ++ x = ⟨(45 :: l).toArray⟩ := by
  subst h; apply ByteArray.ext; simp
set_option maxRecDepth 100000 in
set_option maxHeartbeats 4000000 in
theorem digits_neg (n : Nat) (hn : n ≤ 9223372036854775808) (h1 : 1 ≤ n) (W : World) :
    Calls Tryd.prog 53 #[.int .i64 (-(n : Int))] W fun e w' => e = .returned (.string ⟨(45 :: Lib.decDigits n).toArray⟩) ∧ Below W.heap.size W w' := by
  go_enter Tryd.func53, Tryd.ntmps53
  go_wp2
  go_loopw [0, 4] (fun m o wr => ∃ (u : Nat) (out : List UInt8) (S : ByteArray), u ≤ 9223372036854775808 ∧ m = .int .i64 (-(u : Int)) ∧ o = .string S ∧ Hid (DL n u out S) ∧ Hid (Below W.heap.size W wr)) (fun m _ _ => (-(intOf m)).toNat)
  case atStart => exact ⟨n, [], ⟨#[]⟩, hn, rfl, rfl, Lib.hid ⟨Dig.start n, by simp, fun _ => rfl, rfl⟩, Lib.hid (Below.refl _ _)⟩
  case round =>
    obtain ⟨u, out, S, hu, rfl, rfl, hD, hB⟩ := hrel
    have hsz := hD.out.size hn
    have e1 := neg_tmod10 u
    have e2 := neg_tdiv10 u
    have HX := Lib.hid (num1_size ((48 + u % 10 : Nat) : Int))
    have HN := Lib.hid (fun h => hD.out.next h)
    have HD := Lib.hid (fun h => hD.out.done h)
    have hu1 : u / 10 ≤ u := Nat.div_le_self _ _
    have hu2 : u / 10 ≠ 0 → u / 10 < u := fun h => by omega
    have HU := Lib.hid hu2
    have r9 : u % 10 ≤ 9 := by omega
    clear hD hu2
    generalize u % 10 = r at *
    generalize u / 10 = q at *
    obtain ⟨T, hT⟩ : ∃ T, strOfNums [((48 + r : Nat) : Int)] = T := ⟨_, rfl⟩
    have hcv := conv1 wr ((48 + r : Nat) : Int)
    rw [hT] at HX HN HD hcv
    rw [show ((48 + r : Nat) : Int) = 48 + (r : Int) by omega] at hcv
    have t1 : T.size ≤ 1 := by have := HX.out; omega
    clear hT HX
    by_cases h0 : q = 0
    · subst h0
      have HE := Lib.hid (HD.out rfl)
      clear HN HD HU
      by_cases hr : r = 0
      · subst hr
        simp at e1 e2 hcv
        go_wp2
        go_ret
        exact ⟨ret_str (minus_str _ _ HE.out), hB.out.alloc hB.out.size _⟩
      · have r1 : 1 ≤ r := by omega
        simp at e2
        go_wp2
        go_ret
        exact ⟨ret_str (minus_str _ _ HE.out), hB.out.alloc hB.out.size _⟩
    · have q1 : 1 ≤ q := by omega
      have HE := Lib.hid (HN.out h0)
      have h10 := HU.out h0
      clear HN HD HU
      by_cases hr : r = 0
      · subst hr
        simp at e1 hcv
        go_wp2
        exact ⟨⟨q, _, _, by omega, by first | rfl | go_num, rfl, HE, Lib.hid (hB.out.alloc hB.out.size _)⟩, by simp [intOf]; omega⟩
      · have r1 : 1 ≤ r := by omega
        go_wp2
        exact ⟨⟨q, _, _, by omega, by first | rfl | go_num, rfl, HE, Lib.hid (hB.out.alloc hB.out.size _)⟩, by simp [intOf]; omega⟩

theorem digits_ref (n : Int) (h : -9223372036854775808 ≤ n ∧ n ≤ 9223372036854775807) (W : World) :
    Calls Tryd.prog 53 #[.int .i64 n] W fun e w' => e = .returned (.string ⟨(Lib.itoa n).toArray⟩) ∧ Below W.heap.size W w' := by
  unfold Lib.itoa
  by_cases hn : n < 0
  · rw [if_pos hn]
    have := digits_neg n.natAbs (by omega) (by omega) W
    rw [show -((n.natAbs : Nat) : Int) = n by omega] at this
    exact this
  · rw [if_neg hn]
    have := digits_pos n.toNat (by omega) W
    rw [show ((n.toNat : Nat) : Int) = n by omega] at this
    exact this

end Go.Proofs.YtpkkhbmlclicfaaDoor.val
