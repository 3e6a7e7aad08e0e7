/- Wide numbers by two texts: the program's halves and the document's bits. No walk. -/
import Derived.Test.YtdobihnlegfkaaaRef21
namespace Go.Proofs.Ytdobihnlegfkaaa.wb
set_option linter.unusedVariables false
open Go.RowKit wide

/-- a number's halves, and its residue, as naturals -/
def hN (v : Int) : Nat := (hiW v % 18446744073709551616).toNat
def lN (v : Int) : Nat := (loW v).toNat
def nv (v : Int) : Nat := (v % 340282366920938463463374607431768211456).toNat
theorem nv_eq (v : Int) : 2 ^ 64 * hN v + lN v = nv v := by
  unfold hN lN nv
  have h1 := hiW_bd v
  have h2 := loW_bd v
  unfold hiW loW at *
  rw [wrap64_eq] at *
  have e : (2 : Nat) ^ 64 = 18446744073709551616 := by decide
  rw [e]; omega
theorem hN_lt (v : Int) : hN v < 2 ^ 64 := by unfold hN; have e : (2 : Nat) ^ 64 = 18446744073709551616 := by decide
                                              rw [e]; omega
theorem lN_lt (v : Int) : lN v < 2 ^ 64 := by unfold lN; have h2 := loW_bd v; have e : (2 : Nat) ^ 64 = 18446744073709551616 := by decide
                                              rw [e]; omega
theorem hN_wrap (v : Int) : IntKind.u64.wrap (hiW v) = (hN v : Int) := by unfold hN; rw [IntKind.wrap_u64]; omega
theorem lN_cast (v : Int) : (lN v : Int) = loW v := by unfold lN; have h2 := loW_bd v; omega
theorem of_nv (v : Int) (W : World) : Calls Try.prog 25 #[.int .i64 (hiW v), .int .u64 (loW v)] W fun e w' => e = .returned (.agg (row (nv v))) ∧ Below W.heap.size W w' := by
  have := of_ref (hN v) (lN v) (hN_lt v) (lN_lt v) (hiW v) (hN_wrap v) W
  rw [lN_cast, nv_eq] at this
  exact this
/-- the document's sum -/
def ms (l : List Int) : Nat := (l.map nv).sum
theorem ms_nil : ms [] = 0 := rfl
theorem ms_snoc (l : List Int) (v : Int) : ms (l ++ [v]) = ms l + nv v := by simp [ms]
theorem ms_mod (l : List Int) : ((ms l : Nat) : Int) % 340282366920938463463374607431768211456 = l.sum % 340282366920938463463374607431768211456 := by
  induction l with
  | nil => rfl
  | cons v l ih =>
    have e : ms (v :: l) = nv v + ms l := by simp [ms]
    rw [e, List.sum_cons]
    have : ((nv v : Nat) : Int) = v % 340282366920938463463374607431768211456 := by unfold nv; omega
    omega
theorem ms_lo (l : List Int) : ((loN (ms l) : Nat) : Int) = loW l.sum := by
  have h := ms_mod l
  unfold loN loW
  have e : (2 : Nat) ^ 64 = 18446744073709551616 := by decide
  rw [e]; omega
theorem ms_hi (l : List Int) : wrap64 ((hiN (ms l) : Nat) : Int) = hiW l.sum := by
  have h := ms_mod l
  unfold hiN hiW
  have e : (2 : Nat) ^ 64 = 18446744073709551616 := by decide
  rw [e, wrap64_eq, wrap64_eq]; omega

theorem top_bit (n : Nat) (h : n < 18446744073709551616) : n.testBit 63 = decide (9223372036854775808 ≤ n) := by
  rw [Nat.testBit_eq_decide_div_mod_eq, decide_eq_decide]
  have e : (2 : Nat) ^ 63 = 9223372036854775808 := by decide
  rw [e]; omega
theorem all_same (n : Nat) (h : n < 2 ^ 64) (b : Bool) : (∀ i, i < 64 → n.testBit i = b) ↔ n = if b then 2 ^ 64 - 1 else 0 := by
  constructor
  · intro hh
    apply Nat.eq_of_testBit_eq
    intro i
    by_cases hi : i < 64
    · rw [hh i hi]; cases b
      · simp
      · rw [if_pos rfl, Nat.testBit_two_pow_sub_one, decide_eq_true hi]
    · rw [Nat.testBit_lt_two_pow (Nat.lt_of_lt_of_le h (Nat.pow_le_pow_right (by decide) (by omega)))]
      cases b
      · simp
      · rw [if_pos rfl, Nat.testBit_two_pow_sub_one, decide_eq_false hi]
  · rintro rfl i hi
    cases b
    · simp
    · rw [if_pos rfl, Nat.testBit_two_pow_sub_one, decide_eq_true hi]
theorem nv_hi (v : Int) : hiN (nv v) = hN v := by
  rw [← nv_eq]; unfold hiN
  have h1 := hN_lt v
  have h2 := lN_lt v
  rw [Nat.mul_add_div (by decide), Nat.div_eq_of_lt h2, Nat.add_zero, Nat.mod_eq_of_lt h1]
theorem nv_lo (v : Int) : loN (nv v) = lN v := by
  rw [← nv_eq]; unfold loN
  rw [Nat.mul_add_mod, Nat.mod_eq_of_lt (lN_lt v)]
theorem isInt_same (v : Int) : isIntN (nv v) = isInt (hiW v) (loW v) := by
  have hl := lN_lt v
  have hh := hN_lt v
  have e64 : (2 : Nat) ^ 64 = 18446744073709551616 := by decide
  have e1 : isIntN (nv v) = true ↔ hN v = if (lN v).testBit 63 then 2 ^ 64 - 1 else 0 := by
    rw [← all_same _ hh]
    unfold isIntN
    rw [List.all_eq_true]
    constructor
    · intro h i hi
      have := h i (by simpa using hi)
      rw [beq_iff_eq, hi_bit _ _ hi, nv_hi, lo_bit (nv v) 63 (by decide), nv_lo] at this
      exact this
    · intro h i hi
      have hi : i < 64 := by simpa using hi
      rw [beq_iff_eq, hi_bit _ _ hi, nv_hi, lo_bit (nv v) 63 (by decide), nv_lo]
      exact h i hi
  rw [Bool.eq_iff_iff, e1, top_bit _ (by rw [← e64]; exact hl)]
  unfold isInt
  rw [Bool.and_eq_true, beq_iff_eq, beq_iff_eq]
  have h1 := hiW_bd v
  have h2 := loW_bd v
  have a1 : ((hN v : Nat) : Int) = hiW v % 18446744073709551616 := by unfold hN; omega
  have a2 := lN_cast v
  generalize hiW v = h at *
  generalize loW v = l at *
  generalize hN v = H at *
  generalize lN v = L at *
  rw [e64]
  unfold hiW loW
  rw [wrap64_eq, wrap64_eq]
  by_cases hc : 9223372036854775808 ≤ L
  · rw [decide_eq_true hc, if_pos rfl]; omega
  · rw [decide_eq_false hc, if_neg (by decide)]; omega
theorem int_same (v : Int) : intN (nv v) = if isInt (hiW v) (loW v) then wrap64 (loW v) else 0 := by
  unfold intN; rw [isInt_same, nv_lo, lN_cast]

/-- the key of a number -/
def keyB (v : Int) : ByteArray := strOfNums (be8I (IntKind.u64.wrap (hiW v)) ++ be8I (loW v))
theorem keyB_list (v : Int) : (keyB v).data.toList = beD 8 (hN v) ++ beD 8 (lN v) := by
  unfold keyB
  rw [strOfNums_append, hN_wrap, ← lN_cast, be8I_eq, be8I_eq]
theorem keyB_size (v : Int) : (keyB v).size = 16 := by
  have h : (keyB v).data.toList.length = 16 := by rw [keyB_list, List.length_append, beD_length, beD_length]
  exact h
theorem keyB_hi (v : Int) : wrap64 (hiK (keyB v)) = hiW v := by
  unfold hiK
  rw [keyB_list, List.drop_zero, List.take_append_of_le_length (by rw [beD_length]; decide), List.take_of_length_le (by rw [beD_length]; decide), beVal_beD]
  have e : (256 : Nat) ^ 8 = 18446744073709551616 := by decide
  have h := hN_lt v
  have e64 : (2 : Nat) ^ 64 = 18446744073709551616 := by decide
  rw [e64] at h
  have h1 := hiW_bd v
  rw [e, Nat.mod_eq_of_lt h]
  unfold hN
  rw [wrap64_eq]; omega
theorem keyB_lo (v : Int) : loK (keyB v) = loW v := by
  unfold loK
  rw [keyB_list, List.drop_append_of_le_length (by rw [beD_length]; decide), List.drop_of_length_le (by rw [beD_length]; decide), List.nil_append, List.take_of_length_le (by rw [beD_length]; decide), beVal_beD]
  have e : (256 : Nat) ^ 8 = 18446744073709551616 := by decide
  have h := lN_lt v
  have e64 : (2 : Nat) ^ 64 = 18446744073709551616 := by decide
  rw [e64] at h
  rw [e, Nat.mod_eq_of_lt h, lN_cast]
theorem key_of (v : Int) (W : World) : Calls Try.prog 30 #[agg v] W fun e w' => e = .returned (.string (keyB v)) ∧ Below W.heap.size W w' :=
  key_raw (hiW v) (loW v) (loW_bd v) W
theorem get_of (v : Int) (W : World) : Calls Try.prog 29 #[.string (keyB v)] W fun e w' => e = .returned (.tuple #[agg v, .int .i64 0]) ∧ Below W.heap.size W w' := by
  have := get_yes (keyB v) (keyB_size v) W
  rw [keyB_hi, keyB_lo] at this
  exact this
theorem int_of (v : Int) (W : World) : Calls Try.prog 27 #[agg v] W fun e w' => e = .returned (.tuple #[.int .i64 (intN (nv v)), .bool (isIntN (nv v))]) ∧ Below W.heap.size W w' := by
  have := int_any (hiW v) (loW v) (loW_bd v) W
  rw [← int_same, ← isInt_same] at this
  exact this
theorem halves_of (l : List Int) (W : World) : Calls Try.prog 32 #[.agg (row (ms l))] W fun e w' => e = .returned (.tuple #[.int .i64 (hiW l.sum), .int .u64 (loW l.sum)]) ∧ Below W.heap.size W w' := by
  have := halves_ref (ms l) W
  rw [ms_hi, ms_lo] at this
  exact this
end Go.Proofs.Ytdobihnlegfkaaa.wb
