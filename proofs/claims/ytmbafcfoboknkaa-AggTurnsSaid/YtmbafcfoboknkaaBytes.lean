/- Plain mathematics of bytes: a number in base 256, the greatest byte first; texts of one length are ordered as their numbers; packed texts. No program, no conditions beyond those that each statement names. -/
import Derived.WalkKit
import Derived.Lib.Strings
namespace Go.Proofs.Ytmbafcfoboknkaa
set_option linter.unusedVariables false
/-- the number of some bytes, the greatest first -/
def beVal (l : List UInt8) : Nat := l.foldl (fun u b => 256 * u + b.toNat) 0
/-- so many bytes of a number -/
def beD : Nat → Nat → List UInt8
  | 0, _ => []
  | k + 1, u => beD k (u / 256) ++ [UInt8.ofNat (u % 256)]
theorem beD_length (k u : Nat) : (beD k u).length = k := by
  induction k generalizing u with
  | zero => rfl
  | succ k ih => simp [beD, ih]
theorem beVal_snoc (l : List UInt8) (b : UInt8) : beVal (l ++ [b]) = 256 * beVal l + b.toNat := by
  unfold beVal; rw [List.foldl_append]; rfl
theorem foldl_be (l : List UInt8) (x : Nat) : l.foldl (fun u b => 256 * u + b.toNat) x = x * 256 ^ l.length + beVal l := by
  induction l generalizing x with
  | nil => simp [beVal]
  | cons b l ih =>
    unfold beVal
    rw [List.foldl_cons, List.foldl_cons, ih, ih (256 * 0 + b.toNat), List.length_cons, Nat.pow_succ, Nat.add_mul, Nat.add_mul]
    simp only [Nat.mul_zero, Nat.zero_mul, Nat.zero_add]
    rw [show 256 * x * 256 ^ l.length = x * (256 ^ l.length * 256) by rw [Nat.mul_comm 256 x, Nat.mul_assoc, Nat.mul_comm 256]]
    omega
theorem beVal_cons (b : UInt8) (l : List UInt8) : beVal (b :: l) = b.toNat * 256 ^ l.length + beVal l := by
  have h : beVal (b :: l) = l.foldl (fun u b => 256 * u + b.toNat) (256 * 0 + b.toNat) := rfl
  rw [h, foldl_be]; simp
theorem beVal_lt (l : List UInt8) : beVal l < 256 ^ l.length := by
  induction l with
  | nil => simp [beVal]
  | cons b l ih =>
    rw [beVal_cons, List.length_cons, Nat.pow_succ]
    have hb := b.toNat_lt
    have : b.toNat * 256 ^ l.length ≤ 255 * 256 ^ l.length := Nat.mul_le_mul_right _ (by omega)
    omega
theorem beVal_beD (k u : Nat) : beVal (beD k u) = u % 256 ^ k := by
  induction k generalizing u with
  | zero => simp [beD, beVal, Nat.mod_one]
  | succ k ih =>
    rw [beD, beVal_snoc, ih]
    have e : (UInt8.ofNat (u % 256)).toNat = u % 256 := by simp
    rw [e, Nat.pow_succ, Nat.mul_comm (256 ^ k) 256, Nat.mod_mul]
    omega
theorem beD_beVal (l : List UInt8) : beD l.length (beVal l) = l := by
  generalize hk : l.length = k
  induction k generalizing l with
  | zero => rw [List.length_eq_zero_iff.1 hk]; rfl
  | succ k ih =>
    obtain ⟨m, b, rfl⟩ : ∃ m b, l = m ++ [b] := ⟨l.dropLast, l.getLast (by intro h; simp [h] at hk), (List.dropLast_concat_getLast _).symm⟩
    have hm : m.length = k := by simpa using hk
    have hb := b.toNat_lt
    rw [beVal_snoc, beD, show (256 * beVal m + b.toNat) / 256 = beVal m by omega, show (256 * beVal m + b.toNat) % 256 = b.toNat by omega, ih m hm]
    simp
theorem beD_inj (k u v : Nat) (hu : u < 256 ^ k) (hv : v < 256 ^ k) (h : beD k u = beD k v) : u = v := by
  have := congrArg beVal h
  rwa [beVal_beD, beVal_beD, Nat.mod_eq_of_lt hu, Nat.mod_eq_of_lt hv] at this
theorem bytesLess_beVal : ∀ (l m : List UInt8), l.length = m.length → Op.bytesLess l m = decide (beVal l < beVal m)
  | [], [], _ => by simp [Op.bytesLess, beVal]
  | b :: l, c :: m, h => by
    have h' : l.length = m.length := by simpa using h
    have hl := beVal_lt l
    have hm := beVal_lt m
    rw [h'] at hl
    rw [beVal_cons, beVal_cons, h']
    have ih := bytesLess_beVal l m h'
    unfold Op.bytesLess
    rw [ih]
    rcases Nat.lt_trichotomy b.toNat c.toNat with hlt | heq | hgt
    · have h1 : b < c := UInt8.lt_iff_toNat_lt.2 hlt
      have h2 : (b.toNat + 1) * 256 ^ m.length ≤ c.toNat * 256 ^ m.length := Nat.mul_le_mul_right _ hlt
      rw [Nat.add_mul] at h2
      simp only [h1, decide_true, Bool.true_or]
      symm; rw [decide_eq_true_eq]; omega
    · have h1 : b = c := UInt8.toNat_inj.1 heq
      subst h1
      simp
    · have h1 : ¬ b < c := fun h => by have := UInt8.lt_iff_toNat_lt.1 h; omega
      have h2 : (b == c) = false := by rw [beq_eq_false_iff_ne]; rintro rfl; omega
      have h3 : (c.toNat + 1) * 256 ^ m.length ≤ b.toNat * 256 ^ m.length := Nat.mul_le_mul_right _ hgt
      rw [Nat.add_mul] at h3
      simp only [h1, h2, decide_false, Bool.false_or, Bool.false_and]
      symm; rw [decide_eq_false_iff_not]; omega
  | [], _ :: _, h => by simp at h
  | _ :: _, [], h => by simp at h
theorem beD_cons (k u : Nat) : beD (k + 1) u = UInt8.ofNat (u / 256 ^ k % 256) :: beD k u := by
  induction k generalizing u with
  | zero => simp [beD]
  | succ k ih =>
    rw [beD, ih (u / 256), Nat.div_div_eq_div_mul, ← Nat.pow_succ', List.cons_append]
    rfl
/-- an int64 as eight bytes that are ordered as it is -/
def intB (n : Int) : List UInt8 := beD 8 (n + 9223372036854775808).toNat
theorem intB_length (n : Int) : (intB n).length = 8 := beD_length _ _
theorem intB_inj (a b : Int) (ha : -9223372036854775808 ≤ a ∧ a ≤ 9223372036854775807) (hb : -9223372036854775808 ≤ b ∧ b ≤ 9223372036854775807) (h : intB a = intB b) : a = b := by
  have := beD_inj 8 _ _ (by omega) (by omega) h
  omega
theorem intB_less (a b : Int) (ha : -9223372036854775808 ≤ a ∧ a ≤ 9223372036854775807) (hb : -9223372036854775808 ≤ b ∧ b ≤ 9223372036854775807) :
    Op.bytesLess (intB a) (intB b) = decide (a < b) := by
  rw [bytesLess_beVal _ _ (by rw [intB_length, intB_length])]
  unfold intB
  rw [beVal_beD, beVal_beD, Nat.mod_eq_of_lt (by omega), Nat.mod_eq_of_lt (by omega)]
  simp only [decide_eq_decide]; omega
theorem beVal_intB (a : Int) (ha : -9223372036854775808 ≤ a ∧ a ≤ 9223372036854775807) : (beVal (intB a) : Int) - 9223372036854775808 = a := by
  unfold intB; rw [beVal_beD, Nat.mod_eq_of_lt (by omega)]; omega
theorem intB_beVal (l : List UInt8) (h : l.length = 8) : intB ((beVal l : Int) - 9223372036854775808) = l := by
  unfold intB
  rw [show ((beVal l : Int) - 9223372036854775808 + 9223372036854775808).toNat = beVal l by omega]
  have := beD_beVal l
  rwa [h] at this
/-- texts packed to one: of each its length in four bytes, and it -/
def packB (ss : List ByteArray) : List UInt8 := ss.flatMap fun s => beD 4 s.size ++ s.data.toList
theorem packB_snoc (ss : List ByteArray) (s : ByteArray) : packB (ss ++ [s]) = packB ss ++ (beD 4 s.size ++ s.data.toList) := by
  simp [packB, List.flatMap_append]
theorem packB_length (ss : List ByteArray) : (packB ss).length = (ss.map fun s => s.size + 4).sum := by
  induction ss with
  | nil => rfl
  | cons s ss ih =>
    have : packB (s :: ss) = (beD 4 s.size ++ s.data.toList) ++ packB ss := by simp [packB]
    rw [this, List.length_append, ih, List.length_append, beD_length, List.map_cons, List.sum_cons]
    simp; omega
end Go.Proofs.Ytmbafcfoboknkaa
