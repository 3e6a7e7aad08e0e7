/- The document's wide numbers: the bits of a natural number, as a row of 128 bools. No program. -/
import Derived.WalkKit
namespace Go.Proofs.Ytdobihnlegfkaaa.wb
set_option linter.unusedVariables false

def rowF (f : Nat → Bool) : Array Value := ((List.range 128).map fun i => Value.bool (f i)).toArray
theorem rowF_size (f : Nat → Bool) : (rowF f).size = 128 := by simp [rowF]
theorem rowF_at (f : Nat → Bool) (i : Nat) (h : i < 128) : (rowF f)[i]? = some (.bool (f i)) := by simp [rowF, h]
theorem rowF_set (f : Nat → Bool) (i : Nat) (b : Bool) : (rowF f).setIfInBounds i (.bool b) = rowF (fun j => if j = i then b else f j) := by
  apply Array.ext_getElem?
  intro j
  rw [Array.getElem?_setIfInBounds]
  by_cases hj : j < 128
  · by_cases e : i = j
    · subst e; rw [if_pos rfl, if_pos (by rw [rowF_size]; exact hj), rowF_at _ _ hj, if_pos rfl]
    · rw [if_neg e, rowF_at _ _ hj, rowF_at _ _ hj, if_neg (fun h => e h.symm)]
  · have h1 : (rowF f)[j]? = none := by rw [Array.getElem?_eq_none_iff, rowF_size]; omega
    have h2 : (rowF (fun j => if j = i then b else f j))[j]? = none := by rw [Array.getElem?_eq_none_iff, rowF_size]; omega
    rw [h1, h2]
    split
    · rw [if_neg (by rw [rowF_size]; omega)]
    · rfl
theorem rowF_congr {f g : Nat → Bool} (h : ∀ i, i < 128 → f i = g i) : rowF f = rowF g := by
  unfold rowF; congr 1; apply List.map_congr_left; intro i hi; rw [h i (by simpa using hi)]
theorem rowF_one (f : Nat → Bool) : (rowF f).all (·.oneCell') = true := by
  rw [Array.all_eq_true_iff_forall_mem]; intro x hx; simp [rowF] at hx; obtain ⟨i, -, rfl⟩ := hx; rfl
theorem rowF_zero : rowF (fun _ => false) = Array.replicate 128 (.bool false) := by
  apply Array.ext_getElem?; intro j; simp [rowF, Array.getElem?_replicate]; split <;> simp [*]
/-- the row of a number's bits -/
def row (m : Nat) : Array Value := rowF m.testBit
theorem bit_i (n k : Nat) : (((n / 2 ^ k : Nat) : Int) % 2 == 1) = n.testBit k := by
  rw [Nat.testBit_eq_decide_div_mod_eq]
  generalize n / 2 ^ k = x
  rw [Bool.eq_iff_iff, beq_iff_eq, decide_eq_true_eq]; omega
/-- what stands there after k rounds of Of -/
def ofF (h l k : Nat) : Nat → Bool := fun j => if j < 64 then decide (j < k) && l.testBit j else decide (j < 64 + k) && h.testBit (j - 64)
theorem ofF_zero (h l : Nat) : rowF (ofF h l 0) = rowF (fun _ => false) := rowF_congr fun i hi => by
  unfold ofF
  split
  · rw [decide_eq_false (by omega)]; rfl
  · rw [decide_eq_false (by omega)]; rfl
theorem ofF_succ (h l k : Nat) (hk : k < 64) : ((rowF (ofF h l k)).setIfInBounds k (.bool (l.testBit k))).setIfInBounds (64 + k) (.bool (h.testBit k)) = rowF (ofF h l (k + 1)) := by
  rw [rowF_set, rowF_set]
  refine rowF_congr fun i hi => ?_
  unfold ofF
  by_cases e1 : i = 64 + k
  · subst e1; rw [if_pos rfl, if_neg (by omega), decide_eq_true (by omega)]; simp
  · rw [if_neg e1]
    by_cases e2 : i = k
    · subst e2; rw [if_pos rfl, if_pos hk, decide_eq_true (by omega)]; simp
    · rw [if_neg e2]
      split
      · rw [show decide (i < k + 1) = decide (i < k) by rw [decide_eq_decide]; omega]
      · rw [show decide (i < 64 + (k + 1)) = decide (i < 64 + k) by rw [decide_eq_decide]; omega]
theorem ofF_end (h l : Nat) (hl : l < 2 ^ 64) : rowF (ofF h l 64) = row (2 ^ 64 * h + l) := by
  refine rowF_congr fun i hi => ?_
  rw [Nat.testBit_two_pow_mul_add _ hl]
  unfold ofF
  split
  · rw [decide_eq_true (by omega)]; simp
  · rw [decide_eq_true (by omega)]; simp
theorem half_bd (n k : Nat) (h : n < 2 ^ 64) : n / 2 ^ k < 2 ^ 64 := Nat.lt_of_le_of_lt (Nat.div_le_self _ _) h
theorem half_succ (n k : Nat) : n / 2 ^ k / 2 = n / 2 ^ (k + 1) := by rw [Nat.div_div_eq_div_mul, Nat.pow_succ]

/-- the carry into place k of a sum -/
def carry (a b k : Nat) : Nat := (a % 2 ^ k + b % 2 ^ k) / 2 ^ k
theorem carry_le (a b k : Nat) : carry a b k ≤ 1 := by
  unfold carry
  have h := Nat.two_pow_pos k
  have h1 := Nat.mod_lt a h
  have h2 := Nat.mod_lt b h
  have : (a % 2 ^ k + b % 2 ^ k) / 2 ^ k < 2 := (Nat.div_lt_iff_lt_mul h).2 (by omega)
  omega
theorem bit_nat (n k : Nat) : (n.testBit k).toNat = n / 2 ^ k % 2 := by
  rw [Nat.testBit_eq_decide_div_mod_eq]; by_cases h : n / 2 ^ k % 2 = 1 <;> simp [h]; omega
theorem sum_bit (a b k : Nat) : (a + b).testBit k = ((carry a b k + (a.testBit k).toNat + (b.testBit k).toNat) % 2 == 1) := by
  rw [bit_nat, bit_nat, Nat.testBit_eq_decide_div_mod_eq]
  have h := Nat.two_pow_pos k
  have e : (a + b) / 2 ^ k = a / 2 ^ k + b / 2 ^ k + carry a b k := by
    unfold carry
    rw [Nat.add_div h]
    have h1 := Nat.mod_lt a h
    have h2 := Nat.mod_lt b h
    split
    · rename_i h3
      rw [show (a % 2 ^ k + b % 2 ^ k) / 2 ^ k = 1 from Nat.div_eq_of_lt_le (by omega) (by omega)]
    · rename_i h3
      rw [show (a % 2 ^ k + b % 2 ^ k) / 2 ^ k = 0 from Nat.div_eq_of_lt (by omega)]
  rw [e, Bool.eq_iff_iff]; simp; omega
theorem sum_carry (a b k : Nat) : carry a b (k + 1) = (carry a b k + (a.testBit k).toNat + (b.testBit k).toNat) / 2 := by
  rw [bit_nat, bit_nat]
  have h := Nat.two_pow_pos k
  have e1 : a % 2 ^ (k + 1) = a % 2 ^ k + 2 ^ k * (a / 2 ^ k % 2) := by rw [Nat.pow_succ, Nat.mod_mul]
  have e2 : b % 2 ^ (k + 1) = b % 2 ^ k + 2 ^ k * (b / 2 ^ k % 2) := by rw [Nat.pow_succ, Nat.mod_mul]
  unfold carry
  rw [e1, e2, Nat.pow_succ, ← Nat.div_div_eq_div_mul]
  congr 1
  generalize a / 2 ^ k % 2 = p
  generalize b / 2 ^ k % 2 = q
  rw [show a % 2 ^ k + 2 ^ k * p + (b % 2 ^ k + 2 ^ k * q) = (a % 2 ^ k + b % 2 ^ k) + 2 ^ k * (p + q) by rw [Nat.mul_add]; omega, Nat.add_mul_div_left _ _ h]
  omega
/-- what stands there after k rounds of Plus -/
def sumF (a b k : Nat) : Nat → Bool := fun j => decide (j < k) && (a + b).testBit j
theorem sumF_zero (a b : Nat) : rowF (sumF a b 0) = rowF (fun _ => false) := rowF_congr fun i hi => by simp [sumF]
theorem sumF_succ (a b k : Nat) : (rowF (sumF a b k)).setIfInBounds k (.bool ((a + b).testBit k)) = rowF (sumF a b (k + 1)) := by
  rw [rowF_set]
  refine rowF_congr fun i hi => ?_
  unfold sumF
  by_cases e : i = k
  · subst e; rw [if_pos rfl, decide_eq_true (by omega)]; simp
  · rw [if_neg e, show decide (i < k + 1) = decide (i < k) by rw [decide_eq_decide]; omega]
theorem sumF_end (a b : Nat) : rowF (sumF a b 128) = row (a + b) := rowF_congr fun i hi => by unfold sumF; rw [decide_eq_true hi]; simp

/-- the halves of a number -/
def hiN (m : Nat) : Nat := m / 2 ^ 64 % 2 ^ 64
def loN (m : Nat) : Nat := m % 2 ^ 64
theorem hi_bit (m i : Nat) (h : i < 64) : m.testBit (64 + i) = (hiN m).testBit i := by
  unfold hiN; rw [Nat.testBit_mod_two_pow, decide_eq_true h, Nat.testBit_div_two_pow]; simp [Nat.add_comm]
theorem lo_bit (m i : Nat) (h : i < 64) : m.testBit i = (loN m).testBit i := by
  unfold loN; rw [Nat.testBit_mod_two_pow, decide_eq_true h]; simp
theorem half_step (n i : Nat) : n / 2 ^ i = 2 * (n / 2 ^ (i + 1)) + (n.testBit i).toNat := by
  rw [bit_nat, ← half_succ]; omega
theorem half_top (n : Nat) (h : n < 2 ^ 64) : n / 2 ^ 64 = 0 := Nat.div_eq_of_lt h
theorem hiN_lt (m : Nat) : hiN m < 2 ^ 64 := Nat.mod_lt _ (by decide)
theorem loN_lt (m : Nat) : loN m < 2 ^ 64 := Nat.mod_lt _ (by decide)

end Go.Proofs.Ytdobihnlegfkaaa.wb
