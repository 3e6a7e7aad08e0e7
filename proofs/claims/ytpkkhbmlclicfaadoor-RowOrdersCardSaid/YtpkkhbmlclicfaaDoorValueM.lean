/- De Morgan's law, and the other laws on values, as plain mathematics. -/
import Derived.Test.YtpkkhbmlclicfaaDoorValueF
namespace Go.Proofs.YtpkkhbmlclicfaaDoor.val
set_option linter.unusedVariables false
open Go.RowKit

/-- NULL, or a bool -/
def isP (v : V) : Prop := v = null ∨ ∃ b, v = ofB b
theorem isP.good {v : V} (h : isP v) : Good v := by
  rcases h with rfl | ⟨b, rfl⟩
  · exact good_null
  · exact good_ofB b
theorem veq_oo (a b : Bool) : veq (ofB a) (ofB b) = (a == b) := by
  cases h : (a == b)
  · rw [veq_false]; intro e; cases a <;> cases b <;> simp_all [ofB]
  · have : a = b := by simpa using h
    subst this; exact veq_self _
theorem veq_no (b : Bool) : veq null (ofB b) = false := by
  rw [veq_false]; intro e; cases b <;> simp [ofB, null] at e
theorem isP_logic (op : Int) (p q : V) (hp : isP p) (hq : isP q) : isP (logicV op p q) := by
  unfold logicV
  split
  · exact .inr ⟨_, rfl⟩
  · split
    · exact .inl rfl
    · exact .inr ⟨_, rfl⟩
theorem k_isP {p : V} (hp : isP p) : p.k = 0 ∨ p.k = 1 := by
  rcases hp with rfl | ⟨b, rfl⟩
  · exact .inl rfl
  · cases b <;> exact .inr rfl
theorem do_isP (op : Int) (p q : V) (hop : op = 13 ∨ op = 14) (hp : isP p) (hq : isP q) : doV op p q = (logicV op p q, 0) := by
  have h1 := k_isP hp
  have h2 := k_isP hq
  have hf : fitB op p.k q.k = true := by
    unfold fitB
    rw [if_neg (by omega), if_neg (by omega), if_pos (by omega)]
    rcases h1 with h1 | h1 <;> rcases h2 with h2 | h2 <;> rw [h1, h2] <;> rfl
  unfold doV
  rw [if_neg (by omega), if_neg (by rw [hf]; decide), if_pos (by omega)]
/-- the other one -/
def notP (v : V) : V := if v.k = 0 then null else ofB (!veq v (ofB true))
theorem not_isP (p : V) (hp : isP p) : notV p = (notP p, 0) := by
  have h := k_isP hp
  unfold notV notP
  rcases h with h | h
  · rw [if_pos h, if_pos h]
  · rw [if_neg (by omega), if_pos h, if_neg (by omega)]
theorem isP_not (p : V) (hp : isP p) : isP (notP p) := by
  unfold notP
  split
  · exact .inl rfl
  · exact .inr ⟨_, rfl⟩
theorem notP_null : notP null = null := rfl
theorem notP_o (b : Bool) : notP (ofB b) = ofB (!b) := by
  unfold notP
  rw [if_neg (by cases b <;> decide), veq_oo]
  cases b <;> rfl
theorem logic_oo13 (a b : Bool) : logicV 13 (ofB a) (ofB b) = ofB (a && b) := by
  unfold logicV
  rw [show ((13 : Int) == 14) = false from rfl, veq_oo, veq_oo]
  cases a <;> cases b <;> rfl
theorem logic_oo14 (a b : Bool) : logicV 14 (ofB a) (ofB b) = ofB (a || b) := by
  unfold logicV
  rw [show ((14 : Int) == 14) = true from rfl, veq_oo, veq_oo]
  cases a <;> cases b <;> rfl
theorem logic_no13 (b : Bool) : logicV 13 null (ofB b) = (if b then null else ofB false) ∧ logicV 13 (ofB b) null = (if b then null else ofB false) := by
  unfold logicV
  rw [show ((13 : Int) == 14) = false from rfl, veq_oo, veq_no]
  cases b <;> exact ⟨rfl, rfl⟩
theorem logic_no14 (b : Bool) : logicV 14 null (ofB b) = (if b then ofB true else null) ∧ logicV 14 (ofB b) null = (if b then ofB true else null) := by
  unfold logicV
  rw [show ((14 : Int) == 14) = true from rfl, veq_oo, veq_no]
  cases b <;> exact ⟨rfl, rfl⟩
theorem logic_nn (op : Int) : logicV op null null = null := by
  unfold logicV
  rw [veq_no]
  rfl
/-- De Morgan -/
theorem morgan (p q : V) (hp : isP p) (hq : isP q) : notP (logicV 13 p q) = logicV 14 (notP p) (notP q) := by
  rcases hp with rfl | ⟨a, rfl⟩ <;> rcases hq with rfl | ⟨b, rfl⟩
  · rw [logic_nn, notP_null, logic_nn]
  · rw [(logic_no13 b).1, notP_null, notP_o, (logic_no14 (!b)).1]; cases b <;> simp [notP_o, notP_null]
  · rw [(logic_no13 a).2, notP_null, notP_o, (logic_no14 (!a)).2]; cases a <;> simp [notP_o, notP_null]
  · rw [logic_oo13, notP_o, notP_o, notP_o, logic_oo14]; cases a <;> cases b <;> rfl

theorem do_num (op a b : Int) (hop : 7 ≤ op ∧ op ≤ 11) : doV op (ofN a) (ofN b) = if (countV op a b).2 = 0 then (ofN (countV op a b).1, 0) else (null, (countV op a b).2) := by
  have hf : fitB op 2 2 = true := by
    unfold fitB
    rw [if_neg (by omega), if_neg (by omega), if_neg (by omega)]; rfl
  unfold doV
  rw [if_neg (by omega), if_neg (by rw [show (ofN a).k = 2 from rfl, show (ofN b).k = 2 from rfl, hf]; decide), if_neg (by omega), if_neg (by rintro (h | h) <;> cases h), if_neg (by omega), if_neg (by omega)]
  rfl
theorem num_comm (op a b : Int) (hop : op = 7 ∨ op = 9) : doV op (ofN a) (ofN b) = doV op (ofN b) (ofN a) := by
  have h : countV op a b = countV op b a := by
    unfold countV exact
    rcases hop with rfl | rfl
    · simp [Int.add_comm]
    · simp [Int.mul_comm]
  rw [do_num op a b (by omega), do_num op b a (by omega), h]

theorem do_z (op a : Int) (h : op = 10 ∨ op = 11) : doV op (ofN a) (ofN 0) = (null, 9) := by
  have hc : countV op a 0 = (0, 9) := by unfold countV; rw [if_pos ⟨rfl, h⟩]
  rw [do_num op a 0 (by omega), hc]; rfl
theorem do_m10 : doV 10 (ofN (-9223372036854775808)) (ofN (-1)) = (null, 8) := by
  have hc : countV 10 (-9223372036854775808) (-1) = (0, 8) := (cV 10 _ _ 9223372036854775808 (by decide) (by decide)).2 (by decide)
  rw [do_num 10 _ _ (by decide), hc]; rfl
theorem do_m11 : doV 11 (ofN (-9223372036854775808)) (ofN (-1)) = (ofN 0, 0) := by
  have hc : countV 11 (-9223372036854775808) (-1) = (0, 0) := (cV 11 _ _ 0 (by decide) (by decide)).1 (by decide)
  rw [do_num 11 _ _ (by decide), hc]; rfl
section
variable {a b : Int} (ha : -9223372036854775808 ≤ a ∧ a ≤ 9223372036854775807) (hb : -9223372036854775808 ≤ b ∧ b ≤ 9223372036854775807) (h0 : b ≠ 0) (hm : ¬ (a = -9223372036854775808 ∧ b = -1))
include ha h0 hm in
theorem do_d : doV 10 (ofN a) (ofN b) = (ofN (a.tdiv b), 0) := by
  have hc := (cV 10 a b (a.tdiv b) rfl (by omega)).1 (tdiv_in a b ha h0 hm)
  rw [do_num 10 a b (by decide), hc]; rfl
include hb h0 in
theorem do_r : doV 11 (ofN a) (ofN b) = (ofN (a.tmod b), 0) := by
  have hi := tmod_in a b h0
  have hc := (cV 11 a b (a.tmod b) rfl (by omega)).1 (by unfold InR; omega)
  rw [do_num 11 a b (by decide), hc]; rfl
include ha in
theorem div_sum : wrap64 (a.tdiv b * b) = a.tdiv b * b ∧ wrap64 (a.tdiv b * b + a.tmod b) = a := by
  have hsum := Int.mul_tdiv_add_tmod a b
  rw [Int.mul_comm] at hsum
  have h3 : (a.tmod b).natAbs ≤ a.natAbs := by rw [Int.natAbs_tmod]; exact Nat.mod_le _ _
  have h4 : 0 ≤ a → 0 ≤ a.tmod b := fun h => Int.tmod_nonneg b h
  have h5 : a ≤ 0 → a.tmod b ≤ 0 := fun h => by
    have := Int.tmod_nonneg b (show 0 ≤ -a by omega)
    rw [Int.neg_tmod] at this; omega
  generalize a.tdiv b * b = p at *
  constructor
  · rw [w64]; omega
  · rw [hsum, w64]; omega
end

end Go.Proofs.YtpkkhbmlclicfaaDoor.val
