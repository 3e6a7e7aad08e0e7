/- The program's operators on values, walked: arithmetic, comparisons, all of Do. -/
import Derived.Test.YtpkkhbmlclicfaaDoorValueW
import Derived.Deep.RegionHeld3
import Derived.Deep.CutBlock
import Derived.Deep.DeepCutAuto
import Derived.Test.YtpkkhbmlclicfaaDoorAg
namespace Go.Proofs.YtpkkhbmlclicfaaDoor.val
set_option linter.unusedVariables false
open Go.RowKit
attribute [local go_sem high] run_eqlV run_neqV
attribute [local go_sem] ag.upon_value ag.upon_skip ag.upon_enter
attribute [local go_sem] Oper.semAt_some

theorem ret_ii {n m a b : Int} (h1 : n = m) (h : a = b) : Ending.returned (.tuple #[.int .i64 n, .int .i64 a]) = .returned (.tuple #[.int .i64 m, .int .i64 b]) := by rw [h, h1]
theorem countV_of {op a b : Int} (h : ¬ (b = 0 ∧ (op = 10 ∨ op = 11))) : countV op a b = if -9223372036854775808 ≤ exact op a b ∧ exact op a b ≤ 9223372036854775807 then (exact op a b, 0) else (0, 8) := by unfold countV; rw [if_neg h]

abbrev InR (n : Int) : Prop := -9223372036854775808 ≤ n ∧ n ≤ 9223372036854775807
theorem w64 (n : Int) : wrap64 n = (n + 9223372036854775808) % 18446744073709551616 - 9223372036854775808 := by rw [← IntWalk.i64_left, IntKind.wrap_i64]
theorem cadd (a b : Int) (ha : -9223372036854775808 ≤ a ∧ a ≤ 9223372036854775807) (hb : -9223372036854775808 ≤ b ∧ b ≤ 9223372036854775807) : (decide (a < wrap64 (a + b)) == decide (0 < b)) = decide (InR (a + b)) ∧ (InR (a + b) → wrap64 (a + b) = a + b) := by
  rw [w64]
  refine ⟨?_, fun h => by omega⟩
  by_cases h1 : a < (a + b + 9223372036854775808) % 18446744073709551616 - 9223372036854775808 <;> by_cases h2 : 0 < b <;> by_cases h3 : InR (a + b) <;> simp only [h1, h2, h3, decide_true, decide_false] <;> first | rfl | omega | simp [h1, h2, h3]
theorem csub (a b : Int) (ha : -9223372036854775808 ≤ a ∧ a ≤ 9223372036854775807) (hb : -9223372036854775808 ≤ b ∧ b ≤ 9223372036854775807) : (decide (wrap64 (a - b) < a) == decide (0 < b)) = decide (InR (a - b)) ∧ (InR (a - b) → wrap64 (a - b) = a - b) := by
  rw [w64]
  refine ⟨?_, fun h => by omega⟩
  by_cases h1 : (a - b + 9223372036854775808) % 18446744073709551616 - 9223372036854775808 < a <;> by_cases h2 : 0 < b <;> by_cases h3 : InR (a - b) <;> simp only [h1, h2, h3, decide_true, decide_false] <;> first | rfl | omega | simp [h1, h2, h3]
theorem cV (op a b r : Int) (hr : exact op a b = r) (h : ¬ (b = 0 ∧ (op = 10 ∨ op = 11))) : (InR r → countV op a b = (r, 0)) ∧ (¬ InR r → countV op a b = (0, 8)) := by
  subst hr
  rw [countV_of h]
  exact ⟨fun h => if_pos h, fun h => if_neg h⟩

set_option maxHeartbeats 1000000 in
theorem count_add (a b : Int) (ha : -9223372036854775808 ≤ a ∧ a ≤ 9223372036854775807) (hb : -9223372036854775808 ≤ b ∧ b ≤ 9223372036854775807) (W : World) :
    Calls Tryd.prog 43 #[.int .i64 7, .int .i64 a, .int .i64 b] W fun e w' => e = .returned (.tuple #[.int .i64 (countV 7 a b).1, .int .i64 (countV 7 a b).2]) ∧ Below W.heap.size W w' := by
  have hc := cadd a b ha hb
  have hv := cV 7 a b (a + b) rfl (by omega)
  have b0 : b = 0 → (b == 0) = true := fun h => by simp [h]
  by_cases hr : InR (a + b)
  · have hok : (decide (a < wrap64 (a + b)) == decide (0 < b)) = true := by rw [hc.1, decide_eq_true hr]
    have hok2 : (!(decide (a < wrap64 (a + b)) == decide (0 < b))) = false := by rw [hok]; rfl
    have e1 := hc.2 hr
    have e2 := hv.1 hr
    have E1 := Lib.hid e1; have E2 := Lib.hid e2
    clear hc hv e1 e2 hr b0
    cases hb0 : (b == 0)
    · go_enter Tryd.func43, Tryd.ntmps43
      go_wp2
      go_ret2
      exact ⟨ret_ii (by rw [E2.out]; exact E1.out) (by rw [E2.out]), Below.refl _ _⟩
    · obtain rfl : b = 0 := by simpa using hb0
      clear hok hok2 hb0
      go_enter Tryd.func43, Tryd.ntmps43
      go_wp2
      go_ret2
      exact ⟨ret_ii (by rw [E2.out]; simp) (by rw [E2.out]), Below.refl _ _⟩
  · have hok : (decide (a < wrap64 (a + b)) == decide (0 < b)) = false := by rw [hc.1, decide_eq_false hr]
    have hok2 : (!(decide (a < wrap64 (a + b)) == decide (0 < b))) = true := by rw [hok]; rfl
    have e2 := hv.2 hr
    have E2 := Lib.hid e2
    have hb0 : (b == 0) = false := by simp; intro h; subst h; exact hr (by unfold InR; omega)
    clear hc hv e2 hr b0
    go_enter Tryd.func43, Tryd.ntmps43
    go_wp2
    go_ret2
    exact ⟨ret_ii (by rw [E2.out]) (by rw [E2.out]), Below.refl _ _⟩
set_option maxHeartbeats 1000000 in
theorem count_sub (a b : Int) (ha : -9223372036854775808 ≤ a ∧ a ≤ 9223372036854775807) (hb : -9223372036854775808 ≤ b ∧ b ≤ 9223372036854775807) (W : World) :
    Calls Tryd.prog 43 #[.int .i64 8, .int .i64 a, .int .i64 b] W fun e w' => e = .returned (.tuple #[.int .i64 (countV 8 a b).1, .int .i64 (countV 8 a b).2]) ∧ Below W.heap.size W w' := by
  have hc := csub a b ha hb
  have hv := cV 8 a b (a - b) rfl (by omega)
  have b0 : b = 0 → (b == 0) = true := fun h => by simp [h]
  by_cases hr : InR (a - b)
  · have hok : (decide (wrap64 (a - b) < a) == decide (0 < b)) = true := by rw [hc.1, decide_eq_true hr]
    have hok2 : (!(decide (wrap64 (a - b) < a) == decide (0 < b))) = false := by rw [hok]; rfl
    have e1 := hc.2 hr
    have e2 := hv.1 hr
    have E1 := Lib.hid e1; have E2 := Lib.hid e2
    clear hc hv e1 e2 hr b0
    cases hb0 : (b == 0)
    · go_enter Tryd.func43, Tryd.ntmps43
      go_wp2
      go_ret2
      exact ⟨ret_ii (by rw [E2.out]; exact E1.out) (by rw [E2.out]), Below.refl _ _⟩
    · obtain rfl : b = 0 := by simpa using hb0
      clear hok hok2 hb0
      go_enter Tryd.func43, Tryd.ntmps43
      go_wp2
      go_ret2
      exact ⟨ret_ii (by rw [E2.out]; simp) (by rw [E2.out]), Below.refl _ _⟩
  · have hok : (decide (wrap64 (a - b) < a) == decide (0 < b)) = false := by rw [hc.1, decide_eq_false hr]
    have hok2 : (!(decide (wrap64 (a - b) < a) == decide (0 < b))) = true := by rw [hok]; rfl
    have e2 := hv.2 hr
    have E2 := Lib.hid e2
    have hb0 : (b == 0) = false := by simp; intro h; subst h; exact hr (by unfold InR; omega)
    clear hc hv e2 hr b0
    go_enter Tryd.func43, Tryd.ntmps43
    go_wp2
    go_ret2
    exact ⟨ret_ii (by rw [E2.out]) (by rw [E2.out]), Below.refl _ _⟩
set_option maxHeartbeats 1000000 in
theorem count_mul (a b : Int) (ha : -9223372036854775808 ≤ a ∧ a ≤ 9223372036854775807) (hb : -9223372036854775808 ≤ b ∧ b ≤ 9223372036854775807) (W : World) :
    Calls Tryd.prog 43 #[.int .i64 9, .int .i64 a, .int .i64 b] W fun e w' => e = .returned (.tuple #[.int .i64 (countV 9 a b).1, .int .i64 (countV 9 a b).2]) ∧ Below W.heap.size W w' := by
  have hv := cV 9 a b (a * b) rfl (by omega)
  have hB : timesB a b = decide (InR (a * b)) := by unfold timesB InR; rw [Bool.eq_iff_iff]; simp
  have hN : InR (a * b) → timesN a b = a * b := fun h => by unfold timesN; rw [if_pos h]
  have HT := Lib.hid (times_any a b ha hb W)
  cases hr : timesB a b
  · have hn : ¬ InR (a * b) := by rw [hr] at hB; exact of_decide_eq_false hB.symm
    have E2 := Lib.hid (hv.2 hn)
    have hb0 : (b == 0) = false := by simp; intro h; subst h; exact hn (by unfold InR; omega)
    rw [hr] at HT
    clear hv hB hN hr hn
    go_enter Tryd.func43, Tryd.ntmps43
    go_wp2_with (go_at_call 66; ((with_reducible refine HT.out.mono ?_); rintro e w1 ⟨m, rfl, hm, hb1⟩))
    go_ret2
    exact ⟨ret_ii (by rw [E2.out]) (by rw [E2.out]), hb1⟩
  · have hn : InR (a * b) := by rw [hr] at hB; exact of_decide_eq_true hB.symm
    have E2 := Lib.hid (hv.1 hn)
    have E3 := Lib.hid (hN hn)
    rw [hr] at HT
    clear hv hB hN hr hn
    cases hb0 : (b == 0)
    · go_enter Tryd.func43, Tryd.ntmps43
      go_wp2_with (go_at_call 66; ((with_reducible refine HT.out.mono ?_); rintro e w1 ⟨m, rfl, hm, hb1⟩; have HM := Lib.hid (hm rfl); clear hm))
      go_ret2
      exact ⟨ret_ii (by rw [E2.out, HM.out, E3.out]) (by rw [E2.out]), hb1⟩
    · obtain rfl : b = 0 := by simpa using hb0
      clear hb0
      go_enter Tryd.func43, Tryd.ntmps43
      go_wp2_with (go_at_call 66; ((with_reducible refine HT.out.mono ?_); rintro e w1 ⟨m, rfl, hm, hb1⟩; have HM := Lib.hid (hm rfl); clear hm))
      go_ret2
      exact ⟨ret_ii (by rw [E2.out, HM.out, E3.out]) (by rw [E2.out]), hb1⟩
set_option maxHeartbeats 1000000 in
theorem count_zero (op a : Int) (hop : op = 10 ∨ op = 11) (W : World) :
    Calls Tryd.prog 43 #[.int .i64 op, .int .i64 a, .int .i64 0] W fun e w' => e = .returned (.tuple #[.int .i64 (countV op a 0).1, .int .i64 (countV op a 0).2]) ∧ Below W.heap.size W w' := by
  have E := Lib.hid (show countV op a 0 = (0, 9) by unfold countV; rw [if_pos ⟨rfl, hop⟩])
  rcases hop with rfl | rfl
  all_goals
    go_enter Tryd.func43, Tryd.ntmps43
    go_wp2
    go_ret2
    exact ⟨ret_ii (by rw [E.out]) (by rw [E.out]), Below.refl _ _⟩
set_option maxHeartbeats 1000000 in
theorem count_div (a b : Int) (ha : -9223372036854775808 ≤ a ∧ a ≤ 9223372036854775807) (hb : -9223372036854775808 ≤ b ∧ b ≤ 9223372036854775807) (h0 : b ≠ 0) (W : World) :
    Calls Tryd.prog 43 #[.int .i64 10, .int .i64 a, .int .i64 b] W fun e w' => e = .returned (.tuple #[.int .i64 (countV 10 a b).1, .int .i64 (countV 10 a b).2]) ∧ Below W.heap.size W w' := by
  have hv := cV 10 a b (a.tdiv b) rfl (by omega)
  have b0 : (b == 0) = false := by simpa using h0
  by_cases h1 : a = -9223372036854775808 ∧ b = -1
  · obtain ⟨rfl, rfl⟩ := h1
    have E := Lib.hid (hv.2 (by decide))
    clear hv b0 h0
    go_enter Tryd.func43, Tryd.ntmps43
    go_wp2
    go_ret2
    exact ⟨ret_ii (by rw [E.out]) (by rw [E.out]), Below.refl _ _⟩
  · have hr : InR (a.tdiv b) := tdiv_in a b ha h0 h1
    have E := Lib.hid (hv.1 hr)
    have hw : wrap64 (a.tdiv b) = a.tdiv b := by rw [w64]; omega
    have HW := Lib.hid hw
    clear hv hr hw
    by_cases ha1 : a = -9223372036854775808
    · subst ha1
      have ht : (b != -1) = true := by rw [bne_iff_ne]; omega
      have ht2 : (b == -1) = false := by simp; omega
      clear h1
      go_enter Tryd.func43, Tryd.ntmps43
      go_wp2
      go_ret2
      exact ⟨ret_ii (by rw [E.out, ← Int.neg_tdiv]; exact HW.out) (by rw [E.out]), Below.refl _ _⟩
    · have ht : (a != -9223372036854775808) = true := by rw [bne_iff_ne]; exact ha1
      have ht2 : (a == -9223372036854775808) = false := by simpa using ha1
      clear h1 ha1
      go_enter Tryd.func43, Tryd.ntmps43
      go_wp2
      go_ret2
      exact ⟨ret_ii (by rw [E.out]; exact HW.out) (by rw [E.out]), Below.refl _ _⟩
set_option maxHeartbeats 1000000 in
theorem count_mod (a b : Int) (ha : -9223372036854775808 ≤ a ∧ a ≤ 9223372036854775807) (hb : -9223372036854775808 ≤ b ∧ b ≤ 9223372036854775807) (h0 : b ≠ 0) (W : World) :
    Calls Tryd.prog 43 #[.int .i64 11, .int .i64 a, .int .i64 b] W fun e w' => e = .returned (.tuple #[.int .i64 (countV 11 a b).1, .int .i64 (countV 11 a b).2]) ∧ Below W.heap.size W w' := by
  have hv := cV 11 a b (a.tmod b) rfl (by omega)
  have b0 : (b == 0) = false := by simpa using h0
  have hi := tmod_in a b h0
  have hr : InR (a.tmod b) := by unfold InR; omega
  have E := Lib.hid (hv.1 hr)
  have hw : wrap64 (a.tmod b) = a.tmod b := by rw [w64]; omega
  have HW := Lib.hid hw
  clear hv hr hw hi
  go_enter Tryd.func43, Tryd.ntmps43
  go_wp2
  go_ret2
  exact ⟨ret_ii (by rw [E.out]) (by rw [E.out]), Below.refl _ _⟩

/-- What two numbers give. -/
theorem count_any (op a b : Int) (hop : 7 ≤ op ∧ op ≤ 11) (ha : -9223372036854775808 ≤ a ∧ a ≤ 9223372036854775807) (hb : -9223372036854775808 ≤ b ∧ b ≤ 9223372036854775807) (W : World) :
    Calls Tryd.prog 43 #[.int .i64 op, .int .i64 a, .int .i64 b] W fun e w' => e = .returned (.tuple #[.int .i64 (countV op a b).1, .int .i64 (countV op a b).2]) ∧ Below W.heap.size W w' := by
  obtain rfl | rfl | rfl | rfl | rfl : op = 7 ∨ op = 8 ∨ op = 9 ∨ op = 10 ∨ op = 11 := by omega
  · exact count_add a b ha hb W
  · exact count_sub a b ha hb W
  · exact count_mul a b ha hb W
  · by_cases h0 : b = 0
    · subst h0; exact count_zero 10 a (.inl rfl) W
    · exact count_div a b ha hb h0 W
  · by_cases h0 : b = 0
    · subst h0; exact count_zero 11 a (.inr rfl) W
    · exact count_mod a b ha hb h0 W

/-! ### cmp's -/
theorem isNaN_int (x : Int) (W : World) : Calls Tryd.prog 67 #[.int .i64 x] W fun e w' => e = .returned (.bool false) ∧ W = w' := by
  go_enter Tryd.func67, Tryd.ntmps67
  go_wp2
  all_goals go_ret
  all_goals exact ⟨ret_bool (by simp), rfl⟩
theorem isNaN_int64 (x : Int) (W : World) : Calls Tryd.prog 68 #[.int .i64 x] W fun e w' => e = .returned (.bool false) ∧ W = w' := by
  go_enter Tryd.func68, Tryd.ntmps68
  go_wp2
  all_goals go_ret
  all_goals exact ⟨ret_bool (by simp), rfl⟩
theorem isNaN_str (x : ByteArray) (W : World) : Calls Tryd.prog 69 #[.string x] W fun e w' => e = .returned (.bool false) ∧ W = w' := by
  go_enter Tryd.func69, Tryd.ntmps69
  go_wp2
  all_goals go_ret
  all_goals exact ⟨ret_bool (by simp), rfl⟩
/-- the order of two numbers -/
def cmpI (a b : Int) : Int := if a < b then -1 else if b < a then 1 else 0
def cmpS (a b : ByteArray) : Int := if Op.bytesLess a.toList b.toList = true then -1 else if Op.bytesLess b.toList a.toList = true then 1 else 0
def cmpV (a b : V) : Int := if cmpI a.k b.k ≠ 0 then cmpI a.k b.k else if cmpI a.n b.n ≠ 0 then cmpI a.n b.n else cmpS a.s b.s
theorem cmp_int (a b : Int) (W : World) : Calls Tryd.prog 48 #[.int .i64 a, .int .i64 b] W fun e w' => e = .returned (.int .i64 (cmpI a b)) ∧ W = w' := by
  go_enter Tryd.func48, Tryd.ntmps48
  go_wp2_with (go_at_call 67; (refine (isNaN_int _ _).mono ?_; rintro e w1 ⟨rfl, rfl⟩))
  all_goals go_ret
  all_goals exact ⟨ret_i64 (by unfold cmpI; (repeat' split) <;> omega), rfl⟩
theorem cmp_int64 (a b : Int) (W : World) : Calls Tryd.prog 49 #[.int .i64 a, .int .i64 b] W fun e w' => e = .returned (.int .i64 (cmpI a b)) ∧ W = w' := by
  go_enter Tryd.func49, Tryd.ntmps49
  go_wp2_with (go_at_call 68; (refine (isNaN_int64 _ _).mono ?_; rintro e w1 ⟨rfl, rfl⟩))
  all_goals go_ret
  all_goals exact ⟨ret_i64 (by unfold cmpI; (repeat' split) <;> omega), rfl⟩
theorem cmp_str (a b : ByteArray) (W : World) : Calls Tryd.prog 50 #[.string a, .string b] W fun e w' => e = .returned (.int .i64 (cmpS a b)) ∧ W = w' := by
  go_enter Tryd.func50, Tryd.ntmps50
  go_wp2_with (go_at_call 69; (refine (isNaN_str _ _).mono ?_; rintro e w1 ⟨rfl, rfl⟩))
  all_goals go_ret
  · exact ⟨ret_i64 (by unfold cmpS; rw [if_pos ‹_›]), rfl⟩
  · have h1 : Op.bytesLess a.toList b.toList = false := by assumption
    have h2 : (!a.toList == b.toList) = true := by assumption
    have h3 : Op.bytesLess b.toList a.toList = true := by
      cases h : Op.bytesLess b.toList a.toList
      · have := bl_total _ _ h1 h
        rw [this] at h2; simp at h2
      · rfl
    exact ⟨ret_i64 (by unfold cmpS; rw [if_neg (by rw [h1]; decide), if_pos h3]), rfl⟩
  · have h2 : (!a.toList == b.toList) = false := by assumption
    have h3 : a.toList = b.toList := by simpa using h2
    exact ⟨ret_i64 (by unfold cmpS; rw [h3, bl_irrefl]; rfl), rfl⟩

/-- cmp.Or of three: the first that is not 0. -/
def or3 (x y z : Int) : Int := if x ≠ 0 then x else if y ≠ 0 then y else z
theorem or_three (x y z : Int) (W : World) (g : Nat) (hx : W.cell? ⟨g, 0, none⟩ = some (.int .i64 x)) (hy : W.cell? ⟨g, 1, none⟩ = some (.int .i64 y)) (hz : W.cell? ⟨g, 2, none⟩ = some (.int .i64 z)) (cap : Nat) :
    Calls Tryd.prog 47 #[.slice (some ⟨g, 0, none⟩) 3 cap] W fun e w' => e = .returned (.int .i64 (or3 x y z)) ∧ W = w' := by
  by_cases h1 : x = 0
  · subst h1
    by_cases h2 : y = 0
    · subst h2
      by_cases h3 : z = 0
      · subst h3
        go_enter Tryd.func47, Tryd.ntmps47
        go_wp2
        refine wp_loop_rounds 4 ?_
        rw [rounds_succ]
        go_wp2
        rw [rounds_succ]
        go_wp2
        rw [rounds_succ]
        go_wp2
        rw [rounds_succ]
        go_wp2
        go_ret
        exact ⟨rfl, rfl⟩
      · have z0 : (z == 0) = false := by simpa using h3
        have z1 : (z != 0) = true := by simpa using h3
        clear h3
        go_enter Tryd.func47, Tryd.ntmps47
        go_wp2
        refine wp_loop_rounds 4 ?_
        rw [rounds_succ]
        go_wp2
        rw [rounds_succ]
        go_wp2
        rw [rounds_succ]
        go_wp2
        go_ret
        exact ⟨ret_i64 (by unfold or3; simp), rfl⟩
    · have y0 : (y == 0) = false := by simpa using h2
      have y1 : (y != 0) = true := by simpa using h2
      have E := Lib.hid h2
      clear h2
      go_enter Tryd.func47, Tryd.ntmps47
      go_wp2
      refine wp_loop_rounds 4 ?_
      rw [rounds_succ]
      go_wp2
      rw [rounds_succ]
      go_wp2
      go_ret
      exact ⟨ret_i64 (by unfold or3; simp [E.out]), rfl⟩
  · have x0 : (x == 0) = false := by simpa using h1
    have x1 : (x != 0) = true := by simpa using h1
    have E := Lib.hid h1
    clear h1
    go_enter Tryd.func47, Tryd.ntmps47
    go_wp2
    refine wp_loop_rounds 4 ?_
    rw [rounds_succ]
    go_wp2
    go_ret
    exact ⟨ret_i64 (by unfold or3; simp [E.out]), rfl⟩

/-- three numbers in a new row -/
def three (x y z : Int) (v : Value) (w : World) : Prop := ∃ g cap, v = .slice (some ⟨g, 0, none⟩) 3 cap ∧ w.cell? ⟨g, 0, none⟩ = some (.int .i64 x) ∧ w.cell? ⟨g, 1, none⟩ = some (.int .i64 y) ∧ w.cell? ⟨g, 2, none⟩ = some (.int .i64 z)
set_option maxRecDepth 100000 in
set_option maxHeartbeats 2000000 in
theorem compare_any (ka na kb nb : Int) (sa sb : ByteArray) (W : World) : Calls Tryd.prog 15 #[ag3 ka na sa, ag3 kb nb sb] W fun e w' => e = .returned (.int .i64 (cmpV ⟨ka, na, sa⟩ ⟨kb, nb, sb⟩)) ∧ Below W.heap.size W w' := by
  have e : or3 (cmpI ka kb) (cmpI na nb) (cmpS sa sb) = cmpV ⟨ka, na, sa⟩ ⟨kb, nb, sb⟩ := rfl
  rw [← e]
  clear e
  obtain ⟨x, hx⟩ : ∃ x, cmpI ka kb = x := ⟨_, rfl⟩
  obtain ⟨y, hy⟩ : ∃ y, cmpI na nb = y := ⟨_, rfl⟩
  obtain ⟨z, hz⟩ : ∃ z, cmpS sa sb = z := ⟨_, rfl⟩
  rw [hx, hy, hz]
  have Hx := Lib.hid hx; have Hy := Lib.hid hy; have Hz := Lib.hid hz
  clear hx hy hz
  go_enter Tryd.func15, Tryd.ntmps15
  go_wp2
  have hb1 : ∀ i v, [Value.int .i64 kb, .int .i64 nb, .string sb][i]? = some v → ((W.alloc (.cells #[.int .i64 ka, .int .i64 na, .string sa] TV)).alloc (.cells #[.int .i64 kb, .int .i64 nb, .string sb] TV)).cell? ⟨W.heap.size + 1, i, none⟩ = some v := fun i v h => by
    have := cells_new (W.alloc (.cells #[.int .i64 ka, .int .i64 na, .string sa] TV)) [Value.int .i64 kb, .int .i64 nb, .string sb] TV i
    rw [World.size_alloc] at this
    exact this.trans h
  have hb0 : ∀ i v, [Value.int .i64 ka, .int .i64 na, .string sa][i]? = some v → ((W.alloc (.cells #[.int .i64 ka, .int .i64 na, .string sa] TV)).alloc (.cells #[.int .i64 kb, .int .i64 nb, .string sb] TV)).cell? ⟨W.heap.size, i, none⟩ = some v := fun i v h => by
    exact cell_later ((Below.refl _ _).alloc (Nat.le_refl _) _) ((cells_new W [Value.int .i64 ka, .int .i64 na, .string sa] TV i).trans h)
  have HC00 := Lib.hid (hb0 0 _ rfl); have HC10 := Lib.hid (hb0 1 _ rfl); have HC20 := Lib.hid (hb0 2 _ rfl)
  have HC01 := Lib.hid (hb1 0 _ rfl); have HC11 := Lib.hid (hb1 1 _ rfl); have HC21 := Lib.hid (hb1 2 _ rfl)
  have HBB := Lib.hid (below_alloc2 W (.cells #[.int .i64 ka, .int .i64 na, .string sa] TV) (.cells #[.int .i64 kb, .int .i64 nb, .string sb] TV))
  clear hb0 hb1
  generalize (W.alloc (.cells #[.int .i64 ka, .int .i64 na, .string sa] TV)).alloc (.cells #[.int .i64 kb, .int .i64 nb, .string sb] TV) = X at *
  refine ag.region_ag (fun W1 => Below X.heap.size X W1) (fun _ _ _ _ => True)
    [.val (.pointer (some ⟨W.heap.size, 0, none⟩)), .val (.int .i64 ka), .val (.pointer (some ⟨W.heap.size + 1, 0, none⟩)), .val (.int .i64 kb), .val (.int .i64 x), .val (.pointer (some ⟨W.heap.size, 1, none⟩)), .val (.int .i64 na), .val (.pointer (some ⟨W.heap.size + 1, 1, none⟩)), .val (.int .i64 nb), .val (.int .i64 y), .val (.pointer (some ⟨W.heap.size, 2, none⟩)), .val (.string sa), .val (.pointer (some ⟨W.heap.size + 1, 2, none⟩)), .val (.string sb), .val (.int .i64 z), .sat (three x y z) (fun _ w w' => Below w.heap.size w w'), .val (.int .i64 (or3 x y z)), .val (.int .i64 (or3 x y z))]
    (by kernel_rfl) (by kernel_rfl) rfl (⟨rfl, rfl, rfl, Nat.le_refl _, fun _ _ => rfl⟩) ?hst ?hk ?hwalk
  case hst =>
    simp only [ag.Stab, ag.Row2, ag.Ok2, and_true]
    repeat' apply And.intro
    all_goals first
      | exact fun h => absurd rfl h
      | trivial
  case hk =>
    simp only [ag.Keeps, and_true]
    exact fun f W1 W2 hS _ ht => hS.trans (ht.mono hS.size)
  case hwalk =>
    refine ag.walk_val (by rfl) (fun W1 hS hE => ?_) ?_
    rotate_left; simp only [Act.put, List.setIfInBounds_toArray, List.set_cons_zero, List.set_cons_succ]; rotate_left
    · clear hS hE
      unfold ag.does
      go_simp
      try exact ⟨rfl, rfl⟩
    refine ag.walk_val (by rfl) (fun W1 hS hE => ?_) ?_
    rotate_left; simp only [Act.put, List.setIfInBounds_toArray, List.set_cons_zero, List.set_cons_succ]; rotate_left
    · have c0 := cell_later hS HC00.out
      clear hS hE
      unfold ag.does
      go_simp
      try exact ⟨rfl, rfl⟩
    refine ag.walk_val (by rfl) (fun W1 hS hE => ?_) ?_
    rotate_left; simp only [Act.put, List.setIfInBounds_toArray, List.set_cons_zero, List.set_cons_succ]; rotate_left
    · clear hS hE
      unfold ag.does
      go_simp
      try exact ⟨rfl, rfl⟩
    refine ag.walk_val (by rfl) (fun W1 hS hE => ?_) ?_
    rotate_left; simp only [Act.put, List.setIfInBounds_toArray, List.set_cons_zero, List.set_cons_succ]; rotate_left
    · have c0 := cell_later hS HC01.out
      clear hS hE
      unfold ag.does
      go_simp
      try exact ⟨rfl, rfl⟩
    refine ag.walk_val (by rfl) (fun W1 hS hE => ?_) ?_
    rotate_left; simp only [Act.put, List.setIfInBounds_toArray, List.set_cons_zero, List.set_cons_succ]; rotate_left
    · clear hS hE
      unfold ag.does
      go_simp
      refine (cmp_int _ _ _).mono ?_
      rintro e w9 ⟨rfl, rfl⟩
      exact ⟨_, rfl, by rw [Hx.out], rfl⟩
    refine ag.walk_val (by rfl) (fun W1 hS hE => ?_) ?_
    rotate_left; simp only [Act.put, List.setIfInBounds_toArray, List.set_cons_zero, List.set_cons_succ]; rotate_left
    · clear hS hE
      unfold ag.does
      go_simp
      try exact ⟨rfl, rfl⟩
    refine ag.walk_val (by rfl) (fun W1 hS hE => ?_) ?_
    rotate_left; simp only [Act.put, List.setIfInBounds_toArray, List.set_cons_zero, List.set_cons_succ]; rotate_left
    · have c0 := cell_later hS HC10.out
      clear hS hE
      unfold ag.does
      go_simp
      try exact ⟨rfl, rfl⟩
    refine ag.walk_val (by rfl) (fun W1 hS hE => ?_) ?_
    rotate_left; simp only [Act.put, List.setIfInBounds_toArray, List.set_cons_zero, List.set_cons_succ]; rotate_left
    · clear hS hE
      unfold ag.does
      go_simp
      try exact ⟨rfl, rfl⟩
    refine ag.walk_val (by rfl) (fun W1 hS hE => ?_) ?_
    rotate_left; simp only [Act.put, List.setIfInBounds_toArray, List.set_cons_zero, List.set_cons_succ]; rotate_left
    · have c0 := cell_later hS HC11.out
      clear hS hE
      unfold ag.does
      go_simp
      try exact ⟨rfl, rfl⟩
    refine ag.walk_val (by rfl) (fun W1 hS hE => ?_) ?_
    rotate_left; simp only [Act.put, List.setIfInBounds_toArray, List.set_cons_zero, List.set_cons_succ]; rotate_left
    · clear hS hE
      unfold ag.does
      go_simp
      refine (cmp_int64 _ _ _).mono ?_
      rintro e w9 ⟨rfl, rfl⟩
      exact ⟨_, rfl, by rw [Hy.out], rfl⟩
    refine ag.walk_val (by rfl) (fun W1 hS hE => ?_) ?_
    rotate_left; simp only [Act.put, List.setIfInBounds_toArray, List.set_cons_zero, List.set_cons_succ]; rotate_left
    · clear hS hE
      unfold ag.does
      go_simp
      try exact ⟨rfl, rfl⟩
    refine ag.walk_val (by rfl) (fun W1 hS hE => ?_) ?_
    rotate_left; simp only [Act.put, List.setIfInBounds_toArray, List.set_cons_zero, List.set_cons_succ]; rotate_left
    · have c0 := cell_later hS HC20.out
      clear hS hE
      unfold ag.does
      go_simp
      try exact ⟨rfl, rfl⟩
    refine ag.walk_val (by rfl) (fun W1 hS hE => ?_) ?_
    rotate_left; simp only [Act.put, List.setIfInBounds_toArray, List.set_cons_zero, List.set_cons_succ]; rotate_left
    · clear hS hE
      unfold ag.does
      go_simp
      try exact ⟨rfl, rfl⟩
    refine ag.walk_val (by rfl) (fun W1 hS hE => ?_) ?_
    rotate_left; simp only [Act.put, List.setIfInBounds_toArray, List.set_cons_zero, List.set_cons_succ]; rotate_left
    · have c0 := cell_later hS HC21.out
      clear hS hE
      unfold ag.does
      go_simp
      try exact ⟨rfl, rfl⟩
    refine ag.walk_val (by rfl) (fun W1 hS hE => ?_) ?_
    rotate_left; simp only [Act.put, List.setIfInBounds_toArray, List.set_cons_zero, List.set_cons_succ]; rotate_left
    · clear hS hE
      unfold ag.does
      go_simp
      refine (cmp_str _ _ _).mono ?_
      rintro e w9 ⟨rfl, rfl⟩
      exact ⟨_, rfl, by rw [Hz.out], rfl⟩
    refine ag.walk_sat (by rfl) (fun W1 hS hE => ?_) (fun y1 => ?_)
    rotate_left; simp only [Act.put, List.setIfInBounds_toArray, List.set_cons_zero, List.set_cons_succ]; rotate_left
    · clear hS hE
      unfold ag.does
      go_simp
      exact ⟨⟨_, 3, rfl, cells_new W1 [_, _, _] _ 0, cells_new W1 [_, _, _] _ 1, cells_new W1 [_, _, _] _ 2⟩, (Below.refl _ _).alloc (Nat.le_refl _) _, ag.News.none (fun _ _ => trivial) _ _⟩
    refine ag.walk_val (by rfl) (fun W1 hS hE => ?_) ?_
    rotate_left; simp only [Act.put, List.setIfInBounds_toArray, List.set_cons_zero, List.set_cons_succ]; rotate_left
    · have h3 : three x y z y1 W1 := hE.get (by kernel_rfl)
      clear hS hE
      obtain ⟨g, cap, rfl, q0, q1, q2⟩ := h3
      unfold ag.does
      go_simp
      (with_reducible refine (or_three x y z W1 g q0 q1 q2 cap).mono ?_)
      rintro e w9 ⟨rfl, rfl⟩
      exact ⟨_, rfl, rfl, rfl⟩
    refine ag.walk_val (by rfl) (fun W1 hS hE => ?_) ?_
    rotate_left; simp only [Act.put, List.setIfInBounds_toArray, List.set_cons_zero, List.set_cons_succ]; rotate_left
    · clear hS hE
      unfold ag.does
      go_simp
      try exact ⟨rfl, rfl⟩
    refine ag.walk_nil (fun w7 hS hF' hP => ?_)
    clear hF' hP
    have HS := Lib.hid hS
    clear hS
    go_wp2
    go_ret
    exact ⟨rfl, HBB.out.trans (HS.out.mono HBB.out.size)⟩

end Go.Proofs.YtpkkhbmlclicfaaDoor.val
