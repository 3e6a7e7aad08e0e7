/- The program's operators on values, walked. -/
import Derived.Test.YtjnlimahcodomaaRows
import Derived.Test.YtjnlimahcodomaaValueP
import Derived.Test.YtjnlimahcodomaaKit
import Derived.WalkLawsBesides
import Derived.Deep.QuietTactic
import Derived.BigQuiet
import Derived.Outline
import Derived.Test.YtjnlimahcodomaaAg
import Derived.Deep.RegionHeld3
import Derived.Deep.CutBlock
import Derived.Deep.DeepCutAuto
import Derived.Lib.Strings
import Derived.Lib.SplitLaws
import Derived.Lib.Replace
namespace Go.Proofs.Ytjnlimahcodomaa.val
set_option linter.unusedVariables false
open Go.RowKit
abbrev TV : TypeId := 33
abbrev TR : TypeId := 26
abbrev ag3 (k n : Int) (s : ByteArray) : Value := .agg #[.int .i64 k, .int .i64 n, .string s]
theorem ret_bool {a b : Bool} (h : a = b) : Ending.returned (.bool a) = .returned (.bool b) := by rw [h]
theorem ret_ib {n : Int} {a b : Bool} (h : a = b) : Ending.returned (.tuple #[.int .i64 n, .bool a]) = .returned (.tuple #[.int .i64 n, .bool b]) := by rw [h]
theorem bcell {W w1 : World} (hb : Below W.heap.size W w1) : (∀ b o, b < W.heap.size → w1.cell? ⟨b, o, none⟩ = W.cell? ⟨b, o, none⟩) ∧ (∀ b o, b < W.heap.size → w1.frozen? ⟨b, o, none⟩ = W.frozen? ⟨b, o, none⟩) :=
  ⟨fun b o h => hb.cell (p := ⟨b, o, none⟩) h, fun b o h => hb.frozen (p := ⟨b, o, none⟩) h⟩
theorem below_alloc1 (W : World) (o : Go.Obj) : Below W.heap.size W (W.alloc o) := (Below.refl _ _).alloc (Nat.le_refl _) _
theorem below_alloc2 (W : World) (o o' : Go.Obj) : Below W.heap.size W ((W.alloc o).alloc o') := ((Below.refl _ _).alloc (Nat.le_refl _) _).alloc (by simp) _
theorem run_eqlV (k n : Int) (s : ByteArray) (k' n' : Int) (s' : ByteArray) (w : World) : (binOp .eql 33 (ag3 k n s) (ag3 k' n' s')).run Try.prog w = .ok (.bool (veq6 k n s k' n' s')) w := by
  rw [run_eql_struct]
  go_simp
  unfold veq6
  by_cases h1 : k = k' <;> by_cases h2 : n = n' <;> by_cases h3 : s.toList = s'.toList <;> simp [h1, h2, h3]
theorem run_neqV (k n : Int) (s : ByteArray) (k' n' : Int) (s' : ByteArray) (w : World) : (binOp .neq 33 (ag3 k n s) (ag3 k' n' s')).run Try.prog w = .ok (.bool (!veq6 k n s k' n' s')) w := by
  rw [run_neq_struct]
  go_simp
  unfold veq6
  by_cases h1 : k = k' <;> by_cases h2 : n = n' <;> by_cases h3 : s.toList = s'.toList <;> simp [h1, h2, h3]
theorem after {W X w1 : World} (h : Below W.heap.size W X) (hb : Below X.heap.size X w1) : Below W.heap.size W w1 := h.trans (hb.mono h.size)
abbrev vv (v : V) : Value := ag3 v.k v.n v.s
theorem ofBool_any (b : Bool) (W : World) : Calls Try.prog 34 #[.bool b] W fun e w' => e = .returned (ag3 (ofB b).k (ofB b).n (ofB b).s) ∧ Below W.heap.size W w' := by
  cases b
  all_goals
    go_enter Try.func34, Try.ntmps34
    go_wp2
    exact bodyPost_ret (v := ag3 _ _ _) (by simp [results, Try.results34, go_sem]; exact ⟨rfl, rfl, rfl⟩) rfl ⟨rfl, below_alloc1 _ _⟩
theorem ofInt_any (n : Int) (W : World) : Calls Try.prog 19 #[.int .i64 n] W fun e w' => e = .returned (ag3 2 n ByteArray.empty) ∧ Below W.heap.size W w' := by
  go_enter Try.func19, Try.ntmps19
  go_wp2
  exact bodyPost_ret (v := ag3 _ _ _) (by simp [results, Try.results19, go_sem]; rfl) rfl ⟨rfl, below_alloc1 _ _⟩
theorem ofText_any (s : ByteArray) (W : World) : Calls Try.prog 20 #[.string s] W fun e w' => e = .returned (ag3 3 0 s) ∧ Below W.heap.size W w' := by
  go_enter Try.func20, Try.ntmps20
  go_wp2
  exact bodyPost_ret (v := ag3 _ _ _) (by simp [results, Try.results20, go_sem]) rfl ⟨rfl, below_alloc1 _ _⟩
theorem fit_any (op ka na kb nb : Int) (sa sb : ByteArray) (W : World) : Calls Try.prog 47 #[.int .i64 op, ag3 ka na sa, ag3 kb nb sb] W fun e w' => e = .returned (.bool (fitB op ka kb)) ∧ Below W.heap.size W w' := by
  go_enter Try.func47, Try.ntmps47
  go_wp2
  all_goals go_ret
  all_goals refine ⟨ret_bool ?_, below_alloc2 _ _ _⟩
  all_goals (unfold fitB; repeat' split)
  all_goals first
    | omega
    | (simp_all; done)
    | (simp_all; omega)
theorem holds_any (op o : Int) (W : World) : Calls Try.prog 49 #[.int .i64 op, .int .i64 o] W fun e w' => e = .returned (.bool (if op = 1 then o == 0 else if op = 2 then o != 0 else if op = 3 then decide (o < 0) else if op = 4 then decide (o ≤ 0) else if op = 5 then decide (0 < o) else decide (0 ≤ o))) ∧ W = w' := by
  go_enter Try.func49, Try.ntmps49
  go_wp2
  all_goals go_ret
  all_goals refine ⟨ret_bool ?_, rfl⟩
  all_goals repeat' split
  all_goals first
    | omega
    | rfl
    | (simp_all; done)
    | (simp_all; omega)
attribute [local go_sem high] run_eqlV run_neqV
set_option maxHeartbeats 1000000 in
theorem logic_any (op ka na kb nb : Int) (sa sb : ByteArray) (W : World) : Calls Try.prog 48 #[.int .i64 op, ag3 ka na sa, ag3 kb nb sb] W fun e w' => e = .returned (vv (logicV op ⟨ka, na, sa⟩ ⟨kb, nb, sb⟩)) ∧ Below W.heap.size W w' := by
  by_cases hka : ka = 0
  · subst hka
    go_enter Try.func48, Try.ntmps48
    go_wp2_with (go_at_call 34; ((refine (ofBool_any _ _).mono ?_; rintro e w1 ⟨rfl, hb1⟩; have hB1 : Below W.heap.size W w1 := after (by (repeat' (first | assumption | exact Below.refl _ _ | apply Below.setCell | apply Below.alloc)); all_goals (first | omega | (simp; omega) | (simp; done))) hb1; obtain ⟨hc1, hf1⟩ := bcell hb1; have hz1 := hb1.size; simp at hz1; simp only [World.size_alloc] at hc1 hf1; have hy1 : W.heap.size < w1.heap.size := (by omega); have hy2 : W.heap.size + 1 < w1.heap.size := (by omega); have hy3 : W.heap.size + 1 + 1 < w1.heap.size := (by omega))))
    all_goals refine bodyPost_ret (v := vv (logicV op _ _)) ?_ rfl ⟨rfl, ?_⟩
    any_goals (repeat' (first | assumption | apply Below.setCell | apply Below.alloc))
    any_goals (first | omega | (simp; omega) | (simp; done))
    all_goals (simp only [results, Try.results48]; go_simp)
    all_goals first
      | (rw [logic_yes (.inl ‹_›)]; exact ⟨rfl, rfl, rfl⟩)
      | (rw [logic_yes (.inr ‹_›)]; exact ⟨rfl, rfl, rfl⟩)
      | (rw [logic_null ‹_› ‹_› (.inl rfl)]; exact ⟨rfl, rfl, rfl⟩)
  · have ka0 : (ka == 0) = false := by simpa using hka
    by_cases hkb : kb = 0
    · subst hkb
      go_enter Try.func48, Try.ntmps48
      go_wp2_with (go_at_call 34; ((refine (ofBool_any _ _).mono ?_; rintro e w1 ⟨rfl, hb1⟩; have hB1 : Below W.heap.size W w1 := after (by (repeat' (first | assumption | exact Below.refl _ _ | apply Below.setCell | apply Below.alloc)); all_goals (first | omega | (simp; omega) | (simp; done))) hb1; obtain ⟨hc1, hf1⟩ := bcell hb1; have hz1 := hb1.size; simp at hz1; simp only [World.size_alloc] at hc1 hf1; have hy1 : W.heap.size < w1.heap.size := (by omega); have hy2 : W.heap.size + 1 < w1.heap.size := (by omega); have hy3 : W.heap.size + 1 + 1 < w1.heap.size := (by omega))))
      all_goals refine bodyPost_ret (v := vv (logicV op _ _)) ?_ rfl ⟨rfl, ?_⟩
      any_goals (repeat' (first | assumption | apply Below.setCell | apply Below.alloc))
      any_goals (first | omega | (simp; omega) | (simp; done))
      all_goals (simp only [results, Try.results48]; go_simp)
      all_goals first
        | (rw [logic_yes (.inl ‹_›)]; exact ⟨rfl, rfl, rfl⟩)
        | (rw [logic_yes (.inr ‹_›)]; exact ⟨rfl, rfl, rfl⟩)
        | (rw [logic_null ‹_› ‹_› (.inr rfl)]; exact ⟨rfl, rfl, rfl⟩)
    · have kb0 : (kb == 0) = false := by simpa using hkb
      have hno : ¬ (ka = 0 ∨ kb = 0) := fun h => h.elim hka hkb
      have HNO := Lib.hid hno
      clear hno hka hkb
      go_enter Try.func48, Try.ntmps48
      go_wp2_with (go_at_call 34; ((refine (ofBool_any _ _).mono ?_; rintro e w1 ⟨rfl, hb1⟩; have hB1 : Below W.heap.size W w1 := after (by (repeat' (first | assumption | exact Below.refl _ _ | apply Below.setCell | apply Below.alloc)); all_goals (first | omega | (simp; omega) | (simp; done))) hb1; obtain ⟨hc1, hf1⟩ := bcell hb1; have hz1 := hb1.size; simp at hz1; simp only [World.size_alloc] at hc1 hf1; have hy1 : W.heap.size < w1.heap.size := (by omega); have hy2 : W.heap.size + 1 < w1.heap.size := (by omega); have hy3 : W.heap.size + 1 + 1 < w1.heap.size := (by omega))))
      all_goals refine bodyPost_ret (v := vv (logicV op _ _)) ?_ rfl ⟨rfl, ?_⟩
      any_goals (repeat' (first | assumption | apply Below.setCell | apply Below.alloc))
      any_goals (first | omega | (simp; omega) | (simp; done))
      all_goals (simp only [results, Try.results48]; go_simp)
      all_goals first
        | (rw [logic_yes (.inl ‹_›)]; exact ⟨rfl, rfl, rfl⟩)
        | (rw [logic_yes (.inr ‹_›)]; exact ⟨rfl, rfl, rfl⟩)
        | (rw [logic_rest ‹_› ‹_› HNO.out]; exact ⟨rfl, rfl, rfl⟩)
theorem times_any (a b : Int) (ha : -9223372036854775808 ≤ a ∧ a ≤ 9223372036854775807) (hb : -9223372036854775808 ≤ b ∧ b ≤ 9223372036854775807) (W : World) :
    Calls Try.prog 58 #[.int .i64 a, .int .i64 b] W fun e w' => ∃ m, e = .returned (.tuple #[.int .i64 m, .bool (timesB a b)]) ∧ (timesB a b = true → m = timesN a b) ∧ Below W.heap.size W w' := by
  by_cases h0 : a = 0
  · subst h0
    have hx := Lib.hid (times_zero 0 b (.inl rfl))
    go_enter Try.func58, Try.ntmps58
    go_wp2
    go_ret2
    exact ⟨0, (ret_ib hx.out.2.symm), fun _ => hx.out.1.symm, Below.refl _ _⟩
  · have a0 : (a == 0) = false := by simpa using h0
    by_cases h1 : b = 0
    · subst h1
      have hx := Lib.hid (times_zero a 0 (.inr rfl))
      go_enter Try.func58, Try.ntmps58
      go_wp2
      go_ret2
      exact ⟨0, (ret_ib hx.out.2.symm), fun _ => hx.out.1.symm, Below.refl _ _⟩
    · have b0 : (b == 0) = false := by simpa using h1
      have hq := Lib.hid (times_q a b ha hb h1)
      by_cases h2 : b = -1 ∧ a = -9223372036854775808
      · obtain ⟨rfl, rfl⟩ := h2
        go_enter Try.func58, Try.ntmps58
        go_wp2
        go_ret2
        exact ⟨0, rfl, fun _ => rfl, Below.refl _ _⟩
      · have hm : (b == -1 && a == -9223372036854775808) = false := by simpa using h2
        by_cases h3 : b = -1
        · subst h3
          have a1 : (a == -9223372036854775808) = false := by simpa using h2
          go_enter Try.func58, Try.ntmps58
          go_wp2
          go_quiet (fail)
          go_wp2
          go_ret2
          have hn : a * (-1) = -a := by omega
          have ha1 : a ≠ -9223372036854775808 := by simpa using a1
          have hB : timesB a (-1) = true := by unfold timesB; rw [hn, Bool.and_eq_true, decide_eq_true_eq, decide_eq_true_eq]; omega
          have hN : timesN a (-1) = -a := by unfold timesN; rw [hn, if_pos (by omega)]
          exact ⟨-a, ret_ib hB.symm, fun _ => hN.symm, below_drewN (Below.refl _ _) _⟩
        · have b1 : (b == -1) = false := by simpa using h3
          go_enter Try.func58, Try.ntmps58
          go_wp2
          go_quiet (fail)
          go_wp2
          go_ret2
          rw [← IntWalk.i64_left, ← IntWalk.i64_left]
          rw [wrap_tdiv (a * b) b h1 h3]
          exact ⟨_, ret_ib hq.out.1, hq.out.2, below_drewN (Below.refl _ _) _⟩
end Go.Proofs.Ytjnlimahcodomaa.val
/- The program's operators on values, walked: arithmetic, comparisons, all of Do. -/
namespace Go.Proofs.Ytjnlimahcodomaa.val
set_option linter.unusedVariables false
open Go.RowKit
attribute [local go_sem high] run_eqlV run_neqV
attribute [local go_sem] ag.upon_value ag.upon_skip ag.upon_enter
attribute [local go_sem] Oper.semAt_some
theorem ret_ii {n m a b : Int} (h1 : n = m) (h : a = b) : Ending.returned (.tuple #[.int .i64 n, .int .i64 a]) = .returned (.tuple #[.int .i64 m, .int .i64 b]) := by rw [h, h1]
theorem countV_of {op a b : Int} (h : ¬ (b = 0 ∧ (op = 10 ∨ op = 11))) : countV op a b = if -9223372036854775808 ≤ exact op a b ∧ exact op a b ≤ 9223372036854775807 then (exact op a b, 0) else (0, 8) := by unfold countV; rw [if_neg h]
abbrev InR (n : Int) : Prop := -9223372036854775808 ≤ n ∧ n ≤ 9223372036854775807
theorem w64 (n : Int) : wrap64 n = (n + 9223372036854775808) % 18446744073709551616 - 9223372036854775808 := by rw [← IntWalk.i64_left, IntKind.wrap_i64]
theorem cadd (a b : Int) (ha : -9223372036854775808 ≤ a ∧ a ≤ 9223372036854775807) (hb : -9223372036854775808 ≤ b ∧ b ≤ 9223372036854775807) : (decide (a < wrap64 (a + b)) == decide (0 < b)) = decide (InR (a + b)) ∧ (InR (a + b) → wrap64 (a + b) = a + b) := by
  rw [w64]
  refine ⟨?_, fun h => by omega⟩
  by_cases h1 : a < (a + b + 9223372036854775808) % 18446744073709551616 - 9223372036854775808 <;> by_cases h2 : 0 < b <;> by_cases h3 : InR (a + b) <;> simp only [h1, h2, h3, decide_true, decide_false] <;> first | rfl | omega | simp [h1, h2, h3]
theorem csub (a b : Int) (ha : -9223372036854775808 ≤ a ∧ a ≤ 9223372036854775807) (hb : -9223372036854775808 ≤ b ∧ b ≤ 9223372036854775807) : (decide (wrap64 (a - b) < a) == decide (0 < b)) = decide (InR (a - b)) ∧ (InR (a - b) → wrap64 (a - b) = a - b) := by
  rw [w64]
  refine ⟨?_, fun h => by omega⟩
  by_cases h1 : (a - b + 9223372036854775808) % 18446744073709551616 - 9223372036854775808 < a <;> by_cases h2 : 0 < b <;> by_cases h3 : InR (a - b) <;> simp only [h1, h2, h3, decide_true, decide_false] <;> first | rfl | omega | simp [h1, h2, h3]
theorem cV (op a b r : Int) (hr : exact op a b = r) (h : ¬ (b = 0 ∧ (op = 10 ∨ op = 11))) : (InR r → countV op a b = (r, 0)) ∧ (¬ InR r → countV op a b = (0, 8)) := by
  subst hr
  rw [countV_of h]
  exact ⟨fun h => if_pos h, fun h => if_neg h⟩
set_option maxHeartbeats 1000000 in
theorem count_add (a b : Int) (ha : -9223372036854775808 ≤ a ∧ a ≤ 9223372036854775807) (hb : -9223372036854775808 ≤ b ∧ b ≤ 9223372036854775807) (W : World) :
    Calls Try.prog 51 #[.int .i64 7, .int .i64 a, .int .i64 b] W fun e w' => e = .returned (.tuple #[.int .i64 (countV 7 a b).1, .int .i64 (countV 7 a b).2]) ∧ Below W.heap.size W w' := by
  have hc := cadd a b ha hb
  have hv := cV 7 a b (a + b) rfl (by omega)
  have b0 : b = 0 → (b == 0) = true := fun h => by simp [h]
  by_cases hr : InR (a + b)
  · have hok : (decide (a < wrap64 (a + b)) == decide (0 < b)) = true := by rw [hc.1, decide_eq_true hr]
    have hok2 : (!(decide (a < wrap64 (a + b)) == decide (0 < b))) = false := by rw [hok]; rfl
    have e1 := hc.2 hr
    have e2 := hv.1 hr
    have E1 := Lib.hid e1; have E2 := Lib.hid e2
    clear hc hv e1 e2 hr b0
    cases hb0 : (b == 0)
    · go_enter Try.func51, Try.ntmps51
      go_wp2
      go_ret2
      exact ⟨ret_ii (by rw [E2.out]; exact E1.out) (by rw [E2.out]), Below.refl _ _⟩
    · obtain rfl : b = 0 := by simpa using hb0
      clear hok hok2 hb0
      go_enter Try.func51, Try.ntmps51
      go_wp2
      go_ret2
      exact ⟨ret_ii (by rw [E2.out]; simp) (by rw [E2.out]), Below.refl _ _⟩
  · have hok : (decide (a < wrap64 (a + b)) == decide (0 < b)) = false := by rw [hc.1, decide_eq_false hr]
    have hok2 : (!(decide (a < wrap64 (a + b)) == decide (0 < b))) = true := by rw [hok]; rfl
    have e2 := hv.2 hr
    have E2 := Lib.hid e2
    have hb0 : (b == 0) = false := by simp; intro h; subst h; exact hr (by unfold InR; omega)
    clear hc hv e2 hr b0
    go_enter Try.func51, Try.ntmps51
    go_wp2
    go_ret2
    exact ⟨ret_ii (by rw [E2.out]) (by rw [E2.out]), Below.refl _ _⟩
set_option maxHeartbeats 1000000 in
theorem count_sub (a b : Int) (ha : -9223372036854775808 ≤ a ∧ a ≤ 9223372036854775807) (hb : -9223372036854775808 ≤ b ∧ b ≤ 9223372036854775807) (W : World) :
    Calls Try.prog 51 #[.int .i64 8, .int .i64 a, .int .i64 b] W fun e w' => e = .returned (.tuple #[.int .i64 (countV 8 a b).1, .int .i64 (countV 8 a b).2]) ∧ Below W.heap.size W w' := by
  have hc := csub a b ha hb
  have hv := cV 8 a b (a - b) rfl (by omega)
  have b0 : b = 0 → (b == 0) = true := fun h => by simp [h]
  by_cases hr : InR (a - b)
  · have hok : (decide (wrap64 (a - b) < a) == decide (0 < b)) = true := by rw [hc.1, decide_eq_true hr]
    have hok2 : (!(decide (wrap64 (a - b) < a) == decide (0 < b))) = false := by rw [hok]; rfl
    have e1 := hc.2 hr
    have e2 := hv.1 hr
    have E1 := Lib.hid e1; have E2 := Lib.hid e2
    clear hc hv e1 e2 hr b0
    cases hb0 : (b == 0)
    · go_enter Try.func51, Try.ntmps51
      go_wp2
      go_ret2
      exact ⟨ret_ii (by rw [E2.out]; exact E1.out) (by rw [E2.out]), Below.refl _ _⟩
    · obtain rfl : b = 0 := by simpa using hb0
      clear hok hok2 hb0
      go_enter Try.func51, Try.ntmps51
      go_wp2
      go_ret2
      exact ⟨ret_ii (by rw [E2.out]; simp) (by rw [E2.out]), Below.refl _ _⟩
  · have hok : (decide (wrap64 (a - b) < a) == decide (0 < b)) = false := by rw [hc.1, decide_eq_false hr]
    have hok2 : (!(decide (wrap64 (a - b) < a) == decide (0 < b))) = true := by rw [hok]; rfl
    have e2 := hv.2 hr
    have E2 := Lib.hid e2
    have hb0 : (b == 0) = false := by simp; intro h; subst h; exact hr (by unfold InR; omega)
    clear hc hv e2 hr b0
    go_enter Try.func51, Try.ntmps51
    go_wp2
    go_ret2
    exact ⟨ret_ii (by rw [E2.out]) (by rw [E2.out]), Below.refl _ _⟩
set_option maxHeartbeats 1000000 in
theorem count_mul (a b : Int) (ha : -9223372036854775808 ≤ a ∧ a ≤ 9223372036854775807) (hb : -9223372036854775808 ≤ b ∧ b ≤ 9223372036854775807) (W : World) :
    Calls Try.prog 51 #[.int .i64 9, .int .i64 a, .int .i64 b] W fun e w' => e = .returned (.tuple #[.int .i64 (countV 9 a b).1, .int .i64 (countV 9 a b).2]) ∧ Below W.heap.size W w' := by
  have hv := cV 9 a b (a * b) rfl (by omega)
  have hB : timesB a b = decide (InR (a * b)) := by unfold timesB InR; rw [Bool.eq_iff_iff]; simp
  have hN : InR (a * b) → timesN a b = a * b := fun h => by unfold timesN; rw [if_pos h]
  have HT := Lib.hid (times_any a b ha hb W)
  cases hr : timesB a b
  · have hn : ¬ InR (a * b) := by rw [hr] at hB; exact of_decide_eq_false hB.symm
    have E2 := Lib.hid (hv.2 hn)
    have hb0 : (b == 0) = false := by simp; intro h; subst h; exact hn (by unfold InR; omega)
    rw [hr] at HT
    clear hv hB hN hr hn
    go_enter Try.func51, Try.ntmps51
    go_wp2_with (go_at_call 58; ((with_reducible refine HT.out.mono ?_); rintro e w1 ⟨m, rfl, hm, hb1⟩))
    go_ret2
    exact ⟨ret_ii (by rw [E2.out]) (by rw [E2.out]), hb1⟩
  · have hn : InR (a * b) := by rw [hr] at hB; exact of_decide_eq_true hB.symm
    have E2 := Lib.hid (hv.1 hn)
    have E3 := Lib.hid (hN hn)
    rw [hr] at HT
    clear hv hB hN hr hn
    cases hb0 : (b == 0)
    · go_enter Try.func51, Try.ntmps51
      go_wp2_with (go_at_call 58; ((with_reducible refine HT.out.mono ?_); rintro e w1 ⟨m, rfl, hm, hb1⟩; have HM := Lib.hid (hm rfl); clear hm))
      go_ret2
      exact ⟨ret_ii (by rw [E2.out, HM.out, E3.out]) (by rw [E2.out]), hb1⟩
    · obtain rfl : b = 0 := by simpa using hb0
      clear hb0
      go_enter Try.func51, Try.ntmps51
      go_wp2_with (go_at_call 58; ((with_reducible refine HT.out.mono ?_); rintro e w1 ⟨m, rfl, hm, hb1⟩; have HM := Lib.hid (hm rfl); clear hm))
      go_ret2
      exact ⟨ret_ii (by rw [E2.out, HM.out, E3.out]) (by rw [E2.out]), hb1⟩
set_option maxHeartbeats 1000000 in
theorem count_zero (op a : Int) (hop : op = 10 ∨ op = 11) (W : World) :
    Calls Try.prog 51 #[.int .i64 op, .int .i64 a, .int .i64 0] W fun e w' => e = .returned (.tuple #[.int .i64 (countV op a 0).1, .int .i64 (countV op a 0).2]) ∧ Below W.heap.size W w' := by
  have E := Lib.hid (show countV op a 0 = (0, 9) by unfold countV; rw [if_pos ⟨rfl, hop⟩])
  rcases hop with rfl | rfl
  all_goals
    go_enter Try.func51, Try.ntmps51
    go_wp2
    go_ret2
    exact ⟨ret_ii (by rw [E.out]) (by rw [E.out]), Below.refl _ _⟩
set_option maxHeartbeats 1000000 in
theorem count_div (a b : Int) (ha : -9223372036854775808 ≤ a ∧ a ≤ 9223372036854775807) (hb : -9223372036854775808 ≤ b ∧ b ≤ 9223372036854775807) (h0 : b ≠ 0) (W : World) :
    Calls Try.prog 51 #[.int .i64 10, .int .i64 a, .int .i64 b] W fun e w' => e = .returned (.tuple #[.int .i64 (countV 10 a b).1, .int .i64 (countV 10 a b).2]) ∧ Below W.heap.size W w' := by
  have hv := cV 10 a b (a.tdiv b) rfl (by omega)
  have b0 : (b == 0) = false := by simpa using h0
  by_cases h1 : a = -9223372036854775808 ∧ b = -1
  · obtain ⟨rfl, rfl⟩ := h1
    have E := Lib.hid (hv.2 (by decide))
    clear hv b0 h0
    go_enter Try.func51, Try.ntmps51
    go_wp2
    go_ret2
    exact ⟨ret_ii (by rw [E.out]) (by rw [E.out]), Below.refl _ _⟩
  · have hr : InR (a.tdiv b) := tdiv_in a b ha h0 h1
    have E := Lib.hid (hv.1 hr)
    have hw : wrap64 (a.tdiv b) = a.tdiv b := by rw [w64]; omega
    have HW := Lib.hid hw
    clear hv hr hw
    by_cases ha1 : a = -9223372036854775808
    · subst ha1
      have ht : (b != -1) = true := by rw [bne_iff_ne]; omega
      have ht2 : (b == -1) = false := by simp; omega
      clear h1
      go_enter Try.func51, Try.ntmps51
      go_wp2
      go_ret2
      exact ⟨ret_ii (by rw [E.out, ← Int.neg_tdiv]; exact HW.out) (by rw [E.out]), Below.refl _ _⟩
    · have ht : (a != -9223372036854775808) = true := by rw [bne_iff_ne]; exact ha1
      have ht2 : (a == -9223372036854775808) = false := by simpa using ha1
      clear h1 ha1
      go_enter Try.func51, Try.ntmps51
      go_wp2
      go_ret2
      exact ⟨ret_ii (by rw [E.out]; exact HW.out) (by rw [E.out]), Below.refl _ _⟩
set_option maxHeartbeats 1000000 in
theorem count_mod (a b : Int) (ha : -9223372036854775808 ≤ a ∧ a ≤ 9223372036854775807) (hb : -9223372036854775808 ≤ b ∧ b ≤ 9223372036854775807) (h0 : b ≠ 0) (W : World) :
    Calls Try.prog 51 #[.int .i64 11, .int .i64 a, .int .i64 b] W fun e w' => e = .returned (.tuple #[.int .i64 (countV 11 a b).1, .int .i64 (countV 11 a b).2]) ∧ Below W.heap.size W w' := by
  have hv := cV 11 a b (a.tmod b) rfl (by omega)
  have b0 : (b == 0) = false := by simpa using h0
  have hi := tmod_in a b h0
  have hr : InR (a.tmod b) := by unfold InR; omega
  have E := Lib.hid (hv.1 hr)
  have hw : wrap64 (a.tmod b) = a.tmod b := by rw [w64]; omega
  have HW := Lib.hid hw
  clear hv hr hw hi
  go_enter Try.func51, Try.ntmps51
  go_wp2
  go_ret2
  exact ⟨ret_ii (by rw [E.out]) (by rw [E.out]), Below.refl _ _⟩
/-- What two numbers give. -/
theorem count_any (op a b : Int) (hop : 7 ≤ op ∧ op ≤ 11) (ha : -9223372036854775808 ≤ a ∧ a ≤ 9223372036854775807) (hb : -9223372036854775808 ≤ b ∧ b ≤ 9223372036854775807) (W : World) :
    Calls Try.prog 51 #[.int .i64 op, .int .i64 a, .int .i64 b] W fun e w' => e = .returned (.tuple #[.int .i64 (countV op a b).1, .int .i64 (countV op a b).2]) ∧ Below W.heap.size W w' := by
  obtain rfl | rfl | rfl | rfl | rfl : op = 7 ∨ op = 8 ∨ op = 9 ∨ op = 10 ∨ op = 11 := by omega
  · exact count_add a b ha hb W
  · exact count_sub a b ha hb W
  · exact count_mul a b ha hb W
  · by_cases h0 : b = 0
    · subst h0; exact count_zero 10 a (.inl rfl) W
    · exact count_div a b ha hb h0 W
  · by_cases h0 : b = 0
    · subst h0; exact count_zero 11 a (.inr rfl) W
    · exact count_mod a b ha hb h0 W
/-! ### cmp's -/
theorem isNaN_int (x : Int) (W : World) : Calls Try.prog 59 #[.int .i64 x] W fun e w' => e = .returned (.bool false) ∧ W = w' := by
  go_enter Try.func59, Try.ntmps59
  go_wp2
  all_goals go_ret
  all_goals exact ⟨ret_bool (by simp), rfl⟩
theorem isNaN_int64 (x : Int) (W : World) : Calls Try.prog 60 #[.int .i64 x] W fun e w' => e = .returned (.bool false) ∧ W = w' := by
  go_enter Try.func60, Try.ntmps60
  go_wp2
  all_goals go_ret
  all_goals exact ⟨ret_bool (by simp), rfl⟩
theorem isNaN_str (x : ByteArray) (W : World) : Calls Try.prog 61 #[.string x] W fun e w' => e = .returned (.bool false) ∧ W = w' := by
  go_enter Try.func61, Try.ntmps61
  go_wp2
  all_goals go_ret
  all_goals exact ⟨ret_bool (by simp), rfl⟩
/-- the order of two numbers -/
def cmpI (a b : Int) : Int := if a < b then -1 else if b < a then 1 else 0
def cmpS (a b : ByteArray) : Int := if Op.bytesLess a.toList b.toList = true then -1 else if Op.bytesLess b.toList a.toList = true then 1 else 0
def cmpV (a b : V) : Int := if cmpI a.k b.k ≠ 0 then cmpI a.k b.k else if cmpI a.n b.n ≠ 0 then cmpI a.n b.n else cmpS a.s b.s
theorem cmp_int (a b : Int) (W : World) : Calls Try.prog 55 #[.int .i64 a, .int .i64 b] W fun e w' => e = .returned (.int .i64 (cmpI a b)) ∧ W = w' := by
  go_enter Try.func55, Try.ntmps55
  go_wp2_with (go_at_call 59; (refine (isNaN_int _ _).mono ?_; rintro e w1 ⟨rfl, rfl⟩))
  all_goals go_ret
  all_goals exact ⟨ret_i64 (by unfold cmpI; (repeat' split) <;> omega), rfl⟩
theorem cmp_int64 (a b : Int) (W : World) : Calls Try.prog 56 #[.int .i64 a, .int .i64 b] W fun e w' => e = .returned (.int .i64 (cmpI a b)) ∧ W = w' := by
  go_enter Try.func56, Try.ntmps56
  go_wp2_with (go_at_call 60; (refine (isNaN_int64 _ _).mono ?_; rintro e w1 ⟨rfl, rfl⟩))
  all_goals go_ret
  all_goals exact ⟨ret_i64 (by unfold cmpI; (repeat' split) <;> omega), rfl⟩
theorem cmp_str (a b : ByteArray) (W : World) : Calls Try.prog 57 #[.string a, .string b] W fun e w' => e = .returned (.int .i64 (cmpS a b)) ∧ W = w' := by
  go_enter Try.func57, Try.ntmps57
  go_wp2_with (go_at_call 61; (refine (isNaN_str _ _).mono ?_; rintro e w1 ⟨rfl, rfl⟩))
  all_goals go_ret
  · exact ⟨ret_i64 (by unfold cmpS; rw [if_pos ‹_›]), rfl⟩
  · have h1 : Op.bytesLess a.toList b.toList = false := by assumption
    have h2 : (!a.toList == b.toList) = true := by assumption
    have h3 : Op.bytesLess b.toList a.toList = true := by
      cases h : Op.bytesLess b.toList a.toList
      · have := bl_total _ _ h1 h
        rw [this] at h2; simp at h2
      · rfl
    exact ⟨ret_i64 (by unfold cmpS; rw [if_neg (by rw [h1]; decide), if_pos h3]), rfl⟩
  · have h2 : (!a.toList == b.toList) = false := by assumption
    have h3 : a.toList = b.toList := by simpa using h2
    exact ⟨ret_i64 (by unfold cmpS; rw [h3, bl_irrefl]; rfl), rfl⟩
/-- cmp.Or of three: the first that is not 0. -/
def or3 (x y z : Int) : Int := if x ≠ 0 then x else if y ≠ 0 then y else z
theorem or_three (x y z : Int) (W : World) (g : Nat) (hx : W.cell? ⟨g, 0, none⟩ = some (.int .i64 x)) (hy : W.cell? ⟨g, 1, none⟩ = some (.int .i64 y)) (hz : W.cell? ⟨g, 2, none⟩ = some (.int .i64 z)) (cap : Nat) :
    Calls Try.prog 54 #[.slice (some ⟨g, 0, none⟩) 3 cap] W fun e w' => e = .returned (.int .i64 (or3 x y z)) ∧ W = w' := by
  by_cases h1 : x = 0
  · subst h1
    by_cases h2 : y = 0
    · subst h2
      by_cases h3 : z = 0
      · subst h3
        go_enter Try.func54, Try.ntmps54
        go_wp2
        refine wp_loop_rounds 4 ?_
        rw [rounds_succ]
        go_wp2
        rw [rounds_succ]
        go_wp2
        rw [rounds_succ]
        go_wp2
        rw [rounds_succ]
        go_wp2
        go_ret
        exact ⟨rfl, rfl⟩
      · have z0 : (z == 0) = false := by simpa using h3
        have z1 : (z != 0) = true := by simpa using h3
        clear h3
        go_enter Try.func54, Try.ntmps54
        go_wp2
        refine wp_loop_rounds 4 ?_
        rw [rounds_succ]
        go_wp2
        rw [rounds_succ]
        go_wp2
        rw [rounds_succ]
        go_wp2
        go_ret
        exact ⟨ret_i64 (by unfold or3; simp), rfl⟩
    · have y0 : (y == 0) = false := by simpa using h2
      have y1 : (y != 0) = true := by simpa using h2
      have E := Lib.hid h2
      clear h2
      go_enter Try.func54, Try.ntmps54
      go_wp2
      refine wp_loop_rounds 4 ?_
      rw [rounds_succ]
      go_wp2
      rw [rounds_succ]
      go_wp2
      go_ret
      exact ⟨ret_i64 (by unfold or3; simp [E.out]), rfl⟩
  · have x0 : (x == 0) = false := by simpa using h1
    have x1 : (x != 0) = true := by simpa using h1
    have E := Lib.hid h1
    clear h1
    go_enter Try.func54, Try.ntmps54
    go_wp2
    refine wp_loop_rounds 4 ?_
    rw [rounds_succ]
    go_wp2
    go_ret
    exact ⟨ret_i64 (by unfold or3; simp [E.out]), rfl⟩
/-- three numbers in a new row -/
def three (x y z : Int) (v : Value) (w : World) : Prop := ∃ g cap, v = .slice (some ⟨g, 0, none⟩) 3 cap ∧ w.cell? ⟨g, 0, none⟩ = some (.int .i64 x) ∧ w.cell? ⟨g, 1, none⟩ = some (.int .i64 y) ∧ w.cell? ⟨g, 2, none⟩ = some (.int .i64 z)
set_option maxRecDepth 100000 in
set_option maxHeartbeats 2000000 in
theorem compare_any (ka na kb nb : Int) (sa sb : ByteArray) (W : World) : Calls Try.prog 50 #[ag3 ka na sa, ag3 kb nb sb] W fun e w' => e = .returned (.int .i64 (cmpV ⟨ka, na, sa⟩ ⟨kb, nb, sb⟩)) ∧ Below W.heap.size W w' := by
  have e : or3 (cmpI ka kb) (cmpI na nb) (cmpS sa sb) = cmpV ⟨ka, na, sa⟩ ⟨kb, nb, sb⟩ := rfl
  rw [← e]
  clear e
  obtain ⟨x, hx⟩ : ∃ x, cmpI ka kb = x := ⟨_, rfl⟩
  obtain ⟨y, hy⟩ : ∃ y, cmpI na nb = y := ⟨_, rfl⟩
  obtain ⟨z, hz⟩ : ∃ z, cmpS sa sb = z := ⟨_, rfl⟩
  rw [hx, hy, hz]
  have Hx := Lib.hid hx; have Hy := Lib.hid hy; have Hz := Lib.hid hz
  clear hx hy hz
  go_enter Try.func50, Try.ntmps50
  go_wp2
  have hb1 : ∀ i v, [Value.int .i64 kb, .int .i64 nb, .string sb][i]? = some v → ((W.alloc (.cells #[.int .i64 ka, .int .i64 na, .string sa] TV)).alloc (.cells #[.int .i64 kb, .int .i64 nb, .string sb] TV)).cell? ⟨W.heap.size + 1, i, none⟩ = some v := fun i v h => by
    have := cells_new (W.alloc (.cells #[.int .i64 ka, .int .i64 na, .string sa] TV)) [Value.int .i64 kb, .int .i64 nb, .string sb] TV i
    rw [World.size_alloc] at this
    exact this.trans h
  have hb0 : ∀ i v, [Value.int .i64 ka, .int .i64 na, .string sa][i]? = some v → ((W.alloc (.cells #[.int .i64 ka, .int .i64 na, .string sa] TV)).alloc (.cells #[.int .i64 kb, .int .i64 nb, .string sb] TV)).cell? ⟨W.heap.size, i, none⟩ = some v := fun i v h => by
    exact cell_later ((Below.refl _ _).alloc (Nat.le_refl _) _) ((cells_new W [Value.int .i64 ka, .int .i64 na, .string sa] TV i).trans h)
  have HC00 := Lib.hid (hb0 0 _ rfl); have HC10 := Lib.hid (hb0 1 _ rfl); have HC20 := Lib.hid (hb0 2 _ rfl)
  have HC01 := Lib.hid (hb1 0 _ rfl); have HC11 := Lib.hid (hb1 1 _ rfl); have HC21 := Lib.hid (hb1 2 _ rfl)
  have HBB := Lib.hid (below_alloc2 W (.cells #[.int .i64 ka, .int .i64 na, .string sa] TV) (.cells #[.int .i64 kb, .int .i64 nb, .string sb] TV))
  clear hb0 hb1
  generalize (W.alloc (.cells #[.int .i64 ka, .int .i64 na, .string sa] TV)).alloc (.cells #[.int .i64 kb, .int .i64 nb, .string sb] TV) = X at *
  refine ag.region_ag (fun W1 => Below X.heap.size X W1) (fun _ _ _ _ => True)
    [.val (.pointer (some ⟨W.heap.size, 0, none⟩)), .val (.int .i64 ka), .val (.pointer (some ⟨W.heap.size + 1, 0, none⟩)), .val (.int .i64 kb), .val (.int .i64 x), .val (.pointer (some ⟨W.heap.size, 1, none⟩)), .val (.int .i64 na), .val (.pointer (some ⟨W.heap.size + 1, 1, none⟩)), .val (.int .i64 nb), .val (.int .i64 y), .val (.pointer (some ⟨W.heap.size, 2, none⟩)), .val (.string sa), .val (.pointer (some ⟨W.heap.size + 1, 2, none⟩)), .val (.string sb), .val (.int .i64 z), .sat (three x y z) (fun _ w w' => Below w.heap.size w w'), .val (.int .i64 (or3 x y z)), .val (.int .i64 (or3 x y z))]
    (by kernel_rfl) (by kernel_rfl) rfl (⟨rfl, rfl, rfl, Nat.le_refl _, fun _ _ => rfl⟩) ?hst ?hk ?hwalk
  case hst =>
    simp only [ag.Stab, ag.Row2, ag.Ok2, and_true]
    repeat' apply And.intro
    all_goals first
      | exact fun h => absurd rfl h
      | trivial
  case hk =>
    simp only [ag.Keeps, and_true]
    exact fun f W1 W2 hS _ ht => hS.trans (ht.mono hS.size)
  case hwalk =>
    refine ag.walk_val (by rfl) (fun W1 hS hE => ?_) ?_
    rotate_left; simp only [Act.put, List.setIfInBounds_toArray, List.set_cons_zero, List.set_cons_succ]; rotate_left
    · clear hS hE
      unfold ag.does
      go_simp
      try exact ⟨rfl, rfl⟩
    refine ag.walk_val (by rfl) (fun W1 hS hE => ?_) ?_
    rotate_left; simp only [Act.put, List.setIfInBounds_toArray, List.set_cons_zero, List.set_cons_succ]; rotate_left
    · have c0 := cell_later hS HC00.out
      clear hS hE
      unfold ag.does
      go_simp
      try exact ⟨rfl, rfl⟩
    refine ag.walk_val (by rfl) (fun W1 hS hE => ?_) ?_
    rotate_left; simp only [Act.put, List.setIfInBounds_toArray, List.set_cons_zero, List.set_cons_succ]; rotate_left
    · clear hS hE
      unfold ag.does
      go_simp
      try exact ⟨rfl, rfl⟩
    refine ag.walk_val (by rfl) (fun W1 hS hE => ?_) ?_
    rotate_left; simp only [Act.put, List.setIfInBounds_toArray, List.set_cons_zero, List.set_cons_succ]; rotate_left
    · have c0 := cell_later hS HC01.out
      clear hS hE
      unfold ag.does
      go_simp
      try exact ⟨rfl, rfl⟩
    refine ag.walk_val (by rfl) (fun W1 hS hE => ?_) ?_
    rotate_left; simp only [Act.put, List.setIfInBounds_toArray, List.set_cons_zero, List.set_cons_succ]; rotate_left
    · clear hS hE
      unfold ag.does
      go_simp
      refine (cmp_int _ _ _).mono ?_
      rintro e w9 ⟨rfl, rfl⟩
      exact ⟨_, rfl, by rw [Hx.out], rfl⟩
    refine ag.walk_val (by rfl) (fun W1 hS hE => ?_) ?_
    rotate_left; simp only [Act.put, List.setIfInBounds_toArray, List.set_cons_zero, List.set_cons_succ]; rotate_left
    · clear hS hE
      unfold ag.does
      go_simp
      try exact ⟨rfl, rfl⟩
    refine ag.walk_val (by rfl) (fun W1 hS hE => ?_) ?_
    rotate_left; simp only [Act.put, List.setIfInBounds_toArray, List.set_cons_zero, List.set_cons_succ]; rotate_left
    · have c0 := cell_later hS HC10.out
      clear hS hE
      unfold ag.does
      go_simp
      try exact ⟨rfl, rfl⟩
    refine ag.walk_val (by rfl) (fun W1 hS hE => ?_) ?_
    rotate_left; simp only [Act.put, List.setIfInBounds_toArray, List.set_cons_zero, List.set_cons_succ]; rotate_left
    · clear hS hE
      unfold ag.does
      go_simp
      try exact ⟨rfl, rfl⟩
    refine ag.walk_val (by rfl) (fun W1 hS hE => ?_) ?_
    rotate_left; simp only [Act.put, List.setIfInBounds_toArray, List.set_cons_zero, List.set_cons_succ]; rotate_left
    · have c0 := cell_later hS HC11.out
      clear hS hE
      unfold ag.does
      go_simp
      try exact ⟨rfl, rfl⟩
    refine ag.walk_val (by rfl) (fun W1 hS hE => ?_) ?_
    rotate_left; simp only [Act.put, List.setIfInBounds_toArray, List.set_cons_zero, List.set_cons_succ]; rotate_left
    · clear hS hE
      unfold ag.does
      go_simp
      refine (cmp_int64 _ _ _).mono ?_
      rintro e w9 ⟨rfl, rfl⟩
      exact ⟨_, rfl, by rw [Hy.out], rfl⟩
    refine ag.walk_val (by rfl) (fun W1 hS hE => ?_) ?_
    rotate_left; simp only [Act.put, List.setIfInBounds_toArray, List.set_cons_zero, List.set_cons_succ]; rotate_left
    · clear hS hE
      unfold ag.does
      go_simp
      try exact ⟨rfl, rfl⟩
    refine ag.walk_val (by rfl) (fun W1 hS hE => ?_) ?_
    rotate_left; simp only [Act.put, List.setIfInBounds_toArray, List.set_cons_zero, List.set_cons_succ]; rotate_left
    · have c0 := cell_later hS HC20.out
      clear hS hE
      unfold ag.does
      go_simp
      try exact ⟨rfl, rfl⟩
    refine ag.walk_val (by rfl) (fun W1 hS hE => ?_) ?_
    rotate_left; simp only [Act.put, List.setIfInBounds_toArray, List.set_cons_zero, List.set_cons_succ]; rotate_left
    · clear hS hE
      unfold ag.does
      go_simp
      try exact ⟨rfl, rfl⟩
    refine ag.walk_val (by rfl) (fun W1 hS hE => ?_) ?_
    rotate_left; simp only [Act.put, List.setIfInBounds_toArray, List.set_cons_zero, List.set_cons_succ]; rotate_left
    · have c0 := cell_later hS HC21.out
      clear hS hE
      unfold ag.does
      go_simp
      try exact ⟨rfl, rfl⟩
    refine ag.walk_val (by rfl) (fun W1 hS hE => ?_) ?_
    rotate_left; simp only [Act.put, List.setIfInBounds_toArray, List.set_cons_zero, List.set_cons_succ]; rotate_left
    · clear hS hE
      unfold ag.does
      go_simp
      refine (cmp_str _ _ _).mono ?_
      rintro e w9 ⟨rfl, rfl⟩
      exact ⟨_, rfl, by rw [Hz.out], rfl⟩
    refine ag.walk_sat (by rfl) (fun W1 hS hE => ?_) (fun y1 => ?_)
    rotate_left; simp only [Act.put, List.setIfInBounds_toArray, List.set_cons_zero, List.set_cons_succ]; rotate_left
    · clear hS hE
      unfold ag.does
      go_simp
      exact ⟨⟨_, 3, rfl, cells_new W1 [_, _, _] _ 0, cells_new W1 [_, _, _] _ 1, cells_new W1 [_, _, _] _ 2⟩, (Below.refl _ _).alloc (Nat.le_refl _) _, ag.News.none (fun _ _ => trivial) _ _⟩
    refine ag.walk_val (by rfl) (fun W1 hS hE => ?_) ?_
    rotate_left; simp only [Act.put, List.setIfInBounds_toArray, List.set_cons_zero, List.set_cons_succ]; rotate_left
    · have h3 : three x y z y1 W1 := hE.get (by kernel_rfl)
      clear hS hE
      obtain ⟨g, cap, rfl, q0, q1, q2⟩ := h3
      unfold ag.does
      go_simp
      (with_reducible refine (or_three x y z W1 g q0 q1 q2 cap).mono ?_)
      rintro e w9 ⟨rfl, rfl⟩
      exact ⟨_, rfl, rfl, rfl⟩
    refine ag.walk_val (by rfl) (fun W1 hS hE => ?_) ?_
    rotate_left; simp only [Act.put, List.setIfInBounds_toArray, List.set_cons_zero, List.set_cons_succ]; rotate_left
    · clear hS hE
      unfold ag.does
      go_simp
      try exact ⟨rfl, rfl⟩
    refine ag.walk_nil (fun w7 hS hF' hP => ?_)
    clear hF' hP
    have HS := Lib.hid hS
    clear hS
    go_wp2
    go_ret
    exact ⟨rfl, HBB.out.trans (HS.out.mono HBB.out.size)⟩
end Go.Proofs.Ytjnlimahcodomaa.val
/- All of the program's Do; Not. -/
namespace Go.Proofs.Ytjnlimahcodomaa.val
set_option linter.unusedVariables false
open Go.RowKit
attribute [local go_sem high] run_eqlV run_neqV
theorem cmpI_iff (x y : Int) : (cmpI x y < 0 ↔ x < y) ∧ (cmpI x y = 0 ↔ x = y) ∧ (0 < cmpI x y ↔ y < x) := by
  unfold cmpI; (repeat' split) <;> omega
theorem cmpS_iff (a b : ByteArray) : (cmpS a b < 0 ↔ Op.bytesLess a.toList b.toList = true) ∧ (cmpS a b = 0 ↔ a.toList = b.toList) ∧ (0 < cmpS a b ↔ Op.bytesLess b.toList a.toList = true) := by
  unfold cmpS
  cases h1 : Op.bytesLess a.toList b.toList
  · cases h2 : Op.bytesLess b.toList a.toList
    · have := bl_total _ _ h1 h2
      simp [this]
    · have : a.toList ≠ b.toList := fun e => by rw [e, bl_irrefl] at h2; cases h2
      simp [this]
  · have h2 := bl_asymm _ _ h1
    have : a.toList ≠ b.toList := fun e => by rw [e, bl_irrefl] at h1; cases h1
    simp [this, h2]
theorem good_text {v : V} (h : Good v) (hk : v.k = 3) : v.n = 0 ∧ v.s.size ≤ 64 := by unfold Good at h; omega
theorem good_other {v : V} (h : Good v) (hk : v.k ≠ 3) : v.s = ByteArray.empty := by
  rcases h with h | h | h | h
  · exact h.2.2
  · exact h.2.2
  · exact h.2.1
  · exact absurd h.1 hk
theorem cmpV_iff (a b : V) (ha : Good a) (hb : Good b) : (cmpV a b < 0 ↔ less a b = true) ∧ (cmpV a b = 0 ↔ veq a b = true) ∧ (0 < cmpV a b ↔ less b a = true) := by
  have hk := cmpI_iff a.k b.k
  have hn := cmpI_iff a.n b.n
  have hs := cmpS_iff a.s b.s
  by_cases ek : a.k = b.k
  · have k0 : cmpI a.k b.k = 0 := hk.2.1.2 ek
    by_cases e3 : a.k = 3
    · have na := (good_text ha e3).1
      have nb := (good_text hb (ek ▸ e3)).1
      have n0 : cmpI a.n b.n = 0 := hn.2.1.2 (by omega)
      have e : cmpV a b = cmpS a.s b.s := by unfold cmpV; rw [k0, n0]; simp
      rw [e]
      refine ⟨?_, ?_, ?_⟩
      · rw [hs.1]; unfold less; rw [if_pos ek, if_pos e3]
      · rw [hs.2.1]; simp [veq6, ek, na, nb]
      · rw [hs.2.2]; unfold less; rw [if_pos ek.symm, if_pos (by omega)]
    · have sa := good_other ha e3
      have sb := good_other hb (ek ▸ e3)
      have s0 : cmpS a.s b.s = 0 := hs.2.1.2 (by rw [sa, sb])
      have e : cmpV a b = cmpI a.n b.n := by unfold cmpV; rw [k0, s0]; simp; intro h; exact h.symm
      rw [e]
      refine ⟨?_, ?_, ?_⟩
      · rw [hn.1]; unfold less; rw [if_pos ek, if_neg e3]; simp
      · rw [hn.2.1]; simp [veq6, ek, sa, sb]
      · rw [hn.2.2]; unfold less; rw [if_pos ek.symm, if_neg (by omega)]; simp
  · have k0 : cmpI a.k b.k ≠ 0 := fun h => ek (hk.2.1.1 h)
    have e : cmpV a b = cmpI a.k b.k := by unfold cmpV; rw [if_pos k0]
    rw [e]
    refine ⟨?_, ?_, ?_⟩
    · rw [hk.1]; unfold less; rw [if_neg ek]; simp
    · rw [hk.2.1]; simp [veq6, ek]
    · rw [hk.2.2]; unfold less; rw [if_neg (fun h => ek h.symm)]; simp
theorem bool_iff {p : Prop} [Decidable p] {b : Bool} (h : p ↔ b = true) : decide p = b := by cases b <;> simp_all
/-- a comparison by the order of all is what it is by definition -/
theorem holds_iff (op : Int) (a b : V) (ha : Good a) (hb : Good b) : (if op = 1 then cmpV a b == 0 else if op = 2 then cmpV a b != 0 else if op = 3 then decide (cmpV a b < 0) else if op = 4 then decide (cmpV a b ≤ 0) else if op = 5 then decide (0 < cmpV a b) else decide (0 ≤ cmpV a b)) = holdsV op a b := by
  obtain ⟨h1, h2, h3⟩ := cmpV_iff a b ha hb
  unfold holdsV
  have e2 : (cmpV a b == 0) = veq a b := by rw [← bool_iff h2]; rfl
  have e4 : decide (cmpV a b ≤ 0) = !less b a := by rw [← bool_iff h3]; by_cases h : 0 < cmpV a b <;> simp [h] <;> omega
  have e6 : decide (0 ≤ cmpV a b) = !less a b := by rw [← bool_iff h1]; by_cases h : cmpV a b < 0 <;> simp [h] <;> omega
  rw [e2, bool_iff h1, bool_iff h3, e4, e6]
  simp only [bne, e2]
theorem do_arg (op ka na kb nb : Int) (sa sb : ByteArray) (W : World) (h : op < 1 ∨ 14 < op) : Calls Try.prog 31 #[.int .i64 op, ag3 ka na sa, ag3 kb nb sb] W fun e w' => e = .returned (.tuple #[vv (doV op ⟨ka, na, sa⟩ ⟨kb, nb, sb⟩).1, .int .i64 (doV op ⟨ka, na, sa⟩ ⟨kb, nb, sb⟩).2]) ∧ Below W.heap.size W w' := by
  have E : doV op ⟨ka, na, sa⟩ ⟨kb, nb, sb⟩ = (null, 1) := by unfold doV; rw [if_pos h]
  rw [E]
  clear E
  have h1 : op < 1 ∨ (¬ op < 1 ∧ 14 < op) := by omega
  clear h
  rcases h1 with h | ⟨h, h'⟩
  all_goals
    go_enter Try.func31, Try.ntmps31
    go_wp2
    all_goals refine bodyPost_ret (v := .tuple #[vv null, .int .i64 1]) ?_ rfl ⟨rfl, ?_⟩
    any_goals (repeat' (first | assumption | exact Below.refl _ _ | apply Below.setCell | apply Below.alloc))
    any_goals (first | omega | (simp; omega) | (simp; done))
    all_goals (simp only [results, Try.results31]; go_simp)
    all_goals (first | done | exact ⟨rfl, rfl, rfl⟩ | rfl | exact ⟨rfl, rfl⟩)
set_option maxHeartbeats 1000000 in
theorem do_type (op ka na kb nb : Int) (sa sb : ByteArray) (W : World) (h : 1 ≤ op ∧ op ≤ 14) (hf : fitB op ka kb = false) : Calls Try.prog 31 #[.int .i64 op, ag3 ka na sa, ag3 kb nb sb] W fun e w' => e = .returned (.tuple #[vv (doV op ⟨ka, na, sa⟩ ⟨kb, nb, sb⟩).1, .int .i64 (doV op ⟨ka, na, sa⟩ ⟨kb, nb, sb⟩).2]) ∧ Below W.heap.size W w' := by
  have E : doV op ⟨ka, na, sa⟩ ⟨kb, nb, sb⟩ = (null, 5) := by unfold doV; rw [if_neg (by omega), if_pos hf]
  rw [E]
  have HF := Lib.hid (fit_any op ka na kb nb sa sb)
  rw [hf] at HF
  clear E hf
  obtain ⟨h1, h2⟩ := h
  go_enter Try.func31, Try.ntmps31
  go_wp2_with (go_at_call 47; (refine (HF.out _).mono ?_; rintro e w1 ⟨rfl, hb1⟩; have hB1 : Below W.heap.size W w1 := after (by (repeat' (first | assumption | exact Below.refl _ _ | apply Below.setCell | apply Below.alloc)); all_goals (first | omega | (simp; omega) | (simp; done))) hb1; obtain ⟨hc1, hf1⟩ := bcell hb1; have hz1 := hb1.size; (try simp at hz1); (try simp only [World.size_alloc] at hc1 hf1); have hy0 : W.heap.size < w1.heap.size := (by omega); have hy1 : W.heap.size + 1 < w1.heap.size := (by omega); have hy2 : W.heap.size + 1 + 1 < w1.heap.size := (by omega)))
  all_goals refine bodyPost_ret (v := .tuple #[vv null, .int .i64 5]) ?_ rfl ⟨rfl, ?_⟩
  any_goals (repeat' (first | assumption | exact Below.refl _ _ | apply Below.setCell | apply Below.alloc))
  any_goals (first | omega | (simp; omega) | (simp; done))
  all_goals (simp only [results, Try.results31]; go_simp)
  all_goals (first | done | exact ⟨rfl, rfl, rfl⟩ | rfl | exact ⟨rfl, rfl⟩)
set_option maxHeartbeats 2000000 in
theorem do_logic (op ka na kb nb : Int) (sa sb : ByteArray) (W : World) (h : 13 ≤ op ∧ op ≤ 14) (hf : fitB op ka kb = true) : Calls Try.prog 31 #[.int .i64 op, ag3 ka na sa, ag3 kb nb sb] W fun e w' => e = .returned (.tuple #[vv (doV op ⟨ka, na, sa⟩ ⟨kb, nb, sb⟩).1, .int .i64 (doV op ⟨ka, na, sa⟩ ⟨kb, nb, sb⟩).2]) ∧ Below W.heap.size W w' := by
  have E : doV op ⟨ka, na, sa⟩ ⟨kb, nb, sb⟩ = (logicV op ⟨ka, na, sa⟩ ⟨kb, nb, sb⟩, 0) := by unfold doV; rw [if_neg (by omega), if_neg (by rw [hf]; decide), if_pos h.1]
  rw [E]
  have HF := Lib.hid (fit_any op ka na kb nb sa sb)
  rw [hf] at HF
  have HL := Lib.hid (logic_any op ka na kb nb sa sb)
  clear E hf
  obtain ⟨h1, h2⟩ := h
  generalize logicV op ⟨ka, na, sa⟩ ⟨kb, nb, sb⟩ = r at *
  go_enter Try.func31, Try.ntmps31
  go_wp2_with (first | (go_at_call 47; (refine (HF.out _).mono ?_; rintro e w1 ⟨rfl, hb1⟩; have hB1 : Below W.heap.size W w1 := after (by (repeat' (first | assumption | exact Below.refl _ _ | apply Below.setCell | apply Below.alloc)); all_goals (first | omega | (simp; omega) | (simp; done))) hb1; obtain ⟨hc1, hf1⟩ := bcell hb1; have hz1 := hb1.size; (try simp at hz1); (try simp only [World.size_alloc] at hc1 hf1); have hy0 : W.heap.size < w1.heap.size := (by omega); have hy1 : W.heap.size + 1 < w1.heap.size := (by omega); have hy2 : W.heap.size + 1 + 1 < w1.heap.size := (by omega))) | (go_at_call 48; (refine (HL.out _).mono ?_; rintro e w1 ⟨rfl, hb1⟩; have hB1 : Below W.heap.size W w1 := after (by (repeat' (first | assumption | exact Below.refl _ _ | apply Below.setCell | apply Below.alloc)); all_goals (first | omega | (simp; omega) | (simp; done))) hb1; obtain ⟨hc1, hf1⟩ := bcell hb1; have hz1 := hb1.size; (try simp at hz1); (try simp only [World.size_alloc] at hc1 hf1); have hy0 : W.heap.size < w1.heap.size := (by omega); have hy1 : W.heap.size + 1 < w1.heap.size := (by omega); have hy2 : W.heap.size + 1 + 1 < w1.heap.size := (by omega))))
  all_goals refine bodyPost_ret (v := .tuple #[vv r, .int .i64 0]) ?_ rfl ⟨rfl, ?_⟩
  any_goals (repeat' (first | assumption | exact Below.refl _ _ | apply Below.setCell | apply Below.alloc))
  any_goals (first | omega | (simp; omega) | (simp; done))
  all_goals (simp only [results, Try.results31]; go_simp)
  all_goals (first | done | exact ⟨rfl, rfl, rfl⟩ | rfl | exact ⟨rfl, rfl⟩)
set_option maxHeartbeats 2000000 in
theorem do_null (op ka na kb nb : Int) (sa sb : ByteArray) (W : World) (h : 1 ≤ op ∧ op < 13) (hf : fitB op ka kb = true) (h0 : ka = 0 ∨ kb = 0) : Calls Try.prog 31 #[.int .i64 op, ag3 ka na sa, ag3 kb nb sb] W fun e w' => e = .returned (.tuple #[vv (doV op ⟨ka, na, sa⟩ ⟨kb, nb, sb⟩).1, .int .i64 (doV op ⟨ka, na, sa⟩ ⟨kb, nb, sb⟩).2]) ∧ Below W.heap.size W w' := by
  have E : doV op ⟨ka, na, sa⟩ ⟨kb, nb, sb⟩ = (null, 0) := by unfold doV; rw [if_neg (by omega), if_neg (by rw [hf]; decide), if_neg (by omega), if_pos h0]
  rw [E]
  have HF := Lib.hid (fit_any op ka na kb nb sa sb)
  rw [hf] at HF
  have hk : ka = 0 ∨ ((ka == 0) = false ∧ kb = 0) := by
    by_cases h1 : ka = 0
    · exact .inl h1
    · exact .inr ⟨by simpa using h1, h0.resolve_left h1⟩
  clear E hf h0
  obtain ⟨h1, h2⟩ := h
  rcases hk with rfl | ⟨hk, rfl⟩
  all_goals
    go_enter Try.func31, Try.ntmps31
    go_wp2_with (go_at_call 47; (refine (HF.out _).mono ?_; rintro e w1 ⟨rfl, hb1⟩; have hB1 : Below W.heap.size W w1 := after (by (repeat' (first | assumption | exact Below.refl _ _ | apply Below.setCell | apply Below.alloc)); all_goals (first | omega | (simp; omega) | (simp; done))) hb1; obtain ⟨hc1, hf1⟩ := bcell hb1; have hz1 := hb1.size; (try simp at hz1); (try simp only [World.size_alloc] at hc1 hf1); have hy0 : W.heap.size < w1.heap.size := (by omega); have hy1 : W.heap.size + 1 < w1.heap.size := (by omega); have hy2 : W.heap.size + 1 + 1 < w1.heap.size := (by omega)))
    all_goals refine bodyPost_ret (v := .tuple #[vv null, .int .i64 0]) ?_ rfl ⟨rfl, ?_⟩
    any_goals (repeat' (first | assumption | exact Below.refl _ _ | apply Below.setCell | apply Below.alloc))
    any_goals (first | omega | (simp; omega) | (simp; done))
    all_goals (simp only [results, Try.results31]; go_simp)
    all_goals (first | done | exact ⟨rfl, rfl, rfl⟩ | rfl | exact ⟨rfl, rfl⟩)
set_option maxHeartbeats 2000000 in
theorem do_cmp (op ka na kb nb : Int) (sa sb : ByteArray) (W : World) (h : 1 ≤ op ∧ op ≤ 6) (hf : fitB op ka kb = true) (h0 : ¬ (ka = 0 ∨ kb = 0)) (ga : Good ⟨ka, na, sa⟩) (gb : Good ⟨kb, nb, sb⟩) : Calls Try.prog 31 #[.int .i64 op, ag3 ka na sa, ag3 kb nb sb] W fun e w' => e = .returned (.tuple #[vv (doV op ⟨ka, na, sa⟩ ⟨kb, nb, sb⟩).1, .int .i64 (doV op ⟨ka, na, sa⟩ ⟨kb, nb, sb⟩).2]) ∧ Below W.heap.size W w' := by
  have E : doV op ⟨ka, na, sa⟩ ⟨kb, nb, sb⟩ = (ofB (holdsV op ⟨ka, na, sa⟩ ⟨kb, nb, sb⟩), 0) := by unfold doV; rw [if_neg (by omega), if_neg (by rw [hf]; decide), if_neg (by omega), if_neg h0, if_pos h.2]
  rw [E]
  have HF := Lib.hid (fit_any op ka na kb nb sa sb)
  rw [hf] at HF
  have HC := Lib.hid (compare_any ka na kb nb sa sb)
  have hH := fun (W : World) => holds_any op (cmpV ⟨ka, na, sa⟩ ⟨kb, nb, sb⟩) W
  rw [holds_iff op _ _ ga gb] at hH
  have HH := Lib.hid hH
  have k1 : (ka == 0) = false := by simp; omega
  have k2 : (kb == 0) = false := by simp; omega
  clear E hf hH ga gb h0
  obtain ⟨h1, h2⟩ := h
  generalize holdsV op ⟨ka, na, sa⟩ ⟨kb, nb, sb⟩ = r at *
  generalize cmpV ⟨ka, na, sa⟩ ⟨kb, nb, sb⟩ = o at *
  go_enter Try.func31, Try.ntmps31
  go_wp2_with (first | (go_at_call 47; (refine (HF.out _).mono ?_; rintro e w1 ⟨rfl, hb1⟩; have hB1 : Below W.heap.size W w1 := after (by (repeat' (first | assumption | exact Below.refl _ _ | apply Below.setCell | apply Below.alloc)); all_goals (first | omega | (simp; omega) | (simp; done))) hb1; obtain ⟨hc1, hf1⟩ := bcell hb1; have hz1 := hb1.size; (try simp at hz1); (try simp only [World.size_alloc] at hc1 hf1); have hy0 : W.heap.size < w1.heap.size := (by omega); have hy1 : W.heap.size + 1 < w1.heap.size := (by omega); have hy2 : W.heap.size + 1 + 1 < w1.heap.size := (by omega))) | (go_at_call 50; (refine (HC.out _).mono ?_; rintro e w1 ⟨rfl, hb1⟩; have hB1 : Below W.heap.size W w1 := after (by (repeat' (first | assumption | exact Below.refl _ _ | apply Below.setCell | apply Below.alloc)); all_goals (first | omega | (simp; omega) | (simp; done))) hb1; obtain ⟨hc1, hf1⟩ := bcell hb1; have hz1 := hb1.size; (try simp at hz1); (try simp only [World.size_alloc] at hc1 hf1); have hy0 : W.heap.size < w1.heap.size := (by omega); have hy1 : W.heap.size + 1 < w1.heap.size := (by omega); have hy2 : W.heap.size + 1 + 1 < w1.heap.size := (by omega))) | (go_at_call 49; ((with_reducible refine (HH.out _).mono ?_); rintro e w1 ⟨rfl, rfl⟩)) | (go_at_call 34; (refine (ofBool_any _ _).mono ?_; rintro e w1 ⟨rfl, hb1⟩; have hB1 : Below W.heap.size W w1 := after (by (repeat' (first | assumption | exact Below.refl _ _ | apply Below.setCell | apply Below.alloc)); all_goals (first | omega | (simp; omega) | (simp; done))) hb1; obtain ⟨hc1, hf1⟩ := bcell hb1; have hz1 := hb1.size; (try simp at hz1); (try simp only [World.size_alloc] at hc1 hf1); have hy0 : W.heap.size < w1.heap.size := (by omega); have hy1 : W.heap.size + 1 < w1.heap.size := (by omega); have hy2 : W.heap.size + 1 + 1 < w1.heap.size := (by omega))))
  all_goals refine bodyPost_ret (v := .tuple #[vv (ofB r), .int .i64 0]) ?_ rfl ⟨rfl, ?_⟩
  any_goals (repeat' (first | assumption | exact Below.refl _ _ | apply Below.setCell | apply Below.alloc))
  any_goals (first | omega | (simp; omega) | (simp; done))
  all_goals (simp only [results, Try.results31]; go_simp)
  all_goals (first | done | exact ⟨rfl, rfl, rfl⟩ | rfl | exact ⟨rfl, rfl⟩)
end Go.Proofs.Ytjnlimahcodomaa.val
/- The rest of the program's Do; Not, True; a text shown. -/
namespace Go.Proofs.Ytjnlimahcodomaa.val
set_option linter.unusedVariables false
open Go.RowKit
attribute [local go_sem high] run_eqlV run_neqV
attribute [local go_sem] ag.upon_value ag.upon_skip ag.upon_enter
attribute [local go_sem] Oper.semAt_some
set_option maxHeartbeats 2000000 in
theorem do_text (ka na kb nb : Int) (sa sb : ByteArray) (W : World) (hf : fitB 12 ka kb = true) (h0 : ¬ (ka = 0 ∨ kb = 0)) (ga : Good ⟨ka, na, sa⟩) (gb : Good ⟨kb, nb, sb⟩) : Calls Try.prog 31 #[.int .i64 12, ag3 ka na sa, ag3 kb nb sb] W fun e w' => e = .returned (.tuple #[vv (doV 12 ⟨ka, na, sa⟩ ⟨kb, nb, sb⟩).1, .int .i64 (doV 12 ⟨ka, na, sa⟩ ⟨kb, nb, sb⟩).2]) ∧ Below W.heap.size W w' := by
  have E : doV 12 ⟨ka, na, sa⟩ ⟨kb, nb, sb⟩ = if sa.size + sb.size > 64 then (null, 8) else (ofS (sa ++ sb), 0) := by unfold doV; rw [if_neg (by decide), if_neg (by rw [hf]; decide), if_neg (by decide), if_neg h0, if_neg (by decide), if_pos rfl]
  have hk : ka = 3 ∧ kb = 3 := by unfold fitB at hf; simp at hf; omega
  have s1 : sa.size ≤ 64 := (good_text ga hk.1).2
  have s2 : sb.size ≤ 64 := (good_text gb hk.2).2
  obtain ⟨rfl, rfl⟩ := hk
  rw [E]
  have HF := Lib.hid (fit_any 12 3 na 3 nb sa sb)
  rw [hf] at HF
  have b1 : (sa.size : Int) ≤ 64 := by omega
  have b2 : (sb.size : Int) ≤ 64 := by omega
  have b3 : (0 : Int) ≤ sa.size := by omega
  have b4 : (0 : Int) ≤ sb.size := by omega
  by_cases hs : sa.size + sb.size > 64
  · rw [if_pos hs]
    have hs1 : (64 : Int) < (sa.size : Int) + (sb.size : Int) := by omega
    clear E hf ga gb h0 hs
    go_enter Try.func31, Try.ntmps31
    go_wp2_with (go_at_call 47; (refine (HF.out _).mono ?_; rintro e w1 ⟨rfl, hb1⟩; have hB1 : Below W.heap.size W w1 := after (by (repeat' (first | assumption | exact Below.refl _ _ | apply Below.setCell | apply Below.alloc)); all_goals (first | omega | (simp; omega) | (simp; done))) hb1; obtain ⟨hc1, hf1⟩ := bcell hb1; have hz1 := hb1.size; (try simp at hz1); (try simp only [World.size_alloc] at hc1 hf1); have hy0 : W.heap.size < w1.heap.size := (by omega); have hy1 : W.heap.size + 1 < w1.heap.size := (by omega); have hy2 : W.heap.size + 1 + 1 < w1.heap.size := (by omega)))
    all_goals refine bodyPost_ret (v := .tuple #[vv null, .int .i64 8]) ?_ rfl ⟨rfl, ?_⟩
    any_goals (repeat' (first | assumption | exact Below.refl _ _ | apply Below.setCell | apply Below.alloc))
    any_goals (first | omega | (simp; omega) | (simp; done))
    all_goals (simp only [results, Try.results31]; go_simp)
    all_goals (first | done | exact ⟨rfl, rfl, rfl⟩ | rfl | exact ⟨rfl, rfl⟩)
  · rw [if_neg hs]
    have hs1 : (sa.size : Int) + (sb.size : Int) ≤ 64 := by omega
    clear E hf ga gb h0 hs
    go_enter Try.func31, Try.ntmps31
    go_wp2_with (first | (go_at_call 47; (refine (HF.out _).mono ?_; rintro e w1 ⟨rfl, hb1⟩; have hB1 : Below W.heap.size W w1 := after (by (repeat' (first | assumption | exact Below.refl _ _ | apply Below.setCell | apply Below.alloc)); all_goals (first | omega | (simp; omega) | (simp; done))) hb1; obtain ⟨hc1, hf1⟩ := bcell hb1; have hz1 := hb1.size; (try simp at hz1); (try simp only [World.size_alloc] at hc1 hf1); have hy0 : W.heap.size < w1.heap.size := (by omega); have hy1 : W.heap.size + 1 < w1.heap.size := (by omega); have hy2 : W.heap.size + 1 + 1 < w1.heap.size := (by omega))) | (go_at_call 20; (refine (ofText_any _ _).mono ?_; rintro e w1 ⟨rfl, hb1⟩; have hB1 : Below W.heap.size W w1 := after (by (repeat' (first | assumption | exact Below.refl _ _ | apply Below.setCell | apply Below.alloc)); all_goals (first | omega | (simp; omega) | (simp; done))) hb1; obtain ⟨hc1, hf1⟩ := bcell hb1; have hz1 := hb1.size; (try simp at hz1); (try simp only [World.size_alloc] at hc1 hf1); have hy0 : W.heap.size < w1.heap.size := (by omega); have hy1 : W.heap.size + 1 < w1.heap.size := (by omega); have hy2 : W.heap.size + 1 + 1 < w1.heap.size := (by omega))))
    all_goals refine bodyPost_ret (v := .tuple #[vv (ofS (sa ++ sb)), .int .i64 0]) ?_ rfl ⟨rfl, ?_⟩
    any_goals (repeat' (first | assumption | exact Below.refl _ _ | apply Below.setCell | apply Below.alloc))
    any_goals (first | omega | (simp; omega) | (simp; done))
    all_goals (simp only [results, Try.results31]; go_simp)
    all_goals (first | done | exact ⟨rfl, rfl, rfl⟩ | rfl | exact ⟨rfl, rfl⟩)
theorem good_n {v : V} (h : Good v) : -9223372036854775808 ≤ v.n ∧ v.n ≤ 9223372036854775807 := by unfold Good at h; omega
set_option maxHeartbeats 2000000 in
theorem do_count (op ka na kb nb : Int) (sa sb : ByteArray) (W : World) (h : 7 ≤ op ∧ op ≤ 11) (hf : fitB op ka kb = true) (h0 : ¬ (ka = 0 ∨ kb = 0)) (ga : Good ⟨ka, na, sa⟩) (gb : Good ⟨kb, nb, sb⟩) : Calls Try.prog 31 #[.int .i64 op, ag3 ka na sa, ag3 kb nb sb] W fun e w' => e = .returned (.tuple #[vv (doV op ⟨ka, na, sa⟩ ⟨kb, nb, sb⟩).1, .int .i64 (doV op ⟨ka, na, sa⟩ ⟨kb, nb, sb⟩).2]) ∧ Below W.heap.size W w' := by
  have E : doV op ⟨ka, na, sa⟩ ⟨kb, nb, sb⟩ = if (countV op na nb).2 = 0 then (ofN (countV op na nb).1, 0) else (null, (countV op na nb).2) := by unfold doV; rw [if_neg (by omega), if_neg (by rw [hf]; decide), if_neg (by omega), if_neg h0, if_neg (by omega), if_neg (by omega)]
  rw [E]
  have HF := Lib.hid (fit_any op ka na kb nb sa sb)
  rw [hf] at HF
  have HC := Lib.hid (count_any op na nb h (good_n ga) (good_n gb))
  have k1 : (ka == 0) = false := by simp; omega
  have k2 : (kb == 0) = false := by simp; omega
  have k3 : (op == 12) = false := by simp; omega
  clear E hf ga gb h0
  obtain ⟨h1, h2⟩ := h
  generalize (countV op na nb).1 = m at *
  generalize (countV op na nb).2 = er at *
  by_cases he : er = 0
  · subst he
    rw [if_pos rfl]
    go_enter Try.func31, Try.ntmps31
    go_wp2_with (first | (go_at_call 47; (refine (HF.out _).mono ?_; rintro e w1 ⟨rfl, hb1⟩; have hB1 : Below W.heap.size W w1 := after (by (repeat' (first | assumption | exact Below.refl _ _ | apply Below.setCell | apply Below.alloc)); all_goals (first | omega | (simp; omega) | (simp; done))) hb1; obtain ⟨hc1, hf1⟩ := bcell hb1; have hz1 := hb1.size; (try simp at hz1); (try simp only [World.size_alloc] at hc1 hf1); have hy0 : W.heap.size < w1.heap.size := (by omega); have hy1 : W.heap.size + 1 < w1.heap.size := (by omega); have hy2 : W.heap.size + 1 + 1 < w1.heap.size := (by omega))) | (go_at_call 51; (refine (HC.out _).mono ?_; rintro e w1 ⟨rfl, hb1⟩; have hB1 : Below W.heap.size W w1 := after (by (repeat' (first | assumption | exact Below.refl _ _ | apply Below.setCell | apply Below.alloc)); all_goals (first | omega | (simp; omega) | (simp; done))) hb1; obtain ⟨hc1, hf1⟩ := bcell hb1; have hz1 := hb1.size; (try simp at hz1); (try simp only [World.size_alloc] at hc1 hf1); have hy0 : W.heap.size < w1.heap.size := (by omega); have hy1 : W.heap.size + 1 < w1.heap.size := (by omega); have hy2 : W.heap.size + 1 + 1 < w1.heap.size := (by omega))) | (go_at_call 19; (refine (ofInt_any _ _).mono ?_; rintro e w1 ⟨rfl, hb1⟩; have hB1 : Below W.heap.size W w1 := after (by (repeat' (first | assumption | exact Below.refl _ _ | apply Below.setCell | apply Below.alloc)); all_goals (first | omega | (simp; omega) | (simp; done))) hb1; obtain ⟨hc1, hf1⟩ := bcell hb1; have hz1 := hb1.size; (try simp at hz1); (try simp only [World.size_alloc] at hc1 hf1); have hy0 : W.heap.size < w1.heap.size := (by omega); have hy1 : W.heap.size + 1 < w1.heap.size := (by omega); have hy2 : W.heap.size + 1 + 1 < w1.heap.size := (by omega))))
    all_goals refine bodyPost_ret (v := .tuple #[vv (ofN m), .int .i64 0]) ?_ rfl ⟨rfl, ?_⟩
    any_goals (repeat' (first | assumption | exact Below.refl _ _ | apply Below.setCell | apply Below.alloc))
    any_goals (first | omega | (simp; omega) | (simp; done))
    all_goals (simp only [results, Try.results31]; go_simp)
    all_goals (first | done | exact ⟨rfl, rfl, rfl⟩ | rfl | exact ⟨rfl, rfl⟩)
  · rw [if_neg he]
    have e1 : (er == 0) = false := by simpa using he
    have e2 : (er != 0) = true := by simpa using he
    clear he
    go_enter Try.func31, Try.ntmps31
    go_wp2_with (first | (go_at_call 47; (refine (HF.out _).mono ?_; rintro e w1 ⟨rfl, hb1⟩; have hB1 : Below W.heap.size W w1 := after (by (repeat' (first | assumption | exact Below.refl _ _ | apply Below.setCell | apply Below.alloc)); all_goals (first | omega | (simp; omega) | (simp; done))) hb1; obtain ⟨hc1, hf1⟩ := bcell hb1; have hz1 := hb1.size; (try simp at hz1); (try simp only [World.size_alloc] at hc1 hf1); have hy0 : W.heap.size < w1.heap.size := (by omega); have hy1 : W.heap.size + 1 < w1.heap.size := (by omega); have hy2 : W.heap.size + 1 + 1 < w1.heap.size := (by omega))) | (go_at_call 51; (refine (HC.out _).mono ?_; rintro e w1 ⟨rfl, hb1⟩; have hB1 : Below W.heap.size W w1 := after (by (repeat' (first | assumption | exact Below.refl _ _ | apply Below.setCell | apply Below.alloc)); all_goals (first | omega | (simp; omega) | (simp; done))) hb1; obtain ⟨hc1, hf1⟩ := bcell hb1; have hz1 := hb1.size; (try simp at hz1); (try simp only [World.size_alloc] at hc1 hf1); have hy0 : W.heap.size < w1.heap.size := (by omega); have hy1 : W.heap.size + 1 < w1.heap.size := (by omega); have hy2 : W.heap.size + 1 + 1 < w1.heap.size := (by omega))) | (go_at_call 19; (refine (ofInt_any _ _).mono ?_; rintro e w1 ⟨rfl, hb1⟩; have hB1 : Below W.heap.size W w1 := after (by (repeat' (first | assumption | exact Below.refl _ _ | apply Below.setCell | apply Below.alloc)); all_goals (first | omega | (simp; omega) | (simp; done))) hb1; obtain ⟨hc1, hf1⟩ := bcell hb1; have hz1 := hb1.size; (try simp at hz1); (try simp only [World.size_alloc] at hc1 hf1); have hy0 : W.heap.size < w1.heap.size := (by omega); have hy1 : W.heap.size + 1 < w1.heap.size := (by omega); have hy2 : W.heap.size + 1 + 1 < w1.heap.size := (by omega))))
    all_goals refine bodyPost_ret (v := .tuple #[vv null, .int .i64 er]) ?_ rfl ⟨rfl, ?_⟩
    any_goals (repeat' (first | assumption | exact Below.refl _ _ | apply Below.setCell | apply Below.alloc))
    any_goals (first | omega | (simp; omega) | (simp; done))
    all_goals (simp only [results, Try.results31]; go_simp)
    all_goals (first | done | exact ⟨rfl, rfl, rfl⟩ | rfl | exact ⟨rfl, rfl⟩)
/-- WHAT THE PROGRAM's Do GIVES, for any operator and any two values that may be. -/
theorem do_any (op ka na kb nb : Int) (sa sb : ByteArray) (W : World) (ga : Good ⟨ka, na, sa⟩) (gb : Good ⟨kb, nb, sb⟩) : Calls Try.prog 31 #[.int .i64 op, ag3 ka na sa, ag3 kb nb sb] W fun e w' => e = .returned (.tuple #[vv (doV op ⟨ka, na, sa⟩ ⟨kb, nb, sb⟩).1, .int .i64 (doV op ⟨ka, na, sa⟩ ⟨kb, nb, sb⟩).2]) ∧ Below W.heap.size W w' := by
  by_cases h : op < 1 ∨ 14 < op
  · exact do_arg op ka na kb nb sa sb W h
  cases hf : fitB op ka kb
  · exact do_type op ka na kb nb sa sb W (by omega) hf
  by_cases h13 : 13 ≤ op
  · exact do_logic op ka na kb nb sa sb W (by omega) hf
  by_cases h0 : ka = 0 ∨ kb = 0
  · exact do_null op ka na kb nb sa sb W (by omega) hf h0
  by_cases h6 : op ≤ 6
  · exact do_cmp op ka na kb nb sa sb W (by omega) hf h0 ga gb
  by_cases h12 : op = 12
  · subst h12
    exact do_text ka na kb nb sa sb W hf h0 ga gb
  · exact do_count op ka na kb nb sa sb W (by omega) hf h0 ga gb
/-- what a box holds, later -/
theorem box_later (W : World) (k n : Int) (s : ByteArray) (W' : World) (hS : Below (W.alloc (.cells #[.int .i64 k, .int .i64 n, .string s] TV)).heap.size (W.alloc (.cells #[.int .i64 k, .int .i64 n, .string s] TV)) W') :
    W'.cell? ⟨W.heap.size, 0, none⟩ = some (.int .i64 k) ∧ W'.cell? ⟨W.heap.size, 1, none⟩ = some (.int .i64 n) ∧ W'.cell? ⟨W.heap.size, 2, none⟩ = some (.string s) :=
  ⟨cell_later hS (cells_new W [.int .i64 k, .int .i64 n, .string s] TV 0), cell_later hS (cells_new W [.int .i64 k, .int .i64 n, .string s] TV 1), cell_later hS (cells_new W [.int .i64 k, .int .i64 n, .string s] TV 2)⟩
set_option maxRecDepth 100000 in
set_option maxHeartbeats 1000000 in
theorem true_any (k n : Int) (s : ByteArray) (W : World) : Calls Try.prog 52 #[ag3 k n s] W fun e w' => e = .returned (.bool (veq6 k n s (ofB true).k (ofB true).n (ofB true).s)) ∧ Below W.heap.size W w' := by
  go_enter Try.func52, Try.ntmps52
  go_wp2
  have HC := Lib.hid (fun (W' : World) (hS : Below (W.alloc (.cells #[.int .i64 k, .int .i64 n, .string s] TV)).heap.size (W.alloc (.cells #[.int .i64 k, .int .i64 n, .string s] TV)) W') => box_later W k n s W' hS)
  have HBB := Lib.hid (below_alloc1 W (.cells #[.int .i64 k, .int .i64 n, .string s] TV))
  generalize W.alloc (.cells #[.int .i64 k, .int .i64 n, .string s] TV) = X at *
  refine ag.region_ag (fun W1 => Below X.heap.size X W1) (fun _ _ _ _ => True)
    [.val (ag3 k n s), .sat (fun v _ => v = vv (ofB true)) (fun _ w w' => Below w.heap.size w w'), .val (.bool (veq6 k n s (ofB true).k (ofB true).n (ofB true).s)), .val (.bool (veq6 k n s (ofB true).k (ofB true).n (ofB true).s))]
    (by kernel_rfl) (by kernel_rfl) rfl (⟨rfl, rfl, rfl, Nat.le_refl _, fun _ _ => rfl⟩) ?hst ?hk ?hwalk
  case hst =>
    simp only [ag.Stab, ag.Row2, ag.Ok2, and_true]
    repeat' apply And.intro
    all_goals first
      | exact fun h => absurd rfl h
      | exact fun _ _ f v W W' hS hv _ ht => hv
      | trivial
  case hk =>
    simp only [ag.Keeps, and_true]
    exact fun f W1 W2 hS _ ht => hS.trans (ht.mono hS.size)
  case hwalk =>
    refine ag.walk_val (by rfl) (fun W1 hS hE => ?_) ?_
    rotate_left; simp only [Act.put, List.setIfInBounds_toArray, List.set_cons_zero, List.set_cons_succ]; rotate_left
    · have c3 := HC.out W1 hS
      obtain ⟨c0, c1, c2⟩ := c3
      clear hS hE
      unfold ag.does
      go_simp
      try exact ⟨rfl, rfl⟩
    refine ag.walk_sat (by rfl) (fun W1 hS hE => ?_) (fun y1 => ?_)
    rotate_left; simp only [Act.put, List.setIfInBounds_toArray, List.set_cons_zero, List.set_cons_succ]; rotate_left
    · clear hS hE
      unfold ag.does
      go_simp
      refine (ofBool_any _ _).mono ?_
      rintro e W2 ⟨rfl, hb⟩
      exact ⟨_, rfl, rfl, hb, ag.News.none (fun _ _ => trivial) _ _⟩
    refine ag.walk_val (by rfl) (fun W1 hS hE => ?_) ?_
    rotate_left; simp only [Act.put, List.setIfInBounds_toArray, List.set_cons_zero, List.set_cons_succ]; rotate_left
    · have h1 : y1 = vv (ofB true) := hE.get (by kernel_rfl)
      subst h1
      clear hS hE
      unfold ag.does
      go_simp
      try exact ⟨rfl, rfl⟩
    refine ag.walk_val (by rfl) (fun W1 hS hE => ?_) ?_
    rotate_left; simp only [Act.put, List.setIfInBounds_toArray, List.set_cons_zero, List.set_cons_succ]; rotate_left
    · clear hS hE
      unfold ag.does
      go_simp
      try exact ⟨rfl, rfl⟩
    refine ag.walk_nil (fun w7 hS hF' hP => ?_)
    clear hF' hP
    have HS := Lib.hid hS
    clear hS
    go_wp2
    go_ret
    exact ⟨rfl, HBB.out.trans (HS.out.mono HBB.out.size)⟩
/-- the other one of a bool -/
def notV (v : V) : V × Int := if v.k = 0 then (null, 0) else if v.k = 1 then (ofB (!veq v (ofB true)), 0) else (null, 5)
set_option maxHeartbeats 1000000 in
theorem not_any (k n : Int) (s : ByteArray) (W : World) : Calls Try.prog 32 #[ag3 k n s] W fun e w' => e = .returned (.tuple #[vv (notV ⟨k, n, s⟩).1, .int .i64 (notV ⟨k, n, s⟩).2]) ∧ Below W.heap.size W w' := by
  by_cases h0 : k = 0
  · subst h0
    have E : notV ⟨0, n, s⟩ = (null, 0) := by unfold notV; rw [if_pos rfl]
    rw [E]
    clear E
    go_enter Try.func32, Try.ntmps32
    go_wp2
    all_goals refine bodyPost_ret (v := .tuple #[vv null, .int .i64 0]) ?_ rfl ⟨rfl, ?_⟩
    any_goals (repeat' (first | assumption | exact Below.refl _ _ | apply Below.setCell | apply Below.alloc))
    any_goals (first | omega | (simp; omega) | (simp; done))
    all_goals (simp only [results, Try.results32]; go_simp)
    all_goals (first | done | exact ⟨rfl, rfl, rfl⟩ | rfl)
  · have k0 : (k == 0) = false := by simpa using h0
    by_cases h1 : k = 1
    · subst h1
      have E : notV ⟨1, n, s⟩ = (ofB (!veq6 1 n s (ofB true).k (ofB true).n (ofB true).s), 0) := by unfold notV; rw [if_neg (show ¬ (1 : Int) = 0 by decide), if_pos rfl]
      rw [E]
      clear E k0 h0
      have HT := Lib.hid (true_any 1 n s)
      generalize veq6 1 n s (ofB true).k (ofB true).n (ofB true).s = b at *
      go_enter Try.func32, Try.ntmps32
      go_wp2_with (first | (go_at_call 52; (refine (HT.out _).mono ?_; rintro e w1 ⟨rfl, hb1⟩; have hB1 : Below W.heap.size W w1 := after (by (repeat' (first | assumption | exact Below.refl _ _ | apply Below.setCell | apply Below.alloc)); all_goals (first | omega | (simp; omega) | (simp; done))) hb1; obtain ⟨hc1, hf1⟩ := bcell hb1; have hz1 := hb1.size; (try simp at hz1); (try simp only [World.size_alloc] at hc1 hf1); have hy0 : W.heap.size < w1.heap.size := (by omega); have hy1 : W.heap.size + 1 < w1.heap.size := (by omega))) | (go_at_call 34; (refine (ofBool_any _ _).mono ?_; rintro e w1 ⟨rfl, hb1⟩; have hB1 : Below W.heap.size W w1 := after (by (repeat' (first | assumption | exact Below.refl _ _ | apply Below.setCell | apply Below.alloc)); all_goals (first | omega | (simp; omega) | (simp; done))) hb1; obtain ⟨hc1, hf1⟩ := bcell hb1; have hz1 := hb1.size; (try simp at hz1); (try simp only [World.size_alloc] at hc1 hf1); have hy0 : W.heap.size < w1.heap.size := (by omega); have hy1 : W.heap.size + 1 < w1.heap.size := (by omega))))
      all_goals refine bodyPost_ret (v := .tuple #[vv (ofB (!b)), .int .i64 0]) ?_ rfl ⟨rfl, ?_⟩
      any_goals (repeat' (first | assumption | exact Below.refl _ _ | apply Below.setCell | apply Below.alloc))
      any_goals (first | omega | (simp; omega) | (simp; done))
      all_goals (simp only [results, Try.results32]; go_simp)
      all_goals (first | done | exact ⟨rfl, rfl, rfl⟩ | rfl)
    · have k1 : (k == 1) = false := by simpa using h1
      have E : notV ⟨k, n, s⟩ = (null, 5) := by unfold notV; rw [if_neg h0, if_neg h1]
      rw [E]
      clear E h0 h1
      go_enter Try.func32, Try.ntmps32
      go_wp2
      all_goals refine bodyPost_ret (v := .tuple #[vv null, .int .i64 5]) ?_ rfl ⟨rfl, ?_⟩
      any_goals (repeat' (first | assumption | exact Below.refl _ _ | apply Below.setCell | apply Below.alloc))
      any_goals (first | omega | (simp; omega) | (simp; done))
      all_goals (simp only [results, Try.results32]; go_simp)
      all_goals (first | done | exact ⟨rfl, rfl, rfl⟩ | rfl)
end Go.Proofs.Ytjnlimahcodomaa.val
/- A text shown; the first test of the laws on values. -/
namespace Go.Proofs.Ytjnlimahcodomaa.val
set_option linter.unusedVariables false
open Go.RowKit
attribute [local go_sem high] run_eqlV run_neqV
attribute [local go_sem] ag.upon_value ag.upon_skip ag.upon_enter
attribute [local go_sem] Oper.semAt_some
abbrev q1 : ByteArray := ⟨#[39]⟩
abbrev q2 : ByteArray := ⟨#[39, 39]⟩
/-- what stands between the quotes -/
def inner (s : ByteArray) : ByteArray := ⟨(Lib.replaceAll s.data.toList [39] [39, 39]).toArray⟩
def quote (s : ByteArray) : ByteArray := q1 ++ inner s ++ q1
theorem good_null : Good null := .inl ⟨rfl, rfl, rfl⟩
theorem good_ofB (b : Bool) : Good (ofB b) := by cases b; exact .inr (.inl ⟨rfl, .inl rfl, rfl⟩); exact .inr (.inl ⟨rfl, .inr rfl, rfl⟩)
abbrev its : ByteArray := ⟨#[105, 116, 39, 115]⟩
end Go.Proofs.Ytjnlimahcodomaa.val
