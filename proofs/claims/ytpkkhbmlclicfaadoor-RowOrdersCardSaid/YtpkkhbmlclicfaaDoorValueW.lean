/- The program's operators on values, walked. -/
import Derived.Test.YtpkkhbmlclicfaaDoorRows
import Derived.Test.YtpkkhbmlclicfaaDoorValueP
import Derived.Test.YtpkkhbmlclicfaaDoorKit
import Derived.WalkLawsBesides
import Derived.Deep.QuietTactic
import Derived.BigQuiet
import Derived.Outline
namespace Go.Proofs.YtpkkhbmlclicfaaDoor.val
set_option linter.unusedVariables false
open Go.RowKit

abbrev TV : TypeId := 26
abbrev TR : TypeId := 27
abbrev ag3 (k n : Int) (s : ByteArray) : Value := .agg #[.int .i64 k, .int .i64 n, .string s]
theorem ret_bool {a b : Bool} (h : a = b) : Ending.returned (.bool a) = .returned (.bool b) := by rw [h]
theorem ret_ib {n : Int} {a b : Bool} (h : a = b) : Ending.returned (.tuple #[.int .i64 n, .bool a]) = .returned (.tuple #[.int .i64 n, .bool b]) := by rw [h]
theorem bcell {W w1 : World} (hb : Below W.heap.size W w1) : (∀ b o, b < W.heap.size → w1.cell? ⟨b, o, none⟩ = W.cell? ⟨b, o, none⟩) ∧ (∀ b o, b < W.heap.size → w1.frozen? ⟨b, o, none⟩ = W.frozen? ⟨b, o, none⟩) :=
  ⟨fun b o h => hb.cell (p := ⟨b, o, none⟩) h, fun b o h => hb.frozen (p := ⟨b, o, none⟩) h⟩
theorem below_alloc1 (W : World) (o : Go.Obj) : Below W.heap.size W (W.alloc o) := (Below.refl _ _).alloc (Nat.le_refl _) _
theorem below_alloc2 (W : World) (o o' : Go.Obj) : Below W.heap.size W ((W.alloc o).alloc o') := ((Below.refl _ _).alloc (Nat.le_refl _) _).alloc (by simp) _

theorem run_eqlV (k n : Int) (s : ByteArray) (k' n' : Int) (s' : ByteArray) (w : World) : (binOp .eql 26 (ag3 k n s) (ag3 k' n' s')).run Tryd.prog w = .ok (.bool (veq6 k n s k' n' s')) w := by
  rw [run_eql_struct]
  go_simp
  unfold veq6
  by_cases h1 : k = k' <;> by_cases h2 : n = n' <;> by_cases h3 : s.toList = s'.toList <;> simp [h1, h2, h3]
theorem run_neqV (k n : Int) (s : ByteArray) (k' n' : Int) (s' : ByteArray) (w : World) : (binOp .neq 26 (ag3 k n s) (ag3 k' n' s')).run Tryd.prog w = .ok (.bool (!veq6 k n s k' n' s')) w := by
  rw [run_neq_struct]
  go_simp
  unfold veq6
  by_cases h1 : k = k' <;> by_cases h2 : n = n' <;> by_cases h3 : s.toList = s'.toList <;> simp [h1, h2, h3]
theorem after {W X w1 : World} (h : Below W.heap.size W X) (hb : Below X.heap.size X w1) : Below W.heap.size W w1 := h.trans (hb.mono h.size)
abbrev vv (v : V) : Value := ag3 v.k v.n v.s

theorem ofBool_any (b : Bool) (W : World) : Calls Tryd.prog 23 #[.bool b] W fun e w' => e = .returned (ag3 (ofB b).k (ofB b).n (ofB b).s) ∧ Below W.heap.size W w' := by
  cases b
  all_goals
    go_enter Tryd.func23, Tryd.ntmps23
    go_wp2
    exact bodyPost_ret (v := ag3 _ _ _) (by simp [results, Tryd.results23, go_sem]; exact ⟨rfl, rfl, rfl⟩) rfl ⟨rfl, below_alloc1 _ _⟩
theorem ofInt_any (n : Int) (W : World) : Calls Tryd.prog 22 #[.int .i64 n] W fun e w' => e = .returned (ag3 2 n ByteArray.empty) ∧ Below W.heap.size W w' := by
  go_enter Tryd.func22, Tryd.ntmps22
  go_wp2
  exact bodyPost_ret (v := ag3 _ _ _) (by simp [results, Tryd.results22, go_sem]; rfl) rfl ⟨rfl, below_alloc1 _ _⟩
theorem ofText_any (s : ByteArray) (W : World) : Calls Tryd.prog 21 #[.string s] W fun e w' => e = .returned (ag3 3 0 s) ∧ Below W.heap.size W w' := by
  go_enter Tryd.func21, Tryd.ntmps21
  go_wp2
  exact bodyPost_ret (v := ag3 _ _ _) (by simp [results, Tryd.results21, go_sem]) rfl ⟨rfl, below_alloc1 _ _⟩

theorem fit_any (op ka na kb nb : Int) (sa sb : ByteArray) (W : World) : Calls Tryd.prog 40 #[.int .i64 op, ag3 ka na sa, ag3 kb nb sb] W fun e w' => e = .returned (.bool (fitB op ka kb)) ∧ Below W.heap.size W w' := by
  go_enter Tryd.func40, Tryd.ntmps40
  go_wp2
  all_goals go_ret
  all_goals refine ⟨ret_bool ?_, below_alloc2 _ _ _⟩
  all_goals (unfold fitB; repeat' split)
  all_goals first
    | omega
    | (simp_all; done)
    | (simp_all; omega)

theorem holds_any (op o : Int) (W : World) : Calls Tryd.prog 42 #[.int .i64 op, .int .i64 o] W fun e w' => e = .returned (.bool (if op = 1 then o == 0 else if op = 2 then o != 0 else if op = 3 then decide (o < 0) else if op = 4 then decide (o ≤ 0) else if op = 5 then decide (0 < o) else decide (0 ≤ o))) ∧ W = w' := by
  go_enter Tryd.func42, Tryd.ntmps42
  go_wp2
  all_goals go_ret
  all_goals refine ⟨ret_bool ?_, rfl⟩
  all_goals repeat' split
  all_goals first
    | omega
    | rfl
    | (simp_all; done)
    | (simp_all; omega)

attribute [local go_sem high] run_eqlV run_neqV
set_option maxHeartbeats 1000000 in
theorem logic_any (op ka na kb nb : Int) (sa sb : ByteArray) (W : World) : Calls Tryd.prog 41 #[.int .i64 op, ag3 ka na sa, ag3 kb nb sb] W fun e w' => e = .returned (vv (logicV op ⟨ka, na, sa⟩ ⟨kb, nb, sb⟩)) ∧ Below W.heap.size W w' := by
  by_cases hka : ka = 0
  · subst hka
    go_enter Tryd.func41, Tryd.ntmps41
    go_wp2_with (go_at_call 23; ((refine (ofBool_any _ _).mono ?_; rintro e w1 ⟨rfl, hb1⟩; have hB1 : Below W.heap.size W w1 := after (by (repeat' (first | assumption | exact Below.refl _ _ | apply Below.setCell | apply Below.alloc)); all_goals (first | omega | (simp; omega) | (simp; done))) hb1; obtain ⟨hc1, hf1⟩ := bcell hb1; have hz1 := hb1.size; simp at hz1; simp only [World.size_alloc] at hc1 hf1; have hy1 : W.heap.size < w1.heap.size := (by omega); have hy2 : W.heap.size + 1 < w1.heap.size := (by omega); have hy3 : W.heap.size + 1 + 1 < w1.heap.size := (by omega))))
    all_goals refine bodyPost_ret (v := vv (logicV op _ _)) ?_ rfl ⟨rfl, ?_⟩
    any_goals (repeat' (first | assumption | apply Below.setCell | apply Below.alloc))
    any_goals (first | omega | (simp; omega) | (simp; done))
    all_goals (simp only [results, Tryd.results41]; go_simp)
    all_goals first
      | (rw [logic_yes (.inl ‹_›)]; exact ⟨rfl, rfl, rfl⟩)
      | (rw [logic_yes (.inr ‹_›)]; exact ⟨rfl, rfl, rfl⟩)
      | (rw [logic_null ‹_› ‹_› (.inl rfl)]; exact ⟨rfl, rfl, rfl⟩)
  · have ka0 : (ka == 0) = false := by simpa using hka
    by_cases hkb : kb = 0
    · subst hkb
      go_enter Tryd.func41, Tryd.ntmps41
      go_wp2_with (go_at_call 23; ((refine (ofBool_any _ _).mono ?_; rintro e w1 ⟨rfl, hb1⟩; have hB1 : Below W.heap.size W w1 := after (by (repeat' (first | assumption | exact Below.refl _ _ | apply Below.setCell | apply Below.alloc)); all_goals (first | omega | (simp; omega) | (simp; done))) hb1; obtain ⟨hc1, hf1⟩ := bcell hb1; have hz1 := hb1.size; simp at hz1; simp only [World.size_alloc] at hc1 hf1; have hy1 : W.heap.size < w1.heap.size := (by omega); have hy2 : W.heap.size + 1 < w1.heap.size := (by omega); have hy3 : W.heap.size + 1 + 1 < w1.heap.size := (by omega))))
      all_goals refine bodyPost_ret (v := vv (logicV op _ _)) ?_ rfl ⟨rfl, ?_⟩
      any_goals (repeat' (first | assumption | apply Below.setCell | apply Below.alloc))
      any_goals (first | omega | (simp; omega) | (simp; done))
      all_goals (simp only [results, Tryd.results41]; go_simp)
      all_goals first
        | (rw [logic_yes (.inl ‹_›)]; exact ⟨rfl, rfl, rfl⟩)
        | (rw [logic_yes (.inr ‹_›)]; exact ⟨rfl, rfl, rfl⟩)
        | (rw [logic_null ‹_› ‹_› (.inr rfl)]; exact ⟨rfl, rfl, rfl⟩)
    · have kb0 : (kb == 0) = false := by simpa using hkb
      have hno : ¬ (ka = 0 ∨ kb = 0) := fun h => h.elim hka hkb
      have HNO := Lib.hid hno
      clear hno hka hkb
      go_enter Tryd.func41, Tryd.ntmps41
      go_wp2_with (go_at_call 23; ((refine (ofBool_any _ _).mono ?_; rintro e w1 ⟨rfl, hb1⟩; have hB1 : Below W.heap.size W w1 := after (by (repeat' (first | assumption | exact Below.refl _ _ | apply Below.setCell | apply Below.alloc)); all_goals (first | omega | (simp; omega) | (simp; done))) hb1; obtain ⟨hc1, hf1⟩ := bcell hb1; have hz1 := hb1.size; simp at hz1; simp only [World.size_alloc] at hc1 hf1; have hy1 : W.heap.size < w1.heap.size := (by omega); have hy2 : W.heap.size + 1 < w1.heap.size := (by omega); have hy3 : W.heap.size + 1 + 1 < w1.heap.size := (by omega))))
      all_goals refine bodyPost_ret (v := vv (logicV op _ _)) ?_ rfl ⟨rfl, ?_⟩
      any_goals (repeat' (first | assumption | apply Below.setCell | apply Below.alloc))
      any_goals (first | omega | (simp; omega) | (simp; done))
      all_goals (simp only [results, Tryd.results41]; go_simp)
      all_goals first
        | (rw [logic_yes (.inl ‹_›)]; exact ⟨rfl, rfl, rfl⟩)
        | (rw [logic_yes (.inr ‹_›)]; exact ⟨rfl, rfl, rfl⟩)
        | (rw [logic_rest ‹_› ‹_› HNO.out]; exact ⟨rfl, rfl, rfl⟩)

theorem times_any (a b : Int) (ha : -9223372036854775808 ≤ a ∧ a ≤ 9223372036854775807) (hb : -9223372036854775808 ≤ b ∧ b ≤ 9223372036854775807) (W : World) :
    Calls Tryd.prog 66 #[.int .i64 a, .int .i64 b] W fun e w' => ∃ m, e = .returned (.tuple #[.int .i64 m, .bool (timesB a b)]) ∧ (timesB a b = true → m = timesN a b) ∧ Below W.heap.size W w' := by
  by_cases h0 : a = 0
  · subst h0
    have hx := Lib.hid (times_zero 0 b (.inl rfl))
    go_enter Tryd.func66, Tryd.ntmps66
    go_wp2
    go_ret2
    exact ⟨0, (ret_ib hx.out.2.symm), fun _ => hx.out.1.symm, Below.refl _ _⟩
  · have a0 : (a == 0) = false := by simpa using h0
    by_cases h1 : b = 0
    · subst h1
      have hx := Lib.hid (times_zero a 0 (.inr rfl))
      go_enter Tryd.func66, Tryd.ntmps66
      go_wp2
      go_ret2
      exact ⟨0, (ret_ib hx.out.2.symm), fun _ => hx.out.1.symm, Below.refl _ _⟩
    · have b0 : (b == 0) = false := by simpa using h1
      have hq := Lib.hid (times_q a b ha hb h1)
      by_cases h2 : b = -1 ∧ a = -9223372036854775808
      · obtain ⟨rfl, rfl⟩ := h2
        go_enter Tryd.func66, Tryd.ntmps66
        go_wp2
        go_ret2
        exact ⟨0, rfl, fun _ => rfl, Below.refl _ _⟩
      · have hm : (b == -1 && a == -9223372036854775808) = false := by simpa using h2
        by_cases h3 : b = -1
        · subst h3
          have a1 : (a == -9223372036854775808) = false := by simpa using h2
          go_enter Tryd.func66, Tryd.ntmps66
          go_wp2
          go_quiet (fail)
          go_wp2
          go_ret2
          have hn : a * (-1) = -a := by omega
          have ha1 : a ≠ -9223372036854775808 := by simpa using a1
          have hB : timesB a (-1) = true := by unfold timesB; rw [hn, Bool.and_eq_true, decide_eq_true_eq, decide_eq_true_eq]; omega
          have hN : timesN a (-1) = -a := by unfold timesN; rw [hn, if_pos (by omega)]
          exact ⟨-a, ret_ib hB.symm, fun _ => hN.symm, below_drewN (Below.refl _ _) _⟩
        · have b1 : (b == -1) = false := by simpa using h3
          go_enter Tryd.func66, Tryd.ntmps66
          go_wp2
          go_quiet (fail)
          go_wp2
          go_ret2
          rw [← IntWalk.i64_left, ← IntWalk.i64_left]
          rw [wrap_tdiv (a * b) b h1 h3]
          exact ⟨_, ret_ib hq.out.1, hq.out.2, below_drewN (Below.refl _ _) _⟩

end Go.Proofs.YtpkkhbmlclicfaaDoor.val
