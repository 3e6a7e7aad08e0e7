/- The first token of a text, by its kind, walked. -/
import Derived.Test.YtkgfmjejcpjfiaaDoorLexB
namespace Go.Proofs.YtkgfmjejcpjfiaaDoor.lx
set_option linter.unusedVariables false
open Go.RowKit

abbrev nob : ByteArray := ⟨#[]⟩
abbrev tkV (k : Int) (s : ByteArray) (n a : Int) : Value := .agg #[.int .i64 k, .string s, .int .i64 n, .int .i64 a]
def fstV : Fst → Value
  | .bad e => .tuple #[tkV 0 nob 0 0, .int .i64 0, .int .i64 (e : Int)]
  | .tok k s n m => .tuple #[tkV k ⟨s.toArray⟩ n 0, .int .i64 ((m + 1 : Nat) : Int), .int .i64 0]
theorem bytes_self (s : ByteArray) : (⟨s.data.toList.toArray⟩ : ByteArray) = s := by cases s; simp

set_option maxRecDepth 100000 in
set_option maxHeartbeats 1000000 in
theorem word_any (k : Nat) (hk : k ≤ 2) (s : ByteArray) (hs : s.size ≤ 1099511627776) (h0 : 0 < s.size) (W : World) : Calls Tryd.prog 20 #[.int .i64 (k : Int), .string s] W fun e w' => e = .returned (fstV (wordL k s.data.toList)) ∧ Below W.heap.size W w' := by
  have hk0 : (0 : Int) ≤ (k : Int) := by omega
  have hk1 : (k : Int) ≤ 2 := by omega
  have hs0 : (0 : Int) ≤ (s.size : Int) := by omega
  unfold wordL
  rw [data_len]
  by_cases h : 16 < s.size
  · have d : (16 : Int) < (s.size : Int) := by omega
    rw [if_pos h]
    go_enter Tryd.func20, Tryd.ntmps20
    go_wp2_with fail
    refine bodyPost_ret (v := .tuple #[tkV 0 nob 0 0, .int .i64 0, .int .i64 8]) ?_ (by rfl) ⟨rfl, ?_⟩
    · simp only [results, Tryd.results20]; go_simp
    · (repeat' (first | assumption | exact Below.refl _ _ | apply Below.setCell | apply Below.alloc))
      all_goals (first | omega | (simp; omega) | (simp; done))
  · have d : ¬ (16 : Int) < (s.size : Int) := by omega
    rw [if_neg h]
    have he : s.size - 1 + 1 = s.size := by omega
    unfold fstV
    simp only
    rw [bytes_self, he]
    go_enter Tryd.func20, Tryd.ntmps20
    go_wp2_with fail
    refine bodyPost_ret (v := .tuple #[tkV k s 0 0, .int .i64 (s.size : Int), .int .i64 0]) ?_ (by rfl) ⟨rfl, ?_⟩
    · simp only [results, Tryd.results20]; go_simp
    · (repeat' (first | assumption | exact Below.refl _ _ | apply Below.setCell | apply Below.alloc))
      all_goals (first | omega | (simp; omega) | (simp; done))

theorem valL_snoc (l : List UInt8) (c : UInt8) : valL (l ++ [c]) = valL l * 10 + (c.toNat - 48) := by unfold valL; rw [List.foldl_append]; rfl
theorem valL_lt (l : List UInt8) (h : l.all digB = true) : valL l < 10 ^ l.length := by
  suffices H : ∀ (l : List UInt8) (a b : Nat), l.all digB = true → a < b → l.foldl (fun a c => a * 10 + (c.toNat - 48)) a < b * 10 ^ l.length by
    have := H l 0 1 h (by decide)
    simpa [valL] using this
  intro l
  induction l with
  | nil => intro a b _ h; simpa using h
  | cons c l ih =>
    intro a b hc hab
    rw [List.all_cons, Bool.and_eq_true] at hc
    have h1 := hc.1
    unfold digB at h1
    simp only [Bool.and_eq_true, decide_eq_true_eq] at h1
    rw [List.foldl_cons, List.length_cons, Nat.pow_succ, ← Nat.mul_assoc, Nat.mul_right_comm]
    exact ih _ _ hc.2 (by omega)

set_option maxRecDepth 100000 in
set_option maxHeartbeats 2000000 in
theorem number_any (s : ByteArray) (hs : s.size ≤ 1099511627776) (h0 : 0 < s.size) (hd : s.data.toList.all digB = true) (W : World) : Calls Tryd.prog 23 #[.string s] W fun e w' => e = .returned (fstV (numL s.data.toList)) ∧ Below W.heap.size W w' := by
  have hs0 : (0 : Int) ≤ (s.size : Int) := by omega
  obtain ⟨F, hF⟩ : ∃ F, fstV (numL s.data.toList) = F := ⟨_, rfl⟩
  rw [hF]
  have HF := Lib.hid hF
  clear hF
  by_cases h : 19 < s.size
  · have d : (19 : Int) < (s.size : Int) := by omega
    have e := HF.out
    unfold numL at e
    rw [data_len, if_pos h] at e
    subst e
    go_enter Tryd.func23, Tryd.ntmps23
    go_wp2_with fail
    refine bodyPost_ret (v := .tuple #[tkV 0 nob 0 0, .int .i64 0, .int .i64 8]) ?_ (by rfl) ⟨rfl, ?_⟩
    · simp only [results, Tryd.results23]; go_simp
    · (repeat' (first | assumption | exact Below.refl _ _ | apply Below.setCell | apply Below.alloc))
      all_goals (first | omega | (simp; omega) | (simp; done))
  · have d : ¬ (19 : Int) < (s.size : Int) := by omega
    have HN9 := Lib.hid h
    have HD := Lib.hid hd
    clear hd
    have hv : ∀ k ≤ s.size, valL (s.data.toList.take k) < 10000000000000000000 ∧ (k < s.size → valL (s.data.toList.take k) < 1000000000000000000) := fun k hk => by
      have ha : (s.data.toList.take k).all digB = true := by
        rw [List.all_eq_true]
        exact fun x hx => List.all_eq_true.1 HD.out x (List.mem_of_mem_take hx)
      have h1 := valL_lt _ ha
      have hl : (s.data.toList.take k).length = k := by rw [List.length_take, data_len]; omega
      rw [hl] at h1
      refine ⟨Nat.lt_of_lt_of_le h1 (Nat.pow_le_pow_right (by decide) (show k ≤ 19 by omega)), fun hk' => Nat.lt_of_lt_of_le h1 (Nat.pow_le_pow_right (by decide) (show k ≤ 18 by omega))⟩
    have HV := Lib.hid hv
    clear hv
    go_enter Tryd.func23, Tryd.ntmps23
    go_wp2_with fail
    go_loopw [5, 13] (fun u i wr => ∃ k : Nat, u = .int .u64 (valL (s.data.toList.take k) : Int) ∧ i = .int .i64 (k : Int) ∧ k ≤ s.size ∧ wr = W.alloc (.cells #[.int .i64 0, .string nob, .int .i64 0, .int .i64 0] 32)) (fun _ i _ => s.size - (intOf i).toNat)
    case atStart => exact ⟨0, rfl, rfl, Nat.zero_le _, rfl⟩
    case round =>
      obtain ⟨k, rfl, rfl, hk, rfl⟩ := hrel
      have hd0 : (0 : Int) ≤ (k : Int) := by omega
      by_cases hz : k < s.size
      · have dz : (k : Int) < (s.size : Int) := by omega
        have hc : digB s[k] = true := List.all_eq_true.1 HD.out _ (show s[k] ∈ s.data.toList from List.getElem_mem (by rw [data_len]; exact hz))
        unfold digB at hc
        simp only [Bool.and_eq_true, decide_eq_true_eq] at hc
        obtain ⟨c1, c2⟩ := hc
        have b1 := ((HV.out k hk).2 hz)
        have e1 : s.data.toList.take (k + 1) = s.data.toList.take k ++ [s[k]] := List.take_succ_eq_append_getElem (by rw [data_len]; exact hz)
        have e2 : valL (s.data.toList.take (k + 1)) = valL (s.data.toList.take k) * 10 + (s[k].toNat - 48) := by rw [e1, valL_snoc]
        generalize valL (s.data.toList.take k) = V at *
        have E2 := Lib.hid e2
        clear e1 e2
        have q1 : (48 : Int) ≤ (s[k].toNat : Int) := by omega
        have q2 : (s[k].toNat : Int) ≤ 57 := by omega
        have q3 : (0 : Int) ≤ (V : Int) := by omega
        have q4 : (V : Int) < 1000000000000000000 := by omega
        go_wp2_with fail
        go_roundw
        case rel => exact ⟨k + 1, by rw [E2.out]; congr 1; omega, by go_num, by omega, by first | rfl | trivial⟩
        case measure => simp [intOf]; omega
      · have dz : ¬ (k : Int) < (s.size : Int) := by omega
        have hks : k = s.size := by omega
        have b1 := ((HV.out k hk).1)
        have e0 : s.data.toList.take k = s.data.toList := by rw [hks, ← data_len, List.take_length]
        rw [e0] at b1
        have e3 : valL (s.data.toList.take k) = valL s.data.toList := by rw [e0]
        clear hks
        obtain ⟨V, hVV⟩ : ∃ V, valL s.data.toList = V := ⟨_, rfl⟩
        rw [hVV] at b1 e3
        have HVV := Lib.hid hVV
        clear e0 hVV
        rw [e3]
        clear e3
        have q3 : (0 : Int) ≤ (V : Int) := by omega
        have q4 : (V : Int) < 10000000000000000000 := by omega
        clear b1
        by_cases hV : 9223372036854775807 < V
        · have dV : (9223372036854775807 : Int) < (V : Int) := by omega
          have HVn := Lib.hid hV
          clear hV
          obtain ⟨z, hzz⟩ : ∃ z : Int, (V : Int) = z := ⟨_, rfl⟩
          rw [hzz] at q3 q4 dV ⊢
          have HZ := Lib.hid hzz
          clear hzz
          go_wp2_with fail
          refine bodyPost_ret (v := .tuple #[tkV 0 nob 0 0, .int .i64 0, .int .i64 8]) ?_ (by rfl) ⟨by rw [← HF.out]; unfold numL; rw [data_len, if_neg HN9.out, HVV.out, if_pos HVn.out]; rfl, ?_⟩
          · simp only [results, Tryd.results23]; go_simp
          · (repeat' (first | assumption | exact Below.refl _ _ | apply Below.setCell | apply Below.alloc))
            all_goals (first | omega | (simp; omega) | (simp; done))
        · have dV : ¬ (9223372036854775807 : Int) < (V : Int) := by omega
          have he : s.size - 1 + 1 = s.size := by omega
          have HVn := Lib.hid hV
          have q5 : (V : Int) ≤ 9223372036854775807 := by omega
          clear hV dV
          obtain ⟨z, hzz⟩ : ∃ z : Int, (V : Int) = z := ⟨_, rfl⟩
          rw [hzz] at q3 q4 q5 ⊢
          have HZ := Lib.hid hzz
          clear hzz
          have q6 : ¬ (9223372036854775807 : Int) < z := by omega
          go_wp2_with fail
          refine bodyPost_ret (v := .tuple #[tkV 3 s z 0, .int .i64 (s.size : Int), .int .i64 0]) ?_ (by rfl) ⟨by rw [← HF.out]; unfold numL; rw [data_len, if_neg HN9.out, HVV.out, if_neg HVn.out]; unfold fstV; simp only; rw [bytes_self, he, HZ.out]; rfl, ?_⟩
          · simp only [results, Tryd.results23]; go_simp
          · (repeat' (first | assumption | exact Below.refl _ _ | apply Below.setCell | apply Below.alloc))
            all_goals (first | omega | (simp; omega) | (simp; done))
end Go.Proofs.YtkgfmjejcpjfiaaDoor.lx
