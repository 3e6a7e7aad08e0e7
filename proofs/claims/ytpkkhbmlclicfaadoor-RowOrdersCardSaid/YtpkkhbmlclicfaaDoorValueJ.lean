/- Which values may be, by the document's text; how they are shown, by both. -/
import Derived.Test.YtpkkhbmlclicfaaDoorValueI
namespace Go.Proofs.YtpkkhbmlclicfaaDoor.val
set_option linter.unusedVariables false
open Go.RowKit

attribute [local go_sem high] run_eqlV run_neqV
theorem emp_eq (s : ByteArray) : (s.toList == nob.toList) = s.toList.isEmpty := by
  have h : nob.toList = [] := by rw [ByteArray.toList_eq]
  rw [h]; cases s.toList <;> rfl
theorem veq_nob (k n : Int) (s : ByteArray) (n' : Int) : veq6 k n s k n' nob = (n == n' && s.toList.isEmpty) := by
  unfold veq6; rw [emp_eq]; simp
/-- may a value be? -/
def gB (k n : Int) (s : ByteArray) : Bool := if k = 0 then n == 0 && s.toList.isEmpty else if k = 1 then (n == 0 || n == 1) && s.toList.isEmpty else if k = 2 then s.toList.isEmpty else if k = 3 then n == 0 && decide ((s.size : Int) ≤ 64) else false
theorem good_any (k n : Int) (s : ByteArray) (W : World) : Calls Tryd.prog 16 #[ag3 k n s] W fun e w' => e = .returned (.bool (gB k n s)) ∧ Below W.heap.size W w' := by
  unfold gB
  by_cases h0 : k = 0
  · subst h0
    rw [if_pos rfl, ← veq_nob 0 n s 0]; exact good_0 n s W
  · rw [if_neg h0]
    by_cases h1 : k = 1
    · subst h1
      have e : ((n == 0 || n == 1) && s.toList.isEmpty) = (veq6 1 n s 1 0 nob || veq6 1 n s 1 1 nob) := by
        rw [veq_nob, veq_nob]; cases (n == 0) <;> cases (n == 1) <;> cases s.toList.isEmpty <;> rfl
      rw [if_pos rfl, e]; exact good_1 n s W
    · rw [if_neg h1]
      by_cases h2 : k = 2
      · subst h2
        have e : s.toList.isEmpty = veq6 2 n s 2 n nob := by rw [veq_nob]; simp
        rw [if_pos rfl, e]; exact good_2 n s W
      · rw [if_neg h2]
        by_cases h3 : k = 3
        · subst h3
          have e : (n == 0) = veq6 3 n s 3 0 s := by unfold veq6; simp
          rw [if_pos rfl, e]; exact good_3 n s W
        · rw [if_neg h3]; exact good_4 k n s ⟨h0, h1, h2, h3⟩ W

theorem rgood_0 (n : Int) (s : ByteArray) (W : World) : Calls Tryd.prog 17 #[ag3 0 n s] W fun e w' => e = .returned (.bool (n == 0 && s.toList.isEmpty)) ∧ Below W.heap.size W w' := by
  by_cases h : n = 0
  · subst h
    go_enter Tryd.func17, Tryd.ntmps17
    go_wp2
    go_ret
    exact ⟨rfl, below_alloc1 _ _⟩
  · have q : (n == 0) = false := by simpa using h
    rw [q]
    go_enter Tryd.func17, Tryd.ntmps17
    go_wp2
    go_ret
    exact ⟨rfl, below_alloc1 _ _⟩
theorem rgood_1 (n : Int) (s : ByteArray) (W : World) : Calls Tryd.prog 17 #[ag3 1 n s] W fun e w' => e = .returned (.bool ((n == 0 || n == 1) && s.toList.isEmpty)) ∧ Below W.heap.size W w' := by
  by_cases h : n = 0
  · subst h
    go_enter Tryd.func17, Tryd.ntmps17
    go_wp2
    go_ret
    exact ⟨rfl, below_alloc1 _ _⟩
  · have q : (n == 0) = false := by simpa using h
    rw [q]
    by_cases h1 : n = 1
    · subst h1
      clear h
      go_enter Tryd.func17, Tryd.ntmps17
      go_wp2
      go_ret
      exact ⟨rfl, below_alloc1 _ _⟩
    · have q1 : (n == 1) = false := by simpa using h1
      rw [q1]
      clear h h1
      go_enter Tryd.func17, Tryd.ntmps17
      go_wp2
      go_ret
      exact ⟨rfl, below_alloc1 _ _⟩
theorem rgood_2 (n : Int) (s : ByteArray) (W : World) : Calls Tryd.prog 17 #[ag3 2 n s] W fun e w' => e = .returned (.bool s.toList.isEmpty) ∧ Below W.heap.size W w' := by
  go_enter Tryd.func17, Tryd.ntmps17
  go_wp2
  go_ret
  exact ⟨rfl, below_alloc1 _ _⟩
theorem rgood_3 (n : Int) (s : ByteArray) (W : World) : Calls Tryd.prog 17 #[ag3 3 n s] W fun e w' => e = .returned (.bool (n == 0 && decide ((s.size : Int) ≤ 64))) ∧ Below W.heap.size W w' := by
  by_cases h : n = 0
  · subst h
    go_enter Tryd.func17, Tryd.ntmps17
    go_wp2
    go_ret
    exact ⟨rfl, below_alloc1 _ _⟩
  · have q : (n == 0) = false := by simpa using h
    rw [q]
    clear h
    go_enter Tryd.func17, Tryd.ntmps17
    go_wp2
    go_ret
    exact ⟨rfl, below_alloc1 _ _⟩
theorem rgood_4 (k n : Int) (s : ByteArray) (h : k ≠ 0 ∧ k ≠ 1 ∧ k ≠ 2 ∧ k ≠ 3) (W : World) : Calls Tryd.prog 17 #[ag3 k n s] W fun e w' => e = .returned (.bool false) ∧ Below W.heap.size W w' := by
  have k0 : (k == 0) = false := by simpa using h.1
  have k1 : (k == 1) = false := by simpa using h.2.1
  have k2 : (k == 2) = false := by simpa using h.2.2.1
  have k3 : (k == 3) = false := by simpa using h.2.2.2
  clear h
  go_enter Tryd.func17, Tryd.ntmps17
  go_wp2
  go_ret
  exact ⟨rfl, below_alloc1 _ _⟩
theorem rgood_any (k n : Int) (s : ByteArray) (W : World) : Calls Tryd.prog 17 #[ag3 k n s] W fun e w' => e = .returned (.bool (gB k n s)) ∧ Below W.heap.size W w' := by
  unfold gB
  by_cases h0 : k = 0
  · subst h0
    rw [if_pos rfl]; exact rgood_0 n s W
  · rw [if_neg h0]
    by_cases h1 : k = 1
    · subst h1
      rw [if_pos rfl]; exact rgood_1 n s W
    · rw [if_neg h1]
      by_cases h2 : k = 2
      · subst h2
        rw [if_pos rfl]; exact rgood_2 n s W
      · rw [if_neg h2]
        by_cases h3 : k = 3
        · subst h3
          rw [if_pos rfl]; exact rgood_3 n s W
        · rw [if_neg h3]; exact rgood_4 k n s ⟨h0, h1, h2, h3⟩ W

/-- the other sign -/
def negV (v : V) : V × Int := if v.k = 0 then (null, 0) else if v.k ≠ 2 then (null, 5) else if v.n = -9223372036854775808 then (null, 8) else (ofN (-v.n), 0)
set_option maxHeartbeats 1000000 in
theorem neg_any (k n : Int) (s : ByteArray) (hn : -9223372036854775808 ≤ n ∧ n ≤ 9223372036854775807) (W : World) : Calls Tryd.prog 25 #[ag3 k n s] W fun e w' => e = .returned (.tuple #[vv (negV ⟨k, n, s⟩).1, .int .i64 (negV ⟨k, n, s⟩).2]) ∧ Below W.heap.size W w' := by
  by_cases h0 : k = 0
  · subst h0
    have E : negV ⟨0, n, s⟩ = (null, 0) := by unfold negV; rw [if_pos rfl]
    rw [E]
    clear E
    go_enter Tryd.func25, Tryd.ntmps25
    go_wp2
    all_goals refine bodyPost_ret (v := .tuple #[vv null, .int .i64 0]) ?_ (by rfl) (And.intro (by rfl) ?_)
    any_goals (repeat' (first | assumption | exact Below.refl _ _ | apply Below.setCell | apply Below.alloc | apply below_drewN))
    any_goals (first | omega | (simp; omega) | (simp; done))
    all_goals (simp only [results, Tryd.results25]; go_simp)
    all_goals (first | done | exact ⟨rfl, rfl, rfl⟩ | rfl)
  · have k0 : (k == 0) = false := by simpa using h0
    by_cases h1 : k = 2
    · subst h1
      by_cases h2 : n = -9223372036854775808
      · subst h2
        have E : negV ⟨2, -9223372036854775808, s⟩ = (null, 8) := rfl
        rw [E]
        clear E
        go_enter Tryd.func25, Tryd.ntmps25
        go_wp2
        all_goals refine bodyPost_ret (v := .tuple #[vv null, .int .i64 8]) ?_ (by rfl) (And.intro (by rfl) ?_)
        any_goals (repeat' (first | assumption | exact Below.refl _ _ | apply Below.setCell | apply Below.alloc | apply below_drewN))
        any_goals (first | omega | (simp; omega) | (simp; done))
        all_goals (simp only [results, Tryd.results25]; go_simp)
        all_goals (first | done | exact ⟨rfl, rfl, rfl⟩ | rfl)
      · have E : negV ⟨2, n, s⟩ = (ofN (-n), 0) := by unfold negV; rw [if_neg h0, if_neg (by simp), if_neg h2]
        rw [E]
        have q : (n == -9223372036854775808) = false := by simpa using h2
        have b1 : -9223372036854775808 ≤ -n := by omega
        have b2 : -n ≤ 9223372036854775807 := by omega
        clear E h2 h0 k0 hn
        go_enter Tryd.func25, Tryd.ntmps25
        go_wp2_with (first | (go_at_call 22; ((with_reducible refine (ofInt_any _ _).mono ?_); rintro e w1 ⟨rfl, hb1⟩; have hB1 : Below W.heap.size W w1 := after (by (repeat' (first | assumption | exact Below.refl _ _ | apply Below.setCell | apply Below.alloc)); all_goals (first | omega | (simp; omega) | (simp; done))) hb1; obtain ⟨hc1, hf1⟩ := bcell hb1; have hz1 := hb1.size; (try simp at hz1); (try simp only [World.size_alloc] at hc1 hf1); have hy0 : W.heap.size < w1.heap.size := (by omega); have hy1 : W.heap.size + 1 < w1.heap.size := (by omega))))
        all_goals refine bodyPost_ret (v := .tuple #[vv (ofN (-n)), .int .i64 0]) ?_ (by rfl) (And.intro (by rfl) ?_)
        any_goals (repeat' (first | assumption | exact Below.refl _ _ | apply Below.setCell | apply Below.alloc | apply below_drewN))
        any_goals (first | omega | (simp; omega) | (simp; done))
        all_goals (simp only [results, Tryd.results25]; go_simp)
        all_goals (first | done | exact ⟨rfl, rfl, rfl⟩ | rfl)
    · have q : (k == 2) = false := by simpa using h1
      have q2 : (k != 2) = true := by simpa using h1
      have E : negV ⟨k, n, s⟩ = (null, 5) := by unfold negV; rw [if_neg h0, if_pos h1]
      rw [E]
      clear E h0 h1
      go_enter Tryd.func25, Tryd.ntmps25
      go_wp2
      all_goals refine bodyPost_ret (v := .tuple #[vv null, .int .i64 5]) ?_ (by rfl) (And.intro (by rfl) ?_)
      any_goals (repeat' (first | assumption | exact Below.refl _ _ | apply Below.setCell | apply Below.alloc | apply below_drewN))
      any_goals (first | omega | (simp; omega) | (simp; done))
      all_goals (simp only [results, Tryd.results25]; go_simp)
      all_goals (first | done | exact ⟨rfl, rfl, rfl⟩ | rfl)
end Go.Proofs.YtpkkhbmlclicfaaDoor.val
