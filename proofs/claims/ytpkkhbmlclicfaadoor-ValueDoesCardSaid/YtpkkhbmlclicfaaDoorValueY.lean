/- The document's operators on values, walked. -/
import Derived.Test.YtpkkhbmlclicfaaDoorValueR
namespace Go.Proofs.YtpkkhbmlclicfaaDoor.val
set_option linter.unusedVariables false
open Go.RowKit

attribute [local go_sem high] run_eqR run_neR

set_option maxRecDepth 100000 in
set_option maxHeartbeats 4000000 in
theorem ref_logic13 (ka na kb nb : Int) (sa sb : ByteArray) (W : World) (hf : fitB 13 ka kb = true) : Calls Tryd.prog 13 #[.int .i64 13, ag3 ka na sa, ag3 kb nb sb] W fun e w' => e = .returned (.tuple #[vv (doV 13 ⟨ka, na, sa⟩ ⟨kb, nb, sb⟩).1, .int .i64 (doV 13 ⟨ka, na, sa⟩ ⟨kb, nb, sb⟩).2]) ∧ Below W.heap.size W w' := by
  have E : doV 13 ⟨ka, na, sa⟩ ⟨kb, nb, sb⟩ = (logicV 13 ⟨ka, na, sa⟩ ⟨kb, nb, sb⟩, 0) := by unfold doV; rw [if_neg (by decide), if_neg (by rw [hf]; decide), if_pos (by decide)]
  rw [E]
  clear E
  have hk : (ka = 0 ∨ ka = 1) ∧ (kb = 0 ∨ kb = 1) := by unfold fitB at hf; simp at hf; omega
  clear hf
  have hx : veq6 ka na sa (ofB false).k (ofB false).n (ofB false).s = veq ⟨ka, na, sa⟩ (ofB ((13 : Int) == 14)) := rfl
  have hy : veq6 kb nb sb (ofB false).k (ofB false).n (ofB false).s = veq ⟨kb, nb, sb⟩ (ofB ((13 : Int) == 14)) := rfl
  have L1 := @logic_yes 13 ⟨ka, na, sa⟩ ⟨kb, nb, sb⟩
  have L2 := @logic_null 13 ⟨ka, na, sa⟩ ⟨kb, nb, sb⟩
  have L3 := @logic_rest 13 ⟨ka, na, sa⟩ ⟨kb, nb, sb⟩
  rw [← hx, ← hy] at L1 L2 L3
  clear hx hy
  obtain ⟨⟨hka, hkb⟩⟩ : Nonempty ((ka = 0 ∨ ka = 1) ∧ (kb = 0 ∨ kb = 1)) := ⟨hk⟩
  clear hk
  cases X : veq6 ka na sa (ofB false).k (ofB false).n (ofB false).s
  · cases Y : veq6 kb nb sb (ofB false).k (ofB false).n (ofB false).s
    · by_cases hn : ka = 0 ∨ kb = 0
      · rw [L2 (by rw [X]; decide) Y hn]
        clear L1 L2 L3
        rcases hka with rfl | rfl
        · rcases hkb with rfl | rfl
          · skip
            go_enter Tryd.func13, Tryd.ntmps13
            go_wp2_with (first | (go_at_call 44; ((with_reducible refine (boolean_ref _ _).mono ?_); rintro e w1 ⟨rfl, hb1⟩; have hB1 : Below W.heap.size W w1 := after (by (repeat' (first | assumption | exact Below.refl _ _ | apply Below.setCell | apply Below.alloc)); all_goals (first | omega | (simp; omega) | (simp; done))) hb1; obtain ⟨hc1, hf1⟩ := bcell hb1; have hz1 := hb1.size; (try simp at hz1); (try simp only [World.size_alloc] at hc1 hf1); have hy0 : W.heap.size < w1.heap.size := (by omega); have hy1 : W.heap.size + 1 < w1.heap.size := (by omega); have hy2 : W.heap.size + 1 + 1 < w1.heap.size := (by omega))))
            all_goals refine bodyPost_ret (v := .tuple #[vv null, .int .i64 0]) ?_ rfl ⟨rfl, ?_⟩
            any_goals (repeat' (first | assumption | exact Below.refl _ _ | apply Below.setCell | apply Below.alloc))
            any_goals (first | omega | (simp; omega) | (simp; done))
            all_goals (simp only [results, Tryd.results13]; go_simp)
            all_goals (first | done | exact ⟨rfl, rfl, rfl⟩ | rfl | exact ⟨rfl, rfl⟩)
          · skip
            go_enter Tryd.func13, Tryd.ntmps13
            go_wp2_with (first | (go_at_call 44; ((with_reducible refine (boolean_ref _ _).mono ?_); rintro e w1 ⟨rfl, hb1⟩; have hB1 : Below W.heap.size W w1 := after (by (repeat' (first | assumption | exact Below.refl _ _ | apply Below.setCell | apply Below.alloc)); all_goals (first | omega | (simp; omega) | (simp; done))) hb1; obtain ⟨hc1, hf1⟩ := bcell hb1; have hz1 := hb1.size; (try simp at hz1); (try simp only [World.size_alloc] at hc1 hf1); have hy0 : W.heap.size < w1.heap.size := (by omega); have hy1 : W.heap.size + 1 < w1.heap.size := (by omega); have hy2 : W.heap.size + 1 + 1 < w1.heap.size := (by omega))))
            all_goals refine bodyPost_ret (v := .tuple #[vv null, .int .i64 0]) ?_ rfl ⟨rfl, ?_⟩
            any_goals (repeat' (first | assumption | exact Below.refl _ _ | apply Below.setCell | apply Below.alloc))
            any_goals (first | omega | (simp; omega) | (simp; done))
            all_goals (simp only [results, Tryd.results13]; go_simp)
            all_goals (first | done | exact ⟨rfl, rfl, rfl⟩ | rfl | exact ⟨rfl, rfl⟩)
        · obtain rfl : kb = 0 := by omega
          go_enter Tryd.func13, Tryd.ntmps13
          go_wp2_with (first | (go_at_call 44; ((with_reducible refine (boolean_ref _ _).mono ?_); rintro e w1 ⟨rfl, hb1⟩; have hB1 : Below W.heap.size W w1 := after (by (repeat' (first | assumption | exact Below.refl _ _ | apply Below.setCell | apply Below.alloc)); all_goals (first | omega | (simp; omega) | (simp; done))) hb1; obtain ⟨hc1, hf1⟩ := bcell hb1; have hz1 := hb1.size; (try simp at hz1); (try simp only [World.size_alloc] at hc1 hf1); have hy0 : W.heap.size < w1.heap.size := (by omega); have hy1 : W.heap.size + 1 < w1.heap.size := (by omega); have hy2 : W.heap.size + 1 + 1 < w1.heap.size := (by omega))))
          all_goals refine bodyPost_ret (v := .tuple #[vv null, .int .i64 0]) ?_ rfl ⟨rfl, ?_⟩
          any_goals (repeat' (first | assumption | exact Below.refl _ _ | apply Below.setCell | apply Below.alloc))
          any_goals (first | omega | (simp; omega) | (simp; done))
          all_goals (simp only [results, Tryd.results13]; go_simp)
          all_goals (first | done | exact ⟨rfl, rfl, rfl⟩ | rfl | exact ⟨rfl, rfl⟩)
      · rw [L3 (by rw [X]; decide) Y hn]
        clear L1 L2 L3
        obtain rfl : ka = 1 := by omega
        obtain rfl : kb = 1 := by omega
        show Calls _ _ _ _ fun e w' => e = .returned (.tuple #[vv (ofB true), .int .i64 0]) ∧ _
        go_enter Tryd.func13, Tryd.ntmps13
        go_wp2_with (first | (go_at_call 44; ((with_reducible refine (boolean_ref _ _).mono ?_); rintro e w1 ⟨rfl, hb1⟩; have hB1 : Below W.heap.size W w1 := after (by (repeat' (first | assumption | exact Below.refl _ _ | apply Below.setCell | apply Below.alloc)); all_goals (first | omega | (simp; omega) | (simp; done))) hb1; obtain ⟨hc1, hf1⟩ := bcell hb1; have hz1 := hb1.size; (try simp at hz1); (try simp only [World.size_alloc] at hc1 hf1); have hy0 : W.heap.size < w1.heap.size := (by omega); have hy1 : W.heap.size + 1 < w1.heap.size := (by omega); have hy2 : W.heap.size + 1 + 1 < w1.heap.size := (by omega))))
        all_goals refine bodyPost_ret (v := .tuple #[vv (ofB true), .int .i64 0]) ?_ rfl ⟨rfl, ?_⟩
        any_goals (repeat' (first | assumption | exact Below.refl _ _ | apply Below.setCell | apply Below.alloc))
        any_goals (first | omega | (simp; omega) | (simp; done))
        all_goals (simp only [results, Tryd.results13]; go_simp)
        all_goals (first | done | exact ⟨rfl, rfl, rfl⟩ | rfl | exact ⟨rfl, rfl⟩)
    · rw [L1 (.inr Y)]
      clear L1 L2 L3
      show Calls _ _ _ _ fun e w' => e = .returned (.tuple #[vv (ofB false), .int .i64 0]) ∧ _
      rcases hka with rfl | rfl <;> rcases hkb with rfl | rfl
      · skip
        go_enter Tryd.func13, Tryd.ntmps13
        go_wp2_with (first | (go_at_call 44; ((with_reducible refine (boolean_ref _ _).mono ?_); rintro e w1 ⟨rfl, hb1⟩; have hB1 : Below W.heap.size W w1 := after (by (repeat' (first | assumption | exact Below.refl _ _ | apply Below.setCell | apply Below.alloc)); all_goals (first | omega | (simp; omega) | (simp; done))) hb1; obtain ⟨hc1, hf1⟩ := bcell hb1; have hz1 := hb1.size; (try simp at hz1); (try simp only [World.size_alloc] at hc1 hf1); have hy0 : W.heap.size < w1.heap.size := (by omega); have hy1 : W.heap.size + 1 < w1.heap.size := (by omega); have hy2 : W.heap.size + 1 + 1 < w1.heap.size := (by omega))))
        all_goals refine bodyPost_ret (v := .tuple #[vv (ofB false), .int .i64 0]) ?_ rfl ⟨rfl, ?_⟩
        any_goals (repeat' (first | assumption | exact Below.refl _ _ | apply Below.setCell | apply Below.alloc))
        any_goals (first | omega | (simp; omega) | (simp; done))
        all_goals (simp only [results, Tryd.results13]; go_simp)
        all_goals (first | done | exact ⟨rfl, rfl, rfl⟩ | rfl | exact ⟨rfl, rfl⟩)
      · skip
        go_enter Tryd.func13, Tryd.ntmps13
        go_wp2_with (first | (go_at_call 44; ((with_reducible refine (boolean_ref _ _).mono ?_); rintro e w1 ⟨rfl, hb1⟩; have hB1 : Below W.heap.size W w1 := after (by (repeat' (first | assumption | exact Below.refl _ _ | apply Below.setCell | apply Below.alloc)); all_goals (first | omega | (simp; omega) | (simp; done))) hb1; obtain ⟨hc1, hf1⟩ := bcell hb1; have hz1 := hb1.size; (try simp at hz1); (try simp only [World.size_alloc] at hc1 hf1); have hy0 : W.heap.size < w1.heap.size := (by omega); have hy1 : W.heap.size + 1 < w1.heap.size := (by omega); have hy2 : W.heap.size + 1 + 1 < w1.heap.size := (by omega))))
        all_goals refine bodyPost_ret (v := .tuple #[vv (ofB false), .int .i64 0]) ?_ rfl ⟨rfl, ?_⟩
        any_goals (repeat' (first | assumption | exact Below.refl _ _ | apply Below.setCell | apply Below.alloc))
        any_goals (first | omega | (simp; omega) | (simp; done))
        all_goals (simp only [results, Tryd.results13]; go_simp)
        all_goals (first | done | exact ⟨rfl, rfl, rfl⟩ | rfl | exact ⟨rfl, rfl⟩)
      · skip
        go_enter Tryd.func13, Tryd.ntmps13
        go_wp2_with (first | (go_at_call 44; ((with_reducible refine (boolean_ref _ _).mono ?_); rintro e w1 ⟨rfl, hb1⟩; have hB1 : Below W.heap.size W w1 := after (by (repeat' (first | assumption | exact Below.refl _ _ | apply Below.setCell | apply Below.alloc)); all_goals (first | omega | (simp; omega) | (simp; done))) hb1; obtain ⟨hc1, hf1⟩ := bcell hb1; have hz1 := hb1.size; (try simp at hz1); (try simp only [World.size_alloc] at hc1 hf1); have hy0 : W.heap.size < w1.heap.size := (by omega); have hy1 : W.heap.size + 1 < w1.heap.size := (by omega); have hy2 : W.heap.size + 1 + 1 < w1.heap.size := (by omega))))
        all_goals refine bodyPost_ret (v := .tuple #[vv (ofB false), .int .i64 0]) ?_ rfl ⟨rfl, ?_⟩
        any_goals (repeat' (first | assumption | exact Below.refl _ _ | apply Below.setCell | apply Below.alloc))
        any_goals (first | omega | (simp; omega) | (simp; done))
        all_goals (simp only [results, Tryd.results13]; go_simp)
        all_goals (first | done | exact ⟨rfl, rfl, rfl⟩ | rfl | exact ⟨rfl, rfl⟩)
      · skip
        go_enter Tryd.func13, Tryd.ntmps13
        go_wp2_with (first | (go_at_call 44; ((with_reducible refine (boolean_ref _ _).mono ?_); rintro e w1 ⟨rfl, hb1⟩; have hB1 : Below W.heap.size W w1 := after (by (repeat' (first | assumption | exact Below.refl _ _ | apply Below.setCell | apply Below.alloc)); all_goals (first | omega | (simp; omega) | (simp; done))) hb1; obtain ⟨hc1, hf1⟩ := bcell hb1; have hz1 := hb1.size; (try simp at hz1); (try simp only [World.size_alloc] at hc1 hf1); have hy0 : W.heap.size < w1.heap.size := (by omega); have hy1 : W.heap.size + 1 < w1.heap.size := (by omega); have hy2 : W.heap.size + 1 + 1 < w1.heap.size := (by omega))))
        all_goals refine bodyPost_ret (v := .tuple #[vv (ofB false), .int .i64 0]) ?_ rfl ⟨rfl, ?_⟩
        any_goals (repeat' (first | assumption | exact Below.refl _ _ | apply Below.setCell | apply Below.alloc))
        any_goals (first | omega | (simp; omega) | (simp; done))
        all_goals (simp only [results, Tryd.results13]; go_simp)
        all_goals (first | done | exact ⟨rfl, rfl, rfl⟩ | rfl | exact ⟨rfl, rfl⟩)
  · rw [L1 (.inl X)]
    clear L1 L2 L3
    show Calls _ _ _ _ fun e w' => e = .returned (.tuple #[vv (ofB false), .int .i64 0]) ∧ _
    rcases hka with rfl | rfl <;> rcases hkb with rfl | rfl
    · skip
      go_enter Tryd.func13, Tryd.ntmps13
      go_wp2_with (first | (go_at_call 44; ((with_reducible refine (boolean_ref _ _).mono ?_); rintro e w1 ⟨rfl, hb1⟩; have hB1 : Below W.heap.size W w1 := after (by (repeat' (first | assumption | exact Below.refl _ _ | apply Below.setCell | apply Below.alloc)); all_goals (first | omega | (simp; omega) | (simp; done))) hb1; obtain ⟨hc1, hf1⟩ := bcell hb1; have hz1 := hb1.size; (try simp at hz1); (try simp only [World.size_alloc] at hc1 hf1); have hy0 : W.heap.size < w1.heap.size := (by omega); have hy1 : W.heap.size + 1 < w1.heap.size := (by omega); have hy2 : W.heap.size + 1 + 1 < w1.heap.size := (by omega))))
      all_goals refine bodyPost_ret (v := .tuple #[vv (ofB false), .int .i64 0]) ?_ rfl ⟨rfl, ?_⟩
      any_goals (repeat' (first | assumption | exact Below.refl _ _ | apply Below.setCell | apply Below.alloc))
      any_goals (first | omega | (simp; omega) | (simp; done))
      all_goals (simp only [results, Tryd.results13]; go_simp)
      all_goals (first | done | exact ⟨rfl, rfl, rfl⟩ | rfl | exact ⟨rfl, rfl⟩)
    · skip
      go_enter Tryd.func13, Tryd.ntmps13
      go_wp2_with (first | (go_at_call 44; ((with_reducible refine (boolean_ref _ _).mono ?_); rintro e w1 ⟨rfl, hb1⟩; have hB1 : Below W.heap.size W w1 := after (by (repeat' (first | assumption | exact Below.refl _ _ | apply Below.setCell | apply Below.alloc)); all_goals (first | omega | (simp; omega) | (simp; done))) hb1; obtain ⟨hc1, hf1⟩ := bcell hb1; have hz1 := hb1.size; (try simp at hz1); (try simp only [World.size_alloc] at hc1 hf1); have hy0 : W.heap.size < w1.heap.size := (by omega); have hy1 : W.heap.size + 1 < w1.heap.size := (by omega); have hy2 : W.heap.size + 1 + 1 < w1.heap.size := (by omega))))
      all_goals refine bodyPost_ret (v := .tuple #[vv (ofB false), .int .i64 0]) ?_ rfl ⟨rfl, ?_⟩
      any_goals (repeat' (first | assumption | exact Below.refl _ _ | apply Below.setCell | apply Below.alloc))
      any_goals (first | omega | (simp; omega) | (simp; done))
      all_goals (simp only [results, Tryd.results13]; go_simp)
      all_goals (first | done | exact ⟨rfl, rfl, rfl⟩ | rfl | exact ⟨rfl, rfl⟩)
    · skip
      go_enter Tryd.func13, Tryd.ntmps13
      go_wp2_with (first | (go_at_call 44; ((with_reducible refine (boolean_ref _ _).mono ?_); rintro e w1 ⟨rfl, hb1⟩; have hB1 : Below W.heap.size W w1 := after (by (repeat' (first | assumption | exact Below.refl _ _ | apply Below.setCell | apply Below.alloc)); all_goals (first | omega | (simp; omega) | (simp; done))) hb1; obtain ⟨hc1, hf1⟩ := bcell hb1; have hz1 := hb1.size; (try simp at hz1); (try simp only [World.size_alloc] at hc1 hf1); have hy0 : W.heap.size < w1.heap.size := (by omega); have hy1 : W.heap.size + 1 < w1.heap.size := (by omega); have hy2 : W.heap.size + 1 + 1 < w1.heap.size := (by omega))))
      all_goals refine bodyPost_ret (v := .tuple #[vv (ofB false), .int .i64 0]) ?_ rfl ⟨rfl, ?_⟩
      any_goals (repeat' (first | assumption | exact Below.refl _ _ | apply Below.setCell | apply Below.alloc))
      any_goals (first | omega | (simp; omega) | (simp; done))
      all_goals (simp only [results, Tryd.results13]; go_simp)
      all_goals (first | done | exact ⟨rfl, rfl, rfl⟩ | rfl | exact ⟨rfl, rfl⟩)
    · skip
      go_enter Tryd.func13, Tryd.ntmps13
      go_wp2_with (first | (go_at_call 44; ((with_reducible refine (boolean_ref _ _).mono ?_); rintro e w1 ⟨rfl, hb1⟩; have hB1 : Below W.heap.size W w1 := after (by (repeat' (first | assumption | exact Below.refl _ _ | apply Below.setCell | apply Below.alloc)); all_goals (first | omega | (simp; omega) | (simp; done))) hb1; obtain ⟨hc1, hf1⟩ := bcell hb1; have hz1 := hb1.size; (try simp at hz1); (try simp only [World.size_alloc] at hc1 hf1); have hy0 : W.heap.size < w1.heap.size := (by omega); have hy1 : W.heap.size + 1 < w1.heap.size := (by omega); have hy2 : W.heap.size + 1 + 1 < w1.heap.size := (by omega))))
      all_goals refine bodyPost_ret (v := .tuple #[vv (ofB false), .int .i64 0]) ?_ rfl ⟨rfl, ?_⟩
      any_goals (repeat' (first | assumption | exact Below.refl _ _ | apply Below.setCell | apply Below.alloc))
      any_goals (first | omega | (simp; omega) | (simp; done))
      all_goals (simp only [results, Tryd.results13]; go_simp)
      all_goals (first | done | exact ⟨rfl, rfl, rfl⟩ | rfl | exact ⟨rfl, rfl⟩)
set_option maxRecDepth 100000 in
set_option maxHeartbeats 4000000 in
theorem ref_logic14 (ka na kb nb : Int) (sa sb : ByteArray) (W : World) (hf : fitB 14 ka kb = true) : Calls Tryd.prog 13 #[.int .i64 14, ag3 ka na sa, ag3 kb nb sb] W fun e w' => e = .returned (.tuple #[vv (doV 14 ⟨ka, na, sa⟩ ⟨kb, nb, sb⟩).1, .int .i64 (doV 14 ⟨ka, na, sa⟩ ⟨kb, nb, sb⟩).2]) ∧ Below W.heap.size W w' := by
  have E : doV 14 ⟨ka, na, sa⟩ ⟨kb, nb, sb⟩ = (logicV 14 ⟨ka, na, sa⟩ ⟨kb, nb, sb⟩, 0) := by unfold doV; rw [if_neg (by decide), if_neg (by rw [hf]; decide), if_pos (by decide)]
  rw [E]
  clear E
  have hk : (ka = 0 ∨ ka = 1) ∧ (kb = 0 ∨ kb = 1) := by unfold fitB at hf; simp at hf; omega
  clear hf
  have hx : veq6 ka na sa (ofB true).k (ofB true).n (ofB true).s = veq ⟨ka, na, sa⟩ (ofB ((14 : Int) == 14)) := rfl
  have hy : veq6 kb nb sb (ofB true).k (ofB true).n (ofB true).s = veq ⟨kb, nb, sb⟩ (ofB ((14 : Int) == 14)) := rfl
  have L1 := @logic_yes 14 ⟨ka, na, sa⟩ ⟨kb, nb, sb⟩
  have L2 := @logic_null 14 ⟨ka, na, sa⟩ ⟨kb, nb, sb⟩
  have L3 := @logic_rest 14 ⟨ka, na, sa⟩ ⟨kb, nb, sb⟩
  rw [← hx, ← hy] at L1 L2 L3
  clear hx hy
  obtain ⟨⟨hka, hkb⟩⟩ : Nonempty ((ka = 0 ∨ ka = 1) ∧ (kb = 0 ∨ kb = 1)) := ⟨hk⟩
  clear hk
  cases X : veq6 ka na sa (ofB true).k (ofB true).n (ofB true).s
  · cases Y : veq6 kb nb sb (ofB true).k (ofB true).n (ofB true).s
    · by_cases hn : ka = 0 ∨ kb = 0
      · rw [L2 (by rw [X]; decide) Y hn]
        clear L1 L2 L3
        rcases hka with rfl | rfl
        · rcases hkb with rfl | rfl
          · skip
            go_enter Tryd.func13, Tryd.ntmps13
            go_wp2_with (first | (go_at_call 44; ((with_reducible refine (boolean_ref _ _).mono ?_); rintro e w1 ⟨rfl, hb1⟩; have hB1 : Below W.heap.size W w1 := after (by (repeat' (first | assumption | exact Below.refl _ _ | apply Below.setCell | apply Below.alloc)); all_goals (first | omega | (simp; omega) | (simp; done))) hb1; obtain ⟨hc1, hf1⟩ := bcell hb1; have hz1 := hb1.size; (try simp at hz1); (try simp only [World.size_alloc] at hc1 hf1); have hy0 : W.heap.size < w1.heap.size := (by omega); have hy1 : W.heap.size + 1 < w1.heap.size := (by omega); have hy2 : W.heap.size + 1 + 1 < w1.heap.size := (by omega))))
            all_goals refine bodyPost_ret (v := .tuple #[vv null, .int .i64 0]) ?_ rfl ⟨rfl, ?_⟩
            any_goals (repeat' (first | assumption | exact Below.refl _ _ | apply Below.setCell | apply Below.alloc))
            any_goals (first | omega | (simp; omega) | (simp; done))
            all_goals (simp only [results, Tryd.results13]; go_simp)
            all_goals (first | done | exact ⟨rfl, rfl, rfl⟩ | rfl | exact ⟨rfl, rfl⟩)
          · skip
            go_enter Tryd.func13, Tryd.ntmps13
            go_wp2_with (first | (go_at_call 44; ((with_reducible refine (boolean_ref _ _).mono ?_); rintro e w1 ⟨rfl, hb1⟩; have hB1 : Below W.heap.size W w1 := after (by (repeat' (first | assumption | exact Below.refl _ _ | apply Below.setCell | apply Below.alloc)); all_goals (first | omega | (simp; omega) | (simp; done))) hb1; obtain ⟨hc1, hf1⟩ := bcell hb1; have hz1 := hb1.size; (try simp at hz1); (try simp only [World.size_alloc] at hc1 hf1); have hy0 : W.heap.size < w1.heap.size := (by omega); have hy1 : W.heap.size + 1 < w1.heap.size := (by omega); have hy2 : W.heap.size + 1 + 1 < w1.heap.size := (by omega))))
            all_goals refine bodyPost_ret (v := .tuple #[vv null, .int .i64 0]) ?_ rfl ⟨rfl, ?_⟩
            any_goals (repeat' (first | assumption | exact Below.refl _ _ | apply Below.setCell | apply Below.alloc))
            any_goals (first | omega | (simp; omega) | (simp; done))
            all_goals (simp only [results, Tryd.results13]; go_simp)
            all_goals (first | done | exact ⟨rfl, rfl, rfl⟩ | rfl | exact ⟨rfl, rfl⟩)
        · obtain rfl : kb = 0 := by omega
          go_enter Tryd.func13, Tryd.ntmps13
          go_wp2_with (first | (go_at_call 44; ((with_reducible refine (boolean_ref _ _).mono ?_); rintro e w1 ⟨rfl, hb1⟩; have hB1 : Below W.heap.size W w1 := after (by (repeat' (first | assumption | exact Below.refl _ _ | apply Below.setCell | apply Below.alloc)); all_goals (first | omega | (simp; omega) | (simp; done))) hb1; obtain ⟨hc1, hf1⟩ := bcell hb1; have hz1 := hb1.size; (try simp at hz1); (try simp only [World.size_alloc] at hc1 hf1); have hy0 : W.heap.size < w1.heap.size := (by omega); have hy1 : W.heap.size + 1 < w1.heap.size := (by omega); have hy2 : W.heap.size + 1 + 1 < w1.heap.size := (by omega))))
          all_goals refine bodyPost_ret (v := .tuple #[vv null, .int .i64 0]) ?_ rfl ⟨rfl, ?_⟩
          any_goals (repeat' (first | assumption | exact Below.refl _ _ | apply Below.setCell | apply Below.alloc))
          any_goals (first | omega | (simp; omega) | (simp; done))
          all_goals (simp only [results, Tryd.results13]; go_simp)
          all_goals (first | done | exact ⟨rfl, rfl, rfl⟩ | rfl | exact ⟨rfl, rfl⟩)
      · rw [L3 (by rw [X]; decide) Y hn]
        clear L1 L2 L3
        obtain rfl : ka = 1 := by omega
        obtain rfl : kb = 1 := by omega
        show Calls _ _ _ _ fun e w' => e = .returned (.tuple #[vv (ofB false), .int .i64 0]) ∧ _
        go_enter Tryd.func13, Tryd.ntmps13
        go_wp2_with (first | (go_at_call 44; ((with_reducible refine (boolean_ref _ _).mono ?_); rintro e w1 ⟨rfl, hb1⟩; have hB1 : Below W.heap.size W w1 := after (by (repeat' (first | assumption | exact Below.refl _ _ | apply Below.setCell | apply Below.alloc)); all_goals (first | omega | (simp; omega) | (simp; done))) hb1; obtain ⟨hc1, hf1⟩ := bcell hb1; have hz1 := hb1.size; (try simp at hz1); (try simp only [World.size_alloc] at hc1 hf1); have hy0 : W.heap.size < w1.heap.size := (by omega); have hy1 : W.heap.size + 1 < w1.heap.size := (by omega); have hy2 : W.heap.size + 1 + 1 < w1.heap.size := (by omega))))
        all_goals refine bodyPost_ret (v := .tuple #[vv (ofB false), .int .i64 0]) ?_ rfl ⟨rfl, ?_⟩
        any_goals (repeat' (first | assumption | exact Below.refl _ _ | apply Below.setCell | apply Below.alloc))
        any_goals (first | omega | (simp; omega) | (simp; done))
        all_goals (simp only [results, Tryd.results13]; go_simp)
        all_goals (first | done | exact ⟨rfl, rfl, rfl⟩ | rfl | exact ⟨rfl, rfl⟩)
    · rw [L1 (.inr Y)]
      clear L1 L2 L3
      show Calls _ _ _ _ fun e w' => e = .returned (.tuple #[vv (ofB true), .int .i64 0]) ∧ _
      rcases hka with rfl | rfl <;> rcases hkb with rfl | rfl
      · skip
        go_enter Tryd.func13, Tryd.ntmps13
        go_wp2_with (first | (go_at_call 44; ((with_reducible refine (boolean_ref _ _).mono ?_); rintro e w1 ⟨rfl, hb1⟩; have hB1 : Below W.heap.size W w1 := after (by (repeat' (first | assumption | exact Below.refl _ _ | apply Below.setCell | apply Below.alloc)); all_goals (first | omega | (simp; omega) | (simp; done))) hb1; obtain ⟨hc1, hf1⟩ := bcell hb1; have hz1 := hb1.size; (try simp at hz1); (try simp only [World.size_alloc] at hc1 hf1); have hy0 : W.heap.size < w1.heap.size := (by omega); have hy1 : W.heap.size + 1 < w1.heap.size := (by omega); have hy2 : W.heap.size + 1 + 1 < w1.heap.size := (by omega))))
        all_goals refine bodyPost_ret (v := .tuple #[vv (ofB true), .int .i64 0]) ?_ rfl ⟨rfl, ?_⟩
        any_goals (repeat' (first | assumption | exact Below.refl _ _ | apply Below.setCell | apply Below.alloc))
        any_goals (first | omega | (simp; omega) | (simp; done))
        all_goals (simp only [results, Tryd.results13]; go_simp)
        all_goals (first | done | exact ⟨rfl, rfl, rfl⟩ | rfl | exact ⟨rfl, rfl⟩)
      · skip
        go_enter Tryd.func13, Tryd.ntmps13
        go_wp2_with (first | (go_at_call 44; ((with_reducible refine (boolean_ref _ _).mono ?_); rintro e w1 ⟨rfl, hb1⟩; have hB1 : Below W.heap.size W w1 := after (by (repeat' (first | assumption | exact Below.refl _ _ | apply Below.setCell | apply Below.alloc)); all_goals (first | omega | (simp; omega) | (simp; done))) hb1; obtain ⟨hc1, hf1⟩ := bcell hb1; have hz1 := hb1.size; (try simp at hz1); (try simp only [World.size_alloc] at hc1 hf1); have hy0 : W.heap.size < w1.heap.size := (by omega); have hy1 : W.heap.size + 1 < w1.heap.size := (by omega); have hy2 : W.heap.size + 1 + 1 < w1.heap.size := (by omega))))
        all_goals refine bodyPost_ret (v := .tuple #[vv (ofB true), .int .i64 0]) ?_ rfl ⟨rfl, ?_⟩
        any_goals (repeat' (first | assumption | exact Below.refl _ _ | apply Below.setCell | apply Below.alloc))
        any_goals (first | omega | (simp; omega) | (simp; done))
        all_goals (simp only [results, Tryd.results13]; go_simp)
        all_goals (first | done | exact ⟨rfl, rfl, rfl⟩ | rfl | exact ⟨rfl, rfl⟩)
      · skip
        go_enter Tryd.func13, Tryd.ntmps13
        go_wp2_with (first | (go_at_call 44; ((with_reducible refine (boolean_ref _ _).mono ?_); rintro e w1 ⟨rfl, hb1⟩; have hB1 : Below W.heap.size W w1 := after (by (repeat' (first | assumption | exact Below.refl _ _ | apply Below.setCell | apply Below.alloc)); all_goals (first | omega | (simp; omega) | (simp; done))) hb1; obtain ⟨hc1, hf1⟩ := bcell hb1; have hz1 := hb1.size; (try simp at hz1); (try simp only [World.size_alloc] at hc1 hf1); have hy0 : W.heap.size < w1.heap.size := (by omega); have hy1 : W.heap.size + 1 < w1.heap.size := (by omega); have hy2 : W.heap.size + 1 + 1 < w1.heap.size := (by omega))))
        all_goals refine bodyPost_ret (v := .tuple #[vv (ofB true), .int .i64 0]) ?_ rfl ⟨rfl, ?_⟩
        any_goals (repeat' (first | assumption | exact Below.refl _ _ | apply Below.setCell | apply Below.alloc))
        any_goals (first | omega | (simp; omega) | (simp; done))
        all_goals (simp only [results, Tryd.results13]; go_simp)
        all_goals (first | done | exact ⟨rfl, rfl, rfl⟩ | rfl | exact ⟨rfl, rfl⟩)
      · skip
        go_enter Tryd.func13, Tryd.ntmps13
        go_wp2_with (first | (go_at_call 44; ((with_reducible refine (boolean_ref _ _).mono ?_); rintro e w1 ⟨rfl, hb1⟩; have hB1 : Below W.heap.size W w1 := after (by (repeat' (first | assumption | exact Below.refl _ _ | apply Below.setCell | apply Below.alloc)); all_goals (first | omega | (simp; omega) | (simp; done))) hb1; obtain ⟨hc1, hf1⟩ := bcell hb1; have hz1 := hb1.size; (try simp at hz1); (try simp only [World.size_alloc] at hc1 hf1); have hy0 : W.heap.size < w1.heap.size := (by omega); have hy1 : W.heap.size + 1 < w1.heap.size := (by omega); have hy2 : W.heap.size + 1 + 1 < w1.heap.size := (by omega))))
        all_goals refine bodyPost_ret (v := .tuple #[vv (ofB true), .int .i64 0]) ?_ rfl ⟨rfl, ?_⟩
        any_goals (repeat' (first | assumption | exact Below.refl _ _ | apply Below.setCell | apply Below.alloc))
        any_goals (first | omega | (simp; omega) | (simp; done))
        all_goals (simp only [results, Tryd.results13]; go_simp)
        all_goals (first | done | exact ⟨rfl, rfl, rfl⟩ | rfl | exact ⟨rfl, rfl⟩)
  · rw [L1 (.inl X)]
    clear L1 L2 L3
    show Calls _ _ _ _ fun e w' => e = .returned (.tuple #[vv (ofB true), .int .i64 0]) ∧ _
    rcases hka with rfl | rfl <;> rcases hkb with rfl | rfl
    · skip
      go_enter Tryd.func13, Tryd.ntmps13
      go_wp2_with (first | (go_at_call 44; ((with_reducible refine (boolean_ref _ _).mono ?_); rintro e w1 ⟨rfl, hb1⟩; have hB1 : Below W.heap.size W w1 := after (by (repeat' (first | assumption | exact Below.refl _ _ | apply Below.setCell | apply Below.alloc)); all_goals (first | omega | (simp; omega) | (simp; done))) hb1; obtain ⟨hc1, hf1⟩ := bcell hb1; have hz1 := hb1.size; (try simp at hz1); (try simp only [World.size_alloc] at hc1 hf1); have hy0 : W.heap.size < w1.heap.size := (by omega); have hy1 : W.heap.size + 1 < w1.heap.size := (by omega); have hy2 : W.heap.size + 1 + 1 < w1.heap.size := (by omega))))
      all_goals refine bodyPost_ret (v := .tuple #[vv (ofB true), .int .i64 0]) ?_ rfl ⟨rfl, ?_⟩
      any_goals (repeat' (first | assumption | exact Below.refl _ _ | apply Below.setCell | apply Below.alloc))
      any_goals (first | omega | (simp; omega) | (simp; done))
      all_goals (simp only [results, Tryd.results13]; go_simp)
      all_goals (first | done | exact ⟨rfl, rfl, rfl⟩ | rfl | exact ⟨rfl, rfl⟩)
    · skip
      go_enter Tryd.func13, Tryd.ntmps13
      go_wp2_with (first | (go_at_call 44; ((with_reducible refine (boolean_ref _ _).mono ?_); rintro e w1 ⟨rfl, hb1⟩; have hB1 : Below W.heap.size W w1 := after (by (repeat' (first | assumption | exact Below.refl _ _ | apply Below.setCell | apply Below.alloc)); all_goals (first | omega | (simp; omega) | (simp; done))) hb1; obtain ⟨hc1, hf1⟩ := bcell hb1; have hz1 := hb1.size; (try simp at hz1); (try simp only [World.size_alloc] at hc1 hf1); have hy0 : W.heap.size < w1.heap.size := (by omega); have hy1 : W.heap.size + 1 < w1.heap.size := (by omega); have hy2 : W.heap.size + 1 + 1 < w1.heap.size := (by omega))))
      all_goals refine bodyPost_ret (v := .tuple #[vv (ofB true), .int .i64 0]) ?_ rfl ⟨rfl, ?_⟩
      any_goals (repeat' (first | assumption | exact Below.refl _ _ | apply Below.setCell | apply Below.alloc))
      any_goals (first | omega | (simp; omega) | (simp; done))
      all_goals (simp only [results, Tryd.results13]; go_simp)
      all_goals (first | done | exact ⟨rfl, rfl, rfl⟩ | rfl | exact ⟨rfl, rfl⟩)
    · skip
      go_enter Tryd.func13, Tryd.ntmps13
      go_wp2_with (first | (go_at_call 44; ((with_reducible refine (boolean_ref _ _).mono ?_); rintro e w1 ⟨rfl, hb1⟩; have hB1 : Below W.heap.size W w1 := after (by (repeat' (first | assumption | exact Below.refl _ _ | apply Below.setCell | apply Below.alloc)); all_goals (first | omega | (simp; omega) | (simp; done))) hb1; obtain ⟨hc1, hf1⟩ := bcell hb1; have hz1 := hb1.size; (try simp at hz1); (try simp only [World.size_alloc] at hc1 hf1); have hy0 : W.heap.size < w1.heap.size := (by omega); have hy1 : W.heap.size + 1 < w1.heap.size := (by omega); have hy2 : W.heap.size + 1 + 1 < w1.heap.size := (by omega))))
      all_goals refine bodyPost_ret (v := .tuple #[vv (ofB true), .int .i64 0]) ?_ rfl ⟨rfl, ?_⟩
      any_goals (repeat' (first | assumption | exact Below.refl _ _ | apply Below.setCell | apply Below.alloc))
      any_goals (first | omega | (simp; omega) | (simp; done))
      all_goals (simp only [results, Tryd.results13]; go_simp)
      all_goals (first | done | exact ⟨rfl, rfl, rfl⟩ | rfl | exact ⟨rfl, rfl⟩)
    · skip
      go_enter Tryd.func13, Tryd.ntmps13
      go_wp2_with (first | (go_at_call 44; ((with_reducible refine (boolean_ref _ _).mono ?_); rintro e w1 ⟨rfl, hb1⟩; have hB1 : Below W.heap.size W w1 := after (by (repeat' (first | assumption | exact Below.refl _ _ | apply Below.setCell | apply Below.alloc)); all_goals (first | omega | (simp; omega) | (simp; done))) hb1; obtain ⟨hc1, hf1⟩ := bcell hb1; have hz1 := hb1.size; (try simp at hz1); (try simp only [World.size_alloc] at hc1 hf1); have hy0 : W.heap.size < w1.heap.size := (by omega); have hy1 : W.heap.size + 1 < w1.heap.size := (by omega); have hy2 : W.heap.size + 1 + 1 < w1.heap.size := (by omega))))
      all_goals refine bodyPost_ret (v := .tuple #[vv (ofB true), .int .i64 0]) ?_ rfl ⟨rfl, ?_⟩
      any_goals (repeat' (first | assumption | exact Below.refl _ _ | apply Below.setCell | apply Below.alloc))
      any_goals (first | omega | (simp; omega) | (simp; done))
      all_goals (simp only [results, Tryd.results13]; go_simp)
      all_goals (first | done | exact ⟨rfl, rfl, rfl⟩ | rfl | exact ⟨rfl, rfl⟩)

end Go.Proofs.YtpkkhbmlclicfaaDoor.val
