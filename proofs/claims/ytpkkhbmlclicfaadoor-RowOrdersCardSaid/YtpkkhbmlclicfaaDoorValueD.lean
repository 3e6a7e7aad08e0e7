/- All of the program's Do; Not. -/
import Derived.Test.YtpkkhbmlclicfaaDoorValueC
namespace Go.Proofs.YtpkkhbmlclicfaaDoor.val
set_option linter.unusedVariables false
open Go.RowKit
attribute [local go_sem high] run_eqlV run_neqV

theorem cmpI_iff (x y : Int) : (cmpI x y < 0 ↔ x < y) ∧ (cmpI x y = 0 ↔ x = y) ∧ (0 < cmpI x y ↔ y < x) := by
  unfold cmpI; (repeat' split) <;> omega
theorem cmpS_iff (a b : ByteArray) : (cmpS a b < 0 ↔ Op.bytesLess a.toList b.toList = true) ∧ (cmpS a b = 0 ↔ a.toList = b.toList) ∧ (0 < cmpS a b ↔ Op.bytesLess b.toList a.toList = true) := by
  unfold cmpS
  cases h1 : Op.bytesLess a.toList b.toList
  · cases h2 : Op.bytesLess b.toList a.toList
    · have := bl_total _ _ h1 h2
      simp [this]
    · have : a.toList ≠ b.toList := fun e => by rw [e, bl_irrefl] at h2; cases h2
      simp [this]
  · have h2 := bl_asymm _ _ h1
    have : a.toList ≠ b.toList := fun e => by rw [e, bl_irrefl] at h1; cases h1
    simp [this, h2]
theorem good_text {v : V} (h : Good v) (hk : v.k = 3) : v.n = 0 ∧ v.s.size ≤ 64 := by unfold Good at h; omega
theorem good_other {v : V} (h : Good v) (hk : v.k ≠ 3) : v.s = ByteArray.empty := by
  rcases h with h | h | h | h
  · exact h.2.2
  · exact h.2.2
  · exact h.2.1
  · exact absurd h.1 hk
theorem cmpV_iff (a b : V) (ha : Good a) (hb : Good b) : (cmpV a b < 0 ↔ less a b = true) ∧ (cmpV a b = 0 ↔ veq a b = true) ∧ (0 < cmpV a b ↔ less b a = true) := by
  have hk := cmpI_iff a.k b.k
  have hn := cmpI_iff a.n b.n
  have hs := cmpS_iff a.s b.s
  by_cases ek : a.k = b.k
  · have k0 : cmpI a.k b.k = 0 := hk.2.1.2 ek
    by_cases e3 : a.k = 3
    · have na := (good_text ha e3).1
      have nb := (good_text hb (ek ▸ e3)).1
      have n0 : cmpI a.n b.n = 0 := hn.2.1.2 (by omega)
      have e : cmpV a b = cmpS a.s b.s := by unfold cmpV; rw [k0, n0]; simp
      rw [e]
      refine ⟨?_, ?_, ?_⟩
      · rw [hs.1]; unfold less; rw [if_pos ek, if_pos e3]
      · rw [hs.2.1]; simp [veq6, ek, na, nb]
      · rw [hs.2.2]; unfold less; rw [if_pos ek.symm, if_pos (by omega)]
    · have sa := good_other ha e3
      have sb := good_other hb (ek ▸ e3)
      have s0 : cmpS a.s b.s = 0 := hs.2.1.2 (by rw [sa, sb])
      have e : cmpV a b = cmpI a.n b.n := by unfold cmpV; rw [k0, s0]; simp; intro h; exact h.symm
      rw [e]
      refine ⟨?_, ?_, ?_⟩
      · rw [hn.1]; unfold less; rw [if_pos ek, if_neg e3]; simp
      · rw [hn.2.1]; simp [veq6, ek, sa, sb]
      · rw [hn.2.2]; unfold less; rw [if_pos ek.symm, if_neg (by omega)]; simp
  · have k0 : cmpI a.k b.k ≠ 0 := fun h => ek (hk.2.1.1 h)
    have e : cmpV a b = cmpI a.k b.k := by unfold cmpV; rw [if_pos k0]
    rw [e]
    refine ⟨?_, ?_, ?_⟩
    · rw [hk.1]; unfold less; rw [if_neg ek]; simp
    · rw [hk.2.1]; simp [veq6, ek]
    · rw [hk.2.2]; unfold less; rw [if_neg (fun h => ek h.symm)]; simp
theorem bool_iff {p : Prop} [Decidable p] {b : Bool} (h : p ↔ b = true) : decide p = b := by cases b <;> simp_all
/-- a comparison by the order of all is what it is by definition -/
theorem holds_iff (op : Int) (a b : V) (ha : Good a) (hb : Good b) : (if op = 1 then cmpV a b == 0 else if op = 2 then cmpV a b != 0 else if op = 3 then decide (cmpV a b < 0) else if op = 4 then decide (cmpV a b ≤ 0) else if op = 5 then decide (0 < cmpV a b) else decide (0 ≤ cmpV a b)) = holdsV op a b := by
  obtain ⟨h1, h2, h3⟩ := cmpV_iff a b ha hb
  unfold holdsV
  have e2 : (cmpV a b == 0) = veq a b := by rw [← bool_iff h2]; rfl
  have e4 : decide (cmpV a b ≤ 0) = !less b a := by rw [← bool_iff h3]; by_cases h : 0 < cmpV a b <;> simp [h] <;> omega
  have e6 : decide (0 ≤ cmpV a b) = !less a b := by rw [← bool_iff h1]; by_cases h : cmpV a b < 0 <;> simp [h] <;> omega
  rw [e2, bool_iff h1, bool_iff h3, e4, e6]
  simp only [bne, e2]

theorem do_arg (op ka na kb nb : Int) (sa sb : ByteArray) (W : World) (h : op < 1 ∨ 14 < op) : Calls Tryd.prog 12 #[.int .i64 op, ag3 ka na sa, ag3 kb nb sb] W fun e w' => e = .returned (.tuple #[vv (doV op ⟨ka, na, sa⟩ ⟨kb, nb, sb⟩).1, .int .i64 (doV op ⟨ka, na, sa⟩ ⟨kb, nb, sb⟩).2]) ∧ Below W.heap.size W w' := by
  have E : doV op ⟨ka, na, sa⟩ ⟨kb, nb, sb⟩ = (null, 1) := by unfold doV; rw [if_pos h]
  rw [E]
  clear E
  have h1 : op < 1 ∨ (¬ op < 1 ∧ 14 < op) := by omega
  clear h
  rcases h1 with h | ⟨h, h'⟩
  all_goals
    go_enter Tryd.func12, Tryd.ntmps12
    go_wp2
    all_goals refine bodyPost_ret (v := .tuple #[vv null, .int .i64 1]) ?_ rfl ⟨rfl, ?_⟩
    any_goals (repeat' (first | assumption | exact Below.refl _ _ | apply Below.setCell | apply Below.alloc))
    any_goals (first | omega | (simp; omega) | (simp; done))
    all_goals (simp only [results, Tryd.results12]; go_simp)
    all_goals (first | done | exact ⟨rfl, rfl, rfl⟩ | rfl | exact ⟨rfl, rfl⟩)
set_option maxHeartbeats 1000000 in
theorem do_type (op ka na kb nb : Int) (sa sb : ByteArray) (W : World) (h : 1 ≤ op ∧ op ≤ 14) (hf : fitB op ka kb = false) : Calls Tryd.prog 12 #[.int .i64 op, ag3 ka na sa, ag3 kb nb sb] W fun e w' => e = .returned (.tuple #[vv (doV op ⟨ka, na, sa⟩ ⟨kb, nb, sb⟩).1, .int .i64 (doV op ⟨ka, na, sa⟩ ⟨kb, nb, sb⟩).2]) ∧ Below W.heap.size W w' := by
  have E : doV op ⟨ka, na, sa⟩ ⟨kb, nb, sb⟩ = (null, 5) := by unfold doV; rw [if_neg (by omega), if_pos hf]
  rw [E]
  have HF := Lib.hid (fit_any op ka na kb nb sa sb)
  rw [hf] at HF
  clear E hf
  obtain ⟨h1, h2⟩ := h
  go_enter Tryd.func12, Tryd.ntmps12
  go_wp2_with (go_at_call 40; (refine (HF.out _).mono ?_; rintro e w1 ⟨rfl, hb1⟩; have hB1 : Below W.heap.size W w1 := after (by (repeat' (first | assumption | exact Below.refl _ _ | apply Below.setCell | apply Below.alloc)); all_goals (first | omega | (simp; omega) | (simp; done))) hb1; obtain ⟨hc1, hf1⟩ := bcell hb1; have hz1 := hb1.size; (try simp at hz1); (try simp only [World.size_alloc] at hc1 hf1); have hy0 : W.heap.size < w1.heap.size := (by omega); have hy1 : W.heap.size + 1 < w1.heap.size := (by omega); have hy2 : W.heap.size + 1 + 1 < w1.heap.size := (by omega)))
  all_goals refine bodyPost_ret (v := .tuple #[vv null, .int .i64 5]) ?_ rfl ⟨rfl, ?_⟩
  any_goals (repeat' (first | assumption | exact Below.refl _ _ | apply Below.setCell | apply Below.alloc))
  any_goals (first | omega | (simp; omega) | (simp; done))
  all_goals (simp only [results, Tryd.results12]; go_simp)
  all_goals (first | done | exact ⟨rfl, rfl, rfl⟩ | rfl | exact ⟨rfl, rfl⟩)
set_option maxHeartbeats 2000000 in
theorem do_logic (op ka na kb nb : Int) (sa sb : ByteArray) (W : World) (h : 13 ≤ op ∧ op ≤ 14) (hf : fitB op ka kb = true) : Calls Tryd.prog 12 #[.int .i64 op, ag3 ka na sa, ag3 kb nb sb] W fun e w' => e = .returned (.tuple #[vv (doV op ⟨ka, na, sa⟩ ⟨kb, nb, sb⟩).1, .int .i64 (doV op ⟨ka, na, sa⟩ ⟨kb, nb, sb⟩).2]) ∧ Below W.heap.size W w' := by
  have E : doV op ⟨ka, na, sa⟩ ⟨kb, nb, sb⟩ = (logicV op ⟨ka, na, sa⟩ ⟨kb, nb, sb⟩, 0) := by unfold doV; rw [if_neg (by omega), if_neg (by rw [hf]; decide), if_pos h.1]
  rw [E]
  have HF := Lib.hid (fit_any op ka na kb nb sa sb)
  rw [hf] at HF
  have HL := Lib.hid (logic_any op ka na kb nb sa sb)
  clear E hf
  obtain ⟨h1, h2⟩ := h
  generalize logicV op ⟨ka, na, sa⟩ ⟨kb, nb, sb⟩ = r at *
  go_enter Tryd.func12, Tryd.ntmps12
  go_wp2_with (first | (go_at_call 40; (refine (HF.out _).mono ?_; rintro e w1 ⟨rfl, hb1⟩; have hB1 : Below W.heap.size W w1 := after (by (repeat' (first | assumption | exact Below.refl _ _ | apply Below.setCell | apply Below.alloc)); all_goals (first | omega | (simp; omega) | (simp; done))) hb1; obtain ⟨hc1, hf1⟩ := bcell hb1; have hz1 := hb1.size; (try simp at hz1); (try simp only [World.size_alloc] at hc1 hf1); have hy0 : W.heap.size < w1.heap.size := (by omega); have hy1 : W.heap.size + 1 < w1.heap.size := (by omega); have hy2 : W.heap.size + 1 + 1 < w1.heap.size := (by omega))) | (go_at_call 41; (refine (HL.out _).mono ?_; rintro e w1 ⟨rfl, hb1⟩; have hB1 : Below W.heap.size W w1 := after (by (repeat' (first | assumption | exact Below.refl _ _ | apply Below.setCell | apply Below.alloc)); all_goals (first | omega | (simp; omega) | (simp; done))) hb1; obtain ⟨hc1, hf1⟩ := bcell hb1; have hz1 := hb1.size; (try simp at hz1); (try simp only [World.size_alloc] at hc1 hf1); have hy0 : W.heap.size < w1.heap.size := (by omega); have hy1 : W.heap.size + 1 < w1.heap.size := (by omega); have hy2 : W.heap.size + 1 + 1 < w1.heap.size := (by omega))))
  all_goals refine bodyPost_ret (v := .tuple #[vv r, .int .i64 0]) ?_ rfl ⟨rfl, ?_⟩
  any_goals (repeat' (first | assumption | exact Below.refl _ _ | apply Below.setCell | apply Below.alloc))
  any_goals (first | omega | (simp; omega) | (simp; done))
  all_goals (simp only [results, Tryd.results12]; go_simp)
  all_goals (first | done | exact ⟨rfl, rfl, rfl⟩ | rfl | exact ⟨rfl, rfl⟩)
set_option maxHeartbeats 2000000 in
theorem do_null (op ka na kb nb : Int) (sa sb : ByteArray) (W : World) (h : 1 ≤ op ∧ op < 13) (hf : fitB op ka kb = true) (h0 : ka = 0 ∨ kb = 0) : Calls Tryd.prog 12 #[.int .i64 op, ag3 ka na sa, ag3 kb nb sb] W fun e w' => e = .returned (.tuple #[vv (doV op ⟨ka, na, sa⟩ ⟨kb, nb, sb⟩).1, .int .i64 (doV op ⟨ka, na, sa⟩ ⟨kb, nb, sb⟩).2]) ∧ Below W.heap.size W w' := by
  have E : doV op ⟨ka, na, sa⟩ ⟨kb, nb, sb⟩ = (null, 0) := by unfold doV; rw [if_neg (by omega), if_neg (by rw [hf]; decide), if_neg (by omega), if_pos h0]
  rw [E]
  have HF := Lib.hid (fit_any op ka na kb nb sa sb)
  rw [hf] at HF
  have hk : ka = 0 ∨ ((ka == 0) = false ∧ kb = 0) := by
    by_cases h1 : ka = 0
    · exact .inl h1
    · exact .inr ⟨by simpa using h1, h0.resolve_left h1⟩
  clear E hf h0
  obtain ⟨h1, h2⟩ := h
  rcases hk with rfl | ⟨hk, rfl⟩
  all_goals
    go_enter Tryd.func12, Tryd.ntmps12
    go_wp2_with (go_at_call 40; (refine (HF.out _).mono ?_; rintro e w1 ⟨rfl, hb1⟩; have hB1 : Below W.heap.size W w1 := after (by (repeat' (first | assumption | exact Below.refl _ _ | apply Below.setCell | apply Below.alloc)); all_goals (first | omega | (simp; omega) | (simp; done))) hb1; obtain ⟨hc1, hf1⟩ := bcell hb1; have hz1 := hb1.size; (try simp at hz1); (try simp only [World.size_alloc] at hc1 hf1); have hy0 : W.heap.size < w1.heap.size := (by omega); have hy1 : W.heap.size + 1 < w1.heap.size := (by omega); have hy2 : W.heap.size + 1 + 1 < w1.heap.size := (by omega)))
    all_goals refine bodyPost_ret (v := .tuple #[vv null, .int .i64 0]) ?_ rfl ⟨rfl, ?_⟩
    any_goals (repeat' (first | assumption | exact Below.refl _ _ | apply Below.setCell | apply Below.alloc))
    any_goals (first | omega | (simp; omega) | (simp; done))
    all_goals (simp only [results, Tryd.results12]; go_simp)
    all_goals (first | done | exact ⟨rfl, rfl, rfl⟩ | rfl | exact ⟨rfl, rfl⟩)
set_option maxHeartbeats 2000000 in
theorem do_cmp (op ka na kb nb : Int) (sa sb : ByteArray) (W : World) (h : 1 ≤ op ∧ op ≤ 6) (hf : fitB op ka kb = true) (h0 : ¬ (ka = 0 ∨ kb = 0)) (ga : Good ⟨ka, na, sa⟩) (gb : Good ⟨kb, nb, sb⟩) : Calls Tryd.prog 12 #[.int .i64 op, ag3 ka na sa, ag3 kb nb sb] W fun e w' => e = .returned (.tuple #[vv (doV op ⟨ka, na, sa⟩ ⟨kb, nb, sb⟩).1, .int .i64 (doV op ⟨ka, na, sa⟩ ⟨kb, nb, sb⟩).2]) ∧ Below W.heap.size W w' := by
  have E : doV op ⟨ka, na, sa⟩ ⟨kb, nb, sb⟩ = (ofB (holdsV op ⟨ka, na, sa⟩ ⟨kb, nb, sb⟩), 0) := by unfold doV; rw [if_neg (by omega), if_neg (by rw [hf]; decide), if_neg (by omega), if_neg h0, if_pos h.2]
  rw [E]
  have HF := Lib.hid (fit_any op ka na kb nb sa sb)
  rw [hf] at HF
  have HC := Lib.hid (compare_any ka na kb nb sa sb)
  have hH := fun (W : World) => holds_any op (cmpV ⟨ka, na, sa⟩ ⟨kb, nb, sb⟩) W
  rw [holds_iff op _ _ ga gb] at hH
  have HH := Lib.hid hH
  have k1 : (ka == 0) = false := by simp; omega
  have k2 : (kb == 0) = false := by simp; omega
  clear E hf hH ga gb h0
  obtain ⟨h1, h2⟩ := h
  generalize holdsV op ⟨ka, na, sa⟩ ⟨kb, nb, sb⟩ = r at *
  generalize cmpV ⟨ka, na, sa⟩ ⟨kb, nb, sb⟩ = o at *
  go_enter Tryd.func12, Tryd.ntmps12
  go_wp2_with (first | (go_at_call 40; (refine (HF.out _).mono ?_; rintro e w1 ⟨rfl, hb1⟩; have hB1 : Below W.heap.size W w1 := after (by (repeat' (first | assumption | exact Below.refl _ _ | apply Below.setCell | apply Below.alloc)); all_goals (first | omega | (simp; omega) | (simp; done))) hb1; obtain ⟨hc1, hf1⟩ := bcell hb1; have hz1 := hb1.size; (try simp at hz1); (try simp only [World.size_alloc] at hc1 hf1); have hy0 : W.heap.size < w1.heap.size := (by omega); have hy1 : W.heap.size + 1 < w1.heap.size := (by omega); have hy2 : W.heap.size + 1 + 1 < w1.heap.size := (by omega))) | (go_at_call 15; (refine (HC.out _).mono ?_; rintro e w1 ⟨rfl, hb1⟩; have hB1 : Below W.heap.size W w1 := after (by (repeat' (first | assumption | exact Below.refl _ _ | apply Below.setCell | apply Below.alloc)); all_goals (first | omega | (simp; omega) | (simp; done))) hb1; obtain ⟨hc1, hf1⟩ := bcell hb1; have hz1 := hb1.size; (try simp at hz1); (try simp only [World.size_alloc] at hc1 hf1); have hy0 : W.heap.size < w1.heap.size := (by omega); have hy1 : W.heap.size + 1 < w1.heap.size := (by omega); have hy2 : W.heap.size + 1 + 1 < w1.heap.size := (by omega))) | (go_at_call 42; ((with_reducible refine (HH.out _).mono ?_); rintro e w1 ⟨rfl, rfl⟩)) | (go_at_call 23; (refine (ofBool_any _ _).mono ?_; rintro e w1 ⟨rfl, hb1⟩; have hB1 : Below W.heap.size W w1 := after (by (repeat' (first | assumption | exact Below.refl _ _ | apply Below.setCell | apply Below.alloc)); all_goals (first | omega | (simp; omega) | (simp; done))) hb1; obtain ⟨hc1, hf1⟩ := bcell hb1; have hz1 := hb1.size; (try simp at hz1); (try simp only [World.size_alloc] at hc1 hf1); have hy0 : W.heap.size < w1.heap.size := (by omega); have hy1 : W.heap.size + 1 < w1.heap.size := (by omega); have hy2 : W.heap.size + 1 + 1 < w1.heap.size := (by omega))))
  all_goals refine bodyPost_ret (v := .tuple #[vv (ofB r), .int .i64 0]) ?_ rfl ⟨rfl, ?_⟩
  any_goals (repeat' (first | assumption | exact Below.refl _ _ | apply Below.setCell | apply Below.alloc))
  any_goals (first | omega | (simp; omega) | (simp; done))
  all_goals (simp only [results, Tryd.results12]; go_simp)
  all_goals (first | done | exact ⟨rfl, rfl, rfl⟩ | rfl | exact ⟨rfl, rfl⟩)

end Go.Proofs.YtpkkhbmlclicfaaDoor.val
