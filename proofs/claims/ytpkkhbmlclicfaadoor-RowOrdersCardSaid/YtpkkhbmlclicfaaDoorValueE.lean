/- The rest of the program's Do; Not, True; a text shown. -/
import Derived.Test.YtpkkhbmlclicfaaDoorValueD
import Derived.Lib.Strings
namespace Go.Proofs.YtpkkhbmlclicfaaDoor.val
set_option linter.unusedVariables false
open Go.RowKit
attribute [local go_sem high] run_eqlV run_neqV
attribute [local go_sem] ag.upon_value ag.upon_skip ag.upon_enter
attribute [local go_sem] Oper.semAt_some

set_option maxHeartbeats 2000000 in
theorem do_text (ka na kb nb : Int) (sa sb : ByteArray) (W : World) (hf : fitB 12 ka kb = true) (h0 : ¬ (ka = 0 ∨ kb = 0)) (ga : Good ⟨ka, na, sa⟩) (gb : Good ⟨kb, nb, sb⟩) : Calls Tryd.prog 12 #[.int .i64 12, ag3 ka na sa, ag3 kb nb sb] W fun e w' => e = .returned (.tuple #[vv (doV 12 ⟨ka, na, sa⟩ ⟨kb, nb, sb⟩).1, .int .i64 (doV 12 ⟨ka, na, sa⟩ ⟨kb, nb, sb⟩).2]) ∧ Below W.heap.size W w' := by
  have E : doV 12 ⟨ka, na, sa⟩ ⟨kb, nb, sb⟩ = if sa.size + sb.size > 64 then (null, 8) else (ofS (sa ++ sb), 0) := by unfold doV; rw [if_neg (by decide), if_neg (by rw [hf]; decide), if_neg (by decide), if_neg h0, if_neg (by decide), if_pos rfl]
  have hk : ka = 3 ∧ kb = 3 := by unfold fitB at hf; simp at hf; omega
  have s1 : sa.size ≤ 64 := (good_text ga hk.1).2
  have s2 : sb.size ≤ 64 := (good_text gb hk.2).2
  obtain ⟨rfl, rfl⟩ := hk
  rw [E]
  have HF := Lib.hid (fit_any 12 3 na 3 nb sa sb)
  rw [hf] at HF
  have b1 : (sa.size : Int) ≤ 64 := by omega
  have b2 : (sb.size : Int) ≤ 64 := by omega
  have b3 : (0 : Int) ≤ sa.size := by omega
  have b4 : (0 : Int) ≤ sb.size := by omega
  by_cases hs : sa.size + sb.size > 64
  · rw [if_pos hs]
    have hs1 : (64 : Int) < (sa.size : Int) + (sb.size : Int) := by omega
    clear E hf ga gb h0 hs
    go_enter Tryd.func12, Tryd.ntmps12
    go_wp2_with (go_at_call 40; (refine (HF.out _).mono ?_; rintro e w1 ⟨rfl, hb1⟩; have hB1 : Below W.heap.size W w1 := after (by (repeat' (first | assumption | exact Below.refl _ _ | apply Below.setCell | apply Below.alloc)); all_goals (first | omega | (simp; omega) | (simp; done))) hb1; obtain ⟨hc1, hf1⟩ := bcell hb1; have hz1 := hb1.size; (try simp at hz1); (try simp only [World.size_alloc] at hc1 hf1); have hy0 : W.heap.size < w1.heap.size := (by omega); have hy1 : W.heap.size + 1 < w1.heap.size := (by omega); have hy2 : W.heap.size + 1 + 1 < w1.heap.size := (by omega)))
    all_goals refine bodyPost_ret (v := .tuple #[vv null, .int .i64 8]) ?_ rfl ⟨rfl, ?_⟩
    any_goals (repeat' (first | assumption | exact Below.refl _ _ | apply Below.setCell | apply Below.alloc))
    any_goals (first | omega | (simp; omega) | (simp; done))
    all_goals (simp only [results, Tryd.results12]; go_simp)
    all_goals (first | done | exact ⟨rfl, rfl, rfl⟩ | rfl | exact ⟨rfl, rfl⟩)
  · rw [if_neg hs]
    have hs1 : (sa.size : Int) + (sb.size : Int) ≤ 64 := by omega
    clear E hf ga gb h0 hs
    go_enter Tryd.func12, Tryd.ntmps12
    go_wp2_with (first | (go_at_call 40; (refine (HF.out _).mono ?_; rintro e w1 ⟨rfl, hb1⟩; have hB1 : Below W.heap.size W w1 := after (by (repeat' (first | assumption | exact Below.refl _ _ | apply Below.setCell | apply Below.alloc)); all_goals (first | omega | (simp; omega) | (simp; done))) hb1; obtain ⟨hc1, hf1⟩ := bcell hb1; have hz1 := hb1.size; (try simp at hz1); (try simp only [World.size_alloc] at hc1 hf1); have hy0 : W.heap.size < w1.heap.size := (by omega); have hy1 : W.heap.size + 1 < w1.heap.size := (by omega); have hy2 : W.heap.size + 1 + 1 < w1.heap.size := (by omega))) | (go_at_call 21; (refine (ofText_any _ _).mono ?_; rintro e w1 ⟨rfl, hb1⟩; have hB1 : Below W.heap.size W w1 := after (by (repeat' (first | assumption | exact Below.refl _ _ | apply Below.setCell | apply Below.alloc)); all_goals (first | omega | (simp; omega) | (simp; done))) hb1; obtain ⟨hc1, hf1⟩ := bcell hb1; have hz1 := hb1.size; (try simp at hz1); (try simp only [World.size_alloc] at hc1 hf1); have hy0 : W.heap.size < w1.heap.size := (by omega); have hy1 : W.heap.size + 1 < w1.heap.size := (by omega); have hy2 : W.heap.size + 1 + 1 < w1.heap.size := (by omega))))
    all_goals refine bodyPost_ret (v := .tuple #[vv (ofS (sa ++ sb)), .int .i64 0]) ?_ rfl ⟨rfl, ?_⟩
    any_goals (repeat' (first | assumption | exact Below.refl _ _ | apply Below.setCell | apply Below.alloc))
    any_goals (first | omega | (simp; omega) | (simp; done))
    all_goals (simp only [results, Tryd.results12]; go_simp)
    all_goals (first | done | exact ⟨rfl, rfl, rfl⟩ | rfl | exact ⟨rfl, rfl⟩)

theorem good_n {v : V} (h : Good v) : -9223372036854775808 ≤ v.n ∧ v.n ≤ 9223372036854775807 := by unfold Good at h; omega
set_option maxHeartbeats 2000000 in
theorem do_count (op ka na kb nb : Int) (sa sb : ByteArray) (W : World) (h : 7 ≤ op ∧ op ≤ 11) (hf : fitB op ka kb = true) (h0 : ¬ (ka = 0 ∨ kb = 0)) (ga : Good ⟨ka, na, sa⟩) (gb : Good ⟨kb, nb, sb⟩) : Calls Tryd.prog 12 #[.int .i64 op, ag3 ka na sa, ag3 kb nb sb] W fun e w' => e = .returned (.tuple #[vv (doV op ⟨ka, na, sa⟩ ⟨kb, nb, sb⟩).1, .int .i64 (doV op ⟨ka, na, sa⟩ ⟨kb, nb, sb⟩).2]) ∧ Below W.heap.size W w' := by
  have E : doV op ⟨ka, na, sa⟩ ⟨kb, nb, sb⟩ = if (countV op na nb).2 = 0 then (ofN (countV op na nb).1, 0) else (null, (countV op na nb).2) := by unfold doV; rw [if_neg (by omega), if_neg (by rw [hf]; decide), if_neg (by omega), if_neg h0, if_neg (by omega), if_neg (by omega)]
  rw [E]
  have HF := Lib.hid (fit_any op ka na kb nb sa sb)
  rw [hf] at HF
  have HC := Lib.hid (count_any op na nb h (good_n ga) (good_n gb))
  have k1 : (ka == 0) = false := by simp; omega
  have k2 : (kb == 0) = false := by simp; omega
  have k3 : (op == 12) = false := by simp; omega
  clear E hf ga gb h0
  obtain ⟨h1, h2⟩ := h
  generalize (countV op na nb).1 = m at *
  generalize (countV op na nb).2 = er at *
  by_cases he : er = 0
  · subst he
    rw [if_pos rfl]
    go_enter Tryd.func12, Tryd.ntmps12
    go_wp2_with (first | (go_at_call 40; (refine (HF.out _).mono ?_; rintro e w1 ⟨rfl, hb1⟩; have hB1 : Below W.heap.size W w1 := after (by (repeat' (first | assumption | exact Below.refl _ _ | apply Below.setCell | apply Below.alloc)); all_goals (first | omega | (simp; omega) | (simp; done))) hb1; obtain ⟨hc1, hf1⟩ := bcell hb1; have hz1 := hb1.size; (try simp at hz1); (try simp only [World.size_alloc] at hc1 hf1); have hy0 : W.heap.size < w1.heap.size := (by omega); have hy1 : W.heap.size + 1 < w1.heap.size := (by omega); have hy2 : W.heap.size + 1 + 1 < w1.heap.size := (by omega))) | (go_at_call 43; (refine (HC.out _).mono ?_; rintro e w1 ⟨rfl, hb1⟩; have hB1 : Below W.heap.size W w1 := after (by (repeat' (first | assumption | exact Below.refl _ _ | apply Below.setCell | apply Below.alloc)); all_goals (first | omega | (simp; omega) | (simp; done))) hb1; obtain ⟨hc1, hf1⟩ := bcell hb1; have hz1 := hb1.size; (try simp at hz1); (try simp only [World.size_alloc] at hc1 hf1); have hy0 : W.heap.size < w1.heap.size := (by omega); have hy1 : W.heap.size + 1 < w1.heap.size := (by omega); have hy2 : W.heap.size + 1 + 1 < w1.heap.size := (by omega))) | (go_at_call 22; (refine (ofInt_any _ _).mono ?_; rintro e w1 ⟨rfl, hb1⟩; have hB1 : Below W.heap.size W w1 := after (by (repeat' (first | assumption | exact Below.refl _ _ | apply Below.setCell | apply Below.alloc)); all_goals (first | omega | (simp; omega) | (simp; done))) hb1; obtain ⟨hc1, hf1⟩ := bcell hb1; have hz1 := hb1.size; (try simp at hz1); (try simp only [World.size_alloc] at hc1 hf1); have hy0 : W.heap.size < w1.heap.size := (by omega); have hy1 : W.heap.size + 1 < w1.heap.size := (by omega); have hy2 : W.heap.size + 1 + 1 < w1.heap.size := (by omega))))
    all_goals refine bodyPost_ret (v := .tuple #[vv (ofN m), .int .i64 0]) ?_ rfl ⟨rfl, ?_⟩
    any_goals (repeat' (first | assumption | exact Below.refl _ _ | apply Below.setCell | apply Below.alloc))
    any_goals (first | omega | (simp; omega) | (simp; done))
    all_goals (simp only [results, Tryd.results12]; go_simp)
    all_goals (first | done | exact ⟨rfl, rfl, rfl⟩ | rfl | exact ⟨rfl, rfl⟩)
  · rw [if_neg he]
    have e1 : (er == 0) = false := by simpa using he
    have e2 : (er != 0) = true := by simpa using he
    clear he
    go_enter Tryd.func12, Tryd.ntmps12
    go_wp2_with (first | (go_at_call 40; (refine (HF.out _).mono ?_; rintro e w1 ⟨rfl, hb1⟩; have hB1 : Below W.heap.size W w1 := after (by (repeat' (first | assumption | exact Below.refl _ _ | apply Below.setCell | apply Below.alloc)); all_goals (first | omega | (simp; omega) | (simp; done))) hb1; obtain ⟨hc1, hf1⟩ := bcell hb1; have hz1 := hb1.size; (try simp at hz1); (try simp only [World.size_alloc] at hc1 hf1); have hy0 : W.heap.size < w1.heap.size := (by omega); have hy1 : W.heap.size + 1 < w1.heap.size := (by omega); have hy2 : W.heap.size + 1 + 1 < w1.heap.size := (by omega))) | (go_at_call 43; (refine (HC.out _).mono ?_; rintro e w1 ⟨rfl, hb1⟩; have hB1 : Below W.heap.size W w1 := after (by (repeat' (first | assumption | exact Below.refl _ _ | apply Below.setCell | apply Below.alloc)); all_goals (first | omega | (simp; omega) | (simp; done))) hb1; obtain ⟨hc1, hf1⟩ := bcell hb1; have hz1 := hb1.size; (try simp at hz1); (try simp only [World.size_alloc] at hc1 hf1); have hy0 : W.heap.size < w1.heap.size := (by omega); have hy1 : W.heap.size + 1 < w1.heap.size := (by omega); have hy2 : W.heap.size + 1 + 1 < w1.heap.size := (by omega))) | (go_at_call 22; (refine (ofInt_any _ _).mono ?_; rintro e w1 ⟨rfl, hb1⟩; have hB1 : Below W.heap.size W w1 := after (by (repeat' (first | assumption | exact Below.refl _ _ | apply Below.setCell | apply Below.alloc)); all_goals (first | omega | (simp; omega) | (simp; done))) hb1; obtain ⟨hc1, hf1⟩ := bcell hb1; have hz1 := hb1.size; (try simp at hz1); (try simp only [World.size_alloc] at hc1 hf1); have hy0 : W.heap.size < w1.heap.size := (by omega); have hy1 : W.heap.size + 1 < w1.heap.size := (by omega); have hy2 : W.heap.size + 1 + 1 < w1.heap.size := (by omega))))
    all_goals refine bodyPost_ret (v := .tuple #[vv null, .int .i64 er]) ?_ rfl ⟨rfl, ?_⟩
    any_goals (repeat' (first | assumption | exact Below.refl _ _ | apply Below.setCell | apply Below.alloc))
    any_goals (first | omega | (simp; omega) | (simp; done))
    all_goals (simp only [results, Tryd.results12]; go_simp)
    all_goals (first | done | exact ⟨rfl, rfl, rfl⟩ | rfl | exact ⟨rfl, rfl⟩)

/-- WHAT THE PROGRAM's Do GIVES, for any operator and any two values that may be. -/
theorem do_any (op ka na kb nb : Int) (sa sb : ByteArray) (W : World) (ga : Good ⟨ka, na, sa⟩) (gb : Good ⟨kb, nb, sb⟩) : Calls Tryd.prog 12 #[.int .i64 op, ag3 ka na sa, ag3 kb nb sb] W fun e w' => e = .returned (.tuple #[vv (doV op ⟨ka, na, sa⟩ ⟨kb, nb, sb⟩).1, .int .i64 (doV op ⟨ka, na, sa⟩ ⟨kb, nb, sb⟩).2]) ∧ Below W.heap.size W w' := by
  by_cases h : op < 1 ∨ 14 < op
  · exact do_arg op ka na kb nb sa sb W h
  cases hf : fitB op ka kb
  · exact do_type op ka na kb nb sa sb W (by omega) hf
  by_cases h13 : 13 ≤ op
  · exact do_logic op ka na kb nb sa sb W (by omega) hf
  by_cases h0 : ka = 0 ∨ kb = 0
  · exact do_null op ka na kb nb sa sb W (by omega) hf h0
  by_cases h6 : op ≤ 6
  · exact do_cmp op ka na kb nb sa sb W (by omega) hf h0 ga gb
  by_cases h12 : op = 12
  · subst h12
    exact do_text ka na kb nb sa sb W hf h0 ga gb
  · exact do_count op ka na kb nb sa sb W (by omega) hf h0 ga gb

/-- what a box holds, later -/
theorem box_later (W : World) (k n : Int) (s : ByteArray) (W' : World) (hS : Below (W.alloc (.cells #[.int .i64 k, .int .i64 n, .string s] TV)).heap.size (W.alloc (.cells #[.int .i64 k, .int .i64 n, .string s] TV)) W') :
    W'.cell? ⟨W.heap.size, 0, none⟩ = some (.int .i64 k) ∧ W'.cell? ⟨W.heap.size, 1, none⟩ = some (.int .i64 n) ∧ W'.cell? ⟨W.heap.size, 2, none⟩ = some (.string s) :=
  ⟨cell_later hS (cells_new W [.int .i64 k, .int .i64 n, .string s] TV 0), cell_later hS (cells_new W [.int .i64 k, .int .i64 n, .string s] TV 1), cell_later hS (cells_new W [.int .i64 k, .int .i64 n, .string s] TV 2)⟩

set_option maxRecDepth 100000 in
set_option maxHeartbeats 1000000 in
theorem true_any (k n : Int) (s : ByteArray) (W : World) : Calls Tryd.prog 20 #[ag3 k n s] W fun e w' => e = .returned (.bool (veq6 k n s (ofB true).k (ofB true).n (ofB true).s)) ∧ Below W.heap.size W w' := by
  go_enter Tryd.func20, Tryd.ntmps20
  go_wp2
  have HC := Lib.hid (fun (W' : World) (hS : Below (W.alloc (.cells #[.int .i64 k, .int .i64 n, .string s] TV)).heap.size (W.alloc (.cells #[.int .i64 k, .int .i64 n, .string s] TV)) W') => box_later W k n s W' hS)
  have HBB := Lib.hid (below_alloc1 W (.cells #[.int .i64 k, .int .i64 n, .string s] TV))
  generalize W.alloc (.cells #[.int .i64 k, .int .i64 n, .string s] TV) = X at *
  refine ag.region_ag (fun W1 => Below X.heap.size X W1) (fun _ _ _ _ => True)
    [.val (ag3 k n s), .sat (fun v _ => v = vv (ofB true)) (fun _ w w' => Below w.heap.size w w'), .val (.bool (veq6 k n s (ofB true).k (ofB true).n (ofB true).s)), .val (.bool (veq6 k n s (ofB true).k (ofB true).n (ofB true).s))]
    (by kernel_rfl) (by kernel_rfl) rfl (⟨rfl, rfl, rfl, Nat.le_refl _, fun _ _ => rfl⟩) ?hst ?hk ?hwalk
  case hst =>
    simp only [ag.Stab, ag.Row2, ag.Ok2, and_true]
    repeat' apply And.intro
    all_goals first
      | exact fun h => absurd rfl h
      | exact fun _ _ f v W W' hS hv _ ht => hv
      | trivial
  case hk =>
    simp only [ag.Keeps, and_true]
    exact fun f W1 W2 hS _ ht => hS.trans (ht.mono hS.size)
  case hwalk =>
    refine ag.walk_val (by rfl) (fun W1 hS hE => ?_) ?_
    rotate_left; simp only [Act.put, List.setIfInBounds_toArray, List.set_cons_zero, List.set_cons_succ]; rotate_left
    · have c3 := HC.out W1 hS
      obtain ⟨c0, c1, c2⟩ := c3
      clear hS hE
      unfold ag.does
      go_simp
      try exact ⟨rfl, rfl⟩
    refine ag.walk_sat (by rfl) (fun W1 hS hE => ?_) (fun y1 => ?_)
    rotate_left; simp only [Act.put, List.setIfInBounds_toArray, List.set_cons_zero, List.set_cons_succ]; rotate_left
    · clear hS hE
      unfold ag.does
      go_simp
      refine (ofBool_any _ _).mono ?_
      rintro e W2 ⟨rfl, hb⟩
      exact ⟨_, rfl, rfl, hb, ag.News.none (fun _ _ => trivial) _ _⟩
    refine ag.walk_val (by rfl) (fun W1 hS hE => ?_) ?_
    rotate_left; simp only [Act.put, List.setIfInBounds_toArray, List.set_cons_zero, List.set_cons_succ]; rotate_left
    · have h1 : y1 = vv (ofB true) := hE.get (by kernel_rfl)
      subst h1
      clear hS hE
      unfold ag.does
      go_simp
      try exact ⟨rfl, rfl⟩
    refine ag.walk_val (by rfl) (fun W1 hS hE => ?_) ?_
    rotate_left; simp only [Act.put, List.setIfInBounds_toArray, List.set_cons_zero, List.set_cons_succ]; rotate_left
    · clear hS hE
      unfold ag.does
      go_simp
      try exact ⟨rfl, rfl⟩
    refine ag.walk_nil (fun w7 hS hF' hP => ?_)
    clear hF' hP
    have HS := Lib.hid hS
    clear hS
    go_wp2
    go_ret
    exact ⟨rfl, HBB.out.trans (HS.out.mono HBB.out.size)⟩

/-- a text that may be -/
theorem veq_same (k n : Int) (s : ByteArray) : veq6 k n s k n s = true := veq_self ⟨k, n, s⟩
set_option maxRecDepth 100000 in
set_option maxHeartbeats 2000000 in
theorem good_txt (s : ByteArray) (hs : (s.size : Int) ≤ 64) (W : World) : Calls Tryd.prog 16 #[ag3 3 0 s] W fun e w' => e = .returned (.bool true) ∧ Below W.heap.size W w' := by
  have HV := Lib.hid (veq_same 3 0 s)
  go_enter Tryd.func16, Tryd.ntmps16
  go_wp2
  have HC := Lib.hid (fun (W' : World) (hS : Below (W.alloc (.cells #[.int .i64 3, .int .i64 0, .string s] TV)).heap.size (W.alloc (.cells #[.int .i64 3, .int .i64 0, .string s] TV)) W') => box_later W 3 0 s W' hS)
  have HBB := Lib.hid (below_alloc1 W (.cells #[.int .i64 3, .int .i64 0, .string s] TV))
  generalize W.alloc (.cells #[.int .i64 3, .int .i64 0, .string s] TV) = X at *
  refine ag.region_ag (fun W1 => Below X.heap.size X W1) (fun _ _ _ _ => True)
    [.val (ag3 3 0 s), .val (.pointer (some ⟨W.heap.size, 2, none⟩)), .val (.string s), .sat (fun v _ => v = ag3 3 0 s) (fun _ w w' => Below w.heap.size w w'), .val (.bool true), .val (.bool true), .val (.pointer (some ⟨W.heap.size, 2, none⟩)), .val (.string s), .val (.int .i64 (s.size : Int)), .val (.bool true), .val (.bool true), .val (.bool true)]
    (by kernel_rfl) (by kernel_rfl) rfl (⟨rfl, rfl, rfl, Nat.le_refl _, fun _ _ => rfl⟩) ?hst ?hk ?hwalk
  case hst =>
    simp only [ag.Stab, ag.Row2, ag.Ok2, and_true]
    repeat' apply And.intro
    all_goals first
      | exact fun h => absurd rfl h
      | exact fun _ _ f v W W' hS hv _ ht => hv
      | trivial
  case hk =>
    simp only [ag.Keeps, and_true]
    exact fun f W1 W2 hS _ ht => hS.trans (ht.mono hS.size)
  case hwalk =>
    refine ag.walk_val (by rfl) (fun W1 hS hE => ?_) ?_
    rotate_left; simp only [Act.put, List.setIfInBounds_toArray, List.set_cons_zero, List.set_cons_succ]; rotate_left
    · have c3 := HC.out W1 hS
      obtain ⟨c0, c1, c2⟩ := c3
      clear hS hE
      unfold ag.does
      go_simp
      try exact ⟨rfl, rfl⟩
    refine ag.walk_val (by rfl) (fun W1 hS hE => ?_) ?_
    rotate_left; simp only [Act.put, List.setIfInBounds_toArray, List.set_cons_zero, List.set_cons_succ]; rotate_left
    · clear hS hE
      unfold ag.does
      go_simp
      try exact ⟨rfl, rfl⟩
    refine ag.walk_val (by rfl) (fun W1 hS hE => ?_) ?_
    rotate_left; simp only [Act.put, List.setIfInBounds_toArray, List.set_cons_zero, List.set_cons_succ]; rotate_left
    · have c3 := HC.out W1 hS
      obtain ⟨c0, c1, c2⟩ := c3
      clear hS hE
      unfold ag.does
      go_simp
      try exact ⟨rfl, rfl⟩
    refine ag.walk_sat (by rfl) (fun W1 hS hE => ?_) (fun y1 => ?_)
    rotate_left; simp only [Act.put, List.setIfInBounds_toArray, List.set_cons_zero, List.set_cons_succ]; rotate_left
    · clear hS hE
      unfold ag.does
      go_simp
      refine (ofText_any _ _).mono ?_
      rintro e W2 ⟨rfl, hb⟩
      exact ⟨_, rfl, rfl, hb, ag.News.none (fun _ _ => trivial) _ _⟩
    refine ag.walk_val (by rfl) (fun W1 hS hE => ?_) ?_
    rotate_left; simp only [Act.put, List.setIfInBounds_toArray, List.set_cons_zero, List.set_cons_succ]; rotate_left
    · have h1 : y1 = ag3 3 0 s := hE.get (by kernel_rfl)
      subst h1
      clear hS hE
      unfold ag.does
      go_simp
      first | exact HV.out | exact ⟨HV.out, rfl⟩
    refine ag.walk_val (by rfl) (fun W1 hS hE => ?_) ?_
    rotate_left; simp only [Act.put, List.setIfInBounds_toArray, List.set_cons_zero, List.set_cons_succ]; rotate_left
    · clear hS hE
      unfold ag.does
      go_simp
      try exact ⟨rfl, rfl⟩
    refine ag.walk_val (by rfl) (fun W1 hS hE => ?_) ?_
    rotate_left; simp only [Act.put, List.setIfInBounds_toArray, List.set_cons_zero, List.set_cons_succ]; rotate_left
    · clear hS hE
      unfold ag.does
      go_simp
      try exact ⟨rfl, rfl⟩
    refine ag.walk_val (by rfl) (fun W1 hS hE => ?_) ?_
    rotate_left; simp only [Act.put, List.setIfInBounds_toArray, List.set_cons_zero, List.set_cons_succ]; rotate_left
    · have c3 := HC.out W1 hS
      obtain ⟨c0, c1, c2⟩ := c3
      clear hS hE
      unfold ag.does
      go_simp
      try exact ⟨rfl, rfl⟩
    refine ag.walk_val (by rfl) (fun W1 hS hE => ?_) ?_
    rotate_left; simp only [Act.put, List.setIfInBounds_toArray, List.set_cons_zero, List.set_cons_succ]; rotate_left
    · clear hS hE
      unfold ag.does
      go_simp
      try exact ⟨rfl, rfl⟩
    refine ag.walk_val (by rfl) (fun W1 hS hE => ?_) ?_
    rotate_left; simp only [Act.put, List.setIfInBounds_toArray, List.set_cons_zero, List.set_cons_succ]; rotate_left
    · clear hS hE
      unfold ag.does
      go_simp
      try exact ⟨rfl, rfl⟩
    refine ag.walk_val (by rfl) (fun W1 hS hE => ?_) ?_
    rotate_left; simp only [Act.put, List.setIfInBounds_toArray, List.set_cons_zero, List.set_cons_succ]; rotate_left
    · clear hS hE
      unfold ag.does
      go_simp
      try exact ⟨rfl, rfl⟩
    refine ag.walk_val (by rfl) (fun W1 hS hE => ?_) ?_
    rotate_left; simp only [Act.put, List.setIfInBounds_toArray, List.set_cons_zero, List.set_cons_succ]; rotate_left
    · clear hS hE
      unfold ag.does
      go_simp
      try exact ⟨rfl, rfl⟩
    refine ag.walk_nil (fun w7 hS hF' hP => ?_)
    clear hF' hP
    have HS := Lib.hid hS
    clear hS
    go_wp2
    go_ret
    exact ⟨rfl, HBB.out.trans (HS.out.mono HBB.out.size)⟩

/-- the other one of a bool -/
def notV (v : V) : V × Int := if v.k = 0 then (null, 0) else if v.k = 1 then (ofB (!veq v (ofB true)), 0) else (null, 5)
set_option maxHeartbeats 1000000 in
theorem not_any (k n : Int) (s : ByteArray) (W : World) : Calls Tryd.prog 24 #[ag3 k n s] W fun e w' => e = .returned (.tuple #[vv (notV ⟨k, n, s⟩).1, .int .i64 (notV ⟨k, n, s⟩).2]) ∧ Below W.heap.size W w' := by
  by_cases h0 : k = 0
  · subst h0
    have E : notV ⟨0, n, s⟩ = (null, 0) := by unfold notV; rw [if_pos rfl]
    rw [E]
    clear E
    go_enter Tryd.func24, Tryd.ntmps24
    go_wp2
    all_goals refine bodyPost_ret (v := .tuple #[vv null, .int .i64 0]) ?_ rfl ⟨rfl, ?_⟩
    any_goals (repeat' (first | assumption | exact Below.refl _ _ | apply Below.setCell | apply Below.alloc))
    any_goals (first | omega | (simp; omega) | (simp; done))
    all_goals (simp only [results, Tryd.results24]; go_simp)
    all_goals (first | done | exact ⟨rfl, rfl, rfl⟩ | rfl)
  · have k0 : (k == 0) = false := by simpa using h0
    by_cases h1 : k = 1
    · subst h1
      have E : notV ⟨1, n, s⟩ = (ofB (!veq6 1 n s (ofB true).k (ofB true).n (ofB true).s), 0) := by unfold notV; rw [if_neg (show ¬ (1 : Int) = 0 by decide), if_pos rfl]
      rw [E]
      clear E k0 h0
      have HT := Lib.hid (true_any 1 n s)
      generalize veq6 1 n s (ofB true).k (ofB true).n (ofB true).s = b at *
      go_enter Tryd.func24, Tryd.ntmps24
      go_wp2_with (first | (go_at_call 20; (refine (HT.out _).mono ?_; rintro e w1 ⟨rfl, hb1⟩; have hB1 : Below W.heap.size W w1 := after (by (repeat' (first | assumption | exact Below.refl _ _ | apply Below.setCell | apply Below.alloc)); all_goals (first | omega | (simp; omega) | (simp; done))) hb1; obtain ⟨hc1, hf1⟩ := bcell hb1; have hz1 := hb1.size; (try simp at hz1); (try simp only [World.size_alloc] at hc1 hf1); have hy0 : W.heap.size < w1.heap.size := (by omega); have hy1 : W.heap.size + 1 < w1.heap.size := (by omega))) | (go_at_call 23; (refine (ofBool_any _ _).mono ?_; rintro e w1 ⟨rfl, hb1⟩; have hB1 : Below W.heap.size W w1 := after (by (repeat' (first | assumption | exact Below.refl _ _ | apply Below.setCell | apply Below.alloc)); all_goals (first | omega | (simp; omega) | (simp; done))) hb1; obtain ⟨hc1, hf1⟩ := bcell hb1; have hz1 := hb1.size; (try simp at hz1); (try simp only [World.size_alloc] at hc1 hf1); have hy0 : W.heap.size < w1.heap.size := (by omega); have hy1 : W.heap.size + 1 < w1.heap.size := (by omega))))
      all_goals refine bodyPost_ret (v := .tuple #[vv (ofB (!b)), .int .i64 0]) ?_ rfl ⟨rfl, ?_⟩
      any_goals (repeat' (first | assumption | exact Below.refl _ _ | apply Below.setCell | apply Below.alloc))
      any_goals (first | omega | (simp; omega) | (simp; done))
      all_goals (simp only [results, Tryd.results24]; go_simp)
      all_goals (first | done | exact ⟨rfl, rfl, rfl⟩ | rfl)
    · have k1 : (k == 1) = false := by simpa using h1
      have E : notV ⟨k, n, s⟩ = (null, 5) := by unfold notV; rw [if_neg h0, if_neg h1]
      rw [E]
      clear E h0 h1
      go_enter Tryd.func24, Tryd.ntmps24
      go_wp2
      all_goals refine bodyPost_ret (v := .tuple #[vv null, .int .i64 5]) ?_ rfl ⟨rfl, ?_⟩
      any_goals (repeat' (first | assumption | exact Below.refl _ _ | apply Below.setCell | apply Below.alloc))
      any_goals (first | omega | (simp; omega) | (simp; done))
      all_goals (simp only [results, Tryd.results24]; go_simp)
      all_goals (first | done | exact ⟨rfl, rfl, rfl⟩ | rfl)

end Go.Proofs.YtpkkhbmlclicfaaDoor.val
