/- What the laws on values are told: two values that may be, the same. -/
import Derived.Test.YtjnlimahcodomaaValueCF
import Derived.RegionTactic
import Derived.BigRegion
import Derived.Test.YtjnlimahcodomaaObj
import Derived.Outline
namespace Go.Proofs.Ytjnlimahcodomaa.val
set_option linter.unusedVariables false
open Go.RowKit
attribute [local go_sem high] run_eqlV run_neqV
theorem and_one (n : Int) : bits .and .i64 n 1 = 0 ∨ bits .and .i64 n 1 = 1 := by
  have h : (BitVec.ofInt 64 n &&& BitVec.ofInt 64 1).toNat = 0 ∨ (BitVec.ofInt 64 n &&& BitVec.ofInt 64 1).toNat = 1 := by
    rw [BitVec.toNat_and, show (BitVec.ofInt 64 1).toNat = 1 from rfl, Nat.and_one_is_mod]
    omega
  show IntKind.i64.wrap ((BitVec.ofInt 64 n &&& BitVec.ofInt 64 1).toNat : Int) = 0 ∨ IntKind.i64.wrap ((BitVec.ofInt 64 n &&& BitVec.ofInt 64 1).toNat : Int) = 1
  rcases h with h | h <;> rw [h]
  · left; rfl
  · right; rfl
end Go.Proofs.Ytjnlimahcodomaa.val
/- The document's order of values, walked. -/
namespace Go.Proofs.Ytjnlimahcodomaa.val
set_option linter.unusedVariables false
open Go.RowKit
theorem bl_drop : ∀ (i : Nat) (x y : List UInt8), x.take i = y.take i → i ≤ x.length → i ≤ y.length → Op.bytesLess x y = Op.bytesLess (x.drop i) (y.drop i)
  | 0, x, y, _, _, _ => rfl
  | i + 1, [], y, h, h1, _ => by simp at h1
  | i + 1, x, [], h, _, h2 => by simp at h2
  | i + 1, a :: x, b :: y, h, h1, h2 => by
    simp only [List.take_succ_cons, List.cons.injEq] at h
    obtain ⟨rfl, h⟩ := h
    rw [List.drop_succ_cons, List.drop_succ_cons, ← bl_drop i x y h (by simpa using h1) (by simpa using h2)]
    simp [Op.bytesLess]
theorem bl_end (x y : List UInt8) (i : Nat) (h : x.take i = y.take i) (h1 : i ≤ x.length) (h2 : i ≤ y.length) (he : i = x.length ∨ i = y.length) : Op.bytesLess x y = decide (x.length < y.length) := by
  rw [bl_drop i x y h h1 h2]
  rcases he with rfl | rfl
  · rw [List.drop_length]
    cases hy : y.drop x.length with
    | nil => have := List.drop_eq_nil_iff.1 hy; simp [Op.bytesLess]; omega
    | cons b l =>
      have : ¬ y.length ≤ x.length := fun h => by rw [List.drop_eq_nil_iff.2 h] at hy; cases hy
      simp [Op.bytesLess]; omega
  · rw [List.drop_length]
    cases x.drop y.length <;> simp [Op.bytesLess] <;> omega
theorem bl_at (x y : List UInt8) (i : Nat) (h : x.take i = y.take i) (h1 : i < x.length) (h2 : i < y.length) (hne : x[i] ≠ y[i]) : Op.bytesLess x y = decide (x[i] < y[i]) := by
  rw [bl_drop i x y h (by omega) (by omega), List.drop_eq_getElem_cons h1, List.drop_eq_getElem_cons h2]
  simp [Op.bytesLess, hne]
theorem toList_data (s : ByteArray) : s.toList = s.data.toList := ByteArray.toList_eq s
set_option maxRecDepth 100000 in
set_option maxHeartbeats 2000000 in
theorem before_txt (na nb : Int) (sa sb : ByteArray) (ha : sa.size ≤ 64) (hb : sb.size ≤ 64) (W : World) :
    Calls Try.prog 41 #[ag3 3 na sa, ag3 3 nb sb] W fun e w' => e = .returned (.bool (Op.bytesLess sa.toList sb.toList)) ∧ Below W.heap.size W w' := by
  rw [toList_data, toList_data]
  have la : sa.data.toList.length = sa.size := by rw [← ByteArray.size_data]; simp
  have lb : sb.data.toList.length = sb.size := by rw [← ByteArray.size_data]; simp
  have LA := Lib.hid la; have LB := Lib.hid lb
  have b1 : (sa.size : Int) ≤ 64 := by omega
  have b2 : (sb.size : Int) ≤ 64 := by omega
  have b3 : (0 : Int) ≤ sa.size := by omega
  have b4 : (0 : Int) ≤ sb.size := by omega
  obtain ⟨R, hR⟩ : ∃ R, Op.bytesLess sa.data.toList sb.data.toList = R := ⟨_, rfl⟩
  rw [hR]
  have HR := Lib.hid hR
  clear la lb hR
  go_enter Try.func41, Try.ntmps41
  go_wp2
  have hX : ∀ W', Below ((W.alloc (.cells #[.int .i64 3, .int .i64 na, .string sa] TR)).alloc (.cells #[.int .i64 3, .int .i64 nb, .string sb] TR)).heap.size ((W.alloc (.cells #[.int .i64 3, .int .i64 na, .string sa] TR)).alloc (.cells #[.int .i64 3, .int .i64 nb, .string sb] TR)) W' →
      W'.cell? ⟨W.heap.size, 2, none⟩ = some (.string sa) ∧ W'.cell? ⟨W.heap.size + 1, 2, none⟩ = some (.string sb) := fun W' hS => by
    refine ⟨cell_later (after (below_alloc1 _ _) hS) (cells_new W [.int .i64 3, .int .i64 na, .string sa] TR 2), ?_⟩
    have := cells_new (W.alloc (.cells #[.int .i64 3, .int .i64 na, .string sa] TR)) [.int .i64 3, .int .i64 nb, .string sb] TR 2
    rw [World.size_alloc] at this
    exact cell_later hS this
  have HX := Lib.hid hX
  have HB := Lib.hid (below_alloc2 W (.cells #[.int .i64 3, .int .i64 na, .string sa] TR) (.cells #[.int .i64 3, .int .i64 nb, .string sb] TR))
  clear hX
  generalize (W.alloc (.cells #[.int .i64 3, .int .i64 na, .string sa] TR)).alloc (.cells #[.int .i64 3, .int .i64 nb, .string sb] TR) = X at *
  go_loopw [5] (fun i wr => ∃ k : Nat, i = .int .i64 (k : Int) ∧ k ≤ sa.size ∧ k ≤ sb.size ∧ sa.data.toList.take k = sb.data.toList.take k ∧ Below X.heap.size X wr) (fun i _ => 64 - (intOf i).toNat)
  case atStart => exact ⟨0, rfl, by omega, by omega, rfl, Below.refl _ _⟩
  case round =>
    obtain ⟨k, rfl, hka, hkb, ht, hbl⟩ := hrel
    obtain ⟨c1, c2⟩ := HX.out _ hbl
    have HT := Lib.hid ht; have HBL := Lib.hid hbl
    have d0 : (0 : Int) ≤ (k : Int) := by omega
    clear ht hbl
    by_cases h1 : k < sa.size
    · have d1 : (k : Int) < (sa.size : Int) := by omega
      by_cases h2 : k < sb.size
      · have d2 : (k : Int) < (sb.size : Int) := by omega
        by_cases he : sa[k] = sb[k]
        · have e1 : ((sa[k].toNat : Int) == (sb[k].toNat : Int)) = true := by simp [he]
          have e2 : ((sa[k].toNat : Int) != (sb[k].toNat : Int)) = false := by simp [he]
          have HE := Lib.hid he
          clear he
          go_wp2
          go_quiet (fail)
          go_wp2
          go_roundw
          case rel => exact ⟨k + 1, by go_num, by omega, by omega, by rw [take_snoc sa k h1, take_snoc sb k h2, HT.out, HE.out], below_drewN HBL.out _⟩
          case measure => simp [intOf]; omega
        · have e1 : ((sa[k].toNat : Int) == (sb[k].toNat : Int)) = false := by
            simp only [beq_eq_false_iff_ne, ne_eq]; intro h; exact he (UInt8.toNat_inj.1 (by omega))
          have e2 : ((sa[k].toNat : Int) != (sb[k].toNat : Int)) = true := by
            simp only [bne_iff_ne, ne_eq]; intro h; exact he (UInt8.toNat_inj.1 (by omega))
          have HE := Lib.hid he
          clear he
          go_wp2
          go_quiet (fail)
          go_wp2
          go_quiet (fail)
          go_wp2
          go_ret
          refine ⟨ret_bool ?_, ?_⟩
          · rw [← HR.out, bl_at _ _ k HT.out (by rw [LA.out]; exact h1) (by rw [LB.out]; exact h2) HE.out]
            show _ = decide (sa[k] < sb[k])
            rw [decide_eq_decide, UInt8.lt_iff_toNat_lt]
          · exact HB.out.trans ((below_drewN (below_drewN HBL.out _) _).mono HB.out.size)
      · have d2 : ¬ (k : Int) < (sb.size : Int) := by omega
        go_wp2
        go_ret
        refine ⟨ret_bool ?_, HB.out.trans (HBL.out.mono HB.out.size)⟩
        rw [← HR.out, bl_end _ _ k HT.out (by rw [LA.out]; omega) (by rw [LB.out]; omega) (.inr (by rw [LB.out]; omega)), LA.out, LB.out]
    · have d1 : ¬ (k : Int) < (sa.size : Int) := by omega
      go_wp2
      go_ret
      refine ⟨ret_bool ?_, HB.out.trans (HBL.out.mono HB.out.size)⟩
      rw [← HR.out, bl_end _ _ k HT.out (by rw [LA.out]; omega) (by rw [LB.out]; omega) (.inl (by rw [LA.out]; omega)), LA.out, LB.out]
set_option maxHeartbeats 1000000 in
/-- The document's order of two values that may be. -/
theorem before_any (ka na kb nb : Int) (sa sb : ByteArray) (ga : Good ⟨ka, na, sa⟩) (gb : Good ⟨kb, nb, sb⟩) (W : World) :
    Calls Try.prog 41 #[ag3 ka na sa, ag3 kb nb sb] W fun e w' => e = .returned (.bool (less ⟨ka, na, sa⟩ ⟨kb, nb, sb⟩)) ∧ Below W.heap.size W w' := by
  by_cases ek : ka = kb
  · subst ek
    by_cases e3 : ka = 3
    · subst e3
      have h1 : sa.size ≤ 64 := (good_text ga rfl).2
      have h2 : sb.size ≤ 64 := (good_text gb rfl).2
      exact before_txt na nb sa sb h1 h2 W
    · have E : less ⟨ka, na, sa⟩ ⟨ka, nb, sb⟩ = decide (na < nb) := by unfold less; rw [if_pos rfl, if_neg e3]
      have k3 : (ka == 3) = false := by simpa using e3
      rw [E]
      clear E e3 ga gb
      go_enter Try.func41, Try.ntmps41
      go_wp2
      go_ret
      exact ⟨rfl, below_alloc2 _ _ _⟩
  · have E : less ⟨ka, na, sa⟩ ⟨kb, nb, sb⟩ = decide (ka < kb) := by unfold less; rw [if_neg ek]
    have k3 : (ka == kb) = false := by simpa using ek
    have k4 : (ka != kb) = true := by simpa using ek
    rw [E]
    clear E ek ga gb
    go_enter Try.func41, Try.ntmps41
    go_wp2
    go_ret
    exact ⟨rfl, below_alloc2 _ _ _⟩
end Go.Proofs.Ytjnlimahcodomaa.val
/- The document's operators on values, walked. -/
namespace Go.Proofs.Ytjnlimahcodomaa.val
set_option linter.unusedVariables false
open Go.RowKit
theorem run_eqR (k n : Int) (s : ByteArray) (k' n' : Int) (s' : ByteArray) (w : World) : (binOp .eql 26 (ag3 k n s) (ag3 k' n' s')).run Try.prog w = .ok (.bool (veq6 k n s k' n' s')) w := by
  rw [run_eql_struct]
  go_simp
  unfold veq6
  by_cases h1 : k = k' <;> by_cases h2 : n = n' <;> by_cases h3 : s.toList = s'.toList <;> simp [h1, h2, h3]
theorem run_neR (k n : Int) (s : ByteArray) (k' n' : Int) (s' : ByteArray) (w : World) : (binOp .neq 26 (ag3 k n s) (ag3 k' n' s')).run Try.prog w = .ok (.bool (!veq6 k n s k' n' s')) w := by
  rw [run_neq_struct]
  go_simp
  unfold veq6
  by_cases h1 : k = k' <;> by_cases h2 : n = n' <;> by_cases h3 : s.toList = s'.toList <;> simp [h1, h2, h3]
attribute [local go_sem high] run_eqR run_neR
theorem boolean_ref (b : Bool) (W : World) : Calls Try.prog 40 #[.bool b] W fun e w' => e = .returned (ag3 (ofB b).k (ofB b).n (ofB b).s) ∧ Below W.heap.size W w' := by
  cases b
  all_goals
    go_enter Try.func40, Try.ntmps40
    go_wp2
    exact bodyPost_ret (v := ag3 _ _ _) (by simp [results, Try.results40, go_sem]; exact ⟨rfl, rfl, rfl⟩) rfl ⟨rfl, below_alloc1 _ _⟩
theorem add_ref (a b : Int) (ha : -9223372036854775808 ≤ a ∧ a ≤ 9223372036854775807) (hb : -9223372036854775808 ≤ b ∧ b ≤ 9223372036854775807) (W : World) :
    Calls Try.prog 42 #[.int .i64 a, .int .i64 b] W fun e w' => ∃ m, e = .returned (.tuple #[.int .i64 m, .bool (decide (InR (a + b)))]) ∧ (InR (a + b) → m = a + b) ∧ Below W.heap.size W w' := by
  go_enter Try.func42, Try.ntmps42
  go_wp2
  all_goals go_ret2
  all_goals first
    | exact ⟨a + b, ret_ib (by simp; omega), fun _ _ => rfl, Below.refl _ _⟩
    | exact ⟨0, ret_ib (by simp; omega), fun _ _ => (by omega), Below.refl _ _⟩
set_option maxHeartbeats 1000000 in
theorem times_ref (a b : Int) (ha : -9223372036854775808 ≤ a ∧ a ≤ 9223372036854775807) (hb : -9223372036854775808 ≤ b ∧ b ≤ 9223372036854775807) (W : World) :
    Calls Try.prog 43 #[.int .i64 a, .int .i64 b] W fun e w' => ∃ m, e = .returned (.tuple #[.int .i64 m, .bool (timesB a b)]) ∧ (timesB a b = true → m = timesN a b) ∧ Below W.heap.size W w' := by
  by_cases h0 : a = 0
  · subst h0
    have hx := Lib.hid (times_zero 0 b (.inl rfl))
    go_enter Try.func43, Try.ntmps43
    go_wp2
    go_ret2
    exact ⟨0, (ret_ib hx.out.2.symm), fun _ => hx.out.1.symm, Below.refl _ _⟩
  · have a0 : (a == 0) = false := by simpa using h0
    by_cases h1 : b = 0
    · subst h1
      have hx := Lib.hid (times_zero a 0 (.inr rfl))
      go_enter Try.func43, Try.ntmps43
      go_wp2
      go_ret2
      exact ⟨0, (ret_ib hx.out.2.symm), fun _ => hx.out.1.symm, Below.refl _ _⟩
    · have b0 : (b == 0) = false := by simpa using h1
      have hq := Lib.hid (times_q a b ha hb h1)
      by_cases h2 : b = -1 ∧ a = -9223372036854775808
      · obtain ⟨rfl, rfl⟩ := h2
        go_enter Try.func43, Try.ntmps43
        go_wp2
        go_ret2
        exact ⟨0, rfl, fun _ => rfl, Below.refl _ _⟩
      · by_cases h3 : b = -1
        · subst h3
          have a1 : (a == -9223372036854775808) = false := by simpa using h2
          by_cases h4 : a = -1
          · subst h4
            go_enter Try.func43, Try.ntmps43
            go_wp2
            go_quiet (fail)
            go_wp2
            go_ret2
            exact ⟨1, rfl, fun _ => rfl, below_drewN (Below.refl _ _) _⟩
          · have a2 : (a == -1) = false := by simpa using h4
            clear hq
            go_enter Try.func43, Try.ntmps43
            go_wp2
            go_quiet (fail)
            go_wp2
            go_ret2
            have hn : a * (-1) = -a := by omega
            have ha1 : a ≠ -9223372036854775808 := by simpa using a1
            have hB : timesB a (-1) = true := by unfold timesB; rw [hn, Bool.and_eq_true, decide_eq_true_eq, decide_eq_true_eq]; omega
            have hN : timesN a (-1) = -a := by unfold timesN; rw [hn, if_pos (by omega)]
            exact ⟨-a, ret_ib hB.symm, fun _ => hN.symm, below_drewN (Below.refl _ _) _⟩
        · have b1 : (b == -1) = false := by simpa using h3
          by_cases h4 : a = -1
          · subst h4
            by_cases h5 : b = -9223372036854775808
            · subst h5
              go_enter Try.func43, Try.ntmps43
              go_wp2
              go_ret2
              exact ⟨0, rfl, fun _ => rfl, Below.refl _ _⟩
            · have b2 : (b == -9223372036854775808) = false := by simpa using h5
              go_enter Try.func43, Try.ntmps43
              go_wp2
              go_quiet (fail)
              go_wp2
              go_ret2
              have hn : (-1) * b = -b := by omega
              have hB : timesB (-1) b = true := by unfold timesB; rw [hn, Bool.and_eq_true, decide_eq_true_eq, decide_eq_true_eq]; omega
              have hN : timesN (-1) b = -b := by unfold timesN; rw [hn, if_pos (by omega)]
              exact ⟨-b, ret_ib hB.symm, fun _ => hN.symm, below_drewN (Below.refl _ _) _⟩
          · have a2 : (a == -1) = false := by simpa using h4
            go_enter Try.func43, Try.ntmps43
            go_wp2
            go_quiet (fail)
            go_wp2
            go_ret2
            rw [← IntWalk.i64_left, ← IntWalk.i64_left]
            rw [wrap_tdiv (a * b) b h1 h3]
            exact ⟨_, ret_ib hq.out.1, hq.out.2, below_drewN (Below.refl _ _) _⟩
set_option maxRecDepth 100000 in
set_option maxHeartbeats 1000000 in
theorem ref_arg (op ka na kb nb : Int) (sa sb : ByteArray) (W : World) (h : op < 1 ∨ 14 < op) : Calls Try.prog 25 #[.int .i64 op, ag3 ka na sa, ag3 kb nb sb] W fun e w' => e = .returned (.tuple #[vv (doV op ⟨ka, na, sa⟩ ⟨kb, nb, sb⟩).1, .int .i64 (doV op ⟨ka, na, sa⟩ ⟨kb, nb, sb⟩).2]) ∧ Below W.heap.size W w' := by
  have E : doV op ⟨ka, na, sa⟩ ⟨kb, nb, sb⟩ = (null, 1) := by unfold doV; rw [if_pos h]
  rw [E]
  clear E
  have h1 : op < 1 ∨ (¬ op < 1 ∧ 14 < op) := by omega
  clear h
  rcases h1 with h | ⟨h, h'⟩
  all_goals
    go_enter Try.func25, Try.ntmps25
    go_wp2
    all_goals refine bodyPost_ret (v := .tuple #[vv null, .int .i64 1]) ?_ rfl ⟨rfl, ?_⟩
    any_goals (repeat' (first | assumption | exact Below.refl _ _ | apply Below.setCell | apply Below.alloc))
    any_goals (first | omega | (simp; omega) | (simp; done))
    all_goals (simp only [results, Try.results25]; go_simp)
    all_goals (first | done | exact ⟨rfl, rfl, rfl⟩ | rfl | exact ⟨rfl, rfl⟩)
end Go.Proofs.Ytjnlimahcodomaa.val
/- The document's operators on values, walked. -/
namespace Go.Proofs.Ytjnlimahcodomaa.val
set_option linter.unusedVariables false
open Go.RowKit
attribute [local go_sem high] run_eqR run_neR
theorem add_yes (a b : Int) (ha : -9223372036854775808 ≤ a ∧ a ≤ 9223372036854775807) (hb : -9223372036854775808 ≤ b ∧ b ≤ 9223372036854775807) (h : InR (a + b)) (W : World) :
    Calls Try.prog 42 #[.int .i64 a, .int .i64 b] W fun e w' => e = .returned (.tuple #[.int .i64 (a + b), .bool true]) ∧ Below W.heap.size W w' :=
  (add_ref a b ha hb W).mono fun e w' ⟨m, he, hm, hw⟩ => ⟨by rw [he, hm h, decide_eq_true h], hw⟩
theorem add_no (a b : Int) (ha : -9223372036854775808 ≤ a ∧ a ≤ 9223372036854775807) (hb : -9223372036854775808 ≤ b ∧ b ≤ 9223372036854775807) (h : ¬ InR (a + b)) (W : World) :
    Calls Try.prog 42 #[.int .i64 a, .int .i64 b] W fun e w' => (∃ m, e = .returned (.tuple #[.int .i64 m, .bool false])) ∧ Below W.heap.size W w' :=
  (add_ref a b ha hb W).mono fun e w' ⟨m, he, hm, hw⟩ => ⟨⟨m, by rw [he, decide_eq_false h]⟩, hw⟩
set_option maxRecDepth 100000 in
set_option maxHeartbeats 4000000 in
theorem ref_add (na nb : Int) (sa sb : ByteArray) (ha : -9223372036854775808 ≤ na ∧ na ≤ 9223372036854775807) (hb : -9223372036854775808 ≤ nb ∧ nb ≤ 9223372036854775807) (W : World) :
    Calls Try.prog 25 #[.int .i64 7, ag3 2 na sa, ag3 2 nb sb] W fun e w' => e = .returned (.tuple #[vv (doV 7 ⟨2, na, sa⟩ ⟨2, nb, sb⟩).1, .int .i64 (doV 7 ⟨2, na, sa⟩ ⟨2, nb, sb⟩).2]) ∧ Below W.heap.size W w' := by
  have E : doV 7 ⟨2, na, sa⟩ ⟨2, nb, sb⟩ = if (countV 7 na nb).2 = 0 then (ofN (countV 7 na nb).1, 0) else (null, (countV 7 na nb).2) := by unfold doV; rfl
  have hv := cV 7 na nb (na + nb) rfl (by omega)
  by_cases h : InR (na + nb)
  · rw [hv.1 h, if_pos rfl] at E
    rw [E]
    have HA := Lib.hid (add_yes na nb ha hb h)
    clear E hv h ha hb
    show Calls _ _ _ _ fun e w' => e = .returned (.tuple #[vv (ofN (na + nb)), .int .i64 0]) ∧ _
    go_enter Try.func25, Try.ntmps25
    go_wp2_with (first | (go_at_call 42; ((with_reducible refine (HA.out _).mono ?_); rintro e w1 ⟨rfl, hb1⟩; have hB1 : Below W.heap.size W w1 := after (by (repeat' (first | assumption | exact Below.refl _ _ | apply Below.setCell | apply Below.alloc)); all_goals (first | omega | (simp; omega) | (simp; done))) hb1; obtain ⟨hc1, hf1⟩ := bcell hb1; have hz1 := hb1.size; (try simp at hz1); (try simp only [World.size_alloc] at hc1 hf1); have hy0 : W.heap.size < w1.heap.size := (by omega); have hy1 : W.heap.size + 1 < w1.heap.size := (by omega); have hy2 : W.heap.size + 1 + 1 < w1.heap.size := (by omega))))
    all_goals refine bodyPost_ret (v := .tuple #[vv (ofN (na + nb)), .int .i64 0]) ?_ rfl ⟨rfl, ?_⟩
    any_goals (repeat' (first | assumption | exact Below.refl _ _ | apply Below.setCell | apply Below.alloc))
    any_goals (first | omega | (simp; omega) | (simp; done))
    all_goals (simp only [results, Try.results25]; go_simp)
    all_goals (first | done | exact ⟨rfl, rfl, rfl⟩ | rfl | exact ⟨rfl, rfl⟩)
  · rw [hv.2 h, if_neg (by decide)] at E
    rw [E]
    have HA := Lib.hid (add_no na nb ha hb h)
    clear E hv h ha hb
    go_enter Try.func25, Try.ntmps25
    go_wp2_with (first | (go_at_call 42; ((with_reducible refine (HA.out _).mono ?_); rintro e w1 ⟨⟨m, rfl⟩, hb1⟩; have hB1 : Below W.heap.size W w1 := after (by (repeat' (first | assumption | exact Below.refl _ _ | apply Below.setCell | apply Below.alloc)); all_goals (first | omega | (simp; omega) | (simp; done))) hb1; obtain ⟨hc1, hf1⟩ := bcell hb1; have hz1 := hb1.size; (try simp at hz1); (try simp only [World.size_alloc] at hc1 hf1); have hy0 : W.heap.size < w1.heap.size := (by omega); have hy1 : W.heap.size + 1 < w1.heap.size := (by omega); have hy2 : W.heap.size + 1 + 1 < w1.heap.size := (by omega))))
    all_goals refine bodyPost_ret (v := .tuple #[vv null, .int .i64 8]) ?_ rfl ⟨rfl, ?_⟩
    any_goals (repeat' (first | assumption | exact Below.refl _ _ | apply Below.setCell | apply Below.alloc))
    any_goals (first | omega | (simp; omega) | (simp; done))
    all_goals (simp only [results, Try.results25]; go_simp)
    all_goals (first | done | exact ⟨rfl, rfl, rfl⟩ | rfl | exact ⟨rfl, rfl⟩)
set_option maxRecDepth 100000 in
set_option maxHeartbeats 4000000 in
theorem ref_zero (op na : Int) (sa sb : ByteArray) (hop : op = 10 ∨ op = 11) (W : World) :
    Calls Try.prog 25 #[.int .i64 op, ag3 2 na sa, ag3 2 0 sb] W fun e w' => e = .returned (.tuple #[vv (doV op ⟨2, na, sa⟩ ⟨2, 0, sb⟩).1, .int .i64 (doV op ⟨2, na, sa⟩ ⟨2, 0, sb⟩).2]) ∧ Below W.heap.size W w' := by
  rcases hop with rfl | rfl
  · show Calls _ _ _ _ fun e w' => e = .returned (.tuple #[vv null, .int .i64 9]) ∧ _
    go_enter Try.func25, Try.ntmps25
    go_wp2
    all_goals refine bodyPost_ret (v := .tuple #[vv null, .int .i64 9]) ?_ rfl ⟨rfl, ?_⟩
    any_goals (repeat' (first | assumption | exact Below.refl _ _ | apply Below.setCell | apply Below.alloc))
    any_goals (first | omega | (simp; omega) | (simp; done))
    all_goals (simp only [results, Try.results25]; go_simp)
    all_goals (first | done | exact ⟨rfl, rfl, rfl⟩ | rfl | exact ⟨rfl, rfl⟩)
  · show Calls _ _ _ _ fun e w' => e = .returned (.tuple #[vv null, .int .i64 9]) ∧ _
    go_enter Try.func25, Try.ntmps25
    go_wp2
    all_goals refine bodyPost_ret (v := .tuple #[vv null, .int .i64 9]) ?_ rfl ⟨rfl, ?_⟩
    any_goals (repeat' (first | assumption | exact Below.refl _ _ | apply Below.setCell | apply Below.alloc))
    any_goals (first | omega | (simp; omega) | (simp; done))
    all_goals (simp only [results, Try.results25]; go_simp)
    all_goals (first | done | exact ⟨rfl, rfl, rfl⟩ | rfl | exact ⟨rfl, rfl⟩)
end Go.Proofs.Ytjnlimahcodomaa.val
/- The document's operators on values, walked. -/
namespace Go.Proofs.Ytjnlimahcodomaa.val
set_option linter.unusedVariables false
open Go.RowKit
attribute [local go_sem high] run_eqR run_neR
set_option maxRecDepth 100000 in
set_option maxHeartbeats 4000000 in
theorem ref_mul (na nb : Int) (sa sb : ByteArray) (ha : -9223372036854775808 ≤ na ∧ na ≤ 9223372036854775807) (hb : -9223372036854775808 ≤ nb ∧ nb ≤ 9223372036854775807) (W : World) :
    Calls Try.prog 25 #[.int .i64 9, ag3 2 na sa, ag3 2 nb sb] W fun e w' => e = .returned (.tuple #[vv (doV 9 ⟨2, na, sa⟩ ⟨2, nb, sb⟩).1, .int .i64 (doV 9 ⟨2, na, sa⟩ ⟨2, nb, sb⟩).2]) ∧ Below W.heap.size W w' := by
  have E : doV 9 ⟨2, na, sa⟩ ⟨2, nb, sb⟩ = if (countV 9 na nb).2 = 0 then (ofN (countV 9 na nb).1, 0) else (null, (countV 9 na nb).2) := by unfold doV; rfl
  have hv := cV 9 na nb (na * nb) rfl (by omega)
  have ht := times_ref na nb ha hb
  by_cases h : InR (na * nb)
  · rw [hv.1 h, if_pos rfl] at E
    rw [E]
    have e1 : timesB na nb = true := by unfold timesB; rw [Bool.and_eq_true, decide_eq_true_eq, decide_eq_true_eq]; exact h
    have e2 : timesN na nb = na * nb := by unfold timesN; rw [if_pos h]
    have HA := Lib.hid (fun W => (ht W).mono fun e w' ⟨m, he, hm, hw⟩ => (⟨by rw [he, hm e1, e1, e2], hw⟩ : e = Ending.returned (.tuple #[.int .i64 (na * nb), .bool true]) ∧ Below W.heap.size W w'))
    clear E hv h ha hb ht e1 e2
    generalize na * nb = r at *
    show Calls _ _ _ _ fun e w' => e = .returned (.tuple #[vv (ofN r), .int .i64 0]) ∧ _
    go_enter Try.func25, Try.ntmps25
    go_wp2_with (first | (go_at_call 43; ((with_reducible refine (HA.out _).mono ?_); rintro e w1 ⟨rfl, hb1⟩; have hB1 : Below W.heap.size W w1 := after (by (repeat' (first | assumption | exact Below.refl _ _ | apply Below.setCell | apply Below.alloc)); all_goals (first | omega | (simp; omega) | (simp; done))) hb1; obtain ⟨hc1, hf1⟩ := bcell hb1; have hz1 := hb1.size; (try simp at hz1); (try simp only [World.size_alloc] at hc1 hf1); have hy0 : W.heap.size < w1.heap.size := (by omega); have hy1 : W.heap.size + 1 < w1.heap.size := (by omega); have hy2 : W.heap.size + 1 + 1 < w1.heap.size := (by omega))))
    all_goals refine bodyPost_ret (v := .tuple #[vv (ofN r), .int .i64 0]) ?_ rfl ⟨rfl, ?_⟩
    any_goals (repeat' (first | assumption | exact Below.refl _ _ | apply Below.setCell | apply Below.alloc))
    any_goals (first | omega | (simp; omega) | (simp; done))
    all_goals (simp only [results, Try.results25]; go_simp)
    all_goals (first | done | exact ⟨rfl, rfl, rfl⟩ | rfl | exact ⟨rfl, rfl⟩)
  · rw [hv.2 h, if_neg (by decide)] at E
    rw [E]
    have e1 : timesB na nb = false := by unfold timesB; rw [Bool.and_eq_false_iff, decide_eq_false_iff_not, decide_eq_false_iff_not]; unfold InR at h; omega
    have HA := Lib.hid (fun W => (ht W).mono fun e w' ⟨m, he, hm, hw⟩ => (⟨⟨m, by rw [he, e1]⟩, hw⟩ : (∃ m, e = Ending.returned (.tuple #[.int .i64 m, .bool false])) ∧ Below W.heap.size W w'))
    clear E hv h ha hb ht e1
    go_enter Try.func25, Try.ntmps25
    go_wp2_with (first | (go_at_call 43; ((with_reducible refine (HA.out _).mono ?_); rintro e w1 ⟨⟨m, rfl⟩, hb1⟩; have hB1 : Below W.heap.size W w1 := after (by (repeat' (first | assumption | exact Below.refl _ _ | apply Below.setCell | apply Below.alloc)); all_goals (first | omega | (simp; omega) | (simp; done))) hb1; obtain ⟨hc1, hf1⟩ := bcell hb1; have hz1 := hb1.size; (try simp at hz1); (try simp only [World.size_alloc] at hc1 hf1); have hy0 : W.heap.size < w1.heap.size := (by omega); have hy1 : W.heap.size + 1 < w1.heap.size := (by omega); have hy2 : W.heap.size + 1 + 1 < w1.heap.size := (by omega))))
    all_goals refine bodyPost_ret (v := .tuple #[vv null, .int .i64 8]) ?_ rfl ⟨rfl, ?_⟩
    any_goals (repeat' (first | assumption | exact Below.refl _ _ | apply Below.setCell | apply Below.alloc))
    any_goals (first | omega | (simp; omega) | (simp; done))
    all_goals (simp only [results, Try.results25]; go_simp)
    all_goals (first | done | exact ⟨rfl, rfl, rfl⟩ | rfl | exact ⟨rfl, rfl⟩)
end Go.Proofs.Ytjnlimahcodomaa.val
/- The document's operators on values, walked: where the kinds do not fit. -/
namespace Go.Proofs.Ytjnlimahcodomaa.val
set_option linter.unusedVariables false
open Go.RowKit
set_option maxRecDepth 100000 in
set_option maxHeartbeats 4000000 in
theorem ref_type (op ka na kb nb : Int) (sa sb : ByteArray) (W : World) (h : 1 ≤ op ∧ op ≤ 14) (hf : fitB op ka kb = false) : Calls Try.prog 25 #[.int .i64 op, ag3 ka na sa, ag3 kb nb sb] W fun e w' => e = .returned (.tuple #[vv (doV op ⟨ka, na, sa⟩ ⟨kb, nb, sb⟩).1, .int .i64 (doV op ⟨ka, na, sa⟩ ⟨kb, nb, sb⟩).2]) ∧ Below W.heap.size W w' := by
  have E : doV op ⟨ka, na, sa⟩ ⟨kb, nb, sb⟩ = (null, 5) := by unfold doV; rw [if_neg (by omega), if_pos hf]
  rw [E]
  clear E
  have hc : (op ≤ 6 ∧ ka ≠ 0 ∧ kb ≠ 0 ∧ ka ≠ kb) ∨ ∃ t : Int, ((7 ≤ op ∧ op ≤ 11 ∧ t = 2) ∨ (op = 12 ∧ t = 3) ∨ (13 ≤ op ∧ t = 1)) ∧ ((ka ≠ 0 ∧ ka ≠ t) ∨ (ka = 0 ∧ kb ≠ 0 ∧ kb ≠ t) ∨ (ka = t ∧ kb ≠ 0 ∧ kb ≠ t)) := by
    unfold fitB at hf
    by_cases h6 : op ≤ 6
    · rw [if_pos h6] at hf
      left; simp at hf; omega
    · rw [if_neg h6] at hf
      right
      by_cases h12 : op = 12
      · rw [if_pos h12] at hf; refine ⟨3, by omega, ?_⟩; simp at hf; omega
      · rw [if_neg h12] at hf
        by_cases h13 : 13 ≤ op
        · rw [if_pos h13] at hf; refine ⟨1, by omega, ?_⟩; simp at hf; omega
        · rw [if_neg h13] at hf; refine ⟨2, by omega, ?_⟩; simp at hf; omega
  clear hf
  obtain ⟨o1, o14⟩ := h
  rcases hc with ⟨o6, a0, b0, ab⟩ | ⟨t, ho, hk⟩
  · have q1 : (ka == 0) = false := by simpa using a0
    have q2 : (kb == 0) = false := by simpa using b0
    have q3 : (ka == kb) = false := by simpa using ab
    have q4 : (ka != kb) = true := by simpa using ab
    clear a0 b0 ab
    go_enter Try.func25, Try.ntmps25
    go_wp2
    all_goals refine bodyPost_ret (v := .tuple #[vv null, .int .i64 5]) ?_ rfl ⟨rfl, ?_⟩
    any_goals (repeat' (first | assumption | exact Below.refl _ _ | apply Below.setCell | apply Below.alloc))
    any_goals (first | omega | (simp; omega) | (simp; done))
    all_goals (simp only [results, Try.results25]; go_simp)
    all_goals (first | done | exact ⟨rfl, rfl, rfl⟩ | rfl | exact ⟨rfl, rfl⟩)
  · rcases ho with ⟨o7, o11, rfl⟩ | ⟨rfl, rfl⟩ | ⟨o13, rfl⟩
    all_goals (rcases hk with ⟨a0, at_⟩ | ⟨rfl, b0, bt⟩ | ⟨rfl, b0, bt⟩)
    · have l13 : op < 13 := by omega
      have o12 : (op == 12) = false := by simp <;> omega
      have q0 : (ka == 0) = false := by simpa using a0
      have q1 : (ka != 0) = true := by simpa using a0
      have q2 : (ka == 2) = false := by simpa using at_
      have q3 : (ka != 2) = true := by simpa using at_
      clear a0 at_
      go_enter Try.func25, Try.ntmps25
      go_wp2
      all_goals refine bodyPost_ret (v := .tuple #[vv null, .int .i64 5]) ?_ rfl ⟨rfl, ?_⟩
      any_goals (repeat' (first | assumption | exact Below.refl _ _ | apply Below.setCell | apply Below.alloc))
      any_goals (first | omega | (simp; omega) | (simp; done))
      all_goals (simp only [results, Try.results25]; go_simp)
      all_goals (first | done | exact ⟨rfl, rfl, rfl⟩ | rfl | exact ⟨rfl, rfl⟩)
    · have l13 : op < 13 := by omega
      have o12 : (op == 12) = false := by simp <;> omega
      have q0 : (kb == 0) = false := by simpa using b0
      have q1 : (kb != 0) = true := by simpa using b0
      have q2 : (kb == 2) = false := by simpa using bt
      have q3 : (kb != 2) = true := by simpa using bt
      clear b0 bt
      go_enter Try.func25, Try.ntmps25
      go_wp2
      all_goals refine bodyPost_ret (v := .tuple #[vv null, .int .i64 5]) ?_ rfl ⟨rfl, ?_⟩
      any_goals (repeat' (first | assumption | exact Below.refl _ _ | apply Below.setCell | apply Below.alloc))
      any_goals (first | omega | (simp; omega) | (simp; done))
      all_goals (simp only [results, Try.results25]; go_simp)
      all_goals (first | done | exact ⟨rfl, rfl, rfl⟩ | rfl | exact ⟨rfl, rfl⟩)
    · have l13 : op < 13 := by omega
      have o12 : (op == 12) = false := by simp <;> omega
      have q0 : (kb == 0) = false := by simpa using b0
      have q1 : (kb != 0) = true := by simpa using b0
      have q2 : (kb == 2) = false := by simpa using bt
      have q3 : (kb != 2) = true := by simpa using bt
      clear b0 bt
      go_enter Try.func25, Try.ntmps25
      go_wp2
      all_goals refine bodyPost_ret (v := .tuple #[vv null, .int .i64 5]) ?_ rfl ⟨rfl, ?_⟩
      any_goals (repeat' (first | assumption | exact Below.refl _ _ | apply Below.setCell | apply Below.alloc))
      any_goals (first | omega | (simp; omega) | (simp; done))
      all_goals (simp only [results, Try.results25]; go_simp)
      all_goals (first | done | exact ⟨rfl, rfl, rfl⟩ | rfl | exact ⟨rfl, rfl⟩)
    · skip
      have q0 : (ka == 0) = false := by simpa using a0
      have q1 : (ka != 0) = true := by simpa using a0
      have q2 : (ka == 3) = false := by simpa using at_
      have q3 : (ka != 3) = true := by simpa using at_
      clear a0 at_
      go_enter Try.func25, Try.ntmps25
      go_wp2
      all_goals refine bodyPost_ret (v := .tuple #[vv null, .int .i64 5]) ?_ rfl ⟨rfl, ?_⟩
      any_goals (repeat' (first | assumption | exact Below.refl _ _ | apply Below.setCell | apply Below.alloc))
      any_goals (first | omega | (simp; omega) | (simp; done))
      all_goals (simp only [results, Try.results25]; go_simp)
      all_goals (first | done | exact ⟨rfl, rfl, rfl⟩ | rfl | exact ⟨rfl, rfl⟩)
    · skip
      have q0 : (kb == 0) = false := by simpa using b0
      have q1 : (kb != 0) = true := by simpa using b0
      have q2 : (kb == 3) = false := by simpa using bt
      have q3 : (kb != 3) = true := by simpa using bt
      clear b0 bt
      go_enter Try.func25, Try.ntmps25
      go_wp2
      all_goals refine bodyPost_ret (v := .tuple #[vv null, .int .i64 5]) ?_ rfl ⟨rfl, ?_⟩
      any_goals (repeat' (first | assumption | exact Below.refl _ _ | apply Below.setCell | apply Below.alloc))
      any_goals (first | omega | (simp; omega) | (simp; done))
      all_goals (simp only [results, Try.results25]; go_simp)
      all_goals (first | done | exact ⟨rfl, rfl, rfl⟩ | rfl | exact ⟨rfl, rfl⟩)
    · skip
      have q0 : (kb == 0) = false := by simpa using b0
      have q1 : (kb != 0) = true := by simpa using b0
      have q2 : (kb == 3) = false := by simpa using bt
      have q3 : (kb != 3) = true := by simpa using bt
      clear b0 bt
      go_enter Try.func25, Try.ntmps25
      go_wp2
      all_goals refine bodyPost_ret (v := .tuple #[vv null, .int .i64 5]) ?_ rfl ⟨rfl, ?_⟩
      any_goals (repeat' (first | assumption | exact Below.refl _ _ | apply Below.setCell | apply Below.alloc))
      any_goals (first | omega | (simp; omega) | (simp; done))
      all_goals (simp only [results, Try.results25]; go_simp)
      all_goals (first | done | exact ⟨rfl, rfl, rfl⟩ | rfl | exact ⟨rfl, rfl⟩)
    · have l7 : 7 ≤ op := by omega
      have o12 : (op == 12) = false := by simp <;> omega
      have q0 : (ka == 0) = false := by simpa using a0
      have q1 : (ka != 0) = true := by simpa using a0
      have q2 : (ka == 1) = false := by simpa using at_
      have q3 : (ka != 1) = true := by simpa using at_
      clear a0 at_
      go_enter Try.func25, Try.ntmps25
      go_wp2
      all_goals refine bodyPost_ret (v := .tuple #[vv null, .int .i64 5]) ?_ rfl ⟨rfl, ?_⟩
      any_goals (repeat' (first | assumption | exact Below.refl _ _ | apply Below.setCell | apply Below.alloc))
      any_goals (first | omega | (simp; omega) | (simp; done))
      all_goals (simp only [results, Try.results25]; go_simp)
      all_goals (first | done | exact ⟨rfl, rfl, rfl⟩ | rfl | exact ⟨rfl, rfl⟩)
    · have l7 : 7 ≤ op := by omega
      have o12 : (op == 12) = false := by simp <;> omega
      have q0 : (kb == 0) = false := by simpa using b0
      have q1 : (kb != 0) = true := by simpa using b0
      have q2 : (kb == 1) = false := by simpa using bt
      have q3 : (kb != 1) = true := by simpa using bt
      clear b0 bt
      go_enter Try.func25, Try.ntmps25
      go_wp2
      all_goals refine bodyPost_ret (v := .tuple #[vv null, .int .i64 5]) ?_ rfl ⟨rfl, ?_⟩
      any_goals (repeat' (first | assumption | exact Below.refl _ _ | apply Below.setCell | apply Below.alloc))
      any_goals (first | omega | (simp; omega) | (simp; done))
      all_goals (simp only [results, Try.results25]; go_simp)
      all_goals (first | done | exact ⟨rfl, rfl, rfl⟩ | rfl | exact ⟨rfl, rfl⟩)
    · have l7 : 7 ≤ op := by omega
      have o12 : (op == 12) = false := by simp <;> omega
      have q0 : (kb == 0) = false := by simpa using b0
      have q1 : (kb != 0) = true := by simpa using b0
      have q2 : (kb == 1) = false := by simpa using bt
      have q3 : (kb != 1) = true := by simpa using bt
      clear b0 bt
      go_enter Try.func25, Try.ntmps25
      go_wp2
      all_goals refine bodyPost_ret (v := .tuple #[vv null, .int .i64 5]) ?_ rfl ⟨rfl, ?_⟩
      any_goals (repeat' (first | assumption | exact Below.refl _ _ | apply Below.setCell | apply Below.alloc))
      any_goals (first | omega | (simp; omega) | (simp; done))
      all_goals (simp only [results, Try.results25]; go_simp)
      all_goals (first | done | exact ⟨rfl, rfl, rfl⟩ | rfl | exact ⟨rfl, rfl⟩)
end Go.Proofs.Ytjnlimahcodomaa.val
/- The document's operators on values, walked. -/
namespace Go.Proofs.Ytjnlimahcodomaa.val
set_option linter.unusedVariables false
open Go.RowKit
attribute [local go_sem high] run_eqR run_neR
set_option maxRecDepth 100000 in
set_option maxHeartbeats 4000000 in
theorem ref_null (op ka na kb nb : Int) (sa sb : ByteArray) (W : World) (h : 1 ≤ op ∧ op < 13) (hf : fitB op ka kb = true) (h0 : ka = 0 ∨ kb = 0) : Calls Try.prog 25 #[.int .i64 op, ag3 ka na sa, ag3 kb nb sb] W fun e w' => e = .returned (.tuple #[vv (doV op ⟨ka, na, sa⟩ ⟨kb, nb, sb⟩).1, .int .i64 (doV op ⟨ka, na, sa⟩ ⟨kb, nb, sb⟩).2]) ∧ Below W.heap.size W w' := by
  have E : doV op ⟨ka, na, sa⟩ ⟨kb, nb, sb⟩ = (null, 0) := by unfold doV; rw [if_neg (by omega), if_neg (by rw [hf]; decide), if_neg (by omega), if_pos h0]
  rw [E]
  clear E
  have hc : (op ≤ 6 ∧ (ka = 0 ∨ (ka ≠ 0 ∧ kb = 0))) ∨ ∃ t : Int, ((7 ≤ op ∧ op ≤ 11 ∧ t = 2) ∨ (op = 12 ∧ t = 3)) ∧ ((ka = 0 ∧ kb = 0) ∨ (ka = 0 ∧ kb = t) ∨ (ka = t ∧ kb = 0)) := by
    unfold fitB at hf
    by_cases h6 : op ≤ 6
    · left; omega
    · rw [if_neg h6] at hf
      right
      by_cases h12 : op = 12
      · rw [if_pos h12] at hf; refine ⟨3, by omega, ?_⟩; simp at hf; omega
      · rw [if_neg h12, if_neg (by omega)] at hf; refine ⟨2, by omega, ?_⟩; simp at hf; omega
  clear hf h0
  obtain ⟨o1, o13⟩ := h
  have o14 : op ≤ 14 := by omega
  have e13 : (op == 13) = false := by simp <;> omega
  have e14 : (op == 14) = false := by simp <;> omega
  rcases hc with ⟨o6, hk⟩ | ⟨t, ho, hk⟩
  · have e12 : (op == 12) = false := by simp <;> omega
    have o7 : op < 7 := by omega
    rcases hk with rfl | ⟨a0, rfl⟩
    · skip
      go_enter Try.func25, Try.ntmps25
      go_wp2
      all_goals refine bodyPost_ret (v := .tuple #[vv null, .int .i64 0]) ?_ rfl ⟨rfl, ?_⟩
      any_goals (repeat' (first | assumption | exact Below.refl _ _ | apply Below.setCell | apply Below.alloc))
      any_goals (first | omega | (simp; omega) | (simp; done))
      all_goals (simp only [results, Try.results25]; go_simp)
      all_goals (first | done | exact ⟨rfl, rfl, rfl⟩ | rfl | exact ⟨rfl, rfl⟩)
    · have q1 : (ka == 0) = false := by simpa using a0
      clear a0
      go_enter Try.func25, Try.ntmps25
      go_wp2
      all_goals refine bodyPost_ret (v := .tuple #[vv null, .int .i64 0]) ?_ rfl ⟨rfl, ?_⟩
      any_goals (repeat' (first | assumption | exact Below.refl _ _ | apply Below.setCell | apply Below.alloc))
      any_goals (first | omega | (simp; omega) | (simp; done))
      all_goals (simp only [results, Try.results25]; go_simp)
      all_goals (first | done | exact ⟨rfl, rfl, rfl⟩ | rfl | exact ⟨rfl, rfl⟩)
  · rcases ho with ⟨o7, o11, rfl⟩ | ⟨rfl, rfl⟩
    · have e12 : (op == 12) = false := by simp <;> omega
      have o6 : 6 < op := by omega
      rcases hk with ⟨rfl, rfl⟩ | ⟨rfl, rfl⟩ | ⟨rfl, rfl⟩
      all_goals skip
      · skip
        go_enter Try.func25, Try.ntmps25
        go_wp2
        all_goals refine bodyPost_ret (v := .tuple #[vv null, .int .i64 0]) ?_ rfl ⟨rfl, ?_⟩
        any_goals (repeat' (first | assumption | exact Below.refl _ _ | apply Below.setCell | apply Below.alloc))
        any_goals (first | omega | (simp; omega) | (simp; done))
        all_goals (simp only [results, Try.results25]; go_simp)
        all_goals (first | done | exact ⟨rfl, rfl, rfl⟩ | rfl | exact ⟨rfl, rfl⟩)
      · skip
        go_enter Try.func25, Try.ntmps25
        go_wp2
        all_goals refine bodyPost_ret (v := .tuple #[vv null, .int .i64 0]) ?_ rfl ⟨rfl, ?_⟩
        any_goals (repeat' (first | assumption | exact Below.refl _ _ | apply Below.setCell | apply Below.alloc))
        any_goals (first | omega | (simp; omega) | (simp; done))
        all_goals (simp only [results, Try.results25]; go_simp)
        all_goals (first | done | exact ⟨rfl, rfl, rfl⟩ | rfl | exact ⟨rfl, rfl⟩)
      · skip
        go_enter Try.func25, Try.ntmps25
        go_wp2
        all_goals refine bodyPost_ret (v := .tuple #[vv null, .int .i64 0]) ?_ rfl ⟨rfl, ?_⟩
        any_goals (repeat' (first | assumption | exact Below.refl _ _ | apply Below.setCell | apply Below.alloc))
        any_goals (first | omega | (simp; omega) | (simp; done))
        all_goals (simp only [results, Try.results25]; go_simp)
        all_goals (first | done | exact ⟨rfl, rfl, rfl⟩ | rfl | exact ⟨rfl, rfl⟩)
    · rcases hk with ⟨rfl, rfl⟩ | ⟨rfl, rfl⟩ | ⟨rfl, rfl⟩
      · skip
        go_enter Try.func25, Try.ntmps25
        go_wp2
        all_goals refine bodyPost_ret (v := .tuple #[vv null, .int .i64 0]) ?_ rfl ⟨rfl, ?_⟩
        any_goals (repeat' (first | assumption | exact Below.refl _ _ | apply Below.setCell | apply Below.alloc))
        any_goals (first | omega | (simp; omega) | (simp; done))
        all_goals (simp only [results, Try.results25]; go_simp)
        all_goals (first | done | exact ⟨rfl, rfl, rfl⟩ | rfl | exact ⟨rfl, rfl⟩)
      · skip
        go_enter Try.func25, Try.ntmps25
        go_wp2
        all_goals refine bodyPost_ret (v := .tuple #[vv null, .int .i64 0]) ?_ rfl ⟨rfl, ?_⟩
        any_goals (repeat' (first | assumption | exact Below.refl _ _ | apply Below.setCell | apply Below.alloc))
        any_goals (first | omega | (simp; omega) | (simp; done))
        all_goals (simp only [results, Try.results25]; go_simp)
        all_goals (first | done | exact ⟨rfl, rfl, rfl⟩ | rfl | exact ⟨rfl, rfl⟩)
      · skip
        go_enter Try.func25, Try.ntmps25
        go_wp2
        all_goals refine bodyPost_ret (v := .tuple #[vv null, .int .i64 0]) ?_ rfl ⟨rfl, ?_⟩
        any_goals (repeat' (first | assumption | exact Below.refl _ _ | apply Below.setCell | apply Below.alloc))
        any_goals (first | omega | (simp; omega) | (simp; done))
        all_goals (simp only [results, Try.results25]; go_simp)
        all_goals (first | done | exact ⟨rfl, rfl, rfl⟩ | rfl | exact ⟨rfl, rfl⟩)
set_option maxRecDepth 100000 in
set_option maxHeartbeats 4000000 in
theorem ref_text (ka na kb nb : Int) (sa sb : ByteArray) (W : World) (hf : fitB 12 ka kb = true) (h0 : ¬ (ka = 0 ∨ kb = 0)) (ga : Good ⟨ka, na, sa⟩) (gb : Good ⟨kb, nb, sb⟩) : Calls Try.prog 25 #[.int .i64 12, ag3 ka na sa, ag3 kb nb sb] W fun e w' => e = .returned (.tuple #[vv (doV 12 ⟨ka, na, sa⟩ ⟨kb, nb, sb⟩).1, .int .i64 (doV 12 ⟨ka, na, sa⟩ ⟨kb, nb, sb⟩).2]) ∧ Below W.heap.size W w' := by
  have E : doV 12 ⟨ka, na, sa⟩ ⟨kb, nb, sb⟩ = if sa.size + sb.size > 64 then (null, 8) else (ofS (sa ++ sb), 0) := by unfold doV; rw [if_neg (by decide), if_neg (by rw [hf]; decide), if_neg (by decide), if_neg h0, if_neg (by decide), if_pos rfl]
  have hk : ka = 3 ∧ kb = 3 := by unfold fitB at hf; simp at hf; omega
  have s1 : sa.size ≤ 64 := (good_text ga hk.1).2
  have s2 : sb.size ≤ 64 := (good_text gb hk.2).2
  obtain ⟨rfl, rfl⟩ := hk
  rw [E]
  have b1 : (sa.size : Int) ≤ 64 := by omega
  have b2 : (sb.size : Int) ≤ 64 := by omega
  have b3 : (0 : Int) ≤ sa.size := by omega
  have b4 : (0 : Int) ≤ sb.size := by omega
  by_cases hs : sa.size + sb.size > 64
  · rw [if_pos hs]
    have hs1 : (64 : Int) < (sa.size : Int) + (sb.size : Int) := by omega
    clear E hf ga gb h0 hs
    go_enter Try.func25, Try.ntmps25
    go_wp2
    all_goals refine bodyPost_ret (v := .tuple #[vv null, .int .i64 8]) ?_ rfl ⟨rfl, ?_⟩
    any_goals (repeat' (first | assumption | exact Below.refl _ _ | apply Below.setCell | apply Below.alloc))
    any_goals (first | omega | (simp; omega) | (simp; done))
    all_goals (simp only [results, Try.results25]; go_simp)
    all_goals (first | done | exact ⟨rfl, rfl, rfl⟩ | rfl | exact ⟨rfl, rfl⟩)
  · rw [if_neg hs]
    have hs1 : (sa.size : Int) + (sb.size : Int) ≤ 64 := by omega
    clear E hf ga gb h0 hs
    go_enter Try.func25, Try.ntmps25
    go_wp2
    all_goals refine bodyPost_ret (v := .tuple #[vv (ofS (sa ++ sb)), .int .i64 0]) ?_ rfl ⟨rfl, ?_⟩
    any_goals (repeat' (first | assumption | exact Below.refl _ _ | apply Below.setCell | apply Below.alloc))
    any_goals (first | omega | (simp; omega) | (simp; done))
    all_goals (simp only [results, Try.results25]; go_simp)
    all_goals (first | done | exact ⟨rfl, rfl, rfl⟩ | rfl | exact ⟨rfl, rfl⟩)
end Go.Proofs.Ytjnlimahcodomaa.val
/- The document's operators on values, walked. -/
namespace Go.Proofs.Ytjnlimahcodomaa.val
set_option linter.unusedVariables false
open Go.RowKit
attribute [local go_sem high] run_eqR run_neR
set_option maxRecDepth 100000 in
set_option maxHeartbeats 4000000 in
theorem ref_cmp (op ka na kb nb : Int) (sa sb : ByteArray) (W : World) (h : 1 ≤ op ∧ op ≤ 6) (hf : fitB op ka kb = true) (h0 : ¬ (ka = 0 ∨ kb = 0)) (ga : Good ⟨ka, na, sa⟩) (gb : Good ⟨kb, nb, sb⟩) : Calls Try.prog 25 #[.int .i64 op, ag3 ka na sa, ag3 kb nb sb] W fun e w' => e = .returned (.tuple #[vv (doV op ⟨ka, na, sa⟩ ⟨kb, nb, sb⟩).1, .int .i64 (doV op ⟨ka, na, sa⟩ ⟨kb, nb, sb⟩).2]) ∧ Below W.heap.size W w' := by
  have E : doV op ⟨ka, na, sa⟩ ⟨kb, nb, sb⟩ = (ofB (holdsV op ⟨ka, na, sa⟩ ⟨kb, nb, sb⟩), 0) := by unfold doV; rw [if_neg (by omega), if_neg (by rw [hf]; decide), if_neg (by omega), if_neg h0, if_pos h.2]
  have hk : ka = kb := by unfold fitB at hf; rw [if_pos h.2] at hf; simp at hf; omega
  subst hk
  have k1 : (ka == 0) = false := by simp <;> omega
  have hp := before_any ka na ka nb sa sb ga gb
  have hq := before_any ka nb ka na sb sa gb ga
  have hr : veq6 ka na sa ka nb sb = veq ⟨ka, na, sa⟩ ⟨ka, nb, sb⟩ := rfl
  rw [E]
  have ho : op = 1 ∨ op = 2 ∨ op = 3 ∨ op = 4 ∨ op = 5 ∨ op = 6 := by omega
  have hH : holdsV op ⟨ka, na, sa⟩ ⟨ka, nb, sb⟩ = if op = 1 then veq6 ka na sa ka nb sb else if op = 2 then !veq6 ka na sa ka nb sb else if op = 3 then less ⟨ka, na, sa⟩ ⟨ka, nb, sb⟩ else if op = 4 then !less ⟨ka, nb, sb⟩ ⟨ka, na, sa⟩ else if op = 5 then less ⟨ka, nb, sb⟩ ⟨ka, na, sa⟩ else !less ⟨ka, na, sa⟩ ⟨ka, nb, sb⟩ := rfl
  rw [hH]
  obtain ⟨p, hp'⟩ : ∃ p, less ⟨ka, na, sa⟩ ⟨ka, nb, sb⟩ = p := ⟨_, rfl⟩
  obtain ⟨q, hq'⟩ : ∃ p, less ⟨ka, nb, sb⟩ ⟨ka, na, sa⟩ = p := ⟨_, rfl⟩
  rw [hp'] at hp ⊢
  rw [hq'] at hq ⊢
  have HP := Lib.hid hp
  have HQ := Lib.hid hq
  clear E hf h0 ga gb hp hq hp' hq' hH hr h
  rcases ho with rfl | rfl | rfl | rfl | rfl | rfl
  · show Calls _ _ _ _ fun e w' => e = .returned (.tuple #[vv (ofB (veq6 ka na sa ka nb sb)), .int .i64 0]) ∧ _
    go_enter Try.func25, Try.ntmps25
    go_wp2_with (first | (go_at_call 41; ((with_reducible refine (HP.out _).mono ?_); rintro e w1 ⟨rfl, hb1⟩; have hB1 : Below W.heap.size W w1 := after (by (repeat' (first | assumption | exact Below.refl _ _ | apply Below.setCell | apply Below.alloc)); all_goals (first | omega | (simp; omega) | (simp; done))) hb1; obtain ⟨hc1, hf1⟩ := bcell hb1; have hz1 := hb1.size; (try simp at hz1); (try simp only [World.size_alloc] at hc1 hf1); have hy0 : W.heap.size < w1.heap.size := (by omega); have hy1 : W.heap.size + 1 < w1.heap.size := (by omega); have hy2 : W.heap.size + 1 + 1 < w1.heap.size := (by omega))) | (go_at_call 41; ((with_reducible refine (HQ.out _).mono ?_); rintro e w1 ⟨rfl, hb1⟩; have hB1 : Below W.heap.size W w1 := after (by (repeat' (first | assumption | exact Below.refl _ _ | apply Below.setCell | apply Below.alloc)); all_goals (first | omega | (simp; omega) | (simp; done))) hb1; obtain ⟨hc1, hf1⟩ := bcell hb1; have hz1 := hb1.size; (try simp at hz1); (try simp only [World.size_alloc] at hc1 hf1); have hy0 : W.heap.size < w1.heap.size := (by omega); have hy1 : W.heap.size + 1 < w1.heap.size := (by omega); have hy2 : W.heap.size + 1 + 1 < w1.heap.size := (by omega))) | (go_at_call 40; ((with_reducible refine (boolean_ref _ _).mono ?_); rintro e w1 ⟨rfl, hb1⟩; have hB1 : Below W.heap.size W w1 := after (by (repeat' (first | assumption | exact Below.refl _ _ | apply Below.setCell | apply Below.alloc)); all_goals (first | omega | (simp; omega) | (simp; done))) hb1; obtain ⟨hc1, hf1⟩ := bcell hb1; have hz1 := hb1.size; (try simp at hz1); (try simp only [World.size_alloc] at hc1 hf1); have hy0 : W.heap.size < w1.heap.size := (by omega); have hy1 : W.heap.size + 1 < w1.heap.size := (by omega); have hy2 : W.heap.size + 1 + 1 < w1.heap.size := (by omega))))
    all_goals refine bodyPost_ret (v := .tuple #[vv (ofB (veq6 ka na sa ka nb sb)), .int .i64 0]) ?_ rfl ⟨rfl, ?_⟩
    any_goals (repeat' (first | assumption | exact Below.refl _ _ | apply Below.setCell | apply Below.alloc))
    any_goals (first | omega | (simp; omega) | (simp; done))
    all_goals (simp only [results, Try.results25]; go_simp)
    all_goals (first | done | exact ⟨rfl, rfl, rfl⟩ | rfl | exact ⟨rfl, rfl⟩)
  · show Calls _ _ _ _ fun e w' => e = .returned (.tuple #[vv (ofB (!veq6 ka na sa ka nb sb)), .int .i64 0]) ∧ _
    go_enter Try.func25, Try.ntmps25
    go_wp2_with (first | (go_at_call 41; ((with_reducible refine (HP.out _).mono ?_); rintro e w1 ⟨rfl, hb1⟩; have hB1 : Below W.heap.size W w1 := after (by (repeat' (first | assumption | exact Below.refl _ _ | apply Below.setCell | apply Below.alloc)); all_goals (first | omega | (simp; omega) | (simp; done))) hb1; obtain ⟨hc1, hf1⟩ := bcell hb1; have hz1 := hb1.size; (try simp at hz1); (try simp only [World.size_alloc] at hc1 hf1); have hy0 : W.heap.size < w1.heap.size := (by omega); have hy1 : W.heap.size + 1 < w1.heap.size := (by omega); have hy2 : W.heap.size + 1 + 1 < w1.heap.size := (by omega))) | (go_at_call 41; ((with_reducible refine (HQ.out _).mono ?_); rintro e w1 ⟨rfl, hb1⟩; have hB1 : Below W.heap.size W w1 := after (by (repeat' (first | assumption | exact Below.refl _ _ | apply Below.setCell | apply Below.alloc)); all_goals (first | omega | (simp; omega) | (simp; done))) hb1; obtain ⟨hc1, hf1⟩ := bcell hb1; have hz1 := hb1.size; (try simp at hz1); (try simp only [World.size_alloc] at hc1 hf1); have hy0 : W.heap.size < w1.heap.size := (by omega); have hy1 : W.heap.size + 1 < w1.heap.size := (by omega); have hy2 : W.heap.size + 1 + 1 < w1.heap.size := (by omega))) | (go_at_call 40; ((with_reducible refine (boolean_ref _ _).mono ?_); rintro e w1 ⟨rfl, hb1⟩; have hB1 : Below W.heap.size W w1 := after (by (repeat' (first | assumption | exact Below.refl _ _ | apply Below.setCell | apply Below.alloc)); all_goals (first | omega | (simp; omega) | (simp; done))) hb1; obtain ⟨hc1, hf1⟩ := bcell hb1; have hz1 := hb1.size; (try simp at hz1); (try simp only [World.size_alloc] at hc1 hf1); have hy0 : W.heap.size < w1.heap.size := (by omega); have hy1 : W.heap.size + 1 < w1.heap.size := (by omega); have hy2 : W.heap.size + 1 + 1 < w1.heap.size := (by omega))))
    all_goals refine bodyPost_ret (v := .tuple #[vv (ofB (!veq6 ka na sa ka nb sb)), .int .i64 0]) ?_ rfl ⟨rfl, ?_⟩
    any_goals (repeat' (first | assumption | exact Below.refl _ _ | apply Below.setCell | apply Below.alloc))
    any_goals (first | omega | (simp; omega) | (simp; done))
    all_goals (simp only [results, Try.results25]; go_simp)
    all_goals (first | done | exact ⟨rfl, rfl, rfl⟩ | rfl | exact ⟨rfl, rfl⟩)
  · show Calls _ _ _ _ fun e w' => e = .returned (.tuple #[vv (ofB (p)), .int .i64 0]) ∧ _
    go_enter Try.func25, Try.ntmps25
    go_wp2_with (first | (go_at_call 41; ((with_reducible refine (HP.out _).mono ?_); rintro e w1 ⟨rfl, hb1⟩; have hB1 : Below W.heap.size W w1 := after (by (repeat' (first | assumption | exact Below.refl _ _ | apply Below.setCell | apply Below.alloc)); all_goals (first | omega | (simp; omega) | (simp; done))) hb1; obtain ⟨hc1, hf1⟩ := bcell hb1; have hz1 := hb1.size; (try simp at hz1); (try simp only [World.size_alloc] at hc1 hf1); have hy0 : W.heap.size < w1.heap.size := (by omega); have hy1 : W.heap.size + 1 < w1.heap.size := (by omega); have hy2 : W.heap.size + 1 + 1 < w1.heap.size := (by omega))) | (go_at_call 41; ((with_reducible refine (HQ.out _).mono ?_); rintro e w1 ⟨rfl, hb1⟩; have hB1 : Below W.heap.size W w1 := after (by (repeat' (first | assumption | exact Below.refl _ _ | apply Below.setCell | apply Below.alloc)); all_goals (first | omega | (simp; omega) | (simp; done))) hb1; obtain ⟨hc1, hf1⟩ := bcell hb1; have hz1 := hb1.size; (try simp at hz1); (try simp only [World.size_alloc] at hc1 hf1); have hy0 : W.heap.size < w1.heap.size := (by omega); have hy1 : W.heap.size + 1 < w1.heap.size := (by omega); have hy2 : W.heap.size + 1 + 1 < w1.heap.size := (by omega))) | (go_at_call 40; ((with_reducible refine (boolean_ref _ _).mono ?_); rintro e w1 ⟨rfl, hb1⟩; have hB1 : Below W.heap.size W w1 := after (by (repeat' (first | assumption | exact Below.refl _ _ | apply Below.setCell | apply Below.alloc)); all_goals (first | omega | (simp; omega) | (simp; done))) hb1; obtain ⟨hc1, hf1⟩ := bcell hb1; have hz1 := hb1.size; (try simp at hz1); (try simp only [World.size_alloc] at hc1 hf1); have hy0 : W.heap.size < w1.heap.size := (by omega); have hy1 : W.heap.size + 1 < w1.heap.size := (by omega); have hy2 : W.heap.size + 1 + 1 < w1.heap.size := (by omega))))
    all_goals refine bodyPost_ret (v := .tuple #[vv (ofB (p)), .int .i64 0]) ?_ rfl ⟨rfl, ?_⟩
    any_goals (repeat' (first | assumption | exact Below.refl _ _ | apply Below.setCell | apply Below.alloc))
    any_goals (first | omega | (simp; omega) | (simp; done))
    all_goals (simp only [results, Try.results25]; go_simp)
    all_goals (first | done | exact ⟨rfl, rfl, rfl⟩ | rfl | exact ⟨rfl, rfl⟩)
  · show Calls _ _ _ _ fun e w' => e = .returned (.tuple #[vv (ofB (!q)), .int .i64 0]) ∧ _
    go_enter Try.func25, Try.ntmps25
    go_wp2_with (first | (go_at_call 41; ((with_reducible refine (HP.out _).mono ?_); rintro e w1 ⟨rfl, hb1⟩; have hB1 : Below W.heap.size W w1 := after (by (repeat' (first | assumption | exact Below.refl _ _ | apply Below.setCell | apply Below.alloc)); all_goals (first | omega | (simp; omega) | (simp; done))) hb1; obtain ⟨hc1, hf1⟩ := bcell hb1; have hz1 := hb1.size; (try simp at hz1); (try simp only [World.size_alloc] at hc1 hf1); have hy0 : W.heap.size < w1.heap.size := (by omega); have hy1 : W.heap.size + 1 < w1.heap.size := (by omega); have hy2 : W.heap.size + 1 + 1 < w1.heap.size := (by omega))) | (go_at_call 41; ((with_reducible refine (HQ.out _).mono ?_); rintro e w1 ⟨rfl, hb1⟩; have hB1 : Below W.heap.size W w1 := after (by (repeat' (first | assumption | exact Below.refl _ _ | apply Below.setCell | apply Below.alloc)); all_goals (first | omega | (simp; omega) | (simp; done))) hb1; obtain ⟨hc1, hf1⟩ := bcell hb1; have hz1 := hb1.size; (try simp at hz1); (try simp only [World.size_alloc] at hc1 hf1); have hy0 : W.heap.size < w1.heap.size := (by omega); have hy1 : W.heap.size + 1 < w1.heap.size := (by omega); have hy2 : W.heap.size + 1 + 1 < w1.heap.size := (by omega))) | (go_at_call 40; ((with_reducible refine (boolean_ref _ _).mono ?_); rintro e w1 ⟨rfl, hb1⟩; have hB1 : Below W.heap.size W w1 := after (by (repeat' (first | assumption | exact Below.refl _ _ | apply Below.setCell | apply Below.alloc)); all_goals (first | omega | (simp; omega) | (simp; done))) hb1; obtain ⟨hc1, hf1⟩ := bcell hb1; have hz1 := hb1.size; (try simp at hz1); (try simp only [World.size_alloc] at hc1 hf1); have hy0 : W.heap.size < w1.heap.size := (by omega); have hy1 : W.heap.size + 1 < w1.heap.size := (by omega); have hy2 : W.heap.size + 1 + 1 < w1.heap.size := (by omega))))
    all_goals refine bodyPost_ret (v := .tuple #[vv (ofB (!q)), .int .i64 0]) ?_ rfl ⟨rfl, ?_⟩
    any_goals (repeat' (first | assumption | exact Below.refl _ _ | apply Below.setCell | apply Below.alloc))
    any_goals (first | omega | (simp; omega) | (simp; done))
    all_goals (simp only [results, Try.results25]; go_simp)
    all_goals (first | done | exact ⟨rfl, rfl, rfl⟩ | rfl | exact ⟨rfl, rfl⟩)
  · show Calls _ _ _ _ fun e w' => e = .returned (.tuple #[vv (ofB (q)), .int .i64 0]) ∧ _
    go_enter Try.func25, Try.ntmps25
    go_wp2_with (first | (go_at_call 41; ((with_reducible refine (HP.out _).mono ?_); rintro e w1 ⟨rfl, hb1⟩; have hB1 : Below W.heap.size W w1 := after (by (repeat' (first | assumption | exact Below.refl _ _ | apply Below.setCell | apply Below.alloc)); all_goals (first | omega | (simp; omega) | (simp; done))) hb1; obtain ⟨hc1, hf1⟩ := bcell hb1; have hz1 := hb1.size; (try simp at hz1); (try simp only [World.size_alloc] at hc1 hf1); have hy0 : W.heap.size < w1.heap.size := (by omega); have hy1 : W.heap.size + 1 < w1.heap.size := (by omega); have hy2 : W.heap.size + 1 + 1 < w1.heap.size := (by omega))) | (go_at_call 41; ((with_reducible refine (HQ.out _).mono ?_); rintro e w1 ⟨rfl, hb1⟩; have hB1 : Below W.heap.size W w1 := after (by (repeat' (first | assumption | exact Below.refl _ _ | apply Below.setCell | apply Below.alloc)); all_goals (first | omega | (simp; omega) | (simp; done))) hb1; obtain ⟨hc1, hf1⟩ := bcell hb1; have hz1 := hb1.size; (try simp at hz1); (try simp only [World.size_alloc] at hc1 hf1); have hy0 : W.heap.size < w1.heap.size := (by omega); have hy1 : W.heap.size + 1 < w1.heap.size := (by omega); have hy2 : W.heap.size + 1 + 1 < w1.heap.size := (by omega))) | (go_at_call 40; ((with_reducible refine (boolean_ref _ _).mono ?_); rintro e w1 ⟨rfl, hb1⟩; have hB1 : Below W.heap.size W w1 := after (by (repeat' (first | assumption | exact Below.refl _ _ | apply Below.setCell | apply Below.alloc)); all_goals (first | omega | (simp; omega) | (simp; done))) hb1; obtain ⟨hc1, hf1⟩ := bcell hb1; have hz1 := hb1.size; (try simp at hz1); (try simp only [World.size_alloc] at hc1 hf1); have hy0 : W.heap.size < w1.heap.size := (by omega); have hy1 : W.heap.size + 1 < w1.heap.size := (by omega); have hy2 : W.heap.size + 1 + 1 < w1.heap.size := (by omega))))
    all_goals refine bodyPost_ret (v := .tuple #[vv (ofB (q)), .int .i64 0]) ?_ rfl ⟨rfl, ?_⟩
    any_goals (repeat' (first | assumption | exact Below.refl _ _ | apply Below.setCell | apply Below.alloc))
    any_goals (first | omega | (simp; omega) | (simp; done))
    all_goals (simp only [results, Try.results25]; go_simp)
    all_goals (first | done | exact ⟨rfl, rfl, rfl⟩ | rfl | exact ⟨rfl, rfl⟩)
  · show Calls _ _ _ _ fun e w' => e = .returned (.tuple #[vv (ofB (!p)), .int .i64 0]) ∧ _
    go_enter Try.func25, Try.ntmps25
    go_wp2_with (first | (go_at_call 41; ((with_reducible refine (HP.out _).mono ?_); rintro e w1 ⟨rfl, hb1⟩; have hB1 : Below W.heap.size W w1 := after (by (repeat' (first | assumption | exact Below.refl _ _ | apply Below.setCell | apply Below.alloc)); all_goals (first | omega | (simp; omega) | (simp; done))) hb1; obtain ⟨hc1, hf1⟩ := bcell hb1; have hz1 := hb1.size; (try simp at hz1); (try simp only [World.size_alloc] at hc1 hf1); have hy0 : W.heap.size < w1.heap.size := (by omega); have hy1 : W.heap.size + 1 < w1.heap.size := (by omega); have hy2 : W.heap.size + 1 + 1 < w1.heap.size := (by omega))) | (go_at_call 41; ((with_reducible refine (HQ.out _).mono ?_); rintro e w1 ⟨rfl, hb1⟩; have hB1 : Below W.heap.size W w1 := after (by (repeat' (first | assumption | exact Below.refl _ _ | apply Below.setCell | apply Below.alloc)); all_goals (first | omega | (simp; omega) | (simp; done))) hb1; obtain ⟨hc1, hf1⟩ := bcell hb1; have hz1 := hb1.size; (try simp at hz1); (try simp only [World.size_alloc] at hc1 hf1); have hy0 : W.heap.size < w1.heap.size := (by omega); have hy1 : W.heap.size + 1 < w1.heap.size := (by omega); have hy2 : W.heap.size + 1 + 1 < w1.heap.size := (by omega))) | (go_at_call 40; ((with_reducible refine (boolean_ref _ _).mono ?_); rintro e w1 ⟨rfl, hb1⟩; have hB1 : Below W.heap.size W w1 := after (by (repeat' (first | assumption | exact Below.refl _ _ | apply Below.setCell | apply Below.alloc)); all_goals (first | omega | (simp; omega) | (simp; done))) hb1; obtain ⟨hc1, hf1⟩ := bcell hb1; have hz1 := hb1.size; (try simp at hz1); (try simp only [World.size_alloc] at hc1 hf1); have hy0 : W.heap.size < w1.heap.size := (by omega); have hy1 : W.heap.size + 1 < w1.heap.size := (by omega); have hy2 : W.heap.size + 1 + 1 < w1.heap.size := (by omega))))
    all_goals refine bodyPost_ret (v := .tuple #[vv (ofB (!p)), .int .i64 0]) ?_ rfl ⟨rfl, ?_⟩
    any_goals (repeat' (first | assumption | exact Below.refl _ _ | apply Below.setCell | apply Below.alloc))
    any_goals (first | omega | (simp; omega) | (simp; done))
    all_goals (simp only [results, Try.results25]; go_simp)
    all_goals (first | done | exact ⟨rfl, rfl, rfl⟩ | rfl | exact ⟨rfl, rfl⟩)
end Go.Proofs.Ytjnlimahcodomaa.val
/- The document's operators on values, walked. -/
namespace Go.Proofs.Ytjnlimahcodomaa.val
set_option linter.unusedVariables false
open Go.RowKit
attribute [local go_sem high] run_eqR run_neR
set_option maxRecDepth 100000 in
set_option maxHeartbeats 4000000 in
theorem ref_logic13 (ka na kb nb : Int) (sa sb : ByteArray) (W : World) (hf : fitB 13 ka kb = true) : Calls Try.prog 25 #[.int .i64 13, ag3 ka na sa, ag3 kb nb sb] W fun e w' => e = .returned (.tuple #[vv (doV 13 ⟨ka, na, sa⟩ ⟨kb, nb, sb⟩).1, .int .i64 (doV 13 ⟨ka, na, sa⟩ ⟨kb, nb, sb⟩).2]) ∧ Below W.heap.size W w' := by
  have E : doV 13 ⟨ka, na, sa⟩ ⟨kb, nb, sb⟩ = (logicV 13 ⟨ka, na, sa⟩ ⟨kb, nb, sb⟩, 0) := by unfold doV; rw [if_neg (by decide), if_neg (by rw [hf]; decide), if_pos (by decide)]
  rw [E]
  clear E
  have hk : (ka = 0 ∨ ka = 1) ∧ (kb = 0 ∨ kb = 1) := by unfold fitB at hf; simp at hf; omega
  clear hf
  have hx : veq6 ka na sa (ofB false).k (ofB false).n (ofB false).s = veq ⟨ka, na, sa⟩ (ofB ((13 : Int) == 14)) := rfl
  have hy : veq6 kb nb sb (ofB false).k (ofB false).n (ofB false).s = veq ⟨kb, nb, sb⟩ (ofB ((13 : Int) == 14)) := rfl
  have L1 := @logic_yes 13 ⟨ka, na, sa⟩ ⟨kb, nb, sb⟩
  have L2 := @logic_null 13 ⟨ka, na, sa⟩ ⟨kb, nb, sb⟩
  have L3 := @logic_rest 13 ⟨ka, na, sa⟩ ⟨kb, nb, sb⟩
  rw [← hx, ← hy] at L1 L2 L3
  clear hx hy
  obtain ⟨⟨hka, hkb⟩⟩ : Nonempty ((ka = 0 ∨ ka = 1) ∧ (kb = 0 ∨ kb = 1)) := ⟨hk⟩
  clear hk
  cases X : veq6 ka na sa (ofB false).k (ofB false).n (ofB false).s
  · cases Y : veq6 kb nb sb (ofB false).k (ofB false).n (ofB false).s
    · by_cases hn : ka = 0 ∨ kb = 0
      · rw [L2 (by rw [X]; decide) Y hn]
        clear L1 L2 L3
        rcases hka with rfl | rfl
        · rcases hkb with rfl | rfl
          · skip
            go_enter Try.func25, Try.ntmps25
            go_wp2_with (first | (go_at_call 40; ((with_reducible refine (boolean_ref _ _).mono ?_); rintro e w1 ⟨rfl, hb1⟩; have hB1 : Below W.heap.size W w1 := after (by (repeat' (first | assumption | exact Below.refl _ _ | apply Below.setCell | apply Below.alloc)); all_goals (first | omega | (simp; omega) | (simp; done))) hb1; obtain ⟨hc1, hf1⟩ := bcell hb1; have hz1 := hb1.size; (try simp at hz1); (try simp only [World.size_alloc] at hc1 hf1); have hy0 : W.heap.size < w1.heap.size := (by omega); have hy1 : W.heap.size + 1 < w1.heap.size := (by omega); have hy2 : W.heap.size + 1 + 1 < w1.heap.size := (by omega))))
            all_goals refine bodyPost_ret (v := .tuple #[vv null, .int .i64 0]) ?_ rfl ⟨rfl, ?_⟩
            any_goals (repeat' (first | assumption | exact Below.refl _ _ | apply Below.setCell | apply Below.alloc))
            any_goals (first | omega | (simp; omega) | (simp; done))
            all_goals (simp only [results, Try.results25]; go_simp)
            all_goals (first | done | exact ⟨rfl, rfl, rfl⟩ | rfl | exact ⟨rfl, rfl⟩)
          · skip
            go_enter Try.func25, Try.ntmps25
            go_wp2_with (first | (go_at_call 40; ((with_reducible refine (boolean_ref _ _).mono ?_); rintro e w1 ⟨rfl, hb1⟩; have hB1 : Below W.heap.size W w1 := after (by (repeat' (first | assumption | exact Below.refl _ _ | apply Below.setCell | apply Below.alloc)); all_goals (first | omega | (simp; omega) | (simp; done))) hb1; obtain ⟨hc1, hf1⟩ := bcell hb1; have hz1 := hb1.size; (try simp at hz1); (try simp only [World.size_alloc] at hc1 hf1); have hy0 : W.heap.size < w1.heap.size := (by omega); have hy1 : W.heap.size + 1 < w1.heap.size := (by omega); have hy2 : W.heap.size + 1 + 1 < w1.heap.size := (by omega))))
            all_goals refine bodyPost_ret (v := .tuple #[vv null, .int .i64 0]) ?_ rfl ⟨rfl, ?_⟩
            any_goals (repeat' (first | assumption | exact Below.refl _ _ | apply Below.setCell | apply Below.alloc))
            any_goals (first | omega | (simp; omega) | (simp; done))
            all_goals (simp only [results, Try.results25]; go_simp)
            all_goals (first | done | exact ⟨rfl, rfl, rfl⟩ | rfl | exact ⟨rfl, rfl⟩)
        · obtain rfl : kb = 0 := by omega
          go_enter Try.func25, Try.ntmps25
          go_wp2_with (first | (go_at_call 40; ((with_reducible refine (boolean_ref _ _).mono ?_); rintro e w1 ⟨rfl, hb1⟩; have hB1 : Below W.heap.size W w1 := after (by (repeat' (first | assumption | exact Below.refl _ _ | apply Below.setCell | apply Below.alloc)); all_goals (first | omega | (simp; omega) | (simp; done))) hb1; obtain ⟨hc1, hf1⟩ := bcell hb1; have hz1 := hb1.size; (try simp at hz1); (try simp only [World.size_alloc] at hc1 hf1); have hy0 : W.heap.size < w1.heap.size := (by omega); have hy1 : W.heap.size + 1 < w1.heap.size := (by omega); have hy2 : W.heap.size + 1 + 1 < w1.heap.size := (by omega))))
          all_goals refine bodyPost_ret (v := .tuple #[vv null, .int .i64 0]) ?_ rfl ⟨rfl, ?_⟩
          any_goals (repeat' (first | assumption | exact Below.refl _ _ | apply Below.setCell | apply Below.alloc))
          any_goals (first | omega | (simp; omega) | (simp; done))
          all_goals (simp only [results, Try.results25]; go_simp)
          all_goals (first | done | exact ⟨rfl, rfl, rfl⟩ | rfl | exact ⟨rfl, rfl⟩)
      · rw [L3 (by rw [X]; decide) Y hn]
        clear L1 L2 L3
        obtain rfl : ka = 1 := by omega
        obtain rfl : kb = 1 := by omega
        show Calls _ _ _ _ fun e w' => e = .returned (.tuple #[vv (ofB true), .int .i64 0]) ∧ _
        go_enter Try.func25, Try.ntmps25
        go_wp2_with (first | (go_at_call 40; ((with_reducible refine (boolean_ref _ _).mono ?_); rintro e w1 ⟨rfl, hb1⟩; have hB1 : Below W.heap.size W w1 := after (by (repeat' (first | assumption | exact Below.refl _ _ | apply Below.setCell | apply Below.alloc)); all_goals (first | omega | (simp; omega) | (simp; done))) hb1; obtain ⟨hc1, hf1⟩ := bcell hb1; have hz1 := hb1.size; (try simp at hz1); (try simp only [World.size_alloc] at hc1 hf1); have hy0 : W.heap.size < w1.heap.size := (by omega); have hy1 : W.heap.size + 1 < w1.heap.size := (by omega); have hy2 : W.heap.size + 1 + 1 < w1.heap.size := (by omega))))
        all_goals refine bodyPost_ret (v := .tuple #[vv (ofB true), .int .i64 0]) ?_ rfl ⟨rfl, ?_⟩
        any_goals (repeat' (first | assumption | exact Below.refl _ _ | apply Below.setCell | apply Below.alloc))
        any_goals (first | omega | (simp; omega) | (simp; done))
        all_goals (simp only [results, Try.results25]; go_simp)
        all_goals (first | done | exact ⟨rfl, rfl, rfl⟩ | rfl | exact ⟨rfl, rfl⟩)
    · rw [L1 (.inr Y)]
      clear L1 L2 L3
      show Calls _ _ _ _ fun e w' => e = .returned (.tuple #[vv (ofB false), .int .i64 0]) ∧ _
      rcases hka with rfl | rfl <;> rcases hkb with rfl | rfl
      · skip
        go_enter Try.func25, Try.ntmps25
        go_wp2_with (first | (go_at_call 40; ((with_reducible refine (boolean_ref _ _).mono ?_); rintro e w1 ⟨rfl, hb1⟩; have hB1 : Below W.heap.size W w1 := after (by (repeat' (first | assumption | exact Below.refl _ _ | apply Below.setCell | apply Below.alloc)); all_goals (first | omega | (simp; omega) | (simp; done))) hb1; obtain ⟨hc1, hf1⟩ := bcell hb1; have hz1 := hb1.size; (try simp at hz1); (try simp only [World.size_alloc] at hc1 hf1); have hy0 : W.heap.size < w1.heap.size := (by omega); have hy1 : W.heap.size + 1 < w1.heap.size := (by omega); have hy2 : W.heap.size + 1 + 1 < w1.heap.size := (by omega))))
        all_goals refine bodyPost_ret (v := .tuple #[vv (ofB false), .int .i64 0]) ?_ rfl ⟨rfl, ?_⟩
        any_goals (repeat' (first | assumption | exact Below.refl _ _ | apply Below.setCell | apply Below.alloc))
        any_goals (first | omega | (simp; omega) | (simp; done))
        all_goals (simp only [results, Try.results25]; go_simp)
        all_goals (first | done | exact ⟨rfl, rfl, rfl⟩ | rfl | exact ⟨rfl, rfl⟩)
      · skip
        go_enter Try.func25, Try.ntmps25
        go_wp2_with (first | (go_at_call 40; ((with_reducible refine (boolean_ref _ _).mono ?_); rintro e w1 ⟨rfl, hb1⟩; have hB1 : Below W.heap.size W w1 := after (by (repeat' (first | assumption | exact Below.refl _ _ | apply Below.setCell | apply Below.alloc)); all_goals (first | omega | (simp; omega) | (simp; done))) hb1; obtain ⟨hc1, hf1⟩ := bcell hb1; have hz1 := hb1.size; (try simp at hz1); (try simp only [World.size_alloc] at hc1 hf1); have hy0 : W.heap.size < w1.heap.size := (by omega); have hy1 : W.heap.size + 1 < w1.heap.size := (by omega); have hy2 : W.heap.size + 1 + 1 < w1.heap.size := (by omega))))
        all_goals refine bodyPost_ret (v := .tuple #[vv (ofB false), .int .i64 0]) ?_ rfl ⟨rfl, ?_⟩
        any_goals (repeat' (first | assumption | exact Below.refl _ _ | apply Below.setCell | apply Below.alloc))
        any_goals (first | omega | (simp; omega) | (simp; done))
        all_goals (simp only [results, Try.results25]; go_simp)
        all_goals (first | done | exact ⟨rfl, rfl, rfl⟩ | rfl | exact ⟨rfl, rfl⟩)
      · skip
        go_enter Try.func25, Try.ntmps25
        go_wp2_with (first | (go_at_call 40; ((with_reducible refine (boolean_ref _ _).mono ?_); rintro e w1 ⟨rfl, hb1⟩; have hB1 : Below W.heap.size W w1 := after (by (repeat' (first | assumption | exact Below.refl _ _ | apply Below.setCell | apply Below.alloc)); all_goals (first | omega | (simp; omega) | (simp; done))) hb1; obtain ⟨hc1, hf1⟩ := bcell hb1; have hz1 := hb1.size; (try simp at hz1); (try simp only [World.size_alloc] at hc1 hf1); have hy0 : W.heap.size < w1.heap.size := (by omega); have hy1 : W.heap.size + 1 < w1.heap.size := (by omega); have hy2 : W.heap.size + 1 + 1 < w1.heap.size := (by omega))))
        all_goals refine bodyPost_ret (v := .tuple #[vv (ofB false), .int .i64 0]) ?_ rfl ⟨rfl, ?_⟩
        any_goals (repeat' (first | assumption | exact Below.refl _ _ | apply Below.setCell | apply Below.alloc))
        any_goals (first | omega | (simp; omega) | (simp; done))
        all_goals (simp only [results, Try.results25]; go_simp)
        all_goals (first | done | exact ⟨rfl, rfl, rfl⟩ | rfl | exact ⟨rfl, rfl⟩)
      · skip
        go_enter Try.func25, Try.ntmps25
        go_wp2_with (first | (go_at_call 40; ((with_reducible refine (boolean_ref _ _).mono ?_); rintro e w1 ⟨rfl, hb1⟩; have hB1 : Below W.heap.size W w1 := after (by (repeat' (first | assumption | exact Below.refl _ _ | apply Below.setCell | apply Below.alloc)); all_goals (first | omega | (simp; omega) | (simp; done))) hb1; obtain ⟨hc1, hf1⟩ := bcell hb1; have hz1 := hb1.size; (try simp at hz1); (try simp only [World.size_alloc] at hc1 hf1); have hy0 : W.heap.size < w1.heap.size := (by omega); have hy1 : W.heap.size + 1 < w1.heap.size := (by omega); have hy2 : W.heap.size + 1 + 1 < w1.heap.size := (by omega))))
        all_goals refine bodyPost_ret (v := .tuple #[vv (ofB false), .int .i64 0]) ?_ rfl ⟨rfl, ?_⟩
        any_goals (repeat' (first | assumption | exact Below.refl _ _ | apply Below.setCell | apply Below.alloc))
        any_goals (first | omega | (simp; omega) | (simp; done))
        all_goals (simp only [results, Try.results25]; go_simp)
        all_goals (first | done | exact ⟨rfl, rfl, rfl⟩ | rfl | exact ⟨rfl, rfl⟩)
  · rw [L1 (.inl X)]
    clear L1 L2 L3
    show Calls _ _ _ _ fun e w' => e = .returned (.tuple #[vv (ofB false), .int .i64 0]) ∧ _
    rcases hka with rfl | rfl <;> rcases hkb with rfl | rfl
    · skip
      go_enter Try.func25, Try.ntmps25
      go_wp2_with (first | (go_at_call 40; ((with_reducible refine (boolean_ref _ _).mono ?_); rintro e w1 ⟨rfl, hb1⟩; have hB1 : Below W.heap.size W w1 := after (by (repeat' (first | assumption | exact Below.refl _ _ | apply Below.setCell | apply Below.alloc)); all_goals (first | omega | (simp; omega) | (simp; done))) hb1; obtain ⟨hc1, hf1⟩ := bcell hb1; have hz1 := hb1.size; (try simp at hz1); (try simp only [World.size_alloc] at hc1 hf1); have hy0 : W.heap.size < w1.heap.size := (by omega); have hy1 : W.heap.size + 1 < w1.heap.size := (by omega); have hy2 : W.heap.size + 1 + 1 < w1.heap.size := (by omega))))
      all_goals refine bodyPost_ret (v := .tuple #[vv (ofB false), .int .i64 0]) ?_ rfl ⟨rfl, ?_⟩
      any_goals (repeat' (first | assumption | exact Below.refl _ _ | apply Below.setCell | apply Below.alloc))
      any_goals (first | omega | (simp; omega) | (simp; done))
      all_goals (simp only [results, Try.results25]; go_simp)
      all_goals (first | done | exact ⟨rfl, rfl, rfl⟩ | rfl | exact ⟨rfl, rfl⟩)
    · skip
      go_enter Try.func25, Try.ntmps25
      go_wp2_with (first | (go_at_call 40; ((with_reducible refine (boolean_ref _ _).mono ?_); rintro e w1 ⟨rfl, hb1⟩; have hB1 : Below W.heap.size W w1 := after (by (repeat' (first | assumption | exact Below.refl _ _ | apply Below.setCell | apply Below.alloc)); all_goals (first | omega | (simp; omega) | (simp; done))) hb1; obtain ⟨hc1, hf1⟩ := bcell hb1; have hz1 := hb1.size; (try simp at hz1); (try simp only [World.size_alloc] at hc1 hf1); have hy0 : W.heap.size < w1.heap.size := (by omega); have hy1 : W.heap.size + 1 < w1.heap.size := (by omega); have hy2 : W.heap.size + 1 + 1 < w1.heap.size := (by omega))))
      all_goals refine bodyPost_ret (v := .tuple #[vv (ofB false), .int .i64 0]) ?_ rfl ⟨rfl, ?_⟩
      any_goals (repeat' (first | assumption | exact Below.refl _ _ | apply Below.setCell | apply Below.alloc))
      any_goals (first | omega | (simp; omega) | (simp; done))
      all_goals (simp only [results, Try.results25]; go_simp)
      all_goals (first | done | exact ⟨rfl, rfl, rfl⟩ | rfl | exact ⟨rfl, rfl⟩)
    · skip
      go_enter Try.func25, Try.ntmps25
      go_wp2_with (first | (go_at_call 40; ((with_reducible refine (boolean_ref _ _).mono ?_); rintro e w1 ⟨rfl, hb1⟩; have hB1 : Below W.heap.size W w1 := after (by (repeat' (first | assumption | exact Below.refl _ _ | apply Below.setCell | apply Below.alloc)); all_goals (first | omega | (simp; omega) | (simp; done))) hb1; obtain ⟨hc1, hf1⟩ := bcell hb1; have hz1 := hb1.size; (try simp at hz1); (try simp only [World.size_alloc] at hc1 hf1); have hy0 : W.heap.size < w1.heap.size := (by omega); have hy1 : W.heap.size + 1 < w1.heap.size := (by omega); have hy2 : W.heap.size + 1 + 1 < w1.heap.size := (by omega))))
      all_goals refine bodyPost_ret (v := .tuple #[vv (ofB false), .int .i64 0]) ?_ rfl ⟨rfl, ?_⟩
      any_goals (repeat' (first | assumption | exact Below.refl _ _ | apply Below.setCell | apply Below.alloc))
      any_goals (first | omega | (simp; omega) | (simp; done))
      all_goals (simp only [results, Try.results25]; go_simp)
      all_goals (first | done | exact ⟨rfl, rfl, rfl⟩ | rfl | exact ⟨rfl, rfl⟩)
    · skip
      go_enter Try.func25, Try.ntmps25
      go_wp2_with (first | (go_at_call 40; ((with_reducible refine (boolean_ref _ _).mono ?_); rintro e w1 ⟨rfl, hb1⟩; have hB1 : Below W.heap.size W w1 := after (by (repeat' (first | assumption | exact Below.refl _ _ | apply Below.setCell | apply Below.alloc)); all_goals (first | omega | (simp; omega) | (simp; done))) hb1; obtain ⟨hc1, hf1⟩ := bcell hb1; have hz1 := hb1.size; (try simp at hz1); (try simp only [World.size_alloc] at hc1 hf1); have hy0 : W.heap.size < w1.heap.size := (by omega); have hy1 : W.heap.size + 1 < w1.heap.size := (by omega); have hy2 : W.heap.size + 1 + 1 < w1.heap.size := (by omega))))
      all_goals refine bodyPost_ret (v := .tuple #[vv (ofB false), .int .i64 0]) ?_ rfl ⟨rfl, ?_⟩
      any_goals (repeat' (first | assumption | exact Below.refl _ _ | apply Below.setCell | apply Below.alloc))
      any_goals (first | omega | (simp; omega) | (simp; done))
      all_goals (simp only [results, Try.results25]; go_simp)
      all_goals (first | done | exact ⟨rfl, rfl, rfl⟩ | rfl | exact ⟨rfl, rfl⟩)
set_option maxRecDepth 100000 in
set_option maxHeartbeats 4000000 in
theorem ref_logic14 (ka na kb nb : Int) (sa sb : ByteArray) (W : World) (hf : fitB 14 ka kb = true) : Calls Try.prog 25 #[.int .i64 14, ag3 ka na sa, ag3 kb nb sb] W fun e w' => e = .returned (.tuple #[vv (doV 14 ⟨ka, na, sa⟩ ⟨kb, nb, sb⟩).1, .int .i64 (doV 14 ⟨ka, na, sa⟩ ⟨kb, nb, sb⟩).2]) ∧ Below W.heap.size W w' := by
  have E : doV 14 ⟨ka, na, sa⟩ ⟨kb, nb, sb⟩ = (logicV 14 ⟨ka, na, sa⟩ ⟨kb, nb, sb⟩, 0) := by unfold doV; rw [if_neg (by decide), if_neg (by rw [hf]; decide), if_pos (by decide)]
  rw [E]
  clear E
  have hk : (ka = 0 ∨ ka = 1) ∧ (kb = 0 ∨ kb = 1) := by unfold fitB at hf; simp at hf; omega
  clear hf
  have hx : veq6 ka na sa (ofB true).k (ofB true).n (ofB true).s = veq ⟨ka, na, sa⟩ (ofB ((14 : Int) == 14)) := rfl
  have hy : veq6 kb nb sb (ofB true).k (ofB true).n (ofB true).s = veq ⟨kb, nb, sb⟩ (ofB ((14 : Int) == 14)) := rfl
  have L1 := @logic_yes 14 ⟨ka, na, sa⟩ ⟨kb, nb, sb⟩
  have L2 := @logic_null 14 ⟨ka, na, sa⟩ ⟨kb, nb, sb⟩
  have L3 := @logic_rest 14 ⟨ka, na, sa⟩ ⟨kb, nb, sb⟩
  rw [← hx, ← hy] at L1 L2 L3
  clear hx hy
  obtain ⟨⟨hka, hkb⟩⟩ : Nonempty ((ka = 0 ∨ ka = 1) ∧ (kb = 0 ∨ kb = 1)) := ⟨hk⟩
  clear hk
  cases X : veq6 ka na sa (ofB true).k (ofB true).n (ofB true).s
  · cases Y : veq6 kb nb sb (ofB true).k (ofB true).n (ofB true).s
    · by_cases hn : ka = 0 ∨ kb = 0
      · rw [L2 (by rw [X]; decide) Y hn]
        clear L1 L2 L3
        rcases hka with rfl | rfl
        · rcases hkb with rfl | rfl
          · skip
            go_enter Try.func25, Try.ntmps25
            go_wp2_with (first | (go_at_call 40; ((with_reducible refine (boolean_ref _ _).mono ?_); rintro e w1 ⟨rfl, hb1⟩; have hB1 : Below W.heap.size W w1 := after (by (repeat' (first | assumption | exact Below.refl _ _ | apply Below.setCell | apply Below.alloc)); all_goals (first | omega | (simp; omega) | (simp; done))) hb1; obtain ⟨hc1, hf1⟩ := bcell hb1; have hz1 := hb1.size; (try simp at hz1); (try simp only [World.size_alloc] at hc1 hf1); have hy0 : W.heap.size < w1.heap.size := (by omega); have hy1 : W.heap.size + 1 < w1.heap.size := (by omega); have hy2 : W.heap.size + 1 + 1 < w1.heap.size := (by omega))))
            all_goals refine bodyPost_ret (v := .tuple #[vv null, .int .i64 0]) ?_ rfl ⟨rfl, ?_⟩
            any_goals (repeat' (first | assumption | exact Below.refl _ _ | apply Below.setCell | apply Below.alloc))
            any_goals (first | omega | (simp; omega) | (simp; done))
            all_goals (simp only [results, Try.results25]; go_simp)
            all_goals (first | done | exact ⟨rfl, rfl, rfl⟩ | rfl | exact ⟨rfl, rfl⟩)
          · skip
            go_enter Try.func25, Try.ntmps25
            go_wp2_with (first | (go_at_call 40; ((with_reducible refine (boolean_ref _ _).mono ?_); rintro e w1 ⟨rfl, hb1⟩; have hB1 : Below W.heap.size W w1 := after (by (repeat' (first | assumption | exact Below.refl _ _ | apply Below.setCell | apply Below.alloc)); all_goals (first | omega | (simp; omega) | (simp; done))) hb1; obtain ⟨hc1, hf1⟩ := bcell hb1; have hz1 := hb1.size; (try simp at hz1); (try simp only [World.size_alloc] at hc1 hf1); have hy0 : W.heap.size < w1.heap.size := (by omega); have hy1 : W.heap.size + 1 < w1.heap.size := (by omega); have hy2 : W.heap.size + 1 + 1 < w1.heap.size := (by omega))))
            all_goals refine bodyPost_ret (v := .tuple #[vv null, .int .i64 0]) ?_ rfl ⟨rfl, ?_⟩
            any_goals (repeat' (first | assumption | exact Below.refl _ _ | apply Below.setCell | apply Below.alloc))
            any_goals (first | omega | (simp; omega) | (simp; done))
            all_goals (simp only [results, Try.results25]; go_simp)
            all_goals (first | done | exact ⟨rfl, rfl, rfl⟩ | rfl | exact ⟨rfl, rfl⟩)
        · obtain rfl : kb = 0 := by omega
          go_enter Try.func25, Try.ntmps25
          go_wp2_with (first | (go_at_call 40; ((with_reducible refine (boolean_ref _ _).mono ?_); rintro e w1 ⟨rfl, hb1⟩; have hB1 : Below W.heap.size W w1 := after (by (repeat' (first | assumption | exact Below.refl _ _ | apply Below.setCell | apply Below.alloc)); all_goals (first | omega | (simp; omega) | (simp; done))) hb1; obtain ⟨hc1, hf1⟩ := bcell hb1; have hz1 := hb1.size; (try simp at hz1); (try simp only [World.size_alloc] at hc1 hf1); have hy0 : W.heap.size < w1.heap.size := (by omega); have hy1 : W.heap.size + 1 < w1.heap.size := (by omega); have hy2 : W.heap.size + 1 + 1 < w1.heap.size := (by omega))))
          all_goals refine bodyPost_ret (v := .tuple #[vv null, .int .i64 0]) ?_ rfl ⟨rfl, ?_⟩
          any_goals (repeat' (first | assumption | exact Below.refl _ _ | apply Below.setCell | apply Below.alloc))
          any_goals (first | omega | (simp; omega) | (simp; done))
          all_goals (simp only [results, Try.results25]; go_simp)
          all_goals (first | done | exact ⟨rfl, rfl, rfl⟩ | rfl | exact ⟨rfl, rfl⟩)
      · rw [L3 (by rw [X]; decide) Y hn]
        clear L1 L2 L3
        obtain rfl : ka = 1 := by omega
        obtain rfl : kb = 1 := by omega
        show Calls _ _ _ _ fun e w' => e = .returned (.tuple #[vv (ofB false), .int .i64 0]) ∧ _
        go_enter Try.func25, Try.ntmps25
        go_wp2_with (first | (go_at_call 40; ((with_reducible refine (boolean_ref _ _).mono ?_); rintro e w1 ⟨rfl, hb1⟩; have hB1 : Below W.heap.size W w1 := after (by (repeat' (first | assumption | exact Below.refl _ _ | apply Below.setCell | apply Below.alloc)); all_goals (first | omega | (simp; omega) | (simp; done))) hb1; obtain ⟨hc1, hf1⟩ := bcell hb1; have hz1 := hb1.size; (try simp at hz1); (try simp only [World.size_alloc] at hc1 hf1); have hy0 : W.heap.size < w1.heap.size := (by omega); have hy1 : W.heap.size + 1 < w1.heap.size := (by omega); have hy2 : W.heap.size + 1 + 1 < w1.heap.size := (by omega))))
        all_goals refine bodyPost_ret (v := .tuple #[vv (ofB false), .int .i64 0]) ?_ rfl ⟨rfl, ?_⟩
        any_goals (repeat' (first | assumption | exact Below.refl _ _ | apply Below.setCell | apply Below.alloc))
        any_goals (first | omega | (simp; omega) | (simp; done))
        all_goals (simp only [results, Try.results25]; go_simp)
        all_goals (first | done | exact ⟨rfl, rfl, rfl⟩ | rfl | exact ⟨rfl, rfl⟩)
    · rw [L1 (.inr Y)]
      clear L1 L2 L3
      show Calls _ _ _ _ fun e w' => e = .returned (.tuple #[vv (ofB true), .int .i64 0]) ∧ _
      rcases hka with rfl | rfl <;> rcases hkb with rfl | rfl
      · skip
        go_enter Try.func25, Try.ntmps25
        go_wp2_with (first | (go_at_call 40; ((with_reducible refine (boolean_ref _ _).mono ?_); rintro e w1 ⟨rfl, hb1⟩; have hB1 : Below W.heap.size W w1 := after (by (repeat' (first | assumption | exact Below.refl _ _ | apply Below.setCell | apply Below.alloc)); all_goals (first | omega | (simp; omega) | (simp; done))) hb1; obtain ⟨hc1, hf1⟩ := bcell hb1; have hz1 := hb1.size; (try simp at hz1); (try simp only [World.size_alloc] at hc1 hf1); have hy0 : W.heap.size < w1.heap.size := (by omega); have hy1 : W.heap.size + 1 < w1.heap.size := (by omega); have hy2 : W.heap.size + 1 + 1 < w1.heap.size := (by omega))))
        all_goals refine bodyPost_ret (v := .tuple #[vv (ofB true), .int .i64 0]) ?_ rfl ⟨rfl, ?_⟩
        any_goals (repeat' (first | assumption | exact Below.refl _ _ | apply Below.setCell | apply Below.alloc))
        any_goals (first | omega | (simp; omega) | (simp; done))
        all_goals (simp only [results, Try.results25]; go_simp)
        all_goals (first | done | exact ⟨rfl, rfl, rfl⟩ | rfl | exact ⟨rfl, rfl⟩)
      · skip
        go_enter Try.func25, Try.ntmps25
        go_wp2_with (first | (go_at_call 40; ((with_reducible refine (boolean_ref _ _).mono ?_); rintro e w1 ⟨rfl, hb1⟩; have hB1 : Below W.heap.size W w1 := after (by (repeat' (first | assumption | exact Below.refl _ _ | apply Below.setCell | apply Below.alloc)); all_goals (first | omega | (simp; omega) | (simp; done))) hb1; obtain ⟨hc1, hf1⟩ := bcell hb1; have hz1 := hb1.size; (try simp at hz1); (try simp only [World.size_alloc] at hc1 hf1); have hy0 : W.heap.size < w1.heap.size := (by omega); have hy1 : W.heap.size + 1 < w1.heap.size := (by omega); have hy2 : W.heap.size + 1 + 1 < w1.heap.size := (by omega))))
        all_goals refine bodyPost_ret (v := .tuple #[vv (ofB true), .int .i64 0]) ?_ rfl ⟨rfl, ?_⟩
        any_goals (repeat' (first | assumption | exact Below.refl _ _ | apply Below.setCell | apply Below.alloc))
        any_goals (first | omega | (simp; omega) | (simp; done))
        all_goals (simp only [results, Try.results25]; go_simp)
        all_goals (first | done | exact ⟨rfl, rfl, rfl⟩ | rfl | exact ⟨rfl, rfl⟩)
      · skip
        go_enter Try.func25, Try.ntmps25
        go_wp2_with (first | (go_at_call 40; ((with_reducible refine (boolean_ref _ _).mono ?_); rintro e w1 ⟨rfl, hb1⟩; have hB1 : Below W.heap.size W w1 := after (by (repeat' (first | assumption | exact Below.refl _ _ | apply Below.setCell | apply Below.alloc)); all_goals (first | omega | (simp; omega) | (simp; done))) hb1; obtain ⟨hc1, hf1⟩ := bcell hb1; have hz1 := hb1.size; (try simp at hz1); (try simp only [World.size_alloc] at hc1 hf1); have hy0 : W.heap.size < w1.heap.size := (by omega); have hy1 : W.heap.size + 1 < w1.heap.size := (by omega); have hy2 : W.heap.size + 1 + 1 < w1.heap.size := (by omega))))
        all_goals refine bodyPost_ret (v := .tuple #[vv (ofB true), .int .i64 0]) ?_ rfl ⟨rfl, ?_⟩
        any_goals (repeat' (first | assumption | exact Below.refl _ _ | apply Below.setCell | apply Below.alloc))
        any_goals (first | omega | (simp; omega) | (simp; done))
        all_goals (simp only [results, Try.results25]; go_simp)
        all_goals (first | done | exact ⟨rfl, rfl, rfl⟩ | rfl | exact ⟨rfl, rfl⟩)
      · skip
        go_enter Try.func25, Try.ntmps25
        go_wp2_with (first | (go_at_call 40; ((with_reducible refine (boolean_ref _ _).mono ?_); rintro e w1 ⟨rfl, hb1⟩; have hB1 : Below W.heap.size W w1 := after (by (repeat' (first | assumption | exact Below.refl _ _ | apply Below.setCell | apply Below.alloc)); all_goals (first | omega | (simp; omega) | (simp; done))) hb1; obtain ⟨hc1, hf1⟩ := bcell hb1; have hz1 := hb1.size; (try simp at hz1); (try simp only [World.size_alloc] at hc1 hf1); have hy0 : W.heap.size < w1.heap.size := (by omega); have hy1 : W.heap.size + 1 < w1.heap.size := (by omega); have hy2 : W.heap.size + 1 + 1 < w1.heap.size := (by omega))))
        all_goals refine bodyPost_ret (v := .tuple #[vv (ofB true), .int .i64 0]) ?_ rfl ⟨rfl, ?_⟩
        any_goals (repeat' (first | assumption | exact Below.refl _ _ | apply Below.setCell | apply Below.alloc))
        any_goals (first | omega | (simp; omega) | (simp; done))
        all_goals (simp only [results, Try.results25]; go_simp)
        all_goals (first | done | exact ⟨rfl, rfl, rfl⟩ | rfl | exact ⟨rfl, rfl⟩)
  · rw [L1 (.inl X)]
    clear L1 L2 L3
    show Calls _ _ _ _ fun e w' => e = .returned (.tuple #[vv (ofB true), .int .i64 0]) ∧ _
    rcases hka with rfl | rfl <;> rcases hkb with rfl | rfl
    · skip
      go_enter Try.func25, Try.ntmps25
      go_wp2_with (first | (go_at_call 40; ((with_reducible refine (boolean_ref _ _).mono ?_); rintro e w1 ⟨rfl, hb1⟩; have hB1 : Below W.heap.size W w1 := after (by (repeat' (first | assumption | exact Below.refl _ _ | apply Below.setCell | apply Below.alloc)); all_goals (first | omega | (simp; omega) | (simp; done))) hb1; obtain ⟨hc1, hf1⟩ := bcell hb1; have hz1 := hb1.size; (try simp at hz1); (try simp only [World.size_alloc] at hc1 hf1); have hy0 : W.heap.size < w1.heap.size := (by omega); have hy1 : W.heap.size + 1 < w1.heap.size := (by omega); have hy2 : W.heap.size + 1 + 1 < w1.heap.size := (by omega))))
      all_goals refine bodyPost_ret (v := .tuple #[vv (ofB true), .int .i64 0]) ?_ rfl ⟨rfl, ?_⟩
      any_goals (repeat' (first | assumption | exact Below.refl _ _ | apply Below.setCell | apply Below.alloc))
      any_goals (first | omega | (simp; omega) | (simp; done))
      all_goals (simp only [results, Try.results25]; go_simp)
      all_goals (first | done | exact ⟨rfl, rfl, rfl⟩ | rfl | exact ⟨rfl, rfl⟩)
    · skip
      go_enter Try.func25, Try.ntmps25
      go_wp2_with (first | (go_at_call 40; ((with_reducible refine (boolean_ref _ _).mono ?_); rintro e w1 ⟨rfl, hb1⟩; have hB1 : Below W.heap.size W w1 := after (by (repeat' (first | assumption | exact Below.refl _ _ | apply Below.setCell | apply Below.alloc)); all_goals (first | omega | (simp; omega) | (simp; done))) hb1; obtain ⟨hc1, hf1⟩ := bcell hb1; have hz1 := hb1.size; (try simp at hz1); (try simp only [World.size_alloc] at hc1 hf1); have hy0 : W.heap.size < w1.heap.size := (by omega); have hy1 : W.heap.size + 1 < w1.heap.size := (by omega); have hy2 : W.heap.size + 1 + 1 < w1.heap.size := (by omega))))
      all_goals refine bodyPost_ret (v := .tuple #[vv (ofB true), .int .i64 0]) ?_ rfl ⟨rfl, ?_⟩
      any_goals (repeat' (first | assumption | exact Below.refl _ _ | apply Below.setCell | apply Below.alloc))
      any_goals (first | omega | (simp; omega) | (simp; done))
      all_goals (simp only [results, Try.results25]; go_simp)
      all_goals (first | done | exact ⟨rfl, rfl, rfl⟩ | rfl | exact ⟨rfl, rfl⟩)
    · skip
      go_enter Try.func25, Try.ntmps25
      go_wp2_with (first | (go_at_call 40; ((with_reducible refine (boolean_ref _ _).mono ?_); rintro e w1 ⟨rfl, hb1⟩; have hB1 : Below W.heap.size W w1 := after (by (repeat' (first | assumption | exact Below.refl _ _ | apply Below.setCell | apply Below.alloc)); all_goals (first | omega | (simp; omega) | (simp; done))) hb1; obtain ⟨hc1, hf1⟩ := bcell hb1; have hz1 := hb1.size; (try simp at hz1); (try simp only [World.size_alloc] at hc1 hf1); have hy0 : W.heap.size < w1.heap.size := (by omega); have hy1 : W.heap.size + 1 < w1.heap.size := (by omega); have hy2 : W.heap.size + 1 + 1 < w1.heap.size := (by omega))))
      all_goals refine bodyPost_ret (v := .tuple #[vv (ofB true), .int .i64 0]) ?_ rfl ⟨rfl, ?_⟩
      any_goals (repeat' (first | assumption | exact Below.refl _ _ | apply Below.setCell | apply Below.alloc))
      any_goals (first | omega | (simp; omega) | (simp; done))
      all_goals (simp only [results, Try.results25]; go_simp)
      all_goals (first | done | exact ⟨rfl, rfl, rfl⟩ | rfl | exact ⟨rfl, rfl⟩)
    · skip
      go_enter Try.func25, Try.ntmps25
      go_wp2_with (first | (go_at_call 40; ((with_reducible refine (boolean_ref _ _).mono ?_); rintro e w1 ⟨rfl, hb1⟩; have hB1 : Below W.heap.size W w1 := after (by (repeat' (first | assumption | exact Below.refl _ _ | apply Below.setCell | apply Below.alloc)); all_goals (first | omega | (simp; omega) | (simp; done))) hb1; obtain ⟨hc1, hf1⟩ := bcell hb1; have hz1 := hb1.size; (try simp at hz1); (try simp only [World.size_alloc] at hc1 hf1); have hy0 : W.heap.size < w1.heap.size := (by omega); have hy1 : W.heap.size + 1 < w1.heap.size := (by omega); have hy2 : W.heap.size + 1 + 1 < w1.heap.size := (by omega))))
      all_goals refine bodyPost_ret (v := .tuple #[vv (ofB true), .int .i64 0]) ?_ rfl ⟨rfl, ?_⟩
      any_goals (repeat' (first | assumption | exact Below.refl _ _ | apply Below.setCell | apply Below.alloc))
      any_goals (first | omega | (simp; omega) | (simp; done))
      all_goals (simp only [results, Try.results25]; go_simp)
      all_goals (first | done | exact ⟨rfl, rfl, rfl⟩ | rfl | exact ⟨rfl, rfl⟩)
end Go.Proofs.Ytjnlimahcodomaa.val
/- The document's operators on values, walked: differences, quotients, remainders; all of them. -/
namespace Go.Proofs.Ytjnlimahcodomaa.val
set_option linter.unusedVariables false
open Go.RowKit
attribute [local go_sem high] run_eqR run_neR
set_option maxRecDepth 100000 in
set_option maxHeartbeats 4000000 in
theorem ref_sub_min (na : Int) (sa sb : ByteArray) (ha : -9223372036854775808 ≤ na ∧ na ≤ 9223372036854775807) (W : World) :
    Calls Try.prog 25 #[.int .i64 8, ag3 2 na sa, ag3 2 (-9223372036854775808) sb] W fun e w' => e = .returned (.tuple #[vv (doV 8 ⟨2, na, sa⟩ ⟨2, -9223372036854775808, sb⟩).1, .int .i64 (doV 8 ⟨2, na, sa⟩ ⟨2, -9223372036854775808, sb⟩).2]) ∧ Below W.heap.size W w' := by
  have E : doV 8 ⟨2, na, sa⟩ ⟨2, -9223372036854775808, sb⟩ = if (countV 8 na (-9223372036854775808)).2 = 0 then (ofN (countV 8 na (-9223372036854775808)).1, 0) else (null, (countV 8 na (-9223372036854775808)).2) := by unfold doV; rfl
  have hv := cV 8 na (-9223372036854775808) (na + 9223372036854775808) (by show na - -9223372036854775808 = _; omega) (by omega)
  by_cases h : na < 0
  · have hi : InR (na + 9223372036854775808) := by unfold InR; omega
    rw [hv.1 hi, if_pos rfl] at E
    rw [E]
    have h1 : -9223372036854775808 ≤ na := ha.1
    have dn : decide (na < 0) = true := by simpa using h
    clear E hv hi ha
    show Calls _ _ _ _ fun e w' => e = .returned (.tuple #[vv (ofN (na + 9223372036854775808)), .int .i64 0]) ∧ _
    go_enter Try.func25, Try.ntmps25
    go_wp2
    go_quiet (fail)
    go_wp2
    all_goals refine bodyPost_ret (v := .tuple #[vv (ofN (na + 9223372036854775808)), .int .i64 0]) ?_ (by rfl) (And.intro (by rfl) ?_)
    any_goals (repeat' (first | assumption | exact Below.refl _ _ | apply Below.setCell | apply Below.alloc | apply below_drewN))
    any_goals (first | omega | (simp; omega) | (simp; done))
    all_goals (simp only [results, Try.results25]; go_simp)
    all_goals (first | done | (exfalso; omega) | exact ⟨(IntWalk.wrap64_in _ (by omega)).trans (by show _ = na + 9223372036854775808; omega), rfl⟩ | exact ⟨rfl, (IntWalk.wrap64_in _ (by omega)).trans (by show _ = na + 9223372036854775808; omega), rfl⟩ | exact ⟨rfl, rfl, rfl⟩ | rfl | exact ⟨rfl, rfl⟩)
  · have hi : ¬ InR (na + 9223372036854775808) := by unfold InR; omega
    rw [hv.2 hi, if_neg (by decide)] at E
    rw [E]
    have dn : decide (na < 0) = false := by simpa using h
    clear E hv hi
    go_enter Try.func25, Try.ntmps25
    go_wp2
    go_quiet (fail)
    go_wp2
    all_goals refine bodyPost_ret (v := .tuple #[vv null, .int .i64 8]) ?_ (by rfl) (And.intro (by rfl) ?_)
    any_goals (repeat' (first | assumption | exact Below.refl _ _ | apply Below.setCell | apply Below.alloc | apply below_drewN))
    any_goals (first | omega | (simp; omega) | (simp; done))
    all_goals (simp only [results, Try.results25]; go_simp)
    all_goals (first | done | (exfalso; omega) | exact ⟨(IntWalk.wrap64_in _ (by omega)).trans (by show _ = na + 9223372036854775808; omega), rfl⟩ | exact ⟨rfl, (IntWalk.wrap64_in _ (by omega)).trans (by show _ = na + 9223372036854775808; omega), rfl⟩ | exact ⟨rfl, rfl, rfl⟩ | rfl | exact ⟨rfl, rfl⟩)
set_option maxRecDepth 100000 in
set_option maxHeartbeats 4000000 in
theorem ref_sub (na nb : Int) (sa sb : ByteArray) (ha : -9223372036854775808 ≤ na ∧ na ≤ 9223372036854775807) (hb : -9223372036854775808 ≤ nb ∧ nb ≤ 9223372036854775807) (W : World) :
    Calls Try.prog 25 #[.int .i64 8, ag3 2 na sa, ag3 2 nb sb] W fun e w' => e = .returned (.tuple #[vv (doV 8 ⟨2, na, sa⟩ ⟨2, nb, sb⟩).1, .int .i64 (doV 8 ⟨2, na, sa⟩ ⟨2, nb, sb⟩).2]) ∧ Below W.heap.size W w' := by
  by_cases hm : nb = -9223372036854775808
  · subst hm; exact ref_sub_min na sa sb ha W
  have E : doV 8 ⟨2, na, sa⟩ ⟨2, nb, sb⟩ = if (countV 8 na nb).2 = 0 then (ofN (countV 8 na nb).1, 0) else (null, (countV 8 na nb).2) := by unfold doV; rfl
  have hv := cV 8 na nb (na + -nb) (by show na - nb = _; omega) (by omega)
  have b0 : (nb == -9223372036854775808) = false := by simpa using hm
  have nb1 : -9223372036854775808 ≤ -nb := by omega
  have nb2 : -nb ≤ 9223372036854775807 := by omega
  by_cases h : InR (na + -nb)
  · rw [hv.1 h, if_pos rfl] at E
    rw [E]
    have HA := Lib.hid (add_yes na (-nb) ha ⟨nb1, nb2⟩ h)
    clear E hv h ha hb hm
    generalize na + -nb = r at *
    show Calls _ _ _ _ fun e w' => e = .returned (.tuple #[vv (ofN r), .int .i64 0]) ∧ _
    go_enter Try.func25, Try.ntmps25
    go_wp2_with (first | (go_at_call 42; ((with_reducible refine (HA.out _).mono ?_); rintro e w1 ⟨rfl, hb1⟩; have hB1 : Below W.heap.size W w1 := after (by (repeat' (first | assumption | exact Below.refl _ _ | apply Below.setCell | apply Below.alloc)); all_goals (first | omega | (simp; omega) | (simp; done))) hb1; obtain ⟨hc1, hf1⟩ := bcell hb1; have hz1 := hb1.size; (try simp at hz1); (try simp only [World.size_alloc] at hc1 hf1); have hy0 : W.heap.size < w1.heap.size := (by omega); have hy1 : W.heap.size + 1 < w1.heap.size := (by omega); have hy2 : W.heap.size + 1 + 1 < w1.heap.size := (by omega))))
    all_goals refine bodyPost_ret (v := .tuple #[vv (ofN r), .int .i64 0]) ?_ (by rfl) (And.intro (by rfl) ?_)
    any_goals (repeat' (first | assumption | exact Below.refl _ _ | apply Below.setCell | apply Below.alloc | apply below_drewN))
    any_goals (first | omega | (simp; omega) | (simp; done))
    all_goals (simp only [results, Try.results25]; go_simp)
    all_goals (first | done | exact ⟨rfl, rfl, rfl⟩ | rfl | exact ⟨rfl, rfl⟩)
  · rw [hv.2 h, if_neg (by decide)] at E
    rw [E]
    have HA := Lib.hid (add_no na (-nb) ha ⟨nb1, nb2⟩ h)
    clear E hv h ha hb hm
    go_enter Try.func25, Try.ntmps25
    go_wp2_with (first | (go_at_call 42; ((with_reducible refine (HA.out _).mono ?_); rintro e w1 ⟨⟨m, rfl⟩, hb1⟩; have hB1 : Below W.heap.size W w1 := after (by (repeat' (first | assumption | exact Below.refl _ _ | apply Below.setCell | apply Below.alloc)); all_goals (first | omega | (simp; omega) | (simp; done))) hb1; obtain ⟨hc1, hf1⟩ := bcell hb1; have hz1 := hb1.size; (try simp at hz1); (try simp only [World.size_alloc] at hc1 hf1); have hy0 : W.heap.size < w1.heap.size := (by omega); have hy1 : W.heap.size + 1 < w1.heap.size := (by omega); have hy2 : W.heap.size + 1 + 1 < w1.heap.size := (by omega))))
    all_goals refine bodyPost_ret (v := .tuple #[vv null, .int .i64 8]) ?_ (by rfl) (And.intro (by rfl) ?_)
    any_goals (repeat' (first | assumption | exact Below.refl _ _ | apply Below.setCell | apply Below.alloc | apply below_drewN))
    any_goals (first | omega | (simp; omega) | (simp; done))
    all_goals (simp only [results, Try.results25]; go_simp)
    all_goals (first | done | exact ⟨rfl, rfl, rfl⟩ | rfl | exact ⟨rfl, rfl⟩)
end Go.Proofs.Ytjnlimahcodomaa.val
/- The document's operators on values, walked: quotients and remainders. -/
namespace Go.Proofs.Ytjnlimahcodomaa.val
set_option linter.unusedVariables false
open Go.RowKit
attribute [local go_sem high] run_eqR run_neR
set_option maxRecDepth 100000 in
set_option maxHeartbeats 4000000 in
theorem ref_mod_minus (na : Int) (sa sb : ByteArray) (ha : -9223372036854775808 ≤ na ∧ na ≤ 9223372036854775807) (W : World) :
    Calls Try.prog 25 #[.int .i64 11, ag3 2 na sa, ag3 2 (-1) sb] W fun e w' => e = .returned (.tuple #[vv (ofN 0), .int .i64 0]) ∧ Below W.heap.size W w' := by
  clear ha
  go_enter Try.func25, Try.ntmps25
  go_wp2
  all_goals refine bodyPost_ret (v := .tuple #[vv (ofN 0), .int .i64 0]) ?_ (by rfl) (And.intro (by rfl) ?_)
  any_goals (repeat' (first | assumption | exact Below.refl _ _ | apply Below.setCell | apply Below.alloc | apply below_drewN))
  any_goals (first | omega | (simp; omega) | (simp; done))
  all_goals (simp only [results, Try.results25]; go_simp)
  all_goals (first | done | exact ⟨rfl, rfl, rfl⟩ | rfl | exact ⟨rfl, rfl⟩)
set_option maxRecDepth 100000 in
set_option maxHeartbeats 4000000 in
theorem ref_div_minus_no (sa sb : ByteArray) (W : World) :
    Calls Try.prog 25 #[.int .i64 10, ag3 2 (-9223372036854775808) sa, ag3 2 (-1) sb] W fun e w' => e = .returned (.tuple #[vv null, .int .i64 8]) ∧ Below W.heap.size W w' := by
  go_enter Try.func25, Try.ntmps25
  go_wp2
  go_quiet (fail)
  go_wp2
  all_goals refine bodyPost_ret (v := .tuple #[vv null, .int .i64 8]) ?_ (by rfl) (And.intro (by rfl) ?_)
  any_goals (repeat' (first | assumption | exact Below.refl _ _ | apply Below.setCell | apply Below.alloc | apply below_drewN))
  any_goals (first | omega | (simp; omega) | (simp; done))
  all_goals (simp only [results, Try.results25]; go_simp)
  all_goals (first | done | exact ⟨rfl, rfl, rfl⟩ | rfl | exact ⟨rfl, rfl⟩)
set_option maxRecDepth 100000 in
set_option maxHeartbeats 4000000 in
theorem ref_div_minus (na : Int) (sa sb : ByteArray) (ha : -9223372036854775808 ≤ na ∧ na ≤ 9223372036854775807) (hm : na ≠ -9223372036854775808) (W : World) :
    Calls Try.prog 25 #[.int .i64 10, ag3 2 na sa, ag3 2 (-1) sb] W fun e w' => e = .returned (.tuple #[vv (ofN (-na)), .int .i64 0]) ∧ Below W.heap.size W w' := by
  have b0 : (na == -9223372036854775808) = false := by simpa using hm
  have b1 : (na != -9223372036854775808) = true := by simpa using hm
  have nb1 : -9223372036854775808 ≤ -na := by omega
  have nb2 : -na ≤ 9223372036854775807 := by omega
  clear hm ha
  go_enter Try.func25, Try.ntmps25
  go_wp2
  go_quiet (fail)
  go_wp2
  all_goals refine bodyPost_ret (v := .tuple #[vv (ofN (-na)), .int .i64 0]) ?_ (by rfl) (And.intro (by rfl) ?_)
  any_goals (repeat' (first | assumption | exact Below.refl _ _ | apply Below.setCell | apply Below.alloc | apply below_drewN))
  any_goals (first | omega | (simp; omega) | (simp; done))
  all_goals (simp only [results, Try.results25]; go_simp)
  all_goals (first | done | exact ⟨rfl, rfl, rfl⟩ | rfl | exact ⟨rfl, rfl⟩)
set_option maxRecDepth 100000 in
set_option maxHeartbeats 4000000 in
theorem ref_div (na nb : Int) (sa sb : ByteArray) (ha : -9223372036854775808 ≤ na ∧ na ≤ 9223372036854775807) (hb : -9223372036854775808 ≤ nb ∧ nb ≤ 9223372036854775807) (h0 : nb ≠ 0) (h1 : nb ≠ -1) (W : World) :
    Calls Try.prog 25 #[.int .i64 10, ag3 2 na sa, ag3 2 nb sb] W fun e w' => e = .returned (.tuple #[vv (ofN (na.tdiv nb)), .int .i64 0]) ∧ Below W.heap.size W w' := by
  have b0 : (nb == 0) = false := by simpa using h0
  have b1 : (nb == -1) = false := by simpa using h1
  have hq := tdiv_in na nb ha h0 (fun h => h1 h.2)
  have q1 : -9223372036854775808 ≤ na.tdiv nb := hq.1
  have q2 : na.tdiv nb ≤ 9223372036854775807 := hq.2
  clear hq
  go_enter Try.func25, Try.ntmps25
  go_wp2
  all_goals refine bodyPost_ret (v := .tuple #[vv (ofN (na.tdiv nb)), .int .i64 0]) ?_ (by rfl) (And.intro (by rfl) ?_)
  any_goals (repeat' (first | assumption | exact Below.refl _ _ | apply Below.setCell | apply Below.alloc | apply below_drewN))
  any_goals (first | omega | (simp; omega) | (simp; done))
  all_goals (simp only [results, Try.results25]; go_simp)
  all_goals (first | done | exact ⟨rfl, rfl, rfl⟩ | rfl | exact ⟨rfl, rfl⟩)
theorem tmod_sign (a b : Int) : (0 ≤ a → 0 ≤ a.tmod b) ∧ (a ≤ 0 → a.tmod b ≤ 0) := by
  refine ⟨Int.tmod_nonneg b, fun h => ?_⟩
  have h1 := Int.tmod_nonneg b (show 0 ≤ -a by omega)
  rw [Int.neg_tmod] at h1
  omega
theorem sub_mul (a b : Int) (hq1 : -9223372036854775808 ≤ a ∧ a ≤ 9223372036854775807) (h0 : b ≠ 0) (h1 : b ≠ -1) : a - a.tdiv b * b = a.tmod b ∧ -9223372036854775808 ≤ a.tdiv b * b ∧ a.tdiv b * b ≤ 9223372036854775807 := by
  have h := Int.mul_tdiv_add_tmod a b
  have hc : b * a.tdiv b = a.tdiv b * b := Int.mul_comm _ _
  have hm := tmod_sign a b
  have ht : (a.tmod b).natAbs ≤ a.natAbs := by rw [Int.natAbs_tmod]; exact Nat.mod_le _ _
  omega
set_option maxRecDepth 100000 in
set_option maxHeartbeats 4000000 in
theorem ref_mod (na nb : Int) (sa sb : ByteArray) (ha : -9223372036854775808 ≤ na ∧ na ≤ 9223372036854775807) (hb : -9223372036854775808 ≤ nb ∧ nb ≤ 9223372036854775807) (h0 : nb ≠ 0) (h1 : nb ≠ -1) (W : World) :
    Calls Try.prog 25 #[.int .i64 11, ag3 2 na sa, ag3 2 nb sb] W fun e w' => e = .returned (.tuple #[vv (ofN (na.tmod nb)), .int .i64 0]) ∧ Below W.heap.size W w' := by
  have b0 : (nb == 0) = false := by simpa using h0
  have b1 : (nb == -1) = false := by simpa using h1
  have hq := tdiv_in na nb ha h0 (fun h => h1 h.2)
  have q1 : -9223372036854775808 ≤ na.tdiv nb := hq.1
  have q2 : na.tdiv nb ≤ 9223372036854775807 := hq.2
  clear hq
  obtain ⟨HM, m1, m2⟩ := sub_mul na nb ha h0 h1
  have WR := Lib.hid (IntWalk.wrap64_in (na - na.tdiv nb * nb) (by have := tmod_sign na nb; have ht : (na.tmod nb).natAbs ≤ na.natAbs := by rw [Int.natAbs_tmod]; exact Nat.mod_le _ _
                                                                   omega))
  rw [← HM]
  clear HM
  go_enter Try.func25, Try.ntmps25
  go_wp2
  go_quiet (fail)
  go_wp2
  all_goals refine bodyPost_ret (v := .tuple #[vv (ofN (na - na.tdiv nb * nb)), .int .i64 0]) ?_ (by rfl) (And.intro (by rfl) ?_)
  any_goals (repeat' (first | assumption | exact Below.refl _ _ | apply Below.setCell | apply Below.alloc | apply below_drewN))
  any_goals (first | omega | (simp; omega) | (simp; done))
  all_goals (simp only [results, Try.results25]; go_simp)
  all_goals (first | done | exact ⟨WR.out, rfl⟩ | exact ⟨rfl, WR.out, rfl⟩ | exact ⟨rfl, rfl, rfl⟩ | rfl | exact ⟨rfl, rfl⟩)
end Go.Proofs.Ytjnlimahcodomaa.val
/- The law ValueDoes, walked. -/
namespace Go.Proofs.Ytjnlimahcodomaa.val
set_option linter.unusedVariables false
open Go.RowKit
attribute [local go_sem high] run_eqlV run_neqV run_eqR
theorem num_doV (op na nb r : Int) (sa sb : ByteArray) (h : op = 10 ∨ op = 11) (h0 : nb ≠ 0) (hr : exact op na nb = r) : (InR r → doV op ⟨2, na, sa⟩ ⟨2, nb, sb⟩ = (ofN r, 0)) ∧ (¬ InR r → doV op ⟨2, na, sa⟩ ⟨2, nb, sb⟩ = (null, 8)) := by
  have E : doV op ⟨2, na, sa⟩ ⟨2, nb, sb⟩ = if (countV op na nb).2 = 0 then (ofN (countV op na nb).1, 0) else (null, (countV op na nb).2) := by
    unfold doV fitB
    rw [if_neg (by omega), if_neg (by rw [if_neg (by omega), if_neg (by omega), if_neg (by omega)]; simp), if_neg (by omega), if_neg (by simp), if_neg (by omega), if_neg (by omega)]
  have hv := cV op na nb r hr (fun hh => h0 hh.1)
  exact ⟨fun h => by rw [E, hv.1 h, if_pos rfl], fun h => by rw [E, hv.2 h, if_neg (by decide)]⟩
theorem ref_num (op na nb : Int) (sa sb : ByteArray) (h : 7 ≤ op ∧ op ≤ 11) (ha : -9223372036854775808 ≤ na ∧ na ≤ 9223372036854775807) (hb : -9223372036854775808 ≤ nb ∧ nb ≤ 9223372036854775807) (W : World) :
    Calls Try.prog 25 #[.int .i64 op, ag3 2 na sa, ag3 2 nb sb] W fun e w' => e = .returned (.tuple #[vv (doV op ⟨2, na, sa⟩ ⟨2, nb, sb⟩).1, .int .i64 (doV op ⟨2, na, sa⟩ ⟨2, nb, sb⟩).2]) ∧ Below W.heap.size W w' := by
  have ho : op = 7 ∨ op = 8 ∨ op = 9 ∨ op = 10 ∨ op = 11 := by omega
  rcases ho with rfl | rfl | rfl | rfl | rfl
  · exact ref_add na nb sa sb ha hb W
  · exact ref_sub na nb sa sb ha hb W
  · exact ref_mul na nb sa sb ha hb W
  · by_cases h0 : nb = 0
    · subst h0; exact ref_zero 10 na sa sb (.inl rfl) W
    · by_cases h1 : nb = -1
      · subst h1
        have hv := num_doV 10 na (-1) (-na) sa sb (.inl rfl) h0 (by show na.tdiv (-1) = -na; rw [Int.tdiv_neg, Int.tdiv_one])
        by_cases hm : na = -9223372036854775808
        · subst hm
          rw [hv.2 (by unfold InR; omega)]
          exact ref_div_minus_no sa sb W
        · rw [hv.1 (by unfold InR; omega)]
          exact ref_div_minus na sa sb ha hm W
      · have hv := num_doV 10 na nb (na.tdiv nb) sa sb (.inl rfl) h0 rfl
        rw [hv.1 (tdiv_in na nb ha h0 (fun h => h1 h.2))]
        exact ref_div na nb sa sb ha hb h0 h1 W
  · by_cases h0 : nb = 0
    · subst h0; exact ref_zero 11 na sa sb (.inr rfl) W
    · by_cases h1 : nb = -1
      · subst h1
        have hv := num_doV 11 na (-1) 0 sa sb (.inr rfl) h0 (by show na.tmod (-1) = 0; rw [Int.tmod_neg, Int.tmod_one])
        rw [hv.1 (by unfold InR; omega)]
        exact ref_mod_minus na sa sb ha W
      · have hv := num_doV 11 na nb (na.tmod nb) sa sb (.inr rfl) h0 rfl
        have ht := tmod_in na nb h0
        rw [hv.1 (by unfold InR; omega)]
        exact ref_mod na nb sa sb ha hb h0 h1 W
theorem ref_do_any (op ka na kb nb : Int) (sa sb : ByteArray) (W : World) (ga : Good ⟨ka, na, sa⟩) (gb : Good ⟨kb, nb, sb⟩) : Calls Try.prog 25 #[.int .i64 op, ag3 ka na sa, ag3 kb nb sb] W fun e w' => e = .returned (.tuple #[vv (doV op ⟨ka, na, sa⟩ ⟨kb, nb, sb⟩).1, .int .i64 (doV op ⟨ka, na, sa⟩ ⟨kb, nb, sb⟩).2]) ∧ Below W.heap.size W w' := by
  by_cases h : op < 1 ∨ 14 < op
  · exact ref_arg op ka na kb nb sa sb W h
  cases hf : fitB op ka kb
  · exact ref_type op ka na kb nb sa sb W (by omega) hf
  by_cases h13 : 13 ≤ op
  · by_cases h14 : op = 14
    · subst h14; exact ref_logic14 ka na kb nb sa sb W hf
    · obtain rfl : op = 13 := by omega
      exact ref_logic13 ka na kb nb sa sb W hf
  by_cases h0 : ka = 0 ∨ kb = 0
  · exact ref_null op ka na kb nb sa sb W (by omega) hf h0
  by_cases h6 : op ≤ 6
  · exact ref_cmp op ka na kb nb sa sb W (by omega) hf h0 ga gb
  by_cases h12 : op = 12
  · subst h12
    exact ref_text ka na kb nb sa sb W hf h0 ga gb
  · have hk : ka = 2 ∧ kb = 2 := by
      unfold fitB at hf
      rw [if_neg h6, if_neg h12, if_neg h13] at hf
      simp at hf; omega
    obtain ⟨rfl, rfl⟩ := hk
    exact ref_num op na nb sa sb (by omega) (good_n ga) (good_n gb) W
end Go.Proofs.Ytjnlimahcodomaa.val
