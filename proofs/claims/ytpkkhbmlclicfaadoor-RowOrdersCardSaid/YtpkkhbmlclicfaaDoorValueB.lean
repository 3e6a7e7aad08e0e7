/- The document's order of values, walked. -/
import Derived.Test.YtpkkhbmlclicfaaDoorValueT
namespace Go.Proofs.YtpkkhbmlclicfaaDoor.val
set_option linter.unusedVariables false
open Go.RowKit

theorem bl_drop : ∀ (i : Nat) (x y : List UInt8), x.take i = y.take i → i ≤ x.length → i ≤ y.length → Op.bytesLess x y = Op.bytesLess (x.drop i) (y.drop i)
  | 0, x, y, _, _, _ => rfl
  | i + 1, [], y, h, h1, _ => by simp at h1
  | i + 1, x, [], h, _, h2 => by simp at h2
  | i + 1, a :: x, b :: y, h, h1, h2 => by
    simp only [List.take_succ_cons, List.cons.injEq] at h
    obtain ⟨rfl, h⟩ := h
    rw [List.drop_succ_cons, List.drop_succ_cons, ← bl_drop i x y h (by simpa using h1) (by simpa using h2)]
    simp [Op.bytesLess]
theorem bl_end (x y : List UInt8) (i : Nat) (h : x.take i = y.take i) (h1 : i ≤ x.length) (h2 : i ≤ y.length) (he : i = x.length ∨ i = y.length) : Op.bytesLess x y = decide (x.length < y.length) := by
  rw [bl_drop i x y h h1 h2]
  rcases he with rfl | rfl
  · rw [List.drop_length]
    cases hy : y.drop x.length with
    | nil => have := List.drop_eq_nil_iff.1 hy; simp [Op.bytesLess]; omega
    | cons b l =>
      have : ¬ y.length ≤ x.length := fun h => by rw [List.drop_eq_nil_iff.2 h] at hy; cases hy
      simp [Op.bytesLess]; omega
  · rw [List.drop_length]
    cases x.drop y.length <;> simp [Op.bytesLess] <;> omega
theorem bl_at (x y : List UInt8) (i : Nat) (h : x.take i = y.take i) (h1 : i < x.length) (h2 : i < y.length) (hne : x[i] ≠ y[i]) : Op.bytesLess x y = decide (x[i] < y[i]) := by
  rw [bl_drop i x y h (by omega) (by omega), List.drop_eq_getElem_cons h1, List.drop_eq_getElem_cons h2]
  simp [Op.bytesLess, hne]
theorem toList_data (s : ByteArray) : s.toList = s.data.toList := ByteArray.toList_eq s

set_option maxRecDepth 100000 in
set_option maxHeartbeats 2000000 in
theorem before_txt (na nb : Int) (sa sb : ByteArray) (ha : sa.size ≤ 64) (hb : sb.size ≤ 64) (W : World) :
    Calls Tryd.prog 14 #[ag3 3 na sa, ag3 3 nb sb] W fun e w' => e = .returned (.bool (Op.bytesLess sa.toList sb.toList)) ∧ Below W.heap.size W w' := by
  rw [toList_data, toList_data]
  have la : sa.data.toList.length = sa.size := by rw [← ByteArray.size_data]; simp
  have lb : sb.data.toList.length = sb.size := by rw [← ByteArray.size_data]; simp
  have LA := Lib.hid la; have LB := Lib.hid lb
  have b1 : (sa.size : Int) ≤ 64 := by omega
  have b2 : (sb.size : Int) ≤ 64 := by omega
  have b3 : (0 : Int) ≤ sa.size := by omega
  have b4 : (0 : Int) ≤ sb.size := by omega
  obtain ⟨R, hR⟩ : ∃ R, Op.bytesLess sa.data.toList sb.data.toList = R := ⟨_, rfl⟩
  rw [hR]
  have HR := Lib.hid hR
  clear la lb hR
  go_enter Tryd.func14, Tryd.ntmps14
  go_wp2
  have hX : ∀ W', Below ((W.alloc (.cells #[.int .i64 3, .int .i64 na, .string sa] TR)).alloc (.cells #[.int .i64 3, .int .i64 nb, .string sb] TR)).heap.size ((W.alloc (.cells #[.int .i64 3, .int .i64 na, .string sa] TR)).alloc (.cells #[.int .i64 3, .int .i64 nb, .string sb] TR)) W' →
      W'.cell? ⟨W.heap.size, 2, none⟩ = some (.string sa) ∧ W'.cell? ⟨W.heap.size + 1, 2, none⟩ = some (.string sb) := fun W' hS => by
    refine ⟨cell_later (after (below_alloc1 _ _) hS) (cells_new W [.int .i64 3, .int .i64 na, .string sa] TR 2), ?_⟩
    have := cells_new (W.alloc (.cells #[.int .i64 3, .int .i64 na, .string sa] TR)) [.int .i64 3, .int .i64 nb, .string sb] TR 2
    rw [World.size_alloc] at this
    exact cell_later hS this
  have HX := Lib.hid hX
  have HB := Lib.hid (below_alloc2 W (.cells #[.int .i64 3, .int .i64 na, .string sa] TR) (.cells #[.int .i64 3, .int .i64 nb, .string sb] TR))
  clear hX
  generalize (W.alloc (.cells #[.int .i64 3, .int .i64 na, .string sa] TR)).alloc (.cells #[.int .i64 3, .int .i64 nb, .string sb] TR) = X at *
  go_loopw [5] (fun i wr => ∃ k : Nat, i = .int .i64 (k : Int) ∧ k ≤ sa.size ∧ k ≤ sb.size ∧ sa.data.toList.take k = sb.data.toList.take k ∧ Below X.heap.size X wr) (fun i _ => 64 - (intOf i).toNat)
  case atStart => exact ⟨0, rfl, by omega, by omega, rfl, Below.refl _ _⟩
  case round =>
    obtain ⟨k, rfl, hka, hkb, ht, hbl⟩ := hrel
    obtain ⟨c1, c2⟩ := HX.out _ hbl
    have HT := Lib.hid ht; have HBL := Lib.hid hbl
    have d0 : (0 : Int) ≤ (k : Int) := by omega
    clear ht hbl
    by_cases h1 : k < sa.size
    · have d1 : (k : Int) < (sa.size : Int) := by omega
      by_cases h2 : k < sb.size
      · have d2 : (k : Int) < (sb.size : Int) := by omega
        by_cases he : sa[k] = sb[k]
        · have e1 : ((sa[k].toNat : Int) == (sb[k].toNat : Int)) = true := by simp [he]
          have e2 : ((sa[k].toNat : Int) != (sb[k].toNat : Int)) = false := by simp [he]
          have HE := Lib.hid he
          clear he
          go_wp2
          go_quiet (fail)
          go_wp2
          go_roundw
          case rel => exact ⟨k + 1, by go_num, by omega, by omega, by rw [take_snoc sa k h1, take_snoc sb k h2, HT.out, HE.out], below_drewN HBL.out _⟩
          case measure => simp [intOf]; omega
        · have e1 : ((sa[k].toNat : Int) == (sb[k].toNat : Int)) = false := by
            simp only [beq_eq_false_iff_ne, ne_eq]; intro h; exact he (UInt8.toNat_inj.1 (by omega))
          have e2 : ((sa[k].toNat : Int) != (sb[k].toNat : Int)) = true := by
            simp only [bne_iff_ne, ne_eq]; intro h; exact he (UInt8.toNat_inj.1 (by omega))
          have HE := Lib.hid he
          clear he
          go_wp2
          go_quiet (fail)
          go_wp2
          go_quiet (fail)
          go_wp2
          go_ret
          refine ⟨ret_bool ?_, ?_⟩
          · rw [← HR.out, bl_at _ _ k HT.out (by rw [LA.out]; exact h1) (by rw [LB.out]; exact h2) HE.out]
            show _ = decide (sa[k] < sb[k])
            rw [decide_eq_decide, UInt8.lt_iff_toNat_lt]
          · exact HB.out.trans ((below_drewN (below_drewN HBL.out _) _).mono HB.out.size)
      · have d2 : ¬ (k : Int) < (sb.size : Int) := by omega
        go_wp2
        go_ret
        refine ⟨ret_bool ?_, HB.out.trans (HBL.out.mono HB.out.size)⟩
        rw [← HR.out, bl_end _ _ k HT.out (by rw [LA.out]; omega) (by rw [LB.out]; omega) (.inr (by rw [LB.out]; omega)), LA.out, LB.out]
    · have d1 : ¬ (k : Int) < (sa.size : Int) := by omega
      go_wp2
      go_ret
      refine ⟨ret_bool ?_, HB.out.trans (HBL.out.mono HB.out.size)⟩
      rw [← HR.out, bl_end _ _ k HT.out (by rw [LA.out]; omega) (by rw [LB.out]; omega) (.inl (by rw [LA.out]; omega)), LA.out, LB.out]

set_option maxHeartbeats 1000000 in
/-- The document's order of two values that may be. -/
theorem before_any (ka na kb nb : Int) (sa sb : ByteArray) (ga : Good ⟨ka, na, sa⟩) (gb : Good ⟨kb, nb, sb⟩) (W : World) :
    Calls Tryd.prog 14 #[ag3 ka na sa, ag3 kb nb sb] W fun e w' => e = .returned (.bool (less ⟨ka, na, sa⟩ ⟨kb, nb, sb⟩)) ∧ Below W.heap.size W w' := by
  by_cases ek : ka = kb
  · subst ek
    by_cases e3 : ka = 3
    · subst e3
      have h1 : sa.size ≤ 64 := (good_text ga rfl).2
      have h2 : sb.size ≤ 64 := (good_text gb rfl).2
      exact before_txt na nb sa sb h1 h2 W
    · have E : less ⟨ka, na, sa⟩ ⟨ka, nb, sb⟩ = decide (na < nb) := by unfold less; rw [if_pos rfl, if_neg e3]
      have k3 : (ka == 3) = false := by simpa using e3
      rw [E]
      clear E e3 ga gb
      go_enter Tryd.func14, Tryd.ntmps14
      go_wp2
      go_ret
      exact ⟨rfl, below_alloc2 _ _ _⟩
  · have E : less ⟨ka, na, sa⟩ ⟨kb, nb, sb⟩ = decide (ka < kb) := by unfold less; rw [if_neg ek]
    have k3 : (ka == kb) = false := by simpa using ek
    have k4 : (ka != kb) = true := by simpa using ek
    rw [E]
    clear E ek ga gb
    go_enter Tryd.func14, Tryd.ntmps14
    go_wp2
    go_ret
    exact ⟨rfl, below_alloc2 _ _ _⟩

end Go.Proofs.YtpkkhbmlclicfaaDoor.val
