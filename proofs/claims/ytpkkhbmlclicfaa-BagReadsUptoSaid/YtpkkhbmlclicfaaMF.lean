/- How values are shown, by both texts. -/
import Derived.Test.YtpkkhbmlclicfaaMB
import Derived.Sort.Grow
import Derived.LoopTactic
import Derived.Outline
import Derived.Test.YtpkkhbmlclicfaaRowC
import Derived.Lib.ItoaLen
import Derived.Lib.Join
import Derived.RegionTactic
import Derived.BigRegion
import Derived.Deep.RegionWith
namespace Go.Proofs.Ytpkkhbmlclicfaa.val
set_option linter.unusedVariables false
open Go.RowKit
attribute [local go_sem high] run_eqlV run_neqV
theorem quote_dup (s : ByteArray) : quote s = ⟨(39 :: (dup s.data.toList ++ [39])).toArray⟩ := by
  unfold quote inner
  rw [replaceAll_dup]
  apply ByteArray.ext
  simp [q1]
end Go.Proofs.Ytpkkhbmlclicfaa.val
/- How values are shown, by the document's text. -/
namespace Go.Proofs.Ytpkkhbmlclicfaa.val
set_option linter.unusedVariables false
open Go.RowKit
/-- what is written of a text -/
def Qd (s : ByteArray) (k : Nat) (S : ByteArray) : Prop := S = ⟨(39 :: dup (s.data.toList.take k)).toArray⟩
theorem dup_len : ∀ l : List UInt8, (dup l).length ≤ 2 * l.length
  | [] => by simp [dup]
  | c :: l => by
    have := dup_len l
    rw [dup_cons, List.length_append, List.length_cons]
    split <;> simp <;> omega
theorem Qd.size {s S : ByteArray} {k : Nat} (h : Qd s k S) : S.size ≤ 1 + 2 * k := by
  have h1 := dup_len (s.data.toList.take k)
  have h2 := List.length_take_le k s.data.toList
  rw [h]
  show (39 :: dup (s.data.toList.take k)).length ≤ _
  rw [List.length_cons]; omega
theorem ext_one (s : ByteArray) (k : Nat) (h : k < s.size) : (s.extract k (k + 1)).data.toList = [s[k]] := by
  rw [ByteArray.data_extract, Array.toList_extract]
  have h' : k < s.data.toList.length := h
  rw [List.extract_eq_take_drop, Nat.add_sub_cancel_left, List.drop_eq_getElem_cons h']
  rfl
theorem Qd.one {s S : ByteArray} {k : Nat} (h : Qd s k S) (hk : k < s.size) (hc : s[k] ≠ 39) : Qd s (k + 1) (S ++ s.extract k (k + 1)) := by
  unfold Qd at *
  rw [take_snoc s k hk, dup_snoc, if_neg hc, h]
  apply ByteArray.ext
  rw [ByteArray.data_append]
  apply Array.toList_inj.1
  rw [Array.toList_append, ext_one s k hk]
  simp
theorem Qd.two {s S : ByteArray} {k : Nat} (h : Qd s k S) (hk : k < s.size) (hc : s[k] = 39) : Qd s (k + 1) (S ++ s.extract k (k + 1) ++ ⟨#[39]⟩) := by
  unfold Qd at *
  rw [take_snoc s k hk, dup_snoc, if_pos hc, h]
  apply ByteArray.ext
  rw [ByteArray.data_append, ByteArray.data_append]
  apply Array.toList_inj.1
  rw [Array.toList_append, Array.toList_append, ext_one s k hk, hc]
  simp
theorem Qd.done {s S : ByteArray} (h : Qd s s.size S) : S ++ ⟨#[39]⟩ = quote s := by
  rw [quote_dup, h, take_all s _ (Nat.le_refl _)]
  apply ByteArray.ext
  simp
end Go.Proofs.Ytpkkhbmlclicfaa.val
/- What the laws on rows ask first, walked. -/
namespace Go.Proofs.Ytpkkhbmlclicfaa.val
set_option linter.unusedVariables false
open Go.RowKit
attribute [local go_sem high] run_eqlV run_neqV
attribute [local go_sem] ag.upon_value ag.upon_skip ag.upon_enter
attribute [local go_sem] Oper.semAt_some
abbrev two : List V := [ofN 1, null]
end Go.Proofs.Ytpkkhbmlclicfaa.val
/- De Morgan's law, and the other laws on values, as plain mathematics. -/
namespace Go.Proofs.Ytpkkhbmlclicfaa.val
set_option linter.unusedVariables false
open Go.RowKit
/-- NULL, or a bool -/
def isP (v : V) : Prop := v = null ∨ ∃ b, v = ofB b
theorem isP.good {v : V} (h : isP v) : Good v := by
  rcases h with rfl | ⟨b, rfl⟩
  · exact good_null
  · exact good_ofB b
section
variable {a b : Int} (ha : -9223372036854775808 ≤ a ∧ a ≤ 9223372036854775807) (hb : -9223372036854775808 ≤ b ∧ b ≤ 9223372036854775807) (h0 : b ≠ 0) (hm : ¬ (a = -9223372036854775808 ∧ b = -1))
end
end Go.Proofs.Ytpkkhbmlclicfaa.val
/- The document's order of values, walked. -/
namespace Go.Proofs.Ytpkkhbmlclicfaa.val
set_option linter.unusedVariables false
open Go.RowKit
theorem bl_drop : ∀ (i : Nat) (x y : List UInt8), x.take i = y.take i → i ≤ x.length → i ≤ y.length → Op.bytesLess x y = Op.bytesLess (x.drop i) (y.drop i)
  | 0, x, y, _, _, _ => rfl
  | i + 1, [], y, h, h1, _ => by simp at h1
  | i + 1, x, [], h, _, h2 => by simp at h2
  | i + 1, a :: x, b :: y, h, h1, h2 => by
    simp only [List.take_succ_cons, List.cons.injEq] at h
    obtain ⟨rfl, h⟩ := h
    rw [List.drop_succ_cons, List.drop_succ_cons, ← bl_drop i x y h (by simpa using h1) (by simpa using h2)]
    simp [Op.bytesLess]
theorem bl_end (x y : List UInt8) (i : Nat) (h : x.take i = y.take i) (h1 : i ≤ x.length) (h2 : i ≤ y.length) (he : i = x.length ∨ i = y.length) : Op.bytesLess x y = decide (x.length < y.length) := by
  rw [bl_drop i x y h h1 h2]
  rcases he with rfl | rfl
  · rw [List.drop_length]
    cases hy : y.drop x.length with
    | nil => have := List.drop_eq_nil_iff.1 hy; simp [Op.bytesLess]; omega
    | cons b l =>
      have : ¬ y.length ≤ x.length := fun h => by rw [List.drop_eq_nil_iff.2 h] at hy; cases hy
      simp [Op.bytesLess]; omega
  · rw [List.drop_length]
    cases x.drop y.length <;> simp [Op.bytesLess] <;> omega
theorem bl_at (x y : List UInt8) (i : Nat) (h : x.take i = y.take i) (h1 : i < x.length) (h2 : i < y.length) (hne : x[i] ≠ y[i]) : Op.bytesLess x y = decide (x[i] < y[i]) := by
  rw [bl_drop i x y h (by omega) (by omega), List.drop_eq_getElem_cons h1, List.drop_eq_getElem_cons h2]
  simp [Op.bytesLess, hne]
theorem toList_data (s : ByteArray) : s.toList = s.data.toList := ByteArray.toList_eq s
set_option maxRecDepth 100000 in
set_option maxHeartbeats 2000000 in
theorem before_txt (na nb : Int) (sa sb : ByteArray) (ha : sa.size ≤ 64) (hb : sb.size ≤ 64) (W : World) :
    Calls Try.prog 42 #[ag3 3 na sa, ag3 3 nb sb] W fun e w' => e = .returned (.bool (Op.bytesLess sa.toList sb.toList)) ∧ Below W.heap.size W w' := by
  rw [toList_data, toList_data]
  have la : sa.data.toList.length = sa.size := by rw [← ByteArray.size_data]; simp
  have lb : sb.data.toList.length = sb.size := by rw [← ByteArray.size_data]; simp
  have LA := Lib.hid la; have LB := Lib.hid lb
  have b1 : (sa.size : Int) ≤ 64 := by omega
  have b2 : (sb.size : Int) ≤ 64 := by omega
  have b3 : (0 : Int) ≤ sa.size := by omega
  have b4 : (0 : Int) ≤ sb.size := by omega
  obtain ⟨R, hR⟩ : ∃ R, Op.bytesLess sa.data.toList sb.data.toList = R := ⟨_, rfl⟩
  rw [hR]
  have HR := Lib.hid hR
  clear la lb hR
  go_enter Try.func42, Try.ntmps42
  go_wp2
  have hX : ∀ W', Below ((W.alloc (.cells #[.int .i64 3, .int .i64 na, .string sa] TR)).alloc (.cells #[.int .i64 3, .int .i64 nb, .string sb] TR)).heap.size ((W.alloc (.cells #[.int .i64 3, .int .i64 na, .string sa] TR)).alloc (.cells #[.int .i64 3, .int .i64 nb, .string sb] TR)) W' →
      W'.cell? ⟨W.heap.size, 2, none⟩ = some (.string sa) ∧ W'.cell? ⟨W.heap.size + 1, 2, none⟩ = some (.string sb) := fun W' hS => by
    refine ⟨cell_later (after (below_alloc1 _ _) hS) (cells_new W [.int .i64 3, .int .i64 na, .string sa] TR 2), ?_⟩
    have := cells_new (W.alloc (.cells #[.int .i64 3, .int .i64 na, .string sa] TR)) [.int .i64 3, .int .i64 nb, .string sb] TR 2
    rw [World.size_alloc] at this
    exact cell_later hS this
  have HX := Lib.hid hX
  have HB := Lib.hid (below_alloc2 W (.cells #[.int .i64 3, .int .i64 na, .string sa] TR) (.cells #[.int .i64 3, .int .i64 nb, .string sb] TR))
  clear hX
  generalize (W.alloc (.cells #[.int .i64 3, .int .i64 na, .string sa] TR)).alloc (.cells #[.int .i64 3, .int .i64 nb, .string sb] TR) = X at *
  go_loopw [5] (fun i wr => ∃ k : Nat, i = .int .i64 (k : Int) ∧ k ≤ sa.size ∧ k ≤ sb.size ∧ sa.data.toList.take k = sb.data.toList.take k ∧ Below X.heap.size X wr) (fun i _ => 64 - (intOf i).toNat)
  case atStart => exact ⟨0, rfl, by omega, by omega, rfl, Below.refl _ _⟩
  case round =>
    obtain ⟨k, rfl, hka, hkb, ht, hbl⟩ := hrel
    obtain ⟨c1, c2⟩ := HX.out _ hbl
    have HT := Lib.hid ht; have HBL := Lib.hid hbl
    have d0 : (0 : Int) ≤ (k : Int) := by omega
    clear ht hbl
    by_cases h1 : k < sa.size
    · have d1 : (k : Int) < (sa.size : Int) := by omega
      by_cases h2 : k < sb.size
      · have d2 : (k : Int) < (sb.size : Int) := by omega
        by_cases he : sa[k] = sb[k]
        · have e1 : ((sa[k].toNat : Int) == (sb[k].toNat : Int)) = true := by simp [he]
          have e2 : ((sa[k].toNat : Int) != (sb[k].toNat : Int)) = false := by simp [he]
          have HE := Lib.hid he
          clear he
          go_wp2
          go_quiet (fail)
          go_wp2
          go_roundw
          case rel => exact ⟨k + 1, by go_num, by omega, by omega, by rw [take_snoc sa k h1, take_snoc sb k h2, HT.out, HE.out], below_drewN HBL.out _⟩
          case measure => simp [intOf]; omega
        · have e1 : ((sa[k].toNat : Int) == (sb[k].toNat : Int)) = false := by
            simp only [beq_eq_false_iff_ne, ne_eq]; intro h; exact he (UInt8.toNat_inj.1 (by omega))
          have e2 : ((sa[k].toNat : Int) != (sb[k].toNat : Int)) = true := by
            simp only [bne_iff_ne, ne_eq]; intro h; exact he (UInt8.toNat_inj.1 (by omega))
          have HE := Lib.hid he
          clear he
          go_wp2
          go_quiet (fail)
          go_wp2
          go_quiet (fail)
          go_wp2
          go_ret
          refine ⟨ret_bool ?_, ?_⟩
          · rw [← HR.out, bl_at _ _ k HT.out (by rw [LA.out]; exact h1) (by rw [LB.out]; exact h2) HE.out]
            show _ = decide (sa[k] < sb[k])
            rw [decide_eq_decide, UInt8.lt_iff_toNat_lt]
          · exact HB.out.trans ((below_drewN (below_drewN HBL.out _) _).mono HB.out.size)
      · have d2 : ¬ (k : Int) < (sb.size : Int) := by omega
        go_wp2
        go_ret
        refine ⟨ret_bool ?_, HB.out.trans (HBL.out.mono HB.out.size)⟩
        rw [← HR.out, bl_end _ _ k HT.out (by rw [LA.out]; omega) (by rw [LB.out]; omega) (.inr (by rw [LB.out]; omega)), LA.out, LB.out]
    · have d1 : ¬ (k : Int) < (sa.size : Int) := by omega
      go_wp2
      go_ret
      refine ⟨ret_bool ?_, HB.out.trans (HBL.out.mono HB.out.size)⟩
      rw [← HR.out, bl_end _ _ k HT.out (by rw [LA.out]; omega) (by rw [LB.out]; omega) (.inl (by rw [LA.out]; omega)), LA.out, LB.out]
set_option maxHeartbeats 1000000 in
/-- The document's order of two values that may be. -/
theorem before_any (ka na kb nb : Int) (sa sb : ByteArray) (ga : Good ⟨ka, na, sa⟩) (gb : Good ⟨kb, nb, sb⟩) (W : World) :
    Calls Try.prog 42 #[ag3 ka na sa, ag3 kb nb sb] W fun e w' => e = .returned (.bool (less ⟨ka, na, sa⟩ ⟨kb, nb, sb⟩)) ∧ Below W.heap.size W w' := by
  by_cases ek : ka = kb
  · subst ek
    by_cases e3 : ka = 3
    · subst e3
      have h1 : sa.size ≤ 64 := (good_text ga rfl).2
      have h2 : sb.size ≤ 64 := (good_text gb rfl).2
      exact before_txt na nb sa sb h1 h2 W
    · have E : less ⟨ka, na, sa⟩ ⟨ka, nb, sb⟩ = decide (na < nb) := by unfold less; rw [if_pos rfl, if_neg e3]
      have k3 : (ka == 3) = false := by simpa using e3
      rw [E]
      clear E e3 ga gb
      go_enter Try.func42, Try.ntmps42
      go_wp2
      go_ret
      exact ⟨rfl, below_alloc2 _ _ _⟩
  · have E : less ⟨ka, na, sa⟩ ⟨kb, nb, sb⟩ = decide (ka < kb) := by unfold less; rw [if_neg ek]
    have k3 : (ka == kb) = false := by simpa using ek
    have k4 : (ka != kb) = true := by simpa using ek
    rw [E]
    clear E ek ga gb
    go_enter Try.func42, Try.ntmps42
    go_wp2
    go_ret
    exact ⟨rfl, below_alloc2 _ _ _⟩
end Go.Proofs.Ytpkkhbmlclicfaa.val
/- The document's operators on values, walked. -/
namespace Go.Proofs.Ytpkkhbmlclicfaa.val
set_option linter.unusedVariables false
open Go.RowKit
theorem run_eqR (k n : Int) (s : ByteArray) (k' n' : Int) (s' : ByteArray) (w : World) : (binOp .eql 86 (ag3 k n s) (ag3 k' n' s')).run Try.prog w = .ok (.bool (veq6 k n s k' n' s')) w := by
  rw [run_eql_struct]
  go_simp
  unfold veq6
  by_cases h1 : k = k' <;> by_cases h2 : n = n' <;> by_cases h3 : s.toList = s'.toList <;> simp [h1, h2, h3]
theorem run_neR (k n : Int) (s : ByteArray) (k' n' : Int) (s' : ByteArray) (w : World) : (binOp .neq 86 (ag3 k n s) (ag3 k' n' s')).run Try.prog w = .ok (.bool (!veq6 k n s k' n' s')) w := by
  rw [run_neq_struct]
  go_simp
  unfold veq6
  by_cases h1 : k = k' <;> by_cases h2 : n = n' <;> by_cases h3 : s.toList = s'.toList <;> simp [h1, h2, h3]
attribute [local go_sem high] run_eqR run_neR
end Go.Proofs.Ytpkkhbmlclicfaa.val
/- The document's key and order of rows, walked. -/
namespace Go.Proofs.Ytpkkhbmlclicfaa.val
set_option linter.unusedVariables false
open Go.RowKit
set_option maxRecDepth 100000 in
set_option maxHeartbeats 4000000 in
theorem refkey_any (v : Value) (l : List V) (hg : ∀ x ∈ l, Good x) (hm : l.length ≤ 1000000) (w : World) (hv : IsRow w v l) :
    Calls Try.prog 32 #[v] w fun e w' => e = .returned (.string ⟨(keyB l).toArray⟩) ∧ Below w.heap.size w w' := by
  obtain ⟨i0, hi, hz0, hz1, hz2⟩ := info_parts infoStr
  have HV := Lib.hid hv
  have HG := Lib.hid hg
  obtain ⟨a, cap, rfl, -⟩ := hv
  have hn0 : (0 : Int) ≤ (l.length : Int) := by omega
  have hn1 : (l.length : Int) ≤ 1000000 := by omega
  clear hg
  go_enter Try.func32, Try.ntmps32
  go_wp2
  go_loopw [3, 4] (fun sv i wr => ∃ k : Nat, i = .int .i64 (k : Int) ∧ k ≤ l.length ∧ Hid (wr.ownsRow w.heap.size 9 1 sv k (((l.take k).map encS).map Value.string)) ∧ Hid (Below w.heap.size w wr)) (fun _ i _ => l.length - (intOf i).toNat)
  case atStart => exact ⟨0, rfl, by omega, Lib.hid (World.ownsRow_nil _ _ _ _), Lib.hid (Below.refl _ _)⟩
  case round =>
    obtain ⟨k, rfl, hk, HO, HB⟩ := hrel
    have hd0 : (0 : Int) ≤ (k : Int) := by omega
    by_cases h1 : k < l.length
    · have d1 : (k : Int) < (l.length : Int) := by omega
      obtain ⟨b, off, cap', ea, hcell⟩ := (HV.out.later HB.out).pos (by omega)
      simp only [Value.slice.injEq] at ea
      obtain ⟨rfl, -, rfl⟩ := ea
      obtain ⟨c0, c1, c2⟩ := vCells_at l k _ (List.getElem?_eq_getElem h1)
      have g0 := (hcell (k * 3) (by omega)).trans c0
      have g1 := (hcell (k * 3 + 1) (by omega)).trans c1
      have g2 := (hcell (k * 3 + 2) (by omega)).trans c2
      rw [← Nat.add_assoc] at g1 g2
      have hgk := HG.out _ (List.getElem_mem h1)
      have HT := Lib.hid (take_map_snoc encS l k h1)
      generalize l[k] = x at *
      obtain ⟨xk, xn, xs⟩ := x
      dsimp only at g0 g1 g2
      have lb := World.block_lt_of_cell? wr _ g0
      dsimp only at lb
      clear hcell c0 c1 c2
      have HE := Lib.hid (enc_len hgk)
      have hcv0 := run_convert1
      have hcv1 := cvr1
      unfold Good at hgk
      dsimp only at hgk
      rcases hgk with ⟨rfl, rfl, rfl⟩ | ⟨rfl, h2, rfl⟩ | ⟨rfl, rfl, h2⟩ | ⟨rfl, rfl, h2⟩
      · go_upto_region 10 with fail
        obtain ⟨Y, hY⟩ : ∃ Y, wr.alloc (.cells #[.int .u8 0] 5) = Y := ⟨_, rfl⟩
        have HBX : Hid (Below wr.heap.size wr Y) := Lib.hid (by rw [← hY]; exact below_alloc1 _ _)
        rw [hY]
        clear hY
        have g3 : Y.cell? ⟨b, off + k * 3 + 2, none⟩ = some (.string _) := cell_later HBX.out g2
        have E : strOfNums [0] = encS ⟨0, 0, ByteArray.empty⟩ := rfl
        have HE2 := Lib.hid E
        have hown1 := owns_below HO.out HBX.out
        clear g0 g1 g2 E hcv0 hcv1
        go_wp2_with (at_builtin; refine wpList_append_own _ rfl _ _ 46 rfl w.heap.size 9 i0 (.string ⟨#[]⟩) 1 16 Try.underlying46 hi hz0 hz1 hz2 rfl (by decide) _ _ _ rfl (hown1.alloc _) ⟨Y.heap.size, 0, none⟩ 1 1 [.string _] rfl rfl (cell_one_new _ _ _) (by intro u hu; simp at hu; subst hu; rfl) (by unfold maxLen; omega) (by omega) (by have := HBX.out.size; have := HB.out.size; simp only [World.size_alloc] at *; omega) ?_; intro v' w2 hown' hgrow _)
        have hB2 : Below w.heap.size w w2 := ((HB.out.trans (HBX.out.mono HB.out.size)).alloc (by have := HBX.out.size; have := HB.out.size; omega) _).grown hgrow (by have := HBX.out.size; have := HB.out.size; simp only [World.size_alloc] at *; omega) (fun k hk => (hown1.lt k hk).1)
        have HO2 := Lib.hid hown'
        have HB2 := Lib.hid hB2
        clear hown1 hown' hgrow hB2
        go_wp2
        go_roundw
        case rel => exact ⟨k + 1, by go_num, by omega, Lib.hid (by rw [HT.out, List.map_append]; have h := HO2.out; rw [HE2.out] at h; simpa using h), HB2⟩
        case measure => simp [intOf]; omega
      · rcases h2 with rfl | rfl
        · go_upto_region 10 with fail
          obtain ⟨Y, hY⟩ : ∃ Y, (wr.alloc (.cells #[.int .u8 1] 5)).alloc (.cells #[.int .u8 0] 5) = Y := ⟨_, rfl⟩
          have HBX : Hid (Below wr.heap.size wr Y) := Lib.hid (by rw [← hY]; exact below_alloc2 _ _ _)
          rw [hY]
          clear hY
          have g3 : Y.cell? ⟨b, off + k * 3 + 2, none⟩ = some (.string _) := cell_later HBX.out g2
          have E : strOfNums [1] ++ strOfNums [0] = encS ⟨1, 0, ByteArray.empty⟩ := rfl
          have HE2 := Lib.hid E
          have hown1 := owns_below HO.out HBX.out
          clear g0 g1 g2 E hcv0 hcv1
          go_wp2_with (at_builtin; refine wpList_append_own _ rfl _ _ 46 rfl w.heap.size 9 i0 (.string ⟨#[]⟩) 1 16 Try.underlying46 hi hz0 hz1 hz2 rfl (by decide) _ _ _ rfl (hown1.alloc _) ⟨Y.heap.size, 0, none⟩ 1 1 [.string _] rfl rfl (cell_one_new _ _ _) (by intro u hu; simp at hu; subst hu; rfl) (by unfold maxLen; omega) (by omega) (by have := HBX.out.size; have := HB.out.size; simp only [World.size_alloc] at *; omega) ?_; intro v' w2 hown' hgrow _)
          have hB2 : Below w.heap.size w w2 := ((HB.out.trans (HBX.out.mono HB.out.size)).alloc (by have := HBX.out.size; have := HB.out.size; omega) _).grown hgrow (by have := HBX.out.size; have := HB.out.size; simp only [World.size_alloc] at *; omega) (fun k hk => (hown1.lt k hk).1)
          have HO2 := Lib.hid hown'
          have HB2 := Lib.hid hB2
          clear hown1 hown' hgrow hB2
          go_wp2
          go_roundw
          case rel => exact ⟨k + 1, by go_num, by omega, Lib.hid (by rw [HT.out, List.map_append]; have h := HO2.out; rw [HE2.out] at h; simpa using h), HB2⟩
          case measure => simp [intOf]; omega
        · go_upto_region 10 with fail
          obtain ⟨Y, hY⟩ : ∃ Y, (wr.alloc (.cells #[.int .u8 1] 5)).alloc (.cells #[.int .u8 1] 5) = Y := ⟨_, rfl⟩
          have HBX : Hid (Below wr.heap.size wr Y) := Lib.hid (by rw [← hY]; exact below_alloc2 _ _ _)
          rw [hY]
          clear hY
          have g3 : Y.cell? ⟨b, off + k * 3 + 2, none⟩ = some (.string _) := cell_later HBX.out g2
          have E : strOfNums [1] ++ strOfNums [1] = encS ⟨1, 1, ByteArray.empty⟩ := rfl
          have HE2 := Lib.hid E
          have hown1 := owns_below HO.out HBX.out
          clear g0 g1 g2 E hcv0 hcv1
          go_wp2_with (at_builtin; refine wpList_append_own _ rfl _ _ 46 rfl w.heap.size 9 i0 (.string ⟨#[]⟩) 1 16 Try.underlying46 hi hz0 hz1 hz2 rfl (by decide) _ _ _ rfl (hown1.alloc _) ⟨Y.heap.size, 0, none⟩ 1 1 [.string _] rfl rfl (cell_one_new _ _ _) (by intro u hu; simp at hu; subst hu; rfl) (by unfold maxLen; omega) (by omega) (by have := HBX.out.size; have := HB.out.size; simp only [World.size_alloc] at *; omega) ?_; intro v' w2 hown' hgrow _)
          have hB2 : Below w.heap.size w w2 := ((HB.out.trans (HBX.out.mono HB.out.size)).alloc (by have := HBX.out.size; have := HB.out.size; omega) _).grown hgrow (by have := HBX.out.size; have := HB.out.size; simp only [World.size_alloc] at *; omega) (fun k hk => (hown1.lt k hk).1)
          have HO2 := Lib.hid hown'
          have HB2 := Lib.hid hB2
          clear hown1 hown' hgrow hB2
          go_wp2
          go_roundw
          case rel => exact ⟨k + 1, by go_num, by omega, Lib.hid (by rw [HT.out, List.map_append]; have h := HO2.out; rw [HE2.out] at h; simpa using h), HB2⟩
          case measure => simp [intOf]; omega
      · have HR2 := Lib.hid (refInt_any xn h2)
        go_upto_region 10 with (first | (go_at_call 48; (with_reducible refine (HR2.out _).mono ?_); rintro e w1 ⟨rfl, hb1⟩; have HB1 := Lib.hid hb1; clear hb1))
        obtain ⟨Y, hY⟩ : ∃ Y, w1 = Y := ⟨_, rfl⟩
        have HBX : Hid (Below wr.heap.size wr Y) := Lib.hid (by rw [← hY]; exact after (below_alloc1 _ _) HB1.out)
        rw [hY]
        clear hY
        have g3 : Y.cell? ⟨b, off + k * 3 + 2, none⟩ = some (.string _) := cell_later HBX.out g2
        have E : strOfNums [2] ++ ⟨(intB xn).toArray⟩ = encS ⟨2, xn, ByteArray.empty⟩ := str_cat _ _
        have HE2 := Lib.hid E
        have hown1 := owns_below HO.out HBX.out
        clear g0 g1 g2 E hcv0 hcv1
        go_wp2_with (at_builtin; refine wpList_append_own _ rfl _ _ 46 rfl w.heap.size 9 i0 (.string ⟨#[]⟩) 1 16 Try.underlying46 hi hz0 hz1 hz2 rfl (by decide) _ _ _ rfl (hown1.alloc _) ⟨Y.heap.size, 0, none⟩ 1 1 [.string _] rfl rfl (cell_one_new _ _ _) (by intro u hu; simp at hu; subst hu; rfl) (by unfold maxLen; omega) (by omega) (by have := HBX.out.size; have := HB.out.size; simp only [World.size_alloc] at *; omega) ?_; intro v' w2 hown' hgrow _)
        have hB2 : Below w.heap.size w w2 := ((HB.out.trans (HBX.out.mono HB.out.size)).alloc (by have := HBX.out.size; have := HB.out.size; omega) _).grown hgrow (by have := HBX.out.size; have := HB.out.size; simp only [World.size_alloc] at *; omega) (fun k hk => (hown1.lt k hk).1)
        have HO2 := Lib.hid hown'
        have HB2 := Lib.hid hB2
        clear hown1 hown' hgrow hB2
        go_wp2
        go_roundw
        case rel => exact ⟨k + 1, by go_num, by omega, Lib.hid (by rw [HT.out, List.map_append]; have h := HO2.out; rw [HE2.out] at h; simpa using h), HB2⟩
        case measure => simp [intOf]; omega
      · have hl3 : ¬ 9223372036854775807 < (strOfNums [3]).size + xs.size := by
          have e : (strOfNums [3]).size = 1 := rfl
          rw [e]; omega
        go_upto_region 10 with fail
        obtain ⟨Y, hY⟩ : ∃ Y, wr.alloc (.cells #[.int .u8 3] 5) = Y := ⟨_, rfl⟩
        have HBX : Hid (Below wr.heap.size wr Y) := Lib.hid (by rw [← hY]; exact below_alloc1 _ _)
        rw [hY]
        clear hY
        have g3 : Y.cell? ⟨b, off + k * 3 + 2, none⟩ = some (.string _) := cell_later HBX.out g2
        have E : strOfNums [3] ++ xs = encS ⟨3, 0, xs⟩ := str_cat _ _
        have HE2 := Lib.hid E
        have hown1 := owns_below HO.out HBX.out
        clear g0 g1 g2 E hcv0 hcv1
        go_wp2_with (at_builtin; refine wpList_append_own _ rfl _ _ 46 rfl w.heap.size 9 i0 (.string ⟨#[]⟩) 1 16 Try.underlying46 hi hz0 hz1 hz2 rfl (by decide) _ _ _ rfl (hown1.alloc _) ⟨Y.heap.size, 0, none⟩ 1 1 [.string _] rfl rfl (cell_one_new _ _ _) (by intro u hu; simp at hu; subst hu; rfl) (by unfold maxLen; omega) (by omega) (by have := HBX.out.size; have := HB.out.size; simp only [World.size_alloc] at *; omega) ?_; intro v' w2 hown' hgrow _)
        have hB2 : Below w.heap.size w w2 := ((HB.out.trans (HBX.out.mono HB.out.size)).alloc (by have := HBX.out.size; have := HB.out.size; omega) _).grown hgrow (by have := HBX.out.size; have := HB.out.size; simp only [World.size_alloc] at *; omega) (fun k hk => (hown1.lt k hk).1)
        have HO2 := Lib.hid hown'
        have HB2 := Lib.hid hB2
        clear hown1 hown' hgrow hB2
        go_wp2
        go_roundw
        case rel => exact ⟨k + 1, by go_num, by omega, Lib.hid (by rw [HT.out, List.map_append]; have h := HO2.out; rw [HE2.out] at h; simpa using h), HB2⟩
        case measure => simp [intOf]; omega
    · have d1 : ¬ (k : Int) < (l.length : Int) := by omega
      have hk2 : k = l.length := by omega
      subst hk2
      have HR : Hid (Row wr _ 1 (l.map encS).length ((l.map encS).map Value.string)) := Lib.hid (by have h := Row.of_owns HO.out; rw [List.take_length] at h; rwa [List.length_map])
      have HL := Lib.hid (keyB_len l HG.out)
      go_wp2_with (go_at_call 18; (with_reducible refine (refPack_any _ (l.map encS) _ (by rw [List.length_map]; omega) HR.out (by have := HL.out; unfold keyB at this; omega)).mono ?_); rintro e w1 ⟨rfl, hb1⟩)
      go_ret
      exact ⟨rfl, HB.out.trans (hb1.mono HB.out.size)⟩
/-- does a row stand ahead of another one? -/
def beforeL : List V → List V → Bool
  | [], [] => false
  | [], _ :: _ => true
  | _ :: _, [] => false
  | a :: l, b :: m => if veq a b = true then beforeL l m else less a b
theorem beforeL_end {l m : List V} (k : Nat) (h : l.length ≤ k ∨ m.length ≤ k) (h1 : k ≤ l.length) (h2 : k ≤ m.length) : beforeL (l.drop k) (m.drop k) = decide (l.length < m.length) := by
  rcases h with h | h
  · have hk : k = l.length := by omega
    subst hk
    rw [List.drop_length]
    by_cases h3 : l.length < m.length
    · rw [List.drop_eq_getElem_cons h3]; simp [beforeL, h3]
    · rw [List.drop_eq_nil_iff.2 (by omega)]; simp [beforeL, h3]
  · have hk : k = m.length := by omega
    subst hk
    rw [List.drop_length]
    have h3 : ¬ l.length < m.length := by omega
    cases hd : l.drop m.length <;> simp [beforeL, h3]
theorem beforeL_step {l m : List V} (k : Nat) (h : k < l.length) (hk : k < m.length) : beforeL (l.drop k) (m.drop k) = if veq l[k] m[k] = true then beforeL (l.drop (k + 1)) (m.drop (k + 1)) else less l[k] m[k] := by
  rw [List.drop_eq_getElem_cons h, List.drop_eq_getElem_cons hk]; rfl
attribute [local go_sem high] run_eqR run_neR
set_option maxRecDepth 100000 in
set_option maxHeartbeats 4000000 in
theorem refbefore_any (va vb : Value) (l m : List V) (hgl : ∀ x ∈ l, Good x) (hgm : ∀ x ∈ m, Good x) (hl : l.length ≤ 1000000) (hm : m.length ≤ 1000000) (w : World) (ha : IsRow w va l) (hb : IsRow w vb m) :
    Calls Try.prog 27 #[va, vb] w fun e w' => e = .returned (.bool (beforeL l m)) ∧ Below w.heap.size w w' := by
  have HA := Lib.hid ha; have HB := Lib.hid hb
  have HGL := Lib.hid hgl; have HGM := Lib.hid hgm
  obtain ⟨aa, ca, rfl, -⟩ := ha
  obtain ⟨ab, cb, rfl, -⟩ := hb
  obtain ⟨R, hR⟩ : ∃ R, beforeL l m = R := ⟨_, rfl⟩
  have HR := Lib.hid hR
  rw [hR]
  clear hR hgl hgm
  have hn0 : (0 : Int) ≤ (l.length : Int) := by omega
  have hn1 : (l.length : Int) ≤ 1000000 := by omega
  have ho0 : (0 : Int) ≤ (m.length : Int) := by omega
  have ho1 : (m.length : Int) ≤ 1000000 := by omega
  go_enter Try.func27, Try.ntmps27
  go_wp2
  go_loopw [5] (fun i wr => ∃ k : Nat, i = .int .i64 (k : Int) ∧ k ≤ l.length ∧ k ≤ m.length ∧ Hid (beforeL (l.drop k) (m.drop k) = R) ∧ Hid (Below w.heap.size w wr)) (fun i _ => l.length - (intOf i).toNat)
  case atStart => exact ⟨0, rfl, by omega, by omega, HR, Lib.hid (Below.refl _ _)⟩
  case round =>
    obtain ⟨k, rfl, hk, hk2, HC, HW⟩ := hrel
    have hd0 : (0 : Int) ≤ (k : Int) := by omega
    by_cases h1 : k < l.length
    · have d1 : (k : Int) < (l.length : Int) := by omega
      by_cases h2 : k < m.length
      · have d2 : (k : Int) < (m.length : Int) := by omega
        obtain ⟨b, off, cap', ea, hcell⟩ := (HA.out.later HW.out).pos (by omega)
        simp only [Value.slice.injEq] at ea
        obtain ⟨rfl, -, rfl⟩ := ea
        obtain ⟨c0, c1, c2⟩ := vCells_at l k _ (List.getElem?_eq_getElem h1)
        have g0 := (hcell (k * 3) (by omega)).trans c0
        have g1 := (hcell (k * 3 + 1) (by omega)).trans c1
        have g2 := (hcell (k * 3 + 2) (by omega)).trans c2
        rw [← Nat.add_assoc] at g1 g2
        clear hcell c0 c1 c2
        obtain ⟨b', off', cap', ea, hcell⟩ := (HB.out.later HW.out).pos (by omega)
        simp only [Value.slice.injEq] at ea
        obtain ⟨rfl, -, rfl⟩ := ea
        obtain ⟨c0, c1, c2⟩ := vCells_at m k _ (List.getElem?_eq_getElem h2)
        have g3 := (hcell (k * 3) (by omega)).trans c0
        have g4 := (hcell (k * 3 + 1) (by omega)).trans c1
        have g5 := (hcell (k * 3 + 2) (by omega)).trans c2
        rw [← Nat.add_assoc] at g4 g5
        clear hcell c0 c1 c2
        have HS := Lib.hid (beforeL_step k h1 h2)
        have hga := HGL.out _ (List.getElem_mem h1)
        have hgb := HGM.out _ (List.getElem_mem h2)
        generalize l[k] = x at *
        generalize m[k] = y at *
        obtain ⟨xk, xn, xs⟩ := x
        obtain ⟨yk, yn, ys⟩ := y
        dsimp only at g0 g1 g2 g3 g4 g5
        have HX := Lib.hid (fun W => before_any xk xn yk yn xs ys hga hgb W)
        obtain ⟨c, hc⟩ : ∃ c, veq6 xk xn xs yk yn ys = c := ⟨_, rfl⟩
        have HCC := Lib.hid hc
        have hcn : (!veq6 xk xn xs yk yn ys) = !c := by rw [hc]
        clear hga hgb
        have he : veq6 xk xn xs yk yn ys = c := hc
        clear hc hcn
        cases c
        · have hs : beforeL (l.drop k) (m.drop k) = less ⟨xk, xn, xs⟩ ⟨yk, yn, ys⟩ := by rw [HS.out, if_neg]; show ¬ veq6 xk xn xs yk yn ys = true; rw [HCC.out]; simp
          have HSS := Lib.hid hs
          clear hs
          go_wp2
          go_quiet (fail)
          go_wp2
          have HK := Lib.hid (fun W (hb : Below w.heap.size w W) => hb)
          go_region_with (go_at_call 42; (refine (HX.out _).mono ?_); rintro e w2 ⟨rfl, hb2⟩; have HB2 := Lib.hid hb2; clear hb2)
          all_goals
            go_wp2
            go_ret
            refine ⟨ret_bool (by rw [← HC.out, HSS.out]), ?_⟩
            exact (below_drewN HW.out _).trans (HB2.out.mono HW.out.size)
        · have hs : beforeL (l.drop k) (m.drop k) = beforeL (l.drop (k + 1)) (m.drop (k + 1)) := by rw [HS.out, if_pos]; exact HCC.out
          have HSS := Lib.hid hs
          clear hs
          go_wp2
          go_quiet (fail)
          go_wp2
          go_roundw
          case rel => exact ⟨k + 1, by go_num, by omega, by omega, Lib.hid (by rw [← HSS.out]; exact HC.out), Lib.hid (below_drewN HW.out _)⟩
          case measure => simp [intOf]; omega
      · have d2 : ¬ (k : Int) < (m.length : Int) := by omega
        have HS := Lib.hid (beforeL_end (l := l) (m := m) k (.inr (by omega)) hk hk2)
        have e2 : ¬ (l.length : Int) < (m.length : Int) := by omega
        have e3 : ¬ l.length < m.length := by omega
        go_wp2_with fail
        go_ret
        exact ⟨ret_bool (by rw [← HC.out, HS.out]; simp [e3]), HW.out⟩
    · have d1 : ¬ (k : Int) < (l.length : Int) := by omega
      have HS := Lib.hid (beforeL_end (l := l) (m := m) k (.inl (by omega)) hk hk2)
      go_wp2_with fail
      go_ret
      exact ⟨ret_bool (by rw [← HC.out, HS.out]), HW.out⟩
/-- are both rows the same? -/
def sameB (l m : List V) : Bool := !beforeL l m && !beforeL m l
theorem refsame_any (va vb : Value) (l m : List V) (hgl : ∀ x ∈ l, Good x) (hgm : ∀ x ∈ m, Good x) (hl : l.length ≤ 1000000) (hm : m.length ≤ 1000000) (w : World) (ha : IsRow w va l) (hb : IsRow w vb m) :
    Calls Try.prog 10 #[va, vb] w fun e w' => e = .returned (.bool (sameB l m)) ∧ Below w.heap.size w w' := by
  unfold sameB
  obtain ⟨p, hp⟩ : ∃ p, beforeL l m = p := ⟨_, rfl⟩
  obtain ⟨q, hq⟩ : ∃ q, beforeL m l = q := ⟨_, rfl⟩
  have H1 := Lib.hid (fun W (hbw : Below w.heap.size w W) => by have h := refbefore_any va vb l m hgl hgm hl hm W (ha.later hbw) (hb.later hbw); rwa [hp] at h)
  have H2 := Lib.hid (fun W (hbw : Below w.heap.size w W) => by have h := refbefore_any vb va m l hgm hgl hm hl W (hb.later hbw) (ha.later hbw); rwa [hq] at h)
  rw [hp, hq]
  clear hp hq ha hb hgl hgm
  cases p
  · go_enter Try.func10, Try.ntmps10
    go_wp2_with fail
    (with_reducible refine (H1.out _ (Below.refl _ _)).mono ?_); rintro e w1 ⟨rfl, hb1⟩
    have HB1 := Lib.hid hb1
    clear hb1
    go_wp2_with fail
    (with_reducible refine (H2.out _ HB1.out).mono ?_); rintro e w2 ⟨rfl, hb2⟩
    have HB2 := Lib.hid hb2
    clear hb2
    cases q
    all_goals
      go_wp2_with fail
      go_ret
      exact ⟨rfl, HB1.out.trans (HB2.out.mono HB1.out.size)⟩
  · go_enter Try.func10, Try.ntmps10
    go_wp2_with fail
    (with_reducible refine (H1.out _ (Below.refl _ _)).mono ?_); rintro e w1 ⟨rfl, hb1⟩
    have HB1 := Lib.hid hb1
    clear hb1
    go_wp2_with fail
    go_ret
    exact ⟨rfl, HB1.out⟩
/-! ### The order of rows, as it is. -/
theorem beforeL_self (l : List V) : beforeL l l = false := by
  induction l with
  | nil => rfl
  | cons a l ih => simp [beforeL, veq_self, ih]
theorem sameB_iff : ∀ (l m : List V), (∀ x ∈ l, Good x) → (∀ x ∈ m, Good x) → (sameB l m = true ↔ l = m)
  | [], [], _, _ => by simp [sameB, beforeL]
  | [], b :: m, _, _ => by simp [sameB, beforeL]
  | a :: l, [], _, _ => by simp [sameB, beforeL]
  | a :: l, b :: m, h1, h2 => by
    have ih := sameB_iff l m (fun x hx => h1 x (by simp [hx])) (fun x hx => h2 x (by simp [hx]))
    unfold sameB at ih ⊢
    by_cases e : a = b
    · subst e
      simp only [beforeL, veq_self, if_true, ih, List.cons.injEq, true_and]
    · have e1 : veq a b = false := (veq_false a b).2 e
      have e2 : veq b a = false := (veq_false b a).2 (fun h => e h.symm)
      simp only [beforeL, e1, e2, Bool.false_eq_true, if_false, List.cons.injEq, e, false_and, iff_false, Bool.not_eq_true, Bool.and_eq_false_iff, Bool.not_eq_false']
      cases h3 : less a b with
      | true => exact .inl rfl
      | false =>
        refine .inr ?_
        cases h4 : less b a with
        | true => rfl
        | false => exact absurd (less_total a b (h1 a (by simp)) (h2 b (by simp)) h3 h4) e
theorem cmpV_self (a : V) : cmpV a a = 0 := by
  unfold cmpV; simp [or3, cmpI, cmpS, bl_irrefl]
end Go.Proofs.Ytpkkhbmlclicfaa.val
/- The order of rows as plain mathematics: total, and a sorted list is one. -/
namespace Go.Proofs.Ytpkkhbmlclicfaa.val
set_option linter.unusedVariables false
theorem bl_trans : ∀ x y z : List UInt8, Op.bytesLess x y = true → Op.bytesLess y z = true → Op.bytesLess x z = true
  | [], y, [], h1, h2 => by cases y <;> simp [Op.bytesLess] at h1 h2
  | [], _, c :: z, _, _ => rfl
  | a :: x, [], z, h, _ => by simp [Op.bytesLess] at h
  | a :: x, b :: y, [], _, h => by simp [Op.bytesLess] at h
  | a :: x, b :: y, c :: z, h1, h2 => by
    simp only [Op.bytesLess] at h1 h2 ⊢
    by_cases e1 : a = b
    · subst e1
      by_cases e2 : a = c
      · subst e2
        simp at h1 h2 ⊢
        exact bl_trans x y z h1 h2
      · simp [e2] at h2 ⊢; exact h2
    · simp [e1] at h1
      by_cases e2 : b = c
      · subst e2
        simp [e1]; exact h1
      · simp [e2] at h2
        have h3 : a < c := UInt8.lt_trans h1 h2
        have e3 : a ≠ c := fun e => by subst e; exact UInt8.lt_irrefl _ h3
        simp [e3]; exact h3
theorem less_trans (a b c : V) (h1 : less a b = true) (h2 : less b c = true) : less a c = true := by
  unfold less at h1 h2 ⊢
  by_cases e1 : a.k = b.k
  · rw [if_pos e1] at h1
    by_cases e2 : b.k = c.k
    · rw [if_pos e2] at h2
      rw [if_pos (e1.trans e2)]
      by_cases e3 : a.k = 3
      · rw [if_pos e3] at h1 ⊢
        rw [if_pos (by omega)] at h2
        exact bl_trans _ _ _ h1 h2
      · rw [if_neg e3] at h1 ⊢
        rw [if_neg (by omega)] at h2
        simp at h1 h2 ⊢; omega
    · rw [if_neg e2] at h2
      rw [if_neg (by omega)]
      simp at h2 ⊢; omega
  · rw [if_neg e1] at h1
    by_cases e2 : b.k = c.k
    · rw [if_neg (by omega)]; simp at h1 ⊢; omega
    · rw [if_neg e2] at h2
      simp at h1 h2
      rw [if_neg (by omega)]; simp; omega
theorem beforeL_trans : ∀ l m n : List V, beforeL l m = true → beforeL m n = true → beforeL l n = true
  | [], m, [], h1, h2 => by cases m <;> simp [beforeL] at h1 h2
  | [], _, c :: n, _, _ => rfl
  | a :: l, [], n, h, _ => by simp [beforeL] at h
  | a :: l, b :: m, [], _, h => by simp [beforeL] at h
  | a :: l, b :: m, c :: n, h1, h2 => by
    simp only [beforeL] at h1 h2 ⊢
    by_cases e1 : veq a b = true
    · rw [if_pos e1] at h1
      have e := (veq_iff a b).1 e1
      subst e
      by_cases e2 : veq a c = true
      · rw [if_pos e2] at h2 ⊢
        exact beforeL_trans l m n h1 h2
      · rw [if_neg e2] at h2 ⊢; exact h2
    · rw [if_neg e1] at h1
      by_cases e2 : veq b c = true
      · have e := (veq_iff b c).1 e2
        subst e
        rw [if_neg e1]; exact h1
      · rw [if_neg e2] at h2
        have h3 := less_trans a b c h1 h2
        rw [if_neg (fun e => by rw [(veq_iff a c).1 e, less_irrefl] at h3; cases h3)]; exact h3
abbrev Goods (l : List V) : Prop := ∀ x ∈ l, Good x
theorem beforeL_total (l m : List V) (hl : Goods l) (hm : Goods m) (h1 : beforeL l m = false) (h2 : beforeL m l = false) : l = m :=
  (sameB_iff l m hl hm).1 (by unfold sameB; rw [h1, h2]; rfl)
theorem beforeL_asymm (l m : List V) (h : beforeL l m = true) : beforeL m l = false := by
  cases h2 : beforeL m l with
  | false => rfl
  | true => have := beforeL_trans l m l h h2; rw [beforeL_self] at this; cases this
theorem cmpL_lt : ∀ l m : List V, Goods l → Goods m → (cmpL l m < 0 ↔ beforeL l m = true) ∧ (0 < cmpL l m ↔ beforeL m l = true)
  | [], [], _, _ => by simp [cmpL, beforeL]
  | [], b :: m, _, _ => by simp [cmpL, beforeL]
  | a :: l, [], _, _ => by simp [cmpL, beforeL]
  | a :: l, b :: m, h1, h2 => by
    have ih := cmpL_lt l m (fun x hx => h1 x (by simp [hx])) (fun x hx => h2 x (by simp [hx]))
    obtain ⟨c1, c2, c3⟩ := cmpV_iff a b (h1 a (by simp)) (h2 b (by simp))
    simp only [cmpL, beforeL]
    by_cases e : a = b
    · subst e
      rw [if_pos (cmpV_self a), veq_self]
      simpa using ih
    · have e1 : veq a b = false := (veq_false a b).2 e
      have e2 : veq b a = false := (veq_false b a).2 (fun h => e h.symm)
      have e3 : ¬ cmpV a b = 0 := fun h => by have := c2.1 h; rw [e1] at this; cases this
      rw [if_neg e3, e1, e2]
      simp only [Bool.false_eq_true, if_false]
      exact ⟨c1, c3⟩
theorem cmpL_range (l m : List V) : cmpL l m = -1 ∨ cmpL l m = 0 ∨ cmpL l m = 1 := by
  induction l generalizing m with
  | nil => cases m <;> simp [cmpL]
  | cons a l ih =>
    cases m with
    | nil => simp [cmpL]
    | cons b m =>
      simp only [cmpL]
      split
      · exact ih m
      · unfold cmpV cmpI cmpS
        (repeat' split) <;> simp
/-- in order -/
def SortedL (ls : List (List V)) : Prop := ls.Pairwise fun l m => beforeL m l = false
theorem le_trans' {l m n : List V} (hl : Goods l) (hm : Goods m) (hn : Goods n) (h1 : beforeL m l = false) (h2 : beforeL n m = false) : beforeL n l = false := by
  cases h : beforeL n l with
  | false => rfl
  | true =>
    cases h3 : beforeL l m with
    | true => rw [beforeL_trans n l m h h3] at h2; cases h2
    | false =>
      have e := beforeL_total l m hl hm h3 h1
      subst e
      rw [h] at h2; cases h2
theorem sorted_unique : ∀ (ls ms : List (List V)), (∀ l ∈ ls, Goods l) → ls.Perm ms → SortedL ls → SortedL ms → ls = ms
  | [], ms, _, hp, _, _ => (List.nil_perm.1 hp).symm
  | l :: ls, ms, hg, hp, h1, h2 => by
    cases ms with
    | nil => exact absurd hp.symm (by simp)
    | cons m ms =>
      have hgm : ∀ x ∈ m :: ms, Goods x := fun x hx => hg x (hp.symm.subset hx)
      unfold SortedL at h1 h2
      rw [List.pairwise_cons] at h1 h2
      have e : l = m := by
        have a1 : l ∈ m :: ms := hp.subset (by simp)
        have a2 : m ∈ l :: ls := hp.symm.subset (by simp)
        rcases List.mem_cons.1 a1 with e | a1
        · exact e
        · rcases List.mem_cons.1 a2 with e | a2
          · exact e.symm
          · exact beforeL_total l m (hg l (by simp)) (hgm m (by simp)) (h2.1 l a1) (h1.1 m a2)
      subst e
      rw [sorted_unique ls ms (fun x hx => hg x (by simp [hx])) (List.Perm.cons_inv hp) h1.2 h2.2]
/-- one more, at its place -/
theorem sorted_insert {ls : List (List V)} {x : List V} {k : Nat} (hg : ∀ l ∈ ls, Goods l) (hx : Goods x) (hs : SortedL ls) (hk : k ≤ ls.length) (h1 : k = 0 ∨ ∃ h : k - 1 < ls.length, beforeL x ls[k - 1] = false) (h2 : ∀ j (h : j < ls.length), k ≤ j → beforeL x ls[j] = true) : SortedL (ls.take k ++ [x] ++ ls.drop k) ∧ (ls.take k ++ [x] ++ ls.drop k).Perm (ls ++ [x]) := by
  constructor
  · unfold SortedL at hs ⊢
    have hs2 := hs
    rw [← List.take_append_drop k ls, List.pairwise_append] at hs2
    obtain ⟨p1, p2, p3⟩ := hs2
    rw [List.append_assoc, List.pairwise_append]
    refine ⟨p1, ?_, fun l hl m hm => ?_⟩
    · rw [List.singleton_append, List.pairwise_cons]
      refine ⟨fun m hm => ?_, p2⟩
      obtain ⟨j, hj, rfl⟩ := List.getElem_of_mem hm
      rw [List.length_drop] at hj
      rw [List.getElem_drop]
      exact beforeL_asymm _ _ (h2 (k + j) (by omega) (by omega))
    · rcases List.mem_append.1 hm with hm | hm
      · rw [List.mem_singleton.1 hm]
        obtain ⟨j, hj, rfl⟩ := List.getElem_of_mem hl
        rw [List.length_take] at hj
        rw [List.getElem_take]
        rcases h1 with rfl | ⟨hk1, h1⟩
        · omega
        · by_cases e : j = k - 1
          · subst e; exact h1
          · have := (List.pairwise_iff_getElem.1 hs) j (k - 1) (by omega) hk1 (by omega)
            exact le_trans' (hg _ (List.getElem_mem _)) (hg _ (List.getElem_mem _)) hx this h1
      · exact p3 l hl m hm
  · have h := List.take_append_drop k ls
    have p : (ls.take k ++ ([x] ++ ls.drop k)).Perm (ls.take k ++ (ls.drop k ++ [x])) := (List.perm_append_comm).append_left _
    rw [← List.append_assoc, ← List.append_assoc, h] at p
    exact p
end Go.Proofs.Ytpkkhbmlclicfaa.val
/- Bags of rows as plain mathematics: rows in order, each once, with how often it is there; such a list is told by its counts. -/
namespace Go.Proofs.Ytpkkhbmlclicfaa.val
set_option linter.unusedVariables false
/-- rows, each with a count -/
abbrev BL := List (List V × Nat)
open Classical in
/-- how often a row is there -/
noncomputable def cnt (l : BL) (r : List V) : Nat := (l.map fun x => if x.1 = r then x.2 else 0).sum
def GoodB (l : BL) : Prop := ∀ x ∈ l, Goods x.1
/-- rows rising, each once, none with no count -/
def Strict (l : BL) : Prop := l.Pairwise (fun x y => beforeL x.1 y.1 = true) ∧ ∀ x ∈ l, 0 < x.2
theorem cnt_nil (r : List V) : cnt [] r = 0 := rfl
open Classical in
theorem cnt_cons (x : List V × Nat) (l : BL) (r : List V) : cnt (x :: l) r = (if x.1 = r then x.2 else 0) + cnt l r := by unfold cnt; rw [List.map_cons, List.sum_cons]
theorem cnt_append (l m : BL) (r : List V) : cnt (l ++ m) r = cnt l r + cnt m r := by
  induction l with
  | nil => rw [List.nil_append, cnt_nil]; omega
  | cons x l ih => rw [List.cons_append, cnt_cons, cnt_cons, ih]; omega
theorem cnt_perm {l m : BL} (h : l.Perm m) (r : List V) : cnt l r = cnt m r := by
  induction h with
  | nil => rfl
  | cons x _ ih => rw [cnt_cons, cnt_cons, ih]
  | swap x y l => rw [cnt_cons, cnt_cons, cnt_cons, cnt_cons]; omega
  | trans _ _ h1 h2 => rw [h1, h2]
theorem cnt_pos (l : BL) (r : List V) : 0 < cnt l r ↔ ∃ x ∈ l, x.1 = r ∧ 0 < x.2 := by
  induction l with
  | nil => rw [cnt_nil]; simp
  | cons x l ih =>
    rw [cnt_cons]
    constructor
    · intro h
      by_cases e : x.1 = r
      · rw [if_pos e] at h
        by_cases h0 : 0 < x.2
        · exact ⟨x, List.mem_cons_self .., e, h0⟩
        · obtain ⟨y, hy, h1⟩ := ih.1 (by omega)
          exact ⟨y, List.mem_cons_of_mem _ hy, h1⟩
      · rw [if_neg e] at h
        obtain ⟨y, hy, h1⟩ := ih.1 (by omega)
        exact ⟨y, List.mem_cons_of_mem _ hy, h1⟩
    · rintro ⟨y, hy, e, h0⟩
      rcases List.mem_cons.1 hy with rfl | hy
      · rw [if_pos e]; omega
      · have := ih.2 ⟨y, hy, e, h0⟩; omega
theorem Strict.tail {x : List V × Nat} {l : BL} (h : Strict (x :: l)) : Strict l := ⟨(List.pairwise_cons.1 h.1).2, fun y hy => h.2 y (List.mem_cons_of_mem _ hy)⟩
theorem Strict.head {x : List V × Nat} {l : BL} (h : Strict (x :: l)) : cnt l x.1 = 0 := by
  rcases Nat.eq_zero_or_pos (cnt l x.1) with h0 | h0
  · exact h0
  · obtain ⟨y, hy, e, -⟩ := (cnt_pos l x.1).1 h0
    have := (List.pairwise_cons.1 h.1).1 y hy
    rw [e, beforeL_self] at this
    cases this
/-- a bag is told by its counts -/
theorem strict_unique : ∀ (l m : BL), Strict l → Strict m → (∀ r, cnt l r = cnt m r) → l = m
  | [], [], _, _, _ => rfl
  | [], y :: m, _, hm, h => by
    have := h y.1
    rw [cnt_nil, cnt_cons, if_pos rfl] at this
    have := hm.2 y (List.mem_cons_self ..)
    omega
  | x :: l, [], hl, _, h => by
    have := h x.1
    rw [cnt_nil, cnt_cons, if_pos rfl] at this
    have := hl.2 x (List.mem_cons_self ..)
    omega
  | x :: l, y :: m, hl, hm, h => by
    have px := hl.2 x (List.mem_cons_self ..)
    have py := hm.2 y (List.mem_cons_self ..)
    have e : x.1 = y.1 := by
      have h1 : 0 < cnt (y :: m) x.1 := by rw [← h, cnt_cons, if_pos rfl]; omega
      have h2 : 0 < cnt (x :: l) y.1 := by rw [h, cnt_cons, if_pos rfl]; omega
      obtain ⟨u, hu, eu, -⟩ := (cnt_pos _ _).1 h1
      obtain ⟨v, hv, ev, -⟩ := (cnt_pos _ _).1 h2
      rcases List.mem_cons.1 hu with rfl | hu
      · exact eu.symm
      · rcases List.mem_cons.1 hv with rfl | hv
        · exact ev
        · have b1 := (List.pairwise_cons.1 hm.1).1 u hu
          have b2 := (List.pairwise_cons.1 hl.1).1 v hv
          rw [eu] at b1
          rw [ev] at b2
          rw [beforeL_asymm _ _ b1] at b2
          cases b2
    have h0 := h x.1
    rw [cnt_cons, if_pos rfl, hl.head, cnt_cons, if_pos e.symm, e, hm.head] at h0
    have hxy : x = y := by
      obtain ⟨a, b⟩ := x
      obtain ⟨c, d⟩ := y
      simp only at e h0
      rw [e]
      congr 1
    subst hxy
    rw [strict_unique l m hl.tail hm.tail (fun r => by have := h r; rw [cnt_cons, cnt_cons] at this; omega)]
/-- how many rows there are -/
def total (l : BL) : Nat := (l.map (·.2)).sum
theorem total_append (l m : BL) : total (l ++ m) = total l + total m := by unfold total; rw [List.map_append, List.sum_append]
theorem total_perm {l m : BL} (h : l.Perm m) : total l = total m := by unfold total; exact (h.map _).sum_nat
theorem total_snoc (l : BL) (x : List V × Nat) : total (l ++ [x]) = total l + x.2 := by rw [total_append]; simp [total]
theorem cnt_snoc (l : BL) (x : List V × Nat) (r : List V) : cnt (l ++ [x]) r = cnt l r + cnt [x] r := cnt_append l [x] r
/-- bringing together what comes in order: one step -/
theorem Strict.push {o : BL} {x : List V × Nat} (h : Strict o) (h0 : 0 < x.2) (hb : o = [] ∨ ∃ p y, o = p ++ [y] ∧ beforeL y.1 x.1 = true) : Strict (o ++ [x]) := by
  refine ⟨List.pairwise_append.2 ⟨h.1, List.pairwise_singleton _ _, fun a ha b hb' => ?_⟩, fun y hy => ?_⟩
  · rw [List.mem_singleton.1 hb']
    rcases hb with rfl | ⟨p, y, rfl, hy⟩
    · cases ha
    · rcases List.mem_append.1 ha with ha | ha
      · exact beforeL_trans _ _ _ ((List.pairwise_append.1 h.1).2.2 a ha y (List.mem_singleton.2 rfl)) hy
      · rw [List.mem_singleton.1 ha]; exact hy
  · rcases List.mem_append.1 hy with hy | hy
    · exact h.2 y hy
    · rw [List.mem_singleton.1 hy]; exact h0
theorem Strict.add {p : BL} {r : List V} {c d : Nat} (h : Strict (p ++ [(r, c)])) : Strict (p ++ [(r, c + d)]) := by
  obtain ⟨h1, h2⟩ := h
  refine ⟨?_, fun y hy => ?_⟩
  · rw [List.pairwise_append] at h1 ⊢
    exact ⟨h1.1, List.pairwise_singleton _ _, fun a ha b hb => by
      rw [List.mem_singleton.1 hb]
      exact h1.2.2 a ha (r, c) (List.mem_singleton.2 rfl)⟩
  · rcases List.mem_append.1 hy with hy | hy
    · exact h2 y (List.mem_append_left _ hy)
    · rw [List.mem_singleton.1 hy]
      have := h2 (r, c) (List.mem_append_right _ (List.mem_singleton.2 rfl))
      simp only at this ⊢
      omega
theorem cnt_add (p : BL) (r : List V) (c d : Nat) (s : List V) : cnt (p ++ [(r, c + d)]) s = cnt (p ++ [(r, c)]) s + cnt [(r, d)] s := by
  rw [cnt_append, cnt_append, cnt_cons, cnt_cons, cnt_cons, cnt_nil]
  by_cases h : r = s
  · rw [if_pos h, if_pos h, if_pos h]; omega
  · rw [if_neg h, if_neg h, if_neg h]
theorem total_add (p : BL) (r : List V) (c d : Nat) : total (p ++ [(r, c + d)]) = total (p ++ [(r, c)]) + d := by
  rw [total_snoc, total_snoc]; omega
/-- what brings together: of what came, in order, the counts -/
def Gat (o l : BL) : Prop := Strict o ∧ (∀ r, cnt o r = cnt l r) ∧ total o = total l ∧ (∀ x ∈ o, ∃ y ∈ l, y.1 = x.1) ∧ (l = [] ∨ ∃ p q x y, o = p ++ [x] ∧ l = q ++ [y] ∧ x.1 = y.1)
theorem Gat.nil : Gat [] [] := ⟨⟨List.Pairwise.nil, fun x hx => (by cases hx)⟩, fun r => rfl, rfl, fun x hx => (by cases hx), .inl rfl⟩
theorem Gat.same {p l : BL} {r : List V} {c d : Nat} (h : Gat (p ++ [(r, c)]) l) : Gat (p ++ [(r, c + d)]) (l ++ [(r, d)]) := by
  obtain ⟨h1, h2, h3, h4, h5⟩ := h
  refine ⟨h1.add, fun s => by rw [cnt_add, h2, cnt_append], by rw [total_add, h3, total_snoc], fun x hx => ?_, .inr ⟨p, l, (r, c + d), (r, d), rfl, rfl, rfl⟩⟩
  rcases List.mem_append.1 hx with hx | hx
  · obtain ⟨y, hy, e⟩ := h4 x (List.mem_append_left _ hx)
    exact ⟨y, List.mem_append_left _ hy, e⟩
  · rw [List.mem_singleton.1 hx]
    exact ⟨(r, d), List.mem_append_right _ (List.mem_singleton.2 rfl), rfl⟩
theorem Gat.more {o l : BL} {r : List V} {d : Nat} (h : Gat o l) (h0 : 0 < d) (hb : o = [] ∨ ∃ p y, o = p ++ [y] ∧ beforeL y.1 r = true) : Gat (o ++ [(r, d)]) (l ++ [(r, d)]) := by
  obtain ⟨h1, h2, h3, h4, h5⟩ := h
  refine ⟨h1.push h0 hb, fun s => by rw [cnt_snoc, cnt_snoc, h2], by rw [total_snoc, total_snoc, h3], fun x hx => ?_, .inr ⟨o, l, (r, d), (r, d), rfl, rfl, rfl⟩⟩
  rcases List.mem_append.1 hx with hx | hx
  · obtain ⟨y, hy, e⟩ := h4 x hx
    exact ⟨y, List.mem_append_left _ hy, e⟩
  · rw [List.mem_singleton.1 hx]
    exact ⟨(r, d), List.mem_append_right _ (List.mem_singleton.2 rfl), rfl⟩
end Go.Proofs.Ytpkkhbmlclicfaa.val
