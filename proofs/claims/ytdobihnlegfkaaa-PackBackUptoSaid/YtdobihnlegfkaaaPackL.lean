/- The laws of packed texts: what their speaks says; PackInts. -/
import Derived.Test.YtdobihnlegfkaaaSplitW
namespace Go.Proofs.Ytdobihnlegfkaaa
set_option linter.unusedVariables false
open Go.RowKit

theorem speaks_pack : packB [⟨#[97]⟩, ⟨#[]⟩] = [0, 0, 0, 1, 97, 0, 0, 0, 0] := by decide +kernel
theorem speaks_split : splitS ⟨#[0, 0, 0, 1, 97, 0, 0, 0, 0]⟩ = ([⟨#[97]⟩, ⟨#[]⟩], true) := by decide +kernel
theorem speaks_int : getIv ⟨(intB (-7)).toArray⟩ = -7 := by decide +kernel

theorem getInt_back (n : Int) (hn : -9223372036854775808 ≤ n ∧ n ≤ 9223372036854775807) : getIv ⟨(intB n).toArray⟩ = n := by
  unfold getIv; rw [show (⟨(intB n).toArray⟩ : ByteArray).data.toList = intB n by simp]; exact beVal_intB n hn
theorem intB_size (n : Int) : (⟨(intB n).toArray⟩ : ByteArray).size = 8 := by
  show (intB n).toArray.size = 8
  rw [List.size_toArray, intB_length]

set_option maxHeartbeats 1000000 in
theorem pack_speaks (w : World) :
    Calls Try.prog 10 #[] w fun e w' => e = .returned (.bool true) ∧ Below w.heap.size w w' := by
  go_enter Try.func10, Try.ntmps10
  go_wp2_with fail
  refine (pack_any _ [⟨#[97]⟩, ⟨#[]⟩] _ (by decide) ⟨some ⟨w.heap.size, 0, none⟩, 2, rfl, rfl, .inr ⟨w.heap.size, 0, rfl, fun j hj => ?_⟩⟩ (by decide +kernel)).mono ?_
  · rw [Nat.zero_add]; exact cells_new _ _ _ _
  rw [speaks_pack]
  rintro e w1 ⟨rfl, hb1⟩
  have hb0 : Below w.heap.size w w1 := ((Below.refl _ _).alloc (Nat.le_refl _) _).trans (hb1.mono (by simp))
  go_wp2_with fail
  refine (split_any _ _ (by decide)).mono ?_
  rintro e w2 ⟨v, rfl, hown, hb2⟩
  rw [speaks_split] at hown ⊢
  dsimp only at hown ⊢
  rw [if_pos rfl] at hown
  rw [if_pos rfl]
  obtain ⟨b, off, cap, rfl, hc⟩ := (Row.of_owns hown).pos (by decide)
  have hc0 := hc 0 (by decide)
  simp at hc0
  have hb3 := hb0.trans (hb2.mono hb0.size)
  go_wp2_with (first | (go_at_call 16; refine (packInt_any _ (by decide) _).mono ?_; rintro e w3 ⟨rfl, hb4⟩; have hc1 := cell_later hb4 hc0))
  have hb5 := hb3.trans (hb4.mono hb3.size)
  have hsi := speaks_int
  go_wp2_with (go_at_call 17; refine (getInt_yes _ (intB_size _) _).mono ?_; rintro e w4 ⟨rfl, rfl⟩)
  go_ret
  exact ⟨rfl, hb5⟩

set_option maxHeartbeats 1000000 in
theorem ints_walk (a b : Int) (s : ByteArray) (w : World) (ha : -9223372036854775808 ≤ a ∧ a ≤ 9223372036854775807) (hb : -9223372036854775808 ≤ b ∧ b ≤ 9223372036854775807) (hs : s.size ≤ 9223372036854775807) :
    Calls Try.prog 5 #[.int .i64 a, .int .i64 b, .string s] w fun e w' => e = .returned (.bool true) ∧ Below w.heap.size w w' := by
  have HA := Lib.hid ha; have HB := Lib.hid hb; clear ha hb
  go_enter Try.func5, Try.ntmps5
  go_wp2_with fail
  refine (pack_speaks _).mono ?_; rintro e w1 ⟨rfl, hb1⟩
  go_wp2_with fail
  refine (packInt_any _ HA.out _).mono ?_; rintro e w2 ⟨rfl, hb2⟩
  go_wp2_with fail
  refine (packInt_any _ HB.out _).mono ?_; rintro e w3 ⟨rfl, hb3⟩
  have hga := getInt_back a HA.out
  go_wp2_with fail
  refine (getInt_yes _ (intB_size _) _).mono ?_; rintro e w4 ⟨rfl, rfl⟩
  have hless := intB_less a b HA.out HB.out
  have heq : (intB a == intB b) = (a == b) := by
    rw [Bool.eq_iff_iff, beq_iff_eq, beq_iff_eq]
    exact ⟨fun h => intB_inj a b HA.out HB.out h, fun h => by rw [h]⟩
  have hB3 := (hb1.trans (hb2.mono hb1.size)).trans (hb3.mono (Nat.le_trans hb1.size hb2.size))
  have HB3 := Lib.hid hB3
  clear hB3 hb1 hb2 hb3
  by_cases h8 : s.size = 8
  · have hback : intB (getIv s) = s.toList := by
      rw [Lib.toList_data]; exact intB_beVal _ (by simpa using h8)
    have hgb : -9223372036854775808 ≤ getIv s ∧ getIv s ≤ 9223372036854775807 := by
      have := beVal_lt s.data.toList
      rw [show s.data.toList.length = 8 by simpa using h8] at this
      unfold getIv; omega
    have HG := Lib.hid hgb; clear hgb
    go_wp2_with fail
    refine (getInt_yes _ h8 _).mono ?_; rintro e w4 ⟨rfl, rfl⟩
    go_wp2_with fail
    refine (refInt_any _ HA.out _).mono ?_; rintro e w5 ⟨rfl, hb5⟩
    go_wp2_with fail
    refine (packInt_any _ HG.out _).mono ?_; rintro e w6 ⟨rfl, hb6⟩
    go_wp2
    go_ret
    exact ⟨rfl, (HB3.out.trans (hb5.mono HB3.out.size)).trans (hb6.mono (Nat.le_trans HB3.out.size hb5.size))⟩
  · have h8' : ((s.size : Int) == 8) = false := by simp; omega
    go_wp2_with fail
    refine (getInt_no _ h8 _).mono ?_; rintro e w4 ⟨rfl, rfl⟩
    go_wp2_with fail
    refine (refInt_any _ HA.out _).mono ?_; rintro e w5 ⟨rfl, hb5⟩
    go_wp2
    go_ret
    exact ⟨rfl, HB3.out.trans (hb5.mono HB3.out.size)⟩

end Go.Proofs.Ytdobihnlegfkaaa
