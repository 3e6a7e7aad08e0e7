/- The reference's arena (regraterref01): Live and Has, at any struct whose slice of uses reads as a list. -/
import Derived.Test.YtbaepjjanjhliaaArenaI
namespace Go.Proofs.Ytbaepjjanjhliaa.ref01
set_option linter.unusedVariables false
open Go.RowKit

/-- the struct by value: its room, its three slices -/
abbrev st (room : Int) (aT : Option Addr) (nT cT : Nat) (aU : Option Addr) (nU cU : Nat) (aF : Option Addr) (nF cF : Nat) : Value :=
  .agg #[.int .i64 room, .slice aT nT cT, .slice aU nU cU, .slice aF nF cF]

def count (us : List Bool) : Nat := (us.filter id).length
theorem count_take (us : List Bool) (k : Nat) (u : Bool) (h : us[k]? = some u) : count (us.take (k + 1)) = count (us.take k) + (if u then 1 else 0) := by
  obtain ⟨hl, e⟩ := List.getElem?_eq_some_iff.1 h
  unfold count
  rw [List.take_succ_eq_append_getElem hl, List.filter_append, List.length_append, e]
  cases u <;> rfl
theorem count_le (us : List Bool) : count us ≤ us.length := List.length_filter_le _ _

set_option maxHeartbeats 400000 in
theorem live_any (room : Int) (aT : Option Addr) (nT cT : Nat) (aU : Option Addr) (us : List Bool) (cU : Nat) (aF : Option Addr) (nF cF : Nat) (w : World)
    (hr : Row w (.slice aU us.length cU) 1 us.length (us.map Value.bool)) (hm : us.length ≤ 1048576) :
    Calls Try.prog 20 #[st room aT nT cT aU us.length cU aF nF cF] w fun e w' => e = .returned (.int .i64 (count us : Int)) ∧ Below w.heap.size w w' := by
  have HR := Lib.hid hr
  have hmi : (us.length : Int) ≤ 1048576 := by omega
  have hlo : (0 : Int) ≤ (us.length : Int) := by omega
  clear hr
  go_enter Try.func20, Try.ntmps20
  go_wp2
  obtain ⟨W, hW⟩ : ∃ W, w.alloc (.cells #[.int .i64 room, .slice aT nT cT, .slice aU us.length cU, .slice aF nF cF] 29) = W := ⟨_, rfl⟩
  have hB : Below w.heap.size w W := by rw [← hW]; exact (Below.refl _ _).alloc (Nat.le_refl _) _
  have g2 : W.cell? ⟨w.heap.size, 2, none⟩ = some (.slice aU us.length cU) := by rw [← hW]; exact cells_new w [_, _, _, _] _ 2
  have HW := Lib.hid (HR.out.later hB)
  have HB := Lib.hid hB
  rw [hW]
  clear hW hB HR
  go_loop [3, 4] (fun n i => ∃ k : Nat, n = .int .i64 (count (us.take k) : Int) ∧ i = .int .i64 (k : Int) ∧ k ≤ us.length) (fun _ i => match i with | .int _ j => us.length - j.toNat | _ => 0)
  case atStart => exact ⟨0, rfl, rfl, Nat.zero_le _⟩
  case round =>
    obtain ⟨k, rfl, rfl, hk⟩ := hrel
    have hd0 : (0 : Int) ≤ (k : Int) := by omega
    by_cases hkn : k < us.length
    · have hd1 : (k : Int) < (us.length : Int) := by omega
      obtain ⟨b, off, cap, ea, hc⟩ := HW.out.pos (by omega)
      simp only [Value.slice.injEq] at ea
      obtain ⟨rfl, -, rfl⟩ := ea
      have hu := List.getElem?_eq_getElem hkn
      have gk : W.cell? ⟨b, off + k, none⟩ = some (.bool us[k]) := (hc k (by omega)).trans (by rw [List.getElem?_map, hu]; rfl)
      have ht := count_take us k us[k] hu
      have hcl := count_le (us.take k)
      rw [List.length_take] at hcl
      have hc1 : (count (us.take k) : Int) ≤ 1048576 := by omega
      have HT := Lib.hid ht
      clear ht hu hc hcl
      generalize us[k] = u at gk HT
      generalize count (us.take k) = c at HT hc1
      cases u
      · go_wp2
        go_round
        case rel => exact ⟨k + 1, by rw [HT.out]; rfl, rfl, by omega⟩
        case measure => simp; omega
      · go_wp2
        go_round
        case rel => exact ⟨k + 1, by rw [HT.out]; rfl, rfl, by omega⟩
        case measure => simp; omega
    · obtain rfl : k = us.length := by omega
      go_wp2
      go_ret
      exact ⟨rfl, HB.out⟩

def has (us : List Bool) (i : Int) : Bool := decide (0 ≤ i) && decide (i < us.length) && (us[i.toNat]?.getD false)

set_option maxHeartbeats 400000 in
theorem has_any (room : Int) (aT : Option Addr) (nT cT : Nat) (aU : Option Addr) (us : List Bool) (cU : Nat) (aF : Option Addr) (nF cF : Nat) (w : World)
    (hr : Row w (.slice aU us.length cU) 1 us.length (us.map Value.bool)) (hm : us.length ≤ 1048576) (i : Int) :
    Calls Try.prog 14 #[st room aT nT cT aU us.length cU aF nF cF, .int .i64 i] w fun e w' => e = .returned (.bool (has us i)) ∧ Below w.heap.size w w' := by
  have hB : Below w.heap.size w (w.alloc (.cells #[.int .i64 room, .slice aT nT cT, .slice aU us.length cU, .slice aF nF cF] 29)) := (Below.refl _ _).alloc (Nat.le_refl _) _
  have HB := Lib.hid hB
  by_cases h0 : i < 0
  · have e : has us i = false := by unfold has; simp; omega
    have E := Lib.hid e
    have hd : decide (0 ≤ i) = false := by simp; omega
    clear e hr hB
    go_enter Try.func14, Try.ntmps14
    go_wp2
    go_ret
    exact ⟨by rw [E.out]; rfl, HB.out⟩
  · obtain ⟨k, rfl⟩ : ∃ k : Nat, i = k := ⟨i.toNat, by omega⟩
    have hd2 : decide ((0 : Int) ≤ (k : Int)) = true := by simp
    by_cases hl : us.length ≤ k
    · have e : has us k = false := by unfold has; simp; omega
      have E := Lib.hid e
      have hd : decide (k < us.length) = false := by simp; omega
      clear e hr hB
      go_enter Try.func14, Try.ntmps14
      go_wp2
      go_ret
      exact ⟨by rw [E.out]; rfl, HB.out⟩
    · have hk : k < us.length := by omega
      obtain ⟨b, off, cap, ea, hc⟩ := (hr.later hB).pos (by omega)
      simp only [Value.slice.injEq] at ea
      obtain ⟨rfl, -, rfl⟩ := ea
      have hu := List.getElem?_eq_getElem hk
      have gk := (hc k (by omega)).trans (show (us.map Value.bool)[k]? = some (.bool us[k]) by rw [List.getElem?_map, hu]; rfl)
      have e : has us k = us[k] := by unfold has; simp [hk]
      have E := Lib.hid e
      have hd : decide (k < us.length) = true := by simp; omega
      clear e hr hB hu hc
      generalize us[k] = u at E gk
      go_enter Try.func14, Try.ntmps14
      go_wp2
      go_ret
      exact ⟨by rw [E.out]; rfl, HB.out⟩

end Go.Proofs.Ytbaepjjanjhliaa.ref01
