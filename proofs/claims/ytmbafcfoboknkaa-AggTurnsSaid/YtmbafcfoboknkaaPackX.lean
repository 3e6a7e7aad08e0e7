/- Pack: the texts of a slice, packed to one text. The room: 2^47 bytes. -/
import Derived.Test.YtmbafcfoboknkaaPackW
namespace Go.Proofs.Ytmbafcfoboknkaa
set_option linter.unusedVariables false
open Go.RowKit
theorem be4_cells (n : Nat) : Lib.byteCells (beD 4 n) = [.int .u8 ((n : Int) % 4294967296 / 16777216), .int .u8 ((n : Int) % 4294967296 / 65536 % 256), .int .u8 ((n : Int) % 4294967296 / 256 % 256), .int .u8 ((n : Int) % 4294967296 % 256)] := by
  have e : ∀ (x : Nat) (y : Int), y = ((x % 256 : Nat) : Int) → Value.int .u8 ((UInt8.ofNat (x % 256)).toNat : Int) = Value.int .u8 y := by
    intro x y h; rw [h]; congr 2; simp
  rw [beD_cons, beD_cons, beD_cons, beD_cons, beD]
  simp only [Lib.byteCells, List.map_cons, List.map_nil]
  rw [e _ ((n : Int) % 4294967296 / 16777216) (by omega), e _ ((n : Int) % 4294967296 / 65536 % 256) (by omega), e _ ((n : Int) % 4294967296 / 256 % 256) (by omega), e _ ((n : Int) % 4294967296 % 256) (by omega)]
theorem packB_take (ss : List ByteArray) (k : Nat) (h : k < ss.length) : packB (ss.take (k + 1)) = packB (ss.take k) ++ (beD 4 (ss[k]).size ++ (ss[k]).data.toList) := by
  rw [List.take_succ_eq_append_getElem h, packB_snoc]
theorem packB_take_le (ss : List ByteArray) (k : Nat) : (packB (ss.take k)).length ≤ (packB ss).length := by
  have h : packB ss = packB (ss.take k) ++ packB (ss.drop k) := by
    rw [packB, packB, packB, ← List.flatMap_append, List.take_append_drop]
  rw [h, List.length_append]; omega
set_option maxHeartbeats 1000000 in
theorem pack_some (b0 off cap : Nat) (ss : List ByteArray) (w : World) (h0 : 0 < ss.length) (hm : ss.length ≤ 9223372036854775807)
    (hc : ∀ j, (hj : j < ss.length) → w.cell? ⟨b0, off + j, none⟩ = some (.string ss[j])) (hroom : (packB ss).length ≤ 140737488355328) :
    Calls Try.prog 30 #[.slice (some ⟨b0, off, none⟩) ss.length cap] w fun e w' => e = .returned (.string ⟨(packB ss).toArray⟩) ∧ Below w.heap.size w w' := by
  have HC := Lib.hid hc; clear hc
  have HR := Lib.hid hroom; clear hroom
  go_enter Try.func30, Try.ntmps30
  go_wp2
  have hfresh := Lib.fresh_isBuilder 105 5 w
  go_loopw [9] (fun i wr => ∃ k : Nat, k ≤ ss.length ∧ i = .int .i64 k ∧ Lib.IsBuilder 105 5 w.heap.size w.heap.size (Lib.byteCells (packB (ss.take k))) wr ∧ Below w.heap.size w wr ∧ w.heap.size < wr.heap.size) (fun i _ => ss.length - (intOf i).toNat)
  case atStart => exact ⟨0, Nat.zero_le _, rfl, hfresh, (Below.refl _ _).alloc (Nat.le_refl _) _, by simp⟩
  case round =>
    obtain ⟨k, hk, rfl, hbu, hB, hsz⟩ := hrel
    clear hfresh
    by_cases hlt : k < ss.length
    · have hcell0 := cell_later hB (HC.out k hlt)
      have hl1 := packB_take_le ss (k + 1)
      have hpt := packB_take ss k hlt
      rw [hpt, List.length_append, List.length_append, beD_length] at hl1
      obtain ⟨s, hs⟩ : ∃ s, s = ss[k] := ⟨_, rfl⟩
      rw [← hs] at hcell0 hl1 hpt
      have hsl : s.data.toList.length = s.size := by simp
      have hroom := HR.out
      have hc0 := Lib.byteCells_length (packB (ss.take k))
      have L1 : (Lib.byteCells (packB (ss.take k))).length + 4 + s.size ≤ 140737488355328 := by omega
      have HPT := Lib.hid hpt; have HS := Lib.hid hs
      obtain ⟨P, hP⟩ : ∃ P, P = Lib.byteCells (packB (ss.take k)) := ⟨_, rfl⟩
      rw [← hP] at hbu L1
      have HP := Lib.hid hP
      clear hpt hs hsl hroom hc0 hl1 hP
      have B0 : w.heap.size ≤ w.heap.size := Nat.le_refl _
      go_wp2_with fail
      refine (writeByte_any w.heap.size w.heap.size P _ _ hbu (by omega) (by omega)).mono ?_
      rintro e w1 ⟨rfl, hb1, hB1⟩
      have s1 := hB1.size
      go_wp2_with fail
      refine (writeByte_any w.heap.size w.heap.size _ _ _ (.inr hb1) (by simp; omega) (by omega)).mono ?_
      rintro e w2 ⟨rfl, hb2, hB2⟩
      have s2 := hB2.size
      clear hb1
      go_wp2_with fail
      refine (writeByte_any w.heap.size w.heap.size _ _ _ (.inr hb2) (by simp; omega) (by omega)).mono ?_
      rintro e w3 ⟨rfl, hb3, hB3⟩
      have s3 := hB3.size
      clear hb2
      go_wp2_with fail
      refine (writeByte_any w.heap.size w.heap.size _ _ _ (.inr hb3) (by simp; omega) (by omega)).mono ?_
      rintro e w4 ⟨rfl, hb4, hB4⟩
      have s4 := hB4.size
      clear hb3
      go_wp2_with fail
      refine (writeString_any w.heap.size w.heap.size _ _ _ (.inr hb4) (by simp; omega) (by omega)).mono ?_
      rintro e w5 ⟨rfl, hb5, hB5⟩
      have s5 := hB5.size
      clear hb4
      have hB' := (((((hB.trans hB1).trans hB2).trans hB3).trans hB4).trans hB5)
      clear hB1 hB2 hB3 hB4 hB5
      have HB5 := Lib.hid hb5; clear hb5
      go_wp2
      go_roundw
      case rel =>
        refine ⟨k + 1, by omega, by go_num, .inr ?_, hB', by omega⟩
        rw [HPT.out, Lib.byteCells_append, Lib.byteCells_append, be4_cells, ← HP.out]
        have := HB5.out
        simpa [Lib.strCells_eq] using this
      case measure => simp [intOf]; omega
    · obtain rfl : k = ss.length := by omega
      rw [List.take_length] at hbu
      go_wp2_with (go_at_call 49; refine (builderString_any w.heap.size w.heap.size _ _ hbu (by omega)).mono ?_; rintro e w' ⟨rfl, hb'⟩)
      go_ret
      exact ⟨rfl, hB.trans hb'⟩
set_option maxHeartbeats 1000000 in
theorem pack_none (a : Option Addr) (cap : Nat) (w : World) :
    Calls Try.prog 30 #[.slice a 0 cap] w fun e w' => e = .returned (.string ⟨(packB []).toArray⟩) ∧ Below w.heap.size w w' := by
  have hfresh := Lib.fresh_isBuilder 105 5 w
  have hb0 : w.heap.size ≤ (w.alloc (.cells #[.pointer none, .slice none 0 0] 105)).heap.size := by simp
  go_enter Try.func30, Try.ntmps30
  go_wp2
  refine wp_loop_rounds 1 ?_; rw [rounds_succ]
  go_wp2_with (go_at_call 49; refine (builderString_any w.heap.size w.heap.size [] _ hfresh hb0).mono ?_; rintro e w' ⟨rfl, hb'⟩)
  go_ret
  exact ⟨rfl, ((Below.refl _ _).alloc (Nat.le_refl _) _).trans hb'⟩
/-- Pack of any slice of texts. -/
theorem pack_any (v : Value) (ss : List ByteArray) (w : World) (hm : ss.length ≤ 9223372036854775807) (hv : Row w v 1 ss.length (ss.map Value.string)) (hroom : (packB ss).length ≤ 140737488355328) :
    Calls Try.prog 30 #[v] w fun e w' => e = .returned (.string ⟨(packB ss).toArray⟩) ∧ Below w.heap.size w w' := by
  rcases Nat.eq_zero_or_pos ss.length with h0 | h0
  · obtain rfl := List.length_eq_zero_iff.1 h0
    obtain ⟨a, cap, rfl, _⟩ := hv
    exact pack_none a cap w
  · obtain ⟨b, off, cap, rfl, hc⟩ := hv.pos h0
    refine pack_some b off cap ss w h0 hm (fun j hj => ?_) hroom
    rw [hc j (by omega), List.getElem?_map, List.getElem?_eq_getElem hj]; rfl
end Go.Proofs.Ytmbafcfoboknkaa
