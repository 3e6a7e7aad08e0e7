/- The document's Pack. -/
import Derived.Test.YtpkkhbmlclicfaaDoorRefSplit
import Derived.Deep.RegionHeld3
import Derived.Deep.RegionWith
namespace Go.Proofs.YtpkkhbmlclicfaaDoor
set_option linter.unusedVariables false
open Go.RowKit

theorem run_convert4 (w : World) (a0 a1 a2 a3 : Int) (T : TypeId) :
    (convert 96 9 (.slice (some ⟨w.heap.size, 0, none⟩) 4 4)).run Tryd.prog (w.alloc (.cells #[.int .u8 a0, .int .u8 a1, .int .u8 a2, .int .u8 a3] T)) = .ok (.string (strOfNums [a0, a1, a2, a3])) (w.alloc (.cells #[.int .u8 a0, .int .u8 a1, .int .u8 a2, .int .u8 a3] T)) :=
  run_convert_block w _ _ _ T Tryd.underlying96 Tryd.underlying5 Tryd.underlying9 [a0, a1, a2, a3] 4

theorem run_convert4_drew (w : World) (a0 a1 a2 a3 : Int) (T : TypeId) :
    (convert 96 9 (.slice (some ⟨w.heap.size, 0, none⟩) 4 4)).run Tryd.prog (w.alloc (.cells #[.int .u8 a0, .int .u8 a1, .int .u8 a2, .int .u8 a3] T)).drew = .ok (.string (strOfNums [a0, a1, a2, a3])) (w.alloc (.cells #[.int .u8 a0, .int .u8 a1, .int .u8 a2, .int .u8 a3] T)).drew := by
  refine run_convert_bytes_arg _ _ _ Tryd.underlying96 Tryd.underlying5 _ 0 4 4 [a0, a1, a2, a3] rfl (fun i hi => ?_) _ Tryd.underlying9
  show (w.alloc (.cells ([a0, a1, a2, a3].map (Value.int .u8)).toArray T)).cell? _ = _
  have hi' : i < [a0, a1, a2, a3].length := hi
  rw [cells_new, List.getElem?_map, Nat.zero_add, List.getElem?_eq_getElem hi']
  simp [List.getD, List.getElem?_eq_getElem hi']

theorem joinB (l : List UInt8) (s : ByteArray) : (⟨l.toArray⟩ : ByteArray) ++ (strOfNums [(s.size : Int) / 16777216 % 256, (s.size : Int) / 65536 % 256, (s.size : Int) / 256 % 256, (s.size : Int) % 256] ++ s) = ⟨(l ++ (beD 4 s.size ++ s.data.toList)).toArray⟩ := by
  have h4 : strOfNums [(s.size : Int) / 16777216 % 256, (s.size : Int) / 65536 % 256, (s.size : Int) / 256 % 256, (s.size : Int) % 256] = ⟨(beD 4 s.size).toArray⟩ := by
    unfold strOfNums
    rw [beD_cons, beD_cons, beD_cons, beD_cons, beD, ← digit_eq s.size 3 16777216 rfl, ← digit_eq s.size 2 65536 rfl, ← digit_eq s.size 1 256 rfl]
    have h0 : UInt8.ofNat ((s.size : Int) % 256).toNat = UInt8.ofNat (s.size / 256 ^ 0 % 256) := by
      rw [show ((s.size : Int) % 256) = ((s.size % 256 : Nat) : Int) by rw [Int.natCast_emod]; rfl, Int.toNat_natCast, Nat.pow_zero, Nat.div_one]
    rw [← h0]
    rfl
  have hs : s = ⟨s.data.toList.toArray⟩ := by simp
  rw [h4]
  conv => lhs; rw [hs]
  rw [ByteArray.mk_append_mk, ByteArray.mk_append_mk]

set_option maxRecDepth 100000 in
set_option maxHeartbeats 1000000 in
theorem refPack_some (b0 off cap : Nat) (ss : List ByteArray) (w : World) (h0 : 0 < ss.length) (hm : ss.length ≤ 1099511627776)
    (hc : ∀ j, (hj : j < ss.length) → w.cell? ⟨b0, off + j, none⟩ = some (.string ss[j])) (hroom : (packB ss).length ≤ 140737488355328) :
    Calls Tryd.prog 60 #[.slice (some ⟨b0, off, none⟩) ss.length cap] w fun e w' => e = .returned (.string ⟨(packB ss).toArray⟩) ∧ Below w.heap.size w w' := by
  have HC := Lib.hid hc; clear hc
  have HR := Lib.hid hroom; clear hroom
  have hcv := run_convert4_drew
  have hcv2 := run_convert4
  have hz4 : ∀ a b c d, (strOfNums [a, b, c, d]).size = 4 := fun _ _ _ _ => rfl
  go_enter Tryd.func60, Tryd.ntmps60
  go_wp2
  go_loopw [3, 4] (fun o i wr => ∃ k : Nat, k ≤ ss.length ∧ i = .int .i64 k ∧ (∃ S : ByteArray, o = .string S ∧ Hid (S = ⟨(packB (ss.take k)).toArray⟩)) ∧ Below w.heap.size w wr) (fun _ i _ => ss.length - (intOf i).toNat)
  case atStart => exact ⟨0, Nat.zero_le _, rfl, ⟨_, rfl, rfl⟩, Below.refl _ _⟩
  case round =>
    obtain ⟨k, hk, rfl, ⟨S, rfl, hS⟩, hB⟩ := hrel
    by_cases hlt : k < ss.length
    · have hcell0 := cell_later hB (HC.out k hlt)
      obtain ⟨s, hs⟩ : ∃ s, s = ss[k] := ⟨_, rfl⟩
      rw [← hs] at hcell0
      have HS := Lib.hid hs
      have hpt := packB_take ss k hlt
      rw [← hs] at hpt
      have hl1 := packB_take_le ss (k + 1)
      rw [hpt, List.length_append, List.length_append, beD_length] at hl1
      have hsl : s.data.toList.length = s.size := by simp
      have hSl : S.size = (packB (ss.take k)).length := by rw [hS.out]; exact List.size_toArray
      have hroom := HR.out
      have L1 : S.size + 4 + s.size ≤ 140737488355328 := by omega
      have HPT := Lib.hid hpt
      clear hs hpt hl1 hsl hSl hroom
      have n1 : ¬ 9223372036854775807 < 4 + s.size := by omega
      have n2 : ¬ 9223372036854775807 < S.size + (4 + s.size) := by omega
      have hcell1 : ∀ o, (wr.alloc o).cell? ⟨b0, off + k, none⟩ = some (.string s) := fun o => cell_later ((Below.refl _ _).alloc (Nat.le_refl _) o) hcell0
      have hk1 : (k : Int) < (ss.length : Int) := by omega
      have hk2 : (0 : Int) ≤ (k : Int) := by omega
      go_wp2
      go_region_with (fail)
      all_goals
        go_wp2
        go_roundw
        case rel => exact ⟨k + 1, by omega, by go_num, ⟨_, rfl, by rw [HPT.out, hS.out]; exact joinB _ s⟩, (hB.alloc hB.size _).drew⟩
        case measure => simp [intOf]; omega
    · obtain rfl : k = ss.length := by omega
      go_wp2
      go_ret
      exact ⟨by rw [hS.out, List.take_length]; rfl, hB⟩

set_option maxRecDepth 100000 in
set_option maxHeartbeats 1000000 in
theorem refPack_none (a : Option Addr) (cap : Nat) (w : World) :
    Calls Tryd.prog 60 #[.slice a 0 cap] w fun e w' => e = .returned (.string ⟨(packB []).toArray⟩) ∧ Below w.heap.size w w' := by
  go_enter Tryd.func60, Tryd.ntmps60
  go_wp2
  refine wp_loop_rounds 1 ?_; rw [rounds_succ]
  go_wp2
  go_ret
  exact ⟨rfl, Below.refl _ _⟩

theorem refPack_any (v : Value) (ss : List ByteArray) (w : World) (hm : ss.length ≤ 1099511627776) (hv : Row w v 1 ss.length (ss.map Value.string)) (hroom : (packB ss).length ≤ 140737488355328) :
    Calls Tryd.prog 60 #[v] w fun e w' => e = .returned (.string ⟨(packB ss).toArray⟩) ∧ Below w.heap.size w w' := by
  rcases Nat.eq_zero_or_pos ss.length with h0 | h0
  · obtain rfl := List.length_eq_zero_iff.1 h0
    obtain ⟨a, cap, rfl, _⟩ := hv
    exact refPack_none a cap w
  · obtain ⟨b, off, cap, rfl, hc⟩ := hv.pos h0
    refine refPack_some b off cap ss w h0 hm (fun j hj => ?_) hroom
    rw [hc j (by omega), List.getElem?_map, List.getElem?_eq_getElem hj]; rfl

theorem data_mk (l : List UInt8) : (⟨l.toArray⟩ : ByteArray).data.toList = l := by simp
theorem size_mk (l : List UInt8) : (⟨l.toArray⟩ : ByteArray).size = l.length := List.size_toArray
theorem extract_mk (l : List UInt8) (a b : Nat) : (⟨l.toArray⟩ : ByteArray).extract a b = ⟨((l.drop a).take (b - a)).toArray⟩ := by
  rw [Lib.extract_eq, data_mk]

/-- what was packed is split again -/
theorem splitS_packB (ss : List ByteArray) (h : ∀ s ∈ ss, s.size < 4294967296) : splitS ⟨(packB ss).toArray⟩ = (ss, true) := by
  induction ss with
  | nil => decide +kernel
  | cons s ss ih =>
    have hs : s.size < 4294967296 := h s (by simp)
    have hp : packB (s :: ss) = beD 4 s.size ++ (s.data.toList ++ packB ss) := by simp [packB]
    have hl : (beD 4 s.size).length = 4 := beD_length _ _
    have hsl : s.data.toList.length = s.size := by simp
    have hN : cutN ⟨(packB (s :: ss)).toArray⟩ = s.size := by
      unfold cutN
      rw [data_mk, hp, List.take_append_of_le_length (by omega), List.take_of_length_le (by omega), beVal_beD, Nat.mod_eq_of_lt (by omega)]
    have hz : (⟨(packB (s :: ss)).toArray⟩ : ByteArray).size = 4 + s.size + (packB ss).length := by
      rw [size_mk, hp, List.length_append, List.length_append, hl, hsl]; omega
    rw [splitS_step _ (by rw [hz]; omega) (by rw [hz, hN]; omega), hN, extract_mk, extract_mk, hz]
    have e1 : ((packB (s :: ss)).drop 4).take (4 + s.size - 4) = s.data.toList := by
      rw [hp, List.drop_append_of_le_length (by omega), List.drop_of_length_le (by omega), List.nil_append, show 4 + s.size - 4 = s.data.toList.length by omega, List.take_left]
    have e2 : ((packB (s :: ss)).drop (4 + s.size)).take (4 + s.size + (packB ss).length - (4 + s.size)) = packB ss := by
      rw [hp, ← List.append_assoc, List.drop_left' (by rw [List.length_append, hl, hsl]), show 4 + s.size + (packB ss).length - (4 + s.size) = (packB ss).length by omega, List.take_length]
    rw [e1, e2, ih (fun x hx => h x (by simp [hx]))]

end Go.Proofs.YtpkkhbmlclicfaaDoor
